/- wish.eachOnce: are all of a list numbers of some of n, none twice? wish.Check: what is wrong with wishes. -/
import Derived.Test.YtmelgnfhocofiaaOnceGo
import Derived.Test.YtmelgnfhocofiaaWishF
import Derived.Test.YtmelgnfhocofiaaConcat
namespace Go.Proofs.Ytmelgnfhocofiaa
open Go.RowKit


set_option maxRecDepth 100000 in
set_option maxHeartbeats 1000000 in
theorem wishCheck_any (A1 A2 : Option Addr) (n1 c1 n2 c2 : Nat) (Ls Rs : List (List Int)) (w : World) (S1 : SideAt w w.heap.size A1 n1 c1 Ls) (S2 : SideAt w w.heap.size A2 n2 c2 Rs) :
    Calls Try.prog 11 #[.agg #[.slice A1 n1 c1, .slice A2 n2 c2]] w fun e w' => e = .returned (.int .i64 (wishF Ls Rs)) ∧ Below w.heap.size w w' := by
  have H1 := Lib.hid S1
  have H2 := Lib.hid S2
  have e1 := S1.len
  have e2 := S2.len
  have m1 := S1.big
  have m2 := S2.big
  have m1' := S1.le
  have m2' := S2.le
  unfold maxLen at m1 m2
  have b1 : n1 ≤ 9223372036854775807 := by omega
  have b2 : n2 ≤ 9223372036854775807 := by omega
  clear S1 S2 m1 m2 m1' m2'
  by_cases h1 : 8 < n1
  · have HR : Hid (wishF Ls Rs = 1) := Lib.hid (wishF_large (.inl (by omega)))
    have hg : (n1 : Int) > 8 := by omega
    clear e1 e2
    go_enter Try.func11, Try.ntmps11
    go_wp2
    go_ret
    exact ⟨ret_int HR.out.symm, (Below.refl _ _).alloc (Nat.le_refl _) _⟩
  · have hg : ¬ ((n1 : Int) > 8) := by omega
    by_cases h2 : 8 < n2
    · have HR : Hid (wishF Ls Rs = 1) := Lib.hid (wishF_large (.inr (by omega)))
      have hg2 : (n2 : Int) > 8 := by omega
      clear e1 e2
      go_enter Try.func11, Try.ntmps11
      go_wp2
      go_ret
      exact ⟨ret_int HR.out.symm, (Below.refl _ _).alloc (Nat.le_refl _) _⟩
    · have hg2 : ¬ ((n2 : Int) > 8) := by omega
      by_cases h3 : n1 = n2
      · subst h3
        have h8 : n1 ≤ 8 := by omega
        have l1 : Ls.length ≤ 8 := by omega
        have HE : Hid (Ls.length = Rs.length) := Lib.hid (by omega)
        have HN : Hid (Ls.length = n1) := Lib.hid e1
        have HL : Hid (Ls.length ≤ 8) := Lib.hid l1
        clear e1 e2 l1 h1 h2
        go_enter Try.func11, Try.ntmps11
        go_wp2_with fail
        refine (concat_any (w.heap.size + 1) 0 n1 c1 n1 c2 A1 A2 Ls Rs _ (two_cell ..) (two_cell ..) (by rw [two_size]; omega) (H1.out.go_ (two_below ..)) (H2.out.go_ (two_below ..)) h8 h8).mono ?_
        rintro e w2 ⟨A, c, rfl, hS, hB⟩
        have HS := Lib.hid hS
        have HB : Hid (Below w.heap.size w w2) := Lib.hid ((two_below ..).trans (hB.mono (by rw [two_size]; omega)))
        clear hS hB H1 H2
        obtain ⟨m, hm⟩ : ∃ m, m = n1 + n1 := ⟨_, rfl⟩
        rw [← hm] at HS ⊢
        have hm16 : m ≤ 16 := by omega
        replace hm := Lib.hid hm
        go_wp2_with fail
        go_loop [31] (fun j => ∃ k : Nat, k ≤ m ∧ j = .int .i64 k ∧ Hid (((Ls ++ Rs).take k).all (eachB Ls.length) = true)) (fun j => m - (intOf j).toNat)
        case atStart => exact ⟨0, Nat.zero_le _, rfl, Lib.hid rfl⟩
        case round =>
          obtain ⟨k, hk, rfl, HK⟩ := hrel
          by_cases hlt : k < m
          · obtain ⟨b, off, xs, A', c', rfl, _, hx, hc, hI, hxc, hcm⟩ := HS.out.get hlt
            have ix0 : (0 : Int) ≤ (k : Int) := by omega
            have ix1 : (k : Int) < (m : Int) := by omega
            have HI := Lib.hid hI
            have hx63 : xs.length ≤ 9223372036854775807 := by unfold maxLen at hcm; omega
            have HX := Lib.hid hx
            clear hx hI hxc hcm
            cases hb : eachB n1 xs
            · have HR : Hid (wishF Ls Rs = 2) := Lib.hid (wishF_arg HL.out HE.out HX.out (by rw [HN.out]; exact hb))
              have HV := Lib.hid hb
              clear hb
              go_wp2_with fail
              refine (eachOnce_v A' xs.length c' n1 xs false _ (by exact HI.out) hx63 (by omega) HV.out).mono ?_
              rintro e w3 ⟨rfl, rfl⟩
              go_wp2
              go_ret
              exact ⟨ret_int HR.out.symm, HB.out⟩
            · have HK2 : Hid (((Ls ++ Rs).take (k + 1)).all (eachB Ls.length) = true) := Lib.hid (by
                obtain ⟨h3, h4⟩ := List.getElem?_eq_some_iff.1 HX.out
                rw [List.take_succ_eq_append_getElem h3, h4, List.all_append, HK.out, HN.out]
                simp [hb])
              have HV := Lib.hid hb
              clear hb
              go_wp2_with fail
              refine (eachOnce_v A' xs.length c' n1 xs true _ (by exact HI.out) hx63 (by omega) HV.out).mono ?_
              rintro e w3 ⟨rfl, rfl⟩
              go_wp2
              go_round
              case rel => exact ⟨k + 1, by omega, by go_num, HK2⟩
              case measure => simp [intOf]; omega
          · have HR : Hid (wishF Ls Rs = 0) := Lib.hid (by
              refine wishF_ok HL.out HE.out ?_
              have h := HK.out
              rwa [List.take_of_length_le (by rw [HS.out.len]; omega)] at h)
            go_wp2
            go_ret
            exact ⟨ret_int HR.out.symm, HB.out⟩
      · have HR : Hid (wishF Ls Rs = 3) := Lib.hid (wishF_form (by omega) (by omega) (by omega))
        have hne : ¬ ((n1 : Int) = (n2 : Int)) := by omega
        clear e1 e2
        go_enter Try.func11, Try.ntmps11
        go_wp2
        go_ret
        exact ⟨ret_int HR.out.symm, (Below.refl _ _).alloc (Nat.le_refl _) _⟩
end Go.Proofs.Ytmelgnfhocofiaa
