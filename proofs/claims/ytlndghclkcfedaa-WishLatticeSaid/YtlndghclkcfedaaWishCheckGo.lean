/- wish.eachOnce: are all of a list numbers of some of n, none twice? wish.Check: what is wrong with wishes. -/
import Derived.Test.YtlndghclkcfedaaWordsAt
import Derived.Test.YtlndghclkcfedaaWishF
import Derived.Test.YtlndghclkcfedaaConcat
namespace Go.Proofs.Ytlndghclkcfedaa
open Go.RowKit

/-- A word says which ones there were. -/
structure EachTo (n : Nat) (ys : List Int) (s : Nat) : Prop where
  nd : ys.Nodup
  rng : ∀ x ∈ ys, 0 ≤ x ∧ x < (n : Int)
  bit : ∀ v : Nat, s.testBit v = true ↔ (v : Int) ∈ ys
theorem EachTo.next {n s v : Nat} {ys : List Int} (h : EachTo n ys s) (hv : v < n) (hb : s.testBit v = false) : EachTo n (ys ++ [(v : Int)]) (s ||| 2 ^ v) := by
  refine ⟨?_, fun x hx => ?_, fun u => ?_⟩
  · rw [List.nodup_append]
    refine ⟨h.nd, by simp, fun a ha b hb' => ?_⟩
    rw [List.mem_singleton.1 hb']
    rintro rfl
    rw [(h.bit v).2 ha] at hb; cases hb
  · rcases List.mem_append.1 hx with hx | hx
    · exact h.rng x hx
    · rw [List.mem_singleton.1 hx]; omega
  · rw [Nat.testBit_or, Nat.testBit_two_pow, Bool.or_eq_true, h.bit u, List.mem_append, List.mem_singleton, decide_eq_true_iff]
    exact or_congr Iff.rfl ⟨fun e => by omega, fun e => by omega⟩
theorem eachB_false {n k s : Nat} {xs : List Int} {x : Int} (h : EachTo n (xs.take k) s) (hx : xs[k]? = some x) (hb : x < 0 ∨ (n : Int) ≤ x ∨ ∃ v : Nat, x = (v : Int) ∧ s.testBit v = true) : eachB n xs = false := by
  rw [Bool.eq_false_iff, Ne, eachB_iff]
  rintro ⟨h1, h2⟩
  have hr := h2 x (List.mem_of_getElem? hx)
  rcases hb with hb | hb | ⟨v, rfl, hb⟩
  · omega
  · omega
  · have hm := (h.bit v).1 hb
    obtain ⟨h3, h4⟩ := List.getElem?_eq_some_iff.1 hx
    have h5 : (xs.take (k + 1)).Nodup := h1.sublist (List.take_sublist _ _)
    rw [List.take_succ_eq_append_getElem h3, h4, List.nodup_append] at h5
    exact h5.2.2 _ hm _ (List.mem_singleton.2 rfl) rfl
theorem or_lt256 {s v n : Nat} (hs : s < 256) (hv : v < n) (hn : n ≤ 8) : s ||| 2 ^ v < 256 :=
  Nat.or_lt_two_pow (n := 8) hs (Nat.pow_lt_pow_right (by decide) (by omega))

set_option maxRecDepth 100000 in
set_option maxHeartbeats 1000000 in
theorem eachOnce_any (A : Option Addr) (len cap n : Nat) (xs : List Int) (w : World) (hA : IntsAt w w.heap.size A len xs) (hl : len ≤ 9223372036854775807) (hn : n ≤ 8) :
    Calls Try.prog 26 #[.slice A len cap, .int .i64 (n : Int)] w fun e w' => e = .returned (.bool (eachB n xs)) ∧ w = w' := by
  have HA := Lib.hid hA
  clear hA
  go_enter Try.func26, Try.ntmps26
  go_wp2
  go_loop [5, 10] (fun r j => ∃ k s : Nat, k ≤ len ∧ j = .int .i64 k ∧ r = .int .u32 s ∧ s < 256 ∧ Hid (EachTo n (xs.take k) s)) (fun _ j => len - (intOf j).toNat)
  case atStart => exact ⟨0, 0, Nat.zero_le _, rfl, rfl, by omega, Lib.hid ⟨by simp, by simp, by simp⟩⟩
  case round =>
    obtain ⟨k, s, hk, rfl, rfl, hs, HE⟩ := hrel
    by_cases hlt : k < len
    · obtain ⟨b, off, x, rfl, _, hx, hc⟩ := HA.out.at_ hlt
      have ik0 : (0 : Int) ≤ (k : Int) := by omega
      have ik1 : (k : Int) < (len : Int) := by omega
      by_cases h0 : x < 0
      · have HR := Lib.hid (eachB_false HE.out hx (.inl h0))
        clear hx
        go_wp2
        go_ret
        exact ⟨ret_bool HR.out.symm, rfl⟩
      · by_cases h1 : (n : Int) ≤ x
        · have HR := Lib.hid (eachB_false HE.out hx (.inr (.inl h1)))
          clear hx
          go_wp2
          go_ret
          exact ⟨ret_bool HR.out.symm, rfl⟩
        · obtain ⟨v, rfl⟩ := Int.eq_ofNat_of_zero_le (show 0 ≤ x by omega)
          have hv : v < n := by omega
          have iv : ¬ n ≤ v := by omega
          have hv32 : (v : Int) < 32 := by omega
          have hp := Nat.pow_lt_pow_right (a := 2) (by decide) (show v < 8 by omega)
          have hpm := pow_mod v (by omega)
          have HB := shr_bit s v (by omega)
          have HO := or_u32 s (2 ^ v) (by omega) (by omega)
          have hor := or_lt256 hs hv hn
          cases hb : s.testBit v
          · rw [hb] at HB
            have HE2 : Hid (EachTo n (xs.take (k + 1)) (s ||| 2 ^ v)) := Lib.hid (by
              obtain ⟨h3, h4⟩ := List.getElem?_eq_some_iff.1 hx
              rw [List.take_succ_eq_append_getElem h3, h4]
              exact HE.out.next hv hb)
            clear hb hx
            generalize s ||| 2 ^ v = y at HO HE2 hor
            generalize 2 ^ v = p at *
            go_wp2
            go_round
            case rel => exact ⟨k + 1, y, by omega, by go_num, rfl, hor, HE2⟩
            case measure => simp [intOf]; omega
          · rw [hb] at HB
            have HR := Lib.hid (eachB_false HE.out hx (.inr (.inr ⟨v, rfl, hb⟩)))
            clear hb hx
            go_wp2
            go_ret
            exact ⟨ret_bool HR.out.symm, rfl⟩
    · obtain rfl : k = len := by omega
      have HR : Hid (eachB n xs = true) := Lib.hid (by
        have h := HE.out
        rw [List.take_of_length_le (by have := HA.out.1; omega)] at h
        exact eachB_iff.2 ⟨h.nd, h.rng⟩)
      go_wp2
      go_ret
      exact ⟨ret_bool HR.out.symm, rfl⟩
theorem eachOnce_v (A : Option Addr) (len cap n : Nat) (xs : List Int) (b : Bool) (w : World) (hA : IntsAt w w.heap.size A len xs) (hl : len ≤ 9223372036854775807) (hn : n ≤ 8) (hb : eachB n xs = b) :
    Calls Try.prog 26 #[.slice A len cap, .int .i64 (n : Int)] w fun e w' => e = .returned (.bool b) ∧ w = w' := by
  subst hb; exact eachOnce_any A len cap n xs w hA hl hn
end Go.Proofs.Ytlndghclkcfedaa
namespace Go.Proofs.Ytlndghclkcfedaa
open Go.RowKit

set_option maxRecDepth 100000 in
set_option maxHeartbeats 1000000 in
theorem wishCheck_any (A1 A2 : Option Addr) (n1 c1 n2 c2 : Nat) (Ls Rs : List (List Int)) (w : World) (S1 : SideAt w w.heap.size A1 n1 c1 Ls) (S2 : SideAt w w.heap.size A2 n2 c2 Rs) :
    Calls Try.prog 11 #[.agg #[.slice A1 n1 c1, .slice A2 n2 c2]] w fun e w' => e = .returned (.int .i64 (wishF Ls Rs)) ∧ Below w.heap.size w w' := by
  have H1 := Lib.hid S1
  have H2 := Lib.hid S2
  have e1 := S1.len
  have e2 := S2.len
  have m1 := S1.big
  have m2 := S2.big
  have m1' := S1.le
  have m2' := S2.le
  unfold maxLen at m1 m2
  have b1 : n1 ≤ 9223372036854775807 := by omega
  have b2 : n2 ≤ 9223372036854775807 := by omega
  clear S1 S2 m1 m2 m1' m2'
  by_cases h1 : 8 < n1
  · have HR : Hid (wishF Ls Rs = 1) := Lib.hid (wishF_large (.inl (by omega)))
    have hg : (n1 : Int) > 8 := by omega
    clear e1 e2
    go_enter Try.func11, Try.ntmps11
    go_wp2
    go_ret
    exact ⟨ret_int HR.out.symm, (Below.refl _ _).alloc (Nat.le_refl _) _⟩
  · have hg : ¬ ((n1 : Int) > 8) := by omega
    by_cases h2 : 8 < n2
    · have HR : Hid (wishF Ls Rs = 1) := Lib.hid (wishF_large (.inr (by omega)))
      have hg2 : (n2 : Int) > 8 := by omega
      clear e1 e2
      go_enter Try.func11, Try.ntmps11
      go_wp2
      go_ret
      exact ⟨ret_int HR.out.symm, (Below.refl _ _).alloc (Nat.le_refl _) _⟩
    · have hg2 : ¬ ((n2 : Int) > 8) := by omega
      by_cases h3 : n1 = n2
      · subst h3
        have h8 : n1 ≤ 8 := by omega
        have l1 : Ls.length ≤ 8 := by omega
        have HE : Hid (Ls.length = Rs.length) := Lib.hid (by omega)
        have HN : Hid (Ls.length = n1) := Lib.hid e1
        have HL : Hid (Ls.length ≤ 8) := Lib.hid l1
        clear e1 e2 l1 h1 h2
        go_enter Try.func11, Try.ntmps11
        go_wp2_with fail
        refine (concat_any (w.heap.size + 1) 0 n1 c1 n1 c2 A1 A2 Ls Rs _ (two_cell ..) (two_cell ..) (by rw [two_size]; omega) (H1.out.go_ (two_below ..)) (H2.out.go_ (two_below ..)) h8 h8).mono ?_
        rintro e w2 ⟨A, c, rfl, hS, hB⟩
        have HS := Lib.hid hS
        have HB : Hid (Below w.heap.size w w2) := Lib.hid ((two_below ..).trans (hB.mono (by rw [two_size]; omega)))
        clear hS hB H1 H2
        obtain ⟨m, hm⟩ : ∃ m, m = n1 + n1 := ⟨_, rfl⟩
        rw [← hm] at HS ⊢
        have hm16 : m ≤ 16 := by omega
        replace hm := Lib.hid hm
        go_wp2_with fail
        go_loop [31] (fun j => ∃ k : Nat, k ≤ m ∧ j = .int .i64 k ∧ Hid (((Ls ++ Rs).take k).all (eachB Ls.length) = true)) (fun j => m - (intOf j).toNat)
        case atStart => exact ⟨0, Nat.zero_le _, rfl, Lib.hid rfl⟩
        case round =>
          obtain ⟨k, hk, rfl, HK⟩ := hrel
          by_cases hlt : k < m
          · obtain ⟨b, off, xs, A', c', rfl, _, hx, hc, hI, hxc, hcm⟩ := HS.out.get hlt
            have ix0 : (0 : Int) ≤ (k : Int) := by omega
            have ix1 : (k : Int) < (m : Int) := by omega
            have HI := Lib.hid hI
            have hx63 : xs.length ≤ 9223372036854775807 := by unfold maxLen at hcm; omega
            have HX := Lib.hid hx
            clear hx hI hxc hcm
            cases hb : eachB n1 xs
            · have HR : Hid (wishF Ls Rs = 2) := Lib.hid (wishF_arg HL.out HE.out HX.out (by rw [HN.out]; exact hb))
              have HV := Lib.hid hb
              clear hb
              go_wp2_with fail
              refine (eachOnce_v A' xs.length c' n1 xs false _ (by exact HI.out) hx63 h8 HV.out).mono ?_
              rintro e w3 ⟨rfl, rfl⟩
              go_wp2
              go_ret
              exact ⟨ret_int HR.out.symm, HB.out⟩
            · have HK2 : Hid (((Ls ++ Rs).take (k + 1)).all (eachB Ls.length) = true) := Lib.hid (by
                obtain ⟨h3, h4⟩ := List.getElem?_eq_some_iff.1 HX.out
                rw [List.take_succ_eq_append_getElem h3, h4, List.all_append, HK.out, HN.out]
                simp [hb])
              have HV := Lib.hid hb
              clear hb
              go_wp2_with fail
              refine (eachOnce_v A' xs.length c' n1 xs true _ (by exact HI.out) hx63 h8 HV.out).mono ?_
              rintro e w3 ⟨rfl, rfl⟩
              go_wp2
              go_round
              case rel => exact ⟨k + 1, by omega, by go_num, HK2⟩
              case measure => simp [intOf]; omega
          · have HR : Hid (wishF Ls Rs = 0) := Lib.hid (by
              refine wishF_ok HL.out HE.out ?_
              have h := HK.out
              rwa [List.take_of_length_le (by rw [HS.out.len]; omega)] at h)
            go_wp2
            go_ret
            exact ⟨ret_int HR.out.symm, HB.out⟩
      · have HR : Hid (wishF Ls Rs = 3) := Lib.hid (wishF_form (by omega) (by omega) (by omega))
        have hne : ¬ ((n1 : Int) = (n2 : Int)) := by omega
        clear e1 e2
        go_enter Try.func11, Try.ntmps11
        go_wp2
        go_ret
        exact ⟨ret_int HR.out.symm, (Below.refl _ _).alloc (Nat.le_refl _) _⟩
end Go.Proofs.Ytlndghclkcfedaa
