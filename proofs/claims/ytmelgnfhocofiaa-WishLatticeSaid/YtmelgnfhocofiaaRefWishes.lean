/- The reference's WishesCheck: what is wrong with wishes. -/
import Derived.Test.YtmelgnfhocofiaaWishF
import Derived.Test.YtmelgnfhocofiaaHas
namespace Go.Proofs.Ytmelgnfhocofiaa
open Go.RowKit

theorem IntsAt.takeW {w : World} {B n k : Nat} {A : Option Addr} {xs : List Int} (h : IntsAt w B A n xs) (hk : k ≤ n) : IntsAt w B A k (xs.take k) :=
  ⟨by rw [List.length_take, h.1]; omega, fun hk0 => by
    obtain ⟨b, off, e, hb, hc⟩ := h.2 (by omega)
    exact ⟨b, off, e, hb, fun i x hx => hc i x (by rw [List.getElem?_take] at hx; split at hx <;> simp_all)⟩⟩
/-- All of the first k are fit. -/
def FitTo (n : Nat) (ys : List Int) : Prop := ys.Nodup ∧ ∀ x ∈ ys, 0 ≤ x ∧ x < (n : Int)
theorem fit_next {n k : Nat} {xs : List Int} {x : Int} (h : FitTo n (xs.take k)) (hx : xs[k]? = some x) (h0 : 0 ≤ x) (h1 : x < (n : Int)) (hm : x ∉ xs.take k) : FitTo n (xs.take (k + 1)) := by
  obtain ⟨h3, h4⟩ := List.getElem?_eq_some_iff.1 hx
  rw [List.take_succ_eq_append_getElem h3, h4]
  refine ⟨?_, fun y hy => ?_⟩
  · rw [List.nodup_append]
    refine ⟨h.1, by simp, fun a ha b hb => ?_⟩
    rw [List.mem_singleton.1 hb]
    rintro rfl
    exact hm ha
  · rcases List.mem_append.1 hy with hy | hy
    · exact h.2 y hy
    · rw [List.mem_singleton.1 hy]; exact ⟨h0, h1⟩
theorem fit_not {n k : Nat} {xs : List Int} {x : Int} (hx : xs[k]? = some x) (hb : x < 0 ∨ (n : Int) ≤ x ∨ x ∈ xs.take k) : eachB n xs = false := by
  rw [Bool.eq_false_iff, Ne, eachB_iff]
  rintro ⟨h1, h2⟩
  have hr := h2 x (List.mem_of_getElem? hx)
  rcases hb with hb | hb | hb
  · omega
  · omega
  · obtain ⟨h3, h4⟩ := List.getElem?_eq_some_iff.1 hx
    have h5 : (xs.take (k + 1)).Nodup := h1.sublist (List.take_sublist _ _)
    rw [List.take_succ_eq_append_getElem h3, h4, List.nodup_append] at h5
    exact h5.2.2 _ hb _ (List.mem_singleton.2 rfl) rfl
/-- The lists of the left, and those of the right. -/
def sideL (Ls Rs : List (List Int)) (t : Nat) : List (List Int) := if t = 0 then Ls else Rs
theorem side_arg {Ls Rs : List (List Int)} {t i : Nat} {xs : List Int} (h1 : Ls.length ≤ 8) (h : Ls.length = Rs.length) (hi : (sideL Ls Rs t)[i]? = some xs) (hx : eachB Ls.length xs = false) : wishF Ls Rs = 2 := by
  unfold sideL at hi
  split at hi
  · exact wishF_arg (i := i) h1 h (by rw [List.getElem?_append_left (List.getElem?_eq_some_iff.1 hi).1]; exact hi) hx
  · exact wishF_arg (i := Ls.length + i) h1 h (by rw [List.getElem?_append_right (by omega), Nat.add_sub_cancel_left]; exact hi) hx

set_option maxRecDepth 100000 in
set_option maxHeartbeats 2000000 in
theorem wishesCheck_any (A1 A2 : Option Addr) (n1 c1 n2 c2 : Nat) (Ls Rs : List (List Int)) (w : World) (S1 : SideAt w w.heap.size A1 n1 c1 Ls) (S2 : SideAt w w.heap.size A2 n2 c2 Rs) :
    Calls Try.prog 12 #[.agg #[.slice A1 n1 c1, .slice A2 n2 c2]] w fun e w' => e = .returned (.int .i64 (wishF Ls Rs)) ∧ Below w.heap.size w w' := by
  have H1 := Lib.hid S1
  have H2 := Lib.hid S2
  have e1 := S1.len
  have e2 := S2.len
  have m1 := S1.big
  have m2 := S2.big
  have m1' := S1.le
  have m2' := S2.le
  unfold maxLen at m1 m2
  have b1 : n1 ≤ 9223372036854775807 := by omega
  have b2 : n2 ≤ 9223372036854775807 := by omega
  clear S1 S2 m1 m2 m1' m2'
  by_cases h1 : 8 < n1
  · have HR : Hid (wishF Ls Rs = 1) := Lib.hid (wishF_large (.inl (by omega)))
    have hg : (n1 : Int) > 8 := by omega
    clear e1 e2
    go_enter Try.func12, Try.ntmps12
    go_wp2
    go_ret
    exact ⟨ret_int HR.out.symm, (Below.refl _ _).alloc (Nat.le_refl _) _⟩
  · have hg : ¬ ((n1 : Int) > 8) := by omega
    by_cases h2 : 8 < n2
    · have HR : Hid (wishF Ls Rs = 1) := Lib.hid (wishF_large (.inr (by omega)))
      have hg2 : (n2 : Int) > 8 := by omega
      clear e1 e2
      go_enter Try.func12, Try.ntmps12
      go_wp2
      go_ret
      exact ⟨ret_int HR.out.symm, (Below.refl _ _).alloc (Nat.le_refl _) _⟩
    · have hg2 : ¬ ((n2 : Int) > 8) := by omega
      by_cases h3 : n1 = n2
      · subst h3
        have h8 : n1 ≤ 8 := by omega
        have l1 : Ls.length ≤ 8 := by omega
        have HE : Hid (Ls.length = Rs.length) := Lib.hid (by omega)
        have HN : Hid (Ls.length = n1) := Lib.hid e1
        have HL : Hid (Ls.length ≤ 8) := Lib.hid l1
        clear e1 e2 l1 h1 h2
        have HW : Hid (((w.alloc (Obj.cells #[Value.slice A1 n1 c1, Value.slice A2 n1 c2] 24)).alloc (Obj.cells #[Value.slice A1 n1 c1, Value.slice A2 n1 c2] 22)).heap.size = w.heap.size + 2 ∧ Below w.heap.size w ((w.alloc (Obj.cells #[Value.slice A1 n1 c1, Value.slice A2 n1 c2] 24)).alloc (Obj.cells #[Value.slice A1 n1 c1, Value.slice A2 n1 c2] 22))) := Lib.hid ⟨two_size .., two_below ..⟩
        have k0 : ((w.alloc (Obj.cells #[Value.slice A1 n1 c1, Value.slice A2 n1 c2] 24)).alloc (Obj.cells #[Value.slice A1 n1 c1, Value.slice A2 n1 c2] 22)).cell? ⟨w.heap.size + 1, 0, none⟩ = some (Value.slice A1 n1 c1) := two_cell ..
        have k1 : ((w.alloc (Obj.cells #[Value.slice A1 n1 c1, Value.slice A2 n1 c2] 24)).alloc (Obj.cells #[Value.slice A1 n1 c1, Value.slice A2 n1 c2] 22)).cell? ⟨w.heap.size + 1, 1, none⟩ = some (Value.slice A2 n1 c2) := two_cell ..
        have kb : ((w.alloc (Obj.cells #[Value.slice A1 n1 c1, Value.slice A2 n1 c2] 24)).alloc (Obj.cells #[Value.slice A1 n1 c1, Value.slice A2 n1 c2] 22)).cell? ⟨w.heap.size, 0, none⟩ = some (Value.slice A1 n1 c1) := by
          rw [World.cell?_alloc_lt _ _ _ (by simp)]
          exact cell_of_row _ _ 0 _ _ (0, 0) (MapKept.heap_alloc w _).1
        go_enter Try.func12, Try.ntmps12
        go_wp2
        generalize ((w.alloc (Obj.cells #[Value.slice A1 n1 c1, Value.slice A2 n1 c2] 24)).alloc (Obj.cells #[Value.slice A1 n1 c1, Value.slice A2 n1 c2] 22)) = W1 at *
        have HS : Hid (∀ t : Nat, t < 2 → ∃ A c, W1.cell? ⟨w.heap.size + 1, t, none⟩ = some (.slice A n1 c) ∧ SideAt W1 W1.heap.size A n1 c (sideL Ls Rs t)) := Lib.hid (fun t ht => by
          rcases (show t = 0 ∨ t = 1 by omega) with rfl | rfl
          · exact ⟨A1, c1, k0, H1.out.go_ HW.out.2⟩
          · exact ⟨A2, c2, k1, H2.out.go_ HW.out.2⟩)
        clear k0 k1 H1 H2
        go_loop [32] (fun j => ∃ t : Nat, t ≤ 2 ∧ j = .int .i64 t ∧ Hid (∀ s, s < t → (sideL Ls Rs s).all (eachB Ls.length) = true)) (fun j => 2 - (intOf j).toNat)
        case atStart => exact ⟨0, Nat.zero_le _, rfl, Lib.hid fun s hs => absurd hs (by omega)⟩
        case round =>
          obtain ⟨t, ht, rfl, HT⟩ := hrel
          by_cases htl : t < 2
          · obtain ⟨A, c, hcT, hST⟩ := HS.out t htl
            have HST := Lib.hid hST
            have it0 : (0 : Int) ≤ (t : Int) := by omega
            have it1 : (t : Int) < 2 := by omega
            clear hST
            go_wp2
            go_loop [38] (fun j => ∃ i : Nat, i ≤ n1 ∧ j = .int .i64 i ∧ Hid (((sideL Ls Rs t).take i).all (eachB Ls.length) = true)) (fun j => n1 - (intOf j).toNat)
            case atStart => exact ⟨0, Nat.zero_le _, rfl, Lib.hid rfl⟩
            case round =>
              obtain ⟨i, hi, rfl, HI⟩ := hrel
              by_cases hil : i < n1
              · obtain ⟨b, off, xs, A', c', rfl, _, hx, hc, hA', hxc, hcm⟩ := HST.out.get hil
                have ii0 : (0 : Int) ≤ (i : Int) := by omega
                have ii1 : (i : Int) < (n1 : Int) := by omega
                have HA' := Lib.hid hA'
                have HX := Lib.hid hx
                have hx63 : xs.length ≤ 9223372036854775807 := by unfold maxLen at hcm; omega
                obtain ⟨m, hm⟩ : ∃ m, m = xs.length := ⟨_, rfl⟩
                rw [← hm] at hc HA' hxc hx63
                have HM := Lib.hid hm
                clear hA' hx hcm hm
                go_wp2
                go_loop [44] (fun j => ∃ k : Nat, k ≤ m ∧ j = .int .i64 k ∧ Hid (FitTo n1 (xs.take k))) (fun j => m - (intOf j).toNat)
                case atStart => exact ⟨0, Nat.zero_le _, rfl, Lib.hid ⟨by simp, by simp⟩⟩
                case round =>
                  obtain ⟨k, hk, rfl, HK⟩ := hrel
                  by_cases hkl : k < m
                  · obtain ⟨b', off', x, rfl, _, hx, hc2⟩ := HA'.out.at_ hkl
                    have ik0 : (0 : Int) ≤ (k : Int) := by omega
                    have ik1 : (k : Int) < (m : Int) := by omega
                    have HTk := Lib.hid (HA'.out.takeW hk)
                    by_cases h0 : x < 0
                    · have HR := Lib.hid (side_arg HL.out HE.out HX.out (by rw [HN.out]; exact fit_not hx (.inl h0)))
                      clear hx
                      go_wp2
                      go_ret
                      exact ⟨ret_int HR.out.symm, HW.out.2⟩
                    · by_cases h1 : (n1 : Int) ≤ x
                      · have HR := Lib.hid (side_arg HL.out HE.out HX.out (by rw [HN.out]; exact fit_not hx (.inr (.inl h1))))
                        clear hx
                        go_wp2
                        go_ret
                        exact ⟨ret_int HR.out.symm, HW.out.2⟩
                      · have h1' : ¬ (x ≥ (n1 : Int)) := by omega
                        by_cases hm : x ∈ xs.take k
                        · have HR := Lib.hid (side_arg HL.out HE.out HX.out (by rw [HN.out]; exact fit_not hx (.inr (.inr hm))))
                          have HV := Lib.hid (hasI_iff.2 hm)
                          clear hx hm
                          go_wp2_with fail
                          refine (has_v k c' x true _ (xs.take k) _ (by exact HTk.out) (by omega) HV.out).mono ?_
                          rintro e w' ⟨rfl, rfl⟩
                          go_wp2
                          go_ret
                          exact ⟨ret_int HR.out.symm, HW.out.2⟩
                        · have HV := Lib.hid (show hasI (xs.take k) x = false by rw [Bool.eq_false_iff, Ne, hasI_iff]; exact hm)
                          have HN2 : Hid (FitTo n1 (xs.take (k + 1))) := Lib.hid (fit_next HK.out hx (by omega) (by omega) hm)
                          clear hx hm
                          go_wp2_with fail
                          refine (has_v k c' x false _ (xs.take k) _ (by exact HTk.out) (by omega) HV.out).mono ?_
                          rintro e w' ⟨rfl, rfl⟩
                          go_wp2
                          go_round
                          case rel => exact ⟨k + 1, by omega, by go_num, HN2⟩
                          case measure => simp [intOf]; omega
                  · have HI2 : Hid (((sideL Ls Rs t).take (i + 1)).all (eachB Ls.length) = true) := Lib.hid (by
                      obtain ⟨h3, h4⟩ := List.getElem?_eq_some_iff.1 HX.out
                      rw [List.take_succ_eq_append_getElem h3, h4, List.all_append, HI.out, HN.out]
                      have h := HK.out
                      rw [List.take_of_length_le (by have := HM.out; omega)] at h
                      simp [eachB_iff.2 h])
                    go_wp2
                    go_round
                    case rel => exact ⟨i + 1, by omega, by go_num, HI2⟩
                    case measure => simp [intOf]; omega
              · have HT2 : Hid (∀ s, s < t + 1 → (sideL Ls Rs s).all (eachB Ls.length) = true) := Lib.hid (fun s hs => by
                  by_cases hst : s = t
                  · subst hst
                    have h := HI.out
                    rwa [List.take_of_length_le (by rw [HST.out.len]; omega)] at h
                  · exact HT.out s (by omega))
                go_wp2
                go_round
                case rel => exact ⟨t + 1, by omega, by go_num, HT2⟩
                case measure => simp [intOf]; omega
          · have HR : Hid (wishF Ls Rs = 0) := Lib.hid (by
              refine wishF_ok HL.out HE.out ?_
              rw [List.all_append, show Ls.all (eachB Ls.length) = true from HT.out 0 (by omega), show Rs.all (eachB Ls.length) = true from HT.out 1 (by omega)]; rfl)
            go_wp2
            go_ret
            exact ⟨ret_int HR.out.symm, HW.out.2⟩
      · have HR : Hid (wishF Ls Rs = 3) := Lib.hid (wishF_form (by omega) (by omega) (by omega))
        have hne : ¬ ((n1 : Int) = (n2 : Int)) := by omega
        clear e1 e2
        go_enter Try.func12, Try.ntmps12
        go_wp2
        go_ret
        exact ⟨ret_int HR.out.symm, (Below.refl _ _).alloc (Nat.le_refl _) _⟩
end Go.Proofs.Ytmelgnfhocofiaa
