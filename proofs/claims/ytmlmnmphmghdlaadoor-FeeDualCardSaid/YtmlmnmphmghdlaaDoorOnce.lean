/- The keepers' once: over the reference's Has. -/
import Derived.Test.YtmlmnmphmghdlaaDoorHas
namespace Go.Proofs.YtmlmnmphmghdlaaDoor
open Go.RowKit

theorem IntsAt.take_ {w : World} {B n k : Nat} {A : Option Addr} {xs : List Int} (h : IntsAt w B A n xs) (hk : k ≤ n) : IntsAt w B A k (xs.take k) :=
  ⟨by rw [List.length_take, h.1]; omega, fun hk0 => by
    obtain ⟨b, off, e, hb, hc⟩ := h.2 (by omega)
    exact ⟨b, off, e, hb, fun i x hx => hc i x (by rw [List.getElem?_take] at hx; split at hx <;> simp_all)⟩⟩

def onceB (xs : List Int) : Bool := decide xs.Nodup
set_option maxRecDepth 100000 in
set_option maxHeartbeats 400000 in
theorem once_any (A : Option Addr) (n c : Nat) (xs : List Int) (w : World) (h1 : IntsAt w w.heap.size A n xs) (hn : n ≤ 9223372036854775807) (hnc : n ≤ c) :
    Calls Tryd.prog 10 #[.slice A n c] w fun e w' => e = .returned (.bool (onceB xs)) ∧ w = w' := by
  have H1 := Lib.hid h1
  clear h1
  go_enter Tryd.func10, Tryd.ntmps10
  go_wp2
  go_loop [7] (fun j => ∃ k : Nat, k ≤ n ∧ j = .int .i64 k ∧ Hid ((xs.take k).Nodup)) (fun j => n - (intOf j).toNat)
  case atStart => exact ⟨0, Nat.zero_le _, rfl, Lib.hid (by simp)⟩
  case round =>
    obtain ⟨k, hk, rfl, HD⟩ := hrel
    by_cases hlt : k < n
    · obtain ⟨b, off, y, rfl, _, hy, hc⟩ := H1.out.at_ hlt
      have HT := Lib.hid (H1.out.take_ hk)
      by_cases hv : y ∈ xs.take k
      · have HR : Hid (onceB xs = false) := Lib.hid (by
          unfold onceB
          rw [decide_eq_false_iff_not]
          intro hnd
          obtain ⟨h2, h3⟩ := List.getElem?_eq_some_iff.1 hy
          have h4 : (xs.take (k + 1)).Nodup := hnd.sublist (List.take_sublist _ _)
          rw [List.take_succ_eq_append_getElem h2, h3, List.nodup_append] at h4
          exact h4.2.2 y hv y (List.mem_singleton.2 rfl) rfl)
        have HV := Lib.hid (hasI_iff.2 hv)
        clear hv hy
        go_wp2_with (go_at_call 17; refine (has_v k c y true _ (xs.take k) _ (by exact HT.out) (by omega) HV.out).mono ?_; rintro e w' ⟨rfl, rfl⟩)
        go_ret
        exact ⟨ret_bool HR.out.symm, rfl⟩
      · have HD2 : Hid ((xs.take (k + 1)).Nodup) := Lib.hid (by
          obtain ⟨h2, h3⟩ := List.getElem?_eq_some_iff.1 hy
          rw [List.take_succ_eq_append_getElem h2, h3, List.nodup_append]
          refine ⟨HD.out, by simp, fun a ha b hb => ?_⟩
          rw [List.mem_singleton.1 hb]
          rintro rfl
          exact hv ha)
        have HV := Lib.hid (show hasI (xs.take k) y = false by rw [Bool.eq_false_iff, Ne, hasI_iff]; exact hv)
        clear hv hy
        go_wp2_with (go_at_call 17; refine (has_v k c y false _ (xs.take k) _ (by exact HT.out) (by omega) HV.out).mono ?_; rintro e w' ⟨rfl, rfl⟩)
        go_round
        case rel => exact ⟨k + 1, by omega, by go_num, HD2⟩
        case measure => simp [intOf]; omega
    · have HR : Hid (onceB xs = true) := Lib.hid (by
        have h := HD.out
        rw [List.take_of_length_le (by have := H1.out.1; omega)] at h
        unfold onceB
        exact decide_eq_true h)
      go_wp2
      go_ret
      exact ⟨ret_bool HR.out.symm, rfl⟩
set_option maxRecDepth 100000 in
theorem once_v (A : Option Addr) (n c : Nat) (xs : List Int) (v : Bool) (w : World) (h1 : IntsAt w w.heap.size A n xs) (hn : n ≤ 9223372036854775807) (hnc : n ≤ c) (hv : onceB xs = v) :
    Calls Tryd.prog 10 #[.slice A n c] w fun e w' => e = .returned (.bool v) ∧ w = w' := by
  subst hv; exact once_any A n c xs w h1 hn hnc
end Go.Proofs.YtmlmnmphmghdlaaDoor
