/- sides.Sides: what it tells of every graph. -/
import Derived.Test.YthfgbgmkiggjmabDoorSideV
import Derived.Test.YthfgbgmkiggjmabDoorDist
import Derived.Test.YthfgbgmkiggjmabDoorBfs
import Derived.RegionTactic
import Derived.BigRegion
import Derived.Deep.RegionWith
import Derived.Deep.QuietTactic
import Derived.BigQuiet
namespace Go.Proofs.YthfgbgmkiggjmabDoor
open Go.RowKit

/-- A row of the table of distances. -/
theorem MatAt.dist {w : World} {g m : Nat} {es : List E3} (h : MatAt w g m (distM m (nbL m es))) (hm : m ≤ 10) (hg : goodE m es) {a : Nat} (ha : a < m) :
    ∃ b, w.cell? ⟨g, a, none⟩ = some (.slice (some ⟨b, 0, none⟩) m m) ∧ b < w.heap.size ∧ ∀ j, j < m → w.cell? ⟨b, j, none⟩ = some (.int .i64 (distI (adjE es) a j)) := by
  obtain ⟨gs, h1, h2, h3⟩ := h
  rw [distM_length] at h1
  have hi : a < gs.length := by omega
  have hr : (distM m (nbL m es))[a]? = some (distRow m (nbL m es) a) := by simp [distM, ha]
  obtain ⟨q1, q2, q3⟩ := h3 a gs[a] _ (List.getElem?_eq_getElem hi) hr
  refine ⟨gs[a], ?_, q2.lt, fun j hj => ?_⟩
  · rw [h2.cell (by rw [List.getElem?_map, List.getElem?_eq_getElem hi]; rfl)]; rfl
  · exact q2.cell (by rw [List.getElem?_map, distRow_get hm hg ha hj]; rfl)

/-! The closures. -/
set_option maxRecDepth 100000 in
theorem far_any (z : Int) (w : World) : Calls Tryd.prog 57 #[.int .i64 z] w fun e w' => e = .returned (.bool (decide (0 ≤ z))) ∧ w = w' := by
  go_enter Tryd.func57, Tryd.ntmps57
  go_wp2
  go_ret
  exact ⟨rfl, rfl⟩
set_option maxRecDepth 100000 in
set_option maxHeartbeats 400000 in
theorem indexFar (n cap k : Nat) (A : Option Addr) (xs : List Int) (w : World) (hA : IntsAt w w.heap.size A n xs) (hn : n ≤ 10) (hk : k < n) (h1 : ∀ x, xs[k]? = some x → 0 ≤ x) (h0 : ∀ j x, j < k → xs[j]? = some x → x < 0) :
    Calls Tryd.prog 56 #[.slice A n cap, .func (.func 57) #[] #[]] w fun e w' => e = .returned (.int .i64 k) ∧ w = w' := by
  have HA := Lib.hid hA
  have H1 := Lib.hid h1
  have H0 := Lib.hid h0
  clear hA h1 h0
  go_enter Tryd.func56, Tryd.ntmps56
  go_wp2
  go_loop [8] (fun j => ∃ i : Nat, i ≤ k ∧ j = .int .i64 i) (fun j => n - (intOf j).toNat)
  case atStart => exact ⟨0, Nat.zero_le _, rfl⟩
  case round =>
    obtain ⟨i, hi, rfl⟩ := hrel
    have hin : i < n := by omega
    obtain ⟨b, off, x, rfl, _, hx, hc⟩ := HA.out.at_ hin
    have ix0 : (0 : Int) ≤ (i : Int) := by omega
    have ix1 : (i : Int) < (n : Int) := by omega
    by_cases hik : i = k
    · subst hik
      have hd : decide (0 ≤ x) = true := by simpa using H1.out x hx
      clear hx
      go_wp2_with (go_at_call 57; refine ((far_any x _).mono (R' := fun e w' => e = .returned (.bool true) ∧ w = w') (fun e w' h => ⟨by rw [h.1, hd], h.2⟩)).mono ?_; rintro e w1 ⟨rfl, rfl⟩)
      go_ret
      exact ⟨rfl, rfl⟩
    · have hd : decide (0 ≤ x) = false := by have := H0.out i x (by omega) hx; simp; omega
      clear hx
      go_wp2_with (go_at_call 57; refine ((far_any x _).mono (R' := fun e w' => e = .returned (.bool false) ∧ w = w') (fun e w' h => ⟨by rw [h.1, hd], h.2⟩)).mono ?_; rintro e w1 ⟨rfl, rfl⟩)
      go_round
      case rel => exact ⟨i + 1, by omega, by go_num⟩
      case measure => simp [intOf]; omega
set_option maxRecDepth 100000 in
set_option maxHeartbeats 400000 in
theorem firstOf_any (m k b B g : Nat) (es : List E3) (w : World) (hm : m ≤ 10) (hg : goodE m es) (hk : k < m) (h0 : w.cell? ⟨B, 0, none⟩ = some (.slice (some ⟨g, 0, none⟩) m m)) (h1 : w.cell? ⟨g, k, none⟩ = some (.slice (some ⟨b, 0, none⟩) m m)) (hb : b < w.heap.size) (h2 : ∀ j, j < m → w.cell? ⟨b, j, none⟩ = some (.int .i64 (distI (adjE es) k j))) :
    Calls Tryd.prog 55 #[.int .i64 k, .pointer (some ⟨B, 0, none⟩)] w fun e w' => e = .returned (.int .i64 (partN m es k)) ∧ w = w' := by
  have HI : Hid (IntsAt w w.heap.size (some ⟨b, 0, none⟩) m ((List.range m).map fun j => distI (adjE es) k j)) := Lib.hid ⟨by simp, fun _ => ⟨b, 0, rfl, hb, fun i x hx => by
    obtain ⟨h3, h4⟩ := List.getElem?_eq_some_iff.1 hx
    simp at h3 h4
    rw [Nat.zero_add, h2 i h3, h4]⟩⟩
  have HP : Hid (partN m es k < m) := Lib.hid (Rch.lt hg hk (partN_rch hm hg hk))
  have HF : Hid (∀ x, ((List.range m).map fun j => distI (adjE es) k j)[partN m es k]? = some x → 0 ≤ x) := Lib.hid fun x hx => by
    obtain ⟨h3, h4⟩ := List.getElem?_eq_some_iff.1 hx
    simp at h3 h4
    rw [← h4]
    exact distI_nonneg.2 (partN_rch hm hg hk)
  have HL : Hid (∀ j x, j < partN m es k → ((List.range m).map fun j => distI (adjE es) k j)[j]? = some x → x < 0) := Lib.hid fun j x hj hx => by
    obtain ⟨h3, h4⟩ := List.getElem?_eq_some_iff.1 hx
    simp at h3 h4
    rw [← h4]
    apply Classical.byContradiction
    intro hn
    have hr : Rch es k j := distI_nonneg.1 (by omega)
    have := partN_least hm hg hk hr
    omega
  have hk0 : (0 : Int) ≤ (k : Int) := by omega
  have hkm : (k : Int) < (m : Int) := by omega
  clear h2 hg
  go_enter Tryd.func55, Tryd.ntmps55
  go_wp2_with (go_at_call 56; refine (indexFar m m (partN m es k) (some ⟨b, 0, none⟩) _ _ (by exact HI.out) hm HP.out HF.out HL.out).mono ?_; rintro e w1 ⟨rfl, rfl⟩)
  go_ret
  exact ⟨rfl, rfl⟩
end Go.Proofs.YthfgbgmkiggjmabDoor
