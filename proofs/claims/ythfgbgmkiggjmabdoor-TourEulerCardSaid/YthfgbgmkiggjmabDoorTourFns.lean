/- The small functions that tour.Tour leans on: isOdd, slices.IndexFunc, slices.ContainsFunc, firstNode, slices.Reverse. -/
import Derived.Test.YthfgbgmkiggjmabDoorOnes
import Derived.Test.YthfgbgmkiggjmabDoorBeside
import Derived.Test.YthfgbgmkiggjmabDoorRows2
import Derived.Test.YthfgbgmkiggjmabDoorInts
import Derived.Test.YthfgbgmkiggjmabDoorOwn
namespace Go.Proofs.YthfgbgmkiggjmabDoor
open Go.RowKit

def oddW (x : Nat) : Bool := ones x % 2 == 1
def someW (x : Nat) : Bool := !(x == 0)

set_option maxRecDepth 100000 in
set_option maxHeartbeats 400000 in
theorem isOdd_any (x : Nat) (w : World) (hx : x < 1024) :
    Calls Tryd.prog 47 #[.int .u32 x] w fun e w' => e = .returned (.bool (oddW x)) ∧ ∃ k, w' = w.drewN k := by
  have hle := ones_le x
  have HO : Hid (((ones x : Int) % 2 == 1) = oddW x) := Lib.hid (by unfold oddW; rw [Bool.eq_iff_iff]; simp; omega)
  go_enter Tryd.func47, Tryd.ntmps47
  go_wp2_with (go_at_call 72; refine (ones_any x _ hx).mono ?_; rintro e w1 ⟨rfl, q, rfl⟩)
  go_ret
  exact ⟨ret_bool HO.out, q, rfl⟩
set_option maxRecDepth 100000 in
theorem someW_any (x : Nat) (w : World) :
    Calls Tryd.prog 73 #[.int .u32 x] w fun e w' => e = .returned (.bool (someW x)) ∧ ∃ k, w' = w.drewN k := by
  have HO : Hid (((x : Int) != 0) = someW x) := Lib.hid (by unfold someW; rw [Bool.eq_iff_iff]; simp)
  go_enter Tryd.func73, Tryd.ntmps73
  go_wp2
  go_ret
  exact ⟨ret_bool HO.out, 0, rfl⟩

/-- The first place at which a test is met, -1 if at none. -/
def idxL (p : Nat → Bool) (xs : List Nat) : Int := match xs.findIdx? p with | some i => (i : Int) | none => -1
theorem idxL_take {p : Nat → Bool} {xs : List Nat} {k x : Nat} (h : ∀ y ∈ xs.take k, p y = false) (hx : xs[k]? = some x) (hp : p x = true) : idxL p xs = k := by
  have : xs.findIdx? p = some k := by
    rw [List.findIdx?_eq_some_iff_getElem]
    obtain ⟨hk, rfl⟩ := List.getElem?_eq_some_iff.1 hx
    refine ⟨hk, hp, fun j hj => ?_⟩
    have := h xs[j] (List.mem_of_getElem? (i := j) (by rw [List.getElem?_take, if_pos hj, List.getElem?_eq_getElem]))
    simpa using this
  unfold idxL
  rw [this]
theorem idxL_none {p : Nat → Bool} {xs : List Nat} (h : ∀ y ∈ xs, p y = false) : idxL p xs = -1 := by
  have : xs.findIdx? p = none := by rw [List.findIdx?_eq_none_iff]; exact h
  unfold idxL
  rw [this]

set_option maxRecDepth 100000 in
set_option maxHeartbeats 1000000 in
theorem indexFunc_odd (n cap : Nat) (A : Option Addr) (xs : List Nat) (w : World) (hA : WordsAt w w.heap.size A n xs) (hn : n ≤ 10) (hl : ∀ x ∈ xs, x < 1024) :
    Calls Tryd.prog 63 #[.slice A n cap, .func (.func 47) #[] #[]] w fun e w' => e = .returned (.int .i64 (idxL oddW xs)) ∧ ∃ k, w' = w.drewN k := by
  have HA := Lib.hid hA
  have HL := Lib.hid hl
  clear hA hl
  go_enter Tryd.func63, Tryd.ntmps63
  go_wp2
  go_loopw [8] (fun j wr => ∃ k q : Nat, k ≤ n ∧ j = .int .i64 k ∧ Hid (wr = w.drewN q) ∧ Hid (∀ y ∈ xs.take k, oddW y = false)) (fun j _ => n - (intOf j).toNat)
  case atStart => exact ⟨0, 0, Nat.zero_le _, rfl, Lib.hid rfl, Lib.hid (by simp)⟩
  case round =>
    obtain ⟨k, q, hk, rfl, HW, HP⟩ := hrel
    by_cases hlt : k < n
    · obtain ⟨b, off, rfl, _, hc⟩ := HA.out.at_ hlt
      obtain ⟨x, hx⟩ : ∃ x, xs[k]? = some x := ⟨_, List.getElem?_eq_getElem (by have := HA.out.1; omega)⟩
      rw [List.getD_eq_getElem?_getD, hx, Option.getD_some] at hc
      have hc' : wr.cell? ⟨b, off + k, none⟩ = some (.int .u32 x) := by rw [HW.out]; exact hc
      have HX := Lib.hid hx
      have hkn : (k : Int) < (n : Int) := by omega
      have hx10 := HL.out x (List.mem_of_getElem? hx)
      clear hx hc
      cases hpx : oddW x with
      | false =>
        have HPx := Lib.hid hpx
        clear hpx
        go_wp2_with (go_at_call 47; refine ((isOdd_any x _ hx10).mono (R' := fun e w' => e = .returned (.bool false) ∧ ∃ k, w' = wr.drewN k) (fun e w' h => ⟨by rw [h.1, HPx.out], h.2⟩)).mono ?_; rintro e w1 ⟨rfl, q1, rfl⟩)
        go_roundw
        case rel =>
          refine ⟨k + 1, _, by omega, by go_num, Lib.hid (by rw [HW.out, World.drewN_drewN]), Lib.hid fun y hy => ?_⟩
          obtain ⟨h1, h2⟩ := List.getElem?_eq_some_iff.1 HX.out
          rw [List.take_succ_eq_append_getElem h1, h2, List.mem_append] at hy
          rcases hy with hy | hy
          · exact HP.out y hy
          · simp at hy; subst hy; exact HPx.out
        case measure => simp [intOf]; omega
      | true =>
        have HPx := Lib.hid hpx
        clear hpx
        go_wp2_with (go_at_call 47; refine ((isOdd_any x _ hx10).mono (R' := fun e w' => e = .returned (.bool true) ∧ ∃ k, w' = wr.drewN k) (fun e w' h => ⟨by rw [h.1, HPx.out], h.2⟩)).mono ?_; rintro e w1 ⟨rfl, q1, rfl⟩)
        go_ret
        exact ⟨ret_int (idxL_take HP.out HX.out HPx.out).symm, _, by rw [HW.out, World.drewN_drewN]⟩
    · have HI : Hid (idxL oddW xs = -1) := Lib.hid (idxL_none (by have := HP.out; rwa [List.take_of_length_le (by have := HA.out.1; omega)] at this))
      go_wp2
      go_ret
      exact ⟨ret_int HI.out.symm, q, HW.out⟩
set_option maxRecDepth 100000 in
set_option maxHeartbeats 1000000 in
theorem indexFunc_some (n cap : Nat) (A : Option Addr) (xs : List Nat) (w : World) (hA : WordsAt w w.heap.size A n xs) (hn : n ≤ 10) :
    Calls Tryd.prog 63 #[.slice A n cap, .func (.func 73) #[] #[]] w fun e w' => e = .returned (.int .i64 (idxL someW xs)) ∧ ∃ k, w' = w.drewN k := by
  have HA := Lib.hid hA
  clear hA
  go_enter Tryd.func63, Tryd.ntmps63
  go_wp2
  go_loopw [8] (fun j wr => ∃ k q : Nat, k ≤ n ∧ j = .int .i64 k ∧ Hid (wr = w.drewN q) ∧ Hid (∀ y ∈ xs.take k, someW y = false)) (fun j _ => n - (intOf j).toNat)
  case atStart => exact ⟨0, 0, Nat.zero_le _, rfl, Lib.hid rfl, Lib.hid (by simp)⟩
  case round =>
    obtain ⟨k, q, hk, rfl, HW, HP⟩ := hrel
    by_cases hlt : k < n
    · obtain ⟨b, off, rfl, _, hc⟩ := HA.out.at_ hlt
      obtain ⟨x, hx⟩ : ∃ x, xs[k]? = some x := ⟨_, List.getElem?_eq_getElem (by have := HA.out.1; omega)⟩
      rw [List.getD_eq_getElem?_getD, hx, Option.getD_some] at hc
      have hc' : wr.cell? ⟨b, off + k, none⟩ = some (.int .u32 x) := by rw [HW.out]; exact hc
      have HX := Lib.hid hx
      have hkn : (k : Int) < (n : Int) := by omega
      clear hx hc
      cases hpx : someW x with
      | false =>
        have HPx := Lib.hid hpx
        clear hpx
        go_wp2_with (go_at_call 73; refine ((someW_any x _).mono (R' := fun e w' => e = .returned (.bool false) ∧ ∃ k, w' = wr.drewN k) (fun e w' h => ⟨by rw [h.1, HPx.out], h.2⟩)).mono ?_; rintro e w1 ⟨rfl, q1, rfl⟩)
        go_roundw
        case rel =>
          refine ⟨k + 1, _, by omega, by go_num, Lib.hid (by rw [HW.out, World.drewN_drewN]), Lib.hid fun y hy => ?_⟩
          obtain ⟨h1, h2⟩ := List.getElem?_eq_some_iff.1 HX.out
          rw [List.take_succ_eq_append_getElem h1, h2, List.mem_append] at hy
          rcases hy with hy | hy
          · exact HP.out y hy
          · simp at hy; subst hy; exact HPx.out
        case measure => simp [intOf]; omega
      | true =>
        have HPx := Lib.hid hpx
        clear hpx
        go_wp2_with (go_at_call 73; refine ((someW_any x _).mono (R' := fun e w' => e = .returned (.bool true) ∧ ∃ k, w' = wr.drewN k) (fun e w' h => ⟨by rw [h.1, HPx.out], h.2⟩)).mono ?_; rintro e w1 ⟨rfl, q1, rfl⟩)
        go_ret
        exact ⟨ret_int (idxL_take HP.out HX.out HPx.out).symm, _, by rw [HW.out, World.drewN_drewN]⟩
    · have HI : Hid (idxL someW xs = -1) := Lib.hid (idxL_none (by have := HP.out; rwa [List.take_of_length_le (by have := HA.out.1; omega)] at this))
      go_wp2
      go_ret
      exact ⟨ret_int HI.out.symm, q, HW.out⟩

theorem idxL_ge (p : Nat → Bool) (xs : List Nat) : decide (0 ≤ idxL p xs) = xs.any p := by
  unfold idxL
  cases h : xs.findIdx? p with
  | none =>
    rw [List.findIdx?_eq_none_iff] at h
    simp only [show ¬ (0 : Int) ≤ -1 by decide, decide_false]
    symm
    rw [Bool.eq_false_iff]
    intro ha
    rw [List.any_eq_true] at ha
    obtain ⟨x, hx, hp⟩ := ha
    rw [h x hx] at hp
    cases hp
  | some i =>
    rw [List.findIdx?_eq_some_iff_getElem] at h
    obtain ⟨hi, hp, _⟩ := h
    simp only [show (0 : Int) ≤ (i : Int) by omega, decide_true]
    symm
    rw [List.any_eq_true]
    exact ⟨_, List.getElem_mem hi, hp⟩

set_option maxRecDepth 100000 in
set_option maxHeartbeats 400000 in
theorem containsOdd (n cap : Nat) (A : Option Addr) (xs : List Nat) (v : Bool) (w : World) (hA : WordsAt w w.heap.size A n xs) (hn : n ≤ 10) (hl : ∀ x ∈ xs, x < 1024) (hv : xs.any oddW = v) :
    Calls Tryd.prog 46 #[.slice A n cap, .func (.func 47) #[] #[]] w fun e w' => e = .returned (.bool v) ∧ ∃ k, w' = w.drewN k := by
  have HA := Lib.hid hA
  have HL := Lib.hid hl
  have HV : Hid (decide (0 ≤ idxL oddW xs) = v) := Lib.hid (by rw [idxL_ge, hv])
  clear hA hl hv
  go_enter Tryd.func46, Tryd.ntmps46
  go_wp2_with (go_at_call 63; refine (indexFunc_odd n cap A xs _ HA.out hn HL.out).mono ?_; rintro e w1 ⟨rfl, q, rfl⟩)
  go_ret
  exact ⟨ret_bool HV.out, q, rfl⟩

/-- The least place that is not nothing, or 0. -/
def firstL (xs : List Nat) : Nat := (idxL someW xs).toNat
set_option maxRecDepth 100000 in
set_option maxHeartbeats 400000 in
theorem firstNode_any (n cap : Nat) (A : Option Addr) (xs : List Nat) (w : World) (hA : WordsAt w w.heap.size A n xs) (hn : n ≤ 10) :
    Calls Tryd.prog 49 #[.slice A n cap] w fun e w' => e = .returned (.int .i64 (firstL xs)) ∧ ∃ k, w' = w.drewN k := by
  have HA := Lib.hid hA
  have HV : Hid (max 0 (idxL someW xs) = (firstL xs : Int)) := Lib.hid (by unfold firstL; omega)
  clear hA
  go_enter Tryd.func49, Tryd.ntmps49
  go_wp2_with (go_at_call 63; refine (indexFunc_some n cap A xs _ HA.out hn).mono ?_; rintro e w1 ⟨rfl, q, rfl⟩)
  all_goals
    go_ret
    exact ⟨ret_int (by have := HV.out; omega), q, rfl⟩
end Go.Proofs.YthfgbgmkiggjmabDoor
