/- slices.Index of a row of integers, where the number is there. -/
import Derived.Test.YthfgbgmkiggjmabDoorHas
namespace Go.Proofs.YthfgbgmkiggjmabDoor
open Go.RowKit

set_option maxRecDepth 100000 in
set_option maxHeartbeats 400000 in
theorem index_any (n cap k : Nat) (v : Int) (A : Option Addr) (xs : List Int) (w : World) (hA : IntsAt w w.heap.size A n xs) (hn : n ≤ 4000000000) (hk : xs[k]? = some v) (hlt : ∀ j, j < k → xs[j]? ≠ some v) :
    Calls Tryd.prog 80 #[.slice A n cap, .int .i64 v] w fun e w' => e = .returned (.int .i64 k) ∧ w = w' := by
  have HA := Lib.hid hA
  have HK := Lib.hid hk
  have HL := Lib.hid hlt
  have hkn : k < n := by have := (List.getElem?_eq_some_iff.1 hk).1; have := hA.1; omega
  clear hA hk hlt
  go_enter Tryd.func80, Tryd.ntmps80
  go_wp2
  go_loop [8] (fun j => ∃ i : Nat, i ≤ k ∧ j = .int .i64 i) (fun j => n - (intOf j).toNat)
  case atStart => exact ⟨0, Nat.zero_le _, rfl⟩
  case round =>
    obtain ⟨i, hi, rfl⟩ := hrel
    have hin : i < n := by omega
    obtain ⟨b, off, x, rfl, _, hx, hc⟩ := HA.out.at_ hin
    have ix0 : (0 : Int) ≤ (i : Int) := by omega
    have ix1 : (i : Int) < (n : Int) := by omega
    by_cases hik : i = k
    · subst hik
      obtain rfl : x = v := by have := HK.out; rw [hx] at this; injection this
      clear hx
      go_wp2
      go_ret
      exact ⟨rfl, rfl⟩
    · have hne : (v == x) = false := by
        have := HL.out i (by omega)
        rw [hx] at this
        simp only [beq_eq_false_iff_ne]
        intro e
        exact this (by rw [e])
      have hne2 : ¬ v = x := by simpa using hne
      clear hx
      go_wp2
      go_round
      case rel => exact ⟨i + 1, by omega, by go_num⟩
      case measure => simp [intOf]; omega
end Go.Proofs.YthfgbgmkiggjmabDoor
