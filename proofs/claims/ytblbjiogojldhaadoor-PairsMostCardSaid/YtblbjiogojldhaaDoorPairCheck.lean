/- What may be wrong with the words: pairs.check, the reference's PairsCheck. -/
import Derived.Test.YtblbjiogojldhaaDoorWordsAt
import Derived.Test.YtblbjiogojldhaaDoorPairW
namespace Go.Proofs.YtblbjiogojldhaaDoor
open Go.RowKit

def bigW (x : Nat) : Bool := decide (256 ≤ x)
def pcheck (xs : List Nat) : Int := if 8 < xs.length then 1 else if xs.any bigW = true then 2 else 0
theorem pcheck_large {xs : List Nat} (h : 8 < xs.length) : pcheck xs = 1 := if_pos h
theorem pcheck_arg {xs : List Nat} (h : xs.length ≤ 8) {i : Nat} (hi : i < xs.length) (hx : 256 ≤ xs.getD i 0) : pcheck xs = 2 := by
  unfold pcheck
  rw [if_neg (by omega), if_pos]
  rw [List.any_eq_true]
  refine ⟨xs.getD i 0, ?_, by simpa [bigW] using hx⟩
  rw [List.getD_eq_getElem?_getD, List.getElem?_eq_getElem hi]
  exact List.getElem_mem _
theorem pcheck_ok {xs : List Nat} (h : xs.length ≤ 8) (hx : ∀ i, i < xs.length → xs.getD i 0 < 256) : pcheck xs = 0 := by
  unfold pcheck
  rw [if_neg (by omega), if_neg]
  rw [List.any_eq_true]
  rintro ⟨x, hm, hb⟩
  obtain ⟨i, hi⟩ := List.getElem?_of_mem hm
  have hl := (List.getElem?_eq_some_iff.1 hi).1
  have := hx i hl
  rw [List.getD_eq_getElem?_getD, hi] at this
  simp [bigW] at hb
  simp at this
  omega
theorem of_pcheck {xs : List Nat} (h : pcheck xs = 0) : xs.length ≤ 8 ∧ W8 xs := by
  unfold pcheck at h
  split at h
  · omega
  · split at h
    · omega
    · rename_i h1 h2
      refine ⟨by omega, fun x hx => ?_⟩
      rcases Nat.lt_or_ge x 256 with h3 | h3
      · exact h3
      · exact absurd (List.any_eq_true.2 ⟨x, hx, by simpa [bigW] using h3⟩) h2

set_option maxRecDepth 100000 in
set_option maxHeartbeats 1000000 in
theorem check_any (len cap : Nat) (A : Option Addr) (xs : List Nat) (w : World) (hA : WordsAt w w.heap.size A len xs) (hm : len ≤ maxLen) (hx : ∀ x ∈ xs, x < 4294967296) :
    Calls Tryd.prog 19 #[.slice A len cap] w fun e w' => e = .returned (.int .i64 (pcheck xs)) ∧ w = w' := by
  unfold maxLen at hm
  have HA := Lib.hid hA
  have HL : Hid (xs.length = len) := Lib.hid hA.1
  have HX := Lib.hid hx
  clear hA hx
  by_cases h8 : 8 < len
  · have HR : Hid (pcheck xs = 1) := Lib.hid (pcheck_large (by rw [HL.out]; exact h8))
    go_enter Tryd.func19, Tryd.ntmps19
    go_wp2
    go_ret
    exact ⟨ret_int HR.out.symm, rfl⟩
  · go_enter Tryd.func19, Tryd.ntmps19
    go_wp2
    go_loop [10] (fun j => ∃ k : Nat, k ≤ len ∧ j = .int .i64 k ∧ Hid (∀ i, i < k → xs.getD i 0 < 256)) (fun j => len - (intOf j).toNat)
    case atStart => exact ⟨0, Nat.zero_le _, rfl, Lib.hid fun i hi => by omega⟩
    case round =>
      obtain ⟨k, hk, rfl, HK⟩ := hrel
      by_cases hlt : k < len
      · obtain ⟨b, off, rfl, _, hc⟩ := HA.out.at_ hlt
        have ik0 : (0 : Int) ≤ (k : Int) := by omega
        have ik1 : (k : Int) < (len : Int) := by omega
        have HB : Hid (xs.getD k 0 < 256 → ∀ i, i < k + 1 → xs.getD i 0 < 256) := Lib.hid fun h i hi => by
          rcases Nat.lt_or_ge i k with h1 | h1
          · exact HK.out i h1
          · obtain rfl : i = k := by omega
            exact h
        have HE : Hid (256 ≤ xs.getD k 0 → pcheck xs = 2) := Lib.hid fun h => pcheck_arg (by have := HL.out; omega) (by have := HL.out; omega) h
        clear HK
        generalize xs.getD k 0 = x at hc HB HE
        by_cases hxb : x < 256
        · have HN := Lib.hid (HB.out hxb)
          have hd : ((x : Int) / 256 != 0) = false := by
            rw [show (x : Int) / 256 = 0 by omega]; rfl
          clear HB HE
          go_wp2
          go_round
          case rel => exact ⟨k + 1, by omega, by go_num, HN⟩
          case measure => simp [intOf]; omega
        · have HN := Lib.hid (HE.out (by omega))
          have hd : ((x : Int) / 256 != 0) = true := by
            have : (x : Int) / 256 ≠ 0 := by omega
            simpa using this
          clear HB HE
          go_wp2
          go_ret
          exact ⟨ret_int HN.out.symm, rfl⟩
      · have HR : Hid (pcheck xs = 0) := Lib.hid (pcheck_ok (by have := HL.out; omega) fun i hi => HK.out i (by have := HL.out; omega))
        go_wp2
        go_ret
        exact ⟨ret_int HR.out.symm, rfl⟩

set_option maxRecDepth 100000 in
set_option maxHeartbeats 1000000 in
theorem refCheckP_any (len cap : Nat) (A : Option Addr) (xs : List Nat) (w : World) (hA : WordsAt w w.heap.size A len xs) (hm : len ≤ maxLen) (hx : ∀ x ∈ xs, x < 4294967296) :
    Calls Tryd.prog 8 #[.slice A len cap] w fun e w' => e = .returned (.int .i64 (pcheck xs)) ∧ w = w' := by
  unfold maxLen at hm
  have HA := Lib.hid hA
  have HL : Hid (xs.length = len) := Lib.hid hA.1
  have HX := Lib.hid hx
  clear hA hx
  by_cases h8 : 8 < len
  · have HR : Hid (pcheck xs = 1) := Lib.hid (pcheck_large (by rw [HL.out]; exact h8))
    go_enter Tryd.func8, Tryd.ntmps8
    go_wp2
    go_ret
    exact ⟨ret_int HR.out.symm, rfl⟩
  · go_enter Tryd.func8, Tryd.ntmps8
    go_wp2
    go_loop [10] (fun j => ∃ k : Nat, k ≤ len ∧ j = .int .i64 k ∧ Hid (∀ i, i < k → xs.getD i 0 < 256)) (fun j => len - (intOf j).toNat)
    case atStart => exact ⟨0, Nat.zero_le _, rfl, Lib.hid fun i hi => by omega⟩
    case round =>
      obtain ⟨k, hk, rfl, HK⟩ := hrel
      by_cases hlt : k < len
      · obtain ⟨b, off, rfl, _, hc⟩ := HA.out.at_ hlt
        have ik0 : (0 : Int) ≤ (k : Int) := by omega
        have ik1 : (k : Int) < (len : Int) := by omega
        have HB : Hid (xs.getD k 0 < 256 → ∀ i, i < k + 1 → xs.getD i 0 < 256) := Lib.hid fun h i hi => by
          rcases Nat.lt_or_ge i k with h1 | h1
          · exact HK.out i h1
          · obtain rfl : i = k := by omega
            exact h
        have HE : Hid (256 ≤ xs.getD k 0 → pcheck xs = 2) := Lib.hid fun h => pcheck_arg (by have := HL.out; omega) (by have := HL.out; omega) h
        clear HK
        generalize xs.getD k 0 = x at hc HB HE
        by_cases hxb : x < 256
        · have HN := Lib.hid (HB.out hxb)
          have hd : decide (256 ≤ x) = false := by simp; omega
          have hd2 : decide ((256 : Int) ≤ (x : Int)) = false := by simp; omega
          clear HB HE
          go_wp2
          go_round
          case rel => exact ⟨k + 1, by omega, by go_num, HN⟩
          case measure => simp [intOf]; omega
        · have HN := Lib.hid (HE.out (by omega))
          have hd : decide (256 ≤ x) = true := by simp; omega
          have hd2 : decide ((256 : Int) ≤ (x : Int)) = true := by simp; omega
          clear HB HE
          go_wp2
          go_ret
          exact ⟨ret_int HN.out.symm, rfl⟩
      · have HR : Hid (pcheck xs = 0) := Lib.hid (pcheck_ok (by have := HL.out; omega) fun i hi => HK.out i (by have := HL.out; omega))
        go_wp2
        go_ret
        exact ⟨ret_int HR.out.symm, rfl⟩
theorem check_v (len cap : Nat) (A : Option Addr) (xs : List Nat) (v : Int) (w : World) (hA : WordsAt w w.heap.size A len xs) (hm : len ≤ maxLen) (hx : ∀ x ∈ xs, x < 4294967296) (hv : pcheck xs = v) :
    Calls Tryd.prog 19 #[.slice A len cap] w fun e w' => e = .returned (.int .i64 v) ∧ w = w' := by
  subst hv; exact check_any len cap A xs w hA hm hx
theorem refCheckP_v (len cap : Nat) (A : Option Addr) (xs : List Nat) (v : Int) (w : World) (hA : WordsAt w w.heap.size A len xs) (hm : len ≤ maxLen) (hx : ∀ x ∈ xs, x < 4294967296) (hv : pcheck xs = v) :
    Calls Tryd.prog 8 #[.slice A len cap] w fun e w' => e = .returned (.int .i64 v) ∧ w = w' := by
  subst hv; exact refCheckP_any len cap A xs w hA hm hx
end Go.Proofs.YtblbjiogojldhaaDoor
