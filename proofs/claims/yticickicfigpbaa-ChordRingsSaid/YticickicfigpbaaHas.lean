/- The reference's Has. -/
import Derived.Test.YticickicfigpbaaRows2
namespace Go.Proofs.Yticickicfigpbaa
open Go.RowKit

def hasI (xs : List Int) (v : Int) : Bool := xs.contains v
theorem hasI_iff {xs : List Int} {v : Int} : hasI xs v = true ↔ v ∈ xs := by unfold hasI; rw [List.contains_iff_mem]
set_option maxRecDepth 100000 in
set_option maxHeartbeats 400000 in
theorem has_any (n cap : Nat) (v : Int) (A : Option Addr) (xs : List Int) (w : World) (hA : IntsAt w w.heap.size A n xs) (hn : n ≤ 9223372036854775807) :
    Calls Try.prog 27 #[.slice A n cap, .int .i64 v] w fun e w' => e = .returned (.bool (hasI xs v)) ∧ w = w' := by
  have HA := Lib.hid hA
  clear hA
  go_enter Try.func27, Try.ntmps27
  go_wp2
  go_loop [9] (fun j => ∃ i : Nat, i ≤ n ∧ j = .int .i64 i ∧ Hid (v ∉ xs.take i)) (fun j => n - (intOf j).toNat)
  case atStart => exact ⟨0, Nat.zero_le _, rfl, Lib.hid (by simp)⟩
  case round =>
    obtain ⟨i, hi, rfl, HT⟩ := hrel
    by_cases hin : i < n
    · obtain ⟨b, off, x, rfl, _, hx, hc⟩ := HA.out.at_ hin
      have ix0 : (0 : Int) ≤ (i : Int) := by omega
      have ix1 : (i : Int) < (n : Int) := by omega
      by_cases hvx : v = x
      · subst hvx
        have HR : Hid (hasI xs v = true) := Lib.hid (by rw [hasI_iff]; exact List.mem_of_getElem? hx)
        clear hx
        go_wp2
        go_ret
        exact ⟨ret_bool HR.out.symm, rfl⟩
      · have hne : (v == x) = false := by simpa using hvx
        have HN : Hid (v ∉ xs.take (i + 1)) := Lib.hid (by
          obtain ⟨h1, h2⟩ := List.getElem?_eq_some_iff.1 hx
          rw [List.take_succ_eq_append_getElem h1, h2, List.mem_append, List.mem_singleton]
          exact fun h => h.elim HT.out hvx)
        clear hx
        go_wp2
        go_round
        case rel => exact ⟨i + 1, by omega, by go_num, HN⟩
        case measure => simp [intOf]; omega
    · have HR : Hid (hasI xs v = false) := Lib.hid (by
        unfold hasI
        have := HT.out
        rw [List.take_of_length_le (by have := HA.out.1; omega)] at this
        simpa using this)
      go_wp2
      go_ret
      exact ⟨ret_bool HR.out.symm, rfl⟩
set_option maxRecDepth 100000 in
theorem has_v (n cap : Nat) (v : Int) (b : Bool) (A : Option Addr) (xs : List Int) (w : World) (hA : IntsAt w w.heap.size A n xs) (hn : n ≤ 9223372036854775807) (hb : hasI xs v = b) :
    Calls Try.prog 27 #[.slice A n cap, .int .i64 v] w fun e w' => e = .returned (.bool b) ∧ w = w' := by
  subst hb; exact has_any n cap v A xs w hA hn
end Go.Proofs.Yticickicfigpbaa
