/- The keepers' inside. -/
import Derived.Test.YtpcealcghglopaaZb2
import Derived.Test.YtpcealcghglopaaZb1
namespace Go.Proofs.Ytpcealcghglopaa
open Go.RowKit

set_option maxRecDepth 100000 in
set_option maxHeartbeats 400000 in
theorem inside_v (n : Int) (A : Option Addr) (k c : Nat) (xs : List Int) (v : Bool) (w : World) (h1 : IntsAt w w.heap.size A k xs) (hn : k ≤ 9223372036854775807) (hv : xs.all (isIn n) = v) :
    Calls Try.prog 30 #[.int .i64 n, .slice A k c] w fun e w' => e = .returned (.bool v) ∧ w = w' := by
  have H1 := Lib.hid h1
  have HV := Lib.hid hv
  clear h1 hv
  go_enter Try.func30, Try.ntmps30
  go_wp2
  go_loop [9] (fun j => ∃ i : Nat, i ≤ k ∧ j = .int .i64 i ∧ Hid ((xs.take i).all (isIn n) = true)) (fun j => k - (intOf j).toNat)
  case atStart => exact ⟨0, Nat.zero_le _, rfl, Lib.hid rfl⟩
  case round =>
    obtain ⟨i, hi, rfl, HN⟩ := hrel
    by_cases hlt : i < k
    · obtain ⟨b, off, y, rfl, _, hy, hc⟩ := H1.out.at_ hlt
      by_cases he : isIn n y = true
      · have HN2 : Hid ((xs.take (i + 1)).all (isIn n) = true) := Lib.hid (by
          obtain ⟨hkl, hye⟩ := List.getElem?_eq_some_iff.1 hy
          rw [List.take_succ_eq_append_getElem hkl, hye, List.all_append, HN.out]
          simp [he])
        have hy0 : 0 ≤ y ∧ y < n := by simpa [isIn] using he
        obtain ⟨hy1, hy2⟩ := hy0
        clear hy he
        go_wp2
        go_round
        case rel => exact ⟨i + 1, by omega, by go_num, HN2⟩
        case measure => simp [intOf]; omega
      · have HR : Hid (v = false) := Lib.hid (by
          rw [← HV.out]
          cases hall : xs.all (isIn n) with
          | false => rfl
          | true => exact absurd (List.all_eq_true.1 hall y (List.mem_of_getElem? hy)) he)
        have hw : y < 0 ∨ (0 ≤ y ∧ n ≤ y) := by simp [isIn] at he; omega
        clear hy he
        rcases hw with h | ⟨h1, h2⟩
        all_goals
          go_wp2
          go_ret
          exact ⟨ret_bool HR.out.symm, rfl⟩
    · have HR : Hid (v = true) := Lib.hid (by
        rw [← HV.out]
        have := HN.out
        rwa [List.take_of_length_le (by have := H1.out.1; omega)] at this)
      go_wp2
      go_ret
      exact ⟨ret_bool HR.out.symm, rfl⟩
end Go.Proofs.Ytpcealcghglopaa
