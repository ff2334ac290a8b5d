/- The reference's Size. -/
import Derived.Test.YthnchnamdoobeaaBit
import Derived.Test.YthnchnamdoobeaaSizeD
namespace Go.Proofs.Ythnchnamdoobeaa
open Go.RowKit

set_option maxRecDepth 100000 in
set_option maxHeartbeats 1000000 in
theorem size_any (s : Nat) (hs : s < 4294967296) (W : World) : Calls Try.prog 19 #[.int .u32 s] W fun e w' => e = .returned (.int .i64 (sizeW s : Nat)) ∧ w' = W := by
  go_enter Try.func19, Try.ntmps19
  go_wp2
  go_loop [3, 4] (fun n j => ∃ k : Nat, k ≤ 32 ∧ j = .int .i64 k ∧ n = .int .i64 (sizeTo s k : Nat)) (fun _ j => 32 - (intOf j).toNat)
  case atStart => exact ⟨0, Nat.zero_le _, rfl, rfl⟩
  case round =>
    obtain ⟨k, hk, rfl, rfl⟩ := hrel
    have hle := sizeTo_le s k
    by_cases hlt : k < 32
    · have HN := Lib.hid (sizeTo_succ s k)
      cases hb : s.testBit k
      · have HB := Lib.hid hb
        have HN2 : Hid (sizeTo s (k + 1) = sizeTo s k) := Lib.hid (by rw [HN.out, hb]; rfl)
        clear hb HN
        generalize sizeTo s k = n at *
        go_wp2_with (go_at_call 29; refine (bit_nat s k false hs hlt HB.out _).mono ?_; rintro e w1 ⟨rfl, rfl⟩)
        go_round
        case rel => exact ⟨k + 1, by omega, by go_num, by rw [HN2.out]⟩
        case measure => simp [intOf]; omega
      · have HB := Lib.hid hb
        have HN2 : Hid (sizeTo s (k + 1) = sizeTo s k + 1) := Lib.hid (by rw [HN.out, hb]; rfl)
        clear hb HN
        generalize sizeTo s k = n at *
        go_wp2_with (go_at_call 29; refine (bit_nat s k true hs hlt HB.out _).mono ?_; rintro e w1 ⟨rfl, rfl⟩)
        go_round
        case rel => exact ⟨k + 1, by omega, by go_num, by rw [HN2.out]; go_num⟩
        case measure => simp [intOf]; omega
    · obtain rfl : k = 32 := by omega
      go_wp2
      go_ret
      exact ⟨rfl, rfl⟩

set_option maxRecDepth 100000 in
theorem size_v (s : Nat) (z : Int) (hs : s < 4294967296) (hz : (sizeW s : Int) = z) (W : World) : Calls Try.prog 19 #[.int .u32 s] W fun e w' => e = .returned (.int .i64 z) ∧ w' = W := by
  subst hz; exact size_any s hs W
end Go.Proofs.Ythnchnamdoobeaa
