/- lanes.wayIn, wayOut, nodeOf: the halves of a node. No conditions. -/
import Derived.Test.YtmelemjngnadpaaZb2
namespace Go.Proofs.Ytmelemjngnadpaa
open Go.RowKit

theorem wayIn_any (x : Int) (h0 : 0 ≤ x) (h1 : x ≤ 1000) (w : World) : Calls Try.prog 13 #[.int .i64 x] w fun e w' => e = .returned (.int .i64 (2 * x)) ∧ w' = w := by
  go_enter Try.func13, Try.ntmps13
  go_wp2
  go_ret
  exact ⟨rfl, rfl⟩
theorem wayOut_any (x : Int) (h0 : 0 ≤ x) (h1 : x ≤ 1000) (w : World) : Calls Try.prog 22 #[.int .i64 x] w fun e w' => e = .returned (.int .i64 (2 * x + 1)) ∧ w' = w := by
  go_enter Try.func22, Try.ntmps22
  go_wp2
  go_ret
  exact ⟨rfl, rfl⟩
theorem nodeOf_any (x : Nat) (h1 : x ≤ 1000) (w : World) : Calls Try.prog 14 #[.int .i64 ((2 * x : Nat) : Int)] w fun e w' => e = .returned (.int .i64 (x : Int)) ∧ w' = w := by
  have hd : Int.tdiv ((2 * x : Nat) : Int) 2 = (x : Int) := by
    rw [Int.tdiv_eq_ediv_of_nonneg (by omega)]; omega
  go_enter Try.func14, Try.ntmps14
  go_wp2
  go_ret
  exact ⟨rfl, rfl⟩
end Go.Proofs.Ytmelemjngnadpaa
