/- lanes.wayIn, wayOut, nodeOf: the halves of a node. No conditions. -/
import Derived.Test.YtmelemjngnadpaaDoorZb2
namespace Go.Proofs.YtmelemjngnadpaaDoor
open Go.RowKit

theorem wayIn_any (x : Int) (h0 : 0 ≤ x) (h1 : x ≤ 1000) (w : World) : Calls Tryd.prog 20 #[.int .i64 x] w fun e w' => e = .returned (.int .i64 (2 * x)) ∧ w' = w := by
  go_enter Tryd.func20, Tryd.ntmps20
  go_wp2
  go_ret
  exact ⟨rfl, rfl⟩
theorem wayOut_any (x : Int) (h0 : 0 ≤ x) (h1 : x ≤ 1000) (w : World) : Calls Tryd.prog 28 #[.int .i64 x] w fun e w' => e = .returned (.int .i64 (2 * x + 1)) ∧ w' = w := by
  go_enter Tryd.func28, Tryd.ntmps28
  go_wp2
  go_ret
  exact ⟨rfl, rfl⟩
theorem nodeOf_any (x : Nat) (h1 : x ≤ 1000) (w : World) : Calls Tryd.prog 21 #[.int .i64 ((2 * x : Nat) : Int)] w fun e w' => e = .returned (.int .i64 (x : Int)) ∧ w' = w := by
  have hd : Int.tdiv ((2 * x : Nat) : Int) 2 = (x : Int) := by
    rw [Int.tdiv_eq_ediv_of_nonneg (by omega)]; omega
  go_enter Tryd.func21, Tryd.ntmps21
  go_wp2
  go_ret
  exact ⟨rfl, rfl⟩
end Go.Proofs.YtmelemjngnadpaaDoor
