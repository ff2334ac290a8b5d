/- The small functions of package graph: isNode, pairOf. No conditions. -/
import Derived.Test.YticickicfigpbaaPlain
import Derived.WalkKit
import Derived.WalkSpells
import Derived.WalkLawsBesides
import Derived.Lib.Hide
namespace Go.Proofs.Yticickicfigpbaa
open Go.RowKit

set_option maxRecDepth 100000 in
set_option maxHeartbeats 400000 in
theorem isNode_any (n x : Int) (w : World) :
    Calls Try.prog 48 #[.int .i64 n, .int .i64 x] w fun e w' => e = .returned (.bool (isIn n x)) ∧ w = w' := by
  by_cases h0 : 0 ≤ x
  · by_cases h1 : x < n
    · have hin : isIn n x = true := by simp [isIn, h0, h1]
      rw [hin]; clear hin
      go_enter Try.func48, Try.ntmps48
      go_wp2
      go_ret
      exact ⟨rfl, rfl⟩
    · have hin : isIn n x = false := by simp [isIn, h1]
      rw [hin]; clear hin
      go_enter Try.func48, Try.ntmps48
      go_wp2
      go_ret
      exact ⟨rfl, rfl⟩
  · have hin : isIn n x = false := by simp [isIn, h0]
    rw [hin]; clear hin
    go_enter Try.func48, Try.ntmps48
    go_wp2
    go_ret
    exact ⟨rfl, rfl⟩

/-- The world behind a call of pairOf: the argument's box and the result's cell are new. -/
def paired (w : World) (a b c lo hi : Int) : World := (w.alloc (.cells #[.int .i64 a, .int .i64 b, .int .i64 c] 54)).alloc (.cells #[.int .i64 lo, .int .i64 hi] 73)

set_option maxRecDepth 100000 in
set_option maxHeartbeats 400000 in
theorem pairOf_any (a b c : Int) (w : World) :
    Calls Try.prog 50 #[.agg #[.int .i64 a, .int .i64 b, .int .i64 c]] w fun e w' => e = .returned (.agg #[.int .i64 (min a b), .int .i64 (max a b)]) ∧ paired w a b c (min a b) (max a b) = w' := by
  rcases Int.lt_trichotomy a b with h | h | h
  · have hm : min a b = a := by omega
    have hx : max a b = b := by omega
    rw [hm, hx]; clear hm hx
    go_enter Try.func50, Try.ntmps50
    go_wp2
    exact bodyPost_ret (v := .agg #[.int .i64 a, .int .i64 b]) (by simp [results, Try.results50, go_sem]) rfl ⟨rfl, rfl⟩
  · subst h
    have hm : min a a = a := by omega
    have hx : max a a = a := by omega
    rw [hm, hx]; clear hm hx
    go_enter Try.func50, Try.ntmps50
    go_wp2
    exact bodyPost_ret (v := .agg #[.int .i64 a, .int .i64 a]) (by simp [results, Try.results50, go_sem]) rfl ⟨rfl, rfl⟩
  · have hm : min a b = b := by omega
    have hx : max a b = a := by omega
    rw [hm, hx]; clear hm hx
    go_enter Try.func50, Try.ntmps50
    go_wp2
    exact bodyPost_ret (v := .agg #[.int .i64 b, .int .i64 a]) (by simp [results, Try.results50, go_sem]) rfl ⟨rfl, rfl⟩
end Go.Proofs.Yticickicfigpbaa
