/- The program's has: is a node in a word? -/
import Derived.Test.YtmelemjngnadpaaDoorZb2
namespace Go.Proofs.YtmelemjngnadpaaDoor
open Go.RowKit

theorem hasNode_any (s i : Nat) (b : Bool) (hs : s < 4294967296) (hi : i < 32) (hb : s.testBit i = b) (w : World) : Calls Tryd.prog 41 #[.int .u32 s, .int .i64 i] w fun e w' => e = .returned (.bool b) ∧ w' = w := by
  subst hb
  have HB := shr_bit s i hs
  have h1 : (i : Int) < 32 := by omega
  go_enter Tryd.func41, Tryd.ntmps41
  go_wp2
  go_ret
  exact ⟨rfl, rfl⟩
end Go.Proofs.YtmelemjngnadpaaDoor
