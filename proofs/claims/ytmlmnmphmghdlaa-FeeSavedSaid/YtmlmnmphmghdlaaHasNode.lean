/- The program's has: is a node in a word? -/
import Derived.Test.YtmlmnmphmghdlaaWordsAt
namespace Go.Proofs.Ytmlmnmphmghdlaa
open Go.RowKit

set_option maxRecDepth 100000 in
theorem hasNode_any (s i : Nat) (b : Bool) (hs : s < 4294967296) (hi : i < 32) (hb : s.testBit i = b) (w : World) : Calls Try.prog 39 #[.int .u32 s, .int .i64 i] w fun e w' => e = .returned (.bool b) ∧ w' = w := by
  subst hb
  have HB := shr_bit s i hs
  have h1 : (i : Int) < 32 := by omega
  go_enter Try.func39, Try.ntmps39
  go_wp2
  go_ret
  exact ⟨rfl, rfl⟩
end Go.Proofs.Ytmlmnmphmghdlaa
