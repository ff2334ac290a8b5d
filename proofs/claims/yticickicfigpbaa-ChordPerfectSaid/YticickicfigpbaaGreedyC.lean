/- What colour.Greedy is to tell. -/
import Derived.Test.YticickicfigpbaaGreedL
import Derived.Test.YticickicfigpbaaNatG
import Derived.Test.YticickicfigpbaaEachV
import Derived.Test.YticickicfigpbaaAdj
import Derived.Test.YticickicfigpbaaGood
import Derived.Test.YticickicfigpbaaRows2
import Derived.Test.YticickicfigpbaaBox0
namespace Go.Proofs.Yticickicfigpbaa
open Go.RowKit

def colR (n : Nat) (col : Nat → Nat) : List Int := (List.range n).map fun j => ((col j : Nat) : Int)
def GreedyTop (w : World) (n : Int) (es : List E3) (xs : List Int) (e : Ending) (w' : World) : Prop :=
  (gcheck n es ≠ 0 → e = .returned (.tuple #[.slice none 0 0, .int .i64 (gcheck n es)])) ∧
  (gcheck n es = 0 → ¬ EachP n.toNat xs → e = .returned (.tuple #[.slice none 0 0, .int .i64 2])) ∧
  (gcheck n es = 0 → ∀ o, natG o = xs → EachP n.toNat xs → ∃ col A' c', GreedL (adjE es) o n.toNat col ∧ e = .returned (.tuple #[.slice A' n.toNat c', .int .i64 0]) ∧ IntsAt w' w'.heap.size A' n.toNat (colR n.toNat col) ∧ n.toNat ≤ c') ∧ Below w.heap.size w w'
end Go.Proofs.Yticickicfigpbaa
