/- What colour.Least is to tell. -/
import Derived.Test.YticickicfigpbaaPaintP
import Derived.Test.YticickicfigpbaaNatG
import Derived.Test.YticickicfigpbaaBox0
import Derived.Test.YticickicfigpbaaAdj
import Derived.Test.YticickicfigpbaaRows2
import Derived.Test.YticickicfigpbaaGood
namespace Go.Proofs.Yticickicfigpbaa
open Go.RowKit

def LeastTop (w : World) (n : Int) (es : List E3) (e : Ending) (w' : World) : Prop :=
  (gcheck n es ≠ 0 → e = .returned (.tuple #[.int .i64 0, .slice none 0 0, .int .i64 (gcheck n es)])) ∧
  (gcheck n es = 0 → ∃ k l A' c', LeastC (adjE es) n.toNat k l ∧ e = .returned (.tuple #[.int .i64 (k : Int), .slice A' n.toNat c', .int .i64 0]) ∧ IntsAt w' w'.heap.size A' n.toNat (natG l) ∧ n.toNat ≤ c') ∧ Below w.heap.size w w'
end Go.Proofs.Yticickicfigpbaa
