/- Sets of nodes without an edge. Plain facts, of no program. -/
import Derived.Test.YticickicfigpbaaAdj
namespace Go.Proofs.Yticickicfigpbaa

def bothE (s : Nat) (e : E3) : Bool := s.testBit e.1.toNat && s.testBit e.2.1.toNat
def looseE (es : List E3) (s : Nat) : Bool := es.all fun e => !bothE s e
theorem looseE_zero (es : List E3) : looseE es 0 = true := by
  unfold looseE bothE
  simp
end Go.Proofs.Yticickicfigpbaa
