/- What crowd's faces are to tell. -/
import Derived.Test.YthnchnamdoobeaaCrowdLawP
import Derived.Test.YthnchnamdoobeaaBox0
namespace Go.Proofs.Ythnchnamdoobeaa
open Go.RowKit

def CrowdTop (ap : Bool) (w : World) (n : Int) (es : List E3) (e : Ending) (w' : World) : Prop :=
  (gcheck n es ≠ 0 → e = .returned (.tuple #[.int .u32 0, .int .i64 (gcheck n es)])) ∧
  (gcheck n es = 0 → ∃ b : Nat, MostW (CrowdW (adjE es) ap n.toNat) sizeW (2 ^ n.toNat) b ∧ e = .returned (.tuple #[.int .u32 (b : Int), .int .i64 0])) ∧ Below w.heap.size w w'
def CoverTop (w : World) (n : Int) (es : List E3) (e : Ending) (w' : World) : Prop :=
  (gcheck n es ≠ 0 → e = .returned (.tuple #[.int .u32 0, .int .i64 (gcheck n es)])) ∧
  (gcheck n es = 0 → ∃ b : Nat, FewW (GuardW es n.toNat) sizeW (2 ^ n.toNat - 1) (2 ^ n.toNat) b ∧ e = .returned (.tuple #[.int .u32 (b : Int), .int .i64 0])) ∧ Below w.heap.size w w'
end Go.Proofs.Ythnchnamdoobeaa
