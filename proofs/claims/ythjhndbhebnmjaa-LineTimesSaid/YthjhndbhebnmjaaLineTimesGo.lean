/- LineTimes, walked. No conditions. -/
import Derived.Test.YthjhndbhebnmjaaLineTimes
import Derived.Test.YthjhndbhebnmjaaLineTimesTop
namespace Go.Proofs.Ythjhndbhebnmjaa
open Go.RowKit
theorem lineTimes_any (A : Option Addr) (n c : Nat) (js : List JobV) (w : World) (S : JobsAt w w.heap.size A n js) {P1 P2 P3 : Prop} (_ : P1) (_ : P2) (_ : P3) :
    Calls Try.prog 4 #[.slice A n c] w fun e w' => e = .returned (.bool true) ∧ Below w.heap.size w w' :=
  lineTimes_of A n c js w S fun W hW => lineTimesTop_any A n c js W hW
end Go.Proofs.Ythjhndbhebnmjaa
