/- The box of a graph, and what lies behind it, as calls leave them: the table of math/bits, too. No conditions. -/
import Derived.Test.YthfgbgmkiggjmacDoorBox0
import Derived.Test.YthfgbgmkiggjmacDoorTz
namespace Go.Proofs.YthfgbgmkiggjmacDoor
open Go.RowKit

section
variable {w w1 : World} {n : Int} {A : Option Addr} {len cap : Nat} {es : List E3}
theorem BoxG.tab (h : BoxG w n A len cap es w1) (hT : Tab w) : Tab w1 := hT.go_ h.below
end
end Go.Proofs.YthfgbgmkiggjmacDoor
