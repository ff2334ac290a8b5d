/- The box of a graph, and its check. No conditions. -/
import Derived.Test.YticickicfigpbaaBoxB
import Derived.Test.YticickicfigpbaaCheckGo
namespace Go.Proofs.Yticickicfigpbaa
open Go.RowKit

set_option maxRecDepth 100000 in
theorem check_v (n : Int) (A : Option Addr) (len cap : Nat) (es : List E3) (v : Int) (w : World) (hE : EdgesAt w w.heap.size A len es) (hcap : len ≤ cap) (hv : gcheck n es = v) :
    Calls Try.prog 8 #[.agg #[.int .i64 n, .slice A len cap]] w fun e w' => e = .returned (.int .i64 v) ∧ Below w.heap.size w w' := by
  subst hv; exact graphCheck_any n A len cap es w hE hcap
end Go.Proofs.Yticickicfigpbaa
