/- flow.Check and the reference's NetCheck by what they answer. -/
import Derived.Test.YtkpejmpnbdblbaaNetCheckGo
namespace Go.Proofs.Ytkpejmpnbdblbaa
open Go.RowKit

set_option maxRecDepth 100000 in
theorem flowCheck_v (n v : Int) (A : Option Addr) (len cap : Nat) (es : List A4) (w : World) (hE : ArcsAt w w.heap.size A len es) (hv : netF n es = v) :
    Calls Try.prog 28 #[.agg #[.int .i64 n, .slice A len cap]] w fun e w' => e = .returned (.int .i64 v) ∧ Below w.heap.size w w' := by
  subst hv; exact flowCheck_any n A len cap es w hE
set_option maxRecDepth 100000 in
theorem netCheck_v (n v : Int) (A : Option Addr) (len cap : Nat) (es : List A4) (w : World) (hE : ArcsAt w w.heap.size A len es) (hv : netF n es = v) :
    Calls Try.prog 16 #[.agg #[.int .i64 n, .slice A len cap]] w fun e w' => e = .returned (.int .i64 v) ∧ Below w.heap.size w w' := by
  subst hv; exact netCheck_any n A len cap es w hE
end Go.Proofs.Ytkpejmpnbdblbaa
