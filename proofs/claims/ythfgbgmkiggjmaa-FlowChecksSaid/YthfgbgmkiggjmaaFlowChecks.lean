/- FlowChecks: the program's and the reference's answers are one. -/
import Derived.Test.YthfgbgmkiggjmaaNetCheckGo
import Derived.Test.YthfgbgmkiggjmaaOpenNet
namespace Go.Proofs.Ythfgbgmkiggjmaa
open Go.RowKit

set_option maxRecDepth 100000 in
set_option maxHeartbeats 1000000 in
theorem flowChecks_any (n : Int) (A : Option Addr) (len cap : Nat) (es : List A4) (w : World) (hE : ArcsAt w w.heap.size A len es) (_ : len ≤ cap) (_ : ∀ e ∈ es, WfA e) (_ : (Lit.int .i64 n).wf = true) :
    Calls Try.prog 10 #[.agg #[.int .i64 n, .slice A len cap]] w fun e w' => e = .returned (.bool true) ∧ Below w.heap.size w w' := by
  have HX := Lib.hid (BoxN.start (n := n) (cap := cap) hE)
  have hk0 := HX.out.k0
  have hk1 := HX.out.k1
  have HXd := Lib.hid HX.out.drew
  clear hE
  go_enter Try.func10, Try.ntmps10
  go_wp2
  go_region_with (first
    | (go_at_call 30; refine (flowCheck_any n A len cap es _ (by exact HXd.out.arcs)).mono ?_; rintro e w1 ⟨rfl, hb1⟩; have HX1 := Lib.hid (HXd.out.next hb1); have hk2 := HX1.out.k0; have hk3 := HX1.out.k1)
    | (go_at_call 31; refine (netCheck_any n A len cap es _ (by exact HX1.out.arcs)).mono ?_; rintro e w2 ⟨rfl, hb2⟩; have HX2 := Lib.hid (HX1.out.next hb2)))
  all_goals
    go_wp2
    go_ret
    exact ⟨rfl, HX2.out.below⟩
end Go.Proofs.Ythfgbgmkiggjmaa
