/- flow.Send. No conditions but a net that is not too large. -/
import Derived.Test.YtmlmnmphmghdlaaFillGo
namespace Go.Proofs.Ytmlmnmphmghdlaa
open Go.RowKit

def SendEnd (m : Nat) (len : Nat) (es : List A4) (s t : Nat) (w : World) (e : Ending) (w' : World) : Prop :=
  ∃ g f v, e = .returned (.slice (some ⟨g, 0, none⟩) len len) ∧ RowI w' g len f ∧ FlowP (netP (m : Int) es) s t f v ∧ ¬ ComeP (netP (m : Int) es) f s t ∧ w.heap.size ≤ g ∧ Below w.heap.size w w'
set_option maxRecDepth 100000 in
theorem flowSend_any (m : Nat) (A : Option Addr) (len cap : Nat) (es : List A4) (s t : Nat) (w : World)
    (hE : ArcsAt w w.heap.size A len es) (hG : BigN (m : Int) es) (hs : s < m) (ht : t < m) (hst : s ≠ t) :
    Calls Try.prog 31 #[.agg #[.int .i64 m, .slice A len cap], .int .i64 s, .int .i64 t] w (SendEnd m len es s t w) := by
  have HX := Lib.hid (BoxN.start (n := m) (cap := cap) hE)
  have HG := Lib.hid hG
  clear hE hG
  go_enter Try.func31, Try.ntmps31
  go_wp2_with fail
  refine (fill_any m A len cap es s t _ (by exact HX.out.arcs) HG.out hs ht hst).mono ?_
  rintro e w1 ⟨F, g, f, v, rfl, hF, hfl, hn, hg, hB⟩
  have c2 := hF.c2
  have HO : Hid (SendEnd m len es s t w (.returned (.slice (some ⟨g, 0, none⟩) len len)) w1) := Lib.hid ⟨g, f, v, rfl, hF.row, hfl, hn, Nat.le_trans HX.out.below.size hg, HX.out.below.trans (hB.mono HX.out.below.size)⟩
  clear hF hfl hn hg hB
  go_wp2
  go_ret
  exact HO.out
end Go.Proofs.Ytmlmnmphmghdlaa
