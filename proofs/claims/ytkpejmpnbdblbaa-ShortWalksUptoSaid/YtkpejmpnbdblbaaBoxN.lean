/- The box of a net, and what lies behind it, as calls leave them. -/
import Derived.Test.YtkpejmpnbdblbaaArcs
import Derived.Laws.Rows
import Derived.Deep.RegionWith
import Derived.Deep.RegionHeld3
import Derived.Deep.RegionLaw
import Derived.Deep.QuietTactic
import Derived.BigQuiet
namespace Go.Proofs.Ytkpejmpnbdblbaa
open Go.RowKit

/-- The world with a net in a box. -/
def bxN (w : World) (n : Int) (A : Option Addr) (len cap : Nat) : World := w.alloc (.cells #[.int .i64 n, .slice A len cap] 24)
structure BoxN (w : World) (n : Int) (A : Option Addr) (len cap : Nat) (es : List A4) (w1 : World) : Prop where
  arcs : ArcsAt w1 w1.heap.size A len es
  below : Below w.heap.size w w1
  box : Below (bxN w n A len cap).heap.size (bxN w n A len cap) w1
section
variable {w w1 w2 : World} {n : Int} {A : Option Addr} {len cap : Nat} {es : List A4}
set_option maxRecDepth 100000 in
theorem BoxN.start (h : ArcsAt w w.heap.size A len es) : BoxN w n A len cap es (bxN w n A len cap) :=
  ⟨h.go_ ((Below.refl _ _).alloc (Nat.le_refl _) _), (Below.refl _ _).alloc (Nat.le_refl _) _, Below.refl _ _⟩
set_option maxRecDepth 100000 in
theorem BoxN.next (h : BoxN w n A len cap es w1) (hb : Below w1.heap.size w1 w2) : BoxN w n A len cap es w2 :=
  ⟨h.arcs.go_ hb, h.below.trans (hb.mono h.below.size), h.box.trans (hb.mono h.box.size)⟩
theorem BoxN.drew (h : BoxN w n A len cap es w1) : BoxN w n A len cap es w1.drew := ⟨h.arcs.drew, h.below.drew, h.box.drew⟩
theorem BoxN.lt (h : BoxN w n A len cap es w1) : w.heap.size < w1.heap.size := by have := h.box.size; simp [bxN] at this; omega
theorem BoxN.k0 (h : BoxN w n A len cap es w1) : w1.cell? ⟨w.heap.size, 0, none⟩ = some (.int .i64 n) := by
  rw [h.box.cell (p := ⟨w.heap.size, 0, none⟩) (by simp [bxN])]; exact cell_of_row _ _ 0 _ _ (0, 0) (MapKept.heap_alloc w _).1
theorem BoxN.k1 (h : BoxN w n A len cap es w1) : w1.cell? ⟨w.heap.size, 1, none⟩ = some (.slice A len cap) := by
  rw [h.box.cell (p := ⟨w.heap.size, 1, none⟩) (by simp [bxN])]; exact cell_of_row _ _ 1 _ _ (0, 0) (MapKept.heap_alloc w _).1
set_option maxRecDepth 100000 in
theorem BoxN.heap (h : BoxN w n A len cap es w1) : w1.heap[w.heap.size]? = some (.cells #[.int .i64 n, .slice A len cap] 24 (0, 0)) :=
  (h.box.block _ (by simp [bxN])).trans (MapKept.heap_alloc w _).1
end
end Go.Proofs.Ytkpejmpnbdblbaa
