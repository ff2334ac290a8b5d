/- The box of a graph, and what lies behind it, as calls leave them. No conditions. -/
import Derived.Test.YticickicfigpbaaRefCheck
namespace Go.Proofs.Yticickicfigpbaa
open Go.RowKit

structure BoxG (w : World) (n : Int) (A : Option Addr) (len cap : Nat) (es : List E3) (w1 : World) : Prop where
  edges : EdgesAt w1 w1.heap.size A len es
  below : Below w.heap.size w w1
  box : Below (bx w n A len cap).heap.size (bx w n A len cap) w1
section
variable {w w1 w2 : World} {n : Int} {A : Option Addr} {len cap : Nat} {es : List E3}
theorem BoxG.start (hE : EdgesAt w w.heap.size A len es) : BoxG w n A len cap es (bx w n A len cap) :=
  ⟨(hE.alloc (Nat.le_refl _) _).more (by simp [bx]), (Below.refl _ _).alloc (Nat.le_refl _) _, Below.refl _ _⟩
set_option maxRecDepth 100000 in
theorem BoxG.next (h : BoxG w n A len cap es w1) (hb : Below w1.heap.size w1 w2) : BoxG w n A len cap es w2 :=
  ⟨h.edges.go_ hb, h.below.trans (hb.mono h.below.size), h.box.trans (hb.mono h.box.size)⟩
set_option maxRecDepth 100000 in
theorem BoxG.c0 (h : BoxG w n A len cap es w1) : w1.cell? ⟨w.heap.size, 0, none⟩ = some (.int .i64 n) := by
  rw [h.box.cell (p := ⟨w.heap.size, 0, none⟩) (by simp [bx])]; simp [bx, go_sem]
set_option maxRecDepth 100000 in
theorem BoxG.c1 (h : BoxG w n A len cap es w1) : w1.cell? ⟨w.heap.size, 1, none⟩ = some (.slice A len cap) := by
  rw [h.box.cell (p := ⟨w.heap.size, 1, none⟩) (by simp [bx])]; simp [bx, go_sem]
theorem BoxG.of (hE : EdgesAt w w.heap.size A len es) (h : Below (bx w n A len cap).heap.size (bx w n A len cap) w1) : BoxG w n A len cap es w1 :=
  ⟨((hE.alloc (Nat.le_refl _) _).more (by simp)).go_ h, ((Below.refl _ _).alloc (Nat.le_refl _) _).trans (h.mono (by simp [bx])), h⟩
theorem BoxG.lt (h : BoxG w n A len cap es w1) : w.heap.size < w1.heap.size := by have := h.box.size; simp [bx] at this; omega
end
end Go.Proofs.Yticickicfigpbaa
