/- The box of wishes, and what lies behind it, as calls leave them. -/
import Derived.Test.YtmelgnfhocofiaaSide
import Derived.Laws.Rows
import Derived.Deep.RegionWith
import Derived.Deep.RegionHeld3
import Derived.Deep.RegionLaw
import Derived.Deep.QuietTactic
namespace Go.Proofs.Ytmelgnfhocofiaa
open Go.RowKit

/-- The world with wishes in a box. -/
def bxS (w : World) (A1 : Option Addr) (n1 c1 : Nat) (A2 : Option Addr) (n2 c2 : Nat) : World := w.alloc (.cells #[.slice A1 n1 c1, .slice A2 n2 c2] 24)
structure BoxS (w : World) (A1 : Option Addr) (n1 c1 : Nat) (A2 : Option Addr) (n2 c2 : Nat) (Ls Rs : List (List Int)) (w1 : World) : Prop where
  left : SideAt w1 w1.heap.size A1 n1 c1 Ls
  right : SideAt w1 w1.heap.size A2 n2 c2 Rs
  below : Below w.heap.size w w1
  box : Below (bxS w A1 n1 c1 A2 n2 c2).heap.size (bxS w A1 n1 c1 A2 n2 c2) w1
section
variable {w w1 w2 : World} {A1 A2 : Option Addr} {n1 c1 n2 c2 : Nat} {Ls Rs : List (List Int)}
set_option maxRecDepth 100000 in
theorem BoxS.start (S1 : SideAt w w.heap.size A1 n1 c1 Ls) (S2 : SideAt w w.heap.size A2 n2 c2 Rs) : BoxS w A1 n1 c1 A2 n2 c2 Ls Rs (bxS w A1 n1 c1 A2 n2 c2) :=
  ⟨S1.go_ ((Below.refl _ _).alloc (Nat.le_refl _) _), S2.go_ ((Below.refl _ _).alloc (Nat.le_refl _) _), (Below.refl _ _).alloc (Nat.le_refl _) _, Below.refl _ _⟩
set_option maxRecDepth 100000 in
theorem BoxS.next (h : BoxS w A1 n1 c1 A2 n2 c2 Ls Rs w1) (hb : Below w1.heap.size w1 w2) : BoxS w A1 n1 c1 A2 n2 c2 Ls Rs w2 :=
  ⟨h.left.go_ hb, h.right.go_ hb, h.below.trans (hb.mono h.below.size), h.box.trans (hb.mono h.box.size)⟩
theorem BoxS.drew (h : BoxS w A1 n1 c1 A2 n2 c2 Ls Rs w1) : BoxS w A1 n1 c1 A2 n2 c2 Ls Rs w1.drew := ⟨h.left.drew, h.right.drew, h.below.drew, h.box.drew⟩
theorem BoxS.lt (h : BoxS w A1 n1 c1 A2 n2 c2 Ls Rs w1) : w.heap.size < w1.heap.size := by have := h.box.size; simp [bxS] at this; omega
theorem BoxS.k0 (h : BoxS w A1 n1 c1 A2 n2 c2 Ls Rs w1) : w1.cell? ⟨w.heap.size, 0, none⟩ = some (.slice A1 n1 c1) := by
  rw [h.box.cell (p := ⟨w.heap.size, 0, none⟩) (by simp [bxS])]; exact cell_of_row _ _ 0 _ _ (0, 0) (MapKept.heap_alloc w _).1
theorem BoxS.k1 (h : BoxS w A1 n1 c1 A2 n2 c2 Ls Rs w1) : w1.cell? ⟨w.heap.size, 1, none⟩ = some (.slice A2 n2 c2) := by
  rw [h.box.cell (p := ⟨w.heap.size, 1, none⟩) (by simp [bxS])]; exact cell_of_row _ _ 1 _ _ (0, 0) (MapKept.heap_alloc w _).1
set_option maxRecDepth 100000 in
theorem BoxS.heap (h : BoxS w A1 n1 c1 A2 n2 c2 Ls Rs w1) : w1.heap[w.heap.size]? = some (.cells #[.slice A1 n1 c1, .slice A2 n2 c2] 24 (0, 0)) :=
  (h.box.block _ (by simp [bxS])).trans (MapKept.heap_alloc w _).1
end
end Go.Proofs.Ytmelgnfhocofiaa
