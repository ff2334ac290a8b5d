/- Rows of words and of integers that were made, each world by a name of its own. Plain facts. -/
import Derived.Test.YticickicfigpbaaWordsAt
namespace Go.Proofs.Yticickicfigpbaa
open Go.RowKit

def mkU (n : Nat) (W : World) : World := W.alloc (.cells (madeCells #[.int .u32 0] n) 38)
def mkI (n : Nat) (W : World) : World := W.alloc (.cells (madeCells #[.int .i64 0] n) 3)
theorem mkU_size (n : Nat) (W : World) : (mkU n W).heap.size = W.heap.size + 1 := by unfold mkU; simp
theorem mkI_size (n : Nat) (W : World) : (mkI n W).heap.size = W.heap.size + 1 := by unfold mkI; simp
theorem mkU_below (n : Nat) (W : World) : Below W.heap.size W (mkU n W) := (Below.refl _ _).alloc (Nat.le_refl _) _
theorem mkI_below (n : Nat) (W : World) : Below W.heap.size W (mkI n W) := (Below.refl _ _).alloc (Nat.le_refl _) _
theorem mkU_row (n : Nat) (W : World) : RowOf (mkU n W) W.heap.size 38 (List.replicate n (.int .u32 0)) := RowOf.made W _ n _
theorem mkI_row (n : Nat) (W : World) : RowOf (mkI n W) W.heap.size 3 (List.replicate n (.int .i64 0)) := RowOf.made W _ n _
/-- A box that was laid last. -/
theorem box_new (W : World) (v : Value) (t : TypeId) : RowOf (W.alloc (.cells #[v] t)) W.heap.size t [v] := (MapKept.heap_alloc W _).1
theorem box_next (W : World) (o : Obj) (v : Value) (t : TypeId) : RowOf ((W.alloc o).alloc (.cells #[v] t)) (W.heap.size + 1) t [v] := by
  have h := box_new (W.alloc o) v t
  rw [World.size_alloc] at h
  exact h
set_option maxRecDepth 100000 in
theorem mkU_run (n : Nat) (hn : n ≤ 32) (W : World) : (Instr.makeSlice 46 (.int .i64 (n : Int)) (.int .i64 (n : Int))).run Try.prog W = .ok (.slice (some ⟨W.heap.size, 0, none⟩) n n) (mkU n W) :=
  run_make_row' (P := Try.prog) 46 38 (.int .u32 0) 4 Try.underlying46 (by kernel_rfl) rfl .i64 .i64 n (by omega) (by omega) W
set_option maxRecDepth 100000 in
theorem mkI_run (n : Nat) (hn : n ≤ 32) (W : World) : (Instr.makeSlice 25 (.int .i64 (n : Int)) (.int .i64 (n : Int))).run Try.prog W = .ok (.slice (some ⟨W.heap.size, 0, none⟩) n n) (mkI n W) :=
  run_make_row' (P := Try.prog) 25 3 (.int .i64 0) 8 Try.underlying25 (by kernel_rfl) rfl .i64 .i64 n (by omega) (by omega) W
end Go.Proofs.Yticickicfigpbaa
