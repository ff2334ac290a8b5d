/- What is wrong with wishes: plain facts; two blocks that were made. -/
import Derived.Test.YtmelgnfhocofiaaSide
import Derived.Test.YtmelgnfhocofiaaEachB
import Derived.Laws.Rows
namespace Go.Proofs.Ytmelgnfhocofiaa
open Go.RowKit

/-- What is wrong with wishes: 0 nothing. -/
def wishF (Ls Rs : List (List Int)) : Int :=
  if 8 < Ls.length ∨ 8 < Rs.length then 1 else if Ls.length ≠ Rs.length then 3 else if (Ls ++ Rs).all (eachB Ls.length) = true then 0 else 2
theorem wishF_large {Ls Rs : List (List Int)} (h : 8 < Ls.length ∨ 8 < Rs.length) : wishF Ls Rs = 1 := by unfold wishF; rw [if_pos h]
theorem wishF_form {Ls Rs : List (List Int)} (h1 : Ls.length ≤ 8) (h2 : Rs.length ≤ 8) (h : Ls.length ≠ Rs.length) : wishF Ls Rs = 3 := by unfold wishF; rw [if_neg (by omega), if_pos h]
theorem wishF_ok {Ls Rs : List (List Int)} (h1 : Ls.length ≤ 8) (h : Ls.length = Rs.length) (ha : (Ls ++ Rs).all (eachB Ls.length) = true) : wishF Ls Rs = 0 := by unfold wishF; rw [if_neg (by omega), if_neg (by omega), if_pos ha]
theorem wishF_arg {Ls Rs : List (List Int)} {i : Nat} {xs : List Int} (h1 : Ls.length ≤ 8) (h : Ls.length = Rs.length) (hi : (Ls ++ Rs)[i]? = some xs) (hx : eachB Ls.length xs = false) : wishF Ls Rs = 2 := by
  unfold wishF; rw [if_neg (by omega), if_neg (by omega), if_neg]
  intro ha
  rw [List.all_eq_true.1 ha xs (List.mem_of_getElem? hi)] at hx
  cases hx

/-- A block that was made behind another one holds what it was made with. -/
theorem two_cell (w : World) (o : Obj) (cs : Array Value) (t : TypeId) (j : Nat) : ((w.alloc o).alloc (.cells cs t)).cell? ⟨w.heap.size + 1, j, none⟩ = cs[j]? := by
  have h := (MapKept.heap_alloc (w.alloc o) (.cells cs t)).1
  rw [show (w.alloc o).heap.size = w.heap.size + 1 by simp] at h
  exact cell_of_row _ _ j cs t (0, 0) h
theorem two_below (w : World) (o o' : Obj) : Below w.heap.size w ((w.alloc o).alloc o') := ((Below.refl _ _).alloc (Nat.le_refl _) _).alloc (by simp) _
theorem two_size (w : World) (o o' : Obj) : ((w.alloc o).alloc o').heap.size = w.heap.size + 2 := by simp
end Go.Proofs.Ytmelgnfhocofiaa
