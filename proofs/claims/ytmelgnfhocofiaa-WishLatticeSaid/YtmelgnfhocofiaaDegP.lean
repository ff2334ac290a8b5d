/- How much each wishes for each, as 64 numbers: plain facts; a block of numbers of any type. -/
import Derived.Test.YtmelgnfhocofiaaFirstAt
import Derived.Test.YtmelgnfhocofiaaWishF
import Derived.Test.YtmelgnfhocofiaaMat
namespace Go.Proofs.Ytmelgnfhocofiaa
open Go.RowKit

theorem len_le : ∀ {n : Nat} {xs : List Int}, xs.Nodup → (∀ x ∈ xs, 0 ≤ x ∧ x < (n : Int)) → xs.length ≤ n
  | 0, xs, _, h => by
    cases xs with
    | nil => exact Nat.le_refl _
    | cons x xs => have := h x (List.mem_cons_self ..); omega
  | n + 1, xs, hd, h => by
    by_cases hm : ((n : Nat) : Int) ∈ xs
    · have := len_le (n := n) (hd.erase (n : Int)) fun x hx => by
        have h1 := (List.Nodup.mem_erase_iff hd).1 hx
        have := h x h1.2
        have hne : x ≠ (n : Int) := h1.1
        exact ⟨this.1, by omega⟩
      rw [List.length_erase_of_mem hm] at this
      omega
    · have := len_le (n := n) hd fun x hx => by
        have h1 := h x hx
        have hne : x ≠ (n : Int) := fun e => hm (e ▸ hx)
        exact ⟨h1.1, by omega⟩
      omega
def dg (l : List Int) (j : Nat) : Int := if ((j : Nat) : Int) ∈ l then 8 - (ahd l (j : Int) : Int) else 0
def dgF (Ls : List (List Int)) (k : Nat) : Int := dg (Ls.getD (k / 8) []) (k % 8)
/-- In the middle: all of the first i, and p of the next one's. -/
def dgM (Ls : List (List Int)) (i p k : Nat) : Int :=
  if k / 8 < i then dg (Ls.getD (k / 8) []) (k % 8) else if k / 8 = i then (if ((k % 8 : Nat) : Int) ∈ (Ls.getD i []).take p then 8 - (ahd (Ls.getD i []) ((k % 8 : Nat) : Int) : Int) else 0) else 0
section
variable {Ls : List (List Int)} {i p k : Nat}
theorem dgM_zero : dgM Ls 0 0 k = 0 := by
  unfold dgM
  rw [if_neg (by omega), List.take_zero]
  split
  · rw [if_neg (by simp)]
  · rfl
theorem dgM_step {xs : List Int} (hx : Ls.getD i [] = xs) (hd : xs.Nodup) {j : Nat} (hp : xs[p]? = some (j : Int)) (hj : j < 8) : updF (dgM Ls i p) (i * 8 + j) (8 - (p : Int)) = dgM Ls i (p + 1) := by
  funext k
  unfold updF dgM
  rw [hx]
  have htk : ∀ x : Int, x ∈ xs.take (p + 1) ↔ x ∈ xs.take p ∨ x = (j : Int) := fun x => by
    rw [List.take_add_one, hp, List.mem_append]; simp
  by_cases hk : k = i * 8 + j
  · subst hk
    rw [if_pos rfl, if_neg (by omega), if_pos (by omega), show (i * 8 + j) % 8 = j by omega, if_pos ((htk _).2 (.inr rfl)), ahd_at hd hp]
  · rw [if_neg hk]
    by_cases h1 : k / 8 < i
    · rw [if_pos h1, if_pos h1]
    · rw [if_neg h1, if_neg h1]
      by_cases h2 : k / 8 = i
      · rw [if_pos h2, if_pos h2]
        have hne : ((k % 8 : Nat) : Int) ≠ (j : Int) := by omega
        by_cases h3 : ((k % 8 : Nat) : Int) ∈ xs.take p
        · rw [if_pos h3, if_pos ((htk _).2 (.inl h3))]
        · rw [if_neg h3, if_neg fun h => ((htk _).1 h).elim h3 hne]
      · rw [if_neg h2, if_neg h2]
theorem dgM_row (hp : (Ls.getD i []).length ≤ p) : dgM Ls i p k = dgM Ls (i + 1) 0 k := by
  unfold dgM
  rw [List.take_of_length_le hp]
  by_cases h1 : k / 8 < i
  · rw [if_pos h1, if_pos (by omega)]
  · rw [if_neg h1]
    by_cases h2 : k / 8 = i
    · rw [if_pos h2, if_pos (show k / 8 < i + 1 by omega), h2]; rfl
    · rw [if_neg h2, if_neg (by omega)]
      split
      · rw [List.take_zero, if_neg (by simp)]
      · rfl
theorem dgM_end (h : Ls.length ≤ i) : dgM Ls i 0 k = dgF Ls k := by
  unfold dgM dgF
  by_cases h1 : k / 8 < i
  · rw [if_pos h1]
  · have e : Ls.getD (k / 8) [] = [] := by rw [List.getD_eq_getElem?_getD, List.getElem?_eq_none (by omega)]; rfl
    rw [if_neg h1, e]
    split
    · rw [List.take_zero, if_neg (by simp)]; simp [dg]
    · simp [dg]
theorem dg_pos {l : List Int} {j : Nat} (hl : l.length ≤ 8) : 0 < dg l j ↔ ((j : Nat) : Int) ∈ l := by
  unfold dg
  by_cases h : ((j : Nat) : Int) ∈ l
  · have := ahd_lt.2 h
    rw [if_pos h]
    exact ⟨fun _ => h, fun _ => by omega⟩
  · rw [if_neg h]
    exact ⟨fun q => absurd q (by omega), fun q => absurd q h⟩
theorem dg_le {l : List Int} {j : Nat} (hl : l.length ≤ 8) : 0 ≤ dg l j ∧ dg l j ≤ 8 := by
  unfold dg
  have := ahd_le l (j : Int)
  split <;> omega
end

/-- A block of numbers. -/
def RowT (w : World) (g : Nat) (t : TypeId) (n : Nat) (F : Nat → Int) : Prop := RowOf w g t ((List.range n).map fun j => Value.int .i64 (F j))
section
variable {w w' : World} {g n : Nat} {t : TypeId} {F : Nat → Int}
theorem RowT.lt (h : RowT w g t n F) : g < w.heap.size := RowOf.lt h
theorem RowT.cell (h : RowT w g t n F) {j : Nat} (hj : j < n) : w.cell? ⟨g, j, none⟩ = some (.int .i64 (F j)) := RowOf.cell h (by rw [List.getElem?_map, List.getElem?_range hj]; rfl)
theorem RowT.frozen (h : RowT w g t n F) (j : Nat) : w.frozen? ⟨g, j, none⟩ = false := RowOf.frozen h j
theorem RowT.set_ (h : RowT w g t n F) (j : Nat) (x : Int) : RowT (w.setCell ⟨g, j, none⟩ (.int .i64 x)) g t n (updF F j x) := by
  have := RowOf.set_ h j (.int .i64 x)
  unfold RowT
  have e : ((List.range n).map fun j => Value.int .i64 (F j)).set j (.int .i64 x) = (List.range n).map fun i => Value.int .i64 (updF F j x i) := by
    apply List.ext_getElem (by simp)
    intro i h1 h2
    rw [List.getElem_set]
    simp only [List.getElem_map, List.getElem_range]
    unfold updF
    by_cases hji : j = i
    · rw [if_pos hji, if_pos hji.symm]
    · rw [if_neg hji, if_neg (fun q => hji q.symm)]
  rw [← e]
  exact this
theorem RowT.congr {F' : Nat → Int} (h : RowT w g t n F) (he : ∀ j, j < n → F j = F' j) : RowT w g t n F' := by
  unfold RowT at *
  have e : ((List.range n).map fun j => Value.int .i64 (F' j)) = (List.range n).map fun j => Value.int .i64 (F j) := List.map_congr_left fun j hj => by rw [he j (List.mem_range.1 hj)]
  rw [e]
  exact h
theorem RowT.keep (h : RowT w g t n F) (hb : Below w.heap.size w w') : RowT w' g t n F := RowOf.keep h hb
theorem RowT.below {B : Nat} (h : RowT w g t n F) (hb : Below B w w') (hg : g < B) : RowT w' g t n F := RowOf.below h hb hg
theorem RowT.far (h : RowT w g t n F) {p : Addr} (hp : g ≠ p.block) (v : Value) : RowT (w.setCell p v) g t n F := RowOf.far h hp v
theorem RowT.of_block (h : RowT w g t n F) (hb : w'.heap[g]? = w.heap[g]?) : RowT w' g t n F := hb.trans h
theorem RowT.alloc (h : RowT w g t n F) (o : Obj) : RowT (w.alloc o) g t n F := RowOf.alloc h o
theorem RowT.drew (h : RowT w g t n F) : RowT w.drew g t n F := h
theorem RowT.drewN (h : RowT w g t n F) (k : Nat) : RowT (w.drewN k) g t n F := h
end
/-- The value of a row. -/
def rowV (n : Nat) (F : Nat → Int) : Value := .agg ((List.range n).map fun j => Value.int .i64 (F j)).toArray
end Go.Proofs.Ytmelgnfhocofiaa
