/- Rows of cells that a call made, and slices of integers that are read. No conditions. -/
import Derived.Test.YticickicfigpbaaMem
import Derived.Deep.OwnRows
import Derived.Deep.Draws
namespace Go.Proofs.Yticickicfigpbaa
open Go.RowKit

/-- Block g is just these cells, none of them frozen. -/
def RowOf (w : World) (g : Nat) (t : TypeId) (vs : List Value) : Prop := w.heap[g]? = some (.cells vs.toArray t (0, 0))
section
variable {w w' : World} {g : Nat} {t : TypeId} {vs : List Value}
theorem RowOf.lt (h : RowOf w g t vs) : g < w.heap.size := (Array.getElem?_eq_some_iff.1 h).1
theorem RowOf.cell (h : RowOf w g t vs) {i : Nat} {v : Value} (hv : vs[i]? = some v) : w.cell? ⟨g, i, none⟩ = some v := by
  unfold RowOf at h
  simp [World.cell?, h, hv]
theorem RowOf.frozen (h : RowOf w g t vs) (i : Nat) : w.frozen? ⟨g, i, none⟩ = false := by
  unfold RowOf at h
  simp [World.frozen?, h]
theorem RowOf.alloc (h : RowOf w g t vs) (o : Obj) : RowOf (w.alloc o) g t vs := (Below.heap_alloc w o g h.lt).trans h
theorem RowOf.set_ (h : RowOf w g t vs) (i : Nat) (v : Value) : RowOf (w.setCell ⟨g, i, none⟩ v) g t (vs.set i v) := by
  unfold RowOf at h ⊢
  simp [World.setCell, Array.getElem?_modify, h]
theorem RowOf.far (h : RowOf w g t vs) {p : Addr} (hp : g ≠ p.block) (v : Value) : RowOf (w.setCell p v) g t vs := (Below.heap_setCell w p v g hp).trans h
theorem RowOf.below {B : Nat} (h : RowOf w g t vs) (hb : Below B w w') (hg : g < B) : RowOf w' g t vs := (hb.block g hg).trans h
theorem RowOf.keep (h : RowOf w g t vs) (hb : Below w.heap.size w w') : RowOf w' g t vs := h.below hb h.lt
theorem RowOf.drew (h : RowOf w g t vs) : RowOf w.drew g t vs := h
theorem RowOf.made (w : World) (z : Value) (n : Nat) (t : TypeId) : RowOf (w.alloc (.cells (madeCells #[z] n) t)) w.heap.size t (List.replicate n z) := by
  have h := (MapKept.heap_alloc w (.cells (madeCells #[z] n) t)).1
  unfold RowOf
  rw [h]
  congr 2
  apply Array.ext
  · simp [size_madeCells]
  · intro i h1 h2
    simp [madeCells, Nat.mod_one]
end

/-- A slice of integers reads as a list, below block B. -/
def IntsAt (w : World) (B : Nat) (A : Option Addr) (n : Nat) (xs : List Int) : Prop :=
  xs.length = n ∧ (0 < n → ∃ b off, A = some ⟨b, off, none⟩ ∧ b < B ∧ ∀ i x, xs[i]? = some x → w.cell? ⟨b, off + i, none⟩ = some (.int .i64 x))
section
variable {w w' : World} {B B' n : Nat} {A : Option Addr} {xs : List Int}
theorem IntsAt.keep (h : IntsAt w B A n xs) (hk : ∀ p : Addr, p.block < B → w'.cell? p = w.cell? p) : IntsAt w' B A n xs :=
  ⟨h.1, fun hn => by
    obtain ⟨b, off, e, hb, hc⟩ := h.2 hn
    exact ⟨b, off, e, hb, fun i x hx => (hk _ hb).trans (hc i x hx)⟩⟩
theorem IntsAt.more (h : IntsAt w B A n xs) (hB : B ≤ B') : IntsAt w B' A n xs :=
  ⟨h.1, fun hn => by
    obtain ⟨b, off, e, hb, hc⟩ := h.2 hn
    exact ⟨b, off, e, by omega, hc⟩⟩
theorem IntsAt.below (h : IntsAt w B A n xs) (hb : Below B w w') : IntsAt w' B A n xs := h.keep fun _ hp => hb.cell hp
theorem IntsAt.go_ (h : IntsAt w w.heap.size A n xs) (hb : Below w.heap.size w w') : IntsAt w' w'.heap.size A n xs := (h.below hb).more hb.size
theorem IntsAt.drew (h : IntsAt w B A n xs) : IntsAt w.drew B A n xs := h
theorem IntsAt.drewN (h : IntsAt w B A n xs) (k : Nat) : IntsAt (w.drewN k) B A n xs := h
theorem IntsAt.alloc (h : IntsAt w B A n xs) (hB : B ≤ w.heap.size) (o : Obj) : IntsAt (w.alloc o) B A n xs := h.keep fun p hp => World.cell?_alloc_lt w o p (by omega)
theorem IntsAt.at_ {k : Nat} (h : IntsAt w B A n xs) (hk : k < n) : ∃ b off x, A = some ⟨b, off, none⟩ ∧ b < B ∧ xs[k]? = some x ∧ w.cell? ⟨b, off + k, none⟩ = some (.int .i64 x) := by
  obtain ⟨b, off, e, hb, hc⟩ := h.2 (by omega)
  have hl : k < xs.length := by have := h.1; omega
  exact ⟨b, off, xs[k], e, hb, List.getElem?_eq_getElem hl, hc k _ (List.getElem?_eq_getElem hl)⟩
theorem IntsAt.nil_ (w : World) (B : Nat) (A : Option Addr) : IntsAt w B A 0 [] := ⟨rfl, fun h => absurd h (by omega)⟩
theorem IntsAt.of_row {g : Nat} {t : TypeId} (h : RowOf w g t (xs.map (Value.int .i64))) (hg : g < B) : IntsAt w B (some ⟨g, 0, none⟩) xs.length xs :=
  ⟨rfl, fun _ => ⟨g, 0, rfl, hg, fun i x hx => by rw [Nat.zero_add]; exact h.cell (by simp [hx])⟩⟩
theorem IntsAt.of_own {base : Nat} {t : TypeId} {cap : Nat} (h : w.ownsRow base t 1 (.slice A n cap) n (xs.map (Value.int .i64))) (hB : w.heap.size ≤ B) : IntsAt w B A n xs := by
  refine ⟨by have := h.1; simpa using this, fun hn => ?_⟩
  rcases h.2 with ⟨_, h0⟩ | ⟨g, cap', cur, hv, _, hg, _, _, _, htake⟩
  · omega
  · have hA : A = some ⟨g, 0, none⟩ := by injection hv
    subst hA
    have hlt : g < w.heap.size := (Array.getElem?_eq_some_iff.1 hg).1
    refine ⟨g, 0, rfl, by omega, fun i x hx => ?_⟩
    have hc : cur[i]? = some (.int .i64 x) := by
      have h1 : (cur.toList.take (n * 1))[i]? = some (.int .i64 x) := by rw [htake]; simp [hx]
      rw [List.getElem?_take] at h1
      split at h1
      · simpa using h1
      · cases h1
    simp [World.cell?, hg, hc]
end
end Go.Proofs.Yticickicfigpbaa
