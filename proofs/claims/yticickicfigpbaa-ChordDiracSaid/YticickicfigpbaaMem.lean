/- How a graph lies in memory: its edges, three cells each. No conditions. -/
import Derived.Test.YticickicfigpbaaPlain
import Derived.WalkKit
import Derived.WalkSpells
import Derived.WalkLawsBesides
import Derived.Lib.Hide
namespace Go.Proofs.Yticickicfigpbaa
open Go.RowKit

def edgeCells (w : World) (b o : Nat) (e : E3) : Prop :=
  w.cell? ⟨b, o, none⟩ = some (.int .i64 e.1) ∧ w.cell? ⟨b, o + 1, none⟩ = some (.int .i64 e.2.1) ∧ w.cell? ⟨b, o + 2, none⟩ = some (.int .i64 e.2.2)

/-- A slice of edges reads as a list, below block B. -/
def EdgesAt (w : World) (B : Nat) (A : Option Addr) (n : Nat) (es : List E3) : Prop :=
  es.length = n ∧ (0 < n → ∃ b off, A = some ⟨b, off, none⟩ ∧ b < B ∧ ∀ i e, es[i]? = some e → edgeCells w b (off + i * 3) e)

section
variable {w w' : World} {B B' n : Nat} {A : Option Addr} {es : List E3}
theorem EdgesAt.keep (h : EdgesAt w B A n es) (hk : ∀ p : Addr, p.block < B → w'.cell? p = w.cell? p) : EdgesAt w' B A n es :=
  ⟨h.1, fun hn => by
    obtain ⟨b, off, e, hb, hc⟩ := h.2 hn
    refine ⟨b, off, e, hb, fun i x hx => ?_⟩
    obtain ⟨h0, h1, h2⟩ := hc i x hx
    exact ⟨(hk _ hb).trans h0, (hk _ hb).trans h1, (hk _ hb).trans h2⟩⟩
theorem EdgesAt.more (h : EdgesAt w B A n es) (hB : B ≤ B') : EdgesAt w B' A n es :=
  ⟨h.1, fun hn => by
    obtain ⟨b, off, e, hb, hc⟩ := h.2 hn
    exact ⟨b, off, e, by omega, hc⟩⟩
theorem EdgesAt.below (h : EdgesAt w B A n es) (hb : Below B w w') : EdgesAt w' B A n es := h.keep fun _ hp => hb.cell hp
theorem EdgesAt.go_ (h : EdgesAt w w.heap.size A n es) (hb : Below w.heap.size w w') : EdgesAt w' w'.heap.size A n es := (h.below hb).more hb.size
theorem EdgesAt.drew (h : EdgesAt w B A n es) : EdgesAt w.drew B A n es := h
theorem EdgesAt.alloc (h : EdgesAt w B A n es) (hB : B ≤ w.heap.size) (o : Obj) : EdgesAt (w.alloc o) B A n es := h.keep fun p hp => World.cell?_alloc_lt w o p (by omega)
theorem EdgesAt.at_ {k : Nat} (h : EdgesAt w B A n es) (hk : k < n) : ∃ b off x, A = some ⟨b, off, none⟩ ∧ b < B ∧ es[k]? = some x ∧ edgeCells w b (off + k * 3) x := by
  obtain ⟨b, off, e, hb, hc⟩ := h.2 (by omega)
  have hl : k < es.length := by have := h.1; omega
  exact ⟨b, off, es[k], e, hb, List.getElem?_eq_getElem hl, hc k _ (List.getElem?_eq_getElem hl)⟩
end

theorem bcell {W w1 : World} {B : Nat} (hb : Below B W w1) : (∀ b o, b < B → w1.cell? ⟨b, o, none⟩ = W.cell? ⟨b, o, none⟩) ∧ (∀ b o, b < B → w1.frozen? ⟨b, o, none⟩ = W.frozen? ⟨b, o, none⟩) :=
  ⟨fun b o h => hb.cell (p := ⟨b, o, none⟩) h, fun b o h => hb.frozen (p := ⟨b, o, none⟩) h⟩
theorem ret_int {k : IntKind} {a b : Int} (h : a = b) : Ending.returned (.int k a) = .returned (.int k b) := by rw [h]
theorem ret_bool {a b : Bool} (h : a = b) : Ending.returned (.bool a) = .returned (.bool b) := by rw [h]
theorem below_drewN {B : Nat} {a w : World} (h : Below B a w) (n : Nat) : Below B a (w.drewN n) := ⟨h.os, h.tape, h.output, h.size, h.block⟩
end Go.Proofs.Yticickicfigpbaa
