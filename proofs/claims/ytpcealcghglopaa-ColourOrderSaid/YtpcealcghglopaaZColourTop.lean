/- What colour's faces are to tell. -/
import Derived.Test.YtpcealcghglopaaZb9
import Derived.Test.YtpcealcghglopaaZRefCount
import Derived.Test.YtpcealcghglopaaZBox0
import Derived.Test.YtpcealcghglopaaZEachV
namespace Go.Proofs.Ytpcealcghglopaa
open Go.RowKit

def LeastTop (w : World) (n : Int) (es : List E3) (e : Ending) (w' : World) : Prop :=
  (gcheck n es ≠ 0 → e = .returned (.tuple #[.int .i64 0, .slice none 0 0, .int .i64 (gcheck n es)])) ∧
  (gcheck n es = 0 → ∃ k l A' c', LeastC (adjE es) n.toNat k l ∧ e = .returned (.tuple #[.int .i64 (k : Int), .slice A' n.toNat c', .int .i64 0]) ∧ IntsAt w' w'.heap.size A' n.toNat (natG l) ∧ n.toNat ≤ c') ∧ Below w.heap.size w w'
def colR (n : Nat) (col : Nat → Nat) : List Int := (List.range n).map fun j => ((col j : Nat) : Int)
def GreedyTop (w : World) (n : Int) (es : List E3) (xs : List Int) (e : Ending) (w' : World) : Prop :=
  (gcheck n es ≠ 0 → e = .returned (.tuple #[.slice none 0 0, .int .i64 (gcheck n es)])) ∧
  (gcheck n es = 0 → ¬ EachP n.toNat xs → e = .returned (.tuple #[.slice none 0 0, .int .i64 2])) ∧
  (gcheck n es = 0 → ∀ o, natG o = xs → EachP n.toNat xs → ∃ col A' c', GreedL (adjE es) o n.toNat col ∧ e = .returned (.tuple #[.slice A' n.toNat c', .int .i64 0]) ∧ IntsAt w' w'.heap.size A' n.toNat (colR n.toNat col) ∧ n.toNat ≤ c') ∧ Below w.heap.size w w'
def CountTop (w : World) (n : Int) (es : List E3) (k : Int) (e : Ending) (w' : World) : Prop :=
  (gcheck n es ≠ 0 → e = .returned (.tuple #[.int .i64 0, .int .i64 (gcheck n es)])) ∧
  (gcheck n es = 0 → (k < 0 ∨ 12 < k) → e = .returned (.tuple #[.int .i64 0, .int .i64 4])) ∧
  (gcheck n es = 0 → ¬ (k < 0 ∨ 12 < k) → ∃ a, PolA n.toNat (looseE es) a ∧ e = .returned (.tuple #[.int .i64 (a (2 ^ n.toNat - 1) k), .int .i64 0])) ∧ Below w.heap.size w w'
/-- A graph's edges, as they are turned. -/
def edgP (es : List E3) : EdgP := ⟨es.length, fun k => (es.getD k default).1.toNat, fun k => (es.getD k default).2.1.toNat⟩
noncomputable def turnsN (n : Nat) (es : List E3) : Int := aoW (edgP es) (2 ^ n - 1)
def TurnedTop (w : World) (n : Int) (es : List E3) (e : Ending) (w' : World) : Prop :=
  (gcheck n es ≠ 0 → e = .returned (.tuple #[.int .i64 0, .int .i64 (gcheck n es)])) ∧
  (gcheck n es = 0 → e = .returned (.tuple #[.int .i64 (turnsN n.toNat es), .int .i64 0])) ∧ Below w.heap.size w w'
theorem loose_edg {es : List E3} (s : Nat) : looseE es s = true ↔ (edgP es).loose s := by
  unfold looseE EdgP.loose
  rw [List.all_eq_true]
  constructor
  · intro h k hk ⟨h1, h2⟩
    have hk' : k < es.length := hk
    have e : es.getD k default = es[k] := by rw [List.getD_eq_getElem?_getD, List.getElem?_eq_getElem hk']; rfl
    have := h _ (List.getElem_mem hk')
    simp only [edgP, e] at h1 h2
    simp [bothE, h1, h2] at this
  · intro h x hx
    obtain ⟨k, hk⟩ := List.getElem?_of_mem hx
    obtain ⟨hk1, hk2⟩ := List.getElem?_eq_some_iff.1 hk
    have e : es.getD k default = x := by rw [List.getD_eq_getElem?_getD, hk]; rfl
    have := h k hk1
    simp only [edgP, e] at this
    simp only [bothE, Bool.not_eq_true', Bool.and_eq_false_iff]
    cases ha : x.1.toNat with
    | _ =>
      rw [← ha]
      by_cases h1 : s.testBit x.1.toNat = true
      · refine .inr ?_
        cases hb : s.testBit x.2.1.toNat with
        | false => rfl
        | true => exact absurd ⟨h1, hb⟩ this
      · exact .inl (by simpa using h1)
end Go.Proofs.Ytpcealcghglopaa
