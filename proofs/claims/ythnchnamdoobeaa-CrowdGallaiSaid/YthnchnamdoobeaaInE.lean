/- Edges that lie among the nodes. Plain facts, of no program. -/
import Derived.Test.YthnchnamdoobeaaAdj
import Derived.Test.YthnchnamdoobeaaGood
namespace Go.Proofs.Ythnchnamdoobeaa

def InE (m : Nat) (es : List E3) : Prop := ∀ e ∈ es, 0 ≤ e.1 ∧ e.1 < (m : Int) ∧ 0 ≤ e.2.1 ∧ e.2.1 < (m : Int)
theorem InE.of_good {m : Nat} {es : List E3} (h : goodE m es) : InE m es := fun e he => by
  obtain ⟨k, hk⟩ := List.getElem?_of_mem he
  obtain ⟨p0, p1, p2, p3, _, _⟩ := edge_ok (h k e hk)
  exact ⟨p0, p1, p2, p3⟩
theorem InE.lt {m : Nat} {es : List E3} (h : InE m es) {i j : Nat} (ha : adjE es i j = true) : i < m ∧ j < m := by
  unfold adjE at ha
  rw [List.any_eq_true] at ha
  obtain ⟨e, he, ha⟩ := ha
  have := h e he
  simp only [Bool.or_eq_true, Bool.and_eq_true, beq_iff_eq] at ha
  omega

end Go.Proofs.Ythnchnamdoobeaa
