/- Edges as a relation: plain facts that hang on no function of the program. No conditions. -/
import Derived.Test.YticickicfigpbaaWalks
import Derived.Test.YticickicfigpbaaGood
namespace Go.Proofs.Yticickicfigpbaa

/-- Have two nodes an edge? -/
def adjE (es : List E3) (i j : Nat) : Bool := es.any fun e => (e.1 == (i : Int) && e.2.1 == (j : Int)) || (e.1 == (j : Int) && e.2.1 == (i : Int))
theorem adjE_symm (es : List E3) (i j : Nat) : adjE es i j = adjE es j i := by
  unfold adjE
  congr 1
  funext e
  rw [Bool.or_comm]

theorem any_snoc {α : Type} (p : α → Bool) (l : List α) (x : α) : (l ++ [x]).any p = (l.any p || p x) := by simp
theorem adjE_lt {m : Nat} {es : List E3} (hg : goodE m es) {i j : Nat} (h : adjE es i j = true) : i < m ∧ j < m ∧ i ≠ j := by
  unfold adjE at h
  rw [List.any_eq_true] at h
  obtain ⟨e, he, h⟩ := h
  obtain ⟨k, hk⟩ := List.getElem?_of_mem he
  obtain ⟨p0, p1, p2, p3, p4, _⟩ := edge_ok (hg k e hk)
  simp only [Bool.or_eq_true, Bool.and_eq_true, beq_iff_eq] at h
  omega
theorem wk_lt {m : Nat} {es : List E3} (hg : goodE m es) {s : Nat} (hs : s < m) : ∀ {k j : Nat}, wk (adjE es) k s j → j < m
  | 0, _, h => by cases h; exact hs
  | _ + 1, _, ⟨_, _, h⟩ => (adjE_lt hg h).2.1

end Go.Proofs.Yticickicfigpbaa
