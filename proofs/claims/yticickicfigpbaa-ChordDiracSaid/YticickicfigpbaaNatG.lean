/- A list of naturals as one of integers. Plain facts, of no program. -/
import Derived.Test.YticickicfigpbaaPlain
namespace Go.Proofs.Yticickicfigpbaa

def natG (l : List Nat) : List Int := l.map fun n : Nat => (n : Int)
theorem natG_get {l : List Nat} {k : Nat} {x : Int} (h : (natG l)[k]? = some x) : ∃ i, l[k]? = some i ∧ x = (i : Int) := by
  unfold natG at h
  rw [List.getElem?_map] at h
  cases hl : l[k]? with
  | none => rw [hl] at h; cases h
  | some i =>
    rw [hl] at h
    injection h with h
    exact ⟨i, rfl, h.symm⟩
theorem natG_at {l : List Nat} {i : Nat} {x : Int} (h : (natG l)[i]? = some x) : x = ((l.getD i 0 : Nat) : Int) := by
  obtain ⟨y, hy, rfl⟩ := natG_get h
  rw [List.getD_eq_getElem?_getD, hy]; rfl
theorem natG_snoc (l : List Nat) (c : Nat) : natG (l ++ [c]) = natG l ++ [(c : Int)] := by simp [natG]
end Go.Proofs.Yticickicfigpbaa
