/- The least one that is such, from some on. Plain facts, of no program. -/
import Derived.Test.YticickicfigpbaaPlain
namespace Go.Proofs.Yticickicfigpbaa

/-- The least one from i on. -/
def nextF (f : Nat → Bool) (n i : Nat) : Option Nat := (List.range' i (n - i)).find? f
section
variable {f : Nat → Bool} {n i : Nat}
theorem nextF_end : nextF f n n = none := by unfold nextF; rw [Nat.sub_self]; rfl
theorem nextF_step (h : i < n) : nextF f n i = if f i = true then some i else nextF f n (i + 1) := by
  have e : n - i = (n - (i + 1)) + 1 := by omega
  unfold nextF
  rw [e, List.range'_succ, List.find?_cons]
  cases hf : f i with
  | true => rfl
  | false => simp
theorem nextF_some {k : Nat} (h : nextF f n i = some k) : i ≤ k ∧ k < n ∧ f k = true := by
  unfold nextF at h
  have h1 := List.find?_some h
  have h2 := List.mem_of_find?_eq_some h
  rw [List.mem_range'_1] at h2
  exact ⟨h2.1, by omega, h1⟩
theorem nextF_none (h : nextF f n i = none) : ∀ k, i ≤ k → k < n → f k = false := by
  unfold nextF at h
  rw [List.find?_eq_none] at h
  exact fun k h1 h2 => by
    have := h k (by rw [List.mem_range'_1]; omega)
    simpa using this
theorem nextF_first {k : Nat} (h : nextF f n i = some k) : ∀ x, i ≤ x → x < k → f x = false := fun x h1 h2 => by
  obtain ⟨_, h3, _⟩ := nextF_some h
  have key : ∀ d i, i + d = x → nextF f n i = some k → f x = false := fun d => by
    induction d with
    | zero =>
      intro i hi h
      rw [nextF_step (by omega)] at h
      have e : i = x := by omega
      subst e
      split at h
      · injection h with h; omega
      · rename_i h0; simpa using h0
    | succ d ih =>
      intro i hi h
      rw [nextF_step (by omega)] at h
      split at h
      · injection h with h; omega
      · exact ih (i + 1) (by omega) h
  exact key (x - i) i (by omega) h
end
end Go.Proofs.Yticickicfigpbaa
