/- Lists without repeats have all numbers below a bound, when they are as long. Plain facts, of no program. -/
import Derived.Test.YticickicfigpbaaPlain
namespace Go.Proofs.Yticickicfigpbaa

theorem left_some : ∀ (n : Nat) (l : List Nat), l.length < n → ∃ i, i < n ∧ i ∉ l := fun n l hl => by
  apply Classical.byContradiction
  intro hc
  have hall : ∀ i, i < n → i ∈ l := fun i hi => Classical.byContradiction fun h => hc ⟨i, hi, h⟩
  have key : ∀ (n : Nat) (l : List Nat), (∀ i, i < n → i ∈ l) → n ≤ l.length := fun n => by
    induction n with
    | zero => exact fun _ _ => Nat.zero_le _
    | succ n ih =>
      intro l h
      have h1 := ih (l.filter fun x => x != n) fun i hi => by
        rw [List.mem_filter]
        exact ⟨h i (by omega), by simp; omega⟩
      have h2 : (l.filter fun x => x != n).length < l.length := by
        rw [List.length_filter_lt_length_iff_exists]
        exact ⟨n, h n (by omega), by simp⟩
      omega
  have := key n l hall
  omega
theorem all_of_nodup : ∀ (n : Nat) (l : List Nat), l.Nodup → (∀ x ∈ l, x < n) → n ≤ l.length → ∀ i, i < n → i ∈ l := fun n l hn hl hlen i hi => by
  apply Classical.byContradiction
  intro hc
  have key : ∀ (n : Nat) (l : List Nat), l.Nodup → (∀ x ∈ l, x < n) → l.length ≤ n := fun n => by
    induction n with
    | zero =>
      intro l _ h
      cases l with
      | nil => exact Nat.le_refl _
      | cons x l => exact absurd (h x (List.mem_cons_self ..)) (by omega)
    | succ n ih =>
      intro l hn h
      by_cases hm : n ∈ l
      · have h1 := ih (l.erase n) (hn.erase _) fun x hx => by
          have hx1 := h x (List.mem_of_mem_erase hx)
          have hx2 : x ≠ n := fun e => by
            subst e
            exact (List.Nodup.not_mem_erase hn) hx
          omega
        have h2 := List.length_erase_of_mem hm
        have h3 := List.length_pos_of_mem hm
        omega
      · have h1 := ih l hn fun x hx => by
          have hx1 := h x hx
          have hx2 : x ≠ n := fun e => by subst e; exact hm hx
          omega
        omega
  have h1 := key n (i :: l) (List.nodup_cons.2 ⟨hc, hn⟩) fun x hx => by
    rcases List.mem_cons.1 hx with rfl | hx
    · exact hi
    · exact hl x hx
  simp only [List.length_cons] at h1
  omega
end Go.Proofs.Yticickicfigpbaa
