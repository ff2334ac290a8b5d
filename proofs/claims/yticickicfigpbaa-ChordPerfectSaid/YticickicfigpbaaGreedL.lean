/- Colouring node by node: each has the least number that no neighbour ahead of it has. Plain facts, of no program. -/
import Derived.Test.YticickicfigpbaaPlain
namespace Go.Proofs.Yticickicfigpbaa

def usedB (adj : Nat → Nat → Bool) (l : List Nat) (col : Nat → Nat) (i c : Nat) : Bool := l.any fun j => adj i j && col j == c
def updN (f : Nat → Nat) (i c : Nat) : Nat → Nat := fun j => if j = i then c else f j
structure GreedL (adj : Nat → Nat → Bool) (o : List Nat) (k : Nat) (col : Nat → Nat) : Prop where
  mex : ∀ t i, t < k → o[t]? = some i → (∀ c, c < col i → usedB adj (o.take t) col i c = true) ∧ usedB adj (o.take t) col i (col i) = false
  rest : ∀ i, i ∉ o.take k → col i = 0
section
variable {adj : Nat → Nat → Bool} {o l : List Nat} {col col' : Nat → Nat} {i k c : Nat}
theorem used_congr (h : ∀ j ∈ l, col j = col' j) (i c : Nat) : usedB adj l col i c = usedB adj l col' i c := by
  unfold usedB
  rw [Bool.eq_iff_iff, List.any_eq_true, List.any_eq_true]
  constructor
  · rintro ⟨j, hj, e⟩
    exact ⟨j, hj, by rw [← h j hj]; exact e⟩
  · rintro ⟨j, hj, e⟩
    exact ⟨j, hj, by rw [h j hj]; exact e⟩
theorem GreedL.start : GreedL adj o 0 (fun _ => 0) := ⟨fun _ _ h => absurd h (by omega), fun _ _ => rfl⟩
theorem get_ahead (hn : o.Nodup) (hi : o[k]? = some i) {t : Nat} (ht : t ≤ k) : i ∉ o.take t := fun hm => by
  obtain ⟨q, hq⟩ := List.getElem?_of_mem hm
  rw [List.getElem?_take] at hq
  split at hq
  · rename_i hqt
    have h1 := (List.getElem?_eq_some_iff.1 hq).1
    have h2 := (List.getElem?_eq_some_iff.1 hi).1
    have e : o[q] = o[k] := by
      rw [(List.getElem?_eq_some_iff.1 hq).2, (List.getElem?_eq_some_iff.1 hi).2]
    exact List.pairwise_iff_getElem.1 hn q k h1 h2 (by omega) e
  · cases hq
theorem GreedL.step (hn : o.Nodup) (h : GreedL adj o k col) (hi : o[k]? = some i) (h1 : ∀ c', c' < c → usedB adj (o.take k) col i c' = true) (h2 : usedB adj (o.take k) col i c = false) : GreedL adj o (k + 1) (updN col i c) := by
  have hsame : ∀ t, t ≤ k → ∀ j ∈ o.take t, updN col i c j = col j := fun t ht j hj => by
    unfold updN
    rw [if_neg]
    rintro rfl
    exact get_ahead hn hi ht hj
  refine ⟨fun t x ht hx => ?_, fun x hx => ?_⟩
  · have hu : ∀ c', usedB adj (o.take t) (updN col i c) x c' = usedB adj (o.take t) col x c' := fun c' => used_congr (fun j hj => hsame t (by omega) j hj) x c'
    by_cases e : t = k
    · subst e
      rw [hi] at hx
      injection hx with hx
      subst hx
      have e2 : updN col i c i = c := if_pos rfl
      rw [e2]
      exact ⟨fun c' hc => by rw [hu]; exact h1 c' hc, by rw [hu]; exact h2⟩
    · have hne : x ≠ i := by
        rintro rfl
        refine get_ahead hn hi (Nat.le_refl k) (List.mem_of_getElem? (i := t) ?_)
        rw [List.getElem?_take, if_pos (by omega)]; exact hx
      have e2 : updN col i c x = col x := if_neg hne
      rw [e2]
      obtain ⟨g1, g2⟩ := h.mex t x (by omega) hx
      exact ⟨fun c' hc => by rw [hu]; exact g1 c' hc, by rw [hu]; exact g2⟩
  · obtain ⟨hk, hk2⟩ := List.getElem?_eq_some_iff.1 hi
    rw [List.take_succ_eq_append_getElem hk, hk2, List.mem_append, List.mem_singleton, not_or] at hx
    unfold updN
    rw [if_neg hx.2]
    exact h.rest x hx.1
/-- There is only one such colouring. -/
theorem GreedL.one (h : GreedL adj o k col) (h' : GreedL adj o k col') (x : Nat) : col x = col' x := by
  have key : ∀ t, t ≤ k → ∀ j ∈ o.take t, col j = col' j := fun t => by
    induction t with
    | zero => intro _ j hj; simp at hj
    | succ t ih =>
      intro ht j hj
      by_cases hl : t < o.length
      · rw [List.take_succ_eq_append_getElem hl, List.mem_append, List.mem_singleton] at hj
        rcases hj with hj | rfl
        · exact ih (by omega) j hj
        · have hx : o[t]? = some o[t] := List.getElem?_eq_getElem hl
          obtain ⟨a1, a2⟩ := h.mex t _ (by omega) hx
          obtain ⟨b1, b2⟩ := h'.mex t _ (by omega) hx
          have hu : ∀ c, usedB adj (o.take t) col o[t] c = usedB adj (o.take t) col' o[t] c := used_congr (ih (by omega)) _
          rcases Nat.lt_trichotomy (col o[t]) (col' o[t]) with h3 | h3 | h3
          · have := b1 _ h3
            rw [← hu, a2] at this
            cases this
          · exact h3
          · have := a1 _ h3
            rw [hu, b2] at this
            cases this
      · rw [List.take_of_length_le (by omega)] at hj
        refine ih (by omega) j ?_
        rw [List.take_of_length_le (by omega)]; exact hj
  by_cases hx : x ∈ o.take k
  · exact key k (Nat.le_refl _) x hx
  · rw [h.rest x hx, h'.rest x hx]
/-- Not all numbers up to that of those ahead are used. -/
theorem used_lt (h : ∀ c', c' ≤ c → usedB adj l col i c' = true) : c < l.length := by
  have hall : ∀ x, x < c + 1 → x ∈ l.map col := fun x hx => by
    have h1 := h x (by omega)
    unfold usedB at h1
    rw [List.any_eq_true] at h1
    obtain ⟨j, hj, e⟩ := h1
    rw [Bool.and_eq_true, beq_iff_eq] at e
    exact List.mem_map.2 ⟨j, hj, e.2⟩
  have key : ∀ (n : Nat) (l : List Nat), (∀ x, x < n → x ∈ l) → n ≤ l.length := fun n => by
    induction n with
    | zero => exact fun _ _ => Nat.zero_le _
    | succ n ih =>
      intro l h
      have h1 := ih (l.filter fun x => x != n) fun x hx => by
        rw [List.mem_filter]
        exact ⟨h x (by omega), by simp; omega⟩
      have h2 : (l.filter fun x => x != n).length < l.length := by
        rw [List.length_filter_lt_length_iff_exists]
        exact ⟨n, h n (by omega), by simp⟩
      omega
  have := key (c + 1) _ hall
  rw [List.length_map] at this
  omega
theorem GreedL.lt (h : GreedL adj o k col) {t : Nat} (ht : t < k) (hi : o[t]? = some i) : col i ≤ t := by
  obtain ⟨h1, _⟩ := h.mex t i ht hi
  rcases Nat.eq_zero_or_pos (col i) with h0 | h0
  · omega
  · have h2 := used_lt (c := col i - 1) (fun c' hc => h1 c' (by omega))
    rw [List.length_take] at h2
    omega
end
end Go.Proofs.Yticickicfigpbaa
