/- The first colouring is a colouring; where none is told there is none. Plain facts. -/
import Derived.Test.YticickicfigpbaaPaintF
namespace Go.Proofs.Yticickicfigpbaa

/-- The nodes of a list have colours below k, no edge two alike. -/
structure PartL (adj : Nat → Nat → Bool) (k : Nat) (l : List Nat) : Prop where
  lt : ∀ i, i < l.length → l.getD i 0 < k
  ne : ∀ i j, i < l.length → j < i → adj j i = true → l.getD j 0 ≠ l.getD i 0
section
variable {adj : Nat → Nat → Bool} {k c : Nat} {l : List Nat}
theorem PartL.nil : PartL adj k [] := ⟨fun i hi => absurd hi (by simp), fun i j hi => absurd hi (by simp)⟩
theorem okTo_iff : ∀ j, okTo adj l c j = true ↔ ∀ i, i < j → l.getD i 0 = c → adj i l.length = false
  | 0 => ⟨fun _ i hi => absurd hi (by omega), fun _ => rfl⟩
  | j + 1 => by
    show (okTo adj l c j && (((l.getD j 0 : Nat) != c) || !adj j l.length)) = true ↔ _
    rw [Bool.and_eq_true, okTo_iff j, Bool.or_eq_true, bne_iff_ne, Bool.not_eq_true']
    constructor
    · rintro ⟨h1, h2⟩ i hi hc
      by_cases e : i = j
      · subst e; exact h2.resolve_left fun h => h hc
      · exact h1 i (by omega) hc
    · intro h
      refine ⟨fun i hi hc => h i (by omega) hc, ?_⟩
      by_cases e : l.getD j 0 = c
      · exact .inr (h j (by omega) e)
      · exact .inl e
theorem getD_snoc (l : List Nat) (c i : Nat) : (l ++ [c]).getD i 0 = if i < l.length then l.getD i 0 else if i = l.length then c else 0 := by
  rw [List.getD_eq_getElem?_getD, List.getD_eq_getElem?_getD]
  split
  · rename_i h; rw [List.getElem?_append_left h]
  · rename_i h
    rw [List.getElem?_append_right (by omega)]
    split
    · rename_i e; subst e; simp
    · rename_i e
      rw [List.getElem?_eq_none (by simp; omega)]; rfl
theorem PartL.snoc (h : PartL adj k l) (hc : c < k) (hok : okTo adj l c l.length = true) : PartL adj k (l ++ [c]) := by
  rw [okTo_iff] at hok
  refine ⟨fun i hi => ?_, fun i j hi hj ha => ?_⟩
  · rw [List.length_append, List.length_singleton] at hi
    rw [getD_snoc]
    split
    · rename_i h1; exact h.lt i h1
    · rw [if_pos (by omega)]; exact hc
  · rw [List.length_append, List.length_singleton] at hi
    rw [getD_snoc, getD_snoc, if_pos (show j < l.length by omega)]
    split
    · rename_i h1; exact h.ne i j h1 hj ha
    · rename_i h1
      have e : i = l.length := by omega
      rw [if_pos e]
      intro e2
      have := hok j (by omega) e2
      rw [← e, ha] at this; cases this
theorem paintTo_inv {rec_ : Nat → Option (List Nat)} {ok : Nat → Bool} {m : List Nat} : ∀ {k : Nat}, paintTo rec_ ok k = some m → ∃ c, c < k ∧ ok c = true ∧ rec_ c = some m
  | 0, h => by cases h
  | k + 1, h => by
    cases hq : paintTo rec_ ok k with
    | some m' =>
      have h1 := paintTo_some (Nat.le_succ k) hq
      rw [h] at h1
      injection h1 with h1
      obtain ⟨c, a, b, d⟩ := paintTo_inv hq
      exact ⟨c, by omega, b, by rw [h1]; exact d⟩
    | none =>
      rw [paintTo_step hq] at h
      split at h
      · rename_i h1; exact ⟨k, by omega, h1, h⟩
      · cases h
theorem paintTo_none {rec_ : Nat → Option (List Nat)} {ok : Nat → Bool} : ∀ {k : Nat}, paintTo rec_ ok k = none → ∀ c, c < k → ok c = true → rec_ c = none
  | 0, _, _, hc, _ => absurd hc (by omega)
  | k + 1, h, c, hc, hok => by
    cases hq : paintTo rec_ ok k with
    | some m' =>
      have h1 := paintTo_some (Nat.le_succ k) hq
      rw [h] at h1; cases h1
    | none =>
      by_cases e : c = k
      · subst e
        rw [paintTo_step hq, if_pos hok] at h
        exact h
      · exact paintTo_none hq c (by omega) hok
theorem paint_ok : ∀ (r : Nat) (l m : List Nat), PartL adj k l → paintF adj k r l = some m → PartL adj k m ∧ m.length = l.length + r
  | 0, l, m, h, e => by
    have e' : some l = some m := e
    injection e' with e'
    subst e'
    exact ⟨h, rfl⟩
  | r + 1, l, m, h, e => by
    obtain ⟨c, h1, h2, h3⟩ := paintTo_inv (show paintTo _ _ k = some m from e)
    obtain ⟨h4, h5⟩ := paint_ok r (l ++ [c]) m (h.snoc h1 h2) h3
    exact ⟨h4, by rw [h5]; simp; omega⟩
theorem paint_none {col : Nat → Nat} : ∀ (r : Nat) (l : List Nat), (∀ i, i < l.length → l.getD i 0 = col i) → (∀ i, i < l.length + r → col i < k) → (∀ i j, i < l.length + r → j < i → adj j i = true → col j ≠ col i) → paintF adj k r l ≠ none
  | 0, l, _, _, _ => fun h => by cases h
  | r + 1, l, h1, h2, h3 => fun h => by
    have hok : okTo adj l (col l.length) l.length = true := by
      rw [okTo_iff]
      intro i hi e
      cases ha : adj i l.length with
      | false => rfl
      | true => exact absurd (by rw [← h1 i hi]; exact e) (h3 l.length i (by omega) hi ha)
    have h4 := paintTo_none (show paintTo _ _ k = none from h) (col l.length) (h2 _ (by omega)) hok
    refine paint_none (col := col) r (l ++ [col l.length]) (fun i hi => ?_) (fun i hi => h2 i (by simp at hi; omega)) (fun i j hi hj ha => h3 i j (by simp at hi; omega) hj ha) h4
    rw [List.length_append, List.length_singleton] at hi
    rw [getD_snoc]
    split
    · rename_i h; exact h1 i h
    · rw [if_pos (by omega)]
      have : i = l.length := by omega
      rw [this]
/-- The least number of colours, and a colouring by so many. -/
theorem LeastC.part {n : Nat} (h : LeastC adj n k l) : PartL adj k l ∧ l.length = n := by
  obtain ⟨h1, h2⟩ := paint_ok n [] l PartL.nil h.1
  exact ⟨h1, by simpa using h2⟩
theorem LeastC.le {n k' : Nat} (h : LeastC adj n k l) {col : Nat → Nat} (h1 : ∀ i, i < n → col i < k') (h2 : ∀ i j, i < n → j < i → adj j i = true → col j ≠ col i) : k ≤ k' := by
  apply Nat.le_of_not_lt
  intro hlt
  exact paint_none (col := col) (k := k') n [] (fun i hi => absurd hi (by simp)) (fun i hi => h1 i (by simpa using hi)) (fun i j hi hj ha => h2 i j (by simpa using hi) hj ha) (h.2 k' hlt)
theorem LeastC.le_n {n : Nat} (h : LeastC adj n k l) : k ≤ n := h.le (col := fun i => i) (fun _ hi => hi) fun i j _ hj _ => by omega
theorem leastC_ex (adj : Nat → Nat → Bool) (n : Nat) : ∃ k l, LeastC adj n k l := by
  have hex : ∃ k, ∃ l, paintF adj k n [] = some l := ⟨n, paintF_some n [] (by simp)⟩
  obtain ⟨k, ⟨l, hl⟩, hmin⟩ : ∃ k, (∃ l, paintF adj k n [] = some l) ∧ ∀ k', k' < k → ¬ ∃ l, paintF adj k' n [] = some l := by
    obtain ⟨k0, hk0⟩ := hex
    induction k0 using Nat.strongRecOn with
    | _ k0 ih =>
      by_cases hc : ∃ k', k' < k0 ∧ ∃ l, paintF adj k' n [] = some l
      · obtain ⟨k', h1, h2⟩ := hc
        exact ih k' h1 h2
      · exact ⟨k0, hk0, fun k' h1 h2 => hc ⟨k', h1, h2⟩⟩
  refine ⟨k, l, hl, fun k' hk' => ?_⟩
  cases hq : paintF adj k' n [] with
  | none => rfl
  | some m => exact absurd ⟨m, hq⟩ (hmin k' hk')
theorem LeastC.one {n k' : Nat} {l' : List Nat} (h : LeastC adj n k l) (h' : LeastC adj n k' l') : k = k' ∧ l = l' := by
  have e : k = k' := by
    rcases Nat.lt_trichotomy k k' with hlt | he | hlt
    · have := h'.2 k hlt; rw [h.1] at this; cases this
    · exact he
    · have := h.2 k' hlt; rw [h'.1] at this; cases this
  subst e
  have := h.1
  rw [h'.1] at this
  injection this with this
  exact ⟨rfl, this.symm⟩
end
end Go.Proofs.Yticickicfigpbaa
