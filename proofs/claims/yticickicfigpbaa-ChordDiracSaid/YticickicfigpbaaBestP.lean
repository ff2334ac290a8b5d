/- Pairings (each place with its room): none has more pairs than mxR; the first of the best ones, place by place. Plain facts, of no program. -/
import Derived.Test.YticickicfigpbaaOre
namespace Go.Proofs.Yticickicfigpbaa

section
variable (near : Nat → Nat → Bool) (n : Nat)
/-- Is a list, from i on, a pairing? -/
def okP : Nat → (Nat → Nat) → List Int → Prop
  | _, _, [] => True
  | i, c, x :: l => (x = -1 ∧ okP (i + 1) c l) ∨ ∃ j : Nat, x = (j : Int) ∧ j < n ∧ near i j = true ∧ 0 < c j ∧ okP (i + 1) (decC c j) l
/-- May one be given this place, so that no fewer have one? -/
def fitP (r i : Nat) (c : Nat → Nat) (j : Nat) : Bool := near i j && decide (0 < c j) && decide (1 + mxR near n r (i + 1) (decC c j) = mxR near n (r + 1) i c)
def bestP : Nat → Nat → (Nat → Nat) → List Int
  | 0, _, _ => []
  | r + 1, i, c => match (List.range n).find? (fitP near n r i c) with
    | some j => (j : Int) :: bestP r (i + 1) (decC c j)
    | none => -1 :: bestP r (i + 1) c
end
/-- How many have one. -/
def pairedL (l : List Int) : Nat := l.countP fun x => x != -1
section
variable {near : Nat → Nat → Bool} {n : Nat}
theorem pairedL_none (l : List Int) : pairedL (-1 :: l) = pairedL l := by simp [pairedL]
theorem pairedL_some (j : Nat) (l : List Int) : pairedL ((j : Int) :: l) = pairedL l + 1 := by
  unfold pairedL
  rw [List.countP_cons, if_pos (by simp)]
/-- BERGE: no pairing has more. -/
theorem okP_le : ∀ (l : List Int) (i : Nat) (c : Nat → Nat), okP near n i c l → pairedL l ≤ mxR near n l.length i c
  | [], _, _, _ => Nat.zero_le _
  | x :: l, i, c, h => by
    rcases h with ⟨rfl, h⟩ | ⟨j, rfl, hj, hn, hc, h⟩
    · rw [pairedL_none]
      exact Nat.le_trans (okP_le l (i + 1) c h) (mxR_tail _ _ _)
    · rw [pairedL_some]
      have h1 := okP_le l (i + 1) (decC c j) h
      have h2 := mxR_take (r := l.length) (c := c) hj hn hc
      show _ ≤ mxR near n (l.length + 1) i c
      omega
theorem fitP_iff {r i j : Nat} {c : Nat → Nat} : fitP near n r i c j = true ↔ near i j = true ∧ 0 < c j ∧ 1 + mxR near n r (i + 1) (decC c j) = mxR near n (r + 1) i c := by
  unfold fitP; simp [and_assoc]
theorem maxTo_at (f : Nat → Nat) (a : Nat) : ∀ n, maxTo f n a = a ∨ ∃ j, j < n ∧ f j = maxTo f n a
  | 0 => .inl rfl
  | n + 1 => by
    simp only [maxTo]
    rcases Nat.le_total (maxTo f n a) (f n) with h | h
    · exact .inr ⟨n, by omega, by rw [Nat.max_eq_right h]⟩
    · rw [Nat.max_eq_left h]
      rcases maxTo_at f a n with h1 | ⟨j, hj, h1⟩
      · exact .inl h1
      · exact .inr ⟨j, by omega, h1⟩
/-- Where none fits, one goes without, and no fewer have a place. -/
theorem none_fits {r i : Nat} {c : Nat → Nat} (h : ∀ j, j < n → fitP near n r i c j = false) : mxR near n (r + 1) i c = mxR near n r (i + 1) c := by
  rcases maxTo_at (fun j => if near i j = true ∧ 0 < c j then 1 + mxR near n r (i + 1) (decC c j) else 0) (mxR near n r (i + 1) c) n with h1 | ⟨j, hj, h1⟩
  · exact h1
  · have h2 : mxR near n (r + 1) i c = maxTo (fun j => if near i j = true ∧ 0 < c j then 1 + mxR near n r (i + 1) (decC c j) else 0) n (mxR near n r (i + 1) c) := rfl
    by_cases hw : near i j = true ∧ 0 < c j
    · rw [if_pos hw] at h1
      have := h j hj
      rw [Bool.eq_false_iff] at this
      exact absurd (fitP_iff.2 ⟨hw.1, hw.2, h1.trans h2.symm⟩) this
    · rw [if_neg hw] at h1
      have h3 := mxR_tail (near := near) (n := n) r i c
      omega
theorem bestP_len : ∀ (r i : Nat) (c : Nat → Nat), (bestP near n r i c).length = r
  | 0, _, _ => rfl
  | r + 1, i, c => by
    simp only [bestP]
    split
    · rw [List.length_cons, bestP_len r]
    · rw [List.length_cons, bestP_len r]
theorem find_some {p : Nat → Bool} {n j : Nat} (h : (List.range n).find? p = some j) : j < n ∧ p j = true ∧ ∀ k, k < j → p k = false := by
  refine ⟨List.mem_range.1 (List.mem_of_find?_eq_some h), List.find?_some h, fun k hk => ?_⟩
  obtain ⟨_, as_, bs, he, hf⟩ := List.find?_eq_some_iff_append.1 h
  have hl : as_.length = j := by
    have h1 : (List.range n)[as_.length]? = some j := by rw [he]; simp
    rw [List.getElem?_range] at h1
    · injection h1
    · have := congrArg List.length he
      simp at this
      omega
  have hk2 : as_[k]? = some k := by
    have h1 : (List.range n)[k]? = some k := List.getElem?_range (by have := congrArg List.length he; simp at this; omega)
    rw [he, List.getElem?_append_left (by omega)] at h1
    exact h1
  have := hf k (List.mem_of_getElem? hk2)
  simpa using this
theorem find_none {p : Nat → Bool} {n : Nat} (h : (List.range n).find? p = none) : ∀ j, j < n → p j = false := fun j hj => by
  have := List.find?_eq_none.1 h j (List.mem_range.2 hj)
  simpa using this
/-- The first of the best is a pairing, and none has more. -/
theorem bestP_ok : ∀ (r i : Nat) (c : Nat → Nat), okP near n i c (bestP near n r i c) ∧ pairedL (bestP near n r i c) = mxR near n r i c
  | 0, _, _ => ⟨trivial, rfl⟩
  | r + 1, i, c => by
    simp only [bestP]
    split
    · rename_i j hj
      obtain ⟨h1, h2, _⟩ := find_some hj
      obtain ⟨h3, h4, h5⟩ := fitP_iff.1 h2
      obtain ⟨h6, h7⟩ := bestP_ok r (i + 1) (decC c j)
      refine ⟨.inr ⟨j, rfl, h1, h3, h4, h6⟩, ?_⟩
      rw [pairedL_some, h7]
      omega
    · rename_i hj
      obtain ⟨h6, h7⟩ := bestP_ok r (i + 1) c
      refine ⟨.inl ⟨rfl, h6⟩, ?_⟩
      rw [pairedL_none, h7, none_fits (find_none hj)]
/-- Of all the best ones it is the first: where another one first differs, it has none, or a greater place. -/
theorem bestP_first : ∀ (r i : Nat) (c : Nat → Nat) (l : List Int), l.length = r → okP near n i c l → pairedL l = mxR near n r i c →
    l = bestP near n r i c ∨ ∃ k : Nat, k < r ∧ l.take k = (bestP near n r i c).take k ∧ ∃ j : Nat, (bestP near n r i c)[k]? = some (j : Int) ∧ (l[k]? = some (-1) ∨ ∃ j' : Nat, l[k]? = some (j' : Int) ∧ j < j')
  | 0, _, _, l, hl, _, _ => .inl (List.length_eq_zero_iff.1 hl)
  | r + 1, i, c, [], hl, _, _ => by simp at hl
  | r + 1, i, c, x :: l, hl, ho, hp => by
    have hl' : l.length = r := by simpa using hl
    have lift : ∀ (y : Int) (m : List Int), (l = m ∨ ∃ k : Nat, k < r ∧ l.take k = m.take k ∧ ∃ j : Nat, m[k]? = some (j : Int) ∧ (l[k]? = some (-1) ∨ ∃ j' : Nat, l[k]? = some (j' : Int) ∧ j < j')) →
        (y :: l = y :: m ∨ ∃ k : Nat, k < r + 1 ∧ (y :: l).take k = (y :: m).take k ∧ ∃ j : Nat, (y :: m)[k]? = some (j : Int) ∧ ((y :: l)[k]? = some (-1) ∨ ∃ j' : Nat, (y :: l)[k]? = some (j' : Int) ∧ j < j')) := by
      rintro y m (rfl | ⟨k, hk, h1, j, h2, h3⟩)
      · exact .inl rfl
      · exact .inr ⟨k + 1, by omega, by simp [h1], j, by simpa using h2, by simpa using h3⟩
    simp only [bestP]
    split
    · rename_i j hj
      obtain ⟨h1, h2, h3⟩ := find_some hj
      rcases ho with ⟨rfl, ho⟩ | ⟨j', rfl, hj', hn, hc, ho⟩
      · exact .inr ⟨0, by omega, rfl, j, rfl, .inl rfl⟩
      · have hfit : fitP near n r i c j' = true := fitP_iff.2 ⟨hn, hc, by
          rw [pairedL_some] at hp
          have h4 := okP_le l (i + 1) (decC c j') ho
          have h5 := mxR_take (r := r) (c := c) hj' hn hc
          rw [hl'] at h4
          omega⟩
        rcases Nat.lt_trichotomy j' j with h | h | h
        · rw [h3 j' h] at hfit; cases hfit
        · subst h
          refine lift _ _ (bestP_first r (i + 1) (decC c j') l hl' ho ?_)
          rw [pairedL_some] at hp
          have := (fitP_iff.1 h2).2.2
          omega
        · exact .inr ⟨0, by omega, rfl, j, rfl, .inr ⟨j', rfl, h⟩⟩
    · rename_i hj
      have hno := find_none hj
      rcases ho with ⟨rfl, ho⟩ | ⟨j', rfl, hj', hn, hc, ho⟩
      · refine lift _ _ (bestP_first r (i + 1) c l hl' ho ?_)
        rw [pairedL_none] at hp
        rw [hp, none_fits hno]
      · exfalso
        have hfit : fitP near n r i c j' = true := fitP_iff.2 ⟨hn, hc, by
          rw [pairedL_some] at hp
          have h4 := okP_le l (i + 1) (decC c j') ho
          have h5 := mxR_take (r := r) (c := c) hj' hn hc
          rw [hl'] at h4
          omega⟩
        rw [hno j' hj'] at hfit
        cases hfit
end
end Go.Proofs.Yticickicfigpbaa
