/- Shortest detours, where a step may cost less than nothing: round by round; a ring that costs less than nothing shows on the diagonal, and only then. Plain facts, of no program. -/
import Derived.Test.YtkpejmpnbdblbaaPotP
namespace Go.Proofs.Ytkpejmpnbdblbaa

/-- One round: by way of k. -/
def fwStep (D : Nat → Nat → Option Int) (k i j : Nat) : Option Int :=
  match D i k, D k j with
  | some a, some b => match D i j with
    | some c => if a + b < c then some (a + b) else some c
    | none => some (a + b)
  | _, _ => D i j
def fwR (E : Nat → Nat → Option Int) : Nat → Nat → Nat → Option Int
  | 0 => E
  | k + 1 => fwStep (fwR E k) k
section
variable {D : Nat → Nat → Option Int} {k i j : Nat} {a b c : Int}
theorem fwStep_le (h : D i j = some c) : ∃ c', fwStep D k i j = some c' ∧ c' ≤ c := by
  unfold fwStep
  rw [h]
  cases D i k <;> cases D k j <;> simp only
  · exact ⟨c, rfl, Int.le_refl _⟩
  · exact ⟨c, rfl, Int.le_refl _⟩
  · exact ⟨c, rfl, Int.le_refl _⟩
  · split
    · exact ⟨_, rfl, by omega⟩
    · exact ⟨c, rfl, Int.le_refl _⟩
theorem fwStep_via (h1 : D i k = some a) (h2 : D k j = some b) : ∃ c, fwStep D k i j = some c ∧ c ≤ a + b := by
  unfold fwStep
  rw [h1, h2]
  cases D i j <;> simp only
  · exact ⟨_, rfl, Int.le_refl _⟩
  · split
    · exact ⟨_, rfl, Int.le_refl _⟩
    · exact ⟨_, rfl, by omega⟩
theorem fwStep_from (h : fwStep D k i j = some c) : D i j = some c ∨ ∃ a b, D i k = some a ∧ D k j = some b ∧ c = a + b := by
  unfold fwStep at h
  cases h1 : D i k with
  | none => rw [h1] at h; exact .inl h
  | some a =>
    cases h2 : D k j with
    | none => rw [h1, h2] at h; exact .inl h
    | some b =>
      rw [h1, h2] at h
      cases h3 : D i j with
      | none => rw [h3] at h; simp only [Option.some.injEq] at h; exact .inr ⟨a, b, rfl, rfl, h.symm⟩
      | some d =>
        rw [h3] at h
        simp only at h
        split at h
        · simp only [Option.some.injEq] at h; exact .inr ⟨a, b, rfl, rfl, h.symm⟩
        · exact .inl h
/-- What leads to k, or comes from it, stays in round k. -/
theorem fwStep_col (hk : ∀ z, D k k = some z → 0 ≤ z) (i : Nat) : fwStep D k i k = D i k := by
  cases h : D i k with
  | none =>
    cases h2 : fwStep D k i k with
    | none => rfl
    | some c =>
      rcases fwStep_from h2 with h3 | ⟨a, b, h3, _⟩ <;> rw [h] at h3 <;> cases h3
  | some a =>
    obtain ⟨c, h1, h2⟩ := fwStep_le (k := k) h
    rw [h1]
    rcases fwStep_from h1 with h3 | ⟨a', b, h3, h4, rfl⟩
    · rw [h] at h3; exact h3.symm
    · rw [h] at h3
      injection h3 with h3
      have := hk b h4
      congr 1; omega
theorem fwStep_row (hk : ∀ z, D k k = some z → 0 ≤ z) (j : Nat) : fwStep D k k j = D k j := by
  cases h : D k j with
  | none =>
    cases h2 : fwStep D k k j with
    | none => rfl
    | some c =>
      rcases fwStep_from h2 with h3 | ⟨a, b, _, h3, _⟩ <;> rw [h] at h3 <;> cases h3
  | some a =>
    obtain ⟨c, h1, h2⟩ := fwStep_le (k := k) h
    rw [h1]
    rcases fwStep_from h1 with h3 | ⟨b, a', h4, h3, rfl⟩
    · rw [h] at h3; exact h3.symm
    · rw [h] at h3
      injection h3 with h3
      have := hk b h4
      congr 1; omega
end
section
variable {E : Nat → Nat → Option Int} {A : Nat → Nat → Int → Prop} {n : Nat}
theorem fwR_le {i j : Nat} {c : Int} (h : E i j = some c) : ∀ k, ∃ c', fwR E k i j = some c' ∧ c' ≤ c
  | 0 => ⟨c, h, Int.le_refl _⟩
  | k + 1 => by
    obtain ⟨d, h1, h2⟩ := fwR_le h k
    obtain ⟨e, h3, h4⟩ := fwStep_le (k := k) h1
    exact ⟨e, h3, by omega⟩
/-- By way of what has been gone through nothing is shorter. -/
theorem fwR_tri : ∀ k, (∀ l, l < k → ∀ i z, fwR E l i i = some z → 0 ≤ z) → ∀ m, m < k → ∀ i j a b, fwR E k i m = some a → fwR E k m j = some b → ∃ c, fwR E k i j = some c ∧ c ≤ a + b
  | 0, _, m, hm, _, _, _, _, _, _ => absurd hm (by omega)
  | k + 1, hd, m, hm, i, j, a, b, ha, hb => by
    have hkk : ∀ z, fwR E k k k = some z → 0 ≤ z := hd k (by omega) k
    have ih := fwR_tri k fun l hl => hd l (by omega)
    rcases Nat.lt_or_ge m k with hmk | hmk
    · have ih := ih m hmk
      rcases fwStep_from (show fwStep (fwR E k) k i m = some a from ha) with h1 | ⟨a1, a2, h1, h2, rfl⟩ <;> rcases fwStep_from (show fwStep (fwR E k) k m j = some b from hb) with h3 | ⟨b1, b2, h3, h4, rfl⟩
      · obtain ⟨c, h5, h6⟩ := ih i j a b h1 h3
        obtain ⟨d, h7, h8⟩ := fwStep_le (k := k) h5
        exact ⟨d, h7, by omega⟩
      · obtain ⟨c, h5, h6⟩ := ih i k a b1 h1 h3
        obtain ⟨d, h7, h8⟩ := fwStep_via h5 h4
        exact ⟨d, h7, by omega⟩
      · obtain ⟨c, h5, h6⟩ := ih k j a2 b h2 h3
        obtain ⟨d, h7, h8⟩ := fwStep_via h1 h5
        exact ⟨d, h7, by omega⟩
      · obtain ⟨c, h5, h6⟩ := ih k k a2 b1 h2 h3
        have := hkk c h5
        obtain ⟨d, h7, h8⟩ := fwStep_via h1 h4
        exact ⟨d, h7, by omega⟩
    · obtain rfl : m = k := by omega
      have h1 : fwR E m i m = some a := by rw [← fwStep_col hkk i]; exact ha
      have h2 : fwR E m m j = some b := by rw [← fwStep_row hkk j]; exact hb
      exact fwStep_via h1 h2
/-- A walk, by its steps. -/
inductive WalkI (A : Nat → Nat → Int → Prop) : Nat → Nat → Int → Prop
  | nil (i : Nat) : WalkI A i i 0
  | step {i j k : Nat} {c d : Int} : A i j c → WalkI A j k d → WalkI A i k (c + d)
theorem WalkI.trans {i j k : Nat} {c d : Int} (h : WalkI A i j c) (h2 : WalkI A j k d) : WalkI A i k (c + d) := by
  induction h with
  | nil i => rw [Int.zero_add]; exact h2
  | step ha _ ih => rw [Int.add_assoc]; exact .step ha (ih h2)
theorem sumI_first (f : Nat → Int) : ∀ n, sumI f (n + 1) = f 0 + sumI (fun t => f (t + 1)) n
  | 0 => by simp [sumI]
  | n + 1 => by
    have := sumI_first f n
    simp only [sumI] at this ⊢
    omega
theorem WalkI.walkC {i j : Nat} {c : Int} (h : WalkI A i j c) : ∃ k p cs, WalkC A k p cs ∧ p 0 = i ∧ p k = j ∧ sumI cs k = c := by
  induction h with
  | nil i => exact ⟨0, fun _ => i, fun _ => 0, fun t ht => absurd ht (by omega), rfl, rfl, rfl⟩
  | @step i j k c d ha _ ih =>
    obtain ⟨l, p, cs, h1, h2, h3, h4⟩ := ih
    refine ⟨l + 1, fun t => match t with | 0 => i | t + 1 => p t, fun t => match t with | 0 => c | t + 1 => cs t, fun t ht => ?_, rfl, h3, ?_⟩
    · cases t with
      | zero => show A i (p 0) c; rw [h2]; exact ha
      | succ t => exact h1 t (by omega)
    · rw [sumI_first]; show c + sumI cs l = _; rw [h4]
theorem fwR_walk (hE : ∀ i j c, E i j = some c → (i = j ∧ c = 0) ∨ A i j c) : ∀ k i j c, fwR E k i j = some c → WalkI A i j c
  | 0, i, j, c, h => by
    rcases hE i j c h with ⟨rfl, rfl⟩ | h
    · exact .nil i
    · have := WalkI.step h (.nil j)
      rwa [Int.add_zero] at this
  | k + 1, i, j, c, h => by
    rcases fwStep_from (show fwStep (fwR E k) k i j = some c from h) with h1 | ⟨a, b, h1, h2, rfl⟩
    · exact fwR_walk hE k i j c h1
    · exact (fwR_walk hE k i k a h1).trans (fwR_walk hE k k j b h2)
/-- What is below nothing on the diagonal is a ring that costs less than nothing. -/
theorem fwR_neg (hE : ∀ i j c, E i j = some c → (i = j ∧ c = 0) ∨ A i j c) {k i : Nat} {z : Int} (h : fwR E k i i = some z) (hz : z < 0) : ¬ NoNeg A := fun hN => by
  obtain ⟨l, p, cs, h1, h2, h3, h4⟩ := (fwR_walk hE k i i z h).walkC
  have := hN l p cs h1 (h2.trans h3.symm)
  omega
/-- And if none ever is, then there is no such ring. -/
theorem fwR_none (hA : ∀ i j c, A i j c → i < n ∧ j < n) (hE : ∀ i j c, A i j c → ∃ c', E i j = some c' ∧ c' ≤ c) (hd : ∀ l, l ≤ n → ∀ i z, fwR E l i i = some z → 0 ≤ z) : NoNeg A := fun k p c hw he => by
  have tri := fwR_tri (E := E) n fun l hl => hd l (by omega)
  have key : ∀ t, t < k → ∃ z, fwR E n (p 0) (p (t + 1)) = some z ∧ z ≤ sumI c (t + 1) := fun t => by
    induction t with
    | zero =>
      intro ht
      obtain ⟨c', h1, h2⟩ := hE _ _ _ (hw 0 ht)
      obtain ⟨d, h3, h4⟩ := fwR_le h1 n
      exact ⟨d, h3, by simp only [sumI]; omega⟩
    | succ t ih =>
      intro ht
      obtain ⟨z, h1, h2⟩ := ih (by omega)
      obtain ⟨c', h3, h4⟩ := hE _ _ _ (hw (t + 1) ht)
      obtain ⟨d, h5, h6⟩ := fwR_le h3 n
      obtain ⟨e, h7, h8⟩ := tri (p (t + 1)) (hA _ _ _ (hw (t + 1) ht)).1 _ _ _ _ h1 h5
      refine ⟨e, h7, ?_⟩
      have : sumI c (t + 1 + 1) = sumI c (t + 1) + c (t + 1) := rfl
      omega
  cases k with
  | zero => exact Int.le_refl _
  | succ k =>
    obtain ⟨z, h1, h2⟩ := key k (by omega)
    rw [← he] at h1
    have := hd n (Nat.le_refl _) _ _ h1
    omega
/-- No number grows beyond twice as much in a round. -/
theorem fwR_abs {B : Int} (hB : ∀ i j c, E i j = some c → -B ≤ c ∧ c ≤ B) (hB0 : 0 ≤ B) : ∀ k i j c, fwR E k i j = some c → -(B * 2 ^ k) ≤ c ∧ c ≤ B * 2 ^ k
  | 0, i, j, c, h => by have := hB i j c h; simp; omega
  | k + 1, i, j, c, h => by
    have ih := fwR_abs hB hB0 k
    have e : B * 2 ^ (k + 1) = B * 2 ^ k + B * 2 ^ k := by rw [Int.pow_succ, ← Int.mul_assoc]; omega
    have h0 : 0 ≤ B * 2 ^ k := Int.mul_nonneg hB0 (Int.pow_nonneg (by omega))
    rw [e]
    rcases fwStep_from (show fwStep (fwR E k) k i j = some c from h) with h1 | ⟨a, b, h1, h2, rfl⟩
    · have := ih i j c h1; omega
    · have h3 := ih i k a h1
      have h4 := ih k j b h2
      omega
/-- The same, as what is asked: is anything below nothing on the diagonal behind some round? -/
theorem cheaper_iff (hA : ∀ i j c, A i j c → i < n ∧ j < n) (hE : ∀ i j c, E i j = some c → (i = j ∧ c = 0) ∨ (A i j c)) (hE2 : ∀ i j c, A i j c → ∃ c', E i j = some c' ∧ c' ≤ c) (h0 : ∀ i z, E i i = some z → 0 ≤ z) (hn : ∀ l i z, n ≤ i → fwR E l i i = some z → 0 ≤ z) :
    (∃ k i z, k < n ∧ i < n ∧ fwR E (k + 1) i i = some z ∧ z < 0) ↔ ¬ NoNeg A := by
  constructor
  · rintro ⟨k, i, z, _, _, h, hz⟩
    exact fwR_neg hE h hz
  · intro hN
    apply Classical.byContradiction
    intro hno
    refine hN (fwR_none hA hE2 fun l hl i z h => ?_)
    rcases Nat.lt_or_ge i n with hi | hi
    · cases l with
      | zero => exact h0 i z h
      | succ l =>
        apply Classical.byContradiction
        intro hz
        exact hno ⟨l, i, z, by omega, hi, h, by omega⟩
    · exact hn l i z hi h
end
end Go.Proofs.Ytkpejmpnbdblbaa
