/- Who may go next, told by words: each that is left of its neighbours lacks only itself of them. Plain facts, of no program. -/
import Derived.Test.YticickicfigpbaaElimP
import Derived.Test.YticickicfigpbaaWords
import Derived.Test.YticickicfigpbaaAdj
namespace Go.Proofs.Yticickicfigpbaa

/-- Of a word each member lacks, of the word, only itself. -/
def CrowdL (xs : List Nat) (n s : Nat) : Prop := ∀ i, i < n → s.testBit i = true → diffW s (xs.getD i 0) = 2 ^ i
theorem diffW_ten {a b : Nat} (ha : a < 1024) (hb : b < 4294967296) : diffW a b < 1024 := by
  rw [show 1024 = 2 ^ 10 from rfl]
  apply Nat.lt_pow_two_of_testBit
  intro j hj
  rw [diffW_testBit _ _ j (by omega) hb, Nat.testBit_lt_two_pow (Nat.lt_of_lt_of_le (show a < 2 ^ 10 from ha) (Nat.pow_le_pow_right (by decide) hj))]
  rfl
section
variable {adj : Nat → Nat → Bool} {m i G : Nat} {l xs : List Nat}
theorem crowd_simp (hr : ∀ i, adj i i = false) (hlt : ∀ i j, adj i j = true → j < m) (hb : ∀ i j, i < m → (xs.getD i 0).testBit j = adj i j) (hx : ∀ i, xs.getD i 0 < 1024) (hG : ∀ j, G.testBit j = decide (j ∈ l)) (hGl : G < 1024) (hi : i < m) :
    CrowdL xs m (diffW (xs.getD i 0) G) ↔ SimpP adj (restB m l) i := by
  have hdl : diffW (xs.getD i 0) G < 1024 := diffW_ten (hx i) (by omega)
  have hbit : ∀ j, (diffW (xs.getD i 0) G).testBit j = (adj i j && !decide (j ∈ l)) := fun j => by
    rw [diffW_testBit _ _ j (by have := hx i; omega) (by omega), hb i j hi, hG]
  have key : ∀ a, a < m → adj i a = true → a ∉ l → ((∀ j, (diffW (diffW (xs.getD i 0) G) (xs.getD a 0)).testBit j = decide (a = j)) ↔ ∀ j, adj i j = true → j ∉ l → a ≠ j → adj a j = true) := fun a ha h1 h2 => by
    have hb2 : ∀ j, (diffW (diffW (xs.getD i 0) G) (xs.getD a 0)).testBit j = ((adj i j && !decide (j ∈ l)) && !adj a j) := fun j => by
      rw [diffW_testBit _ _ j (by omega) (by have := hx a; omega), hbit, hb a j ha]
    constructor
    · intro h j h3 h4 h5
      have h6 := h j
      rw [hb2, h3, decide_eq_false h4, decide_eq_false h5] at h6
      cases hq : adj a j with
      | true => rfl
      | false => rw [hq] at h6; cases h6
    · intro h j
      rw [hb2]
      by_cases h5 : a = j
      · subst h5; rw [h1, decide_eq_false h2, hr]; simp
      · rw [decide_eq_false h5]
        cases h3 : adj i j with
        | false => rfl
        | true =>
          by_cases h4 : j ∈ l
          · rw [decide_eq_true h4]; rfl
          · rw [h j h3 h4 h5, decide_eq_false h4]; rfl
  have hpow : ∀ a, (diffW (diffW (xs.getD i 0) G) (xs.getD a 0) = 2 ^ a ↔ ∀ j, (diffW (diffW (xs.getD i 0) G) (xs.getD a 0)).testBit j = decide (a = j)) := fun a => by
    constructor
    · intro h j; rw [h, Nat.testBit_two_pow]
    · intro h; apply Nat.eq_of_testBit_eq; intro j; rw [h, Nat.testBit_two_pow]
  constructor
  · intro h a b ha hb' g1 g2 hne
    have q := h a (restB_iff.1 ha).1 (by rw [hbit, g1, decide_eq_false (restB_iff.1 ha).2]; rfl)
    exact (key a (restB_iff.1 ha).1 g1 (restB_iff.1 ha).2).1 ((hpow a).1 q) b g2 (restB_iff.1 hb').2 hne
  · intro h a ha hbt
    rw [hbit, Bool.and_eq_true, Bool.not_eq_true', decide_eq_false_iff_not] at hbt
    exact (hpow a).2 ((key a ha hbt.1 hbt.2).2 fun j h3 h4 h5 => h a j (restB_iff.2 ⟨ha, hbt.2⟩) (restB_iff.2 ⟨hlt i j h3, h4⟩) hbt.1 h3 h5)
/-- The word of those that are gone, and one more. -/
theorem gone_more (hG : ∀ j, G.testBit j = decide (j ∈ l)) (j : Nat) : (G ||| 2 ^ i).testBit j = decide (j ∈ l ++ [i]) := by
  rw [Nat.testBit_or, Nat.testBit_two_pow, hG, Bool.eq_iff_iff, Bool.or_eq_true, decide_eq_true_iff, decide_eq_true_iff, decide_eq_true_iff, List.mem_append, List.mem_singleton]
  exact ⟨fun h => h.imp id Eq.symm, fun h => h.imp id Eq.symm⟩
theorem gone_lt {m : Nat} (hG : ∀ j, G.testBit j = decide (j ∈ l)) (hl : ∀ x ∈ l, x < m) : G < 2 ^ m := by
  apply Nat.lt_pow_two_of_testBit
  intro j hj
  rw [hG]
  exact decide_eq_false fun h => by have := hl j h; omega
/-- May i go? -/
theorem can_iff (hs : ∀ i j, adj i j = adj j i) (hr : ∀ i, adj i i = false) (hlt : ∀ i j, adj i j = true → j < m) (hb : ∀ i j, i < m → (xs.getD i 0).testBit j = adj i j) (hx : ∀ i, xs.getD i 0 < 1024) (hG : ∀ j, G.testBit j = decide (j ∈ l)) (hGl : G < 1024) (hi : i < m) :
    simpB adj m l i = true ↔ G.testBit i = false ∧ CrowdL xs m (diffW (xs.getD i 0) G) := by
  rw [simpB_iff hs, crowd_simp hr hlt hb hx hG hGl hi, hG, decide_eq_false_iff_not]
end
end Go.Proofs.Yticickicfigpbaa
