/- The largest of the sets that are such, with the least word; the smallest. Crowds and sets apart, as words and as sets. Plain facts, of no program. -/
import Derived.Test.YthnchnamdoobeaaSizeP
import Derived.Test.YthnchnamdoobeaaCrowdP
namespace Go.Proofs.Ythnchnamdoobeaa

/-- Of the words below k: the first of those with the most members. -/
structure MostW (P : Nat → Prop) (f : Nat → Nat) (k b : Nat) : Prop where
  ok : P b
  le : ∀ j, j < k → P j → f j ≤ f b
  first : ∀ j, j < b → P j → f j < f b
  lt : b = 0 ∨ b < k
section
variable {P : Nat → Prop} {f : Nat → Nat} {k b c all : Nat}
theorem MostW.start (h : P 0) : MostW P f 0 0 := ⟨h, fun j hj => absurd hj (Nat.not_lt_zero j), fun j hj => absurd hj (Nat.not_lt_zero j), .inl rfl⟩
theorem MostW.skip (h : MostW P f k b) (hk : ¬ P k) : MostW P f (k + 1) b :=
  ⟨h.ok, fun j hj hp => by
    by_cases e : j = k
    · subst e; exact absurd hp hk
    · exact h.le j (by omega) hp, h.first, h.lt.imp id fun h => by omega⟩
theorem MostW.keep (h : MostW P f k b) (hk : f k ≤ f b) : MostW P f (k + 1) b :=
  ⟨h.ok, fun j hj hp => by
    by_cases e : j = k
    · subst e; exact hk
    · exact h.le j (by omega) hp, h.first, h.lt.imp id fun h => by omega⟩
theorem MostW.take (h : MostW P f k b) (hp : P k) (hk : f b < f k) : MostW P f (k + 1) k :=
  ⟨hp, fun j hj hq => by
    by_cases e : j = k
    · subst e; exact Nat.le_refl _
    · have := h.le j (by omega) hq; omega, fun j hj hq => by have := h.le j hj hq; omega, .inr (by omega)⟩
theorem MostW.below (h : MostW P f k b) (hk : 0 < k) : b < k := by rcases h.lt with e | e <;> omega
theorem MostW.one (hb : MostW P f k b) (hc : MostW P f k c) (hk : 0 < k) : b = c := by
  have b1 := hb.below hk
  have c1 := hc.below hk
  rcases Nat.lt_trichotomy b c with h | h | h
  · have h1 := hc.first b h hb.ok
    have h2 := hb.le c c1 hc.ok
    omega
  · exact h
  · have h1 := hb.first c h hc.ok
    have h2 := hc.le b b1 hb.ok
    omega
/-- Of the words below k, and all: the first of those with the fewest members. -/
structure FewW (P : Nat → Prop) (f : Nat → Nat) (all k b : Nat) : Prop where
  ok : P b
  le : ∀ j, j < k → P j → f b ≤ f j
  first : ∀ j, j < k → j < b → P j → f b < f j
  lt : b = all ∨ b < k
theorem FewW.start (h : P all) : FewW P f all 0 all := ⟨h, fun j hj => absurd hj (Nat.not_lt_zero j), fun j hj => absurd hj (Nat.not_lt_zero j), .inl rfl⟩
theorem FewW.skip (h : FewW P f all k b) (hk : ¬ P k) : FewW P f all (k + 1) b :=
  ⟨h.ok, fun j hj hp => by
    by_cases e : j = k
    · subst e; exact absurd hp hk
    · exact h.le j (by omega) hp, fun j hj hjb hp => by
    by_cases e : j = k
    · subst e; exact absurd hp hk
    · exact h.first j (by omega) hjb hp, h.lt.imp id fun h => by omega⟩
theorem FewW.keep (h : FewW P f all k b) (hall : ∀ j, j < all → f j < f all) (hk : f b ≤ f k) : FewW P f all (k + 1) b :=
  ⟨h.ok, fun j hj hp => by
    by_cases e : j = k
    · subst e; exact hk
    · exact h.le j (by omega) hp, fun j hj hjb hp => by
    by_cases e : j = k
    · subst e
      rcases h.lt with e | e
      · subst e; have := hall j hjb; omega
      · omega
    · exact h.first j (by omega) hjb hp, h.lt.imp id fun h => by omega⟩
theorem FewW.take (h : FewW P f all k b) (hp : P k) (hk : f k < f b) : FewW P f all (k + 1) k :=
  ⟨hp, fun j hj hq => by
    by_cases e : j = k
    · subst e; exact Nat.le_refl _
    · have := h.le j (by omega) hq; omega, fun j _ hj hq => by have := h.le j hj hq; omega, .inr (by omega)⟩
theorem FewW.one (hb : FewW P f all (all + 1) b) (hc : FewW P f all (all + 1) c) : b = c := by
  have b1 : b < all + 1 := by rcases hb.lt with e | e <;> omega
  have c1 : c < all + 1 := by rcases hc.lt with e | e <;> omega
  rcases Nat.lt_trichotomy b c with h | h | h
  · have h1 := hc.first b b1 h hb.ok
    have h2 := hb.le c c1 hc.ok
    omega
  · exact h
  · have h1 := hb.first c c1 h hc.ok
    have h2 := hc.le b b1 hb.ok
    omega
end
theorem few_one {P : Nat → Prop} {f : Nat → Nat} {m b c : Nat} (hb : FewW P f (2 ^ m - 1) (2 ^ m) b) (hc : FewW P f (2 ^ m - 1) (2 ^ m) c) : b = c := by
  have e : 2 ^ m = 2 ^ m - 1 + 1 := by have := Nat.two_pow_pos m; omega
  have h1 : FewW P f (2 ^ m - 1) (2 ^ m - 1 + 1) b := by rw [← e]; exact hb
  have h2 : FewW P f (2 ^ m - 1) (2 ^ m - 1 + 1) c := by rw [← e]; exact hc
  exact h1.one h2
/-- Has each two of a word an edge, or (apart) none? -/
def CrowdW (adj : Nat → Nat → Bool) (ap : Bool) (n w : Nat) : Prop := ∀ i j, j < i → i < n → w.testBit i = true → w.testBit j = true → adj i j = !ap
def bitB (w : Nat) : BS := fun i => w.testBit i
section
variable {adj : Nat → Nat → Bool} {n w : Nat} {K : BS}
theorem crowd_zero (adj : Nat → Nat → Bool) (ap : Bool) (n : Nat) : CrowdW adj ap n 0 := fun i j _ _ h => by simp at h
theorem bit_lt {i : Nat} (hw : w < 2 ^ n) (h : w.testBit i = true) : i < n := by
  apply Nat.lt_of_not_le
  intro hn
  rw [Nat.testBit_lt_two_pow (Nat.lt_of_lt_of_le hw (Nat.pow_le_pow_right (by decide) hn))] at h
  cases h
theorem crowd_clq (hs : ∀ i j, adj i j = adj j i) (hw : w < 2 ^ n) : CrowdW adj false n w ↔ ClqB adj (bitB w) := by
  constructor
  · intro h i j hi hj hne
    rcases Nat.lt_or_gt_of_ne hne with h1 | h1
    · rw [hs]; exact h j i h1 (bit_lt hw hj) hj hi
    · exact h i j h1 (bit_lt hw hi) hi hj
  · intro h i j hij _ hi hj
    exact h i j hi hj (by omega)
theorem crowd_lse (hs : ∀ i j, adj i j = adj j i) (hr : ∀ i, adj i i = false) (hw : w < 2 ^ n) : CrowdW adj true n w ↔ LseB adj (bitB w) := by
  constructor
  · intro h i j hi hj
    rcases Nat.lt_trichotomy i j with h1 | h1 | h1
    · rw [hs]; exact h j i h1 (bit_lt hw hj) hj hi
    · subst h1; exact hr i
    · exact h i j h1 (bit_lt hw hi) hi hj
  · intro h i j _ _ hi hj
    exact h i j hi hj
/-- Each set of the first n is some word. -/
theorem word_of (K : BS) (hK : ∀ i, K i = true → i < n) : ∃ w, w < 2 ^ n ∧ bitB w = K := by
  have h : ∀ n, ∃ w, w < 2 ^ n ∧ ∀ i, i < n → w.testBit i = K i := fun n => by
    induction n with
    | zero => exact ⟨0, by decide, fun i h => by omega⟩
    | succ n ih =>
      obtain ⟨w, h1, h2⟩ := ih
      have h3 : w.testBit n = false := Nat.testBit_lt_two_pow h1
      have h4 : 2 ^ n < 2 ^ (n + 1) := Nat.pow_lt_pow_right (by decide) (Nat.lt_succ_self n)
      cases hk : K n with
      | false =>
        refine ⟨w, by omega, fun i hi => ?_⟩
        by_cases e : i = n
        · subst e; rw [h3, hk]
        · exact h2 i (by omega)
      | true =>
        refine ⟨w ||| 2 ^ n, Nat.or_lt_two_pow (by omega) h4, fun i hi => ?_⟩
        rw [Nat.testBit_or, Nat.testBit_two_pow]
        by_cases e : i = n
        · subst e; simp [hk]
        · have : ¬ n = i := fun e2 => e e2.symm
          rw [h2 i (by omega)]; simp [this]
  obtain ⟨w, h1, h2⟩ := h n
  refine ⟨w, h1, funext fun i => ?_⟩
  unfold bitB
  rcases Nat.lt_or_ge i n with hi | hi
  · exact h2 i hi
  · rw [Nat.testBit_lt_two_pow (Nat.lt_of_lt_of_le h1 (Nat.pow_le_pow_right (by decide) hi))]
    cases hk : K i with
    | false => rfl
    | true => have := hK i hk; omega
theorem size_bitB (hn : n ≤ 32) (hw : w < 2 ^ n) : sizeW w = sizeP (bitB w) n := sizeW_bits hn hw
/-- No crowd has more members than the largest one. -/
theorem MostW.clq_le {b : Nat} (h : MostW (CrowdW adj false n) sizeW (2 ^ n) b) (hs : ∀ i j, adj i j = adj j i) (hn : n ≤ 32) (hK : ∀ i, K i = true → i < n) (hc : ClqB adj K) : sizeP K n ≤ sizeW b := by
  obtain ⟨w, h1, h2⟩ := word_of K hK
  rw [← h2, ← size_bitB hn h1]
  exact h.le w h1 ((crowd_clq hs h1).2 (by rw [h2]; exact hc))
theorem MostW.lse_le {b : Nat} (h : MostW (CrowdW adj true n) sizeW (2 ^ n) b) (hs : ∀ i j, adj i j = adj j i) (hr : ∀ i, adj i i = false) (hn : n ≤ 32) (hK : ∀ i, K i = true → i < n) (hc : LseB adj K) : sizeP K n ≤ sizeW b := by
  obtain ⟨w, h1, h2⟩ := word_of K hK
  rw [← h2, ← size_bitB hn h1]
  exact h.le w h1 ((crowd_lse hs hr h1).2 (by rw [h2]; exact hc))
end
end Go.Proofs.Ythnchnamdoobeaa
