/- Who gets what, word by word: a table of what those cost at least who are left tells what the recursion tells. Plain facts, of no program. -/
import Derived.Test.YtmlmnmphmghdlaaDoorAssignP
import Derived.Test.YtmlmnmphmghdlaaDoorWords
namespace Go.Proofs.YtmlmnmphmghdlaaDoor

/-- Of those that are not in the word the first with the least number. -/
structure FirstLe (F : Nat → Int) (n t b : Nat) : Prop where
  lt : b < n
  out : t.testBit b = false
  least : ∀ j, j < n → t.testBit j = false → F b ≤ F j ∧ (F j = F b → b ≤ j)
theorem FirstLe.one {F : Nat → Int} {n t b c : Nat} (h : FirstLe F n t b) (k : FirstLe F n t c) : b = c := by
  obtain ⟨h1, h2⟩ := h.least c k.lt k.out
  obtain ⟨h3, h4⟩ := k.least b h.lt h.out
  have := h2 (by omega)
  have := h4 (by omega)
  omega
theorem FirstLe.congr {F G : Nat → Int} {n t b : Nat} (h : FirstLe F n t b) (he : ∀ j, j < n → t.testBit j = false → F j = G j) : FirstLe G n t b :=
  ⟨h.lt, h.out, fun j hj ht => by rw [← he b h.lt h.out, ← he j hj ht]; exact h.least j hj ht⟩
def minJ (F : Nat → Int) (t : Nat) : Nat → Option Nat
  | 0 => none
  | k + 1 => if t.testBit k = true then minJ F t k else match minJ F t k with
    | none => some k
    | some b => if F k < F b then some k else some b
theorem minJ_ok {F : Nat → Int} {t : Nat} : ∀ k, (∀ b, minJ F t k = some b → FirstLe F k t b) ∧ (minJ F t k = none → ∀ j, j < k → t.testBit j = true)
  | 0 => ⟨fun b h => (by cases h), fun _ j hj => absurd hj (by omega)⟩
  | k + 1 => by
    obtain ⟨i1, i2⟩ := minJ_ok (F := F) (t := t) k
    cases hk : t.testBit k with
    | true =>
      have e : minJ F t (k + 1) = minJ F t k := by simp only [minJ]; rw [if_pos hk]
      rw [e]
      refine ⟨fun b hb => ?_, fun h j hj => ?_⟩
      · have H := i1 b hb
        refine ⟨by have := H.lt; omega, H.out, fun j hj ht => ?_⟩
        by_cases e : j = k
        · subst e; rw [hk] at ht; cases ht
        · exact H.least j (by omega) ht
      · by_cases e : j = k
        · subst e; exact hk
        · exact i2 h j (by omega)
    | false =>
      cases h : minJ F t k with
      | none =>
        have e : minJ F t (k + 1) = some k := by simp only [minJ]; rw [if_neg (by rw [hk]; decide), h]
        rw [e]
        refine ⟨fun b hb => ?_, fun h => by cases h⟩
        injection hb with hb; subst hb
        refine ⟨by omega, hk, fun j hj ht => ?_⟩
        by_cases e : j = k
        · subst e; exact ⟨Int.le_refl _, fun _ => Nat.le_refl _⟩
        · rw [i2 h j (by omega)] at ht; cases ht
      | some c =>
        have e : minJ F t (k + 1) = if F k < F c then some k else some c := by simp only [minJ]; rw [if_neg (by rw [hk]; decide), h]
        have H := i1 c h
        rw [e]
        by_cases hlt : F k < F c
        · rw [if_pos hlt]
          refine ⟨fun b hb => ?_, fun h => by cases h⟩
          injection hb with hb; subst hb
          refine ⟨by omega, hk, fun j hj ht => ?_⟩
          by_cases e : j = k
          · subst e; exact ⟨Int.le_refl _, fun _ => Nat.le_refl _⟩
          · have := (H.least j (by omega) ht).1
            exact ⟨by omega, fun _ => by omega⟩
        · rw [if_neg hlt]
          refine ⟨fun b hb => ?_, fun h => by cases h⟩
          injection hb with hb; subst hb
          have hl := H.lt
          refine ⟨by omega, H.out, fun j hj ht => ?_⟩
          by_cases e : j = k
          · subst e; exact ⟨by omega, fun _ => by omega⟩
          · exact H.least j (by omega) ht
theorem minJ_first {F : Nat → Int} {n t b : Nat} (h : FirstLe F n t b) : minJ F t n = some b := by
  obtain ⟨h1, h2⟩ := minJ_ok (F := F) (t := t) n
  cases hm : minJ F t n with
  | none => have := h2 hm b h.lt; rw [h.out] at this; cases this
  | some c => rw [(h1 c hm).one h]
/-- What those cost at least who are left: r of them, behind a word of what is taken. -/
def dealV (fee : Nat → Nat → Int) (n : Nat) : Nat → Nat → Int
  | 0, _ => 0
  | r + 1, t => match minJ (fun j => fee (n - (r + 1)) j + dealV fee n r (t ||| 2 ^ j)) t n with
    | some b => fee (n - (r + 1)) b + dealV fee n r (t ||| 2 ^ b)
    | none => 0
def IsW (t : Nat) (l : List Nat) : Prop := ∀ j, t.testBit j = decide (j ∈ l)
section
variable {fee : Nat → Nat → Int} {n t b r : Nat} {l : List Nat}
theorem deal_first (h : FirstLe (fun j => fee (n - (r + 1)) j + dealV fee n r (t ||| 2 ^ j)) n t b) : dealV fee n (r + 1) t = fee (n - (r + 1)) b + dealV fee n r (t ||| 2 ^ b) := by
  simp only [dealV]
  rw [minJ_first h]
theorem IsW.nil : IsW 0 [] := fun j => by simp
theorem IsW.next (h : IsW t l) (j : Nat) : IsW (t ||| 2 ^ j) (l ++ [j]) := fun i => by
  rw [Nat.testBit_or, h i, Nat.testBit_two_pow]
  by_cases h1 : i ∈ l <;> by_cases h2 : j = i <;> simp [h1, h2] <;> omega
theorem asgTo_min {rec_ : Nat → List Nat × Int} {f F : Nat → Int} (hF : ∀ j, F j = (rec_ j).2 + f j) (hw : IsW t l) : ∀ k, asgTo rec_ f l k = (minJ F t k).map fun b => ((rec_ b).1, (rec_ b).2 + f b)
  | 0 => rfl
  | k + 1 => by
    have ih := asgTo_min hF hw k
    have hk := hw k
    by_cases h : k ∈ l
    · have e : t.testBit k = true := by rw [hk]; exact decide_eq_true h
      simp only [asgTo, minJ]
      rw [if_pos h, if_pos e, ih]
    · have e : t.testBit k = false := by rw [hk]; exact decide_eq_false h
      simp only [asgTo, minJ]
      rw [if_neg h, if_neg (by rw [e]; decide), ih]
      cases hm : minJ F t k with
      | none => rfl
      | some c =>
        simp only [Option.map_some]
        rw [hF k, hF c]
        split <;> rfl
theorem deal_asg : ∀ r l t, IsW t l → l.length + r = n → (asgR fee n r l).2 = dealV fee n r t
  | 0, _, _, _, _ => rfl
  | r + 1, l, t, hw, hl => by
    have hF : ∀ j, (fun j => fee (n - (r + 1)) j + dealV fee n r (t ||| 2 ^ j)) j = (asgR fee n r (l ++ [j])).2 + fee l.length j := fun j => by
      rw [deal_asg r (l ++ [j]) (t ||| 2 ^ j) (hw.next j) (by simp; omega), show n - (r + 1) = l.length by omega]
      show fee l.length j + dealV fee n r (t ||| 2 ^ j) = _; omega
    have h := asgTo_min (rec_ := fun j => asgR fee n r (l ++ [j])) (f := fee l.length) hF hw n
    simp only [asgR, dealV]
    rw [h]
    cases hm : minJ (fun j => fee (n - (r + 1)) j + dealV fee n r (t ||| 2 ^ j)) t n with
    | none => rfl
    | some c =>
      simp only [Option.map_some, Option.getD_some]
      exact (hF c).symm
theorem asg_step (hw : IsW t l) (hl : l.length + (r + 1) = n) (h : FirstLe (fun j => fee (n - (r + 1)) j + dealV fee n r (t ||| 2 ^ j)) n t b) : (asgR fee n (r + 1) l).1 = (asgR fee n r (l ++ [b])).1 := by
  have hF : ∀ j, (fun j => fee (n - (r + 1)) j + dealV fee n r (t ||| 2 ^ j)) j = (asgR fee n r (l ++ [j])).2 + fee l.length j := fun j => by
    rw [deal_asg r (l ++ [j]) (t ||| 2 ^ j) (hw.next j) (by simp; omega), show n - (r + 1) = l.length by omega]
    show fee l.length j + dealV fee n r (t ||| 2 ^ j) = _; omega
  have h2 := asgTo_min (rec_ := fun j => asgR fee n r (l ++ [j])) (f := fee l.length) hF hw n
  simp only [asgR]
  rw [h2, minJ_first h]; rfl
theorem deal_abs {M : Int} (hM : ∀ i j, -M ≤ fee i j ∧ fee i j ≤ M) (hM0 : 0 ≤ M) : ∀ r t, -(r * M) ≤ dealV fee n r t ∧ dealV fee n r t ≤ r * M
  | 0, _ => by simp [dealV]
  | r + 1, t => by
    have e : ((r + 1 : Nat) : Int) * M = r * M + M := by rw [Int.natCast_add, Int.add_mul]; simp
    have h0 : 0 ≤ (r : Int) * M := Int.mul_nonneg (by omega) hM0
    rw [e]
    simp only [dealV]
    split
    · rename_i c _
      have h1 := deal_abs hM hM0 r (t ||| 2 ^ c)
      have h2 := hM (n - (r + 1)) c
      omega
    · omega
end
/-! Words of up to eight. -/
theorem ones_or_dec : ∀ j, j < 8 → ∀ t, t < 256 → t.testBit j = false → ones (t ||| 2 ^ j) = ones t + 1 ∧ t < t ||| 2 ^ j := by decide +kernel
theorem ones_full_dec : ∀ n, n < 9 → ones (2 ^ n - 1) = n ∧ ∀ t, t < 2 ^ n - 1 → ones t < n := by decide +kernel
theorem low_dec : ∀ x, x < 256 → x ≠ 0 → Lib.ctz 32 x < 8 ∧ x.testBit (Lib.ctz 32 x) = true ∧ (∀ i, i < Lib.ctz 32 x → x.testBit i = false) ∧ (∀ i, i < 8 → (x &&& (x - 1)).testBit i = (x.testBit i && !decide (i = Lib.ctz 32 x))) := by decide +kernel
theorem bit_big {x i : Nat} (hx : x < 256) (hi : 8 ≤ i) : x.testBit i = false := Nat.testBit_lt_two_pow (Nat.lt_of_lt_of_le hx (by rw [show 256 = 2 ^ 8 from rfl]; exact Nat.pow_le_pow_right (by decide) hi))
theorem low_bits {x i : Nat} (hx : x < 256) (h0 : x ≠ 0) : (x &&& (x - 1)).testBit i = (x.testBit i && !decide (i = Lib.ctz 32 x)) := by
  rcases Nat.lt_or_ge i 8 with h | h
  · exact (low_dec x hx h0).2.2.2 i h
  · rw [Nat.testBit_and, bit_big hx h]; rfl
/-- While one goes through what is open. -/
def CheapI (F : Nat → Int) (n t o b : Nat) : Prop := o < 256 ∧ ∃ m, (∀ i, o.testBit i = (decide (i < n) && !t.testBit i && decide (m ≤ i))) ∧ b < n ∧ t.testBit b = false ∧
  (∀ j, j < m → j < n → t.testBit j = false → F b ≤ F j ∧ (F j = F b → b ≤ j)) ∧ (b < m ∨ ∀ j, j < n → t.testBit j = false → b ≤ j)
section
variable {F : Nat → Int} {n t o b : Nat}
theorem open_bits (hn : n ≤ 8) (ht : t < 256) (i : Nat) : (diffW (2 ^ n - 1) t).testBit i = (decide (i < n) && !t.testBit i) := by
  have h2 : 2 ^ n ≤ 2 ^ 8 := Nat.pow_le_pow_right (by decide) hn
  have h3 : 2 ^ 8 = 256 := rfl
  rw [diffW_testBit _ _ _ (by omega) (by omega), Nat.testBit_two_pow_sub_one]
theorem open_lt (hn : n ≤ 8) (ht : t < 256) : diffW (2 ^ n - 1) t < 256 := by
  rw [show 256 = 2 ^ 8 from rfl]
  refine Nat.lt_pow_two_of_testBit _ fun i hi => ?_
  rw [open_bits hn ht, decide_eq_false (by omega)]; rfl
theorem open_some (hn : n ≤ 8) (ht : t < 2 ^ n - 1) : diffW (2 ^ n - 1) t ≠ 0 := fun h => by
  have h2 : 2 ^ n ≤ 2 ^ 8 := Nat.pow_le_pow_right (by decide) hn
  have h3 : 2 ^ 8 = 256 := rfl
  have h4 : t = 2 ^ n - 1 := by
    apply Nat.eq_of_testBit_eq
    intro i
    have h5 := open_bits (t := t) hn (by omega) i
    rw [h, Nat.zero_testBit] at h5
    rw [Nat.testBit_two_pow_sub_one]
    by_cases hi : i < n
    · rw [decide_eq_true hi] at h5 ⊢
      cases hb : t.testBit i with
      | true => rfl
      | false => rw [hb] at h5; cases h5
    · rw [decide_eq_false hi]
      exact Nat.testBit_lt_two_pow (Nat.lt_of_lt_of_le (show t < 2 ^ n by omega) (Nat.pow_le_pow_right (by decide) (by omega)))
  omega
theorem CheapI.start (hn : n ≤ 8) (ht : t < 2 ^ n - 1) : CheapI F n t (diffW (2 ^ n - 1) t) (Lib.ctz 32 (diffW (2 ^ n - 1) t)) := by
  have h2 : 2 ^ n ≤ 2 ^ 8 := Nat.pow_le_pow_right (by decide) hn
  have h3 : 2 ^ 8 = 256 := rfl
  have hb := open_bits (t := t) hn (by omega)
  have hlt := open_lt (t := t) hn (by omega)
  obtain ⟨_, l2, l3, _⟩ := low_dec _ hlt (open_some hn ht)
  have l2' := l2
  rw [hb, Bool.and_eq_true, decide_eq_true_iff] at l2'
  refine ⟨hlt, 0, fun i => by rw [hb]; simp, l2'.1, by simpa using l2'.2, fun j hj => absurd hj (by omega), .inr fun j hj hjt => ?_⟩
  apply Classical.byContradiction
  intro hlt2
  have h5 := l3 j (by omega)
  rw [hb, hjt, decide_eq_true hj] at h5
  cases h5
theorem CheapI.low (h : CheapI F n t o b) (h0 : o ≠ 0) : Lib.ctz 32 o < n ∧ t.testBit (Lib.ctz 32 o) = false ∧ o < 256 := by
  obtain ⟨ho, m, hm, _⟩ := h
  obtain ⟨_, l2, _, _⟩ := low_dec o ho h0
  rw [hm, Bool.and_eq_true, Bool.and_eq_true, decide_eq_true_iff] at l2
  exact ⟨l2.1.1, by simpa using l2.1.2, ho⟩
theorem CheapI.step (h : CheapI F n t o b) (h0 : o ≠ 0) : CheapI F n t (o &&& (o - 1)) (if F (Lib.ctz 32 o) < F b then Lib.ctz 32 o else b) := by
  obtain ⟨k1, k2, ho⟩ := h.low h0
  obtain ⟨_, m, hm, b1, b2, b3, b4⟩ := h
  obtain ⟨_, l2, l3, _⟩ := low_dec o ho h0
  have hmk : m ≤ Lib.ctz 32 o := by
    rw [hm, Bool.and_eq_true, decide_eq_true_iff] at l2
    exact l2.2
  have l4 := fun i => low_bits (i := i) ho h0
  generalize Lib.ctz 32 o = k at *
  have hgap : ∀ j, m ≤ j → j < k → j < n → t.testBit j = false → False := fun j h1 h2 h3 h4 => by
    have h5 := l3 j h2
    rw [hm, h4, decide_eq_true h3, decide_eq_true h1] at h5
    cases h5
  refine ⟨Nat.lt_of_le_of_lt Nat.and_le_left ho, k + 1, fun i => ?_, ?_⟩
  · rw [l4, hm]
    by_cases hi : i < n ∧ t.testBit i = false
    · rw [decide_eq_true hi.1, hi.2]
      by_cases h1 : k + 1 ≤ i
      · rw [decide_eq_true h1, decide_eq_true (show m ≤ i by omega), decide_eq_false (show ¬ i = k by omega)]; rfl
      · rw [decide_eq_false h1]
        by_cases h2 : i = k
        · rw [decide_eq_true h2]; simp
        · by_cases h3 : m ≤ i
          · exact (hgap i h3 (by omega) hi.1 hi.2).elim
          · rw [decide_eq_false h3]; simp
    · by_cases h1 : i < n
      · have : t.testBit i = true := by
          cases hb : t.testBit i with
          | true => rfl
          | false => exact absurd ⟨h1, hb⟩ hi
        rw [this]; simp
      · rw [decide_eq_false h1]; rfl
  · split
    · rename_i hlt
      refine ⟨k1, k2, fun j hj hjn hjt => ?_, .inl (by omega)⟩
      by_cases e : j = k
      · subst e; exact ⟨Int.le_refl _, fun _ => Nat.le_refl _⟩
      · by_cases hjm : j < m
        · have := (b3 j hjm hjn hjt).1
          exact ⟨by omega, fun _ => by omega⟩
        · exact (hgap j (by omega) (by omega) hjn hjt).elim
    · rename_i hlt
      have hbk : b ≤ k := by
        rcases b4 with h1 | h1
        · omega
        · exact h1 k k1 k2
      refine ⟨b1, b2, fun j hj hjn hjt => ?_, .inl (by omega)⟩
      by_cases e : j = k
      · subst e; exact ⟨by omega, fun _ => hbk⟩
      · by_cases hjm : j < m
        · exact b3 j hjm hjn hjt
        · exact (hgap j (by omega) (by omega) hjn hjt).elim
theorem CheapI.done (h : CheapI F n t 0 b) : FirstLe F n t b := by
  obtain ⟨_, m, hm, b1, b2, b3, _⟩ := h
  refine ⟨b1, b2, fun j hj hjt => b3 j ?_ hj hjt⟩
  have h5 := hm j
  rw [Nat.zero_testBit, hjt, decide_eq_true hj] at h5
  have h6 : decide (m ≤ j) = false := by simpa using h5.symm
  have := of_decide_eq_false h6
  omega
end
end Go.Proofs.YtmlmnmphmghdlaaDoor
