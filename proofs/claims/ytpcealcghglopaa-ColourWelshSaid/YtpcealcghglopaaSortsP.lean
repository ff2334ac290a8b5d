/- In how many ways nodes can be put into just so many sets; what the recursion by colours gives out of that; bounds. Plain facts, of no program. -/
import Derived.Test.YtpcealcghglopaaWhitneyP
namespace Go.Proofs.Ytpcealcghglopaa

def fallI (x : Int) : Nat → Int
  | 0 => 1
  | j + 1 => fallI x j * (x - j)
theorem fallI_first (x : Int) : ∀ j, fallI x (j + 1) = x * fallI (x - 1) j
  | 0 => by simp [fallI]
  | j + 1 => by
    have ih := fallI_first x j
    show fallI x (j + 1) * (x - (j + 1 : Nat)) = x * (fallI (x - 1) j * (x - 1 - j))
    rw [ih, Int.mul_assoc]
    congr 2
    omega
/-- In how many ways w can be put into just j sets, by the highest node's set. -/
structure TabP (n : Nat) (loose : Nat → Bool) (T : Nat → Nat → Int) : Prop where
  none_ : T 0 0 = 1
  none_more : ∀ j, T 0 (j + 1) = 0
  some_none : ∀ w, w ≠ 0 → w < 2 ^ n → T w 0 = 0
  some_more : ∀ w, w ≠ 0 → w < 2 ^ n → ∀ j, T w (j + 1) = sumQ n loose w fun s => if s.testBit (topW w) = true then T (w ^^^ s) j else 0
theorem pcW_le (w : Nat) : ∀ n, pcW w n ≤ n
  | 0 => Nat.le_refl _
  | n + 1 => by have := pcW_le w n; simp only [pcW]; split <;> omega
theorem pcW_less {s w : Nat} (h : subQ s w = true) : ∀ n, pcW (w ^^^ s) n ≤ pcW w n ∧ ∀ i, i < n → s.testBit i = true → pcW (w ^^^ s) n < pcW w n
  | 0 => ⟨Nat.le_refl _, fun i hi => absurd hi (by omega)⟩
  | n + 1 => by
    obtain ⟨h1, h2⟩ := pcW_less h n
    have hb := sub_bits h n
    simp only [pcW]
    rw [hb]
    refine ⟨?_, fun i hi hs => ?_⟩
    · cases w.testBit n <;> cases s.testBit n <;> simp <;> omega
    · rcases Nat.lt_or_ge i n with h3 | h3
      · have := h2 i h3 hs
        cases w.testBit n <;> cases s.testBit n <;> simp <;> omega
      · obtain rfl : i = n := by omega
        rw [hs, subQ_iff.1 h i hs]
        simp; omega
section
variable {n : Nat} {loose : Nat → Bool} {T : Nat → Nat → Int} {A : Nat → Int → Int}
theorem tab_nonneg (H : TabP n loose T) : ∀ m w, w < m → w < 2 ^ n → ∀ j, 0 ≤ T w j
  | 0, _, h, _, _ => absurd h (by omega)
  | m + 1, w, hm, hw, j => by
    by_cases h0 : w = 0
    · subst h0
      cases j with
      | zero => rw [H.none_]; decide
      | succ j => rw [H.none_more]; exact Int.le_refl _
    · cases j with
      | zero => rw [H.some_none w h0 hw]; exact Int.le_refl _
      | succ j =>
        rw [H.some_more w h0 hw]
        refine sumI_nonneg _ fun s _ => ?_
        split
        · rename_i hc
          try dsimp only
          split
          · rename_i ht
            have hs0 : s ≠ 0 := fun e => by rw [e] at ht; simp at ht
            exact tab_nonneg H m _ (by have := sub_lt hc.1 hs0; omega) (sub_pow (sub_sub hc.1) hw) j
          · exact Int.le_refl _
        · exact Int.le_refl _
/-- Into more sets than there are nodes in no way. -/
theorem tab_few (H : TabP n loose T) : ∀ j w, w < 2 ^ n → pcW w n < j → T w j = 0
  | 0, _, _, h => absurd h (by omega)
  | j + 1, w, hw, hj => by
    by_cases h0 : w = 0
    · rw [h0]; exact H.none_more j
    · rw [H.some_more w h0 hw]
      refine sumI_zero _ fun s hs => ?_
      split
      · rename_i hc
        try dsimp only
        split
        · rename_i ht
          have htn : topW w < n := by
            apply Nat.lt_of_not_le
            intro h
            rw [bit_pow hs h] at ht; cases ht
          have := (pcW_less hc.1 n).2 _ htn ht
          exact tab_few H j _ (sub_pow (sub_sub hc.1) hw) (by omega)
        · rfl
      · rfl
/-- Of each number of sets, which colour each has. -/
def polT (n : Nat) (T : Nat → Nat → Int) (w : Nat) (x : Int) : Int := sumI (fun j => T w j * fallI x j) (n + 1)
theorem polT_ok (H : TabP n loose T) : PolA n loose (polT n T) := by
  refine ⟨fun x => ?_, fun w h0 hw x => ?_⟩
  · unfold polT
    rw [sumI_one (i := 0) (n + 1) (by omega) fun j _ hj => ?_, H.none_]
    · rfl
    · obtain ⟨k, rfl⟩ : ∃ k, j = k + 1 := ⟨j - 1, by omega⟩
      rw [H.none_more, Int.zero_mul]
  · have first : ∀ (f : Nat → Int) m, sumI f (m + 1) = f 0 + sumI (fun t => f (t + 1)) m := fun f m => by
      induction m with
      | zero => simp [sumI]
      | succ m ih => simp only [sumI] at ih ⊢; omega
    have e1 : polT n T w x = sumI (fun j => sumI (fun s => if (subQ s w = true ∧ loose s = true) ∧ s.testBit (topW w) = true then x * (T (w ^^^ s) j * fallI (x - 1) j) else 0) (2 ^ n)) n := by
      unfold polT
      rw [first, H.some_none w h0 hw, Int.zero_mul, Int.zero_add]
      refine sumI_congr _ fun j _ => ?_
      rw [H.some_more w h0 hw, fallI_first, Int.mul_comm]
      unfold sumQ
      rw [← sumI_mul]
      refine sumI_congr _ fun s _ => ?_
      try dsimp only
      by_cases hc : subQ s w = true ∧ loose s = true
      · rw [if_pos hc]
        by_cases ht : s.testBit (topW w) = true
        · rw [if_pos ht, if_pos ⟨hc, ht⟩, Int.mul_assoc, Int.mul_comm (fallI (x - 1) j)]
        · rw [if_neg ht, if_neg fun h => ht h.2, Int.mul_zero]
      · rw [if_neg hc, if_neg fun h => hc h.1, Int.mul_zero]
    rw [e1, sumI_comm (fun j s => if (subQ s w = true ∧ loose s = true) ∧ s.testBit (topW w) = true then x * (T (w ^^^ s) j * fallI (x - 1) j) else 0)]
    unfold sumQ
    rw [← sumI_mul]
    refine sumI_congr _ fun s hs => ?_
    try dsimp only
    by_cases hc : subQ s w = true ∧ loose s = true
    · rw [if_pos hc]
      by_cases ht : s.testBit (topW w) = true
      · rw [if_pos ht]
        have hlt := sub_pow (sub_sub hc.1) hw
        have htn : topW w < n := by
          apply Nat.lt_of_not_le
          intro h
          rw [bit_pow hs h] at ht; cases ht
        have hfew := tab_few H n (w ^^^ s) hlt (by have := (pcW_less hc.1 n).2 _ htn ht; have := pcW_le w n; omega)
        have e2 : polT n T (w ^^^ s) (x - 1) = sumI (fun j => T (w ^^^ s) j * fallI (x - 1) j) n := by
          show sumI _ n + T (w ^^^ s) n * fallI (x - 1) n = _
          rw [hfew, Int.zero_mul, Int.add_zero]
        rw [e2, ← sumI_mul]
        exact sumI_congr _ fun j _ => if_pos ⟨hc, ht⟩
      · rw [if_neg ht, Int.mul_zero]
        exact sumI_zero _ fun j _ => if_neg fun h => ht h.2
    · rw [if_neg hc, Int.mul_zero]
      exact sumI_zero _ fun j _ => if_neg fun h => hc h.1
/-- There are no more colourings than ways to give any colours. -/
theorem pol_le (H : PolA n loose A) (hl : loose 0 = true) : ∀ (k : Nat) w, w < 2 ^ n → A w k ≤ (k : Int) ^ pcW w n
  | 0, w, hw => by
    by_cases h0 : w = 0
    · subst h0
      have : ∀ m, pcW 0 m = 0 := fun m => by
        induction m with
        | zero => rfl
        | succ m ih => simp only [pcW]; rw [ih]; simp
      rw [H.zero, this]; exact Int.le_refl _
    · show A w 0 ≤ _
      rw [pol_zero H hw h0]
      exact Int.pow_nonneg (by omega)
  | k + 1, w, hw => by
    rw [show ((k + 1 : Nat) : Int) = (k : Int) + 1 by omega, pol_succ H hl hw, ← binom n w hw]
    unfold sumQ
    refine sumI_le _ fun s _ => ?_
    by_cases hc : subQ s w = true
    · rw [if_pos hc]
      by_cases hls : loose s = true
      · rw [if_pos ⟨hc, hls⟩]
        exact pol_le H hl k _ (sub_pow (sub_sub hc) hw)
      · rw [if_neg fun h => hls h.2]
        exact Int.pow_nonneg (by omega)
    · rw [if_neg fun h => hc h.1, if_neg hc]; exact Int.le_refl _
theorem fallI_nonneg (k : Nat) : ∀ j, 0 ≤ fallI (k : Int) j
  | 0 => by show (0 : Int) ≤ 1; decide
  | j + 1 => by
    rcases Nat.lt_or_ge k j with h | h
    · have hz : ∀ i, k < i → fallI (k : Int) i = 0 := fun i => by
        induction i with
        | zero => intro h; omega
        | succ i ih =>
          intro hi
          simp only [fallI]
          rcases Nat.lt_or_ge k i with h1 | h1
          · rw [ih h1, Int.zero_mul]
          · obtain rfl : k = i := by omega
            rw [Int.sub_self, Int.mul_zero]
      rw [hz (j + 1) (by omega)]; exact Int.le_refl _
    · simp only [fallI]
      exact Int.mul_nonneg (fallI_nonneg k j) (by omega)
theorem fallI_pos {k : Nat} : ∀ j, j ≤ k → 1 ≤ fallI (k : Int) j
  | 0, _ => Int.le_refl _
  | j + 1, h => by
    have ih := fallI_pos j (by omega : j ≤ k)
    simp only [fallI]
    have h2 : (1 : Int) ≤ (k : Int) - j := by omega
    have := Int.mul_le_mul ih h2 (by decide) (by omega)
    omega
/-- No number of the table is greater than this. -/
theorem tab_le (H : TabP n loose T) (hl : loose 0 = true) (hn : n ≤ 10) {w : Nat} (hw : w < 2 ^ n) (j : Nat) : T w j ≤ 10000000000 := by
  rcases Nat.lt_or_ge n j with hj | hj
  · rw [tab_few H j w hw (by have := pcW_le w n; omega)]; decide
  · have h1 := pol_le (polT_ok H) hl 10 w hw
    have h2 : ((10 : Nat) : Int) ^ pcW w n ≤ 10000000000 := by
      have := pcW_le w n
      rcases (show pcW w n = 0 ∨ pcW w n = 1 ∨ pcW w n = 2 ∨ pcW w n = 3 ∨ pcW w n = 4 ∨ pcW w n = 5 ∨ pcW w n = 6 ∨ pcW w n = 7 ∨ pcW w n = 8 ∨ pcW w n = 9 ∨ pcW w n = 10 by omega) with h | h | h | h | h | h | h | h | h | h | h <;> rw [h] <;> decide
    have h3 := sumI_ge (f := fun j => T w j * fallI ((10 : Nat) : Int) j) (i := j) (n + 1) (fun i _ => Int.mul_nonneg (tab_nonneg H (w + 1) w (by omega) hw i) (fallI_nonneg 10 i)) (by omega)
    have h4 := fallI_pos (k := 10) j (by omega)
    have h5 := tab_nonneg H (w + 1) w (by omega) hw j
    have h6 : T w j * 1 ≤ T w j * fallI ((10 : Nat) : Int) j := Int.mul_le_mul_of_nonneg_left h4 h5
    have h7 : polT n T w ((10 : Nat) : Int) = sumI (fun j => T w j * fallI ((10 : Nat) : Int) j) (n + 1) := rfl
    omega
end
end Go.Proofs.Ytpcealcghglopaa
