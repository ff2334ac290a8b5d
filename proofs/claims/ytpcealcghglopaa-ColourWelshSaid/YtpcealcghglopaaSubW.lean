/- The subsets of a set, as words, from the greatest on; the reference's table of sorts, word by word. Plain facts, of no program. -/
import Derived.Test.YtpcealcghglopaaSortsP
namespace Go.Proofs.Ytpcealcghglopaa

theorem and_bits (x y : Nat) : x &&& y = 2 * (x / 2 &&& y / 2) + (if x % 2 = 1 ∧ y % 2 = 1 then 1 else 0) := by
  have h1 : (x &&& y) / 2 = x / 2 &&& y / 2 := Nat.and_div_two
  have h2 : (x &&& y) % 2 = 1 ↔ x % 2 = 1 ∧ y % 2 = 1 := Nat.and_mod_two_eq_one
  split
  · rename_i h
    have := h2.2 h
    omega
  · rename_i h
    have h3 : ¬ (x &&& y) % 2 = 1 := fun e => h (h2.1 e)
    omega
/-- The next lesser subset: all that are lesser are no greater than it. -/
theorem prev_le : ∀ (s w t : Nat), s ≠ 0 → s &&& w = s → t &&& w = t → t < s → t ≤ (s - 1) &&& w
  | s, w, t, h0, hs, ht, hlt => by
    have e1 := and_bits s w
    have e2 := and_bits t w
    have e3 := and_bits (s - 1) w
    rw [hs] at e1
    rw [ht] at e2
    rcases Nat.mod_two_eq_zero_or_one s with hb | hb
    · have hd : (s - 1) / 2 = s / 2 - 1 := by omega
      have hm : (s - 1) % 2 = 1 := by omega
      rw [hd] at e3
      have hs2 : s / 2 &&& w / 2 = s / 2 := by
        split at e1 <;> omega
      have ht2 : t / 2 &&& w / 2 = t / 2 := by
        split at e2 <;> omega
      have ih := prev_le (s / 2) (w / 2) (t / 2) (by omega) hs2 ht2 (by omega)
      rcases Nat.mod_two_eq_zero_or_one w with hw | hw
      · rw [if_neg (by omega)] at e2 e3
        omega
      · rw [if_pos ⟨hm, hw⟩] at e3
        split at e2 <;> omega
    · have hd : (s - 1) / 2 = s / 2 := by omega
      have hm : ¬ ((s - 1) % 2 = 1 ∧ w % 2 = 1) := by omega
      rw [hd, if_neg hm] at e3
      have hs2 : s / 2 &&& w / 2 = s / 2 := by
        split at e1 <;> omega
      rw [hs2] at e3
      omega
termination_by s => s
theorem prev_sub (s w : Nat) : subQ ((s - 1) &&& w) w = true := by
  unfold subQ
  rw [decide_eq_true_iff, Nat.and_assoc, Nat.and_self]
theorem prev_lt {s : Nat} (h0 : s ≠ 0) (w : Nat) : (s - 1) &&& w < s := by
  have : (s - 1) &&& w ≤ s - 1 := Nat.and_le_left
  omega
/-- What a row of the table is of those subsets that are greater than s. -/
def partW (n : Nat) (loose : Nat → Bool) (T : Nat → Nat → Int) (w s j : Nat) : Int := sumI (fun t => if (subQ t w = true ∧ loose t = true) ∧ s < t then (if t.testBit (topW w) = true then T (w ^^^ t) j else 0) else 0) (2 ^ n)
section
variable {n w s j : Nat} {loose : Nat → Bool} {T : Nat → Nat → Int}
theorem partW_first (_hw : w < 2 ^ n) : partW n loose T w w j = 0 := by
  unfold partW
  rw [sumI_congr (g := fun _ => 0) (2 ^ n) fun t _ => if_neg fun h => by
    have : t ≤ w := sub_le fun i hi => subQ_iff.1 h.1.1 i hi
    omega]
  exact sumI_zero _ fun _ _ => rfl
theorem partW_next (hw : w < 2 ^ n) (h0 : s ≠ 0) (hs : subQ s w = true) : partW n loose T w ((s - 1) &&& w) j = partW n loose T w s j + (if loose s = true ∧ s.testBit (topW w) = true then T (w ^^^ s) j else 0) := by
  have hsn : s < 2 ^ n := sub_pow hs hw
  have hs' : s &&& w = s := by simpa [subQ] using hs
  unfold partW
  have e1 : (if loose s = true ∧ s.testBit (topW w) = true then T (w ^^^ s) j else 0) = sumI (fun t => if t = s then (if loose s = true ∧ s.testBit (topW w) = true then T (w ^^^ s) j else 0) else 0) (2 ^ n) := by
    rw [sumI_one (i := s) (2 ^ n) hsn fun t _ ht => if_neg ht, if_pos rfl]
  rw [e1, ← sumI_add]
  refine sumI_congr _ fun t _ => ?_
  by_cases ht : t = s
  · subst ht
    have h1 := prev_lt h0 w
    rw [if_pos rfl, if_neg (show ¬ ((subQ t w = true ∧ loose t = true) ∧ t < t) from fun h => by omega), Int.zero_add]
    by_cases hl : loose t = true
    · rw [if_pos ⟨⟨hs, hl⟩, h1⟩]
      by_cases hb : t.testBit (topW w) = true
      · rw [if_pos hb, if_pos ⟨hl, hb⟩]
      · rw [if_neg hb, if_neg fun h => hb h.2]
    · rw [if_neg fun h => hl h.1.2, if_neg fun h => hl h.1]
  · rw [if_neg ht, Int.add_zero]
    by_cases hsub : subQ t w = true
    · have e2 : (s - 1) &&& w < t ↔ s < t := by
        constructor
        · intro h
          apply Nat.lt_of_not_le
          intro hle
          have := prev_le s w t h0 hs' (by simpa [subQ] using hsub) (by omega)
          omega
        · intro h
          have := prev_lt h0 w
          omega
      simp only [e2]
    · rw [if_neg fun h => hsub h.1.1, if_neg fun h => hsub h.1.1]
theorem partW_last (_h0 : w ≠ 0) : partW n loose T w 0 j = sumQ n loose w fun s => if s.testBit (topW w) = true then T (w ^^^ s) j else 0 := by
  refine sumI_congr _ fun t _ => ?_
  by_cases ht : t = 0
  · subst ht
    simp
  · have e : ((subQ t w = true ∧ loose t = true) ∧ 0 < t) ↔ (subQ t w = true ∧ loose t = true) := ⟨fun h => h.1, fun h => ⟨h, by omega⟩⟩
    simp only [e]
end
/-- The table up to a word. -/
structure TabTo (n : Nat) (loose : Nat → Bool) (T : Nat → Nat → Int) (m : Nat) : Prop where
  none_ : T 0 0 = 1
  none_more : ∀ j, T 0 (j + 1) = 0
  some_none : ∀ w, w ≠ 0 → w < m → T w 0 = 0
  some_more : ∀ w, w ≠ 0 → w < m → ∀ j, T w (j + 1) = sumQ n loose w fun s => if s.testBit (topW w) = true then T (w ^^^ s) j else 0
def updT (T : Nat → Nat → Int) (m : Nat) (r : Nat → Int) : Nat → Nat → Int := fun w => if w = m then r else T w
section
variable {n m : Nat} {loose : Nat → Bool} {T : Nat → Nat → Int}
theorem TabTo.all (h : TabTo n loose T (2 ^ n)) : TabP n loose T := ⟨h.none_, h.none_more, h.some_none, h.some_more⟩
theorem tab_start (n : Nat) (loose : Nat → Bool) : TabTo n loose (fun w j => if w = 0 ∧ j = 0 then 1 else 0) 1 :=
  ⟨rfl, fun j => if_neg (by omega), fun w h1 h2 => by omega, fun w h1 h2 => by omega⟩
theorem sumQ_upd (r : Nat → Int) (_hm : m ≠ 0) {w : Nat} (hw : w ≤ m) (_h0 : w ≠ 0) (j : Nat) :
    (sumQ n loose w fun s => if s.testBit (topW w) = true then updT T m r (w ^^^ s) j else 0) = sumQ n loose w fun s => if s.testBit (topW w) = true then T (w ^^^ s) j else 0 :=
  sumQ_congr fun s hs _ => by
    by_cases hb : s.testBit (topW w) = true
    · have hs0 : s ≠ 0 := fun e => by rw [e] at hb; simp at hb
      have := sub_lt hs hs0
      rw [if_pos hb, if_pos hb]
      unfold updT
      rw [if_neg (by omega)]
    · rw [if_neg hb, if_neg hb]
theorem TabTo.step (h : TabTo n loose T m) (hm : m ≠ 0) {r : Nat → Int} (h0 : r 0 = 0) (hr : ∀ j, r (j + 1) = sumQ n loose m fun s => if s.testBit (topW m) = true then T (m ^^^ s) j else 0) : TabTo n loose (updT T m r) (m + 1) := by
  have hz : updT T m r 0 = T 0 := if_neg (Ne.symm hm)
  refine ⟨by rw [hz]; exact h.none_, fun j => by rw [hz]; exact h.none_more j, fun w h1 h2 => ?_, fun w h1 h2 j => ?_⟩
  · by_cases e : w = m
    · subst e; show (if w = w then r else T w) 0 = 0; rw [if_pos rfl]; exact h0
    · show (if w = m then r else T w) 0 = 0; rw [if_neg e]; exact h.some_none w h1 (by omega)
  · rw [sumQ_upd r hm (by omega) h1]
    by_cases e : w = m
    · subst e; show (if w = w then r else T w) (j + 1) = _; rw [if_pos rfl]; exact hr j
    · show (if w = m then r else T w) (j + 1) = _; rw [if_neg e]; exact h.some_more w h1 (by omega) j
theorem tabTo_ex (n : Nat) (loose : Nat → Bool) : ∀ m, ∃ T, TabTo n loose T (m + 1)
  | 0 => ⟨_, tab_start n loose⟩
  | m + 1 => by
    obtain ⟨T, h⟩ := tabTo_ex n loose m
    exact ⟨_, h.step (m := m + 1) (by omega) (r := fun j => match j with
      | 0 => 0
      | j + 1 => sumQ n loose (m + 1) fun s => if s.testBit (topW (m + 1)) = true then T ((m + 1) ^^^ s) j else 0) rfl fun j => rfl⟩
theorem tab_ex (n : Nat) (loose : Nat → Bool) : ∃ T, TabP n loose T := by
  obtain ⟨T, h⟩ := tabTo_ex n loose (2 ^ n)
  exact ⟨T, ⟨h.none_, h.none_more, fun w h1 h2 => h.some_none w h1 (by omega), fun w h1 h2 => h.some_more w h1 (by omega)⟩⟩
theorem part_nonneg (H : TabP n loose T) {w : Nat} (hw : w < 2 ^ n) (s j : Nat) : 0 ≤ partW n loose T w s j := sumI_nonneg _ fun t _ => by
  split
  · split
    · rename_i h1 h2
      exact tab_nonneg H (w + 1) _ (by
        have ht0 : t ≠ 0 := fun e => by rw [e] at h2; simp at h2
        have := sub_lt h1.1.1 ht0
        omega) (sub_pow (sub_sub h1.1.1) hw) j
    · exact Int.le_refl _
  · exact Int.le_refl _
theorem part_le (H : TabP n loose T) (hl : loose 0 = true) (hn : n ≤ 10) {w : Nat} (hw : w < 2 ^ n) (h0 : w ≠ 0) (s j : Nat) : partW n loose T w s j ≤ 10000000000 := by
  have h1 : partW n loose T w s j ≤ partW n loose T w 0 j := sumI_le _ fun t _ => by
    have hnn : 0 ≤ (if (subQ t w = true ∧ loose t = true) ∧ 0 < t then (if t.testBit (topW w) = true then T (w ^^^ t) j else 0) else 0) := by
      split
      · split
        · rename_i h1 h2
          exact tab_nonneg H (w + 1) _ (by have := sub_lt h1.1.1 (show t ≠ 0 by omega); omega) (sub_pow (sub_sub h1.1.1) hw) j
        · exact Int.le_refl _
      · exact Int.le_refl _
    by_cases hc : (subQ t w = true ∧ loose t = true) ∧ s < t
    · have hc2 : (subQ t w = true ∧ loose t = true) ∧ 0 < t := ⟨hc.1, by omega⟩
      rw [if_pos hc, if_pos hc2]; exact Int.le_refl _
    · rw [if_neg hc]; exact hnn
  rw [partW_last h0] at h1
  rw [← H.some_more w h0 hw j] at h1
  have := tab_le H hl hn hw (j + 1)
  omega
/-- Beyond n nothing is counted. -/
theorem tab_beyond (H : TabP n loose T) {w : Nat} (hw : w < 2 ^ n) {j : Nat} (hj : n < j) : T w j = 0 := tab_few H j w hw (by have := pcW_le w n; omega)
/-- The numbers are one. -/
theorem pol_one {A B : Nat → Int → Int} (HA : PolA n loose A) (HB : PolA n loose B) : ∀ (m w : Nat), w < m → w < 2 ^ n → ∀ x, A w x = B w x
  | 0, _, h, _, _ => absurd h (by omega)
  | m + 1, w, hm, hw, x => by
    by_cases h0 : w = 0
    · rw [h0, HA.zero, HB.zero]
    · rw [HA.rec_ w h0 hw, HB.rec_ w h0 hw]
      congr 1
      refine sumQ_congr fun s hs _ => ?_
      by_cases hb : s.testBit (topW w) = true
      · have hs0 : s ≠ 0 := fun e => by rw [e] at hb; simp at hb
        have := sub_lt hs hs0
        rw [if_pos hb, if_pos hb, pol_one HA HB m (w ^^^ s) (by omega) (by omega)]
      · rw [if_neg hb, if_neg hb]
end
end Go.Proofs.Ytpcealcghglopaa
