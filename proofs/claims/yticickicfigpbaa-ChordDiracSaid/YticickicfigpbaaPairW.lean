/- Words as sets: those on the right with whom any of some on the left may be paired; covers; sets that lack. Plain facts, of no program. -/
import Derived.Test.YticickicfigpbaaWords
import Derived.Test.YticickicfigpbaaKonigP
namespace Go.Proofs.Yticickicfigpbaa

def nearF (xs : List Nat) (i j : Nat) : Bool := (xs.getD i 0).testBit j
def szS (x : Nat) : Nat := sizeP (fun i => x.testBit i) 8
def W8 (xs : List Nat) : Prop := ∀ x ∈ xs, x < 256
theorem W8.at_ {xs : List Nat} (h : W8 xs) (i : Nat) : xs.getD i 0 < 256 := by
  rw [List.getD_eq_getElem?_getD]
  cases hx : xs[i]? with
  | none => simp
  | some x => exact h x (List.mem_of_getElem? hx)
theorem bit_high {x j : Nat} (hx : x < 256) (hj : 8 ≤ j) : x.testBit j = false :=
  Nat.testBit_lt_two_pow (Nat.lt_of_lt_of_le hx (by rw [show 256 = 2 ^ 8 from rfl]; exact Nat.pow_le_pow_right (by decide) hj))
theorem bit_pow {x n j : Nat} (hx : x < 2 ^ n) (hj : n ≤ j) : x.testBit j = false :=
  Nat.testBit_lt_two_pow (Nat.lt_of_lt_of_le hx (Nat.pow_le_pow_right (by decide) hj))
theorem szS_le (x : Nat) : szS x ≤ 8 := sizeP_le _ 8
theorem ones_szS : ∀ x, x < 256 → ones x = szS x := by decide +kernel

/-- Those on the right with whom one of a set, of the first k, may be paired. -/
def reachTo (xs : List Nat) (s : Nat) : Nat → Nat
  | 0 => 0
  | k + 1 => if s.testBit k = true then reachTo xs s k ||| xs.getD k 0 else reachTo xs s k
section
variable {xs : List Nat} {s k j : Nat}
theorem reachTo_bit : ∀ {k : Nat}, (reachTo xs s k).testBit j = true ↔ ∃ i, i < k ∧ s.testBit i = true ∧ nearF xs i j = true
  | 0 => by simp [reachTo]
  | k + 1 => by
    have ih := @reachTo_bit k
    have hs : (reachTo xs s (k + 1)).testBit j = true ↔ (reachTo xs s k).testBit j = true ∨ (s.testBit k = true ∧ nearF xs k j = true) := by
      by_cases h : s.testBit k = true
      · have e : reachTo xs s (k + 1) = reachTo xs s k ||| xs.getD k 0 := if_pos h
        rw [e, Nat.testBit_or]
        simp only [h, nearF, Bool.or_eq_true, true_and]
      · have e : reachTo xs s (k + 1) = reachTo xs s k := if_neg h
        rw [e]
        simp [h]
    rw [hs, ih]
    constructor
    · rintro (⟨i, h1, h2⟩ | h)
      · exact ⟨i, by omega, h2⟩
      · exact ⟨k, by omega, h⟩
    · rintro ⟨i, h1, h2⟩
      rcases Nat.lt_or_ge i k with h | h
      · exact .inl ⟨i, h, h2⟩
      · obtain rfl : i = k := by omega
        exact .inr h2
theorem reachTo_lt (h : W8 xs) : ∀ k, reachTo xs s k < 256
  | 0 => by simp [reachTo]
  | k + 1 => by
    have ih := reachTo_lt h k
    unfold reachTo
    split
    · exact Nat.or_lt_two_pow (n := 8) ih (h.at_ k)
    · exact ih
/-- The room of all friends of a set: how many they are. -/
theorem room_reach (n : Nat) : roomS (nearF xs) 8 (fun i => s.testBit i) 0 n (fun _ => 1) = szS (reachTo xs s n) := by
  unfold roomS szS sizeP
  refine sumTo_congr 8 fun j _ => ?_
  have hiff : nbS (nearF xs) (fun i => s.testBit i) 0 n j ↔ (reachTo xs s n).testBit j = true := by
    rw [reachTo_bit]
    unfold nbS
    constructor
    · rintro ⟨t, h1, h2, h3⟩; rw [Nat.zero_add] at h2 h3; exact ⟨t, h1, h2, h3⟩
    · rintro ⟨t, h1, h2, h3⟩; exact ⟨t, h1, by rw [Nat.zero_add]; exact h2, by rw [Nat.zero_add]; exact h3⟩
  by_cases hb : (reachTo xs s n).testBit j = true
  · rw [if_pos (hiff.2 hb), if_pos hb]
  · rw [if_neg fun h => hb (hiff.1 h), if_neg hb]
end
/-- A set as a word. -/
theorem word_ex (S : Nat → Bool) : ∀ n, ∃ w, w < 2 ^ n ∧ ∀ i, i < n → w.testBit i = S i
  | 0 => ⟨0, by decide, fun i h => by omega⟩
  | n + 1 => by
    obtain ⟨w, h1, h2⟩ := word_ex S n
    cases hS : S n with
    | false =>
      refine ⟨w, by rw [Nat.pow_succ]; omega, fun i hi => ?_⟩
      rcases Nat.lt_or_ge i n with h | h
      · exact h2 i h
      · obtain rfl : i = n := by omega
        rw [hS]; exact bit_pow h1 (Nat.le_refl _)
    | true =>
      refine ⟨2 ^ n + w, by rw [Nat.pow_succ]; omega, fun i hi => ?_⟩
      rcases Nat.lt_or_ge i n with h | h
      · rw [Nat.testBit_two_pow_add_gt h]; exact h2 i h
      · obtain rfl : i = n := by omega
        rw [hS, Nat.testBit_two_pow_add_eq, bit_pow h1 (Nat.le_refl _)]; rfl
theorem szS_of {n w : Nat} {S : Nat → Bool} (hn : n ≤ 8) (hw : w < 2 ^ n) (h : ∀ i, i < n → w.testBit i = S i) : szS w = sizeP S n := by
  unfold szS
  have hk : ∀ k, n ≤ k → sizeP (fun i => w.testBit i) k = sizeP (fun i => w.testBit i) n := fun k hk => by
    induction k with
    | zero => rw [show n = 0 by omega]
    | succ k ih =>
      rcases Nat.lt_or_ge k n with h1 | h1
      · rw [show n = k + 1 by omega]
      · rw [sizeP_succ, ih h1, bit_pow hw h1]; rfl
  rw [hk 8 hn]
  exact sizeP_congr n h
theorem szS_mono {a b : Nat} (h : ∀ j, j < 8 → a.testBit j = true → b.testBit j = true) : szS a ≤ szS b := sumTo_le 8 fun j hj => by
  by_cases ha : a.testBit j = true
  · rw [if_pos ha, if_pos (h j hj ha)]; exact Nat.le_refl _
  · rw [if_neg ha]; exact Nat.zero_le _
theorem szS_strict {a b : Nat} (h : ∀ j, j < 8 → a.testBit j = true → b.testBit j = true) {i : Nat} (hi : i < 8) (ha : a.testBit i = false) (hb : b.testBit i = true) : szS a < szS b := by
  unfold szS sizeP
  have hk : ∀ k, sumTo (fun t => if a.testBit t = true then 1 else 0) (min k 8) + (if i < min k 8 then 1 else 0) ≤ sumTo (fun t => if b.testBit t = true then 1 else 0) (min k 8) := fun k => by
    induction k with
    | zero => simp [sumTo]
    | succ k ih =>
      rcases Nat.lt_or_ge k 8 with h8 | h8
      · rw [show min (k + 1) 8 = k + 1 by omega]
        rw [show min k 8 = k by omega] at ih
        simp only [sumTo]
        have := h k h8
        by_cases hik : i = k
        · subst hik
          have e1 : (if i < i then 1 else 0) = (0 : Nat) := if_neg (by omega)
          have e2 : (if i < i + 1 then 1 else 0) = (1 : Nat) := if_pos (by omega)
          have e3 : (if a.testBit i = true then 1 else 0) = (0 : Nat) := if_neg (by simp [ha])
          have e4 : (if b.testBit i = true then 1 else 0) = (1 : Nat) := if_pos hb
          rw [e1] at ih
          rw [e2, e3, e4]
          omega
        · have e : (if i < k + 1 then 1 else 0) = (if i < k then 1 else 0 : Nat) := by split <;> split <;> omega
          rw [e]
          by_cases hak : a.testBit k = true
          · rw [if_pos hak, if_pos (this hak)]; omega
          · rw [if_neg hak]; omega
      · rw [show min (k + 1) 8 = min k 8 by omega]; exact ih
  have := hk 8
  rw [show min 8 8 = 8 from rfl, if_pos hi] at this
  exact this
theorem eq_of_bits {a b : Nat} (ha : a < 256) (hb : b < 256) (h : ∀ j, j < 8 → a.testBit j = b.testBit j) : a = b := by
  apply Nat.eq_of_testBit_eq
  intro j
  rcases Nat.lt_or_ge j 8 with h1 | h1
  · exact h j h1
  · rw [bit_high ha h1, bit_high hb h1]

/-- All of n. -/
theorem all_bit {n i : Nat} : (2 ^ n - 1).testBit i = decide (i < n) := by
  rw [Nat.testBit_two_pow_sub_one]
/-- The others of n. -/
def othW (n s : Nat) : Nat := diffW (2 ^ n - 1) s
section
variable {n s i : Nat}
theorem pow8 (hn : n ≤ 8) : 2 ^ n ≤ 256 := by rw [show 256 = 2 ^ 8 from rfl]; exact Nat.pow_le_pow_right (by decide) hn
theorem othW_bit (hn : n ≤ 8) (hs : s < 256) : (othW n s).testBit i = (decide (i < n) && !s.testBit i) := by
  have := pow8 hn
  have := Nat.two_pow_pos n
  unfold othW
  rw [diffW_testBit _ _ _ (by omega) (by omega), all_bit]
theorem othW_lt (hn : n ≤ 8) (hs : s < 256) : othW n s < 2 ^ n := by
  apply Nat.lt_of_not_le
  intro h
  have h1 : ∃ i, n ≤ i ∧ (othW n s).testBit i = true := by
    obtain ⟨i, hi, hb⟩ := Nat.exists_ge_and_testBit_of_ge_two_pow h
    exact ⟨i, hi, hb⟩
  obtain ⟨i, hi, hb⟩ := h1
  rw [othW_bit hn hs] at hb
  simp at hb
  omega
end
/-- Do some on the left and some on the right cover? -/
def CovW (xs : List Nat) (n L R : Nat) : Prop := ∀ i, i < n → L.testBit i = true ∨ diffW (xs.getD i 0) R = 0
section
variable {xs : List Nat} {n L R : Nat}
theorem diffW_zero {a b : Nat} (ha : a < 256) (hb : b < 4294967296) : diffW a b = 0 ↔ ∀ j, j < 8 → a.testBit j = true → b.testBit j = true := by
  constructor
  · intro h j _ haj
    have h1 := diffW_testBit a b j (by omega) hb
    rw [h, haj, Nat.zero_testBit] at h1
    simpa using h1
  · intro h
    apply Nat.eq_of_testBit_eq
    intro j
    rw [diffW_testBit a b j (by omega) hb, Nat.zero_testBit]
    rcases Nat.lt_or_ge j 8 with h8 | h8
    · by_cases haj : a.testBit j = true
      · simp [h j h8 haj]
      · simp [haj]
    · rw [bit_high ha h8]; rfl
theorem covW_iff (hx : W8 xs) (hR : R < 256) : CovW xs n L R ↔ CoverP (nearF xs) 8 n (fun i => L.testBit i) (fun j => R.testBit j) := by
  constructor
  · intro h i j hi hj hn
    rcases h i hi with h1 | h1
    · exact .inl h1
    · exact .inr ((diffW_zero (hx.at_ i) (by omega)).1 h1 j hj hn)
  · intro h i hi
    by_cases hL : L.testBit i = true
    · exact .inl hL
    · exact .inr ((diffW_zero (hx.at_ i) (by omega)).2 fun j hj hn => (h i j hi hj hn).resolve_left hL)
theorem covW_reach (hx : W8 xs) (hn : n ≤ 8) (hL : L < 256) : CovW xs n L (reachTo xs (othW n L) n) := by
  rw [covW_iff hx (reachTo_lt hx n)]
  intro i j hi hj hij
  by_cases h : L.testBit i = true
  · exact .inl h
  · refine .inr (reachTo_bit.2 ⟨i, hi, ?_, hij⟩)
    rw [othW_bit hn hL]
    simp [hi, h]
theorem covW_least (hx : W8 xs) (hn : n ≤ 8) (hL : L < 256) (hR : R < 256) (h : CovW xs n L R) : ∀ j, j < 8 → (reachTo xs (othW n L) n).testBit j = true → R.testBit j = true := by
  intro j hj hb
  obtain ⟨i, hi, h1, h2⟩ := reachTo_bit.1 hb
  rw [othW_bit hn hL] at h1
  have := (covW_iff hx hR).1 h i j hi hj h2
  simp at h1
  exact this.resolve_left (by simp [h1.2])
/-- What a cover costs whose left is given. -/
def costW (xs : List Nat) (n L : Nat) : Nat := szS L + szS (reachTo xs (othW n L) n)
/-- The first of the cheapest, of the first k. -/
def FirstMin (f : Nat → Nat) (k b : Nat) : Prop := b < k ∧ ∀ L, L < k → f b ≤ f L ∧ (L < b → f b < f L)
theorem FirstMin.eq {f : Nat → Nat} {k a b : Nat} (ha : FirstMin f k a) (hb : FirstMin f k b) : a = b := by
  rcases Nat.lt_trichotomy a b with h | h | h
  · have := (hb.2 a ha.1).2 h; have := (ha.2 b hb.1).1; omega
  · exact h
  · have := (ha.2 b hb.1).2 h; have := (hb.2 a ha.1).1; omega
theorem FirstMin.keep {f : Nat → Nat} {k b : Nat} (h : FirstMin f k b) (hf : f b ≤ f k) : FirstMin f (k + 1) b := ⟨by have := h.1; omega, fun L hL => by
  rcases Nat.lt_or_ge L k with h1 | h1
  · exact h.2 L h1
  · obtain rfl : L = k := by omega
    exact ⟨hf, fun hl => by have := h.1; omega⟩⟩
theorem FirstMin.take {f : Nat → Nat} {k b : Nat} (h : FirstMin f k b) (hf : f k < f b) : FirstMin f (k + 1) k := ⟨by omega, fun L hL => by
  rcases Nat.lt_or_ge L k with h1 | h1
  · have := (h.2 L h1).1; exact ⟨by omega, fun _ => by omega⟩
  · obtain rfl : L = k := by omega
    exact ⟨Nat.le_refl _, fun hl => by omega⟩⟩
theorem FirstMin.one (f : Nat → Nat) : FirstMin f 1 0 := ⟨by omega, fun L hL => by
  obtain rfl : L = 0 := by omega
  exact ⟨Nat.le_refl _, fun h => by omega⟩⟩

/-- As far as the reference has gone: before left L, and there before right k. -/
def Before (L k L' R' : Nat) : Prop := L' < L ∨ (L' = L ∧ R' < k)
def RefCov (xs : List Nat) (n L k a b : Nat) : Prop :=
  (a = 2 ^ n - 1 ∧ b = 255 ∧ ∀ L' R', L' < 2 ^ n → R' < 256 → Before L k L' R' → CovW xs n L' R' → szS a + szS b ≤ szS L' + szS R') ∨
  (a < 2 ^ n ∧ b < 256 ∧ Before L k a b ∧ CovW xs n a b ∧ ∀ L' R', L' < 2 ^ n → R' < 256 → Before L k L' R' → CovW xs n L' R' → szS a + szS b ≤ szS L' + szS R' ∧ (Before a b L' R' → szS a + szS b < szS L' + szS R'))
variable {k a b : Nat}
theorem RefCov.start : RefCov xs n 0 0 (2 ^ n - 1) 255 := .inl ⟨rfl, rfl, fun L' R' _ _ h _ => by unfold Before at h; omega⟩
theorem RefCov.row (h : RefCov xs n L 256 a b) : RefCov xs n (L + 1) 0 a b := by
  have hb : ∀ L' R', R' < 256 → Before (L + 1) 0 L' R' → Before L 256 L' R' := fun L' R' hR h => by unfold Before at *; omega
  rcases h with ⟨h1, h2, h3⟩ | ⟨h1, h2, h3, h4, h5⟩
  · exact .inl ⟨h1, h2, fun L' R' hL hR hB => h3 L' R' hL hR (hb _ _ hR hB)⟩
  · exact .inr ⟨h1, h2, by unfold Before at *; omega, h4, fun L' R' hL hR hB => h5 L' R' hL hR (hb _ _ hR hB)⟩
theorem RefCov.skip (h : RefCov xs n L k a b) (hs : CovW xs n L k → szS a + szS b ≤ szS L + szS k) : RefCov xs n L (k + 1) a b := by
  have hb : ∀ L' R', Before L (k + 1) L' R' → Before L k L' R' ∨ (L' = L ∧ R' = k) := fun L' R' h => by unfold Before at *; omega
  rcases h with ⟨h1, h2, h3⟩ | ⟨h1, h2, h3, h4, h5⟩
  · refine .inl ⟨h1, h2, fun L' R' hL hR hB hc => ?_⟩
    rcases hb _ _ hB with h | ⟨rfl, rfl⟩
    · exact h3 L' R' hL hR h hc
    · exact hs hc
  · refine .inr ⟨h1, h2, by unfold Before at *; omega, h4, fun L' R' hL hR hB hc => ?_⟩
    rcases hb _ _ hB with h | ⟨rfl, rfl⟩
    · exact h5 L' R' hL hR h hc
    · exact ⟨hs hc, fun hh => by unfold Before at *; omega⟩
theorem RefCov.best (h : RefCov xs n L k a b) : ∀ L' R', L' < 2 ^ n → R' < 256 → Before L k L' R' → CovW xs n L' R' → szS a + szS b ≤ szS L' + szS R' := fun L' R' hL hR hB hc => by
  rcases h with ⟨_, _, h3⟩ | ⟨_, _, _, _, h5⟩
  · exact h3 L' R' hL hR hB hc
  · exact (h5 L' R' hL hR hB hc).1
theorem RefCov.take (h : RefCov xs n L k a b) (hL : L < 2 ^ n) (hk : k < 256) (hc : CovW xs n L k) (hs : szS L + szS k < szS a + szS b) : RefCov xs n L (k + 1) L k := by
  have hb : ∀ L' R', Before L (k + 1) L' R' → Before L k L' R' ∨ (L' = L ∧ R' = k) := fun L' R' h => by unfold Before at *; omega
  refine .inr ⟨hL, hk, .inr ⟨rfl, by omega⟩, hc, fun L' R' hL' hR' hB hc' => ?_⟩
  rcases hb _ _ hB with h1 | ⟨rfl, rfl⟩
  · have := h.best L' R' hL' hR' h1 hc'
    exact ⟨by omega, fun _ => by omega⟩
  · exact ⟨Nat.le_refl _, fun hh => by unfold Before at hh; omega⟩
/-- At the end it is the first of the cheapest lefts, and all friends of the others. -/
theorem RefCov.done (hx : W8 xs) (hn : n ≤ 8) (h : RefCov xs n (2 ^ n) 0 a b) : FirstMin (costW xs n) (2 ^ n) a ∧ b = reachTo xs (othW n a) n := by
  have hp8 := pow8 hn
  have hp := Nat.two_pow_pos n
  have hbf : ∀ L' R', L' < 2 ^ n → Before (2 ^ n) 0 L' R' := fun L' R' h => .inl h
  have hin : a < 2 ^ n ∧ b < 256 ∧ CovW xs n a b ∧ ∀ L' R', L' < 2 ^ n → R' < 256 → CovW xs n L' R' → szS a + szS b ≤ szS L' + szS R' ∧ (Before a b L' R' → szS a + szS b < szS L' + szS R') := by
    rcases h with ⟨rfl, rfl, h3⟩ | ⟨h1, h2, _, h4, h5⟩
    · exfalso
      have hs : szS 255 = 8 := by decide +kernel
      have ha : szS (2 ^ n - 1) = n := by
        have : n = 0 ∨ n = 1 ∨ n = 2 ∨ n = 3 ∨ n = 4 ∨ n = 5 ∨ n = 6 ∨ n = 7 ∨ n = 8 := by omega
        rcases this with rfl | rfl | rfl | rfl | rfl | rfl | rfl | rfl | rfl <;> decide +kernel
      have h0 := h3 0 (reachTo xs (othW n 0) n) hp (reachTo_lt hx n) (hbf _ _ hp) (covW_reach hx hn (by omega))
      have hz : szS 0 = 0 := by decide +kernel
      have hle := szS_le (reachTo xs (othW n 0) n)
      have hr : n = 0 → reachTo xs (othW n 0) n = 0 := fun h => by subst h; rfl
      rcases Nat.eq_zero_or_pos n with hn0 | hn0
      · rw [hr hn0] at h0; omega
      · omega
    · exact ⟨h1, h2, h4, fun L' R' hL hR hc => h5 L' R' hL hR (hbf _ _ hL) hc⟩
  obtain ⟨h1, h2, h3, h4⟩ := hin
  have hsub := covW_least hx hn (by omega) h2 h3
  have hb : b = reachTo xs (othW n a) n := by
    refine eq_of_bits h2 (reachTo_lt hx n) fun j hj => ?_
    cases hr : (reachTo xs (othW n a) n).testBit j with
    | true => exact hsub j hj hr
    | false =>
      cases hbj : b.testBit j with
      | false => rfl
      | true =>
        exfalso
        have := szS_strict hsub hj hr hbj
        have := (h4 a _ h1 (reachTo_lt hx n) (covW_reach hx hn (by omega))).1
        omega
  subst hb
  refine ⟨⟨h1, fun L hL => ?_⟩, rfl⟩
  have := h4 L _ hL (reachTo_lt hx n) (covW_reach hx hn (L := L) (by omega))
  exact ⟨this.1, fun hl => this.2 (.inl hl)⟩
/-- KONIG: the cheapest costs just as much as can be paired. -/
theorem cost_konig (hx : W8 xs) (hn : n ≤ 8) (h : FirstMin (costW xs n) (2 ^ n) a) : szS a + szS (reachTo xs (othW n a) n) = mxR (nearF xs) 8 n 0 (fun _ => 1) := by
  have hp8 := pow8 hn
  have ha := h.1
  apply Nat.le_antisymm
  · obtain ⟨L, R, hc, hs⟩ := cover_ex (near := nearF xs) (n := 8) n
    obtain ⟨wl, hl1, hl2⟩ := word_ex L n
    obtain ⟨wr, hr1, hr2⟩ := word_ex R 8
    have hcw : CovW xs n wl wr := (covW_iff hx hr1).2 fun i j hi hj hij => by
      rw [show (fun i => wl.testBit i) i = L i from hl2 i hi, show (fun j => wr.testBit j) j = R j from hr2 j hj]
      exact hc i j hi hj hij
    have h1 := (h.2 wl hl1).1
    have h2 := szS_mono (covW_least hx hn (by omega) hr1 hcw)
    have h3 := szS_of hn hl1 hl2
    have h4 := szS_of (Nat.le_refl 8) hr1 hr2
    unfold costW at h1
    omega
  · have h1 := cover_ge ((covW_iff (R := reachTo xs (othW n a) n) hx (reachTo_lt hx n)).1 (covW_reach hx hn (L := a) (by omega)))
    have h2 := szS_of (S := fun i => a.testBit i) hn ha fun i _ => rfl
    have h3 : szS (reachTo xs (othW n a) n) = sizeP (fun j => (reachTo xs (othW n a) n).testBit j) 8 := rfl
    omega

/-- What a set lacks. -/
def lackW (xs : List Nat) (n s : Nat) : Int := (szS s : Int) - (szS (reachTo xs s n) : Int)
def FirstMax (f : Nat → Int) (k b : Nat) : Prop := b < k ∧ ∀ L, L < k → f L ≤ f b ∧ (L < b → f L < f b)
theorem FirstMax.eq {f : Nat → Int} {k a b : Nat} (ha : FirstMax f k a) (hb : FirstMax f k b) : a = b := by
  rcases Nat.lt_trichotomy a b with h | h | h
  · have := (hb.2 a ha.1).2 h; have := (ha.2 b hb.1).1; omega
  · exact h
  · have := (ha.2 b hb.1).2 h; have := (hb.2 a ha.1).1; omega
theorem FirstMax.keep {f : Nat → Int} {k b : Nat} (h : FirstMax f k b) (hf : f k ≤ f b) : FirstMax f (k + 1) b := ⟨by have := h.1; omega, fun L hL => by
  rcases Nat.lt_or_ge L k with h1 | h1
  · exact h.2 L h1
  · obtain rfl : L = k := by omega
    exact ⟨hf, fun hl => by have := h.1; omega⟩⟩
theorem FirstMax.take {f : Nat → Int} {k b : Nat} (h : FirstMax f k b) (hf : f b < f k) : FirstMax f (k + 1) k := ⟨by omega, fun L hL => by
  rcases Nat.lt_or_ge L k with h1 | h1
  · have := (h.2 L h1).1; exact ⟨by omega, fun _ => by omega⟩
  · obtain rfl : L = k := by omega
    exact ⟨Int.le_refl _, fun hl => by omega⟩⟩
theorem FirstMax.one (f : Nat → Int) : FirstMax f 1 0 := ⟨by omega, fun L hL => by
  obtain rfl : L = 0 := by omega
  exact ⟨Int.le_refl _, fun h => by omega⟩⟩
/-- HALL: who lacks the most lacks as many as are left over. -/
theorem lack_hall (hn : n ≤ 8) (h : FirstMax (lackW xs n) (2 ^ n) a) : lackW xs n a = (n : Int) - (mxR (nearF xs) 8 n 0 (fun _ => 1) : Int) := by
  have ha := h.1
  apply Int.le_antisymm
  · have h1 := lack_le (near := nearF xs) (n := 8) (fun i => a.testBit i) n (fun _ => 1)
    rw [room_reach] at h1
    have h2 := szS_of (S := fun i => a.testBit i) hn ha fun i _ => rfl
    unfold lackW
    omega
  · obtain ⟨S, hS⟩ := lack_ex (near := nearF xs) (n := 8) n (fun _ => 1)
    obtain ⟨w, h1, h2⟩ := word_ex S n
    have h3 := (h.2 w h1).1
    have h4 := szS_of hn h1 h2
    have h5 : roomS (nearF xs) 8 S 0 n (fun _ => 1) = roomS (nearF xs) 8 (fun i => w.testBit i) 0 n (fun _ => 1) := by
      refine sumTo_congr 8 fun j _ => ?_
      have hiff : nbS (nearF xs) S 0 n j ↔ nbS (nearF xs) (fun i => w.testBit i) 0 n j := by
        unfold nbS
        constructor
        · rintro ⟨t, ht, g1, g2⟩; exact ⟨t, ht, by rw [Nat.zero_add] at g1 ⊢; rw [show (fun i => w.testBit i) t = S t from h2 t ht]; exact g1, g2⟩
        · rintro ⟨t, ht, g1, g2⟩; exact ⟨t, ht, by rw [Nat.zero_add] at g1 ⊢; rw [← show (fun i => w.testBit i) t = S t from h2 t ht]; exact g1, g2⟩
      by_cases p : nbS (nearF xs) S 0 n j
      · rw [if_pos p, if_pos (hiff.1 p)]
      · rw [if_neg p, if_neg fun q => p (hiff.2 q)]
    rw [room_reach] at h5
    unfold lackW at h3 ⊢
    omega
end
end Go.Proofs.Yticickicfigpbaa
