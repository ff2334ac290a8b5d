/- Colourings, counted by sets: numbers that satisfy the recursion by the set of the highest node; one colour more; with which numbers there is a colouring. Words are sets. Plain facts, of no program. -/
import Derived.Test.YticickicfigpbaaFlowP
namespace Go.Proofs.Yticickicfigpbaa

/-! Words as sets. -/
def subQ (s w : Nat) : Bool := decide (s &&& w = s)
theorem subQ_iff {s w : Nat} : subQ s w = true ↔ ∀ i, s.testBit i = true → w.testBit i = true := by
  unfold subQ
  rw [decide_eq_true_iff]
  constructor
  · intro h i hi
    rw [← h, Nat.testBit_and, Bool.and_eq_true] at hi
    exact hi.2
  · intro h
    apply Nat.eq_of_testBit_eq
    intro i
    rw [Nat.testBit_and]
    cases hs : s.testBit i with
    | false => rfl
    | true => rw [h i hs]; rfl
theorem subQ_zero (w : Nat) : subQ 0 w = true := subQ_iff.2 fun i h => by simp at h
theorem sub_bits {s w : Nat} (h : subQ s w = true) (i : Nat) : (w ^^^ s).testBit i = (w.testBit i && !s.testBit i) := by
  rw [Nat.testBit_xor]
  cases hs : s.testBit i with
  | false => cases w.testBit i <;> rfl
  | true => rw [subQ_iff.1 h i hs]; rfl
theorem sub_sub {s w : Nat} (h : subQ s w = true) : subQ (w ^^^ s) w = true := subQ_iff.2 fun i hi => by
  rw [sub_bits h, Bool.and_eq_true] at hi; exact hi.1
theorem sub_lt {s w : Nat} (h : subQ s w = true) (h0 : s ≠ 0) : w ^^^ s < w := by
  have h1 : w ^^^ s ≤ w := sub_le fun i hi => subQ_iff.1 (sub_sub h) i hi
  have h2 : w ^^^ s ≠ w := fun e => by
    obtain ⟨i, hi⟩ := Nat.exists_testBit_of_ne_zero h0
    have h3 := sub_bits h i
    rw [e, hi, subQ_iff.1 h i hi] at h3
    cases h3
  omega
theorem sub_pow {s w n : Nat} (h : subQ s w = true) (hw : w < 2 ^ n) : s < 2 ^ n := Nat.lt_of_le_of_lt (sub_le fun i hi => subQ_iff.1 h i hi) hw
theorem sub_swap {s r w : Nat} : (subQ s w = true ∧ subQ r (w ^^^ s) = true) ↔ (subQ r w = true ∧ subQ s (w ^^^ r) = true) := by
  have one : ∀ s r : Nat, (subQ s w = true ∧ subQ r (w ^^^ s) = true) → (subQ r w = true ∧ subQ s (w ^^^ r) = true) := fun s r ⟨h1, h2⟩ => by
    have h3 : subQ r w = true := subQ_iff.2 fun i hi => subQ_iff.1 (sub_sub h1) i (subQ_iff.1 h2 i hi)
    refine ⟨h3, subQ_iff.2 fun i hi => ?_⟩
    rw [sub_bits h3, subQ_iff.1 h1 i hi]
    cases hr : r.testBit i with
    | false => rfl
    | true =>
      have := subQ_iff.1 h2 i hr
      rw [sub_bits h1, hi] at this
      simp at this
  exact ⟨one s r, one r s⟩
theorem xor_swap (w s r : Nat) : (w ^^^ s) ^^^ r = (w ^^^ r) ^^^ s := by
  rw [Nat.xor_assoc, Nat.xor_comm s r, ← Nat.xor_assoc]
/-- The highest one. -/
def topW (w : Nat) : Nat := Nat.log2 w
theorem topW_bit {w : Nat} (h : w ≠ 0) : w.testBit (topW w) = true := by
  have h1 := Nat.log2_self_le h
  have h2 := @Nat.lt_log2_self w
  unfold topW
  rw [Nat.testBit_eq_decide_div_mod_eq]
  have h3 : w / 2 ^ w.log2 = 1 := by
    apply Nat.div_eq_of_lt_le
    · omega
    · rw [Nat.pow_succ] at h2; omega
  rw [h3]; rfl
theorem topW_le {w i : Nat} (h : w.testBit i = true) : i ≤ topW w := by
  apply Nat.le_of_not_lt
  intro hlt
  have h2 := @Nat.lt_log2_self w
  rw [Nat.testBit_lt_two_pow (Nat.lt_of_lt_of_le h2 (Nat.pow_le_pow_right (by decide) hlt))] at h
  cases h
theorem topW_eq {w t : Nat} (ht : w.testBit t = true) (hle : ∀ i, w.testBit i = true → i ≤ t) : topW w = t := by
  have h1 := topW_le ht
  have h0 : w ≠ 0 := fun e => by rw [e] at ht; simp at ht
  have h2 := hle _ (topW_bit h0)
  omega
theorem topW_sub {s w : Nat} (h : subQ s w = true) (ht : s.testBit (topW w) = false) (h0 : w ≠ 0) : topW (w ^^^ s) = topW w :=
  topW_eq (by rw [sub_bits h, topW_bit h0, ht]; rfl) fun i hi => topW_le (subQ_iff.1 (sub_sub h) i hi)

theorem sumI_mul (x : Int) (f : Nat → Int) : ∀ n, sumI (fun k => x * f k) n = x * sumI f n
  | 0 => by simp [sumI]
  | n + 1 => by simp only [sumI]; rw [sumI_mul x f n, Int.mul_add]
theorem sumI_nonneg {f : Nat → Int} : ∀ n, (∀ k, k < n → 0 ≤ f k) → 0 ≤ sumI f n
  | 0, _ => Int.le_refl _
  | n + 1, h => by
    have h1 := sumI_nonneg n fun k hk => h k (by omega)
    have h2 := h n (by omega)
    simp only [sumI]; omega
theorem sumI_ge {f : Nat → Int} {i : Nat} : ∀ n, (∀ k, k < n → 0 ≤ f k) → i < n → f i ≤ sumI f n
  | n + 1, h, hi => by
    have h2 := h n (by omega)
    simp only [sumI]
    rcases Nat.lt_or_ge i n with h1 | h1
    · have := sumI_ge n (fun k hk => h k (by omega)) h1
      omega
    · obtain rfl : i = n := by omega
      have := sumI_nonneg i fun k hk => h k (by omega)
      omega
theorem sumI_pos {f : Nat → Int} : ∀ n, (∀ k, k < n → 0 ≤ f k) → 0 < sumI f n → ∃ k, k < n ∧ 0 < f k
  | 0, _, h => by simp [sumI] at h
  | n + 1, h, hp => by
    simp only [sumI] at hp
    rcases Int.lt_or_le 0 (f n) with h1 | h1
    · exact ⟨n, by omega, h1⟩
    · obtain ⟨k, hk, hf⟩ := sumI_pos n (fun k hk => h k (by omega)) (by omega)
      exact ⟨k, by omega, hf⟩

/-- Over all sets within w that may be one colour's. -/
def sumQ (n : Nat) (loose : Nat → Bool) (w : Nat) (g : Nat → Int) : Int := sumI (fun s => if subQ s w = true ∧ loose s = true then g s else 0) (2 ^ n)
/-- The numbers that the recursion by the highest node's set gives. -/
structure PolA (n : Nat) (loose : Nat → Bool) (A : Nat → Int → Int) : Prop where
  zero : ∀ x, A 0 x = 1
  rec_ : ∀ w, w ≠ 0 → w < 2 ^ n → ∀ x, A w x = x * sumQ n loose w fun s => if s.testBit (topW w) = true then A (w ^^^ s) (x - 1) else 0
section
variable {n : Nat} {loose : Nat → Bool} {A : Nat → Int → Int} {w : Nat}
theorem sumQ_congr {g h : Nat → Int} (he : ∀ s, subQ s w = true → loose s = true → g s = h s) : sumQ n loose w g = sumQ n loose w h := sumI_congr _ fun s _ => by
  by_cases hc : subQ s w = true ∧ loose s = true
  · rw [if_pos hc, if_pos hc, he s hc.1 hc.2]
  · rw [if_neg hc, if_neg hc]
theorem sumQ_zero (hl : loose 0 = true) (g : Nat → Int) : sumQ n loose 0 g = g 0 := by
  unfold sumQ
  rw [sumI_one (i := 0) (2 ^ n) (Nat.two_pow_pos n) fun s _ hs => if_neg fun h => hs (Nat.le_zero.1 (sub_le fun i hi => subQ_iff.1 h.1 i hi))]
  exact if_pos ⟨subQ_zero 0, hl⟩
/-- One colour more: it takes some set. -/
theorem pol_next (H : PolA n loose A) (hl : loose 0 = true) : ∀ m w, w < m → w < 2 ^ n → ∀ x, A w (x + 1) = sumQ n loose w fun s => A (w ^^^ s) x
  | 0, w, h, _, _ => absurd h (by omega)
  | m + 1, w, hm, hw, x => by
    by_cases h0 : w = 0
    · subst h0
      rw [sumQ_zero hl, H.zero]
      exact (H.zero x).symm
    · have htop := topW_bit h0
      have hrec := H.rec_ w h0 hw (x + 1)
      have hin : ∀ r, subQ r w = true → r.testBit (topW w) = true → A (w ^^^ r) x = sumQ n loose (w ^^^ r) fun s => A ((w ^^^ r) ^^^ s) (x - 1) := fun r hr ht => by
        have hr0 : r ≠ 0 := fun e => by rw [e] at ht; simp at ht
        have hlt := sub_lt hr hr0
        have := pol_next H hl m (w ^^^ r) (by omega) (by omega) (x - 1)
        rwa [show x - 1 + 1 = x by omega] at this
      -- the two parts: with the highest node, and without it
      have split : sumQ n loose w (fun s => A (w ^^^ s) x) = sumQ n loose w (fun s => if s.testBit (topW w) = true then A (w ^^^ s) x else 0) + sumQ n loose w (fun s => if s.testBit (topW w) = false then A (w ^^^ s) x else 0) := by
        unfold sumQ
        rw [← sumI_add]
        refine sumI_congr _ fun s _ => ?_
        try dsimp only
        by_cases hc : subQ s w = true ∧ loose s = true
        · rw [if_pos hc, if_pos hc, if_pos hc]
          cases s.testBit (topW w)
          · rw [if_neg (by decide), if_pos rfl, Int.zero_add]
          · rw [if_pos rfl, if_neg (by decide), Int.add_zero]
        · rw [if_neg hc, if_neg hc, if_neg hc]; rfl
      have without : sumQ n loose w (fun s => if s.testBit (topW w) = false then A (w ^^^ s) x else 0) = x * sumQ n loose w (fun r => if r.testBit (topW w) = true then A (w ^^^ r) x else 0) := by
        have e1 : ∀ s, subQ s w = true → s.testBit (topW w) = false → A (w ^^^ s) x = x * sumI (fun r => if (subQ r (w ^^^ s) = true ∧ loose r = true) ∧ r.testBit (topW w) = true then A ((w ^^^ s) ^^^ r) (x - 1) else 0) (2 ^ n) := fun s hs ht => by
          have hne : w ^^^ s ≠ 0 := fun e => by
            have := sub_bits hs (topW w)
            rw [e, htop, ht] at this
            simp at this
          have hlt : w ^^^ s < 2 ^ n := sub_pow (sub_sub hs) hw
          rw [H.rec_ _ hne hlt x, topW_sub hs ht h0]
          unfold sumQ
          congr 1
          refine sumI_congr _ fun r _ => ?_
          try dsimp only
          by_cases hc : subQ r (w ^^^ s) = true ∧ loose r = true
          · rw [if_pos hc]
            by_cases hb : r.testBit (topW w) = true
            · rw [if_pos hb, if_pos ⟨hc, hb⟩]
            · rw [if_neg hb, if_neg fun h => hb h.2]
          · rw [if_neg hc, if_neg fun h => hc h.1]
        have e2 : sumQ n loose w (fun s => if s.testBit (topW w) = false then A (w ^^^ s) x else 0) = x * sumI (fun s => sumI (fun r => if ((subQ s w = true ∧ loose s = true) ∧ s.testBit (topW w) = false) ∧ (subQ r (w ^^^ s) = true ∧ loose r = true) ∧ r.testBit (topW w) = true then A ((w ^^^ s) ^^^ r) (x - 1) else 0) (2 ^ n)) (2 ^ n) := by
          rw [← sumI_mul]
          unfold sumQ
          refine sumI_congr _ fun s _ => ?_
          try dsimp only
          by_cases hc : subQ s w = true ∧ loose s = true
          · rw [if_pos hc]
            by_cases hb : s.testBit (topW w) = false
            · rw [if_pos hb, e1 s hc.1 hb]
              congr 1
              exact sumI_congr _ fun r _ => by
                by_cases hr : (subQ r (w ^^^ s) = true ∧ loose r = true) ∧ r.testBit (topW w) = true
                · rw [if_pos hr, if_pos ⟨⟨hc, hb⟩, hr⟩]
                · rw [if_neg hr, if_neg fun h => hr h.2]
            · rw [if_neg hb, sumI_zero _ fun r _ => if_neg fun h => hb h.1.2]; simp
          · rw [if_neg hc, sumI_zero _ fun r _ => if_neg fun h => hc h.1.1]; simp
        rw [e2, sumI_comm (fun s r => if ((subQ s w = true ∧ loose s = true) ∧ s.testBit (topW w) = false) ∧ (subQ r (w ^^^ s) = true ∧ loose r = true) ∧ r.testBit (topW w) = true then A ((w ^^^ s) ^^^ r) (x - 1) else 0)]
        congr 1
        unfold sumQ
        refine sumI_congr _ fun r _ => ?_
        try dsimp only
        by_cases hc : subQ r w = true ∧ loose r = true
        · rw [if_pos hc]
          by_cases hb : r.testBit (topW w) = true
          · rw [if_pos hb, hin r hc.1 hb]
            unfold sumQ
            refine sumI_congr _ fun s _ => ?_
            try dsimp only
            have hiff : (((subQ s w = true ∧ loose s = true) ∧ s.testBit (topW w) = false) ∧ (subQ r (w ^^^ s) = true ∧ loose r = true) ∧ r.testBit (topW w) = true) ↔ (subQ s (w ^^^ r) = true ∧ loose s = true) := by
              constructor
              · rintro ⟨⟨⟨h1, h2⟩, _⟩, ⟨h3, _⟩, _⟩
                exact ⟨(sub_swap.1 ⟨h1, h3⟩).2, h2⟩
              · rintro ⟨h1, h2⟩
                obtain ⟨h3, h4⟩ := sub_swap.1 ⟨hc.1, h1⟩
                refine ⟨⟨⟨h3, h2⟩, ?_⟩, ⟨h4, hc.2⟩, hb⟩
                cases hs : s.testBit (topW w) with
                | false => rfl
                | true =>
                  have := subQ_iff.1 h1 _ hs
                  rw [sub_bits hc.1, hb] at this
                  simp at this
            by_cases hd : subQ s (w ^^^ r) = true ∧ loose s = true
            · rw [if_pos hd, if_pos (hiff.2 hd), xor_swap]
            · rw [if_neg hd, if_neg fun h => hd (hiff.1 h)]
          · rw [if_neg hb]
            exact sumI_zero _ fun s _ => if_neg fun h => hb h.2.2
        · rw [if_neg hc]
          exact sumI_zero _ fun s _ => if_neg fun h => hc ⟨(sub_swap.1 ⟨h.1.1.1, h.2.1.1⟩).1, h.2.1.2⟩
      rw [split, without, hrec]
      have e3 : sumQ n loose w (fun s => if s.testBit (topW w) = true then A (w ^^^ s) (x + 1 - 1) else 0) = sumQ n loose w (fun s => if s.testBit (topW w) = true then A (w ^^^ s) x else 0) := sumQ_congr fun s _ _ => by rw [show x + 1 - 1 = x by omega]
      rw [e3, Int.add_mul, Int.one_mul, Int.add_comm]
theorem pol_zero (H : PolA n loose A) (hw : w < 2 ^ n) (h0 : w ≠ 0) : A w 0 = 0 := by rw [H.rec_ w h0 hw 0, Int.zero_mul]
theorem pol_succ (H : PolA n loose A) (hl : loose 0 = true) (hw : w < 2 ^ n) (x : Int) : A w (x + 1) = sumQ n loose w fun s => A (w ^^^ s) x := pol_next H hl (w + 1) w (by omega) hw x
/-- With colours there are never less than none. -/
theorem pol_nonneg (H : PolA n loose A) (hl : loose 0 = true) : ∀ (k : Nat) w, w < 2 ^ n → 0 ≤ A w k
  | 0, w, hw => by
    by_cases h0 : w = 0
    · rw [h0, H.zero]; decide
    · show 0 ≤ A w 0
      rw [pol_zero H hw h0]; exact Int.le_refl _
  | k + 1, w, hw => by
    rw [show ((k + 1 : Nat) : Int) = (k : Int) + 1 by omega, pol_succ H hl hw]
    refine sumI_nonneg _ fun s _ => ?_
    by_cases hc : subQ s w = true ∧ loose s = true
    · rw [if_pos hc]; exact pol_nonneg H hl k _ (sub_pow (sub_sub hc.1) hw)
    · rw [if_neg hc]; exact Int.le_refl _
/-- And with one more no fewer. -/
theorem pol_mono (H : PolA n loose A) (hl : loose 0 = true) (k : Nat) (hw : w < 2 ^ n) : A w k ≤ A w (k + 1) := by
  rw [pol_succ H hl hw]
  have h := sumI_ge (f := fun s => if subQ s w = true ∧ loose s = true then A (w ^^^ s) k else 0) (i := 0) (2 ^ n) (fun s _ => by
    by_cases hc : subQ s w = true ∧ loose s = true
    · simp only [if_pos hc]; exact pol_nonneg H hl k _ (sub_pow (sub_sub hc.1) hw)
    · simp only [if_neg hc]; exact Int.le_refl _) (Nat.two_pow_pos n)
  simp only [if_pos (show subQ 0 w = true ∧ loose 0 = true from ⟨subQ_zero w, hl⟩), Nat.xor_zero] at h
  exact h
/-- A colouring by k colours of the nodes of w. -/
def ColW (loose : Nat → Bool) (w k : Nat) (c : Nat → Nat) : Prop := (∀ i, w.testBit i = true → c i < k) ∧ ∀ s, subQ s w = true → (∀ i j, s.testBit i = true → s.testBit j = true → c i = c j) → loose s = true
/-- There is one just if the number is none. -/
theorem pol_pos (H : PolA n loose A) (hl : loose 0 = true) (hdown : ∀ s r, subQ r s = true → loose s = true → loose r = true) : ∀ (k : Nat) w, w < 2 ^ n → (0 < A w k ↔ ∃ c, ColW loose w k c)
  | 0, w, hw => by
    by_cases h0 : w = 0
    · subst h0
      rw [H.zero]
      refine ⟨fun _ => ⟨fun _ => 0, fun i hi => by simp at hi, fun s hs _ => ?_⟩, fun _ => by decide⟩
      obtain rfl : s = 0 := Nat.le_zero.1 (sub_le fun i hi => subQ_iff.1 hs i hi)
      exact hl
    · show 0 < A w 0 ↔ _
      rw [pol_zero H hw h0]
      refine ⟨fun h => absurd h (by decide), fun ⟨c, hc, _⟩ => ?_⟩
      have := hc _ (topW_bit h0)
      omega
  | k + 1, w, hw => by
    rw [show ((k + 1 : Nat) : Int) = (k : Int) + 1 by omega, pol_succ H hl hw]
    have hnn : ∀ s, s < 2 ^ n → 0 ≤ (if subQ s w = true ∧ loose s = true then A (w ^^^ s) k else 0) := fun s _ => by
      by_cases hc : subQ s w = true ∧ loose s = true
      · rw [if_pos hc]; exact pol_nonneg H hl k _ (sub_pow (sub_sub hc.1) hw)
      · rw [if_neg hc]; exact Int.le_refl _
    constructor
    · intro h
      obtain ⟨s, hs, hp⟩ := sumI_pos _ hnn h
      by_cases hc : subQ s w = true ∧ loose s = true
      · rw [if_pos hc] at hp
        obtain ⟨c, hc1, hc2⟩ := (pol_pos H hl hdown k _ (sub_pow (sub_sub hc.1) hw)).1 hp
        refine ⟨fun i => if s.testBit i = true then k else c i, fun i hi => ?_, fun r hr he => ?_⟩
        · by_cases hsi : s.testBit i = true
          · simp only [if_pos hsi]; omega
          · simp only [if_neg hsi]
            have := hc1 i (by rw [sub_bits hc.1, hi]; simpa using hsi)
            omega
        · by_cases hrs : ∃ i, r.testBit i = true ∧ s.testBit i = true
          · obtain ⟨i, hri, hsi⟩ := hrs
            refine hdown s r (subQ_iff.2 fun j hrj => ?_) hc.2
            cases hsj : s.testBit j with
            | true => rfl
            | false =>
              have := he i j hri hrj
              simp only [hsi, hsj, if_true] at this
              have h2 := hc1 j (by rw [sub_bits hc.1, subQ_iff.1 hr j hrj, hsj]; rfl)
              simp at this
              omega
          · refine hc2 r (subQ_iff.2 fun i hi => ?_) fun i j hi hj => ?_
            · rw [sub_bits hc.1, subQ_iff.1 hr i hi]
              cases hsi : s.testBit i with
              | false => rfl
              | true => exact absurd ⟨i, hi, hsi⟩ hrs
            · have := he i j hi hj
              have h1 : ¬ s.testBit i = true := fun h => hrs ⟨i, hi, h⟩
              have h2 : ¬ s.testBit j = true := fun h => hrs ⟨j, hj, h⟩
              simpa only [if_neg h1, if_neg h2] using this
      · rw [if_neg hc] at hp; exact absurd hp (by decide)
    · rintro ⟨c, hc1, hc2⟩
      obtain ⟨s, hs, hbit⟩ : ∃ s, s < 2 ^ n ∧ ∀ i, i < n → s.testBit i = (w.testBit i && decide (c i = k)) := word_ex (fun i => w.testBit i && decide (c i = k)) n
      have hsb : ∀ i, s.testBit i = true ↔ w.testBit i = true ∧ c i = k := fun i => by
        rcases Nat.lt_or_ge i n with hi | hi
        · rw [hbit i hi, Bool.and_eq_true, decide_eq_true_iff]
        · rw [bit_pow hs hi, bit_pow hw hi]; simp
      have hsw : subQ s w = true := subQ_iff.2 fun i hi => ((hsb i).1 hi).1
      have hsl : loose s = true := hc2 s hsw fun i j hi hj => by rw [((hsb i).1 hi).2, ((hsb j).1 hj).2]
      have hp := (pol_pos H hl hdown k (w ^^^ s) (sub_pow (sub_sub hsw) hw)).2 ⟨c, fun i hi => by
        rw [sub_bits hsw, Bool.and_eq_true] at hi
        have h1 := hc1 i hi.1
        have h2 : c i ≠ k := fun e => by
          have := (hsb i).2 ⟨hi.1, e⟩
          rw [this] at hi; simp at hi
        omega, fun r hr he => hc2 r (subQ_iff.2 fun i hi => subQ_iff.1 (sub_sub hsw) i (subQ_iff.1 hr i hi)) he⟩
      have hge := sumI_ge (f := fun s => if subQ s w = true ∧ loose s = true then A (w ^^^ s) k else 0) (i := s) (2 ^ n) hnn hs
      simp only [if_pos (show subQ s w = true ∧ loose s = true from ⟨hsw, hsl⟩)] at hge
      exact Int.lt_of_lt_of_le hp hge
end
end Go.Proofs.Yticickicfigpbaa
