/- Trees of a set of nodes, edge by edge; that they fall apart in two without one of theirs. Plain facts. -/
import Derived.Test.YthfgbgmkiggjmacDoorLap
namespace Go.Proofs.YthfgbgmkiggjmacDoor

abbrev NS := Nat → Bool
/-- Is the set just one class? -/
def ClassOf (n : Nat) (lab : Nat → Nat) (S : NS) : Prop := ∃ x, x < n ∧ S x = true ∧ ∀ y, y < n → (S y = true ↔ lab y = lab x)
noncomputable def trees (n : Nat) (S : NS) : NE → (Nat → Nat) → Nat
  | [], lab => @ite _ (ClassOf n lab S) (Classical.propDecidable _) 1 0
  | e :: E, lab => trees n S E lab + (if S e.1 = true ∧ S e.2 = true ∧ lab e.1 ≠ lab e.2 then trees n S E (mrg lab (lab e.1) (lab e.2)) else 0)
def InN (n : Nat) (E : NE) : Prop := ∀ e ∈ E, e.1 < n ∧ e.2 < n
def Closed (n : Nat) (lab : Nat → Nat) (S : NS) : Prop := ∀ x y, x < n → y < n → lab x = lab y → S x = true → S y = true

theorem mrg_eq {lab : Nat → Nat} {x y : Nat} (i j : Nat) : mrg lab x y i = mrg lab x y j ↔ lab i = lab j ∨ ((lab i = x ∨ lab i = y) ∧ (lab j = x ∨ lab j = y)) := by
  unfold mrg
  generalize lab i = a
  generalize lab j = b
  split <;> split <;> constructor <;> intro h <;> omega
theorem mrg_swap (lab : Nat → Nat) (c d x y i j : Nat) : mrg (mrg lab (lab c) (lab d)) (mrg lab (lab c) (lab d) x) (mrg lab (lab c) (lab d) y) i = mrg (mrg lab (lab c) (lab d)) (mrg lab (lab c) (lab d) x) (mrg lab (lab c) (lab d) y) j ↔ mrg (mrg lab (lab x) (lab y)) (mrg lab (lab x) (lab y) c) (mrg lab (lab x) (lab y) d) i = mrg (mrg lab (lab x) (lab y)) (mrg lab (lab x) (lab y) c) (mrg lab (lab x) (lab y) d) j := by
  unfold mrg
  generalize lab i = p
  generalize lab j = q
  generalize lab c = u
  generalize lab d = v
  generalize lab x = s
  generalize lab y = t
  grind
/-- Only who is in one class with whom counts, and within the set alone. -/
theorem trees_congr {n : Nat} {S : NS} : ∀ (E : NE) (lab lab' : Nat → Nat), InN n E → (∀ i j, i < n → j < n → S i = true → (lab i = lab j ↔ lab' i = lab' j)) → trees n S E lab = trees n S E lab'
  | [], lab, lab', _, h => by
    have : ClassOf n lab S ↔ ClassOf n lab' S := by
      constructor
      · rintro ⟨x, hx, hs, ha⟩
        exact ⟨x, hx, hs, fun y hy => by rw [ha y hy, eq_comm, h x y hx hy hs, eq_comm]⟩
      · rintro ⟨x, hx, hs, ha⟩
        exact ⟨x, hx, hs, fun y hy => by rw [ha y hy, eq_comm, ← h x y hx hy hs, eq_comm]⟩
    unfold trees
    by_cases hc : ClassOf n lab S
    · rw [if_pos hc, if_pos (this.1 hc)]
    · rw [if_neg hc, if_neg (fun h => hc (this.2 h))]
  | e :: E, lab, lab', hin, h => by
    have hin' : InN n E := fun d hd => hin d (List.mem_cons_of_mem _ hd)
    obtain ⟨h1, h2⟩ := hin e (List.mem_cons_self ..)
    simp only [trees]
    rw [trees_congr E lab lab' hin' h]
    by_cases hc : S e.1 = true ∧ S e.2 = true ∧ lab e.1 ≠ lab e.2
    · have hc' : S e.1 = true ∧ S e.2 = true ∧ lab' e.1 ≠ lab' e.2 := ⟨hc.1, hc.2.1, fun hh => hc.2.2 ((h _ _ h1 h2 hc.1).2 hh)⟩
      rw [if_pos hc, if_pos hc']
      congr 1
      refine trees_congr E _ _ hin' (fun i j hi hj hs => ?_)
      rw [mrg_eq, mrg_eq, h i j hi hj hs, h i e.1 hi h1 hs, h i e.2 hi h2 hs]
      have a1 : lab j = lab e.1 ↔ lab' j = lab' e.1 := by rw [eq_comm, h e.1 j h1 hj hc.1, eq_comm]
      have a2 : lab j = lab e.2 ↔ lab' j = lab' e.2 := by rw [eq_comm, h e.2 j h2 hj hc.2.1, eq_comm]
      rw [a1, a2]
    · have hc' : ¬ (S e.1 = true ∧ S e.2 = true ∧ lab' e.1 ≠ lab' e.2) := fun hh => hc ⟨hh.1, hh.2.1, fun h3 => hh.2.2 ((h _ _ h1 h2 hh.1).1 h3)⟩
      rw [if_neg hc, if_neg hc']
/-- A set that a class leaves has no trees. -/
theorem trees_open {n : Nat} {S : NS} : ∀ (E : NE) (lab : Nat → Nat) {x y : Nat}, x < n → y < n → lab x = lab y → S x = true → S y = false → trees n S E lab = 0
  | [], lab, x, y, hx, hy, hl, hsx, hsy => by
    unfold trees
    rw [if_neg]
    rintro ⟨z, _, _, ha⟩
    have h1 := (ha x hx).1 hsx
    have h2 := (ha y hy).2 (by rw [← hl, h1])
    rw [hsy] at h2
    cases h2
  | e :: E, lab, x, y, hx, hy, hl, hsx, hsy => by
    simp only [trees]
    rw [trees_open E lab hx hy hl hsx hsy]
    split
    · rw [trees_open E _ hx hy (by rw [mrg_eq]; exact .inl hl) hsx hsy]
    · rfl
theorem trees_none {n : Nat} {S : NS} (h : ∀ x, x < n → S x = false) : ∀ (E : NE) (lab : Nat → Nat), InN n E → trees n S E lab = 0
  | [], lab, _ => by
    unfold trees
    rw [if_neg]
    rintro ⟨z, hz, hs, _⟩
    rw [h z hz] at hs
    cases hs
  | e :: E, lab, hin => by
    simp only [trees]
    rw [trees_none h E lab (fun d hd => hin d (List.mem_cons_of_mem _ hd)), if_neg]
    rintro ⟨h1, _⟩
    rw [h _ (hin e (List.mem_cons_self ..)).1] at h1
    cases h1
theorem trees_le {n : Nat} {S : NS} : ∀ (E : NE) (lab : Nat → Nat), trees n S E lab ≤ 2 ^ E.length
  | [], lab => by unfold trees; split <;> simp
  | e :: E, lab => by
    have h1 := trees_le (n := n) (S := S) E lab
    have h2 := trees_le (n := n) (S := S) E (mrg lab (lab e.1) (lab e.2))
    simp only [trees, List.length_cons, Nat.pow_succ]
    split <;> omega

/-! Sums over the parts of a set. -/
def bitsS (a : Nat) : NS := fun i => a.testBit i
def lessS (S T : NS) : NS := fun i => S i && !T i
/-- Sums over all words of so many bits. -/
def sumN (f : Nat → Nat) : Nat → Nat
  | 0 => 0
  | k + 1 => sumN f k + f k
theorem sumN_add (f g : Nat → Nat) : ∀ k, sumN (fun a => f a + g a) k = sumN f k + sumN g k
  | 0 => rfl
  | k + 1 => by simp only [sumN]; rw [sumN_add f g k]; omega
theorem sumN_mul (c : Nat) (f : Nat → Nat) : ∀ k, sumN (fun a => c * f a) k = c * sumN f k
  | 0 => rfl
  | k + 1 => by simp only [sumN]; rw [sumN_mul c f k, Nat.mul_add]
theorem sumN_congr {f g : Nat → Nat} : ∀ k, (∀ a, a < k → f a = g a) → sumN f k = sumN g k
  | 0, _ => rfl
  | k + 1, h => by simp only [sumN]; rw [sumN_congr k (fun a ha => h a (by omega)), h k (by omega)]
theorem sumN_zero {f : Nat → Nat} : ∀ k, (∀ a, a < k → f a = 0) → sumN f k = 0
  | 0, _ => rfl
  | k + 1, h => by simp only [sumN]; rw [sumN_zero k (fun a ha => h a (by omega)), h k (by omega)]
theorem sumN_one {f : Nat → Nat} {x : Nat} : ∀ k, x < k → (∀ a, a < k → a ≠ x → f a = 0) → sumN f k = f x
  | 0, h, _ => by omega
  | k + 1, h, hf => by
    simp only [sumN]
    by_cases hx : x = k
    · subst hx
      rw [sumN_zero x (fun a ha => hf a (by omega) (by omega))]; omega
    · rw [sumN_one k (by omega) (fun a ha hax => hf a (by omega) hax), hf k (by omega) (fun h => hx h.symm)]; rfl
/-- The word of a set. -/
def wordS (S : NS) : Nat → Nat
  | 0 => 0
  | k + 1 => wordS S k + (if S k = true then 2 ^ k else 0)
theorem wordS_lt (S : NS) : ∀ k, wordS S k < 2 ^ k
  | 0 => by simp [wordS]
  | k + 1 => by
    have := wordS_lt S k
    simp only [wordS, Nat.pow_succ]
    split <;> omega
theorem wordS_bit (S : NS) (i : Nat) : ∀ k, (wordS S k).testBit i = (decide (i < k) && S i)
  | 0 => by simp [wordS]
  | k + 1 => by
    have hl := wordS_lt S k
    simp only [wordS]
    by_cases hs : S k = true
    · rw [if_pos hs, Nat.add_comm]
      rcases Nat.lt_trichotomy i k with h | h | h
      · rw [Nat.testBit_two_pow_add_gt h, wordS_bit S i k]
        simp [h, show i < k + 1 by omega]
      · subst h
        rw [Nat.testBit_two_pow_add_eq, Nat.testBit_lt_two_pow hl]
        simp [hs]
      · rw [Nat.testBit_lt_two_pow (Nat.lt_of_lt_of_le (show 2 ^ k + wordS S k < 2 ^ (k + 1) by rw [Nat.pow_succ]; omega) (Nat.pow_le_pow_right (by decide) h))]
        simp [show ¬ i < k + 1 by omega]
    · rw [if_neg hs, Nat.add_zero, wordS_bit S i k]
      by_cases h1 : i < k
      · simp [h1, show i < k + 1 by omega]
      · by_cases h2 : i = k
        · subst h2; simp [hs]
        · simp [h1, show ¬ i < k + 1 by omega]

def SubW (n : Nat) (S : NS) (a : Nat) : Prop := ∀ i, i < n → a.testBit i = true → S i = true
/-- Both parts of a set, and an edge more. -/
theorem two_cons {n : Nat} {S : NS} {E : NE} {lab : Nat → Nat} {e : Nat × Nat} {a : Nat} (hin : InN n (e :: E)) (ha : SubW n S a) :
    trees n (bitsS a) (e :: E) lab * trees n (lessS S (bitsS a)) (e :: E) lab = trees n (bitsS a) E lab * trees n (lessS S (bitsS a)) E lab +
      if S e.1 = true ∧ S e.2 = true ∧ lab e.1 ≠ lab e.2 then trees n (bitsS a) E (mrg lab (lab e.1) (lab e.2)) * trees n (lessS S (bitsS a)) E (mrg lab (lab e.1) (lab e.2)) else 0 := by
  have hin' : InN n E := fun d hd => hin d (List.mem_cons_of_mem _ hd)
  obtain ⟨h1, h2⟩ := hin e (List.mem_cons_self ..)
  simp only [trees]
  by_cases hl : lab e.1 = lab e.2
  · rw [if_neg (fun h => h.2.2 hl), if_neg (fun h => h.2.2 hl), if_neg (fun h => h.2.2 hl)]
    simp
  · by_cases hs : S e.1 = true ∧ S e.2 = true
    · rw [if_pos (c := S e.1 = true ∧ S e.2 = true ∧ lab e.1 ≠ lab e.2) ⟨hs.1, hs.2, hl⟩]
      have hL : mrg lab (lab e.1) (lab e.2) e.1 = mrg lab (lab e.1) (lab e.2) e.2 := by rw [mrg_eq]; omega
      cases hc : bitsS a e.1 with
      | true =>
        have hbc : lessS S (bitsS a) e.1 = false := by unfold lessS; rw [hc]; simp
        rw [if_neg (c := lessS S (bitsS a) e.1 = true ∧ lessS S (bitsS a) e.2 = true ∧ lab e.1 ≠ lab e.2) (fun h => by rw [hbc] at h; cases h.1), Nat.add_zero]
        cases hd : bitsS a e.2 with
        | true =>
          rw [if_pos ⟨rfl, rfl, hl⟩, Nat.add_mul]
          congr 1
          by_cases h0 : trees n (bitsS a) E (mrg lab (lab e.1) (lab e.2)) = 0
          · rw [h0, Nat.zero_mul, Nat.zero_mul]
          · congr 1
            refine trees_congr E _ _ hin' (fun i j hi hj hb => ?_)
            have hbi : bitsS a i = false := by unfold lessS at hb; revert hb; cases bitsS a i <;> simp
            have hni : ∀ z, z < n → bitsS a z = true → mrg lab (lab e.1) (lab e.2) z ≠ mrg lab (lab e.1) (lab e.2) i := fun z hz hbz he => h0 (trees_open E _ hz hi he hbz hbi)
            have k1 := hni e.1 h1 hc
            have k2 := hni e.2 h2 hd
            rw [ne_eq, mrg_eq] at k1 k2
            rw [mrg_eq]
            generalize lab i = p at *
            generalize lab j = q at *
            generalize lab e.1 = u at *
            generalize lab e.2 = v at *
            omega
        | false =>
          rw [if_neg (fun h => by cases h.2.1), Nat.add_zero, trees_open E _ h1 h2 hL hc hd, Nat.zero_mul, Nat.add_zero]
      | false =>
        have hbc : lessS S (bitsS a) e.1 = true := by unfold lessS; rw [hc, hs.1]; rfl
        rw [if_neg (c := false = true ∧ bitsS a e.2 = true ∧ lab e.1 ≠ lab e.2) (fun h => by cases h.1), Nat.add_zero]
        cases hd : bitsS a e.2 with
        | true =>
          have hbd : lessS S (bitsS a) e.2 = false := by unfold lessS; rw [hd]; simp
          rw [if_neg (c := lessS S (bitsS a) e.1 = true ∧ lessS S (bitsS a) e.2 = true ∧ lab e.1 ≠ lab e.2) (fun h => by rw [hbd] at h; cases h.2.1), Nat.add_zero, trees_open E _ h2 h1 hL.symm hd hc, Nat.zero_mul, Nat.add_zero]
        | false =>
          have hbd : lessS S (bitsS a) e.2 = true := by unfold lessS; rw [hd, hs.2]; rfl
          rw [if_pos (c := lessS S (bitsS a) e.1 = true ∧ lessS S (bitsS a) e.2 = true ∧ lab e.1 ≠ lab e.2) ⟨hbc, hbd, hl⟩, Nat.mul_add]
          congr 1
          by_cases h0 : trees n (lessS S (bitsS a)) E (mrg lab (lab e.1) (lab e.2)) = 0
          · rw [h0, Nat.mul_zero, Nat.mul_zero]
          · congr 1
            refine trees_congr E _ _ hin' (fun i j hi hj hb => ?_)
            have hbi : lessS S (bitsS a) i = false := by unfold lessS; rw [hb]; simp
            have hni : ∀ z, z < n → lessS S (bitsS a) z = true → mrg lab (lab e.1) (lab e.2) z ≠ mrg lab (lab e.1) (lab e.2) i := fun z hz hbz he => h0 (trees_open E _ hz hi he hbz hbi)
            have k1 := hni e.1 h1 hbc
            have k2 := hni e.2 h2 hbd
            rw [ne_eq, mrg_eq] at k1 k2
            rw [mrg_eq]
            generalize lab i = p at *
            generalize lab j = q at *
            generalize lab e.1 = u at *
            generalize lab e.2 = v at *
            omega
    · rw [if_neg (c := S e.1 = true ∧ S e.2 = true ∧ lab e.1 ≠ lab e.2) (fun h => hs ⟨h.1, h.2.1⟩), if_neg (c := bitsS a e.1 = true ∧ bitsS a e.2 = true ∧ lab e.1 ≠ lab e.2) (fun h => hs ⟨ha _ h1 h.1, ha _ h2 h.2.1⟩), if_neg]
      · rfl
      · rintro ⟨h3, h4, _⟩
        unfold lessS at h3 h4
        exact hs ⟨by revert h3; cases S e.1 <;> simp, by revert h4; cases S e.2 <;> simp⟩
/-- Both parts, summed over some of the parts of a set. -/
noncomputable def sumTwo (n : Nat) (S : NS) (E : NE) (lab : Nat → Nat) (P : Nat → Prop) : Nat :=
  sumN (fun a => @ite _ (SubW n S a ∧ P a) (Classical.propDecidable _) (trees n (bitsS a) E lab * trees n (lessS S (bitsS a)) E lab) 0) (2 ^ n)
theorem sumTwo_cons {n : Nat} {S : NS} {E : NE} {lab : Nat → Nat} {e : Nat × Nat} (hin : InN n (e :: E)) (P : Nat → Prop) :
    sumTwo n S (e :: E) lab P = sumTwo n S E lab P + if S e.1 = true ∧ S e.2 = true ∧ lab e.1 ≠ lab e.2 then sumTwo n S E (mrg lab (lab e.1) (lab e.2)) P else 0 := by
  unfold sumTwo
  by_cases hc : S e.1 = true ∧ S e.2 = true ∧ lab e.1 ≠ lab e.2
  · rw [if_pos hc, ← sumN_add]
    refine sumN_congr _ (fun a _ => ?_)
    by_cases ha : SubW n S a ∧ P a
    · simp only [if_pos ha]
      rw [two_cons hin ha.1, if_pos hc]
    · simp only [if_neg ha]
  · rw [if_neg hc, Nat.add_zero]
    refine sumN_congr _ (fun a _ => ?_)
    by_cases ha : SubW n S a ∧ P a
    · simp only [if_pos ha]
      rw [two_cons hin ha.1, if_neg hc, Nat.add_zero]
    · simp only [if_neg ha]
theorem wordS_sub (n : Nat) (S T : NS) (h : ∀ i, i < n → T i = true → S i = true) : SubW n S (wordS T n) := fun i hi ht => by
  rw [wordS_bit] at ht
  simp at ht
  exact h i hi ht.2
theorem word_eq {n a b : Nat} (ha : a < 2 ^ n) (hb : b < 2 ^ n) (h : ∀ i, i < n → a.testBit i = b.testBit i) : a = b := by
  apply Nat.eq_of_testBit_eq
  intro i
  by_cases hi : i < n
  · exact h i hi
  · rw [Nat.testBit_lt_two_pow (Nat.lt_of_lt_of_le ha (Nat.pow_le_pow_right (by decide) (by omega))), Nat.testBit_lt_two_pow (Nat.lt_of_lt_of_le hb (Nat.pow_le_pow_right (by decide) (by omega)))]
/-- The trees of a set in which two classes have become one: two trees, one with the one, one with the other. -/
theorem two_trees {n : Nat} {S : NS} {x y : Nat} (hx : x < n) (hy : y < n) (hsx : S x = true) (hsy : S y = true) : ∀ (E : NE) (lab : Nat → Nat), InN n E → lab x ≠ lab y →
    trees n S E (mrg lab (lab x) (lab y)) = sumTwo n S E lab (fun a => a.testBit x = true ∧ a.testBit y = false)
  | [], lab, _, hxy => by
    have hclass : ∀ a, a < 2 ^ n → (SubW n S a ∧ a.testBit x = true ∧ a.testBit y = false) → (ClassOf n lab (bitsS a) ∧ ClassOf n lab (lessS S (bitsS a))) → (a = wordS (fun i => decide (lab i = lab x)) n ∧ ∀ z, z < n → (S z = true ↔ (lab z = lab x ∨ lab z = lab y))) := by
      rintro a han ⟨hsub, hax, hay⟩ ⟨⟨u, hu, hau, h1⟩, ⟨v, hv, hbv, h2⟩⟩
      have hux := (h1 x hx).1 hax
      have hby : lessS S (bitsS a) y = true := by unfold lessS bitsS; rw [hsy, hay]; rfl
      have hvy := (h2 y hy).1 hby
      constructor
      · refine word_eq han (wordS_lt _ n) (fun i hi => ?_)
        rw [wordS_bit, Bool.eq_iff_iff]
        have := h1 i hi
        unfold bitsS at this
        rw [this, hux]
        simp [hi]
      · intro z hz
        have k1 := h1 z hz
        have k2 := h2 z hz
        rw [← hux] at k1
        rw [← hvy] at k2
        constructor
        · intro hs
          cases hb : bitsS a z with
          | true => exact .inl (k1.1 hb)
          | false => exact .inr (k2.1 (by unfold lessS; rw [hb, hs]; rfl))
        · rintro (h | h)
          · exact hsub z hz (k1.2 h)
          · have := k2.2 h
            unfold lessS at this
            revert this
            cases S z <;> simp
    by_cases hS : ∀ z, z < n → (S z = true ↔ (lab z = lab x ∨ lab z = lab y))
    · have hl : trees n S [] (mrg lab (lab x) (lab y)) = 1 := by
        unfold trees
        rw [if_pos]
        refine ⟨x, hx, hsx, fun z hz => ?_⟩
        rw [hS z hz, mrg_eq]
        omega
      rw [hl]
      unfold sumTwo
      have hw := wordS_lt (fun i => decide (lab i = lab x)) n
      have hwb : ∀ i, i < n → ((wordS (fun i => decide (lab i = lab x)) n).testBit i = true ↔ lab i = lab x) := fun i hi => by rw [wordS_bit]; simp [hi]
      rw [sumN_one (x := wordS (fun i => decide (lab i = lab x)) n) _ hw (fun a ha hne => ?_)]
      · rw [if_pos ⟨wordS_sub n S _ (fun i hi h => (hS i hi).2 (.inl (by simpa using h))), (hwb x hx).2 rfl, by
          rw [Bool.eq_false_iff]; exact fun h => hxy ((hwb y hy).1 h).symm⟩]
        have c1 : ClassOf n lab (bitsS (wordS (fun i => decide (lab i = lab x)) n)) := ⟨x, hx, (hwb x hx).2 rfl, fun z hz => hwb z hz⟩
        have c2 : ClassOf n lab (lessS S (bitsS (wordS (fun i => decide (lab i = lab x)) n))) := by
          have key : ∀ z, z < n → (lessS S (bitsS (wordS (fun i => decide (lab i = lab x)) n)) z = true ↔ lab z = lab y) := fun z hz => by
            unfold lessS
            rw [Bool.and_eq_true, hS z hz]
            have := hwb z hz
            unfold bitsS
            constructor
            · rintro ⟨h1, h2⟩
              rcases h1 with h1 | h1
              · rw [this.2 h1] at h2; cases h2
              · exact h1
            · intro h
              refine ⟨.inr h, ?_⟩
              rw [Bool.not_eq_true', Bool.eq_false_iff]
              exact fun h2 => hxy (by rw [← this.1 h2, h])
          exact ⟨y, hy, (key y hy).2 rfl, key⟩
        unfold trees
        rw [if_pos c1, if_pos c2]
      · by_cases hg : SubW n S a ∧ a.testBit x = true ∧ a.testBit y = false
        · rw [if_pos hg]
          unfold trees
          by_cases h1 : ClassOf n lab (bitsS a)
          · by_cases h2 : ClassOf n lab (lessS S (bitsS a))
            · exact absurd (hclass a ha hg ⟨h1, h2⟩).1 hne
            · rw [if_neg h2, Nat.mul_zero]
          · rw [if_neg h1, Nat.zero_mul]
        · rw [if_neg hg]
    · have hl : trees n S [] (mrg lab (lab x) (lab y)) = 0 := by
        unfold trees
        rw [if_neg]
        rintro ⟨z, hz, hsz, h⟩
        apply hS
        intro i hi
        have h1 := (h x hx).1 hsx
        have h2 := (h y hy).1 hsy
        rw [h i hi, ← h1, mrg_eq]
        omega
      rw [hl]
      unfold sumTwo
      symm
      refine sumN_zero _ (fun a ha => ?_)
      by_cases hg : SubW n S a ∧ a.testBit x = true ∧ a.testBit y = false
      · rw [if_pos hg]
        unfold trees
        by_cases h1 : ClassOf n lab (bitsS a)
        · by_cases h2 : ClassOf n lab (lessS S (bitsS a))
          · exact absurd (hclass a ha hg ⟨h1, h2⟩).2 hS
          · rw [if_neg h2, Nat.mul_zero]
        · rw [if_neg h1, Nat.zero_mul]
      · rw [if_neg hg]
  | e :: E, lab, hin, hxy => by
    have hin' : InN n E := fun d hd => hin d (List.mem_cons_of_mem _ hd)
    obtain ⟨h1, h2⟩ := hin e (List.mem_cons_self ..)
    rw [sumTwo_cons hin, ← two_trees hx hy hsx hsy E lab hin' hxy]
    simp only [trees]
    congr 1
    by_cases hc : S e.1 = true ∧ S e.2 = true ∧ lab e.1 ≠ lab e.2
    · rw [if_pos hc]
      by_cases hm : mrg lab (lab x) (lab y) e.1 = mrg lab (lab x) (lab y) e.2
      · rw [if_neg (fun h => h.2.2 hm)]
        have hL : mrg lab (lab e.1) (lab e.2) x = mrg lab (lab e.1) (lab e.2) y := by
          rw [mrg_eq] at hm ⊢
          have := hc.2.2
          omega
        symm
        unfold sumTwo
        refine sumN_zero _ (fun a _ => ?_)
        by_cases hg : SubW n S a ∧ a.testBit x = true ∧ a.testBit y = false
        · rw [if_pos hg, trees_open (S := bitsS a) E _ hx hy hL hg.2.1 hg.2.2, Nat.zero_mul]
        · rw [if_neg hg]
      · rw [if_pos ⟨hc.1, hc.2.1, hm⟩]
        have hL : mrg lab (lab e.1) (lab e.2) x ≠ mrg lab (lab e.1) (lab e.2) y := by
          rw [ne_eq, mrg_eq]
          rw [mrg_eq] at hm
          have := hc.2.2
          omega
        rw [← two_trees hx hy hsx hsy E _ hin' hL]
        refine trees_congr E _ _ hin' (fun i j _ _ _ => ?_)
        exact mrg_swap lab _ _ _ _ i j
    · rw [if_neg hc, if_neg]
      rintro ⟨h3, h4, h5⟩
      apply h5
      rw [mrg_eq]
      left
      apply Classical.byContradiction
      exact fun h => hc ⟨h3, h4, h⟩
end Go.Proofs.YthfgbgmkiggjmacDoor
