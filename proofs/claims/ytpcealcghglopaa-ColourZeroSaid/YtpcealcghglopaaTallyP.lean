/- Colourings, counted node by node: each node goes into a set that is there, or into a new one; what that comes to is the number that the recursion by sets gives, for every whole number of colours. Plain facts, of no program. -/
import Derived.Test.YtpcealcghglopaaStanleyP
namespace Go.Proofs.Ytpcealcghglopaa

theorem sum_absT {f : Nat → Int} {B : Int} : ∀ n : Nat, (∀ j, j < n → -B ≤ f j ∧ f j ≤ B) → -(B * n) ≤ sumI f n ∧ sumI f n ≤ B * n
  | 0, _ => by simp [sumI]
  | n + 1, h => by
    have h1 := sum_absT n fun j hj => h j (by omega)
    have h2 := h n (by omega)
    simp only [sumI]
    have e : B * ((n + 1 : Nat) : Int) = B * n + B := by rw [Int.natCast_add, Int.mul_add]; simp
    rw [e]
    omega
section
variable {n : Nat} {loose : Nat → Bool} {A : Nat → Int → Int} {w b : Nat}
/-- A sum over two sets apart, either of them first. -/
theorem sumQ_swap (g : Nat → Nat → Int) : sumQ n loose w (fun s => sumQ n loose (w ^^^ s) fun r => g s r) = sumQ n loose w (fun r => sumQ n loose (w ^^^ r) fun s => g s r) := by
  have e : ∀ (h : Nat → Nat → Int), sumQ n loose w (fun s => sumQ n loose (w ^^^ s) fun r => h s r) = sumI (fun s => sumI (fun r => if (subQ s w = true ∧ loose s = true) ∧ subQ r (w ^^^ s) = true ∧ loose r = true then h s r else 0) (2 ^ n)) (2 ^ n) := fun h => by
    unfold sumQ
    refine sumI_congr _ fun s _ => ?_
    try dsimp only
    by_cases hc : subQ s w = true ∧ loose s = true
    · rw [if_pos hc]
      refine sumI_congr _ fun r _ => ?_
      by_cases hr : subQ r (w ^^^ s) = true ∧ loose r = true
      · rw [if_pos hr, if_pos ⟨hc, hr⟩]
      · rw [if_neg hr, if_neg fun h => hr h.2]
    · rw [if_neg hc, sumI_zero _ fun r _ => if_neg fun h => hc h.1]
  rw [e g, e (fun r s => g s r), sumI_comm (fun s r => if (subQ s w = true ∧ loose s = true) ∧ subQ r (w ^^^ s) = true ∧ loose r = true then g s r else 0)]
  refine sumI_congr _ fun r _ => sumI_congr _ fun s _ => ?_
  have hiff : ((subQ s w = true ∧ loose s = true) ∧ subQ r (w ^^^ s) = true ∧ loose r = true) ↔ ((subQ r w = true ∧ loose r = true) ∧ subQ s (w ^^^ r) = true ∧ loose s = true) := by
    constructor
    · rintro ⟨⟨a1, a2⟩, a3, a4⟩
      obtain ⟨b1, b2⟩ := sub_swap.1 ⟨a1, a3⟩
      exact ⟨⟨b1, a4⟩, b2, a2⟩
    · rintro ⟨⟨a1, a2⟩, a3, a4⟩
      obtain ⟨b1, b2⟩ := sub_swap.1 ⟨a1, a3⟩
      exact ⟨⟨b1, a4⟩, b2, a2⟩
  by_cases hc : (subQ s w = true ∧ loose s = true) ∧ subQ r (w ^^^ s) = true ∧ loose r = true
  · rw [if_pos hc, if_pos (hiff.1 hc)]
  · rw [if_neg hc, if_neg fun h => hc (hiff.2 h)]
theorem sumQ_add (g h : Nat → Int) : sumQ n loose w (fun s => g s + h s) = sumQ n loose w g + sumQ n loose w h := by
  unfold sumQ
  rw [← sumI_add]
  refine sumI_congr _ fun s _ => ?_
  split
  · rfl
  · rfl
theorem sumQ_mul (x : Int) (g : Nat → Int) : sumQ n loose w (fun s => x * g s) = x * sumQ n loose w g := by
  unfold sumQ
  rw [← sumI_mul]
  refine sumI_congr _ fun s _ => ?_
  split
  · rfl
  · rw [Int.mul_zero]
theorem sumQ_none {g : Nat → Int} (h : ∀ s, g s = 0) : sumQ n loose w g = 0 := by
  unfold sumQ
  refine sumI_zero _ fun s _ => ?_
  split
  · exact h s
  · rfl
theorem xor_in {s : Nat} (hs : subQ s w = true) (hb : w.testBit b = true) : (w ^^^ s).testBit b = !s.testBit b := by
  rw [sub_bits hs, hb]; rfl
/-- The recursion by the set of any node, not the highest one alone. -/
theorem pol_any (H : PolA n loose A) : ∀ m w, w < m → w < 2 ^ n → ∀ b, w.testBit b = true → ∀ x, A w x = x * sumQ n loose w fun s => if s.testBit b = true then A (w ^^^ s) (x - 1) else 0
  | 0, _, h, _, _, _, _ => absurd h (by omega)
  | m + 1, w, hm, hw, b, hb, x => by
    have h0 : w ≠ 0 := fun e => by rw [e] at hb; simp at hb
    have htop := topW_bit h0
    rw [H.rec_ w h0 hw x]
    congr 1
    -- each side: with both nodes, and with the one without the other one
    have sp : ∀ (a c : Nat), sumQ n loose w (fun s => if s.testBit a = true then A (w ^^^ s) (x - 1) else 0) = sumQ n loose w (fun s => if s.testBit a = true ∧ s.testBit c = true then A (w ^^^ s) (x - 1) else 0) + sumQ n loose w (fun s => if s.testBit a = true ∧ s.testBit c = false then A (w ^^^ s) (x - 1) else 0) := fun a c => by
      rw [← sumQ_add]
      refine sumQ_congr fun s _ _ => ?_
      cases s.testBit a <;> cases s.testBit c <;> simp
    rw [sp (topW w) b, sp b (topW w)]
    congr 1
    · refine sumQ_congr fun s _ _ => ?_
      simp only [And.comm]
    · have e1 : sumQ n loose w (fun s => if s.testBit (topW w) = true ∧ s.testBit b = false then A (w ^^^ s) (x - 1) else 0) = sumQ n loose w (fun s => sumQ n loose (w ^^^ s) fun r => if (s.testBit (topW w) = true ∧ s.testBit b = false) ∧ r.testBit b = true ∧ r.testBit (topW w) = false then (x - 1) * A ((w ^^^ s) ^^^ r) (x - 1 - 1) else 0) := by
        refine sumQ_congr fun s hs _ => ?_
        by_cases hc : s.testBit (topW w) = true ∧ s.testBit b = false
        · rw [if_pos hc]
          have hs0 : s ≠ 0 := fun e => by rw [e] at hc; simp at hc
          have hbit : (w ^^^ s).testBit b = true := by rw [xor_in hs hb, hc.2]; rfl
          have ht0 : (w ^^^ s).testBit (topW w) = false := by rw [xor_in hs htop, hc.1]; rfl
          rw [pol_any H m (w ^^^ s) (by have := sub_lt hs hs0; omega) (sub_pow (sub_sub hs) hw) b hbit (x - 1), ← sumQ_mul]
          refine sumQ_congr fun r hr _ => ?_
          have hrt : r.testBit (topW w) = false := by
            cases h : r.testBit (topW w) with
            | false => rfl
            | true => rw [subQ_iff.1 hr _ h] at ht0; cases ht0
          by_cases hrb : r.testBit b = true
          · rw [if_pos hrb, if_pos ⟨hc, hrb, hrt⟩]
          · rw [if_neg hrb, if_neg fun h => hrb h.2.1, Int.mul_zero]
        · rw [if_neg hc]
          exact (sumQ_none fun r => if_neg fun h => hc h.1).symm
      have e2 : sumQ n loose w (fun s => if s.testBit b = true ∧ s.testBit (topW w) = false then A (w ^^^ s) (x - 1) else 0) = sumQ n loose w (fun r => sumQ n loose (w ^^^ r) fun s => if (s.testBit (topW w) = true ∧ s.testBit b = false) ∧ r.testBit b = true ∧ r.testBit (topW w) = false then (x - 1) * A ((w ^^^ s) ^^^ r) (x - 1 - 1) else 0) := by
        refine sumQ_congr fun r hr _ => ?_
        by_cases hc : r.testBit b = true ∧ r.testBit (topW w) = false
        · rw [if_pos hc]
          have hbit : (w ^^^ r).testBit b = false := by rw [xor_in hr hb, hc.1]; rfl
          have hne : w ^^^ r ≠ 0 := fun e => by
            have h5 := xor_in hr htop
            rw [e, hc.2] at h5
            simp at h5
          rw [H.rec_ _ hne (sub_pow (sub_sub hr) hw) (x - 1), topW_sub hr hc.2 h0, ← sumQ_mul]
          refine sumQ_congr fun s hs _ => ?_
          have hsb : s.testBit b = false := by
            cases h : s.testBit b with
            | false => rfl
            | true => rw [subQ_iff.1 hs _ h] at hbit; cases hbit
          by_cases hst : s.testBit (topW w) = true
          · rw [if_pos hst, if_pos ⟨⟨hst, hsb⟩, hc⟩, xor_swap]
          · rw [if_neg hst, if_neg fun h => hst h.1.1, Int.mul_zero]
        · rw [if_neg hc]
          exact (sumQ_none fun s => if_neg fun h => hc h.2).symm
      rw [e1, e2]
      exact sumQ_swap _
/-- Sets that are there, each still to be filled up out of w; the rest by x colours. -/
def gW (n : Nat) (loose : Nat → Bool) (A : Nat → Int → Int) : List Nat → Nat → Int → Int
  | [], w, x => A w x
  | s :: L, w, x => sumI (fun t => if subQ t w = true ∧ loose (s ||| t) = true then gW n loose A L (w ^^^ t) x else 0) (2 ^ n)
theorem gW_zero (H : PolA n loose A) : ∀ L : List Nat, (∀ s ∈ L, loose s = true) → ∀ x, gW n loose A L 0 x = 1
  | [], _, x => H.zero x
  | s :: L, hL, x => by
    show sumI (fun t => if subQ t 0 = true ∧ loose (s ||| t) = true then gW n loose A L (0 ^^^ t) x else 0) (2 ^ n) = 1
    rw [sumI_one (i := 0) (2 ^ n) (Nat.two_pow_pos n) fun t _ ht => if_neg fun h => ht (Nat.le_zero.1 (sub_le fun i hi => subQ_iff.1 h.1 i hi)), if_pos ⟨subQ_zero 0, by rw [Nat.or_zero]; exact hL s (by simp)⟩]
    exact gW_zero H L (fun r hr => hL r (by simp [hr])) x
theorem or_one {t : Nat} (hb : t.testBit b = false) : t ||| 2 ^ b = t ^^^ 2 ^ b := by
  apply Nat.eq_of_testBit_eq
  intro i
  rw [Nat.testBit_or, Nat.testBit_xor, Nat.testBit_two_pow]
  by_cases h : b = i
  · subst h; rw [hb]; simp
  · simp [h]
/-- The sets that have a node, by what they have besides. -/
theorem sum_with (hw : w < 2 ^ n) (hb : w.testBit b = true) (P : Nat → Bool) (F : Nat → Int) :
    sumI (fun t => if (subQ t w = true ∧ P t = true) ∧ t.testBit b = true then F t else 0) (2 ^ n) = sumI (fun t => if subQ t (w ^^^ 2 ^ b) = true ∧ P (t ||| 2 ^ b) = true then F (t ||| 2 ^ b) else 0) (2 ^ n) := by
  have hbw : subQ (2 ^ b) w = true := subQ_iff.2 fun i hi => by
    rw [Nat.testBit_two_pow] at hi
    rw [← of_decide_eq_true hi]; exact hb
  have hw' : w ^^^ 2 ^ b < 2 ^ n := sub_pow (sub_sub hbw) hw
  have hsb : ∀ t, subQ t (w ^^^ 2 ^ b) = true → t.testBit b = false := fun t ht => by
    cases h : t.testBit b with
    | false => rfl
    | true =>
      have := subQ_iff.1 ht _ h
      rw [sub_bits hbw, Nat.testBit_two_pow] at this
      simp at this
  refine (sum_bij (N := 2 ^ n) (M := 2 ^ n) (P := fun t => subQ t (w ^^^ 2 ^ b) = true ∧ P (t ||| 2 ^ b) = true) (Q := fun t => (subQ t w = true ∧ P t = true) ∧ t.testBit b = true) (fun t => t ||| 2 ^ b) (fun t => t ^^^ 2 ^ b) (fun t _ h => ?_) (fun t _ h => ?_) F).symm
  · have hf := hsb t h.1
    have hs : subQ (t ||| 2 ^ b) w = true := subQ_iff.2 fun i hi => by
      rw [Nat.testBit_or, Bool.or_eq_true] at hi
      rcases hi with hi | hi
      · exact subQ_iff.1 (sub_sub hbw) i (subQ_iff.1 h.1 i hi)
      · exact subQ_iff.1 hbw i hi
    refine ⟨sub_pow hs hw, ⟨⟨hs, h.2⟩, by rw [Nat.testBit_or, Nat.testBit_two_pow]; simp⟩, ?_⟩
    rw [or_one hf, Nat.xor_assoc, Nat.xor_self, Nat.xor_zero]
  · have hbt : subQ (2 ^ b) t = true := subQ_iff.2 fun i hi => by
      rw [Nat.testBit_two_pow] at hi
      rw [← of_decide_eq_true hi]; exact h.2
    have hf : (t ^^^ 2 ^ b).testBit b = false := by rw [Nat.testBit_xor, h.2, Nat.testBit_two_pow]; simp
    have hs : subQ (t ^^^ 2 ^ b) (w ^^^ 2 ^ b) = true := subQ_iff.2 fun i hi => by
      rw [sub_bits hbt, Bool.and_eq_true] at hi
      rw [sub_bits hbw, Bool.and_eq_true]
      exact ⟨subQ_iff.1 h.1.1 i hi.1, hi.2⟩
    have e : (t ^^^ 2 ^ b) ||| 2 ^ b = t := by rw [or_one hf, Nat.xor_assoc, Nat.xor_self, Nat.xor_zero]
    exact ⟨sub_pow hs hw', ⟨hs, by rw [e]; exact h.1.2⟩, e⟩
/-- And those that have not. -/
theorem sum_less (hb : w.testBit b = true) (P : Nat → Bool) (F : Nat → Int) :
    sumI (fun t => if (subQ t w = true ∧ P t = true) ∧ t.testBit b = false then F t else 0) (2 ^ n) = sumI (fun t => if subQ t (w ^^^ 2 ^ b) = true ∧ P t = true then F t else 0) (2 ^ n) := by
  have hbw : subQ (2 ^ b) w = true := subQ_iff.2 fun i hi => by
    rw [Nat.testBit_two_pow] at hi
    rw [← of_decide_eq_true hi]; exact hb
  refine sumI_congr _ fun t _ => ?_
  have hiff : ((subQ t w = true ∧ P t = true) ∧ t.testBit b = false) ↔ (subQ t (w ^^^ 2 ^ b) = true ∧ P t = true) := by
    constructor
    · rintro ⟨⟨h1, h2⟩, h3⟩
      refine ⟨subQ_iff.2 fun i hi => ?_, h2⟩
      rw [sub_bits hbw, subQ_iff.1 h1 i hi, Nat.testBit_two_pow]
      by_cases e : b = i
      · subst e; rw [h3] at hi; cases hi
      · simp [e]
    · rintro ⟨h1, h2⟩
      refine ⟨⟨subQ_iff.2 fun i hi => subQ_iff.1 (sub_sub hbw) i (subQ_iff.1 h1 i hi), h2⟩, ?_⟩
      cases h : t.testBit b with
      | false => rfl
      | true =>
        have := subQ_iff.1 h1 _ h
        rw [sub_bits hbw, Nat.testBit_two_pow] at this
        simp at this
  by_cases hc : (subQ t w = true ∧ P t = true) ∧ t.testBit b = false
  · rw [if_pos hc, if_pos (hiff.1 hc)]
  · rw [if_neg hc, if_neg fun h => hc (hiff.2 h)]
theorem sumI_comm2 (F : Nat → Nat → Int) (m k : Nat) : sumI (fun i => sumI (fun j => F i j) m) k = sumI (fun j => sumI (fun i => F i j) k) m := sumI_comm F m k
/-- One node: into a set that is there, or into a new one. -/
theorem gW_step (H : PolA n loose A) (hdown : ∀ s r, subQ r s = true → loose s = true → loose r = true) : ∀ (L : List Nat) (w : Nat), w < 2 ^ n → w.testBit b = true → ∀ x,
    gW n loose A L w x = sumI (fun c => if loose (L.getD c 0 ||| 2 ^ b) = true then gW n loose A (L.set c (L.getD c 0 ||| 2 ^ b)) (w ^^^ 2 ^ b) x else 0) L.length + x * gW n loose A (L ++ [2 ^ b]) (w ^^^ 2 ^ b) (x - 1)
  | [], w, hw, hb, x => by
    show A w x = 0 + x * sumI (fun t => if subQ t (w ^^^ 2 ^ b) = true ∧ loose (2 ^ b ||| t) = true then A ((w ^^^ 2 ^ b) ^^^ t) (x - 1) else 0) (2 ^ n)
    rw [Int.zero_add, pol_any H (w + 1) w (by omega) hw b hb x]
    congr 1
    have e := sum_with (n := n) hw hb loose (fun t => A (w ^^^ t) (x - 1))
    have e2 : sumQ n loose w (fun s => if s.testBit b = true then A (w ^^^ s) (x - 1) else 0) = sumI (fun t => if (subQ t w = true ∧ loose t = true) ∧ t.testBit b = true then A (w ^^^ t) (x - 1) else 0) (2 ^ n) := by
      unfold sumQ
      refine sumI_congr _ fun t _ => ?_
      try dsimp only
      by_cases hc : subQ t w = true ∧ loose t = true
      · rw [if_pos hc]
        by_cases hd : t.testBit b = true
        · rw [if_pos hd, if_pos ⟨hc, hd⟩]
        · rw [if_neg hd, if_neg fun h => hd h.2]
      · rw [if_neg hc, if_neg fun h => hc h.1]
    rw [e2, e]
    refine sumI_congr _ fun t _ => ?_
    by_cases hc : subQ t (w ^^^ 2 ^ b) = true ∧ loose (t ||| 2 ^ b) = true
    · rw [if_pos hc, if_pos (by rw [Nat.or_comm]; exact hc)]
      congr 1
      have hf : t.testBit b = false := by
        cases h : t.testBit b with
        | false => rfl
        | true =>
          have := subQ_iff.1 hc.1 _ h
          rw [Nat.testBit_xor, hb, Nat.testBit_two_pow] at this
          simp at this
      rw [or_one hf, ← Nat.xor_assoc, xor_swap]
    · rw [if_neg hc, if_neg (by rw [Nat.or_comm]; exact hc)]
  | s :: L, w, hw, hb, x => by
    have hbw : subQ (2 ^ b) w = true := subQ_iff.2 fun i hi => by
      rw [Nat.testBit_two_pow] at hi
      rw [← of_decide_eq_true hi]; exact hb
    have hw' : w ^^^ 2 ^ b < 2 ^ n := sub_pow (sub_sub hbw) hw
    obtain ⟨w', hwe⟩ : ∃ w', w' = w ^^^ 2 ^ b := ⟨_, rfl⟩
    -- with the node, and without
    have sp : gW n loose A (s :: L) w x = sumI (fun t => if (subQ t w = true ∧ loose (s ||| t) = true) ∧ t.testBit b = true then gW n loose A L (w ^^^ t) x else 0) (2 ^ n) + sumI (fun t => if (subQ t w = true ∧ loose (s ||| t) = true) ∧ t.testBit b = false then gW n loose A L (w ^^^ t) x else 0) (2 ^ n) := by
      rw [← sumI_add]
      refine sumI_congr _ fun t _ => ?_
      by_cases hc : subQ t w = true ∧ loose (s ||| t) = true
      · rw [if_pos hc]
        cases t.testBit b with
        | true => rw [if_pos ⟨hc, rfl⟩, if_neg (fun h => by cases h.2), Int.add_zero]
        | false => rw [if_neg (fun h => by cases h.2), if_pos ⟨hc, rfl⟩, Int.zero_add]
      · rw [if_neg hc, if_neg fun h => hc h.1, if_neg fun h => hc h.1]; rfl
    have e1 : sumI (fun t => if (subQ t w = true ∧ loose (s ||| t) = true) ∧ t.testBit b = true then gW n loose A L (w ^^^ t) x else 0) (2 ^ n) = if loose (s ||| 2 ^ b) = true then gW n loose A ((s ||| 2 ^ b) :: L) (w ^^^ 2 ^ b) x else 0 := by
      rw [sum_with (n := n) hw hb (fun t => loose (s ||| t)) (fun t => gW n loose A L (w ^^^ t) x)]
      by_cases hl : loose (s ||| 2 ^ b) = true
      · rw [if_pos hl]
        show _ = sumI (fun t => if subQ t (w ^^^ 2 ^ b) = true ∧ loose ((s ||| 2 ^ b) ||| t) = true then gW n loose A L ((w ^^^ 2 ^ b) ^^^ t) x else 0) (2 ^ n)
        refine sumI_congr _ fun t _ => ?_
        have ee : s ||| (t ||| 2 ^ b) = (s ||| 2 ^ b) ||| t := by rw [Nat.or_assoc, Nat.or_comm t]
        by_cases hc : subQ t (w ^^^ 2 ^ b) = true ∧ loose (s ||| (t ||| 2 ^ b)) = true
        · rw [if_pos hc, if_pos (by rw [← ee]; exact hc)]
          congr 1
          have hf : t.testBit b = false := by
            cases h : t.testBit b with
            | false => rfl
            | true =>
              have := subQ_iff.1 hc.1 _ h
              rw [sub_bits hbw, Nat.testBit_two_pow] at this
              simp at this
          rw [or_one hf, ← Nat.xor_assoc, xor_swap]
        · rw [if_neg hc, if_neg (by rw [← ee]; exact hc)]
      · rw [if_neg hl]
        refine sumI_zero _ fun t _ => if_neg fun h => hl (hdown _ _ (subQ_iff.2 fun i hi => ?_) h.2)
        rw [Nat.testBit_or, Bool.or_eq_true] at hi
        rw [Nat.testBit_or, Nat.testBit_or]
        rcases hi with hi | hi <;> rw [hi] <;> simp
    have e2 : sumI (fun t => if (subQ t w = true ∧ loose (s ||| t) = true) ∧ t.testBit b = false then gW n loose A L (w ^^^ t) x else 0) (2 ^ n) =
        sumI (fun c => if loose (L.getD c 0 ||| 2 ^ b) = true then gW n loose A (s :: L.set c (L.getD c 0 ||| 2 ^ b)) (w ^^^ 2 ^ b) x else 0) L.length + x * gW n loose A (s :: (L ++ [2 ^ b])) (w ^^^ 2 ^ b) (x - 1) := by
      rw [sum_less (n := n) hb (fun t => loose (s ||| t)) (fun t => gW n loose A L (w ^^^ t) x), ← hwe]
      have ih : ∀ t, subQ t w' = true → gW n loose A L (w ^^^ t) x = sumI (fun c => if loose (L.getD c 0 ||| 2 ^ b) = true then gW n loose A (L.set c (L.getD c 0 ||| 2 ^ b)) (w' ^^^ t) x else 0) L.length + x * gW n loose A (L ++ [2 ^ b]) (w' ^^^ t) (x - 1) := fun t ht => by
        rw [hwe] at ht
        have hf : t.testBit b = false := by
          cases h : t.testBit b with
          | false => rfl
          | true =>
            have := subQ_iff.1 ht _ h
            rw [sub_bits hbw, Nat.testBit_two_pow] at this
            simp at this
        have htw : subQ t w = true := subQ_iff.2 fun i hi => subQ_iff.1 (sub_sub hbw) i (subQ_iff.1 ht i hi)
        rw [gW_step H hdown L (w ^^^ t) (sub_pow (sub_sub htw) hw) (by rw [xor_in htw hb, hf]; rfl) x, xor_swap w t (2 ^ b), ← hwe]
      have e3 : ∀ t, (if subQ t w' = true ∧ loose (s ||| t) = true then gW n loose A L (w ^^^ t) x else 0) = sumI (fun c => if loose (L.getD c 0 ||| 2 ^ b) = true then (if subQ t w' = true ∧ loose (s ||| t) = true then gW n loose A (L.set c (L.getD c 0 ||| 2 ^ b)) (w' ^^^ t) x else 0) else 0) L.length + x * (if subQ t w' = true ∧ loose (s ||| t) = true then gW n loose A (L ++ [2 ^ b]) (w' ^^^ t) (x - 1) else 0) := fun t => by
        by_cases hc : subQ t w' = true ∧ loose (s ||| t) = true
        · rw [if_pos hc, ih t hc.1, if_pos hc]
          congr 1
          refine sumI_congr _ fun c _ => ?_
          rw [if_pos hc]
        · rw [if_neg hc, if_neg hc, Int.mul_zero, sumI_zero _ fun c _ => ?_]
          · rfl
          · rw [if_neg hc]; split <;> rfl
      rw [sumI_congr _ fun t _ => e3 t, sumI_add, sumI_mul, sumI_comm2]
      congr 1
      refine sumI_congr _ fun c _ => ?_
      by_cases hl : loose (L.getD c 0 ||| 2 ^ b) = true
      · rw [if_pos hl]
        simp only [if_pos hl]
        rfl
      · rw [if_neg hl]
        simp only [if_neg hl]
        exact sumI_zero _ fun _ _ => rfl
    rw [sp, e1, e2, ← Int.add_assoc]
    congr 1
    have e4 : (s :: L).length = 1 + L.length := by simp; omega
    rw [e4, show ∀ (f : Nat → Int) (k : Nat), sumI f (1 + k) = f 0 + sumI (fun c => f (c + 1)) k from fun f k => by
      induction k with
      | zero => simp [sumI]
      | succ k ihk => rw [show 1 + (k + 1) = (1 + k) + 1 from rfl]; simp only [sumI]; rw [ihk, Nat.add_comm 1 k, Int.add_assoc]]
    rfl
end

/-- What the program adds up: sets so far, nodes left; x: colours left. -/
def waysN (nb : Nat → Nat) (k : Int) : Nat → Nat → List Nat → Int
  | 0, _, _ => 1
  | r + 1, b, L => sumI (fun c => if L.getD c 0 &&& nb b = 0 then waysN nb k r (b + 1) (L.set c (L.getD c 0 ||| 2 ^ b)) else 0) L.length + (k - L.length) * waysN nb k r (b + 1) (L ++ [2 ^ b])
/-- Sets of the first b nodes without an edge within. -/
def SetsOk (loose : Nat → Bool) (b : Nat) (L : List Nat) : Prop := ∀ s ∈ L, s < 2 ^ b ∧ loose s = true
section
variable {n : Nat} {loose : Nat → Bool} {A : Nat → Int → Int} {nb : Nat → Nat} {k : Int} {b : Nat} {L : List Nat}
theorem SetsOk.nil : SetsOk loose b [] := fun s hs => by simp at hs
theorem SetsOk.get (h : SetsOk loose b L) {c : Nat} (hc : c < L.length) : L.getD c 0 < 2 ^ b ∧ loose (L.getD c 0) = true := by
  rw [List.getD_eq_getElem?_getD, List.getElem?_eq_getElem hc]
  exact h _ (List.getElem_mem hc)
theorem SetsOk.set (h : SetsOk loose b L) {c x : Nat} (hx : x < 2 ^ (b + 1)) (hl : loose x = true) : SetsOk loose (b + 1) (L.set c x) := fun s hs => by
  rcases List.mem_or_eq_of_mem_set hs with h1 | rfl
  · obtain ⟨h2, h3⟩ := h s h1
    exact ⟨Nat.lt_of_lt_of_le h2 (Nat.pow_le_pow_right (by decide) (Nat.le_succ b)), h3⟩
  · exact ⟨hx, hl⟩
theorem SetsOk.snoc (h : SetsOk loose b L) {x : Nat} (hx : x < 2 ^ (b + 1)) (hl : loose x = true) : SetsOk loose (b + 1) (L ++ [x]) := fun s hs => by
  rcases List.mem_append.1 hs with h1 | h1
  · obtain ⟨h2, h3⟩ := h s h1
    exact ⟨Nat.lt_of_lt_of_le h2 (Nat.pow_le_pow_right (by decide) (Nat.le_succ b)), h3⟩
  · rw [List.mem_singleton] at h1; subst h1; exact ⟨hx, hl⟩
theorem or_lt_next {s b : Nat} (h : s < 2 ^ b) : s ||| 2 ^ b < 2 ^ (b + 1) := by
  refine Nat.or_lt_two_pow (Nat.lt_of_lt_of_le h (Nat.pow_le_pow_right (by decide) (Nat.le_succ b))) (Nat.pow_lt_pow_right (by decide) (Nat.lt_succ_self b))
/-- The nodes from b on. -/
def fromW (n b : Nat) : Nat := (2 ^ n - 1) ^^^ (2 ^ b - 1)
theorem fromW_bit (n b i : Nat) : (fromW n b).testBit i = (decide (i < n) ^^ decide (i < b)) := by
  unfold fromW
  rw [Nat.testBit_xor, Nat.testBit_two_pow_sub_one, Nat.testBit_two_pow_sub_one]
theorem fromW_next {n b : Nat} (h : b < n) : fromW n b ^^^ 2 ^ b = fromW n (b + 1) := by
  apply Nat.eq_of_testBit_eq
  intro i
  rw [Nat.testBit_xor, fromW_bit, fromW_bit, Nat.testBit_two_pow]
  by_cases h1 : b = i
  · subst h1; simp [h]
  · by_cases h2 : i < b
    · have h3 : i < b + 1 := by omega
      simp [h1, h2, h3]
    · have h3 : ¬ i < b + 1 := by omega
      simp [h1, h2, h3]
theorem fromW_lt {n b : Nat} (h : b ≤ n) : fromW n b < 2 ^ n := by
  unfold fromW
  have h1 := Nat.two_pow_pos n
  have h2 := Nat.two_pow_pos b
  have h3 : 2 ^ b ≤ 2 ^ n := Nat.pow_le_pow_right (by decide) h
  exact Nat.xor_lt_two_pow (by omega) (by omega)
/-- What the program adds up is what the sets give. -/
theorem ways_sets (H : PolA n loose A) (hdown : ∀ s r, subQ r s = true → loose s = true → loose r = true) (hone : ∀ b, b < n → loose (2 ^ b) = true) (hnb : ∀ b s, b < n → s < 2 ^ b → loose s = true → (s &&& nb b = 0 ↔ loose (s ||| 2 ^ b) = true)) :
    ∀ (r b : Nat) (L : List Nat), b + r = n → SetsOk loose b L → waysN nb k r b L = gW n loose A L (fromW n b) (k - L.length)
  | 0, b, L, hb, hL => by
    have e : fromW n b = 0 := by
      rw [show b = n by omega]; unfold fromW; rw [Nat.xor_self]
    rw [e, gW_zero H L (fun s hs => (hL s hs).2)]
    rfl
  | r + 1, b, L, hb, hL => by
    have hbn : b < n := by omega
    have hbit : (fromW n b).testBit b = true := by rw [fromW_bit]; simp [hbn]
    rw [gW_step H hdown L (fromW n b) (fromW_lt (by omega)) hbit, fromW_next hbn]
    show sumI (fun c => if L.getD c 0 &&& nb b = 0 then waysN nb k r (b + 1) (L.set c (L.getD c 0 ||| 2 ^ b)) else 0) L.length + (k - L.length) * waysN nb k r (b + 1) (L ++ [2 ^ b]) = _
    congr 1
    · refine sumI_congr _ fun c hc => ?_
      obtain ⟨h1, h2⟩ := hL.get hc
      have hiff := hnb b (L.getD c 0) hbn h1 h2
      by_cases hc0 : L.getD c 0 &&& nb b = 0
      · rw [if_pos hc0, if_pos (hiff.1 hc0), ways_sets H hdown hone hnb r (b + 1) _ (by omega) (hL.set (or_lt_next h1) (hiff.1 hc0)), List.length_set]
      · rw [if_neg hc0, if_neg fun h => hc0 (hiff.2 h)]
    · congr 1
      rw [ways_sets H hdown hone hnb r (b + 1) _ (by omega) (hL.snoc (Nat.pow_lt_pow_right (by decide) (Nat.lt_succ_self b)) (hone b hbn)), List.length_append, List.length_singleton]
      congr 1
      omega
/-- How great what is added up may be. -/
theorem ways_abs (hk0 : -1 ≤ k) (hk1 : k ≤ 12) (nb : Nat → Nat) : ∀ (r b : Nat) (L : List Nat), L.length ≤ b → b + r ≤ 10 → -(22 ^ r) ≤ waysN nb k r b L ∧ waysN nb k r b L ≤ 22 ^ r
  | 0, _, _, _, _ => by show -(22 ^ 0) ≤ (1 : Int) ∧ (1 : Int) ≤ 22 ^ 0; decide
  | r + 1, b, L, hL, hb => by
    have h1 : ∀ c, c < L.length → -(22 ^ r) ≤ (if L.getD c 0 &&& nb b = 0 then waysN nb k r (b + 1) (L.set c (L.getD c 0 ||| 2 ^ b)) else 0) ∧ (if L.getD c 0 &&& nb b = 0 then waysN nb k r (b + 1) (L.set c (L.getD c 0 ||| 2 ^ b)) else 0) ≤ (22 ^ r : Int) := fun c _ => by
      have hp : (0 : Int) ≤ 22 ^ r := Int.pow_nonneg (by decide)
      split
      · exact ways_abs hk0 hk1 nb r (b + 1) _ (by rw [List.length_set]; omega) (by omega)
      · omega
    have h2 := ways_abs hk0 hk1 nb r (b + 1) (L ++ [2 ^ b]) (by simp; omega) (by omega)
    show -(22 ^ (r + 1)) ≤ sumI (fun c => if L.getD c 0 &&& nb b = 0 then waysN nb k r (b + 1) (L.set c (L.getD c 0 ||| 2 ^ b)) else 0) L.length + (k - L.length) * waysN nb k r (b + 1) (L ++ [2 ^ b]) ∧ sumI (fun c => if L.getD c 0 &&& nb b = 0 then waysN nb k r (b + 1) (L.set c (L.getD c 0 ||| 2 ^ b)) else 0) L.length + (k - L.length) * waysN nb k r (b + 1) (L ++ [2 ^ b]) ≤ 22 ^ (r + 1)
    have h3 := sum_absT (B := 22 ^ r) L.length h1
    have h4 : (22 : Int) ^ (r + 1) = 22 ^ r * 22 := Int.pow_succ ..
    generalize waysN nb k r (b + 1) (L ++ [2 ^ b]) = y at *
    generalize sumI (fun c => if L.getD c 0 &&& nb b = 0 then waysN nb k r (b + 1) (L.set c (L.getD c 0 ||| 2 ^ b)) else 0) L.length = z at *
    generalize (22 : Int) ^ r = p at *
    have h5 : p * (L.length : Int) ≤ p * 10 := Int.mul_le_mul_of_nonneg_left (by omega) (by omega)
    have h6 : -(p * 12) ≤ (k - L.length) * y ∧ (k - L.length) * y ≤ p * 12 := by
      obtain ⟨d, hd⟩ : ∃ d : Int, d = k - L.length := ⟨_, rfl⟩
      rw [← hd]
      have hd0 : -11 ≤ d := by omega
      have hd1 : d ≤ 12 := by omega
      rcases Int.le_total 0 d with h | h
      · have a1 : d * y ≤ d * p := Int.mul_le_mul_of_nonneg_left h2.2 h
        have a2 : d * -p ≤ d * y := Int.mul_le_mul_of_nonneg_left h2.1 h
        have a3 : d * p ≤ 12 * p := Int.mul_le_mul_of_nonneg_right hd1 (by omega)
        rw [Int.mul_neg] at a2
        omega
      · have a1 : -d * y ≤ -d * p := Int.mul_le_mul_of_nonneg_left h2.2 (by omega)
        have a2 : -d * -p ≤ -d * y := Int.mul_le_mul_of_nonneg_left h2.1 (by omega)
        have a3 : -d * p ≤ 12 * p := Int.mul_le_mul_of_nonneg_right (by omega) (by omega)
        rw [Int.neg_mul] at a1
        rw [Int.neg_mul_neg, Int.neg_mul] at a2
        rw [Int.neg_mul] at a3 a1
        omega
    omega
/-- From the first node on: all. -/
theorem ways_all (H : PolA n loose A) (hdown : ∀ s r, subQ r s = true → loose s = true → loose r = true) (hone : ∀ b, b < n → loose (2 ^ b) = true) (hnb : ∀ b s, b < n → s < 2 ^ b → loose s = true → (s &&& nb b = 0 ↔ loose (s ||| 2 ^ b) = true)) (k : Int) :
    waysN nb k n 0 [] = A (2 ^ n - 1) k := by
  rw [ways_sets H hdown hone hnb n 0 [] (by omega) SetsOk.nil]
  show A (fromW n 0) (k - ((0 : Nat) : Int)) = _
  congr 1
  · unfold fromW; simp
  · omega
end
end Go.Proofs.Ytpcealcghglopaa
