/- BIRKHOFF, WHITNEY: without an edge there are as many colourings as with it, and as with both its nodes in one, together. Plain facts, of no program. -/
import Derived.Test.YtpcealcghglopaaStanleyP
namespace Go.Proofs.Ytpcealcghglopaa

/-- Where a node goes when b is taken out; and where it came from. -/
def outN (b i : Nat) : Nat := if b < i then i - 1 else i
def inN (b j : Nat) : Nat := if j < b then j else j + 1
theorem out_in (b j : Nat) : outN b (inN b j) = j := by unfold outN inN; split <;> split <;> omega
theorem in_out {b i : Nat} (h : i ≠ b) : inN b (outN b i) = i := by unfold outN inN; split <;> split <;> omega
theorem in_ne (b j : Nat) : inN b j ≠ b := by unfold inN; split <;> omega
theorem in_lt {n b j : Nat} (hj : j < n) : inN b j < n + 1 := by unfold inN; split <;> omega
theorem out_lt {n b i : Nat} (hi : i < n + 1) (hb : b < n + 1) (h : i ≠ b) : outN b i < n := by unfold outN; split <;> omega
/-- What is meant by both nodes in one: b is taken out, a has the edges of both. -/
structure MergeP (n a b : Nat) (lF lG lM : Nat → Bool) : Prop where
  a_lt : a < n + 1
  b_lt : b < n + 1
  ne : a ≠ b
  with_ : ∀ s, lG s = true ↔ lF s = true ∧ ¬ (s.testBit a = true ∧ s.testBit b = true)
  one : ∀ s t, t < 2 ^ n → s < 2 ^ (n + 1) → (∀ i, i < n + 1 → i ≠ b → s.testBit i = t.testBit (outN b i)) → s.testBit b = s.testBit a → (lM t = true ↔ lF s = true)
  zF : lF 0 = true
section
variable {n a b : Nat} {lF lG lM : Nat → Bool} {AF AG AM : Nat → Int → Int}
/-- A set without one of both nodes knows nothing of the edge. -/
theorem same_free (M : MergeP n a b lF lG lM) (HF : PolA (n + 1) lF AF) (HG : PolA (n + 1) lG AG) (zG : lG 0 = true) : ∀ (k : Nat) w, w < 2 ^ (n + 1) → ¬ (w.testBit a = true ∧ w.testBit b = true) → AF w k = AG w k
  | 0, w, hw, _ => by
    by_cases h0 : w = 0
    · rw [h0, HF.zero, HG.zero]
    · show AF w 0 = AG w 0
      rw [pol_zero HF hw h0, pol_zero HG hw h0]
  | k + 1, w, hw, hab => by
    rw [show ((k + 1 : Nat) : Int) = (k : Int) + 1 by omega, pol_succ HF M.zF hw, pol_succ HG zG hw]
    unfold sumQ
    refine sumI_congr _ fun s _ => ?_
    by_cases hs : subQ s w = true
    · have hn : ¬ (s.testBit a = true ∧ s.testBit b = true) := fun h => hab ⟨subQ_iff.1 hs a h.1, subQ_iff.1 hs b h.2⟩
      have hn2 : ¬ ((w ^^^ s).testBit a = true ∧ (w ^^^ s).testBit b = true) := fun h => hab ⟨subQ_iff.1 (sub_sub hs) a h.1, subQ_iff.1 (sub_sub hs) b h.2⟩
      by_cases hl : lF s = true
      · rw [if_pos ⟨hs, hl⟩, if_pos ⟨hs, (M.with_ s).2 ⟨hl, hn⟩⟩]
        exact same_free M HF HG zG k _ (sub_pow (sub_sub hs) hw) hn2
      · rw [if_neg fun h => hl h.2, if_neg fun h => hl ((M.with_ s).1 h.2).1]
    · rw [if_neg fun h => hs h.1, if_neg fun h => hs h.1]
/-- Words of the merged nodes. -/
structure ShrP (n a b : Nat) (sh bl : Nat → Nat) : Prop where
  lt : ∀ w, sh w < 2 ^ n
  bit : ∀ w j, j < n → (sh w).testBit j = w.testBit (inN b j)
  blt : ∀ t, bl t < 2 ^ (n + 1)
  bbit : ∀ t i, i < n + 1 → (bl t).testBit i = t.testBit (outN b (if i = b then a else i))
theorem shr_ex (n a b : Nat) : ∃ sh bl, ShrP n a b sh bl := by
  obtain ⟨sh, h1⟩ := Classical.axiomOfChoice fun w : Nat => word_ex (fun j => w.testBit (inN b j)) n
  obtain ⟨bl, h2⟩ := Classical.axiomOfChoice fun t : Nat => word_ex (fun i => t.testBit (outN b (if i = b then a else i))) (n + 1)
  exact ⟨sh, bl, fun w => (h1 w).1, fun w j hj => (h1 w).2 j hj, fun t => (h2 t).1, fun t i hi => (h2 t).2 i hi⟩
section
variable {sh bl : Nat → Nat}
theorem ShrP.bl_sh (S : ShrP n a b sh bl) (ha : a < n + 1) (hb : b < n + 1) (hab : a ≠ b) {w : Nat} (hw : w < 2 ^ (n + 1)) (he : w.testBit b = w.testBit a) : bl (sh w) = w := by
  apply Nat.eq_of_testBit_eq
  intro i
  rcases Nat.lt_or_ge i (n + 1) with hi | hi
  · rw [S.bbit _ i hi]
    by_cases hib : i = b
    · rw [if_pos hib, S.bit w _ (out_lt ha hb hab), in_out hab, hib, he]
    · rw [if_neg hib, S.bit w _ (out_lt hi hb hib), in_out hib]
  · rw [bit_pow (S.blt _) hi, bit_pow hw hi]
theorem ShrP.sh_bl (S : ShrP n a b sh bl) {t : Nat} (ht : t < 2 ^ n) : sh (bl t) = t := by
  apply Nat.eq_of_testBit_eq
  intro j
  rcases Nat.lt_or_ge j n with hj | hj
  · rw [S.bit _ j hj, S.bbit t _ (in_lt hj), if_neg (in_ne b j), out_in]
  · rw [bit_pow (S.lt _) hj, bit_pow ht hj]
theorem ShrP.both (S : ShrP n a b sh bl) (ha : a < n + 1) (hb : b < n + 1) (hab : a ≠ b) (t : Nat) : (bl t).testBit b = (bl t).testBit a := by
  rw [S.bbit t b hb, S.bbit t a ha, if_pos rfl, if_neg hab]
theorem ShrP.sub (S : ShrP n a b sh bl) {s w : Nat} (h : subQ s w = true) : subQ (sh s) (sh w) = true := subQ_iff.2 fun j hj => by
  rcases Nat.lt_or_ge j n with hjn | hjn
  · rw [S.bit s j hjn] at hj
    rw [S.bit w j hjn]
    exact subQ_iff.1 h _ hj
  · rw [bit_pow (S.lt s) hjn] at hj; cases hj
theorem ShrP.sub_bl (S : ShrP n a b sh bl) (ha : a < n + 1) (hb : b < n + 1) (hab : a ≠ b) {t w : Nat} (he : w.testBit b = w.testBit a) (h : subQ t (sh w) = true) : subQ (bl t) w = true := subQ_iff.2 fun i hi => by
  rcases Nat.lt_or_ge i (n + 1) with hin | hin
  · have h1 := S.bbit t i hin
    rw [hi] at h1
    have h2 := subQ_iff.1 h _ h1.symm
    by_cases hib : i = b
    · rw [if_pos hib, S.bit w _ (out_lt ha hb hab), in_out hab] at h2
      rw [hib, he]; exact h2
    · rw [if_neg hib, S.bit w _ (out_lt hin hb hib), in_out hib] at h2
      exact h2
  · rw [bit_pow (S.blt t) hin] at hi; cases hi
theorem ShrP.less (S : ShrP n a b sh bl) {s w : Nat} (h : subQ s w = true) : sh (w ^^^ s) = sh w ^^^ sh s := by
  apply Nat.eq_of_testBit_eq
  intro j
  rcases Nat.lt_or_ge j n with hj | hj
  · rw [S.bit _ j hj, sub_bits h, sub_bits (S.sub h), S.bit w j hj, S.bit s j hj]
  · rw [bit_pow (S.lt _) hj, Nat.testBit_xor, bit_pow (S.lt w) hj, bit_pow (S.lt s) hj]; rfl
/-- Sums over sets that have both nodes or none are sums over sets of the merged. -/
theorem sum_merged (M : MergeP n a b lF lG lM) (S : ShrP n a b sh bl) {w : Nat} (he : w.testBit b = w.testBit a) (F : Nat → Int) :
    sumI (fun s => if (subQ s w = true ∧ lF s = true) ∧ s.testBit b = s.testBit a then F (sh s) else 0) (2 ^ (n + 1)) = sumQ n lM (sh w) F := by
  unfold sumQ
  refine sum_bij (P := fun s => (subQ s w = true ∧ lF s = true) ∧ s.testBit b = s.testBit a) (Q := fun t => subQ t (sh w) = true ∧ lM t = true) sh bl (fun s hs ⟨⟨h1, h2⟩, h3⟩ => ?_) (fun t ht ⟨h1, h2⟩ => ?_) F
  · have hb := S.bl_sh M.a_lt M.b_lt M.ne hs h3
    refine ⟨S.lt s, ⟨S.sub h1, (M.one s (sh s) (S.lt s) hs (fun i hi hib => ?_) h3).2 h2⟩, hb⟩
    rw [S.bit s _ (out_lt hi M.b_lt hib), in_out hib]
  · have hb := S.both M.a_lt M.b_lt M.ne t
    refine ⟨S.blt t, ⟨⟨S.sub_bl M.a_lt M.b_lt M.ne he h1, (M.one (bl t) t ht (S.blt t) (fun i hi hib => ?_) hb).1 h2⟩, hb⟩, S.sh_bl ht⟩
    rw [S.bbit t i hi, if_neg hib]
/-- A set with none of both nodes is the same in the merged. -/
theorem same_merged (M : MergeP n a b lF lG lM) (S : ShrP n a b sh bl) (HF : PolA (n + 1) lF AF) (HM : PolA n lM AM) (zM : lM 0 = true) : ∀ (k : Nat) w, w < 2 ^ (n + 1) → w.testBit a = false → w.testBit b = false → AF w k = AM (sh w) k
  | 0, w, hw, ha, hb => by
    have hz : sh w = 0 ↔ w = 0 := ⟨fun h => by
      have := S.bl_sh M.a_lt M.b_lt M.ne hw (by rw [ha, hb])
      rw [← this, h]
      apply Nat.eq_of_testBit_eq
      intro i
      rcases Nat.lt_or_ge i (n + 1) with hi | hi
      · rw [S.bbit 0 i hi]; simp
      · rw [bit_pow (S.blt 0) hi]; simp, fun h => by
      rw [h]
      apply Nat.eq_of_testBit_eq
      intro j
      rcases Nat.lt_or_ge j n with hj | hj
      · rw [S.bit 0 j hj]; simp
      · rw [bit_pow (S.lt 0) hj]; simp⟩
    by_cases h0 : w = 0
    · rw [hz.2 h0, h0, HF.zero, HM.zero]
    · show AF w 0 = AM (sh w) 0
      rw [pol_zero HF hw h0, pol_zero HM (S.lt w) fun h => h0 (hz.1 h)]
  | k + 1, w, hw, ha, hb => by
    rw [show ((k + 1 : Nat) : Int) = (k : Int) + 1 by omega, pol_succ HF M.zF hw, pol_succ HM zM (S.lt w), ← sum_merged M S (by rw [ha, hb])]
    unfold sumQ
    refine sumI_congr _ fun s _ => ?_
    by_cases hs : subQ s w = true
    · have hsa : s.testBit a = false := by
        cases h : s.testBit a with
        | false => rfl
        | true => rw [subQ_iff.1 hs a h] at ha; cases ha
      have hsb : s.testBit b = false := by
        cases h : s.testBit b with
        | false => rfl
        | true => rw [subQ_iff.1 hs b h] at hb; cases hb
      by_cases hl : lF s = true
      · rw [if_pos ⟨hs, hl⟩, if_pos ⟨⟨hs, hl⟩, by rw [hsa, hsb]⟩, ← S.less hs]
        exact same_merged M S HF HM zM k _ (sub_pow (sub_sub hs) hw) (by rw [sub_bits hs, ha]; rfl) (by rw [sub_bits hs, hb]; rfl)
      · rw [if_neg fun h => hl h.2, if_neg fun h => hl h.1.2]
    · rw [if_neg fun h => hs h.1, if_neg fun h => hs h.1.1]
/-- BIRKHOFF, WHITNEY. -/
theorem whitney (M : MergeP n a b lF lG lM) (S : ShrP n a b sh bl) (HF : PolA (n + 1) lF AF) (HG : PolA (n + 1) lG AG) (HM : PolA n lM AM) (zG : lG 0 = true) (zM : lM 0 = true) : ∀ (k : Nat) w, w < 2 ^ (n + 1) → w.testBit a = true → w.testBit b = true → AF w k = AG w k + AM (sh w) k
  | 0, w, hw, ha, hb => by
    have h0 : w ≠ 0 := fun e => by rw [e] at ha; simp at ha
    have h1 : sh w ≠ 0 := fun e => by
      have := S.bit w (outN b a) (out_lt M.a_lt M.b_lt M.ne)
      rw [e, in_out M.ne, ha] at this
      simp at this
    show AF w 0 = AG w 0 + AM (sh w) 0
    rw [pol_zero HF hw h0, pol_zero HG hw h0, pol_zero HM (S.lt w) h1]; rfl
  | k + 1, w, hw, ha, hb => by
    rw [show ((k + 1 : Nat) : Int) = (k : Int) + 1 by omega, pol_succ HF M.zF hw, pol_succ HG zG hw, pol_succ HM zM (S.lt w), ← sum_merged M S (by rw [ha, hb])]
    unfold sumQ
    rw [← sumI_add]
    refine sumI_congr _ fun s _ => ?_
    by_cases hs : subQ s w = true
    · by_cases hl : lF s = true
      · rw [if_pos ⟨hs, hl⟩]
        have hwl := sub_pow (sub_sub hs) hw
        have bit : ∀ i, (w ^^^ s).testBit i = (w.testBit i && !s.testBit i) := sub_bits hs
        cases hsa : s.testBit a with
        | true =>
          cases hsb : s.testBit b with
          | true =>
            rw [if_neg fun h => ((M.with_ s).1 h.2).2 ⟨hsa, hsb⟩, if_pos ⟨⟨hs, hl⟩, rfl⟩, Int.zero_add, ← S.less hs]
            exact same_merged M S HF HM zM k _ hwl (by rw [bit, ha, hsa]; rfl) (by rw [bit, hb, hsb]; rfl)
          | false =>
            rw [if_pos ⟨hs, (M.with_ s).2 ⟨hl, fun h => by rw [hsb] at h; cases h.2⟩⟩, if_neg fun h => (by cases h.2), Int.add_zero]
            exact same_free M HF HG zG k _ hwl fun h => by
              have := h.1
              rw [bit, ha, hsa] at this
              cases this
        | false =>
          cases hsb : s.testBit b with
          | true =>
            rw [if_pos ⟨hs, (M.with_ s).2 ⟨hl, fun h => by rw [hsa] at h; cases h.1⟩⟩, if_neg fun h => (by cases h.2), Int.add_zero]
            exact same_free M HF HG zG k _ hwl fun h => by
              have := h.2
              rw [bit, hb, hsb] at this
              cases this
          | false =>
            rw [if_pos ⟨hs, (M.with_ s).2 ⟨hl, fun h => by rw [hsa] at h; cases h.1⟩⟩, if_pos ⟨⟨hs, hl⟩, rfl⟩, ← S.less hs]
            exact whitney M S HF HG HM zG zM k _ hwl (by rw [bit, ha, hsa]; rfl) (by rw [bit, hb, hsb]; rfl)
      · rw [if_neg fun h => hl h.2, if_neg fun h => hl ((M.with_ s).1 h.2).1, if_neg fun h => hl h.1.2]; rfl
    · rw [if_neg fun h => hs h.1, if_neg fun h => hs h.1, if_neg fun h => hs h.1.1]; rfl
end
/-- All nodes of the one are all nodes of the other. -/
theorem sh_all {sh bl : Nat → Nat} (S : ShrP n a b sh bl) : sh (2 ^ (n + 1) - 1) = 2 ^ n - 1 := by
  apply Nat.eq_of_testBit_eq
  intro j
  rw [Nat.testBit_two_pow_sub_one]
  rcases Nat.lt_or_ge j n with hj | hj
  · rw [S.bit _ j hj, Nat.testBit_two_pow_sub_one, decide_eq_true (in_lt hj), decide_eq_true hj]
  · rw [bit_pow (S.lt _) hj, decide_eq_false (by omega)]
theorem whitney_all (M : MergeP n a b lF lG lM) (HF : PolA (n + 1) lF AF) (HG : PolA (n + 1) lG AG) (HM : PolA n lM AM) (zG : lG 0 = true) (zM : lM 0 = true) (k : Nat) : AF (2 ^ (n + 1) - 1) k = AG (2 ^ (n + 1) - 1) k + AM (2 ^ n - 1) k := by
  obtain ⟨sh, bl, S⟩ := shr_ex n a b
  have hp := Nat.two_pow_pos (n + 1)
  rw [← sh_all S]
  exact whitney M S HF HG HM zG zM k _ (by omega) (by rw [Nat.testBit_two_pow_sub_one]; exact decide_eq_true M.a_lt) (by rw [Nat.testBit_two_pow_sub_one]; exact decide_eq_true M.b_lt)
end
/-! Where no two nodes have an edge each takes any colour. -/
def pcW (w : Nat) : Nat → Nat
  | 0 => 0
  | n + 1 => pcW w n + if w.testBit n = true then 1 else 0
theorem pcW_congr {v w : Nat} : ∀ n, (∀ i, i < n → v.testBit i = w.testBit i) → pcW v n = pcW w n
  | 0, _ => rfl
  | n + 1, h => by simp only [pcW]; rw [pcW_congr n fun i hi => h i (by omega), h n (by omega)]
theorem sumI_two (f : Nat → Int) (a : Nat) : ∀ b, sumI f (a + b) = sumI f a + sumI (fun t => f (a + t)) b
  | 0 => by simp [sumI]
  | b + 1 => by
    have := sumI_two f a b
    rw [← Nat.add_assoc]
    simp only [sumI]
    omega
theorem binom : ∀ n w, w < 2 ^ n → ∀ x : Int, sumI (fun s => if subQ s w = true then x ^ pcW (w ^^^ s) n else 0) (2 ^ n) = (x + 1) ^ pcW w n
  | 0, w, hw, x => by
    obtain rfl : w = 0 := by simpa using hw
    simp [sumI, subQ, pcW]
  | n + 1, w, hw, x => by
    have h2 : 2 ^ (n + 1) = 2 ^ n + 2 ^ n := by rw [Nat.pow_succ]; omega
    rw [h2, sumI_two]
    have hbig : ∀ t, t < 2 ^ n → ∀ i, (2 ^ n + t).testBit i = if i = n then true else t.testBit i := fun t ht i => by
      by_cases hi : i = n
      · subst hi
        rw [if_pos rfl, Nat.testBit_two_pow_add_eq, bit_pow ht (Nat.le_refl _)]; rfl
      · rw [if_neg hi]
        rcases Nat.lt_or_ge i n with h | h
        · exact Nat.testBit_two_pow_add_gt h t
        · rw [bit_pow (n := n + 1) (by omega) (by omega), bit_pow ht h]
    cases hb : w.testBit n with
    | false =>
      have hw' : w < 2 ^ n := by
        apply Nat.lt_of_not_le
        intro h
        have h3 : w = 2 ^ n + (w - 2 ^ n) := by omega
        have h4 := hbig (w - 2 ^ n) (by omega) n
        rw [← h3, hb, if_pos rfl] at h4
        cases h4
      have e2 : sumI (fun t => if subQ (2 ^ n + t) w = true then x ^ pcW (w ^^^ (2 ^ n + t)) (n + 1) else 0) (2 ^ n) = 0 := sumI_zero _ fun t ht => if_neg fun h => by
        have h3 := subQ_iff.1 h n (by rw [hbig t ht, if_pos rfl])
        rw [hb] at h3; cases h3
      rw [e2, Int.add_zero]
      have ih := binom n w hw' x
      have e3 : pcW w (n + 1) = pcW w n := by simp only [pcW]; rw [hb]; rfl
      rw [e3, ← ih]
      refine sumI_congr _ fun s hs => ?_
      by_cases hc : subQ s w = true
      · rw [if_pos hc, if_pos hc]
        have : pcW (w ^^^ s) (n + 1) = pcW (w ^^^ s) n := by
          simp only [pcW]
          rw [sub_bits hc, hb]; rfl
        rw [this]
      · rw [if_neg hc, if_neg hc]
    | true =>
      obtain ⟨v, hv⟩ : ∃ v, v = w ^^^ 2 ^ n := ⟨_, rfl⟩
      have hvb : ∀ i, v.testBit i = if i = n then false else w.testBit i := fun i => by
        rw [hv, Nat.testBit_xor, Nat.testBit_two_pow]
        by_cases hi : i = n
        · subst hi; rw [if_pos rfl, hb]; simp
        · rw [if_neg hi]
          have : ¬ n = i := fun e => hi e.symm
          simp [this]
      have hvl : v < 2 ^ n := by
        apply Nat.lt_of_not_le
        intro h
        have hvn : v < 2 ^ (n + 1) := by rw [hv]; exact Nat.xor_lt_two_pow hw (Nat.pow_lt_pow_right (by decide) (by omega))
        have h3 : v = 2 ^ n + (v - 2 ^ n) := by omega
        have h4 := hbig (v - 2 ^ n) (by omega) n
        rw [← h3, hvb, if_pos rfl, if_pos rfl] at h4
        cases h4
      have ih := binom n v hvl x
      have ev : pcW v n = pcW w n := pcW_congr n fun i hi => by rw [hvb, if_neg (by omega)]
      have ew : pcW w (n + 1) = pcW v n + 1 := by simp only [pcW]; rw [hb, ev]; rfl
      have sb : ∀ s, s < 2 ^ n → (subQ s w = true ↔ subQ s v = true) := fun s hs => by
        rw [subQ_iff, subQ_iff]
        refine ⟨fun h i hi => ?_, fun h i hi => ?_⟩
        · have hin : i ≠ n := fun e => by rw [e, bit_pow hs (Nat.le_refl _)] at hi; cases hi
          rw [hvb, if_neg hin]; exact h i hi
        · have := h i hi
          rw [hvb] at this
          split at this
          · cases this
          · exact this
      have e1 : sumI (fun s => if subQ s w = true then x ^ pcW (w ^^^ s) (n + 1) else 0) (2 ^ n) = x * sumI (fun s => if subQ s v = true then x ^ pcW (v ^^^ s) n else 0) (2 ^ n) := by
        rw [← sumI_mul]
        refine sumI_congr _ fun s hs => ?_
        by_cases hc : subQ s v = true
        · have hc' := (sb s hs).2 hc
          rw [if_pos hc, if_pos hc']
          have h5 : pcW (w ^^^ s) (n + 1) = pcW (v ^^^ s) n + 1 := by
            simp only [pcW]
            rw [sub_bits hc', hb, bit_pow hs (Nat.le_refl _), pcW_congr (v := w ^^^ s) (w := v ^^^ s) n fun i hi => by rw [sub_bits hc', sub_bits hc, hvb, if_neg (by omega)]]
            rfl
          rw [h5, Int.pow_succ, Int.mul_comm]
        · rw [if_neg hc, if_neg fun h => hc ((sb s hs).1 h)]; simp
      have e2 : sumI (fun t => if subQ (2 ^ n + t) w = true then x ^ pcW (w ^^^ (2 ^ n + t)) (n + 1) else 0) (2 ^ n) = sumI (fun s => if subQ s v = true then x ^ pcW (v ^^^ s) n else 0) (2 ^ n) := by
        refine sumI_congr _ fun t ht => ?_
        have hiff : subQ (2 ^ n + t) w = true ↔ subQ t v = true := by
          rw [subQ_iff, subQ_iff]
          refine ⟨fun h i hi => ?_, fun h i hi => ?_⟩
          · have hin : i ≠ n := fun e => by rw [e, bit_pow ht (Nat.le_refl _)] at hi; cases hi
            rw [hvb, if_neg hin]
            exact h i (by rw [hbig t ht, if_neg hin]; exact hi)
          · rw [hbig t ht] at hi
            split at hi
            · rename_i e; rw [e]; exact hb
            · have := h i hi
              rw [hvb] at this
              split at this
              · cases this
              · exact this
        by_cases hc : subQ t v = true
        · have hc' := hiff.2 hc
          rw [if_pos hc, if_pos hc']
          have h5 : pcW (w ^^^ (2 ^ n + t)) (n + 1) = pcW (v ^^^ t) n := by
            simp only [pcW]
            rw [sub_bits hc', hb, hbig t ht, if_pos rfl, pcW_congr (v := w ^^^ (2 ^ n + t)) (w := v ^^^ t) n fun i hi => by rw [sub_bits hc', sub_bits hc, hvb, hbig t ht, if_neg (by omega), if_neg (by omega)]]
            rfl
          rw [h5]
        · rw [if_neg hc, if_neg fun h => hc (hiff.1 h)]
      rw [e1, e2, ih, ew, Int.pow_succ, Int.mul_add, Int.mul_one, Int.mul_comm]
theorem free_all {n : Nat} {l : Nat → Bool} {A : Nat → Int → Int} (H : PolA n l A) (hl : ∀ s, l s = true) : ∀ (k : Nat) w, w < 2 ^ n → A w k = (k : Int) ^ pcW w n
  | 0, w, hw => by
    by_cases h0 : w = 0
    · subst h0
      have : ∀ m, pcW 0 m = 0 := fun m => by
        induction m with
        | zero => rfl
        | succ m ih => simp only [pcW]; rw [ih]; simp
      rw [H.zero, this]; rfl
    · show A w 0 = _
      obtain ⟨i, hi⟩ := Nat.exists_testBit_of_ne_zero h0
      have hin : i < n := by
        apply Nat.lt_of_not_le
        intro h
        rw [bit_pow hw h] at hi; cases hi
      have hpos : ∀ m, i < m → 0 < pcW w m := fun m => by
        induction m with
        | zero => intro h; omega
        | succ m ih =>
          intro h
          simp only [pcW]
          rcases Nat.lt_or_ge i m with h1 | h1
          · have := ih h1; omega
          · obtain rfl : i = m := by omega
            rw [hi]; simp
      obtain ⟨p, hp⟩ : ∃ p, pcW w n = p + 1 := ⟨pcW w n - 1, by have := hpos n hin; omega⟩
      rw [pol_zero H hw h0, hp, Int.pow_succ]; simp
  | k + 1, w, hw => by
    rw [show ((k + 1 : Nat) : Int) = (k : Int) + 1 by omega, pol_succ H (hl 0) hw, ← binom n w hw]
    unfold sumQ
    refine sumI_congr _ fun s _ => ?_
    by_cases hc : subQ s w = true
    · rw [if_pos ⟨hc, hl s⟩, if_pos hc]
      exact free_all H hl k _ (sub_pow (sub_sub hc) hw)
    · rw [if_neg fun h => hc h.1, if_neg hc]
end Go.Proofs.Ytpcealcghglopaa
