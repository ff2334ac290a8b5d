/- Parts: who is linked with whom, and how many parts there are. Plain facts. -/
import Derived.Test.YthfgbgmkiggjmabDoorBfs0
import Derived.Test.YthfgbgmkiggjmabDoorRch
namespace Go.Proofs.YthfgbgmkiggjmabDoor

theorem lay_bits {m : Nat} {es : List E3} (hm : m ≤ 10) (hg : goodE m es) {s : Nat} (hs : s < m) (j : Nat) : ∀ (f far layer met a : Nat), f + far = 1025 → far + (if layer = 0 then 0 else 1) ≤ met → LayInv m es s far layer met →
    (((layN m (nbL m es) f far layer met).foldl (fun acc x => acc ||| x.2.val) a).testBit j = true ↔ a.testBit j = true ∨ ∃ d, far ≤ d ∧ IsDist (adjE es) s j d)
  | 0, far, layer, met, a, hf, hle, hI => by
    have := pow10 hm hI.2.1
    split at hle <;> omega
  | f + 1, far, layer, met, a, hf, hle, hI => by
    by_cases h0 : layer = 0
    · subst h0
      have hno : ¬ ∃ d, far ≤ d ∧ IsDist (adjE es) s j d := fun ⟨d, hd, hD⟩ => by
        obtain ⟨x, hx⟩ := dist_down hD far hd
        have := (hI.2.2.1 x).2 hx
        simp at this
      simp [layN, hno]
    · have hle' : far + 1 ≤ met := by rw [if_neg h0] at hle; exact hle
      have hI' := layInv_next hm hg hs hI
      have hle2 : far + 1 + (if nextL m (nbL m es) layer met = 0 then 0 else 1) ≤ met ||| nextL m (nbL m es) layer met := by
        have hge : met ≤ met ||| nextL m (nbL m es) layer met := Nat.left_le_or
        by_cases hn0 : nextL m (nbL m es) layer met = 0
        · rw [if_pos hn0]; omega
        · rw [if_neg hn0]
          have := met_grows hm (nbL_words hg) layer met hI.2.1 hn0
          omega
      have hstep : layN m (nbL m es) (f + 1) far layer met = (far, toF m layer) :: layN m (nbL m es) f (far + 1) (nextL m (nbL m es) layer met) (met ||| nextL m (nbL m es) layer met) := by
        conv => lhs; unfold layN
        rw [if_neg h0]
      rw [hstep]
      simp only [List.foldl_cons, toF_val hI.1]
      rw [lay_bits hm hg hs j f (far + 1) _ _ (a ||| layer) (by omega) hle2 hI', Nat.testBit_or, Bool.or_eq_true, hI.2.2.1]
      constructor
      · rintro ((h | h) | ⟨d, hd, hD⟩)
        · exact .inl h
        · exact .inr ⟨far, Nat.le_refl _, h⟩
        · exact .inr ⟨d, by omega, hD⟩
      · rintro (h | ⟨d, hd, hD⟩)
        · exact .inl (.inl h)
        · rcases Nat.lt_or_ge far d with hlt | hge
          · exact .inr ⟨d, hlt, hD⟩
          · obtain rfl : d = far := by omega
            exact .inl (.inr hD)
theorem linkedN_bit {m : Nat} {es : List E3} (hm : m ≤ 10) (hg : goodE m es) {s : Nat} (hs : s < m) (j : Nat) : (linkedN m (nbL m es) s).testBit j = true ↔ Rch es s j := by
  have hp := Nat.two_pow_pos s
  unfold linkedN allTo
  rw [lay_bits hm hg hs j 1025 0 (2 ^ s) (2 ^ s) 0 rfl (by rw [if_neg (by omega)]; omega) (layInv_start hs)]
  simp only [Nat.zero_testBit, Bool.false_eq_true, false_or]
  constructor
  · rintro ⟨d, _, hD⟩; exact ⟨d, hD.1⟩
  · rintro ⟨k, hk⟩
    obtain ⟨d, _, hD⟩ := dist_of_wk hk
    exact ⟨d, Nat.zero_le _, hD⟩

theorem ctz_dec : ∀ r, r < 1024 → r ≠ 0 → r.testBit (Lib.ctz 32 r) = true ∧ ∀ i, i < Lib.ctz 32 r → r.testBit i = false := by decide +kernel

/-- The least node of a node's part. -/
def partN (m : Nat) (es : List E3) (i : Nat) : Nat := Lib.ctz 32 (linkedN m (nbL m es) i)
theorem partN_rch {m : Nat} {es : List E3} (hm : m ≤ 10) (hg : goodE m es) {i : Nat} (hi : i < m) : Rch es i (partN m es i) :=
  (linkedN_bit hm hg hi _).1 (ctz_dec _ (pow10 hm (allTo_lt m _)) (linkedN_pos m _ i hi)).1
theorem partN_least {m : Nat} {es : List E3} (hm : m ≤ 10) (hg : goodE m es) {i j : Nat} (hi : i < m) (h : Rch es i j) : partN m es i ≤ j := by
  rcases Nat.lt_or_ge j (partN m es i) with hlt | hge
  · have h1 := (ctz_dec _ (pow10 hm (allTo_lt m _)) (linkedN_pos m (nbL m es) i hi)).2 j hlt
    have h2 : (linkedN m (nbL m es) i).testBit j = true := (linkedN_bit hm hg hi j).2 h
    have h1' : (linkedN m (nbL m es) i).testBit j = false := h1
    rw [h2] at h1'
    cases h1'
  · exact hge
theorem partN_eq {m : Nat} {es : List E3} (hm : m ≤ 10) (hg : goodE m es) {i j : Nat} (hi : i < m) (hj : j < m) : partN m es i = partN m es j ↔ Rch es i j := by
  constructor
  · intro h
    have h1 := partN_rch hm hg hi
    have h2 := partN_rch hm hg hj
    rw [h] at h1
    exact h1.trans h2.symm
  · intro h
    have h1 := partN_least hm hg hi (h.trans (partN_rch hm hg hj))
    have h2 := partN_least hm hg hj (h.symm.trans (partN_rch hm hg hi))
    omega

/-! How many parts. -/
theorem root_iff {m : Nat} {es : List E3} (hm : m ≤ 10) (hg : goodE m es) {i : Nat} (hi : i < m) : Root es i ↔ partN m es i = i := by
  constructor
  · intro h
    have h1 := partN_least hm hg hi (Rch.refl es i)
    rcases Nat.lt_or_ge (partN m es i) i with hlt | hge
    · exact absurd (partN_rch hm hg hi) (h _ hlt)
    · omega
  · intro h j hj hr
    have := partN_least hm hg hi hr
    omega
/-- How many unlike numbers a list has. -/
def unlikeTo (xs : List Int) : Nat → Nat
  | 0 => 0
  | k + 1 => unlikeTo xs k + (if (xs.take k).contains (xs.getD k 0) = true then 0 else 1)
theorem unlikeTo_le (xs : List Int) : ∀ k, unlikeTo xs k ≤ k
  | 0 => Nat.le_refl _
  | k + 1 => by
    have := unlikeTo_le xs k
    simp only [unlikeTo]
    split <;> omega
theorem partsL_get {m : Nat} {es : List E3} {i : Nat} (hi : i < m) : (partsL m (nbL m es))[i]? = some (partN m es i : Int) := by simp [partsL, partN, hi]
theorem unlike_parts {m : Nat} {es : List E3} (hm : m ≤ 10) (hg : goodE m es) : unlikeTo (partsL m (nbL m es)) m = rootsN m es := by
  unfold rootsN
  have : ∀ k, k ≤ m → unlikeTo (partsL m (nbL m es)) k = (List.range k).countP fun i => @decide (Root es i) (Classical.propDecidable _) := by
    intro k
    induction k with
    | zero => intro _; rfl
    | succ k ih =>
      intro hk
      rw [unlikeTo, ih (by omega), List.range_succ, List.countP_append, List.countP_singleton]
      congr 1
      have hget : (partsL m (nbL m es)).getD k 0 = (partN m es k : Int) := by rw [List.getD_eq_getElem?_getD, partsL_get (by omega)]; rfl
      rw [hget]
      have hiff : ((partsL m (nbL m es)).take k).contains (partN m es k : Int) = true ↔ ¬ Root es k := by
        rw [root_iff hm hg (by omega), List.contains_iff_mem]
        constructor
        · intro hmem hroot
          obtain ⟨i, hi, he⟩ := List.getElem_of_mem hmem
          have hik : i < k := by rw [List.length_take] at hi; omega
          have hg2 : ((partsL m (nbL m es)).take k)[i]? = some (partN m es i : Int) := by rw [List.getElem?_take, if_pos hik, partsL_get (by omega)]
          rw [List.getElem?_eq_getElem hi, he] at hg2
          injection hg2 with hg2
          have h1 := partN_least hm hg (i := i) (by omega) (Rch.refl es i)
          omega
        · intro hnr
          have h1 := partN_least hm hg (i := k) (by omega) (Rch.refl es k)
          have hlt : partN m es k < k := by omega
          have hr := partN_rch hm hg (i := k) (by omega)
          have hpp : partN m es (partN m es k) = partN m es k := ((partN_eq hm hg (by omega) (by omega)).2 hr.symm)
          refine List.mem_of_getElem? (i := partN m es k) ?_
          rw [List.getElem?_take, if_pos hlt, partsL_get (by omega), hpp]
      by_cases hr : Root es k
      · rw [if_neg (fun h => hiff.1 h hr), if_pos (by simpa using hr)]
      · rw [if_pos (hiff.2 hr), if_neg (by simpa using hr)]
  exact this m (Nat.le_refl _)
end Go.Proofs.YthfgbgmkiggjmabDoor
