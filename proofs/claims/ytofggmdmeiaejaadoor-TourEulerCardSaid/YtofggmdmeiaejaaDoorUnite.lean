/- Parts: who is linked with whom, and how many parts there are. Plain facts. -/
import Derived.Test.YtofggmdmeiaejaaDoorBfs
namespace Go.Proofs.YtofggmdmeiaejaaDoor

/-- Is there a way? -/
def Rch (es : List E3) (i j : Nat) : Prop := ∃ k, wk (adjE es) k i j
theorem Rch.refl (es : List E3) (i : Nat) : Rch es i i := ⟨0, rfl⟩
theorem Rch.symm {es : List E3} {i j : Nat} (h : Rch es i j) : Rch es j i := by obtain ⟨k, hk⟩ := h; exact ⟨k, wk_symm (adjE_symm es) hk⟩
theorem Rch.trans {es : List E3} {i j x : Nat} (h : Rch es i x) (h2 : Rch es x j) : Rch es i j := by
  obtain ⟨k, hk⟩ := h
  obtain ⟨l, hl⟩ := h2
  exact ⟨k + l, wk_trans hk hl⟩
theorem Rch.step {es : List E3} {i j x : Nat} (h : Rch es i x) (h2 : adjE es x j = true) : Rch es i j := h.trans ⟨1, wk_one.2 h2⟩

theorem lay_bits {m : Nat} {es : List E3} (hm : m ≤ 10) (hg : goodE m es) {s : Nat} (hs : s < m) (j : Nat) : ∀ (f far layer met a : Nat), f + far = 1025 → far + (if layer = 0 then 0 else 1) ≤ met → LayInv m es s far layer met →
    (((layN m (nbL m es) f far layer met).foldl (fun acc x => acc ||| x.2.val) a).testBit j = true ↔ a.testBit j = true ∨ ∃ d, far ≤ d ∧ IsDist (adjE es) s j d)
  | 0, far, layer, met, a, hf, hle, hI => by
    have := pow10 hm hI.2.1
    split at hle <;> omega
  | f + 1, far, layer, met, a, hf, hle, hI => by
    by_cases h0 : layer = 0
    · subst h0
      have hno : ¬ ∃ d, far ≤ d ∧ IsDist (adjE es) s j d := fun ⟨d, hd, hD⟩ => by
        obtain ⟨x, hx⟩ := dist_down hD far hd
        have := (hI.2.2.1 x).2 hx
        simp at this
      simp [layN, hno]
    · have hle' : far + 1 ≤ met := by rw [if_neg h0] at hle; exact hle
      have hI' := layInv_next hm hg hs hI
      have hle2 : far + 1 + (if nextL m (nbL m es) layer met = 0 then 0 else 1) ≤ met ||| nextL m (nbL m es) layer met := by
        have hge : met ≤ met ||| nextL m (nbL m es) layer met := Nat.left_le_or
        by_cases hn0 : nextL m (nbL m es) layer met = 0
        · rw [if_pos hn0]; omega
        · rw [if_neg hn0]
          have := met_grows hm (nbL_words hg) layer met hI.2.1 hn0
          omega
      have hstep : layN m (nbL m es) (f + 1) far layer met = (far, toF m layer) :: layN m (nbL m es) f (far + 1) (nextL m (nbL m es) layer met) (met ||| nextL m (nbL m es) layer met) := by
        conv => lhs; unfold layN
        rw [if_neg h0]
      rw [hstep]
      simp only [List.foldl_cons, toF_val hI.1]
      rw [lay_bits hm hg hs j f (far + 1) _ _ (a ||| layer) (by omega) hle2 hI', Nat.testBit_or, Bool.or_eq_true, hI.2.2.1]
      constructor
      · rintro ((h | h) | ⟨d, hd, hD⟩)
        · exact .inl h
        · exact .inr ⟨far, Nat.le_refl _, h⟩
        · exact .inr ⟨d, by omega, hD⟩
      · rintro (h | ⟨d, hd, hD⟩)
        · exact .inl (.inl h)
        · rcases Nat.lt_or_ge far d with hlt | hge
          · exact .inr ⟨d, hlt, hD⟩
          · obtain rfl : d = far := by omega
            exact .inl (.inr hD)
theorem linkedN_bit {m : Nat} {es : List E3} (hm : m ≤ 10) (hg : goodE m es) {s : Nat} (hs : s < m) (j : Nat) : (linkedN m (nbL m es) s).testBit j = true ↔ Rch es s j := by
  have hp := Nat.two_pow_pos s
  unfold linkedN allTo
  rw [lay_bits hm hg hs j 1025 0 (2 ^ s) (2 ^ s) 0 rfl (by rw [if_neg (by omega)]; omega) (layInv_start hs)]
  simp only [Nat.zero_testBit, Bool.false_eq_true, false_or]
  constructor
  · rintro ⟨d, _, hD⟩; exact ⟨d, hD.1⟩
  · rintro ⟨k, hk⟩
    obtain ⟨d, _, hD⟩ := dist_of_wk hk
    exact ⟨d, Nat.zero_le _, hD⟩

theorem ctz_dec : ∀ r, r < 1024 → r ≠ 0 → r.testBit (Lib.ctz 32 r) = true ∧ ∀ i, i < Lib.ctz 32 r → r.testBit i = false := by decide +kernel

/-- The least node of a node's part. -/
def partN (m : Nat) (es : List E3) (i : Nat) : Nat := Lib.ctz 32 (linkedN m (nbL m es) i)
theorem partN_rch {m : Nat} {es : List E3} (hm : m ≤ 10) (hg : goodE m es) {i : Nat} (hi : i < m) : Rch es i (partN m es i) :=
  (linkedN_bit hm hg hi _).1 (ctz_dec _ (pow10 hm (allTo_lt m _)) (linkedN_pos m _ i hi)).1
theorem partN_least {m : Nat} {es : List E3} (hm : m ≤ 10) (hg : goodE m es) {i j : Nat} (hi : i < m) (h : Rch es i j) : partN m es i ≤ j := by
  rcases Nat.lt_or_ge j (partN m es i) with hlt | hge
  · have h1 := (ctz_dec _ (pow10 hm (allTo_lt m _)) (linkedN_pos m (nbL m es) i hi)).2 j hlt
    have h2 : (linkedN m (nbL m es) i).testBit j = true := (linkedN_bit hm hg hi j).2 h
    have h1' : (linkedN m (nbL m es) i).testBit j = false := h1
    rw [h2] at h1'
    cases h1'
  · exact hge
theorem Rch.lt {m : Nat} {es : List E3} (hg : goodE m es) {i j : Nat} (hi : i < m) (h : Rch es i j) : j < m := by obtain ⟨k, hk⟩ := h; exact wk_lt hg hi hk
theorem partN_eq {m : Nat} {es : List E3} (hm : m ≤ 10) (hg : goodE m es) {i j : Nat} (hi : i < m) (hj : j < m) : partN m es i = partN m es j ↔ Rch es i j := by
  constructor
  · intro h
    have h1 := partN_rch hm hg hi
    have h2 := partN_rch hm hg hj
    rw [h] at h1
    exact h1.trans h2.symm
  · intro h
    have h1 := partN_least hm hg hi (h.trans (partN_rch hm hg hj))
    have h2 := partN_least hm hg hj (h.symm.trans (partN_rch hm hg hi))
    omega

/-! How many parts. -/
def Root (es : List E3) (i : Nat) : Prop := ∀ j, j < i → ¬ Rch es i j
theorem root_iff {m : Nat} {es : List E3} (hm : m ≤ 10) (hg : goodE m es) {i : Nat} (hi : i < m) : Root es i ↔ partN m es i = i := by
  constructor
  · intro h
    have h1 := partN_least hm hg hi (Rch.refl es i)
    rcases Nat.lt_or_ge (partN m es i) i with hlt | hge
    · exact absurd (partN_rch hm hg hi) (h _ hlt)
    · omega
  · intro h j hj hr
    have := partN_least hm hg hi hr
    omega
theorem rch_add {es : List E3} {a b : Nat} {c : Int} {i : Nat} : ∀ {n j : Nat}, wk (adjE (es ++ [((a : Int), (b : Int), c)])) n i j → Rch es i j ∨ (Rch es i a ∧ Rch es b j) ∨ (Rch es i b ∧ Rch es a j)
  | 0, _, h => by cases h; exact .inl (Rch.refl es i)
  | n + 1, j, ⟨x, hx, hj⟩ => by
    have hadj : adjE es x j = true ∨ (x = a ∧ j = b) ∨ (x = b ∧ j = a) := by
      unfold adjE at hj ⊢
      rw [any_snoc, Bool.or_eq_true] at hj
      rcases hj with h | h
      · exact .inl h
      · right
        simp only [Bool.or_eq_true, Bool.and_eq_true, beq_iff_eq] at h
        omega
    rcases rch_add hx with h | ⟨h1, h2⟩ | ⟨h1, h2⟩
    · rcases hadj with he | ⟨rfl, rfl⟩ | ⟨rfl, rfl⟩
      · exact .inl (h.step he)
      · exact .inr (.inl ⟨h, Rch.refl es _⟩)
      · exact .inr (.inr ⟨h, Rch.refl es _⟩)
    · rcases hadj with he | ⟨rfl, rfl⟩ | ⟨rfl, rfl⟩
      · exact .inr (.inl ⟨h1, h2.step he⟩)
      · exact .inr (.inl ⟨h1, Rch.refl es _⟩)
      · exact .inl h1
    · rcases hadj with he | ⟨rfl, rfl⟩ | ⟨rfl, rfl⟩
      · exact .inr (.inr ⟨h1, h2.step he⟩)
      · exact .inl h1
      · exact .inr (.inr ⟨h1, Rch.refl es _⟩)

open Classical in
noncomputable def rootsN (m : Nat) (es : List E3) : Nat := (List.range m).countP fun i => decide (Root es i)
theorem countP_one {p q : Nat → Bool} (x : Nat) : ∀ l : List Nat, l.Nodup → (∀ i ∈ l, i ≠ x → p i = true → q i = true) → l.countP p ≤ l.countP q + 1
  | [], _, _ => by simp
  | a :: l, hn, h => by
    rw [List.nodup_cons] at hn
    have hall : ∀ (l : List Nat), (∀ i ∈ l, p i = true → q i = true) → l.countP p ≤ l.countP q := fun l hl => List.countP_mono_left hl
    by_cases hax : a = x
    · have h1 := hall l (fun i hi hp => h i (List.mem_cons_of_mem _ hi) (fun e => hn.1 (by rw [hax, ← e]; exact hi)) hp)
      simp only [List.countP_cons]
      split <;> split <;> omega
    · have ih := countP_one x l hn.2 (fun i hi hne hp => h i (List.mem_cons_of_mem _ hi) hne hp)
      have ha := h a (List.mem_cons_self) hax
      simp only [List.countP_cons]
      by_cases hp : p a = true
      · rw [if_pos hp, if_pos (ha hp)]; omega
      · rw [if_neg hp]; split <;> omega
theorem rootsN_add (m : Nat) (es : List E3) (a b : Nat) (c : Int) : rootsN m es ≤ rootsN m (es ++ [((a : Int), (b : Int), c)]) + 1 := by
  unfold rootsN
  -- the two that may be lost: the roots of a and of b; not both
  by_cases hex : ∃ x, Root es x ∧ ¬ Root (es ++ [((a : Int), (b : Int), c)]) x
  · obtain ⟨x, hx, hnx⟩ := hex
    refine countP_one x _ List.nodup_range (fun i _ hne hp => ?_)
    simp only [decide_eq_true_eq] at hp ⊢
    apply Classical.byContradiction
    intro hni
    have key : ∀ y, Root es y → ¬ Root (es ++ [((a : Int), (b : Int), c)]) y → (Rch es y a ∧ ∃ z, z < y ∧ Rch es b z) ∨ (Rch es y b ∧ ∃ z, z < y ∧ Rch es a z) := fun y hy hny => by
      have : ∃ j, j < y ∧ Rch (es ++ [((a : Int), (b : Int), c)]) y j := by
        apply Classical.byContradiction
        intro hno
        exact hny (fun j hj hr => hno ⟨j, hj, hr⟩)
      obtain ⟨j, hj, k, hk⟩ := this
      rcases rch_add hk with h | ⟨h1, h2⟩ | ⟨h1, h2⟩
      · exact absurd h (hy j hj)
      · exact .inl ⟨h1, j, hj, h2⟩
      · exact .inr ⟨h1, j, hj, h2⟩
    have one : ∀ y y', Root es y → Root es y' → Rch es y y' → y = y' := fun y y' hy hy' hr => by
      rcases Nat.lt_trichotomy y y' with h | h | h
      · exact absurd hr.symm (hy' y h)
      · exact h
      · exact absurd hr (hy y' h)
    rcases key x hx hnx with ⟨xa, z, hz, bz⟩ | ⟨xb, z, hz, az⟩
    · rcases key i hp hni with ⟨ia, _⟩ | ⟨ib, z', hz', az'⟩
      · exact hne (one i x hp hx (ia.trans xa.symm))
      · -- i is the root of b, x that of a: i ≤ z < x ≤ z' < i
        have h1 : ¬ z < i := fun hlt => hp z hlt (ib.trans bz)
        have h2 : ¬ z' < x := fun hlt => hx z' hlt (xa.trans az')
        omega
    · rcases key i hp hni with ⟨ia, z', hz', bz'⟩ | ⟨ib, _⟩
      · have h1 : ¬ z < i := fun hlt => hp z hlt (ia.trans az)
        have h2 : ¬ z' < x := fun hlt => hx z' hlt (xb.trans bz')
        omega
      · exact hne (one i x hp hx (ib.trans xb.symm))
  · refine Nat.le_trans (List.countP_mono_left (fun i _ hp => ?_)) (Nat.le_succ _)
    simp only [decide_eq_true_eq] at hp ⊢
    apply Classical.byContradiction
    intro hni
    exact hex ⟨i, hp, hni⟩
theorem rootsN_nil (m : Nat) : rootsN m [] = m := by
  unfold rootsN
  have : ∀ i ∈ List.range m, (@decide (Root [] i) (Classical.propDecidable _)) = true := fun i _ => by
    simp only [decide_eq_true_eq]
    rintro j hj ⟨k, hk⟩
    cases k with
    | zero => cases hk; omega
    | succ k => obtain ⟨x, _, h⟩ := hk; simp [adjE] at h
  rw [List.countP_eq_length.2 this, List.length_range]
theorem rootsN_take {m : Nat} {es : List E3} (hg : goodE m es) : ∀ k, k ≤ es.length → m ≤ rootsN m (es.take k) + k
  | 0, _ => by rw [List.take_zero, rootsN_nil]; omega
  | k + 1, hk => by
    have ih := rootsN_take hg k (by omega)
    have hx : es[k]? = some es[k] := List.getElem?_eq_getElem (by omega)
    obtain ⟨p0, _, p2, _, _, _⟩ := edge_ok (hg k _ hx)
    rw [List.take_succ_eq_append_getElem (by omega)]
    generalize es[k] = e at p0 p2
    obtain ⟨a, b, c⟩ := e
    simp only at p0 p2
    obtain ⟨a, rfl⟩ := Int.eq_ofNat_of_zero_le p0
    obtain ⟨b, rfl⟩ := Int.eq_ofNat_of_zero_le p2
    have := rootsN_add m (es.take k) a b c
    omega
theorem rootsN_ge {m : Nat} {es : List E3} (hg : goodE m es) : m ≤ rootsN m es + es.length := by
  have := rootsN_take hg es.length (Nat.le_refl _)
  rwa [List.take_length] at this

/-- How many unlike numbers a list has. -/
def unlikeTo (xs : List Int) : Nat → Nat
  | 0 => 0
  | k + 1 => unlikeTo xs k + (if (xs.take k).contains (xs.getD k 0) = true then 0 else 1)
theorem unlikeTo_le (xs : List Int) : ∀ k, unlikeTo xs k ≤ k
  | 0 => Nat.le_refl _
  | k + 1 => by
    have := unlikeTo_le xs k
    simp only [unlikeTo]
    split <;> omega
theorem partsL_get {m : Nat} {es : List E3} {i : Nat} (hi : i < m) : (partsL m (nbL m es))[i]? = some (partN m es i : Int) := by simp [partsL, partN, hi]
theorem unlike_parts {m : Nat} {es : List E3} (hm : m ≤ 10) (hg : goodE m es) : unlikeTo (partsL m (nbL m es)) m = rootsN m es := by
  unfold rootsN
  have : ∀ k, k ≤ m → unlikeTo (partsL m (nbL m es)) k = (List.range k).countP fun i => @decide (Root es i) (Classical.propDecidable _) := by
    intro k
    induction k with
    | zero => intro _; rfl
    | succ k ih =>
      intro hk
      rw [unlikeTo, ih (by omega), List.range_succ, List.countP_append, List.countP_singleton]
      congr 1
      have hget : (partsL m (nbL m es)).getD k 0 = (partN m es k : Int) := by rw [List.getD_eq_getElem?_getD, partsL_get (by omega)]; rfl
      rw [hget]
      have hiff : ((partsL m (nbL m es)).take k).contains (partN m es k : Int) = true ↔ ¬ Root es k := by
        rw [root_iff hm hg (by omega), List.contains_iff_mem]
        constructor
        · intro hmem hroot
          obtain ⟨i, hi, he⟩ := List.getElem_of_mem hmem
          have hik : i < k := by rw [List.length_take] at hi; omega
          have hg2 : ((partsL m (nbL m es)).take k)[i]? = some (partN m es i : Int) := by rw [List.getElem?_take, if_pos hik, partsL_get (by omega)]
          rw [List.getElem?_eq_getElem hi, he] at hg2
          injection hg2 with hg2
          have h1 := partN_least hm hg (i := i) (by omega) (Rch.refl es i)
          omega
        · intro hnr
          have h1 := partN_least hm hg (i := k) (by omega) (Rch.refl es k)
          have hlt : partN m es k < k := by omega
          have hr := partN_rch hm hg (i := k) (by omega)
          have hpp : partN m es (partN m es k) = partN m es k := ((partN_eq hm hg (by omega) (by omega)).2 hr.symm)
          refine List.mem_of_getElem? (i := partN m es k) ?_
          rw [List.getElem?_take, if_pos hlt, partsL_get (by omega), hpp]
      by_cases hr : Root es k
      · rw [if_neg (fun h => hiff.1 h hr), if_pos (by simpa using hr)]
      · rw [if_pos (hiff.2 hr), if_neg (by simpa using hr)]
  exact this m (Nat.le_refl _)
end Go.Proofs.YtofggmdmeiaejaaDoor
