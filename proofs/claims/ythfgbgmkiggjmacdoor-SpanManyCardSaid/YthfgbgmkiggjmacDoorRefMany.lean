/- The determinant over all parts is the product of the parts' trees. Plain facts. The trees of words, as the reference counts them. Plain facts. The reference's Bit, Size and between, for words of at most 1,023. The reference's Many: of each set of nodes its trees; of the parts the product. -/
import Derived.Test.YthfgbgmkiggjmacDoorTrs
import Derived.Test.YthfgbgmkiggjmacDoorCnt
import Derived.Test.YthfgbgmkiggjmacDoorLapM
import Derived.Test.YthfgbgmkiggjmacDoorWords
import Derived.Test.YthfgbgmkiggjmacDoorRefDist
import Derived.Test.YthfgbgmkiggjmacDoorBox0
import Derived.Test.YthfgbgmkiggjmacDoorManyGo
import Derived.Test.YthfgbgmkiggjmacDoorRefParts
import Derived.Deep.RegionHeld3
namespace Go.Proofs.YthfgbgmkiggjmacDoor

def prodT : List Nat → (Nat → Int) → Int
  | [], _ => 1
  | r :: R, f => f r * prodT R f
theorem prodT_congr {f g : Nat → Int} : ∀ R : List Nat, (∀ r ∈ R, f r = g r) → prodT R f = prodT R g
  | [], _ => rfl
  | r :: R, h => by
    simp only [prodT]
    rw [h r (List.mem_cons_self ..), prodT_congr R fun q hq => h q (List.mem_cons_of_mem _ hq)]
theorem prodT_one {f : Nat → Int} : ∀ R : List Nat, (∀ r ∈ R, f r = 1) → prodT R f = 1
  | [], _ => rfl
  | r :: R, h => by
    simp only [prodT]
    rw [h r (List.mem_cons_self ..), prodT_one R fun q hq => h q (List.mem_cons_of_mem _ hq)]
    rfl
theorem prodT_zero {f : Nat → Int} {r0 : Nat} (h0 : f r0 = 0) : ∀ R : List Nat, r0 ∈ R → prodT R f = 0
  | r :: R, h => by
    simp only [prodT]
    rcases List.mem_cons.1 h with rfl | h
    · rw [h0, Int.zero_mul]
    · rw [prodT_zero h0 R h, Int.mul_zero]
theorem prodT_split {f f1 f2 : Nat → Int} {r0 : Nat} (h0 : f r0 = f1 r0 + f2 r0) (h1 : ∀ r, r ≠ r0 → f r = f1 r) (h2 : ∀ r, r ≠ r0 → f r = f2 r) : ∀ R : List Nat, R.Nodup → r0 ∈ R → prodT R f = prodT R f1 + prodT R f2
  | r :: R, hn, h => by
    simp only [prodT]
    obtain ⟨hr, hn⟩ := List.nodup_cons.1 hn
    by_cases he : r = r0
    · subst he
      have e1 : prodT R f = prodT R f1 := prodT_congr R fun q hq => h1 q fun e => hr (e ▸ hq)
      have e2 : prodT R f = prodT R f2 := prodT_congr R fun q hq => h2 q fun e => hr (e ▸ hq)
      rw [← e1, ← e2, h0, Int.add_mul]
    · have hm : r0 ∈ R := (List.mem_cons.1 h).resolve_left fun e => he e.symm
      rw [prodT_split h0 h1 h2 R hn hm, Int.mul_add, ← h1 r he, ← h2 r he]

/-- The nodes of a part. -/
def partS (P : Nat → Nat) (r : Nat) : NS := fun i => P i == r
/-- Each part has just one class that is not looked at. -/
structure Pt (n : Nat) (P : Nat → Nat) (R : List Nat) (lab : Nat → Nat) (reps : List Nat) : Prop where
  nd : reps.Nodup
  cl : ∀ i j, i < n → j < n → lab i = lab j → P i = P j
  ex : ∀ r ∈ R, ∃ i, i < n ∧ P i = r ∧ lab i ∉ reps
  un : ∀ i j, i < n → j < n → lab i ∉ reps → lab j ∉ reps → P i = P j → lab i = lab j
  on : ∀ y ∈ reps, ∃ i, i < n ∧ lab i = y
  al : ∀ i, i < n → P i ∈ R

theorem Pt.step {n : Nat} {P : Nat → Nat} {R : List Nat} {lab : Nat → Nat} {reps : List Nat} (h : Pt n P R lab reps) {x y c d : Nat} (hc : c < n) (hd : d < n) (hP : P c = P d) (hx : lab c = x) (hy : lab d = y) (hxy : x ≠ y) (hyr : y ∈ reps) : Pt n P R (mrg lab x y) (reps.erase y) := by
  have hme : ∀ r, r ∈ reps.erase y ↔ r ≠ y ∧ r ∈ reps := fun r => h.nd.mem_erase_iff
  refine ⟨h.nd.erase y, ?_, ?_, ?_, ?_, h.al⟩
  · intro i j hi hj he
    rcases (mrg_eq i j).1 he with h1 | ⟨h1, h2⟩
    · exact h.cl i j hi hj h1
    · have a : P i = P c := by
        rcases h1 with h1 | h1
        · exact h.cl i c hi hc (h1.trans hx.symm)
        · exact (h.cl i d hi hd (h1.trans hy.symm)).trans hP.symm
      have b : P j = P c := by
        rcases h2 with h1 | h1
        · exact h.cl j c hj hc (h1.trans hx.symm)
        · exact (h.cl j d hj hd (h1.trans hy.symm)).trans hP.symm
      rw [a, b]
  · intro r hr
    obtain ⟨i, hi, h1, h2⟩ := h.ex r hr
    refine ⟨i, hi, h1, ?_⟩
    have : lab i ≠ y := fun e => h2 (e ▸ hyr)
    unfold mrg
    rw [if_neg this, hme]
    exact fun e => h2 e.2
  · intro i j hi hj h1 h2 hp
    have key : ∀ i, i < n → mrg lab x y i ∉ reps.erase y → (lab i ∉ reps ∧ mrg lab x y i = lab i) ∨ (lab i = y ∧ x ∉ reps ∧ mrg lab x y i = x) := fun i hi h1 => by
      unfold mrg at h1 ⊢
      by_cases e : lab i = y
      · rw [if_pos e, hme] at h1
        exact .inr ⟨e, fun hh => h1 ⟨hxy, hh⟩, if_pos e⟩
      · rw [if_neg e, hme] at h1
        exact .inl ⟨fun hh => h1 ⟨e, hh⟩, if_neg e⟩
    have half : ∀ i j, i < n → j < n → P i = P j → lab i ∉ reps → lab j = y → x ∉ reps → lab i = x := fun i j hi hj hp h1 h2 h3 => by
      have e1 : P j = P d := h.cl j d hj hd (h2.trans hy.symm)
      rw [h.un i c hi hc h1 (by rw [hx]; exact h3) (by rw [hp, e1, hP]), hx]
    rcases key i hi h1 with ⟨a1, a2⟩ | ⟨a1, a2, a3⟩
    · rcases key j hj h2 with ⟨b1, b2⟩ | ⟨b1, b2, b3⟩
      · rw [a2, b2]; exact h.un i j hi hj a1 b1 hp
      · rw [a2, b3]; exact half i j hi hj hp a1 b1 b2
    · rcases key j hj h2 with ⟨b1, b2⟩ | ⟨b1, b2, b3⟩
      · rw [a3, b2]; exact (half j i hj hi hp.symm b1 a1 a2).symm
      · rw [a3, b3]
  · intro r hr
    obtain ⟨h1, h2⟩ := (hme r).1 hr
    obtain ⟨i, hi, he⟩ := h.on r h2
    refine ⟨i, hi, ?_⟩
    unfold mrg
    rw [if_neg (by rw [he]; exact h1), he]

/-- The determinant over all parts is the product of the parts' trees. -/
theorem detL_parts {n : Nat} {P : Nat → Nat} {R : List Nat} (hR : R.Nodup) : ∀ (E : NE) (lab : Nat → Nat) (reps : List Nat), (∀ e ∈ E, e.1 < n ∧ e.2 < n ∧ P e.1 = P e.2) → Pt n P R lab reps → detL E lab reps = prodT R fun r => (trees n (partS P r) E lab : Int)
  | [], lab, reps, _, h => by
    rw [detL_none]
    cases reps with
    | nil =>
      rw [if_pos rfl, prodT_one]
      intro r hr
      obtain ⟨x, hx, hp, _⟩ := h.ex r hr
      have : ClassOf n lab (partS P r) := ⟨x, hx, by simp [partS, hp], fun y hy => by
        simp only [partS, beq_iff_eq]
        exact ⟨fun e => h.un y x hy hx (by simp) (by simp) (e.trans hp.symm), fun e => (h.cl y x hy hx e).trans hp⟩⟩
      unfold trees
      rw [if_pos this]
      rfl
    | cons y ys =>
      rw [if_neg (by simp)]
      obtain ⟨i, hi, hy⟩ := h.on y (List.mem_cons_self ..)
      refine (prodT_zero (r0 := P i) ?_ R (h.al i hi)).symm
      have : ¬ ClassOf n lab (partS P (P i)) := fun ⟨x, hx, hs, ha⟩ => by
        obtain ⟨j, hj, hp, hn⟩ := h.ex (P i) (h.al i hi)
        have e1 := (ha i hi).1 (by simp [partS])
        have e2 := (ha j hj).1 (by simp [partS, hp])
        exact hn (by rw [e2, ← e1, hy]; exact List.mem_cons_self ..)
      unfold trees
      rw [if_neg this]
      rfl
  | e :: E, lab, reps, hE, h => by
    have hE' : ∀ d ∈ E, d.1 < n ∧ d.2 < n ∧ P d.1 = P d.2 := fun d hd => hE d (List.mem_cons_of_mem _ hd)
    obtain ⟨h1, h2, hP⟩ := hE e (List.mem_cons_self ..)
    have ih := detL_parts hR E lab reps hE' h
    have hin : InN n E := fun d hd => ⟨(hE' d hd).1, (hE' d hd).2.1⟩
    rcases detL_cases e E lab h.nd with ⟨h0, hd⟩ | ⟨h0, ha, hb, _⟩ | ⟨x, y, hxy, hy, he, hd⟩
    · rw [hd, ih]
      refine prodT_congr R fun r _ => ?_
      simp only [trees]
      rw [if_neg (fun hh => hh.2.2 h0)]
      rfl
    · exact absurd (h.un _ _ h1 h2 ha hb hP) h0
    · have hm : Pt n P R (mrg lab x y) (reps.erase y) := by
        rcases he with ⟨a, b⟩ | ⟨a, b⟩
        · exact h.step h1 h2 hP a b hxy hy
        · exact h.step h2 h1 hP.symm b a hxy hy
      have ih2 := detL_parts hR E (mrg lab x y) (reps.erase y) hE' hm
      have hne : lab e.1 ≠ lab e.2 := by rcases he with ⟨a, b⟩ | ⟨a, b⟩ <;> rw [a, b] <;> first | exact hxy | exact hxy.symm
      rw [hd, ih, ih2]
      refine (prodT_split (r0 := P e.1) ?_ ?_ ?_ R hR (h.al _ h1)).symm
      · simp only [trees]
        rw [if_pos ⟨by simp [partS], by simp [partS, hP], hne⟩]
        have : trees n (partS P (P e.1)) E (mrg lab (lab e.1) (lab e.2)) = trees n (partS P (P e.1)) E (mrg lab x y) := trees_congr E _ _ hin fun i j _ _ _ => by
          rw [mrg_eq, mrg_eq]
          rcases he with ⟨a, b⟩ | ⟨a, b⟩ <;> rw [a, b] <;> grind
        rw [this]
        simp
      · intro r hr
        simp only [trees]
        rw [if_neg (fun hh => hr (by have := hh.1; simp [partS] at this; exact this.symm))]
        rfl
      · intro r hr
        simp only [trees]
        rw [if_neg (fun hh => hr (by have := hh.1; simp [partS] at this; exact this.symm))]
        congr 1
        refine trees_congr E _ _ hin fun i j hi hj hs => ?_
        have hi' : P i = r := by simpa [partS] using hs
        have hix : ∀ z, (z = x ∨ z = y) → lab i ≠ z := fun z hz e1 => hr (by
          rcases he with ⟨a, b⟩ | ⟨a, b⟩ <;> rcases hz with rfl | rfl
          · rw [← hi']; exact h.cl i e.1 hi h1 (e1.trans a.symm)
          · rw [← hi', hP]; exact h.cl i e.2 hi h2 (e1.trans b.symm)
          · rw [← hi', hP]; exact h.cl i e.2 hi h2 (e1.trans b.symm)
          · rw [← hi']; exact h.cl i e.1 hi h1 (e1.trans a.symm))
        rw [mrg_eq]
        have a := hix x (.inl rfl)
        have b := hix y (.inr rfl)
        constructor
        · exact fun h => .inl h
        · rintro (h | ⟨h | h, _⟩)
          · exact h
          · exact absurd h a
          · exact absurd h b
end Go.Proofs.YthfgbgmkiggjmacDoor
namespace Go.Proofs.YthfgbgmkiggjmacDoor

/-- Only the nodes below n count. -/
theorem trees_set {n : Nat} {S S' : NS} (h : ∀ x, x < n → S x = S' x) : ∀ (E : NE) (lab : Nat → Nat), InN n E → trees n S E lab = trees n S' E lab
  | [], lab, _ => by
    have : ClassOf n lab S ↔ ClassOf n lab S' := by
      constructor
      · rintro ⟨x, hx, hs, ha⟩
        exact ⟨x, hx, by rw [← h x hx]; exact hs, fun y hy => by rw [← h y hy]; exact ha y hy⟩
      · rintro ⟨x, hx, hs, ha⟩
        exact ⟨x, hx, by rw [h x hx]; exact hs, fun y hy => by rw [h y hy]; exact ha y hy⟩
    unfold trees
    by_cases hc : ClassOf n lab S
    · rw [if_pos hc, if_pos (this.1 hc)]
    · rw [if_neg hc, if_neg (fun h => hc (this.2 h))]
  | e :: E, lab, hin => by
    have hin' : InN n E := fun d hd => hin d (List.mem_cons_of_mem _ hd)
    obtain ⟨h1, h2⟩ := hin e (List.mem_cons_self ..)
    simp only [trees]
    rw [trees_set h E lab hin', trees_set h E _ hin', h e.1 h1, h e.2 h2]
theorem trees_single {n : Nat} {S : NS} {x : Nat} (hx : x < n) (h : ∀ y, y < n → (S y = true ↔ y = x)) : ∀ (E : NE), InN n E → trees n S E id = 1
  | [], _ => by
    unfold trees
    exact if_pos ⟨x, hx, (h x hx).2 rfl, h⟩
  | e :: E, hin => by
    have hin' : InN n E := fun d hd => hin d (List.mem_cons_of_mem _ hd)
    obtain ⟨h1, h2⟩ := hin e (List.mem_cons_self ..)
    simp only [trees]
    rw [trees_single hx h E hin', if_neg]
    rintro ⟨a, b, c⟩
    exact c (((h e.1 h1).1 a).trans ((h e.2 h2).1 b).symm)
theorem trees_nil_le {n : Nat} {S : NS} (lab : Nat → Nat) : trees n S [] lab ≤ 1 := by
  unfold trees; split <;> omega
theorem two_le {n : Nat} {S : NS} {a : Nat} (ha : SubW n S a) : ∀ (E : NE) (lab : Nat → Nat), InN n E → trees n (bitsS a) E lab * trees n (lessS S (bitsS a)) E lab ≤ 2 ^ E.length
  | [], lab, _ => by
    have h1 := trees_nil_le (n := n) (S := bitsS a) lab
    have h2 := trees_nil_le (n := n) (S := lessS S (bitsS a)) lab
    have := Nat.mul_le_mul h1 h2
    simpa using this
  | e :: E, lab, hin => by
    have hin' : InN n E := fun d hd => hin d (List.mem_cons_of_mem _ hd)
    rw [two_cons hin ha, List.length_cons, Nat.pow_succ]
    have h1 := two_le ha E lab hin'
    have h2 := two_le ha E (mrg lab (lab e.1) (lab e.2)) hin'
    split <;> omega

theorem sub_bit : ∀ (i s a : Nat), a &&& s = a → (s - a).testBit i = (s.testBit i && !a.testBit i)
  | 0, s, a, h => by
    have hle : a ≤ s := by rw [← h]; exact Nat.and_le_right
    have h0 : a.testBit 0 = true → s.testBit 0 = true := fun e => by
      rw [← h, Nat.testBit_and] at e; simp only [Bool.and_eq_true] at e; exact e.2
    rw [Nat.testBit_zero, Nat.testBit_zero] at h0
    rw [Nat.testBit_zero, Nat.testBit_zero, Nat.testBit_zero, Bool.eq_iff_iff]
    simp only [decide_eq_true_eq, Bool.and_eq_true, Bool.not_eq_true', decide_eq_false_iff_not] at h0 ⊢
    omega
  | i + 1, s, a, h => by
    have hle : a ≤ s := by rw [← h]; exact Nat.and_le_right
    have h0 : a.testBit 0 = true → s.testBit 0 = true := fun e => by
      rw [← h, Nat.testBit_and] at e; simp only [Bool.and_eq_true] at e; exact e.2
    rw [Nat.testBit_zero, Nat.testBit_zero] at h0
    simp only [decide_eq_true_eq] at h0
    have h2 : a / 2 &&& s / 2 = a / 2 := by
      apply Nat.eq_of_testBit_eq
      intro j
      rw [Nat.testBit_and, ← Nat.testBit_succ, ← Nat.testBit_succ, ← Nat.testBit_and, h]
    rw [Nat.testBit_succ, Nat.testBit_succ, Nat.testBit_succ, show (s - a) / 2 = s / 2 - a / 2 by omega, sub_bit i _ _ h2]
theorem sub_word {s a : Nat} (h : a &&& s = a) : bitsS (s - a) = lessS (bitsS s) (bitsS a) := by
  funext i; exact sub_bit i s a h
theorem subW_iff {n s a : Nat} (ha : a < 2 ^ n) : SubW n (bitsS s) a ↔ a &&& s = a := by
  constructor
  · intro h
    apply Nat.eq_of_testBit_eq
    intro i
    rw [Nat.testBit_and]
    by_cases hi : i < n
    · cases hb : a.testBit i with
      | false => rfl
      | true => have := h i hi hb; unfold bitsS at this; rw [this]; rfl
    · rw [Nat.testBit_lt_two_pow (Nat.lt_of_lt_of_le ha (Nat.pow_le_pow_right (by decide) (by omega)))]; rfl
  · intro h i _ hb
    rw [← h, Nat.testBit_and] at hb
    simp only [Bool.and_eq_true] at hb
    exact hb.2

/-- The trees of a word. -/
noncomputable def treeW (n : Nat) (E : NE) (s : Nat) : Nat := trees n (bitsS s) E id
theorem treeW_le (n : Nat) (E : NE) (s : Nat) : treeW n E s ≤ 2 ^ E.length := trees_le E id
/-- What one set adds to the sum. -/
noncomputable def crossT (n : Nat) (E : NE) (s a : Nat) : Nat := if 1 ≤ a ∧ a &&& s = a then treeW n E a * treeW n E (s - a) * crossN (bitsS s) a E else 0
theorem crossN_zero {S : NS} {a : Nat} (h2 : (∀ i, bitsS a i = false) ∨ ∀ i, lessS S (bitsS a) i = false) (E : NE) : crossN S a E = 0 := by
  unfold crossN
  rw [List.countP_eq_zero]
  intro e _
  rcases h2 with h2 | h2
  · rw [h2, h2]; simp
  · rw [h2, h2]; simp
theorem sumN_tail {f : Nat → Nat} {s : Nat} : ∀ k, s ≤ k → (∀ a, s ≤ a → a < k → f a = 0) → sumN f k = sumN f s
  | 0, h, _ => by rw [show s = 0 from Nat.le_zero.1 h]
  | k + 1, h, hf => by
    by_cases hs : s = k + 1
    · rw [hs]
    · simp only [sumN]
      rw [hf k (by omega) (by omega), sumN_tail k (by omega) (fun a h1 h2 => hf a h1 (by omega))]; rfl
theorem crossT_sum {n s : Nat} (hs : s < 2 ^ n) (E : NE) : sumN (crossT n E s) s = sumCross n (bitsS s) E E id := by
  unfold sumCross
  rw [sumN_tail (s := s) (2 ^ n) (by omega) (fun a h1 h2 => ?_)]
  · refine sumN_congr _ (fun a ha => ?_)
    have hsub := subW_iff (s := s) (show a < 2 ^ n by omega)
    unfold crossT
    by_cases h : a &&& s = a
    · rw [if_pos (hsub.2 h)]
      by_cases h1 : 1 ≤ a
      · rw [if_pos ⟨h1, h⟩]
        unfold treeW
        rw [sub_word h]
      · obtain rfl : a = 0 := by omega
        rw [if_neg (fun h => h1 h.1), crossN_zero (S := bitsS s) (a := 0) (.inl fun i => by simp [bitsS]) E, Nat.mul_zero]
    · rw [if_neg (fun h' => h (hsub.1 h')), if_neg (fun h' => h h'.2)]
  · by_cases h : SubW n (bitsS s) a
    · rw [if_pos h]
      have h3 := (subW_iff h2).1 h
      have h4 : a ≤ s := by rw [← h3]; exact Nat.and_le_right
      obtain rfl : a = s := by omega
      have hz : ∀ i, lessS (bitsS a) (bitsS a) i = false := fun i => by unfold lessS; cases bitsS a i <;> rfl
      rw [crossN_zero (S := bitsS a) (a := a) (.inr hz) E, Nat.mul_zero]
    · rw [if_neg h]
theorem crossN_le (S : NS) (a : Nat) (E : NE) : crossN S a E ≤ E.length := List.countP_le_length
theorem treeT_le {n s a : Nat} {E : NE} (hin : InN n E) (hl : E.length ≤ 45) (ha : a < 2 ^ n) (h : a &&& s = a) : treeW n E a * treeW n E (s - a) ≤ 35184372088832 := by
  have h1 := two_le ((subW_iff (s := s) ha).2 h) E id hin
  unfold treeW
  rw [sub_word h]
  exact Nat.le_trans h1 (Nat.pow_le_pow_right (by decide) hl)
theorem crossT_le {n s a : Nat} {E : NE} (hin : InN n E) (hl : E.length ≤ 45) (ha : a < 2 ^ n) : crossT n E s a ≤ 1583296743997440 := by
  unfold crossT
  split
  · rename_i h
    have h1 := treeT_le hin hl ha h.2
    have h2 := crossN_le (bitsS s) a E
    exact Nat.le_trans (Nat.mul_le_mul h1 (show _ ≤ 45 by omega)) (by decide)
  · omega
theorem crossT_sum_le {n s : Nat} {E : NE} (hin : InN n E) (hl : E.length ≤ 45) : ∀ k, k ≤ 2 ^ n → sumN (crossT n E s) k ≤ 1583296743997440 * k
  | 0, _ => by simp [sumN]
  | k + 1, h => by
    have h1 := crossT_sum_le (s := s) hin hl k (by omega)
    have h2 := crossT_le (s := s) hin hl (show k < 2 ^ n by omega)
    simp only [sumN]
    omega
/-- How many bits are set. -/
def sizeW (s : Nat) : Nat := (List.range 32).countP fun i => s.testBit i
theorem countP_range_more {p : Nat → Bool} {n : Nat} : ∀ k, n ≤ k → (∀ i, n ≤ i → p i = false) → (List.range k).countP p = (List.range n).countP p
  | 0, h, _ => by rw [show n = 0 from Nat.le_zero.1 h]
  | k + 1, h, hp => by
    by_cases hk : n = k + 1
    · rw [hk]
    · rw [List.range_succ, List.countP_append, countP_range_more k (by omega) hp]
      simp [hp k (by omega)]
theorem size_cls {n s : Nat} (hn : n ≤ 32) (hs : s < 2 ^ n) : clsN n (bitsS s) id = sizeW s := by
  unfold sizeW clsN
  rw [countP_range_more 32 hn (fun i hi => Nat.testBit_lt_two_pow (Nat.lt_of_lt_of_le hs (Nat.pow_le_pow_right (by decide) hi)))]
  apply List.countP_congr
  intro i _
  simp [bitsS]
theorem tree_rec {n s : Nat} {E : NE} (hin : InN n E) (hn : n ≤ 32) (hs : s < 2 ^ n) : sumN (crossT n E s) s + 2 * treeW n E s = 2 * sizeW s * treeW n E s := by
  have h := trees_split (n := n) (S := bitsS s) E id hin (fun i hi => ⟨hi, rfl⟩) (fun x y _ _ he hx => by
    have e : x = y := he
    rw [← e]; exact hx)
  rw [crossT_sum hs, ← size_cls hn hs]
  exact h
theorem size_pos {n s : Nat} (hn : n ≤ 32) (hs : s < 2 ^ n) (h0 : 1 ≤ s) : 1 ≤ sizeW s := by
  apply Classical.byContradiction
  intro h
  have h1 : sizeW s = 0 := by omega
  unfold sizeW at h1
  rw [List.countP_eq_zero] at h1
  have : s = 0 := by
    apply Nat.eq_of_testBit_eq
    intro i
    rw [Nat.zero_testBit]
    by_cases hi : i < 32
    · simpa using h1 i (List.mem_range.2 hi)
    · exact Nat.testBit_lt_two_pow (Nat.lt_of_lt_of_le hs (Nat.pow_le_pow_right (by decide) (by omega)))
  omega
theorem tree_one {n s : Nat} {E : NE} (hin : InN n E) (hn : n ≤ 32) (hs : s < 2 ^ n) (h1 : sizeW s = 1) : treeW n E s = 1 := by
  have hsz := h1
  unfold sizeW at h1
  rw [List.countP_eq_length_filter] at h1
  obtain ⟨x, hx⟩ := List.length_eq_one_iff.1 h1
  have hm : ∀ y, (y < 32 ∧ s.testBit y = true) ↔ y = x := fun y => by
    have : y ∈ (List.range 32).filter (fun i => s.testBit i) ↔ y = x := by rw [hx]; simp
    rw [List.mem_filter, List.mem_range] at this
    exact this
  have hxn : x < n := by
    apply Classical.byContradiction
    intro h
    have h2 := ((hm x).2 rfl).2
    rw [Nat.testBit_lt_two_pow (Nat.lt_of_lt_of_le hs (Nat.pow_le_pow_right (by decide) (by omega)))] at h2
    cases h2
  exact trees_single hxn (fun y hy => ⟨fun h => (hm y).1 ⟨by omega, h⟩, fun h => ((hm y).2 h).2⟩) E hin
theorem tree_more {n s : Nat} {E : NE} (hin : InN n E) (hn : n ≤ 32) (hs : s < 2 ^ n) (h1 : 2 ≤ sizeW s) : sumN (crossT n E s) s / 2 / (sizeW s - 1) = treeW n E s := by
  have h := tree_rec hin hn hs
  generalize sumN (crossT n E s) s = X at *
  generalize treeW n E s = T at *
  obtain ⟨k, hk⟩ : ∃ k, sizeW s = k + 2 := ⟨sizeW s - 2, by omega⟩
  rw [hk] at h ⊢
  have e : 2 * (k + 2) * T = 2 * ((k + 1) * T) + 2 * T := by rw [Nat.mul_assoc, show k + 2 = (k + 1) + 1 by omega, Nat.add_mul, Nat.mul_add]; omega
  have hX : X = 2 * ((k + 1) * T) := by omega
  rw [hX, Nat.mul_div_cancel_left _ (by decide), show k + 2 - 1 = k + 1 by omega, Nat.mul_div_cancel_left _ (by omega)]

/-- The product over the parts, part by part. -/
noncomputable def prodK (n : Nat) (E : NE) (P : Nat → Nat) : Nat → Nat
  | 0 => 1
  | k + 1 => prodK n E P k * (if 0 < wordS (partS P k) n then treeW n E (wordS (partS P k) n) else 1)
theorem prodT_snoc (f : Nat → Int) (r : Nat) : ∀ R : List Nat, prodT (R ++ [r]) f = prodT R f * f r
  | [] => by simp [prodT]
  | q :: R => by simp only [List.cons_append, prodT]; rw [prodT_snoc f r R, Int.mul_assoc]
theorem prodK_prodT {n : Nat} {E : NE} {P : Nat → Nat} (hin : InN n E) : ∀ k, prodT ((List.range k).filter fun r => decide (0 < wordS (partS P r) n)) (fun r => (trees n (partS P r) E id : Int)) = (prodK n E P k : Int)
  | 0 => rfl
  | k + 1 => by
    rw [List.range_succ, List.filter_append]
    simp only [prodK]
    by_cases h : 0 < wordS (partS P k) n
    · rw [if_pos h, show [k].filter (fun r => decide (0 < wordS (partS P r) n)) = [k] by simp [h], prodT_snoc, prodK_prodT hin k, Int.natCast_mul]
      congr 2
      unfold treeW
      refine trees_set (fun x hx => ?_) E id hin
      show _ = (wordS (partS P k) n).testBit x
      rw [wordS_bit]; simp [hx]
    · rw [if_neg h, show [k].filter (fun r => decide (0 < wordS (partS P r) n)) = [] by simp [h], List.append_nil, prodK_prodT hin k, Nat.mul_one]
theorem prodK_mono {n : Nat} {E : NE} {P : Nat → Nat} : ∀ (j k : Nat), 1 ≤ prodK n E P (k + j) → prodK n E P k ≤ prodK n E P (k + j)
  | 0, k, _ => Nat.le_refl _
  | j + 1, k, h => by
    rw [show k + (j + 1) = (k + j) + 1 by omega] at h ⊢
    simp only [prodK] at h ⊢
    generalize (if 0 < wordS (partS P (k + j)) n then treeW n E (wordS (partS P (k + j)) n) else 1) = c at *
    have hc : 1 ≤ c := by
      rcases Nat.eq_zero_or_pos c with h0 | h0
      · rw [h0] at h; simp at h
      · exact h0
    have hp : 1 ≤ prodK n E P (k + j) := by
      rcases Nat.eq_zero_or_pos (prodK n E P (k + j)) with h0 | h0
      · rw [h0] at h; simp at h
      · exact h0
    exact Nat.le_trans (prodK_mono j k hp) (Nat.le_mul_of_pos_right _ hc)
end Go.Proofs.YthfgbgmkiggjmacDoor
namespace Go.Proofs.YthfgbgmkiggjmacDoor
open Go.RowKit

def bitC (u z : Int) : Bool := bits BinOp.and IntKind.u32 u ((2 ^ z.toNat : Nat) : Int) != 0
set_option maxRecDepth 100000 in
set_option maxHeartbeats 4000000 in
theorem bit_any (u z : Int) (h0 : 0 ≤ z) (h1 : z < 32) (W : World) : Calls Tryd.prog 32 #[.int .u32 u, .int .i64 z] W fun e w' => e = .returned (.bool (bitC u z)) ∧ w' = W := by
  rcases (show z = 0 ∨ z = 1 ∨ z = 2 ∨ z = 3 ∨ z = 4 ∨ z = 5 ∨ z = 6 ∨ z = 7 ∨ z = 8 ∨ z = 9 ∨ z = 10 ∨ z = 11 ∨ z = 12 ∨ z = 13 ∨ z = 14 ∨ z = 15 ∨ z = 16 ∨ z = 17 ∨ z = 18 ∨ z = 19 ∨ z = 20 ∨ z = 21 ∨ z = 22 ∨ z = 23 ∨ z = 24 ∨ z = 25 ∨ z = 26 ∨ z = 27 ∨ z = 28 ∨ z = 29 ∨ z = 30 ∨ z = 31 by omega) with rfl | rfl | rfl | rfl | rfl | rfl | rfl | rfl | rfl | rfl | rfl | rfl | rfl | rfl | rfl | rfl | rfl | rfl | rfl | rfl | rfl | rfl | rfl | rfl | rfl | rfl | rfl | rfl | rfl | rfl | rfl | rfl
  all_goals
    clear h0 h1
    go_enter Tryd.func32, Tryd.ntmps32
    go_wp2
    go_ret
    exact ⟨rfl, rfl⟩
theorem bitC_nat {s i : Nat} (hs : s < 4294967296) (hi : i < 32) : bitC (s : Int) (i : Int) = s.testBit i := by
  unfold bitC
  have hp : 2 ^ i < 4294967296 := by show 2 ^ i < 2 ^ 32; exact Nat.pow_lt_pow_right (by decide) hi
  rw [Int.toNat_natCast, and_u32 s (2 ^ i) hs hp]
  cases hb : s.testBit i with
  | false =>
    have h0 : s &&& 2 ^ i = 0 := by
      apply Nat.eq_of_testBit_eq
      intro j
      rw [Nat.testBit_and, Nat.testBit_two_pow, Nat.zero_testBit]
      by_cases hj : i = j
      · subst hj; rw [hb]; rfl
      · simp [hj]
    rw [h0]; rfl
  | true =>
    have h1 : (s &&& 2 ^ i).testBit i = true := by
      rw [Nat.testBit_and, Nat.testBit_two_pow, hb]; simp
    have h0 : s &&& 2 ^ i ≠ 0 := fun h => by rw [h, Nat.zero_testBit] at h1; cases h1
    have h2 : ((s &&& 2 ^ i : Nat) : Int) ≠ 0 := by omega
    simpa using h0
set_option maxRecDepth 100000 in
theorem bit_nat (s i : Nat) (b : Bool) (hs : s < 4294967296) (hi : i < 32) (hb : s.testBit i = b) (W : World) : Calls Tryd.prog 32 #[.int .u32 s, .int .i64 i] W fun e w' => e = .returned (.bool b) ∧ w' = W := by
  rw [← hb, ← bitC_nat hs hi]
  exact bit_any s i (by omega) (by omega) W

def sizeTo (s k : Nat) : Nat := (List.range k).countP fun i => s.testBit i
theorem sizeTo_succ (s k : Nat) : sizeTo s (k + 1) = sizeTo s k + if s.testBit k = true then 1 else 0 := by
  unfold sizeTo; rw [List.range_succ, List.countP_append]; simp [List.countP_cons]
theorem sizeTo_le (s : Nat) (k : Nat) : sizeTo s k ≤ k := by
  have := List.countP_le_length (p := fun i => s.testBit i) (l := List.range k)
  simpa [sizeTo] using this
set_option maxRecDepth 100000 in
set_option maxHeartbeats 1000000 in
theorem size_any (s : Nat) (hs : s < 4294967296) (W : World) : Calls Tryd.prog 21 #[.int .u32 s] W fun e w' => e = .returned (.int .i64 (sizeW s : Nat)) ∧ w' = W := by
  go_enter Tryd.func21, Tryd.ntmps21
  go_wp2
  go_loop [3, 4] (fun n j => ∃ k : Nat, k ≤ 32 ∧ j = .int .i64 k ∧ n = .int .i64 (sizeTo s k : Nat)) (fun _ j => 32 - (intOf j).toNat)
  case atStart => exact ⟨0, Nat.zero_le _, rfl, rfl⟩
  case round =>
    obtain ⟨k, hk, rfl, rfl⟩ := hrel
    have hle := sizeTo_le s k
    by_cases hlt : k < 32
    · have HN := Lib.hid (sizeTo_succ s k)
      cases hb : s.testBit k
      · have HB := Lib.hid hb
        have HN2 : Hid (sizeTo s (k + 1) = sizeTo s k) := Lib.hid (by rw [HN.out, hb]; rfl)
        clear hb HN
        generalize sizeTo s k = n at *
        go_wp2_with (go_at_call 32; refine (bit_nat s k false hs hlt HB.out _).mono ?_; rintro e w1 ⟨rfl, rfl⟩)
        go_round
        case rel => exact ⟨k + 1, by omega, by go_num, by rw [HN2.out]⟩
        case measure => simp [intOf]; omega
      · have HB := Lib.hid hb
        have HN2 : Hid (sizeTo s (k + 1) = sizeTo s k + 1) := Lib.hid (by rw [HN.out, hb]; rfl)
        clear hb HN
        generalize sizeTo s k = n at *
        go_wp2_with (go_at_call 32; refine (bit_nat s k true hs hlt HB.out _).mono ?_; rintro e w1 ⟨rfl, rfl⟩)
        go_round
        case rel => exact ⟨k + 1, by omega, by go_num, by rw [HN2.out]; go_num⟩
        case measure => simp [intOf]; omega
    · obtain rfl : k = 32 := by omega
      go_wp2
      go_ret
      exact ⟨rfl, rfl⟩

/-- Does an edge lead from the one word to the other? -/
def crossE (a b : Nat) (e : E3) : Bool := (a.testBit e.1.toNat && b.testBit e.2.1.toNat) || (a.testBit e.2.1.toNat && b.testBit e.1.toNat)
def crossTo (a b : Nat) (es : List E3) (k : Nat) : Nat := (es.take k).countP (crossE a b)
theorem crossTo_succ {a b : Nat} {es : List E3} {k : Nat} {e : E3} (h : es[k]? = some e) : crossTo a b es (k + 1) = crossTo a b es k + if crossE a b e = true then 1 else 0 := by
  obtain ⟨h1, h2⟩ := List.getElem?_eq_some_iff.1 h
  unfold crossTo
  rw [List.take_succ_eq_append_getElem h1, h2, List.countP_append]
  simp [List.countP_cons]
theorem crossTo_le (a b : Nat) (es : List E3) (k : Nat) : crossTo a b es k ≤ k := by
  have h1 := List.countP_le_length (p := crossE a b) (l := es.take k)
  have h2 := List.length_take_le k es
  unfold crossTo; omega
theorem crossTo_all {a s : Nat} {es : List E3} (h : a &&& s = a) : crossTo a (s - a) es es.length = crossN (bitsS s) a (pairsN es) := by
  unfold crossTo crossN pairsN
  rw [List.take_of_length_le (Nat.le_refl _), List.countP_map]
  apply List.countP_congr
  intro e _
  rw [← sub_word h]
  rfl
set_option maxRecDepth 100000 in
theorem bit_four {a b x y : Nat} {p q r t : Bool} (ha : a < 4294967296) (hb : b < 4294967296) (hx : x < 32) (hy : y < 32) (hp : a.testBit x = p) (hq : b.testBit y = q) (hr : a.testBit y = r) (ht : b.testBit x = t) (u z : Int) (v : Bool)
    (h : (u = (a : Int) ∧ z = (x : Int) ∧ v = p) ∨ (u = (b : Int) ∧ z = (y : Int) ∧ v = q) ∨ (u = (a : Int) ∧ z = (y : Int) ∧ v = r) ∨ (u = (b : Int) ∧ z = (x : Int) ∧ v = t)) (W : World) : Calls Tryd.prog 32 #[.int .u32 u, .int .i64 z] W fun e w' => e = .returned (.bool v) ∧ w' = W := by
  rcases h with ⟨rfl, rfl, rfl⟩ | ⟨rfl, rfl, rfl⟩ | ⟨rfl, rfl, rfl⟩ | ⟨rfl, rfl, rfl⟩
  · exact bit_nat a x _ ha hx hp W
  · exact bit_nat b y _ hb hy hq W
  · exact bit_nat a y _ ha hy hr W
  · exact bit_nat b x _ hb hx ht W
set_option maxRecDepth 100000 in
set_option maxHeartbeats 4000000 in
theorem between_any (m a b : Nat) (A : Option Addr) (len cap : Nat) (es : List E3) (w : World) (hE : EdgesAt w w.heap.size A len es) (hm10 : m ≤ 10) (hlen : len ≤ 45) (hin : InE m es) (ha : a < 4294967296) (hb : b < 4294967296) :
    Calls Tryd.prog 27 #[.agg #[.int .i64 m, .slice A len cap], .int .u32 a, .int .u32 b] w fun e w' => e = .returned (.int .i64 (crossTo a b es es.length : Nat)) ∧ Below w.heap.size w w' := by
  have HLE : Hid (es.length = len) := Lib.hid hE.1
  have HX := Lib.hid (BoxG.start (n := m) (cap := cap) hE)
  have HIN := Lib.hid hin
  have HA := Lib.hid ha
  have HB := Lib.hid hb
  clear hE hin ha hb
  go_enter Tryd.func27, Tryd.ntmps27
  go_wp2
  go_loopw [7, 13] (fun n j wr => ∃ k : Nat, k ≤ len ∧ j = .int .i64 k ∧ n = .int .i64 (crossTo a b es k : Nat) ∧ Hid (BoxG w m A len cap es wr)) (fun _ j _ => len - (intOf j).toNat)
  case atStart => exact ⟨0, Nat.zero_le _, rfl, rfl, HX⟩
  case round =>
    clear HX
    obtain ⟨k, hk, rfl, rfl, HXr⟩ := hrel
    have hle := crossTo_le a b es k
    by_cases hlt : k < len
    · obtain ⟨bb, off, ⟨a0, a1, a2⟩, rfl, hbb, hx, hc0, hc1, hc2⟩ := HXr.out.edges.at_ hlt
      simp only at hc0 hc1 hc2
      obtain ⟨p0, p1, p2, p3⟩ := HIN.out _ (List.mem_of_getElem? hx)
      simp only at p0 p1 p2 p3
      obtain ⟨x, rfl⟩ := Int.eq_ofNat_of_zero_le p0
      obtain ⟨y, rfl⟩ := Int.eq_ofNat_of_zero_le p2
      have HN : Hid (crossTo a b es (k + 1) = crossTo a b es k + if ((a.testBit x && b.testBit y) || (a.testBit y && b.testBit x)) = true then 1 else 0) := Lib.hid (by
        rw [crossTo_succ hx]; rfl)
      clear hx hbb
      have HXn : Hid (BoxG w m (some ⟨bb, off, none⟩) len cap es (wr.alloc (.cells #[.int .i64 x, .int .i64 y, .int .i64 a2] 53))) := Lib.hid (HXr.out.next ((Below.refl _ _).alloc (Nat.le_refl _) _))
      generalize crossTo a b es k = n at *
      cases hp : a.testBit x <;> cases hq : b.testBit y <;> cases hr : a.testBit y <;> cases ht : b.testBit x
      all_goals
        have HF := Lib.hid (bit_four HA.out HB.out (x := x) (y := y) (by omega) (by omega) hp hq hr ht)
        rw [hp, hq, hr, ht] at HN
        clear hp hq hr ht
        go_wp2_with (go_at_call 32; refine (HF.out _ _ _ (by first | exact Or.inl ⟨rfl, rfl, rfl⟩ | exact Or.inr (Or.inl ⟨rfl, rfl, rfl⟩) | exact Or.inr (Or.inr (Or.inl ⟨rfl, rfl, rfl⟩)) | exact Or.inr (Or.inr (Or.inr ⟨rfl, rfl, rfl⟩))) _).mono ?_; rintro e w1 ⟨rfl, rfl⟩)
        go_roundw
        case rel => exact ⟨k + 1, by omega, by go_num, (by rw [HN.out]; first | rfl | go_num), HXn⟩
        case measure => simp [intOf]; omega
    · obtain rfl : k = es.length := by have := HLE.out; omega
      go_wp2
      go_ret
      exact ⟨rfl, HXr.out.below⟩
end Go.Proofs.YthfgbgmkiggjmacDoor
namespace Go.Proofs.YthfgbgmkiggjmacDoor
open Go.RowKit

theorem inN_pairs {m : Nat} {es : List E3} (hin : InE m es) : InN m (pairsN es) := fun e he => by
  obtain ⟨x, hx, rfl⟩ := List.mem_map.1 he
  obtain ⟨h0, h1, h2, h3⟩ := hin x hx
  show x.1.toNat < m ∧ x.2.1.toNat < m
  omega
theorem pairsN_len (es : List E3) : (pairsN es).length = es.length := by simp [pairsN]
theorem wordS_zero {S : NS} : ∀ k, (∀ i, i < k → S i = false) → wordS S k = 0
  | 0, _ => rfl
  | k + 1, h => by
    simp only [wordS]
    rw [wordS_zero k fun i hi => h i (by omega), h k (by omega)]
    rfl
theorem many_prod {m : Nat} {es : List E3} (hm : m ≤ 10) (hg : goodE m es) : manyN m es = (prodK m (pairsN es) (partN m es) m : Nat) := by
  have hin := InE.of_good hg
  rw [manyN_det hm hg, ← prodK_prodT (inN_pairs hin) m]
  have hpl : ∀ i, i < m → partN m es i < m := fun i hi => Rch.lt hg hi (partN_rch hm hg hi)
  refine detL_parts (List.nodup_range.filter _) (pairsN es) id (notRoots m es) (fun e he => ?_) ⟨notRoots_nodup m es, fun i j _ _ h => congrArg _ h, fun r hr => ?_, fun i j hi hj h1 h2 he => ?_, fun y hy => ⟨y, ((notRoots_mem hm hg).1 hy).1, rfl⟩, fun i hi => ?_⟩
  · obtain ⟨h1, h2⟩ := inN_pairs hin e he
    refine ⟨h1, h2, ?_⟩
    obtain ⟨x, hx, rfl⟩ := List.mem_map.1 he
    obtain ⟨g0, g1, g2, g3⟩ := hin x hx
    exact (partN_eq hm hg h1 h2).2 (Rch.edge hx (by show _ = ((x.1.toNat : Nat) : Int); omega) (by show _ = ((x.2.1.toNat : Nat) : Int); omega))
  · obtain ⟨hrm, hr2⟩ := List.mem_filter.1 hr
    have hrm := List.mem_range.1 hrm
    have hw : 0 < wordS (partS (partN m es) r) m := by simpa using hr2
    obtain ⟨i, hi, hp⟩ : ∃ i, i < m ∧ partN m es i = r := by
      apply Classical.byContradiction
      intro hno
      have : wordS (partS (partN m es) r) m = 0 := wordS_zero m fun i hi => by
        simp only [partS, beq_eq_false_iff_ne]
        exact fun h => hno ⟨i, hi, h⟩
      omega
    have hrr : partN m es r = r := by
      have h1 := partN_rch hm hg hi
      rw [hp] at h1
      have h2 := (partN_eq hm hg hrm hi).2 h1.symm
      rw [h2, hp]
    exact ⟨r, hrm, hrr, fun hn => ((notRoots_mem hm hg).1 hn).2 ((root_iff hm hg hrm).2 hrr)⟩
  · have r1 : Root es i := Classical.byContradiction fun h => h1 ((notRoots_mem hm hg).2 ⟨hi, h⟩)
    have r2 : Root es j := Classical.byContradiction fun h => h2 ((notRoots_mem hm hg).2 ⟨hj, h⟩)
    have e1 := (root_iff hm hg hi).1 r1
    have e2 := (root_iff hm hg hj).1 r2
    rw [e1, e2] at he
    exact he
  · refine List.mem_filter.2 ⟨List.mem_range.2 (hpl i hi), ?_⟩
    have hb : (wordS (partS (partN m es) (partN m es i)) m).testBit i = true := by
      rw [wordS_bit]; simp [hi, partS]
    have : wordS (partS (partN m es) (partN m es i)) m ≠ 0 := fun h => by rw [h, Nat.zero_testBit] at hb; cases hb
    simp; omega
theorem prod_le {m : Nat} {es : List E3} (hm : m ≤ 10) (hg : goodE m es) (hl : es.length ≤ 45) {k : Nat} (hk : k ≤ m) : prodK m (pairsN es) (partN m es) k ≤ 35184372088832 := by
  have h1 := many_prod hm hg
  have h2 := manyN_pos hm hg
  have h3 := manyN_le hm hg
  have h4 : (2 : Int) ^ es.length ≤ 35184372088832 := by
    have : 2 ^ es.length ≤ 2 ^ 45 := Nat.pow_le_pow_right (by decide) hl
    have h5 : ((2 ^ es.length : Nat) : Int) ≤ ((2 ^ 45 : Nat) : Int) := by omega
    simpa using h5
  have h5 := prodK_mono (n := m) (E := pairsN es) (P := partN m es) (m - k) k (by rw [show k + (m - k) = m by omega]; omega)
  rw [show k + (m - k) = m by omega] at h5
  omega

theorem and_i64 (a b : Nat) (ha : a < 4294967296) (hb : b < 4294967296) : bits .and .i64 (a : Int) (b : Int) = ((a &&& b : Nat) : Int) := by
  have hx : a &&& b < 2 ^ 32 := Nat.and_lt_two_pow _ (by omega)
  have o1 : (BitVec.ofInt 64 (a : Int)).toNat = a := by rw [BitVec.ofInt_natCast, BitVec.toNat_ofNat]; exact Nat.mod_eq_of_lt (by omega)
  have o2 : (BitVec.ofInt 64 (b : Int)).toNat = b := by rw [BitVec.ofInt_natCast, BitVec.toNat_ofNat]; exact Nat.mod_eq_of_lt (by omega)
  show IntKind.i64.wrap ((BitVec.ofInt 64 (a : Int) &&& BitVec.ofInt 64 (b : Int)).toNat : Int) = _
  rw [BitVec.toNat_and, o1, o2]
  exact IntWalk.i64_in _ (by omega)
set_option maxRecDepth 100000 in
theorem size_v (s : Nat) (z : Int) (hs : s < 4294967296) (hz : (sizeW s : Int) = z) (W : World) : Calls Tryd.prog 21 #[.int .u32 s] W fun e w' => e = .returned (.int .i64 z) ∧ w' = W := by
  subst hz; exact size_any s hs W
set_option maxRecDepth 100000 in
theorem between_v (m a b : Nat) (A : Option Addr) (len cap : Nat) (es : List E3) (z : Nat) (w : World) (hE : EdgesAt w w.heap.size A len es) (hm10 : m ≤ 10) (hlen : len ≤ 45) (hin : InE m es) (ha : a < 4294967296) (hb : b < 4294967296) (hz : crossTo a b es es.length = z) :
    Calls Tryd.prog 27 #[.agg #[.int .i64 m, .slice A len cap], .int .u32 a, .int .u32 b] w fun e w' => e = .returned (.int .i64 z) ∧ Below w.heap.size w w' := by
  subst hz; exact between_any m a b A len cap es w hE hm10 hlen hin ha hb
theorem crossT_yes {n s a : Nat} {E : NE} (h1 : 1 ≤ a) (h : a &&& s = a) : crossT n E s a = treeW n E a * treeW n E (s - a) * crossN (bitsS s) a E := if_pos ⟨h1, h⟩
theorem crossT_no {n s a : Nat} {E : NE} (h : a &&& s ≠ a) : crossT n E s a = 0 := if_neg fun h' => h h'.2

theorem wrap_small {S Q : Nat} (h1 : S ≤ 1024) (h2 : Q ≤ 1024) : IntKind.i64.wrap ((S : Int) + (Q : Int)) = (S : Int) + (Q : Int) := IntWalk.i64_in _ (by omega)
/-- The table of trees, as far as it was filled. -/
def TreeTab (m : Nat) (es : List E3) (N g s : Nat) (wr : World) : Prop := ∃ f, RowL wr g N f ∧ ∀ j, 1 ≤ j → j < s → f j = (treeW m (pairsN es) j : Nat)
theorem TreeTab.of_block {m : Nat} {es : List E3} {N g s : Nat} {w w' : World} (h : TreeTab m es N g s w) (hb : w'.heap[g]? = w.heap[g]?) : TreeTab m es N g s w' := by
  obtain ⟨f, h1, h2⟩ := h; exact ⟨f, h1.of_block hb, h2⟩
theorem TreeTab.lt {m : Nat} {es : List E3} {N g s : Nat} {w : World} (h : TreeTab m es N g s w) : g < w.heap.size := by obtain ⟨f, h1, _⟩ := h; exact h1.lt
theorem TreeTab.cell {m : Nat} {es : List E3} {N g s j : Nat} {w : World} (h : TreeTab m es N g s w) (h1 : 1 ≤ j) (h2 : j < s) (h3 : s ≤ N) : w.cell? ⟨g, j, none⟩ = some (.int .i64 (treeW m (pairsN es) j : Nat)) := by
  obtain ⟨f, h4, h5⟩ := h
  rw [← h5 j h1 h2]; exact h4.cell (by omega)
theorem TreeTab.some {m : Nat} {es : List E3} {N g s j : Nat} {w : World} (h : TreeTab m es N g s w) (hj : j < N) : ∃ x, w.cell? ⟨g, j, none⟩ = some (.int .i64 x) := by
  obtain ⟨f, h4, _⟩ := h
  exact ⟨_, h4.cell hj⟩
theorem TreeTab.frozen {m : Nat} {es : List E3} {N g s : Nat} {w : World} (h : TreeTab m es N g s w) (j : Nat) : w.frozen? ⟨g, j, none⟩ = false := by obtain ⟨f, h1, _⟩ := h; exact h1.frozen j
theorem TreeTab.next {m : Nat} {es : List E3} {N g s : Nat} {w : World} (h : TreeTab m es N g s w) : TreeTab m es N g (s + 1) (w.setCell ⟨g, s, none⟩ (.int .i64 (treeW m (pairsN es) s : Nat))) := by
  obtain ⟨f, h1, h2⟩ := h
  refine ⟨_, h1.set_ s _, fun j h3 h4 => ?_⟩
  unfold updF
  split
  · rename_i e; rw [e]
  · exact h2 j h3 (by omega)

set_option maxRecDepth 100000 in
set_option maxHeartbeats 4000000 in
theorem refMany_any (m : Nat) (A : Option Addr) (len cap : Nat) (es : List E3) (w : World) (hE : EdgesAt w w.heap.size A len es) (hm10 : m ≤ 10) (hlen : len ≤ 45) (hg : goodE m es) :
    Calls Tryd.prog 11 #[.agg #[.int .i64 m, .slice A len cap]] w fun e w' => e = .returned (.int .i64 (manyN m es)) ∧ Below w.heap.size w w' := by
  have HLE : Hid (es.length = len) := Lib.hid hE.1
  have HX := Lib.hid (BoxG.start (n := m) (cap := cap) hE)
  have HG := Lib.hid hg
  have HIN := Lib.hid (InE.of_good hg)
  have HNN := Lib.hid (inN_pairs (InE.of_good hg))
  have HPL : Hid ((pairsN es).length ≤ 45) := Lib.hid (by rw [pairsN_len]; have := HLE.out; omega)
  clear hE hg
  obtain ⟨N, hN⟩ : ∃ N, N = 2 ^ m := ⟨_, rfl⟩
  have hN1 : 1 ≤ N := by rw [hN]; exact Nat.pow_pos (by decide)
  have hN2 : N ≤ 1024 := by rw [hN]; show 2 ^ m ≤ 2 ^ 10; exact Nat.pow_le_pow_right (by decide) hm10
  have HN := Lib.hid hN
  have hsh : wrap64 ((2 : Int) ^ m) = (N : Int) := by
    have : (2 : Int) ^ m = (N : Int) := by rw [hN]; simp
    rw [this]; unfold wrap64; omega
  clear hN
  have hmk := fun W => run_make_row' (P := Tryd.prog) 54 2 (.int .i64 0) 8 Tryd.underlying54 (by kernel_rfl) rfl .i64 .i64 N (by omega) (by omega) W
  go_enter Tryd.func11, Tryd.ntmps11
  go_wp2
  have HT0 : Hid (TreeTab m es N (w.heap.size + 1) 1 ((w.alloc (.cells #[.int .i64 m, .slice A len cap] 24)).alloc (.cells (madeCells #[.int .i64 0] N) 2))) := Lib.hid (by
    have h := (MapKept.heap_alloc (w.alloc (.cells #[.int .i64 m, .slice A len cap] 24)) (.cells (madeCells #[Value.int .i64 0] N) 2)).1
    rw [show (w.alloc (.cells #[.int .i64 (m : Int), .slice A len cap] 24)).heap.size = w.heap.size + 1 by simp] at h
    exact ⟨fun _ => 0, ⟨_, h, fun j hj => by simp [madeCells, hj, Nat.mod_one]⟩, fun j h1 h2 => by omega⟩)
  have HB0 : Hid (Below (w.heap.size + 1) (bx w m A len cap) ((w.alloc (.cells #[.int .i64 m, .slice A len cap] 24)).alloc (.cells (madeCells #[.int .i64 0] N) 2))) := Lib.hid ((Below.refl _ _).alloc (by simp [bx]) _)
  have HBX : Hid (∀ wr, Below (w.heap.size + 1) (bx w m A len cap) wr → BoxG w m A len cap es wr) := Lib.hid fun wr h => HX.out.next (by rw [show (bx w m A len cap).heap.size = w.heap.size + 1 by simp [bx]]; exact h)
  clear hmk hsh
  go_loopw [4] (fun j wr => ∃ s : Nat, 1 ≤ s ∧ s ≤ N ∧ j = .int .i64 s ∧ Hid (TreeTab m es N (w.heap.size + 1) s wr) ∧ Hid (Below (w.heap.size + 1) (bx w m A len cap) wr)) (fun j _ => N - (intOf j).toNat)
  case atStart => exact ⟨1, Nat.le_refl _, hN1, rfl, HT0, HB0⟩
  case round =>
    clear HT0 HB0
    obtain ⟨s, hs1, hsN, rfl, HT, HB⟩ := hrel
    have hsz : w.heap.size + 1 < wr.heap.size := HT.out.lt
    by_cases hlt : s < N
    · have HS2 : Hid (s < 2 ^ m) := Lib.hid (by rw [← HN.out]; exact hlt)
      have hu : IntKind.u32.wrap (s : Int) = (s : Int) := by rw [wrap_u32n]; omega
      have is0 : (0 : Int) ≤ (s : Int) := by omega
      have is1 : (s : Int) < (N : Int) := by omega
      have hsp := size_pos (n := m) (by omega) HS2.out hs1
      by_cases hone : sizeW s = 1
      · have HSZ : Hid ((sizeW s : Int) = 1) := Lib.hid (by omega)
        have f0 := HT.out.frozen s
        obtain ⟨x0, y0⟩ := HT.out.some hlt
        have HTN : Hid (TreeTab m es N (w.heap.size + 1) (s + 1) (wr.setCell ⟨w.heap.size + 1, s, none⟩ (.int .i64 1))) := Lib.hid (by
          have h := HT.out.next
          rw [tree_one HNN.out (by omega) HS2.out hone] at h
          exact h)
        have HBN := Lib.hid (HB.out.setCell (p := ⟨w.heap.size + 1, s, none⟩) (Nat.le_refl _) (.int .i64 1))
        clear hone hsp
        go_wp2_with (go_at_call 21; refine (size_v s 1 (by omega) HSZ.out _).mono ?_; rintro e w1 ⟨rfl, rfl⟩)
        go_roundw
        case rel => exact ⟨s + 1, by omega, by omega, by go_num, HTN, HBN⟩
        case measure => simp [intOf]; omega
      · obtain ⟨k1, hk1, hk2⟩ : ∃ k1, sizeW s = k1 + 1 ∧ 1 ≤ k1 := ⟨sizeW s - 1, by omega, by omega⟩
        have hk3 : k1 ≤ 31 := by have := sizeTo_le s 32; have e : sizeTo s 32 = sizeW s := rfl; omega
        have HSZ : Hid ((sizeW s : Int) = (k1 : Int) + 1) := Lib.hid (by omega)
        have HTE : Hid (sumN (crossT m (pairsN es) s) s / 2 / k1 = treeW m (pairsN es) s) := Lib.hid (by
          have h := tree_more HNN.out (by omega) HS2.out (show 2 ≤ sizeW s by omega)
          rwa [hk1, Nat.add_sub_cancel] at h)
        have hkf : ((k1 : Int) + 1 == 1) = false := by simp; omega
        have hk0 : ¬ k1 = 0 := by omega
        have hk00 : ((k1 : Int) == 0) = false := by simp; omega
        clear hone hsp hk1
        go_wp2_with (go_at_call 21; refine (size_v s ((k1 : Int) + 1) (by omega) HSZ.out _).mono ?_; rintro e wo ⟨rfl, rfl⟩)
        go_loopw [6, 7] (fun v j wq => ∃ a : Nat, 1 ≤ a ∧ a ≤ s ∧ j = .int .i64 a ∧ v = .int .i64 (sumN (crossT m (pairsN es) s) a : Nat) ∧ Hid (Below wo.heap.size wo wq)) (fun _ j _ => s - (intOf j).toNat)
        case atStart => exact ⟨1, Nat.le_refl _, hs1, rfl, by simp [sumN, crossT], Lib.hid (Below.refl _ _)⟩
        case round =>
          obtain ⟨a, ha1, has, rfl, rfl, HBq⟩ := hrel
          have HTq := Lib.hid (HT.out.of_block (HBq.out.block _ hsz))
          have HXq := Lib.hid (HBX.out _ (HB.out.trans (HBq.out.mono (by omega))))
          have hszq := HBq.out.size
          have hsum := crossT_sum_le (s := s) HNN.out HPL.out a (by have := HS2.out; omega)
          by_cases hlt2 : a < s
          · have hand := and_i64 a s (by omega) (by omega)
            have HSU : Hid (sumN (crossT m (pairsN es) s) (a + 1) = sumN (crossT m (pairsN es) s) a + crossT m (pairsN es) s a) := Lib.hid rfl
            by_cases hsub : a &&& s = a
            · rw [hsub] at hand
              obtain ⟨q, hq⟩ : ∃ q, q = s - a := ⟨_, rfl⟩
              have hqd : (s : Int) - (a : Int) = (q : Int) := by omega
              have HZ : Hid (crossTo a q es es.length = crossN (bitsS s) a (pairsN es)) := Lib.hid (by rw [hq]; exact crossTo_all hsub)
              have HCY : Hid (crossT m (pairsN es) s a = treeW m (pairsN es) a * treeW m (pairsN es) q * crossN (bitsS s) a (pairsN es)) := Lib.hid (by rw [hq]; exact crossT_yes ha1 hsub)
              have hXY := treeT_le (s := s) HNN.out HPL.out (show a < 2 ^ m by have := HS2.out; omega) hsub
              rw [← hq] at hXY
              have hZ := crossN_le (bitsS s) a (pairsN es)
              have hPL := HPL.out
              have cT := HTq.out.cell ha1 hlt2 hsN
              have cQ := HTq.out.cell (j := q) (by omega) (by omega) hsN
              have c0 := HXq.out.c0
              have c1 := HXq.out.c1
              have HEq := Lib.hid HXq.out.edges
              have hwl := HXq.out.lt
              generalize treeW m (pairsN es) a = X at *
              generalize treeW m (pairsN es) q = Y at *
              generalize crossN (bitsS s) a (pairsN es) = Z at *
              generalize hsm : sumN (crossT m (pairsN es) s) a = S at *
              clear hsm
              obtain ⟨P, hP⟩ : ∃ P, P = X * Y := ⟨_, rfl⟩
              rw [← hP] at hXY
              have HCP : Hid (crossT m (pairsN es) s a = P * Z) := Lib.hid (by rw [HCY.out, hP])
              have eP : (X : Int) * (Y : Int) = (P : Int) := by rw [hP]; simp
              obtain ⟨R, hR⟩ : ∃ R, R = P * Z := ⟨_, rfl⟩
              have hR2 : R ≤ 1583296743997440 := by rw [hR]; exact Nat.le_trans (Nat.mul_le_mul hXY (show Z ≤ 45 by omega)) (by decide)
              have eR : (P : Int) * (Z : Int) = (R : Int) := by rw [hR]; simp
              have HN2 : Hid (sumN (crossT m (pairsN es) s) (a + 1) = S + R) := Lib.hid (by rw [HSU.out, HCP.out, hR])
              have w1 : IntKind.i64.wrap (P : Int) = (P : Int) := IntWalk.i64_in _ (by omega)
              have w2 : IntKind.i64.wrap (R : Int) = (R : Int) := IntWalk.i64_in _ (by omega)
              have w3 : IntKind.i64.wrap ((S : Int) + (R : Int)) = (S : Int) + (R : Int) := IntWalk.i64_in _ (by omega)
              have w4 : IntKind.i64.wrap (q : Int) = (q : Int) := IntWalk.i64_in _ (by omega)
              have w5 : IntKind.u32.wrap (a : Int) = (a : Int) := by rw [wrap_u32n]; omega
              have w6 : IntKind.u32.wrap (q : Int) = (q : Int) := by rw [wrap_u32n]; omega
              have ia0 : (0 : Int) ≤ (a : Int) := by omega
              have ia1 : (a : Int) < (N : Int) := by omega
              have iq0 : (0 : Int) ≤ (q : Int) := by omega
              have iq1 : (q : Int) < (N : Int) := by omega
              have hqa : q < 4294967296 := by omega
              have haa : a < 4294967296 := by omega
              clear hq hP hR HSU HCY HCP hXY hZ hsub HXq HTq
              go_wp2
              go_region_held3 (fun W => W.cell? ⟨w.heap.size, 0, none⟩ = some (.int .i64 m) ∧ W.cell? ⟨w.heap.size, 1, none⟩ = some (.slice A len cap) ∧ W.cell? ⟨w.heap.size + 1, a, none⟩ = some (.int .i64 X) ∧ W.cell? ⟨w.heap.size + 1, q, none⟩ = some (.int .i64 Y))
                (first | exact ⟨c0, c1, cT, cQ⟩ | exact ⟨q0, q1, q2, q3⟩ | go_keep)
                (first
                  | (go_at_call 27; refine (between_v m a q A len cap es Z _ (by exact HEq.out) hm10 hlen HIN.out haa hqa HZ.out).mono ?_; rintro e w4 ⟨rfl, hb4⟩; have q0 := (hb4.cell (p := ⟨w.heap.size, 0, none⟩) (by exact hwl)).trans c0; have q1 := (hb4.cell (p := ⟨w.heap.size, 1, none⟩) (by exact hwl)).trans c1; have q2 := (hb4.cell (p := ⟨w.heap.size + 1, a, none⟩) (by show w.heap.size + 1 < _; simp; omega)).trans cT; have q3 := (hb4.cell (p := ⟨w.heap.size + 1, q, none⟩) (by show w.heap.size + 1 < _; simp; omega)).trans cQ; have HBN : Hid (Below wo.heap.size wo w4) := Lib.hid (by first | exact HBq.out.trans (hb4.mono (by first | omega | (simp; omega))) | exact HBq.out.drew.trans (hb4.mono (by simp; omega))); clear hb4))
              all_goals
                clear q0 q1 q2 q3 c0 c1 cT cQ HEq
                go_wp2
                go_roundw
                case rel => exact ⟨a + 1, by omega, by omega, by go_num, (by rw [HN2.out]; go_num), by first | exact HBN | exact Lib.hid HBN.out.drew⟩
                case measure => simp [intOf]; omega
            · have HN2 : Hid (sumN (crossT m (pairsN es) s) (a + 1) = sumN (crossT m (pairsN es) s) a) := Lib.hid (by rw [HSU.out, crossT_no hsub]; rfl)
              generalize a &&& s = c at *
              generalize sumN (crossT m (pairsN es) s) a = S at *
              have hc1 : ((c : Int) == (a : Int)) = false := by simp; omega
              have hc2 : (c == a) = false := by simp; omega
              go_wp2
              go_roundw
              case rel => exact ⟨a + 1, by omega, by omega, by go_num, (by rw [HN2.out]), HBq⟩
              case measure => simp [intOf]; omega
          · obtain rfl : a = s := by omega
            have f0 := HTq.out.frozen a
            obtain ⟨x0, y0⟩ := HTq.out.some hlt
            have HBq2 := Lib.hid (HB.out.trans (HBq.out.mono (by omega)))
            have HTN : Hid (TreeTab m es N (w.heap.size + 1) (a + 1) (wr.setCell ⟨w.heap.size + 1, a, none⟩ (.int .i64 (treeW m (pairsN es) a : Nat)))) := Lib.hid HTq.out.next
            have HBN := Lib.hid (HBq2.out.setCell (p := ⟨w.heap.size + 1, a, none⟩) (Nat.le_refl _) (.int .i64 (treeW m (pairsN es) a : Nat)))
            have hTl := treeW_le m (pairsN es) a
            have hT2 : (2 : Nat) ^ (pairsN es).length ≤ 35184372088832 := Nat.pow_le_pow_right (by decide) HPL.out
            generalize treeW m (pairsN es) a = T at *
            generalize sumN (crossT m (pairsN es) a) a = S at *
            generalize (2 : Nat) ^ (pairsN es).length = V at hTl hT2
            obtain ⟨Y, hY⟩ : ∃ Y, Y = S / 2 := ⟨_, rfl⟩
            have e1 : (S : Int).tdiv 2 = (Y : Int) := by rw [hY]; rfl
            have e2 : (Y : Int).tdiv (k1 : Int) = (T : Int) := by rw [← HTE.out, ← hY]; rfl
            have v1 : IntKind.i64.wrap (Y : Int) = (Y : Int) := IntWalk.i64_in _ (by omega)
            have v2 : IntKind.i64.wrap (T : Int) = (T : Int) := IntWalk.i64_in _ (by omega)
            have v3 : IntKind.i64.wrap (k1 : Int) = (k1 : Int) := IntWalk.i64_in _ (by omega)
            clear HTE hY
            go_wp2
            go_roundw
            case rel => exact ⟨a + 1, by omega, by omega, by go_num, HTN, HBN⟩
            case measure => simp [intOf]; omega
    · obtain rfl : s = N := by omega
      have HXr := Lib.hid (HBX.out _ HB.out)
      have c0 := HXr.out.c0
      have c1 := HXr.out.c1
      have HMP := Lib.hid (many_prod hm10 HG.out)
      have HPB : Hid (∀ k, k ≤ m → prodK m (pairsN es) (partN m es) k ≤ 35184372088832) := Lib.hid fun k hk => prod_le hm10 HG.out (by have := HLE.out; omega) hk
      go_wp2_with (go_at_call 28; refine (refParts_any m A len cap es _ (by exact HXr.out.edges) hm10 hlen HG.out).mono ?_; rintro e w2 ⟨⟨vp, rfl, hop⟩, hb2⟩; have HX2 := Lib.hid (HXr.out.next hb2); have HT2 := Lib.hid (HT.out.of_block (hb2.block _ hsz)); obtain ⟨Ap, capp, hv⟩ := own_form hop; subst hv; have HPI : Hid (IntsAt w2 w2.heap.size Ap m (partsL m (nbL m es))) := Lib.hid (IntsAt.of_own hop (Nat.le_refl _)); have d0 := HX2.out.c0; have d1 := HX2.out.c1; clear hop hb2)
      clear c0 c1 HXr HT HB
      go_loop [8, 10] (fun p j => ∃ i : Nat, i ≤ m ∧ j = .int .i64 i ∧ p = .int .i64 (prodK m (pairsN es) (partN m es) i : Nat)) (fun _ j => m - (intOf j).toNat)
      case atStart => exact ⟨0, Nat.zero_le _, rfl, rfl⟩
      case round =>
        obtain ⟨i, hi, rfl, rfl⟩ := hrel
        by_cases him : i < m
        · have HPS : Hid (prodK m (pairsN es) (partN m es) (i + 1) = prodK m (pairsN es) (partN m es) i * (if 0 < wordS (partS (partN m es) i) m then treeW m (pairsN es) (wordS (partS (partN m es) i) m) else 1)) := Lib.hid rfl
          have hpb := HPB.out (i + 1) (by omega)
          generalize prodK m (pairsN es) (partN m es) i = pd at *
          go_wp2
          go_loop [11, 12] (fun v j => ∃ k : Nat, k ≤ m ∧ j = .int .i64 k ∧ v = .int .i64 (wordS (partS (partN m es) i) k : Nat)) (fun _ j => m - (intOf j).toNat)
          case atStart => exact ⟨0, Nat.zero_le _, rfl, rfl⟩
          case round =>
            obtain ⟨k, hk, rfl, rfl⟩ := hrel
            have hwl := wordS_lt (partS (partN m es) i) k
            have hk10 : (2 : Nat) ^ k ≤ 1024 := by show 2 ^ k ≤ 2 ^ 10; exact Nat.pow_le_pow_right (by decide) (by omega)
            by_cases hkm : k < m
            · obtain ⟨b, off, y, rfl, hb, hy, hc⟩ := HPI.out.at_ hkm
              obtain rfl : (partN m es k : Int) = y := by
                have h := @partsL_get m es k hkm
                rw [hy] at h
                injection h with h
                exact h.symm
              have ik0 : (0 : Int) ≤ (k : Int) := by omega
              have ik1 : (k : Int) < (m : Int) := by omega
              have HWS : Hid (wordS (partS (partN m es) i) (k + 1) = wordS (partS (partN m es) i) k + (if partS (partN m es) i k = true then 2 ^ k else 0)) := Lib.hid rfl
              generalize wordS (partS (partN m es) i) k = S at *
              clear hy hb
              by_cases hpi : partN m es k = i
              · have HN2 : Hid (wordS (partS (partN m es) i) (k + 1) = S + 2 ^ k) := Lib.hid (by rw [HWS.out, if_pos (by simp [partS, hpi])])
                rw [hpi] at hc
                obtain ⟨Q, hQ⟩ : ∃ Q, Q = 2 ^ k := ⟨_, rfl⟩
                have hsh : wrap64 ((2 : Int) ^ k) = (Q : Int) := by
                  have : (2 : Int) ^ k = (Q : Int) := by rw [hQ]; simp
                  rw [this]; unfold wrap64; omega
                rw [← hQ] at hk10 hwl HN2
                have v1 := wrap_small (show S ≤ 1024 from Nat.le_trans (Nat.le_of_lt hwl) hk10) hk10
                clear hQ hpi HWS
                go_wp2
                go_round
                case rel => exact ⟨k + 1, by omega, by go_num, (by rw [HN2.out]; first | go_num | (congr 1; rw [hsh]; go_num))⟩
                case measure => simp [intOf]; omega
              · have HN2 : Hid (wordS (partS (partN m es) i) (k + 1) = S) := Lib.hid (by rw [HWS.out, if_neg (by simp [partS, hpi])]; rfl)
                generalize partN m es k = p at hc hpi
                have hq1 : ((p : Int) == (i : Int)) = false := by simp; omega
                have hq2 : (p == i) = false := by simpa using hpi
                clear HWS
                go_wp2
                go_round
                case rel => exact ⟨k + 1, by omega, by go_num, (by rw [HN2.out])⟩
                case measure => simp [intOf]; omega
            · obtain rfl : k = m := by omega
              have HWN : Hid (wordS (partS (partN k es) i) k < s) := Lib.hid (by rw [HN.out]; exact hwl)
              generalize wordS (partS (partN k es) i) k = W at *
              have hW2 := HWN.out
              by_cases hw0 : 0 < W
              · have cT := HT2.out.cell (j := W) hw0 hW2 (Nat.le_refl _)
                rw [HPS.out, if_pos hw0] at hpb
                have HN2 : Hid (prodK k (pairsN es) (partN k es) (i + 1) = pd * treeW k (pairsN es) W) := Lib.hid (by rw [HPS.out, if_pos hw0])
                generalize treeW k (pairsN es) W = T at *
                obtain ⟨R, hR⟩ : ∃ R, R = pd * T := ⟨_, rfl⟩
                have eR : (pd : Int) * (T : Int) = (R : Int) := by rw [hR]; simp
                rw [← hR] at hpb HN2
                have v1 : IntKind.i64.wrap (R : Int) = (R : Int) := IntWalk.i64_in _ (by omega)
                have iw0 : (0 : Int) ≤ (W : Int) := by omega
                have iw1 : (W : Int) < (s : Int) := by omega
                have iw2 : (0 : Int) < (W : Int) := by omega
                clear hR HPS hwl
                go_wp2
                go_round
                case rel => exact ⟨i + 1, by omega, by go_num, (by rw [HN2.out])⟩
                case measure => simp [intOf]; omega
              · obtain rfl : W = 0 := by omega
                have HN2 : Hid (prodK k (pairsN es) (partN k es) (i + 1) = pd) := Lib.hid (by rw [HPS.out, if_neg hw0, Nat.mul_one])
                clear HPS hwl hw0
                go_wp2
                go_round
                case rel => exact ⟨i + 1, by omega, by go_num, (by rw [HN2.out])⟩
                case measure => simp [intOf]; omega
        · obtain rfl : i = m := by omega
          go_wp2
          go_ret
          exact ⟨by rw [HMP.out]; rfl, HX2.out.below⟩
end Go.Proofs.YthfgbgmkiggjmacDoor
