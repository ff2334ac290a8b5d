/- How many trees a set has, by the edge that is left out; the forests of all are the product. Plain facts. -/
import Derived.Test.YthfgbgmkiggjmacDoorTrs
namespace Go.Proofs.YthfgbgmkiggjmacDoor

/-- How many edges lead from a part of a set to the rest of it. -/
def crossN (S : NS) (a : Nat) (E : NE) : Nat := E.countP fun e => (bitsS a e.1 && lessS S (bitsS a) e.2) || (bitsS a e.2 && lessS S (bitsS a) e.1)
theorem crossN_cons (S : NS) (a : Nat) (e : Nat × Nat) (E : NE) : crossN S a (e :: E) = crossN S a E + if ((bitsS a e.1 && lessS S (bitsS a) e.2) || (bitsS a e.2 && lessS S (bitsS a) e.1)) = true then 1 else 0 := by
  unfold crossN; rw [List.countP_cons]
def Idem (n : Nat) (lab : Nat → Nat) : Prop := ∀ i, i < n → lab i < n ∧ lab (lab i) = lab i
theorem Idem.mrg {n : Nat} {lab : Nat → Nat} (h : Idem n lab) {c d : Nat} (hc : c < n) (_hd : d < n) (_hcd : lab c ≠ lab d) : Idem n (mrg lab (lab c) (lab d)) := fun i hi => by
  have h1 := h i hi
  have h2 := h c hc
  unfold YthfgbgmkiggjmacDoor.mrg
  split
  · exact ⟨h2.1, by rw [h2.2, if_neg]; assumption⟩
  · refine ⟨h1.1, ?_⟩
    rw [h1.2, if_neg]
    assumption
/-- How many classes a set has. -/
def clsN (n : Nat) (S : NS) (lab : Nat → Nat) : Nat := (List.range n).countP fun i => S i && (lab i == i)
theorem countP_erase {p : Nat → Bool} {x : Nat} : ∀ l : List Nat, l.Nodup → x ∈ l → p x = true → l.countP (fun i => p i && !(i == x)) + 1 = l.countP p
  | [], _, h, _ => by simp at h
  | y :: l, hn, hx, hp => by
    obtain ⟨hy, hn'⟩ := List.nodup_cons.1 hn
    simp only [List.countP_cons]
    rcases List.mem_cons.1 hx with rfl | hx
    · rw [if_neg (by simp), if_pos hp]
      have : l.countP (fun i => p i && !(i == x)) = l.countP p := List.countP_congr fun i hi => by
        have : i ≠ x := fun e => hy (e ▸ hi)
        simp [this]
      omega
    · have ih := countP_erase l hn' hx hp
      have hne : y ≠ x := fun e => hy (e ▸ hx)
      by_cases hpy : p y = true
      · rw [if_pos (by simp [hpy, hne]), if_pos hpy]; omega
      · rw [if_neg (by simp [hpy]), if_neg hpy]; omega
theorem clsN_merge {n : Nat} {S : NS} {lab : Nat → Nat} (h : Idem n lab) (hcl : Closed n lab S) {c d : Nat} (hc : c < n) (hd : d < n) (_hsc : S c = true) (hsd : S d = true) (hcd : lab c ≠ lab d) : clsN n S (mrg lab (lab c) (lab d)) + 1 = clsN n S lab := by
  unfold clsN
  have hy := h d hd
  have hsy : S (lab d) = true := hcl d (lab d) hd hy.1 hy.2.symm hsd
  rw [← countP_erase (p := fun i => S i && (lab i == i)) (x := lab d) (List.range n) List.nodup_range (List.mem_range.2 hy.1) (by simp [hsy, hy.2])]
  congr 1
  apply List.countP_congr
  intro i hi
  have hi := List.mem_range.1 hi
  have h1 := h i hi
  have hcc := (h c hc).2
  unfold mrg
  by_cases hl : lab i = lab d
  · rw [if_pos hl]
    simp only [Bool.and_eq_true, beq_iff_eq, Bool.not_eq_true', beq_eq_false_iff_ne]
    constructor
    · rintro ⟨_, h3⟩
      rw [← h3, hcc] at hl
      exact absurd hl hcd
    · rintro ⟨⟨_, h3⟩, h4⟩
      exact absurd (h3.symm.trans hl) h4
  · rw [if_neg hl]
    simp only [Bool.and_eq_true, beq_iff_eq, Bool.not_eq_true', beq_eq_false_iff_ne]
    constructor
    · rintro ⟨h2, h3⟩
      exact ⟨⟨h2, h3⟩, fun e => hl (by rw [e]; exact hy.2)⟩
    · rintro ⟨h2, _⟩
      exact h2
theorem Closed.mrg {n : Nat} {S : NS} {lab : Nat → Nat} (h : Closed n lab S) {c d : Nat} (hc : c < n) (hd : d < n) (hsc : S c = true) (hsd : S d = true) : Closed n (mrg lab (lab c) (lab d)) S := fun x y hx hy hl hs => by
  rw [mrg_eq] at hl
  rcases hl with hl | ⟨_, hl | hl⟩
  · exact h x y hx hy hl hs
  · exact h c y hc hy hl.symm hsc
  · exact h d y hd hy hl.symm hsd
noncomputable def sumCross (n : Nat) (S : NS) (E : NE) (F : NE) (lab : Nat → Nat) : Nat :=
  sumN (fun a => @ite _ (SubW n S a) (Classical.propDecidable _) (trees n (bitsS a) E lab * trees n (lessS S (bitsS a)) E lab * crossN S a F) 0) (2 ^ n)
theorem mrg_comm (lab : Nat → Nat) (c d i j : Nat) : mrg lab (lab c) (lab d) i = mrg lab (lab c) (lab d) j ↔ mrg lab (lab d) (lab c) i = mrg lab (lab d) (lab c) j := by
  rw [mrg_eq, mrg_eq]; omega
theorem sumCross_more {n : Nat} {S : NS} {E : NE} {lab : Nat → Nat} {e : Nat × Nat} (hin : InN n (e :: E)) (h : S e.1 = true ∧ S e.2 = true ∧ lab e.1 ≠ lab e.2) :
    sumCross n S E (e :: E) lab = sumCross n S E E lab + 2 * trees n S E (mrg lab (lab e.1) (lab e.2)) := by
  have hin' : InN n E := fun d hd => hin d (List.mem_cons_of_mem _ hd)
  obtain ⟨h1, h2⟩ := hin e (List.mem_cons_self ..)
  have a1 := two_trees h1 h2 h.1 h.2.1 E lab hin' h.2.2
  have a2 := two_trees h2 h1 h.2.1 h.1 E lab hin' (Ne.symm h.2.2)
  rw [trees_congr E (mrg lab (lab e.2) (lab e.1)) (mrg lab (lab e.1) (lab e.2)) hin' (fun i j _ _ _ => mrg_comm lab e.2 e.1 i j)] at a2
  have key : sumCross n S E (e :: E) lab = sumCross n S E E lab + (sumTwo n S E lab (fun a => a.testBit e.1 = true ∧ a.testBit e.2 = false) + sumTwo n S E lab (fun a => a.testBit e.2 = true ∧ a.testBit e.1 = false)) := by
    unfold sumCross sumTwo
    rw [← sumN_add, ← sumN_add]
    refine sumN_congr _ (fun a _ => ?_)
    by_cases hs : SubW n S a
    · simp only [if_pos hs]
      rw [crossN_cons, Nat.mul_add]
      congr 1
      generalize trees n (bitsS a) E lab * trees n (lessS S (bitsS a)) E lab = t
      have hl1 : lessS S (bitsS a) e.1 = !a.testBit e.1 := by unfold lessS bitsS; rw [h.1]; rfl
      have hl2 : lessS S (bitsS a) e.2 = !a.testBit e.2 := by unfold lessS bitsS; rw [h.2.1]; rfl
      rw [hl1, hl2]
      have hb1 : bitsS a e.1 = a.testBit e.1 := rfl
      have hb2 : bitsS a e.2 = a.testBit e.2 := rfl
      rw [hb1, hb2]
      rcases Bool.eq_false_or_eq_true (a.testBit e.1) with q1 | q1 <;> rcases Bool.eq_false_or_eq_true (a.testBit e.2) with q2 | q2 <;> simp [q1, q2, hs]
    · simp only [if_neg hs]
      rw [if_neg (fun h => hs h.1), if_neg (fun h => hs h.1)]
  rw [key, ← a1, ← a2]
  omega
/-- Twice the trees, as often as there are classes but one: two trees, and an edge between them. -/
theorem trees_split {n : Nat} {S : NS} : ∀ (E : NE) (lab : Nat → Nat), InN n E → Idem n lab → Closed n lab S → sumCross n S E E lab + 2 * trees n S E lab = 2 * clsN n S lab * trees n S E lab
  | [], lab, _, hid, hcl => by
    have h0 : sumCross n S [] [] lab = 0 := sumN_zero _ (fun a _ => by
      by_cases h : SubW n S a
      · rw [if_pos h]; simp [crossN]
      · rw [if_neg h])
    rw [h0]
    unfold trees
    by_cases hc : ClassOf n lab S
    · rw [if_pos hc]
      obtain ⟨x, hx, hsx, ha⟩ := hc
      have : clsN n S lab = 1 := by
        unfold clsN
        have hx2 := hid x hx
        have hs2 := hcl x (lab x) hx hx2.1 hx2.2.symm hsx
        rw [← countP_erase (p := fun i => S i && (lab i == i)) (x := lab x) (List.range n) List.nodup_range (List.mem_range.2 hx2.1) (by simp [hs2, hx2.2])]
        have : (List.range n).countP (fun i => (S i && (lab i == i)) && !(i == lab x)) = 0 := by
          rw [List.countP_eq_zero]
          intro i hi
          have hi := List.mem_range.1 hi
          simp only [Bool.and_eq_true, beq_iff_eq, Bool.not_eq_true', beq_eq_false_iff_ne, not_and, Decidable.not_not]
          rintro ⟨h1, h2⟩
          have := (ha i hi).1 h1
          omega
        omega
      rw [this]
    · rw [if_neg hc]; simp
  | e :: E, lab, hin, hid, hcl => by
    have hin' : InN n E := fun d hd => hin d (List.mem_cons_of_mem _ hd)
    obtain ⟨h1, h2⟩ := hin e (List.mem_cons_self ..)
    have ih := trees_split E lab hin' hid hcl
    by_cases hc : S e.1 = true ∧ S e.2 = true ∧ lab e.1 ≠ lab e.2
    · have ih2 := trees_split E (mrg lab (lab e.1) (lab e.2)) hin' (hid.mrg h1 h2 hc.2.2) (hcl.mrg h1 h2 hc.1 hc.2.1)
      have hcls := clsN_merge hid hcl h1 h2 hc.1 hc.2.1 hc.2.2
      have hmore := sumCross_more hin hc
      have key : sumCross n S (e :: E) (e :: E) lab = sumCross n S E (e :: E) lab + sumCross n S E E (mrg lab (lab e.1) (lab e.2)) := by
        unfold sumCross
        rw [← sumN_add]
        refine sumN_congr _ (fun a _ => ?_)
        by_cases hs : SubW n S a
        · simp only [if_pos hs]
          rw [two_cons hin hs, if_pos hc, Nat.add_mul]
          congr 1
          rw [crossN_cons]
          have hL : mrg lab (lab e.1) (lab e.2) e.1 = mrg lab (lab e.1) (lab e.2) e.2 := by rw [mrg_eq]; omega
          cases hb1 : bitsS a e.1 <;> cases hb2 : bitsS a e.2
          · simp
          · rw [trees_open (S := bitsS a) E _ h2 h1 hL.symm hb2 hb1]; simp
          · rw [trees_open (S := bitsS a) E _ h1 h2 hL hb1 hb2]; simp
          · have hl1 : lessS S (bitsS a) e.1 = false := by unfold lessS; rw [hb1]; simp
            have hl2 : lessS S (bitsS a) e.2 = false := by unfold lessS; rw [hb2]; simp
            rw [hl1, hl2]; simp
        · simp only [if_neg hs]
      simp only [trees]
      rw [if_pos hc, key, hmore, Nat.mul_add, Nat.mul_add]
      rw [← hcls] at ih ⊢
      generalize clsN n S (mrg lab (lab e.1) (lab e.2)) = k at *
      generalize trees n S E lab = t at *
      generalize trees n S E (mrg lab (lab e.1) (lab e.2)) = t2 at *
      have e1 : 2 * (k + 1) * t2 = 2 * k * t2 + 2 * t2 := by rw [Nat.mul_add, Nat.add_mul]
      omega
    · have key : sumCross n S (e :: E) (e :: E) lab = sumCross n S E E lab := by
        unfold sumCross
        refine sumN_congr _ (fun a _ => ?_)
        by_cases hs : SubW n S a
        · simp only [if_pos hs]
          rw [two_cons hin hs, if_neg hc, Nat.add_zero, crossN_cons]
          cases hb : ((bitsS a e.1 && lessS S (bitsS a) e.2) || (bitsS a e.2 && lessS S (bitsS a) e.1)) with
          | false => simp
          | true =>
            have h3 : (bitsS a e.1 = true ∧ S e.1 = true ∧ bitsS a e.2 = false ∧ S e.2 = true) ∨ (bitsS a e.2 = true ∧ S e.2 = true ∧ bitsS a e.1 = false ∧ S e.1 = true) := by
              have k1 := hs e.1 h1
              have k2 := hs e.2 h2
              have e1 : bitsS a e.1 = a.testBit e.1 := rfl
              have e2 : bitsS a e.2 = a.testBit e.2 := rfl
              have l1 : lessS S (bitsS a) e.1 = (S e.1 && !a.testBit e.1) := rfl
              have l2 : lessS S (bitsS a) e.2 = (S e.2 && !a.testBit e.2) := rfl
              rw [e1, e2, l1, l2] at hb
              rw [e1, e2]
              rcases Bool.eq_false_or_eq_true (a.testBit e.1) with q1 | q1 <;> rcases Bool.eq_false_or_eq_true (a.testBit e.2) with q2 | q2 <;> simp_all
            have hl : lab e.1 = lab e.2 := Classical.byContradiction fun h => hc ⟨by rcases h3 with h3 | h3; exact h3.2.1; exact h3.2.2.2, by rcases h3 with h3 | h3; exact h3.2.2.2; exact h3.2.1, h⟩
            rcases h3 with h3 | h3
            · rw [trees_open (S := bitsS a) E _ h1 h2 hl h3.1 h3.2.2.1]; simp
            · rw [trees_open (S := bitsS a) E _ h2 h1 hl.symm h3.1 h3.2.2.1]; simp
        · simp only [if_neg hs]
      simp only [trees]
      rw [if_neg hc, key, Nat.add_zero]
      exact ih
end Go.Proofs.YthfgbgmkiggjmacDoor
