/- GALLAI, RAMSEY, TURAN, CARO and WEI for a graph's words; colours and crowds. Plain facts, of no program. -/
import Derived.Test.YthnchnamdoobeaaCrowdW
import Derived.Test.YthnchnamdoobeaaDegEq
import Derived.Test.YthnchnamdoobeaaLooseP
import Derived.Test.YthnchnamdoobeaaColourP
namespace Go.Proofs.Ythnchnamdoobeaa

section
variable {m b a c k : Nat} {es : List E3}
theorem adj_irr (hg : goodE m es) (i : Nat) : adjE es i i = false := by
  cases ha : adjE es i i with
  | false => rfl
  | true => exact absurd rfl (adjE_lt hg ha).2.2
def belowB (m : Nat) : BS := fun i => decide (i < m)
theorem below_size (m : Nat) : sizeP (belowB m) m = m := by
  rw [sizeP_congr (T := fun i => !((fun _ => false) i)) m fun i hi => by simp [belowB, hi]]
  have h := sizeP_not (fun _ => false) m
  rw [show sizeP (fun _ => false) m = 0 from sizeP_none fun i _ => rfl, Nat.add_zero] at h
  exact h
theorem deg_below (hg : goodE m es) (v : Nat) : degS (adjE es) m (belowB m) v = degN es v := by
  rw [← deg_eq hg]
  exact sizeP_congr m fun j hj => by simp [belowB, hj]
/-- A set of one. -/
theorem one_size {i : Nat} (hi : i < m) : 1 ≤ sizeP (fun j => decide (j = i)) m := by
  have h := sizeP_del (A := fun j => decide (j = i)) (i := i) (by simp) hi
  omega
theorem most_one (hm : 0 < m) (hm10 : m ≤ 32) (hg : goodE m es) (ap : Bool) (h : MostW (CrowdW (adjE es) ap m) sizeW (2 ^ m) b) : 1 ≤ sizeW b := by
  have h0 := one_size hm
  cases ap with
  | false => exact Nat.le_trans h0 (h.clq_le (K := fun j => decide (j = 0)) (adjE_symm es) hm10 (fun i hi => by have := of_decide_eq_true hi; omega) fun i j hi hj hne => by
      have := of_decide_eq_true hi
      have := of_decide_eq_true hj
      omega)
  | true => exact Nat.le_trans h0 (h.lse_le (K := fun j => decide (j = 0)) (adjE_symm es) (adj_irr hg) hm10 (fun i hi => by have := of_decide_eq_true hi; omega) fun i j hi hj => by
      have e1 := of_decide_eq_true hi
      have e2 := of_decide_eq_true hj
      rw [e1, e2]
      exact adj_irr hg 0)
theorem turan_w (hm10 : m ≤ 32) (hg : goodE m es) (h : MostW (CrowdW (adjE es) false m) sizeW (2 ^ m) b) : 2 * es.length * sizeW b ≤ (sizeW b - 1) * m * m := by
  have h1 := turan (n := m) (adjE_symm es) (adj_irr hg) (sizeW b) (belowB m) (fun i hi => of_decide_eq_true hi) fun K hK hc => h.clq_le (adjE_symm es) hm10 (fun i hi => of_decide_eq_true (hK i hi)) hc
  rw [below_size] at h1
  have h2 : sumA (belowB m) (degS (adjE es) m (belowB m)) m = 2 * es.length := by
    have h3 := sum_degN hg es.length (Nat.le_refl _)
    rw [List.take_length] at h3
    rw [← h3]
    exact sumTo_congr m fun i hi => by
      rw [if_pos (show belowB m i = true from decide_eq_true hi), deg_below hg]
  rw [h2] at h1
  rw [Nat.mul_assoc (sizeW b - 1)]
  exact h1
theorem wei_w (hm10 : m ≤ 32) (hg : goodE m es) (h : MostW (CrowdW (adjE es) true m) sizeW (2 ^ m) b) : sumTo (fun i => 2520 / (degN es i + 1)) m ≤ 2520 * sizeW b := by
  obtain ⟨I, h1, h2, h3⟩ := wei (n := m) (adjE_symm es) (adj_irr hg) 2520 m (belowB m) (by rw [below_size]; exact Nat.le_refl _) fun i hi => of_decide_eq_true hi
  have h4 := h.lse_le (K := I) (adjE_symm es) (adj_irr hg) hm10 (fun i hi => of_decide_eq_true (h1 i hi)) h2
  have h5 : sumA (belowB m) (fun i => 2520 / (degS (adjE es) m (belowB m) i + 1)) m = sumTo (fun i => 2520 / (degN es i + 1)) m := sumTo_congr m fun i hi => by
    rw [if_pos (show belowB m i = true from decide_eq_true hi)]
    show 2520 / (degS (adjE es) m (belowB m) i + 1) = _
    rw [deg_below hg]
  rw [h5] at h3
  exact Nat.le_trans h3 (Nat.mul_le_mul_left _ h4)
def farB (es : List E3) (i j : Nat) : Bool := !adjE es i j && !decide (i = j)
theorem far_or (es : List E3) (i j : Nat) (h : i ≠ j) : adjE es i j = true ∨ farB es i j = true := by
  unfold farB
  cases adjE es i j <;> simp [h]
theorem far_symm (es : List E3) (i j : Nat) : farB es i j = farB es j i := by
  unfold farB
  rw [adjE_symm es i j]
  congr 2
  exact decide_eq_decide.2 ⟨fun h => h.symm, fun h => h.symm⟩
theorem far_lse (hg : goodE m es) {T : BS} (h : ClqB (farB es) T) : LseB (adjE es) T := fun i j hi hj => by
  by_cases e : i = j
  · subst e; exact adj_irr hg i
  · have h1 := h i j hi hj e
    unfold farB at h1
    rw [Bool.and_eq_true, Bool.not_eq_true'] at h1
    exact h1.1
theorem ramsey_w (hm10 : m ≤ 32) (hg : goodE m es) (hc : MostW (CrowdW (adjE es) false m) sizeW (2 ^ m) c) (ha : MostW (CrowdW (adjE es) true m) sizeW (2 ^ m) a) :
    (m < 6 ∨ 3 ≤ sizeW c ∨ 3 ≤ sizeW a) ∧ (m < 9 ∨ 3 ≤ sizeW c ∨ 4 ≤ sizeW a) ∧ (m < 9 ∨ 4 ≤ sizeW c ∨ 3 ≤ sizeW a) := by
  have one : ∀ r, Has (adjE es) m (belowB m) r → r ≤ sizeW c := fun r ⟨T, h1, h2, h3⟩ => Nat.le_trans h3 (hc.clq_le (adjE_symm es) hm10 (fun i hi => of_decide_eq_true (h1 i hi)) h2)
  have two : ∀ r, Has (farB es) m (belowB m) r → r ≤ sizeW a := fun r ⟨T, h1, h2, h3⟩ => Nat.le_trans h3 (ha.lse_le (adjE_symm es) (adj_irr hg) hm10 (fun i hi => of_decide_eq_true (h1 i hi)) (far_lse hg h2))
  have hA : ∀ i, belowB m i = true → i < m := fun i hi => of_decide_eq_true hi
  refine ⟨?_, ?_, ?_⟩
  · rcases Nat.lt_or_ge m 6 with h | h
    · exact .inl h
    · exact .inr ((ramsey33 (far_or es) (adjE_symm es) (far_symm es) hA (by rw [below_size]; exact h)).imp (one 3) (two 3))
  · rcases Nat.lt_or_ge m 9 with h | h
    · exact .inl h
    · exact .inr ((ramsey34 (far_or es) (adjE_symm es) (far_symm es) (adj_irr hg) hA (by rw [below_size]; exact h)).imp (one 3) (two 4))
  · rcases Nat.lt_or_ge m 9 with h | h
    · exact .inl h
    · exact .inr ((ramsey34 (R := farB es) (Q := adjE es) (fun i j hne => (far_or es i j hne).symm) (far_symm es) (adjE_symm es) (fun i => by unfold farB; simp) hA (by rw [below_size]; exact h)).elim (fun h => .inr (two 3 h)) fun h => .inl (one 4 h))
/-- The word of those that are not in it. -/
def restW (m w : Nat) : Nat := (2 ^ m - 1) ^^^ w
theorem rest_bit {w : Nat} (hw : w < 2 ^ m) (i : Nat) : (restW m w).testBit i = (decide (i < m) && !w.testBit i) := by
  unfold restW
  rw [Nat.testBit_xor, Nat.testBit_two_pow_sub_one]
  rcases Nat.lt_or_ge i m with h | h
  · simp [h]
  · rw [Nat.testBit_lt_two_pow (Nat.lt_of_lt_of_le hw (Nat.pow_le_pow_right (by decide) h))]
    have : ¬ i < m := by omega
    simp [this]
theorem rest_lt {w : Nat} (hw : w < 2 ^ m) : restW m w < 2 ^ m := Nat.xor_lt_two_pow (by have := Nat.two_pow_pos m; omega) hw
theorem rest_rest (m w : Nat) : restW m (restW m w) = w := by
  unfold restW
  rw [← Nat.xor_assoc, Nat.xor_self, Nat.zero_xor]
theorem rest_size (hm10 : m ≤ 32) {w : Nat} (hw : w < 2 ^ m) : sizeW (restW m w) + sizeW w = m := by
  rw [size_bitB hm10 (rest_lt hw), size_bitB hm10 hw]
  have h := sizeP_not (bitB w) m
  rw [← sizeP_congr (S := bitB (restW m w)) m fun i hi => by
    show (restW m w).testBit i = !w.testBit i
    rw [rest_bit hw]; simp [hi]] at h
  exact h
/-- A set with a node of each edge. -/
def GuardW (es : List E3) (m w : Nat) : Prop := looseE es (restW m w) = true
theorem loose_crowd (hg : goodE m es) {w : Nat} (hw : w < 2 ^ m) : looseE es w = true ↔ CrowdW (adjE es) true m w := by
  rw [loose_adj hg, crowd_lse (adjE_symm es) (adj_irr hg) hw]
  exact Iff.rfl
theorem guard_all (es : List E3) (m : Nat) : GuardW es m (2 ^ m - 1) := by
  unfold GuardW restW
  rw [Nat.xor_self]
  exact looseE_zero es
theorem all_most (hm10 : m ≤ 32) : ∀ j, j < 2 ^ m - 1 → sizeW j < sizeW (2 ^ m - 1) := fun j hj => by
  have h1 := rest_size hm10 (m := m) (w := j) (by omega)
  have h2 := rest_size hm10 (m := m) (w := 2 ^ m - 1) (by have := Nat.two_pow_pos m; omega)
  have h3 : sizeW (restW m (2 ^ m - 1)) = 0 := by
    unfold restW
    rw [Nat.xor_self]
    have := size_bitB (n := 0) (w := 0) (by decide) (by decide)
    rw [this]; rfl
  have h4 : 0 < sizeW (restW m j) := by
    have hr : restW m j < 2 ^ m := rest_lt (by omega)
    rw [size_bitB hm10 hr]
    apply Nat.pos_of_ne_zero
    intro e
    have hz : restW m j = 0 := by
      apply Nat.eq_of_testBit_eq
      intro i
      rw [Nat.zero_testBit]
      cases hb : (restW m j).testBit i with
      | false => rfl
      | true =>
        have hi := bit_lt hr hb
        have h5 := sizeP_del (A := bitB (restW m j)) (i := i) hb hi
        omega
    have e2 := rest_rest m j
    rw [hz] at e2
    unfold restW at e2
    rw [Nat.xor_zero] at e2
    omega
  omega
theorem gallai_w (hm10 : m ≤ 32) (hg : goodE m es) (ha : MostW (CrowdW (adjE es) true m) sizeW (2 ^ m) a) (hc : FewW (GuardW es m) sizeW (2 ^ m - 1) (2 ^ m) c) : sizeW a + sizeW c = m := by
  have hpos := Nat.two_pow_pos m
  have hal := ha.below hpos
  have hcl : c < 2 ^ m := by rcases hc.lt with e | e <;> omega
  have h1 := rest_size hm10 hal
  have h2 := rest_size hm10 hcl
  have h3 := hc.le (restW m a) (rest_lt hal) (by unfold GuardW; rw [rest_rest]; exact (loose_crowd hg hal).2 ha.ok)
  have h4 := ha.le (restW m c) (rest_lt hcl) ((loose_crowd hg (rest_lt hcl)).1 hc.ok)
  omega
theorem colours_w (hm10 : m ≤ 32) (hg : goodE m es) {col : Nat → Nat} (hlt : ∀ i, i < m → col i < k) (hne : ∀ i j, i < m → j < i → adjE es j i = true → col j ≠ col i)
    (hc : MostW (CrowdW (adjE es) false m) sizeW (2 ^ m) c) (ha : MostW (CrowdW (adjE es) true m) sizeW (2 ^ m) a) : sizeW c ≤ k ∧ m ≤ k * sizeW a := by
  have hn2 : ∀ i j, i < m → j < m → adjE es i j = true → col i ≠ col j := fun i j hi hj h => by
    rcases Nat.lt_trichotomy i j with h1 | h1 | h1
    · exact hne j i hj h1 h
    · subst h1; rw [adj_irr hg] at h; cases h
    · exact (hne i j hi h1 (by rw [adjE_symm]; exact h)).symm
  have hcl := hc.below (Nat.two_pow_pos m)
  constructor
  · rw [size_bitB hm10 hcl]
    exact clq_col (n := m) (K := bitB c) (adj := adjE es) ((crowd_clq (adjE_symm es) hcl).1 hc.ok) (fun i hi _ => hlt i hi) fun i j hi hj _ _ h => hn2 i j hi hj h
  · exact col_part hlt hn2 fun S hS hl => ha.lse_le (adjE_symm es) (adj_irr hg) hm10 hS hl
end
end Go.Proofs.Ythnchnamdoobeaa
