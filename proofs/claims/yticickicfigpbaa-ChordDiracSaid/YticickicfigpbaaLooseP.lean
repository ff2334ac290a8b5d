/- Sets of nodes without an edge, by edges and by neighbours. Plain facts, of no program. -/
import Derived.Test.YticickicfigpbaaLooseE
import Derived.Test.YticickicfigpbaaCountP
import Derived.Test.YticickicfigpbaaNbP
namespace Go.Proofs.Yticickicfigpbaa

theorem loose_down {es : List E3} : ∀ s r, subQ r s = true → looseE es s = true → looseE es r = true := fun s r hr hs => by
  unfold looseE at hs ⊢
  rw [List.all_eq_true] at hs ⊢
  intro e he
  have h := hs e he
  simp only [bothE, Bool.not_eq_true', Bool.and_eq_false_iff] at h ⊢
  rcases h with h | h
  · refine .inl ?_
    cases hb : r.testBit e.1.toNat with
    | false => rfl
    | true => rw [subQ_iff.1 hr _ hb] at h; cases h
  · refine .inr ?_
    cases hb : r.testBit e.2.1.toNat with
    | false => rfl
    | true => rw [subQ_iff.1 hr _ hb] at h; cases h
theorem loose_iff {es : List E3} {s : Nat} : looseE es s = true ↔ ∀ e ∈ es, ¬ (s.testBit e.1.toNat = true ∧ s.testBit e.2.1.toNat = true) := by
  unfold looseE bothE
  rw [List.all_eq_true]
  refine ⟨fun h e he hh => ?_, fun h e he => ?_⟩
  · have := h e he
    rw [hh.1, hh.2] at this
    cases this
  · have := h e he
    cases h1 : s.testBit e.1.toNat <;> cases h2 : s.testBit e.2.1.toNat <;> simp_all
theorem loose_adj {m : Nat} {es : List E3} (hg : goodE m es) (s : Nat) : looseE es s = true ↔ ∀ i j, s.testBit i = true → s.testBit j = true → adjE es i j = false := by
  rw [loose_iff]
  constructor
  · intro h i j hi hj
    cases ha : adjE es i j with
    | false => rfl
    | true =>
      exfalso
      unfold adjE at ha
      rw [List.any_eq_true] at ha
      obtain ⟨e, he, h1⟩ := ha
      simp only [Bool.or_eq_true, Bool.and_eq_true, beq_iff_eq] at h1
      refine h e he ?_
      rcases h1 with ⟨h2, h3⟩ | ⟨h2, h3⟩ <;> rw [h2, h3] <;> simp [hi, hj]
  · intro h e he hh
    have h1 := h _ _ hh.1 hh.2
    obtain ⟨k, hk⟩ := List.getElem?_of_mem he
    obtain ⟨p0, _, p2, _, _, _⟩ := edge_ok (hg k e hk)
    have : adjE es e.1.toNat e.2.1.toNat = true := by
      unfold adjE
      rw [List.any_eq_true]
      refine ⟨e, he, ?_⟩
      simp only [Bool.or_eq_true, Bool.and_eq_true, beq_iff_eq]
      exact .inl ⟨by omega, by omega⟩
    rw [this] at h1
    cases h1
theorem one_loose {m : Nat} {es : List E3} (hg : goodE m es) (b : Nat) : looseE es (2 ^ b) = true := by
  rw [loose_adj hg]
  intro i j hi hj
  rw [Nat.testBit_two_pow] at hi hj
  have e1 := of_decide_eq_true hi
  have e2 := of_decide_eq_true hj
  subst e1 e2
  cases ha : adjE es b b with
  | false => rfl
  | true => exact absurd rfl (adjE_lt hg ha).2.2
/-- One more node: just if it is beside none of them. -/
theorem put_loose {m b s : Nat} {es : List E3} {nb : Nat → Nat} (hg : goodE m es) (hnb : ∀ i, (nb b).testBit i = adjE es b i) (hs : looseE es s = true) : s &&& nb b = 0 ↔ looseE es (s ||| 2 ^ b) = true := by
  rw [loose_adj hg] at hs ⊢
  constructor
  · intro h
    have key : ∀ i, s.testBit i = true → adjE es b i = false := fun i hi => by
      have h1 : (s &&& nb b).testBit i = false := by rw [h]; simp
      rw [Nat.testBit_and, hi, hnb] at h1
      simpa using h1
    have hbb : adjE es b b = false := by
      cases ha : adjE es b b with
      | false => rfl
      | true => exact absurd rfl (adjE_lt hg ha).2.2
    intro i j hi hj
    rw [Nat.testBit_or, Nat.testBit_two_pow, Bool.or_eq_true, decide_eq_true_iff] at hi hj
    rcases hi with hi | rfl
    · rcases hj with hj | rfl
      · exact hs i j hi hj
      · rw [adjE_symm]; exact key i hi
    · rcases hj with hj | rfl
      · exact key j hj
      · exact hbb
  · intro h
    apply Nat.eq_of_testBit_eq
    intro i
    rw [Nat.testBit_and, hnb, Nat.zero_testBit]
    cases hi : s.testBit i with
    | false => rfl
    | true => rw [h b i (by rw [Nat.testBit_or, Nat.testBit_two_pow]; simp) (by rw [Nat.testBit_or, hi]; rfl)]; rfl
theorem nb_bit {m : Nat} {es : List E3} (hg : goodE m es) {b : Nat} (hb : b < m) (i : Nat) : ((nbL m es).getD b 0).testBit i = adjE es b i := by
  rw [List.getD_eq_getElem?_getD, nbL_get es hb]
  have h := nbW_bit hg b i es.length
  rw [List.take_length] at h
  exact h
end Go.Proofs.Yticickicfigpbaa
