/- Whom a node is linked with by ways whose other nodes are all in a word. Plain facts. -/
import Derived.Test.YthfgbgmkiggjmacDoorLinked
import Derived.Test.YthfgbgmkiggjmacDoorBesideP
namespace Go.Proofs.YthfgbgmkiggjmacDoor

/-- A step to a node of a word. -/
def stepW (es : List E3) (wi i j : Nat) : Bool := adjE es i j && wi.testBit j
structure LinkI (es : List E3) (wi s layer met acc : Nat) : Prop where
  come : ∀ v, met.testBit v = true → ∃ k, wk (stepW es wi) k s v
  src : met.testBit s = true
  shut : ∀ i j, met.testBit i = true → layer.testBit i = false → stepW es wi i j = true → met.testBit j = true
  all : ∀ v, met.testBit v = true ↔ acc.testBit v = true ∨ layer.testBit v = true
section
variable {m s wi : Nat} {es : List E3}
theorem nextW_bit (hm : m ≤ 10) (hg : goodE m es) {layer met : Nat} (hmet : met < 2 ^ m) (v : Nat) : (nextW m (nbL m es) wi layer met).testBit v = true ↔ (∃ x, x < m ∧ layer.testBit x = true ∧ stepW es wi x v = true) ∧ met.testBit v = false := by
  have hw := nbL_words hg
  unfold nextW
  rw [diffW_testBit (besideN m (nbL m es) layer &&& wi) met v (Nat.lt_of_lt_of_le (pow10 hm (besideW_lt hw wi layer)) (by decide)) (Nat.lt_of_lt_of_le (pow10 hm hmet) (by decide))]
  rw [Nat.testBit_and, Bool.and_eq_true, Bool.and_eq_true, besideN_bit hg, Bool.not_eq_true']
  unfold stepW
  constructor
  · rintro ⟨⟨⟨x, h1, h2, h3⟩, h4⟩, h5⟩
    exact ⟨⟨x, h1, h2, by rw [h3, h4]; rfl⟩, h5⟩
  · rintro ⟨⟨x, h1, h2, h3⟩, h5⟩
    rw [Bool.and_eq_true] at h3
    exact ⟨⟨⟨x, h1, h2, h3.1⟩, h3.2⟩, h5⟩
theorem linkI_next (hm : m ≤ 10) (hg : goodE m es) {layer met acc : Nat} (hmet : met < 2 ^ m) (h : LinkI es wi s layer met acc) :
    LinkI es wi s (nextW m (nbL m es) wi layer met) (met ||| nextW m (nbL m es) wi layer met) (acc ||| layer) := by
  have hb := fun v => nextW_bit (wi := wi) (layer := layer) hm hg hmet v
  generalize nextW m (nbL m es) wi layer met = nx at *
  have hor : ∀ v, (met ||| nx).testBit v = true ↔ met.testBit v = true ∨ nx.testBit v = true := fun v => by rw [Nat.testBit_or, Bool.or_eq_true]
  refine ⟨fun v hv => ?_, (hor s).2 (.inl h.src), fun i j hi hl hst => ?_, fun v => ?_⟩
  · rcases (hor v).1 hv with hv | hv
    · exact h.come v hv
    · obtain ⟨⟨x, _, hx, hst⟩, _⟩ := (hb v).1 hv
      obtain ⟨k, hk⟩ := h.come x ((h.all x).2 (.inr hx))
      exact ⟨k + 1, x, hk, hst⟩
  · rcases (hor i).1 hi with hi | hi
    · cases hli : layer.testBit i with
      | false => exact (hor j).2 (.inl (h.shut i j hi hli hst))
      | true =>
        cases hmj : met.testBit j with
        | true => exact (hor j).2 (.inl hmj)
        | false =>
          have ha : adjE es i j = true := by unfold stepW at hst; rw [Bool.and_eq_true] at hst; exact hst.1
          exact (hor j).2 (.inr ((hb j).2 ⟨⟨i, (adjE_lt hg ha).1, hli, hst⟩, hmj⟩))
    · rw [hi] at hl; cases hl
  · rw [hor, h.all, Nat.testBit_or, Bool.or_eq_true]
theorem link_bits (hm : m ≤ 10) (hg : goodE m es) (j : Nat) : ∀ (f far layer met acc : Nat), f + far = 1025 → far + (if layer = 0 then 0 else 1) ≤ met → layer < 2 ^ m → met < 2 ^ m → LinkI es wi s layer met acc →
    (((layW m (nbL m es) wi f far layer met).foldl (fun acc x => acc ||| x.2.val) acc).testBit j = true ↔ ∃ k, wk (stepW es wi) k s j)
  | 0, far, layer, met, acc, hf, hle, _, hm2, _ => by
    have := pow10 hm hm2
    split at hle <;> omega
  | f + 1, far, layer, met, acc, hf, hle, hl2, hm2, hI => by
    by_cases h0 : layer = 0
    · subst h0
      have hacc : ∀ v, met.testBit v = true ↔ acc.testBit v = true := fun v => by rw [hI.all]; simp
      have e : (layW m (nbL m es) wi (f + 1) far 0 met).foldl (fun acc x => acc ||| x.2.val) acc = acc := by simp [layW]
      rw [e, ← hacc]
      constructor
      · exact hI.come j
      · rintro ⟨k, hk⟩
        have hall : ∀ k v, wk (stepW es wi) k s v → met.testBit v = true := by
          intro k
          induction k with
          | zero => intro v hv; cases hv; exact hI.src
          | succ k ih =>
            rintro v ⟨x, hx, hst⟩
            exact hI.shut x v (ih x hx) (by simp) hst
        exact hall k j hk
    · have hle' : far + 1 ≤ met := by rw [if_neg h0] at hle; exact hle
      have hI' := linkI_next hm hg hm2 hI
      have hnx := nextW_lt hm (nbL_words hg) wi layer met hm2
      have hle2 : far + 1 + (if nextW m (nbL m es) wi layer met = 0 then 0 else 1) ≤ met ||| nextW m (nbL m es) wi layer met := by
        have hge : met ≤ met ||| nextW m (nbL m es) wi layer met := Nat.left_le_or
        by_cases hn0 : nextW m (nbL m es) wi layer met = 0
        · rw [if_pos hn0]; omega
        · rw [if_neg hn0]
          have := metW_grows hm (nbL_words hg) wi layer met hm2 hn0
          omega
      have hstep : layW m (nbL m es) wi (f + 1) far layer met = (far, toF m layer) :: layW m (nbL m es) wi f (far + 1) (nextW m (nbL m es) wi layer met) (met ||| nextW m (nbL m es) wi layer met) := by
        conv => lhs; unfold layW
        rw [if_neg h0]
      rw [hstep]
      simp only [List.foldl_cons, toF_val hl2]
      exact link_bits hm hg j f (far + 1) _ _ (acc ||| layer) (by omega) hle2 hnx (Nat.or_lt_two_pow hm2 hnx) hI'
theorem linkedW_bit (hm : m ≤ 10) (hg : goodE m es) (hs : s < m) (j : Nat) : (linkedW m (nbL m es) wi s).testBit j = true ↔ ∃ k, wk (stepW es wi) k s j := by
  have hp := Nat.two_pow_pos s
  have hlt : 2 ^ s < 2 ^ m := Nat.pow_lt_pow_right (by decide) hs
  have hb : ∀ v, (2 ^ s).testBit v = true ↔ v = s := fun v => by
    rw [Nat.testBit_two_pow, decide_eq_true_iff]; exact eq_comm
  unfold linkedW allTo
  refine link_bits hm hg j 1025 0 (2 ^ s) (2 ^ s) 0 rfl (by rw [if_neg (by omega)]; omega) hlt hlt ⟨fun v hv => ⟨0, ?_⟩, (hb s).2 rfl, fun i j hi hl _ => (by rw [hi] at hl; cases hl), fun v => by simp⟩
  have := (hb v).1 hv
  exact this.symm
end
end Go.Proofs.YthfgbgmkiggjmacDoor
