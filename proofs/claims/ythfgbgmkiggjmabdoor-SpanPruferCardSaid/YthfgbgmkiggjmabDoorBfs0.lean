/- Layers of nodes are what a walk of so many steps comes to. Plain facts. -/
import Derived.Test.YthfgbgmkiggjmabDoorWalks
import Derived.Test.YthfgbgmkiggjmabDoorAdj
import Derived.Test.YthfgbgmkiggjmabDoorBesideP
import Derived.Test.YthfgbgmkiggjmabDoorParts
namespace Go.Proofs.YthfgbgmkiggjmabDoor

/-- The layer and the met nodes at a distance. -/
def LayInv (m : Nat) (es : List E3) (s far layer met : Nat) : Prop :=
  layer < 2 ^ m ∧ met < 2 ^ m ∧ (∀ j, layer.testBit j = true ↔ IsDist (adjE es) s j far) ∧ (∀ j, met.testBit j = true ↔ ∃ k, k ≤ far ∧ wk (adjE es) k s j)
theorem layInv_start {m : Nat} {es : List E3} {s : Nat} (hs : s < m) : LayInv m es s 0 (2 ^ s) (2 ^ s) := by
  have hp : 2 ^ s < 2 ^ m := Nat.pow_lt_pow_right (by decide) hs
  refine ⟨hp, hp, fun j => ?_, fun j => ?_⟩
  · rw [Nat.testBit_two_pow, dist_zero]; simp
  · rw [Nat.testBit_two_pow]
    simp only [decide_eq_true_eq]
    constructor
    · intro h; exact ⟨0, Nat.le_refl _, h⟩
    · rintro ⟨k, hk, hw⟩
      obtain rfl : k = 0 := by omega
      exact hw
theorem layInv_next {m : Nat} {es : List E3} (hm : m ≤ 10) (hg : goodE m es) {s far layer met : Nat} (hs : s < m) (h : LayInv m es s far layer met) :
    LayInv m es s (far + 1) (nextL m (nbL m es) layer met) (met ||| nextL m (nbL m es) layer met) := by
  obtain ⟨h1, h2, h3, h4⟩ := h
  have hw := nbL_words hg
  have hn := nextL_lt hm hw layer met h2
  have hbit : ∀ j, (nextL m (nbL m es) layer met).testBit j = true ↔ IsDist (adjE es) s j (far + 1) := fun j => by
    unfold nextL
    rw [diffW_testBit (besideN m (nbL m es) layer) met j (Nat.lt_of_lt_of_le (pow10 hm (orTo_lt hw _)) (by decide)) (Nat.lt_of_lt_of_le (pow10 hm h2) (by decide))]
    simp only [Bool.and_eq_true, Bool.not_eq_true']
    rw [besideN_bit hg]
    constructor
    · rintro ⟨⟨x, hx, hl, ha⟩, hm'⟩
      have hx' := (h3 x).1 hl
      refine ⟨⟨x, hx'.1, ha⟩, fun k hk hwk => ?_⟩
      have : met.testBit j = true := (h4 j).2 ⟨k, by omega, hwk⟩
      rw [this] at hm'
      cases hm'
    · intro hd
      obtain ⟨x, hx, ha⟩ := dist_pred hd
      refine ⟨⟨x, wk_lt hg hs hx.1, (h3 x).2 hx, ha⟩, ?_⟩
      cases hb : met.testBit j with
      | false => rfl
      | true =>
        obtain ⟨k, hk, hwk⟩ := (h4 j).1 hb
        exact absurd hwk (hd.2 k (by omega))
  refine ⟨hn, Nat.or_lt_two_pow h2 hn, hbit, fun j => ?_⟩
  rw [Nat.testBit_or, Bool.or_eq_true, h4, hbit]
  constructor
  · rintro (⟨k, hk, hwk⟩ | hd)
    · exact ⟨k, by omega, hwk⟩
    · exact ⟨far + 1, Nat.le_refl _, hd.1⟩
  · rintro ⟨k, hk, hwk⟩
    obtain ⟨d, hd, hD⟩ := dist_of_wk hwk
    rcases Nat.lt_or_ge d (far + 1) with hlt | hge
    · exact .inl ⟨d, by omega, hD.1⟩
    · obtain rfl : d = far + 1 := by omega
      exact .inr hD
end Go.Proofs.YthfgbgmkiggjmabDoor
