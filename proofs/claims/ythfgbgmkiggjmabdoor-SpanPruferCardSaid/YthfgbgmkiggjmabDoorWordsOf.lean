/- Words that say which edges there are. Plain facts. -/
import Derived.Test.YthfgbgmkiggjmabDoorTrail
import Derived.Test.YthfgbgmkiggjmabDoorUnite
namespace Go.Proofs.YthfgbgmkiggjmabDoor

/-- Words say which edges there are. -/
structure WordsOf (m : Nat) (ar : List Nat) (G : List Pr) : Prop where
  len : ar.length = m
  lt : ∀ i, i < m → ar.getD i 0 < 2 ^ m
  bit : ∀ i, i < m → ∀ j, (ar.getD i 0).testBit j = true ↔ pr i j ∈ G
def InG (m : Nat) (G : List Pr) : Prop := ∀ a b, pr a b ∈ G → a < m ∧ b < m

theorem WordsOf.zero {m : Nat} {ar : List Nat} {G : List Pr} (h : WordsOf m ar G) {x : Nat} (hx : x < m) (h0 : ar.getD x 0 = 0) (j : Nat) : pr x j ∉ G := fun hm => by
  have := (h.bit x hx j).2 hm
  rw [h0] at this
  simp at this
theorem WordsOf.least {m : Nat} {ar : List Nat} {G : List Pr} (hm : m ≤ 10) (h : WordsOf m ar G) {x : Nat} (hx : x < m) (h0 : ar.getD x 0 ≠ 0) :
    pr x (Lib.ctz 32 (ar.getD x 0)) ∈ G ∧ ∀ j, j < Lib.ctz 32 (ar.getD x 0) → pr x j ∉ G := by
  obtain ⟨h1, h2⟩ := ctz_dec _ (pow10 hm (h.lt x hx)) h0
  refine ⟨(h.bit x hx _).1 h1, fun j hj hm => ?_⟩
  have := (h.bit x hx j).2 hm
  rw [h2 j hj] at this
  cases this
theorem getD_set (ar : List Nat) (i j v : Nat) (hi : i < ar.length) : (ar.set i v).getD j 0 = if i = j then v else ar.getD j 0 := by
  rw [List.getD_eq_getElem?_getD, List.getElem?_set, List.getD_eq_getElem?_getD]
  split
  · rename_i h
    subst h
    simp
  · rfl
theorem diffW_small {m a b : Nat} (hm : m ≤ 10) (ha : a < 2 ^ m) (hb : b < 1024) : diffW a b < 2 ^ m := by
  have h10 := pow10 hm ha
  apply Nat.lt_pow_two_of_testBit
  intro i hi
  rw [diffW_testBit a b i (by omega) (by omega), Nat.testBit_lt_two_pow (Nat.lt_of_lt_of_le ha (Nat.pow_le_pow_right (by decide) hi))]
  rfl
theorem WordsOf.step {m : Nat} {ar : List Nat} {G : List Pr} (hm : m ≤ 10) (h : WordsOf m ar G) (hs : Simp G) {x u : Nat} (hx : x < m) (hu : u < m) (_hxu : x ≠ u) :
    WordsOf m ((ar.set x (diffW (ar.getD x 0) (2 ^ u))).set u (diffW (ar.getD u 0) (2 ^ x))) (G.erase (pr x u)) := by
  have hl := h.len
  have hpx : 2 ^ x < 1024 := pow10 hm (Nat.pow_lt_pow_right (by decide) hx)
  have hpu : 2 ^ u < 1024 := pow10 hm (Nat.pow_lt_pow_right (by decide) hu)
  have hax := pow10 hm (h.lt x hx)
  have hau := pow10 hm (h.lt u hu)
  refine ⟨by simp [hl], fun i hi => ?_, fun i hi j => ?_⟩
  · rw [getD_set _ _ _ _ (by simp; omega), getD_set _ _ _ _ (by omega)]
    split
    · exact diffW_small hm (h.lt u hu) hpx
    · split
      · exact diffW_small hm (h.lt x hx) hpu
      · exact h.lt i hi
  · rw [getD_set _ _ _ _ (by simp; omega), getD_set _ _ _ _ (by omega), hs.mem_erase]
    by_cases h1 : u = i
    · subst h1
      rw [if_pos rfl, diffW_testBit _ _ j (by omega) (by omega), Bool.and_eq_true, h.bit u hu, Nat.testBit_two_pow]
      constructor
      · rintro ⟨a, b⟩
        exact ⟨fun e => by rcases pr_eq e with e | e <;> simp at b <;> omega, a⟩
      · rintro ⟨a, b⟩
        refine ⟨b, ?_⟩
        simp only [Bool.not_eq_true', decide_eq_false_iff_not]
        intro e
        subst e
        exact a (pr_comm _ _)
    · rw [if_neg h1]
      by_cases h2 : x = i
      · subst h2
        rw [if_pos rfl, diffW_testBit _ _ j (by omega) (by omega), Bool.and_eq_true, h.bit x hx, Nat.testBit_two_pow]
        constructor
        · rintro ⟨a, b⟩
          exact ⟨fun e => by rcases pr_eq e with e | e <;> simp at b <;> omega, a⟩
        · rintro ⟨a, b⟩
          refine ⟨b, ?_⟩
          simp only [Bool.not_eq_true', decide_eq_false_iff_not]
          intro e
          subst e
          exact a rfl
      · rw [if_neg h2, h.bit i hi]
        exact ⟨fun a => ⟨fun e => by rcases pr_eq e with e | e <;> omega, a⟩, fun a => a.2⟩
end Go.Proofs.YthfgbgmkiggjmabDoor
