/- EULER, plain: when there is a tour, by degrees and parts. -/
import Derived.Test.YthfgbgmkiggjmabDoorTouring
import Derived.Test.YthfgbgmkiggjmabDoorTourGo
import Derived.Test.YthfgbgmkiggjmabDoorDegrees
namespace Go.Proofs.YthfgbgmkiggjmabDoor

/-- As far as the nodes were looked at: all even, and of one part. -/
def MayAt (m : Nat) (es : List E3) (i : Nat) : Prop := ∀ y : Nat, y < i → degN es (y : Int) % 2 = 0 ∧ (degN es (y : Int) = 0 ∨ partN m es y = partN m es (tourS m es))
open Classical in
noncomputable def partAt (m : Nat) (es : List E3) (i : Nat) : Int := if 0 < degN es (tourS m es : Int) ∧ tourS m es < i then (partN m es (tourS m es) : Int) else -1
section
variable {m : Nat} {es : List E3}
theorem lk_rch (hin : InE m es) (a y : Nat) : Lk (prsE es) a y ↔ Rch es a y := by
  have e : adjE es = adjP (prsE es) := by funext i j; exact adjE_pairs hin i j
  unfold Rch Lk
  rw [e]
theorem tourS_props (hg : goodE m es) (hm : 0 < m) : tourS m es < m ∧ (∀ i, i < tourS m es → degN es (i : Int) = 0) := by
  have hs := SomeE.of_good hg
  obtain ⟨h1, h2, _⟩ := firstL_props (words_good hg) hs.simp hs.inG hm
  exact ⟨h1, fun i hi => by rw [degE_pairs hs.inn]; exact h2 i hi⟩
theorem tourS_pos (hg : goodE m es) (hm : 0 < m) {y : Nat} (h : 0 < degN es (y : Int)) : 0 < degN es (tourS m es : Int) := by
  have hs := SomeE.of_good hg
  obtain ⟨_, _, h3⟩ := firstL_props (words_good hg) hs.simp hs.inG hm
  rw [degE_pairs hs.inn] at h ⊢
  rcases h3 with h3 | ⟨_, h3⟩
  · exact h3
  · have := h3 y; omega
theorem may_iff (hm10 : m ≤ 10) (hg : goodE m es) (hm : 0 < m) : Tg (prsE es) (tourS m es) (tourS m es) ↔ MayAt m es m := by
  have hs := SomeE.of_good hg
  obtain ⟨hsm, _⟩ := tourS_props hg hm
  rw [tg_iff hs.simp hs.inG hsm hsm]
  constructor
  · intro h y hy
    obtain ⟨h1, h2⟩ := h y hy
    rw [if_pos Iff.rfl, ← degE_pairs hs.inn] at h1
    refine ⟨h1, ?_⟩
    rcases Nat.eq_zero_or_pos (degN es (y : Int)) with h0 | h0
    · exact .inl h0
    · right
      have h3 := (lk_rch hs.inn _ _).1 (h2 (by rw [← degE_pairs hs.inn]; exact h0))
      exact ((partN_eq hm10 hg hsm hy).2 h3).symm
  · intro h y hy
    obtain ⟨h1, h2⟩ := h y hy
    refine ⟨by rw [if_pos Iff.rfl, ← degE_pairs hs.inn]; exact h1, fun h0 => ?_⟩
    rw [← degE_pairs hs.inn] at h0
    rcases h2 with h2 | h2
    · omega
    · exact (lk_rch hs.inn _ _).2 ((partN_eq hm10 hg hsm hy).1 h2.symm)
theorem partAt_zero : partAt m es 0 = -1 := by unfold partAt; rw [if_neg (by omega)]
theorem partAt_none {i : Nat} (h : degN es (i : Int) = 0) : partAt m es (i + 1) = partAt m es i := by
  unfold partAt
  by_cases h1 : 0 < degN es (tourS m es : Int) ∧ tourS m es < i
  · rw [if_pos h1, if_pos ⟨h1.1, by omega⟩]
  · rw [if_neg h1, if_neg]
    rintro ⟨h2, h3⟩
    apply h1
    refine ⟨h2, ?_⟩
    rcases Nat.lt_or_ge (tourS m es) i with h4 | h4
    · exact h4
    · have : tourS m es = i := by omega
      rw [this, h] at h2
      omega
theorem partAt_first : partAt m es (tourS m es) = -1 := by unfold partAt; rw [if_neg (by omega)]
theorem partAt_set {i : Nat} (h : 0 < degN es (tourS m es : Int)) (hi : tourS m es < i) : partAt m es i = (partN m es (tourS m es) : Int) := by unfold partAt; rw [if_pos ⟨h, hi⟩]
theorem MayAt.next {i : Nat} : MayAt m es (i + 1) ↔ MayAt m es i ∧ degN es (i : Int) % 2 = 0 ∧ (degN es (i : Int) = 0 ∨ partN m es i = partN m es (tourS m es)) := by
  constructor
  · intro h; exact ⟨fun y hy => h y (by omega), h i (Nat.lt_succ_self _)⟩
  · rintro ⟨h1, h2⟩ y hy
    rcases Nat.lt_or_ge y i with h3 | h3
    · exact h1 y h3
    · obtain rfl : y = i := by omega
      exact h2
end
end Go.Proofs.YthfgbgmkiggjmabDoor
