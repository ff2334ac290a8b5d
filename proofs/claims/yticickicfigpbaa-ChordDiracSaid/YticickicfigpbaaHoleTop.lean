/- What chord.Ring is to tell: the first of the shortest rings of four or more without a short cut. Plain facts. -/
import Derived.Test.YticickicfigpbaaHoleFirstP
import Derived.Test.YticickicfigpbaaChordTop
import Derived.Test.YticickicfigpbaaMapsP
namespace Go.Proofs.Yticickicfigpbaa
open Go.RowKit

def HoleFirst (w : World) (n : Int) (es : List E3) (e : Ending) (w' : World) : Prop :=
  (gcheck n es ≠ 0 → e = .returned (.tuple #[.slice none 0 0, .int .i64 (gcheck n es)])) ∧
  (gcheck n es = 0 → (∀ h, ¬ HoleG (adjE es) n.toNat h) → e = .returned (.tuple #[.slice none 0 0, .int .i64 5])) ∧
  (gcheck n es = 0 → ∀ g, FirstH (adjE es) n.toNat g → ∃ A' c', e = .returned (.tuple #[.slice A' g.length c', .int .i64 0]) ∧ IntsAt w' w'.heap.size A' g.length (natG g) ∧ g.length ≤ c') ∧ Below w.heap.size w w'
section
variable {adj : Nat → Nat → Bool} {m : Nat}
theorem holeG_len {h : List Nat} (hh : HoleG adj m h) : h.length ≤ m := by
  have hn : h.Nodup := by
    rw [List.nodup_iff_pairwise_ne, List.pairwise_iff_getElem]
    intro i j hi hj hij e
    refine hh.nd i j hij hj ?_
    rw [List.getD_eq_getElem?_getD, List.getD_eq_getElem?_getD, List.getElem?_eq_getElem hi, List.getElem?_eq_getElem hj, e]
  have h1 : h.length ≤ sizeP (fun i => decide (i ∈ h)) m := inj_size (N := m) h.length (fun i => h.getD i 0) (fun i => decide (i ∈ h)) (fun i hi => ⟨hh.lt i hi, by
    rw [decide_eq_true_eq, List.getD_eq_getElem?_getD, List.getElem?_eq_getElem hi]
    exact List.getElem_mem hi⟩) fun i j hij hj => hh.nd i j hij hj
  exact Nat.le_trans h1 (sizeP_le _ _)
/-- If there is one, there is a first one. -/
theorem first_ex {h : List Nat} (hh : HoleG adj m h) : ∃ g, FirstH adj m g := by
  have hex : ∃ k, 4 ≤ k ∧ refBareF adj m k [] ≠ none := by
    obtain ⟨r, hr, _⟩ := refBareF_lex hh h.length 0 (Nat.zero_add _)
    rw [List.take_zero] at hr
    exact ⟨h.length, hh.four, by rw [hr]; exact fun e => by cases e⟩
  obtain ⟨k0, hk0⟩ := hex
  obtain ⟨k, _, hk, hmin⟩ := least_of (p := fun k => 4 ≤ k ∧ refBareF adj m k [] ≠ none) k0 hk0
  cases hr : refBareF adj m k [] with
  | none => exact absurd hr hk.2
  | some g =>
    refine ⟨g, (bare_first hk.1 hr fun j h4 hj => ?_).1⟩
    cases hq : refBareF adj m j [] with
    | none => rfl
    | some r => exact absurd ⟨h4, by rw [hq]; exact fun e => by cases e⟩ (hmin j hj)
theorem holeG_P (hs : ∀ i j, adj i j = adj j i) {g : List Nat} (h : HoleG adj m g) : HoleL adj m g := by
  refine ⟨h.four, fun i hi => ?_, fun i j hi hj he => ?_, fun i j hij hj => ⟨fun ha => ?_, ?_⟩⟩
  · exact restB_iff.2 ⟨h.lt i hi, fun h => by cases h⟩
  · rcases Nat.lt_trichotomy i j with h1 | h1 | h1
    · exact absurd he (h.nd i j h1 hj)
    · exact h1
    · exact absurd he.symm (h.nd j i h1 hi)
  · have := h.bare j i hj hij (by rw [hs]; exact ha)
    omega
  · rintro (rfl | ⟨rfl, rfl⟩)
    · have := h.ring i (by omega)
      rw [Nat.mod_eq_of_lt hj] at this
      exact this
    · have := h.ring (g.length - 1) hj
      rw [show g.length - 1 + 1 = g.length by omega, Nat.mod_self] at this
      rw [hs]; exact this
theorem holeP_G (hs : ∀ i j, adj i j = adj j i) {L : Nat} {q : Nat → Nat} (h : HoleP adj (restB m []) L q) : HoleG adj m ((List.range L).map q) := by
  have hget : ∀ i, i < L → ((List.range L).map q).getD i 0 = q i := fun i hi => by simp [List.getD_eq_getElem?_getD, hi]
  have hl : ((List.range L).map q).length = L := by simp
  have h4 := h.four
  refine ⟨by omega, fun i hi => ?_, fun i j hij hj => ?_, fun i hi => ?_, fun i j hi hj ha => ?_⟩
  · rw [hl] at hi
    rw [hget i hi]
    have := h.mem i hi
    simpa [restB] using this
  · rw [hl] at hj
    rw [hget i (by omega), hget j hj]
    intro e
    have := h.inj i j (by omega) hj e
    omega
  · rw [hl] at hi ⊢
    rw [hget i hi, hget _ (Nat.mod_lt _ (by omega))]
    rcases Nat.lt_or_ge (i + 1) L with h1 | h1
    · rw [Nat.mod_eq_of_lt h1]
      exact (h.edge i (i + 1) (by omega) h1).2 (.inl rfl)
    · rw [show i + 1 = L by omega, Nat.mod_self, hs]
      exact (h.edge 0 i (by omega) hi).2 (.inr ⟨rfl, by omega⟩)
  · rw [hl] at hi ⊢
    rw [hget i hi, hget j (by omega), hs] at ha
    rcases (h.edge j i hj hi).1 ha with h1 | ⟨h1, h2⟩
    · exact .inl (by omega)
    · exact .inr (by omega)
end
/-- What the laws by hand want of it. -/
theorem hole_top {w w' : World} {n : Int} {es : List E3} {e : Ending} (h : HoleFirst w n es e w') : HoleTop w n es e w' := by
  obtain ⟨h1, h2, h3, h4⟩ := h
  refine ⟨h1, fun hg hno => h2 hg fun g hh => hno _ _ (holeG_P (adjE_symm es) hh), fun hg ⟨L, q, hq⟩ => ?_, h4⟩
  obtain ⟨g, hgf⟩ := first_ex (holeP_G (adjE_symm es) hq)
  obtain ⟨A', c', r1, r2, r3⟩ := h3 hg g hgf
  exact ⟨g, A', c', holeG_P (adjE_symm es) hgf.hole, r1, r2, r3⟩
end Go.Proofs.Yticickicfigpbaa
