/- Who asks whom: what the rows hold meanwhile; plain facts. -/
import Derived.Test.YtlndghclkcfedaaHoldsP
namespace Go.Proofs.Ytlndghclkcfedaa
open Go.RowKit

/-- Whom those on the left have, by whom those on the right hold. -/
def ConsP (n : Nat) (f ow : Nat → Int) : Prop := ∀ x, x < n → (∀ j : Nat, j < n → ow j = (x : Int) → f x = (j : Int)) ∧ ((∀ j, j < n → ow j ≠ (x : Int)) → f x = -1)
/-- One is held, or was refused by all. -/
def doneP (n : Nat) (L : Nat → List Int) (nx : Nat → Nat) (ow : Nat → Int) (x : Nat) : Prop := (∃ j, j < n ∧ ow j = (x : Int)) ∨ nx x = (L x).length
section
variable {n : Nat} {L R : Nat → List Int} {nx : Nat → Nat} {f ow : Nat → Int} {i j : Nat}
theorem ConsP.start : ConsP n (fun _ => -1) (fun _ => -1) := fun _ _ => ⟨fun _ _ h => by have h5 : (-1 : Int) = _ := h; omega, fun _ => rfl⟩
theorem ConsP.accept (C : ConsP n f ow) (hj : j < n) (hfree : ∀ j', j' < n → ow j' ≠ (i : Int)) (h0 : ow j = -1) : ConsP n (updF f i (j : Int)) (updOw ow j (i : Int)) := fun x hx => by
  by_cases hxi : x = i
  · subst hxi
    refine ⟨fun j' hj' h => ?_, fun h => absurd (show updOw ow j (x : Int) j = (x : Int) by unfold updOw; rw [if_pos rfl]) (h j hj)⟩
    unfold updOw at h
    split at h
    · rename_i e; subst e; unfold updF; rw [if_pos rfl]
    · exact absurd h (hfree j' hj')
  · have e : updF f i (j : Int) x = f x := by unfold updF; rw [if_neg hxi]
    rw [e]
    refine ⟨fun j' hj' h => ?_, fun h => (C x hx).2 fun j' hj' e' => ?_⟩
    · unfold updOw at h
      split at h
      · omega
      · exact (C x hx).1 j' hj' h
    · by_cases h5 : j' = j
      · subst h5; omega
      · exact h j' hj' (by unfold updOw; rw [if_neg h5]; exact e')
theorem ConsP.instead (C : ConsP n f ow) (H : AskP n L R nx ow) (hj : j < n) (hfree : ∀ j', j' < n → ow j' ≠ (i : Int)) {c : Nat} (hc : c < n) (h0 : ow j = (c : Int)) : ConsP n (updF (updF f c (-1)) i (j : Int)) (updOw ow j (i : Int)) := fun x hx => by
  have hci : c ≠ i := fun e => hfree j hj (by rw [h0, e])
  by_cases hxi : x = i
  · subst hxi
    refine ⟨fun j' hj' h => ?_, fun h => absurd (show updOw ow j (x : Int) j = (x : Int) by unfold updOw; rw [if_pos rfl]) (h j hj)⟩
    unfold updOw at h
    split at h
    · rename_i e; subst e; unfold updF; rw [if_pos rfl]
    · exact absurd h (hfree j' hj')
  · have e : updF (updF f c (-1)) i (j : Int) x = if x = c then -1 else f x := by unfold updF; rw [if_neg hxi]
    rw [e]
    by_cases hxc : x = c
    · subst hxc
      rw [if_pos rfl]
      refine ⟨fun j' hj' h => ?_, fun _ => rfl⟩
      unfold updOw at h
      split at h
      · omega
      · rename_i h5; exact absurd (H.only hx hj' hj h h0) h5
    · rw [if_neg hxc]
      refine ⟨fun j' hj' h => ?_, fun h => (C x hx).2 fun j' hj' e' => ?_⟩
      · unfold updOw at h
        split at h
        · omega
        · exact (C x hx).1 j' hj' h
      · by_cases h5 : j' = j
        · subst h5; omega
        · exact h j' hj' (by unfold updOw; rw [if_neg h5]; exact e')
theorem ConsP.end_ (C : ConsP n f ow) (H : AskP n L R nx ow) (hi : i < n) : f i = (endP n ow).getD i (-1) := by
  rcases endP_cases H hi with ⟨h1, h2⟩ | ⟨j, hj, h1, h2⟩
  · rw [h1]; exact (C i hi).2 h2
  · rw [h2]; exact (C i hi).1 j hj h1
/-- It says no. -/
theorem AskP.no (hj : j < n) (h : ¬ ahd (R j) (i : Int) < ahd (R j) (ow j)) (hfree : ∀ j', j' < n → ow j' ≠ (i : Int)) : (i : Int) ∉ R j ∨ ahd (R j) (ow j) < ahd (R j) (i : Int) := by
  by_cases hm : (i : Int) ∈ R j
  · refine .inr ?_
    rcases Nat.lt_or_ge (ahd (R j) (ow j)) (ahd (R j) (i : Int)) with h5 | h5
    · exact h5
    · exact absurd (ahd_inj hm (show ahd (R j) (i : Int) = ahd (R j) (ow j) by omega)).symm (hfree j hj)
  · exact .inl hm
theorem AskP.no' {o : Int} (h : (i : Int) ∉ R j ∨ ahd (R j) o < ahd (R j) (i : Int)) : ¬ ahd (R j) (i : Int) < ahd (R j) o := by
  rcases h with h | h
  · have := ahd_not h
    have := ahd_le (R j) o
    omega
  · omega
theorem AskP.yes {o : Int} (h : ahd (R j) (i : Int) < ahd (R j) o) : (i : Int) ∈ R j := by
  have := ahd_le (R j) o
  exact ahd_lt.1 (by omega)
/-- How much asking is left. -/
def leftP (n : Nat) (L : Nat → List Int) (nx : Nat → Nat) : Nat := sumTo (fun i => (L i).length) n - sumTo nx n
theorem leftP_upd (H : ∀ x, x < n → updNx nx i x ≤ (L x).length) (hi : i < n) : leftP n L (updNx nx i) < leftP n L nx := by
  have h1 := sum_upd (n := n) (f := nx) hi
  have h2 : sumTo (updNx nx i) n ≤ sumTo (fun i => (L i).length) n := sumTo_le n H
  unfold leftP
  omega
theorem doneP.instead {nx1 : Nat → Nat} {c x : Nat} (h : doneP n L nx ow x) (hx : ∀ y, y ≠ i → nx1 y = nx y) (hxi : x ≠ i) (hxc : x ≠ c) (h0 : ow j = (c : Int)) : doneP n L (updNx nx1 c) (updOw ow j (i : Int)) x := by
  rcases h with ⟨j', hj', h⟩ | h
  · refine .inl ⟨j', hj', ?_⟩
    unfold updOw
    by_cases h5 : j' = j
    · subst h5; omega
    · rw [if_neg h5]; exact h
  · refine .inr ?_
    unfold updNx
    rw [if_neg hxc, hx x hxi]; exact h
theorem doneP.accept {nx1 : Nat → Nat} {x : Nat} (h : doneP n L nx ow x) (hx : ∀ y, y ≠ i → nx1 y = nx y) (hxi : x ≠ i) (h0 : ow j = -1) : doneP n L nx1 (updOw ow j (i : Int)) x := by
  rcases h with ⟨j', hj', h⟩ | h
  · refine .inl ⟨j', hj', ?_⟩
    unfold updOw
    by_cases h5 : j' = j
    · subst h5; omega
    · rw [if_neg h5]; exact h
  · exact .inr (by rw [hx x hxi]; exact h)
theorem updOw_free {x : Nat} (hxi : x ≠ i) (hx : ∀ j', j' < n → ow j' ≠ (x : Int)) : ∀ j', j' < n → updOw ow j (i : Int) j' ≠ (x : Int) := fun j' hj' => by
  unfold updOw
  split
  · omega
  · exact hx j' hj'
theorem end_ow {l : List Int} (H : AskP n L R nx ow) (hl : l = endP n ow) (P : PairOK n l) (hj : j < n) : ow j = owP l (j : Int) := by
  rcases H.rng j hj with h0 | ⟨h0, h1⟩
  · rcases ow_cases P j with ⟨q, _⟩ | ⟨x, hx, _, q⟩
    · rw [h0, q]
    · rw [hl] at q
      rcases endP_cases H hx with ⟨g, _⟩ | ⟨j', hj', g1, g2⟩
      · omega
      · rw [g2] at q
        obtain rfl : j' = j := by omega
        omega
  · obtain ⟨x, hx⟩ := Int.eq_ofNat_of_zero_le h0
    have hxn : x < n := by omega
    rw [hx]
    refine (ow_at P hxn ?_).symm
    rw [hl]
    rcases endP_cases H hxn with ⟨_, g⟩ | ⟨j', hj', g1, g2⟩
    · exact absurd hx (g j hj)
    · rw [g2, H.only hxn hj' hj g1 hx]
theorem doneP.held (hj : j < n) : doneP n L nx (updOw ow j (i : Int)) i := .inl ⟨j, hj, by unfold updOw; rw [if_pos rfl]⟩
theorem updJ_ow (ow : Nat → Int) (j : Nat) (v : Int) : updJ ow (j : Int) v = updOw ow j v := by rw [updJ_at]; rfl
theorem updJ_ow2 (ow : Nat → Int) (j : Nat) (u v : Int) : updJ (updJ ow (j : Int) u) (j : Int) v = updOw ow j v := by
  rw [updJ_at, updJ_at]
  funext x
  unfold updF updOw
  split <;> rfl
end
end Go.Proofs.Ytlndghclkcfedaa
