/- CAYLEY, plain: the elimination of a graph with all edges, in closed form. -/
import Derived.Test.YthfgbgmkiggjmacDoorDet
namespace Go.Proofs.YthfgbgmkiggjmacDoor

/-- The elimination of a graph with all edges. -/
theorem bst_full {A : Nat → Nat → Int} {n r : Nat} (hr : r + 1 = n) (hA : ∀ i j, i < r → j < r → A i j = if i = j then (n : Int) - 1 else -1) : ∀ k, k ≤ r →
    (∀ i j, k ≤ i → k ≤ j → i < r → j < r → (bst A k).1 i j = if i = j then (n : Int) ^ k * ((n : Int) - k - 1) else - (n : Int) ^ k) ∧ (bst A k).2 * n = (n : Int) ^ k * ((n : Int) - k)
  | 0, _ => ⟨fun i j _ _ hi hj => by
      show A i j = _
      rw [hA i j hi hj]
      simp, by simp [bst]⟩
  | k + 1, hk => by
    obtain ⟨h1, h2⟩ := bst_full hr hA k (by omega)
    have hkk := h1 k k (Nat.le_refl _) (Nat.le_refl _) (by omega) (by omega)
    rw [if_pos rfl] at hkk
    have hn : (0 : Int) < (n : Int) := by omega
    have hnk : (0 : Int) < (n : Int) - k := by omega
    have hq : (0 : Int) < (n : Int) ^ k := Int.pow_pos hn
    have hp : (bst A k).2 ≠ 0 := fun h0 => by
      rw [h0] at h2
      have := Int.mul_pos hq hnk
      omega
    refine ⟨fun i j hi hj hir hjr => ?_, ?_⟩
    · show (if k < i ∧ k < j then (elim (bst A k).1 k i j).tdiv (bst A k).2 else (bst A k).1 i j) = _
      rw [if_pos ⟨by omega, by omega⟩]
      have hij := h1 i j (by omega) (by omega) hir hjr
      have hik := h1 i k (by omega) (Nat.le_refl _) hir (by omega)
      have hkj := h1 k j (Nat.le_refl _) (by omega) (by omega) hjr
      rw [if_neg (by omega)] at hik hkj
      unfold elim
      rw [hkk, hik, hkj, hij]
      have hc : ((k + 1 : Nat) : Int) = (k : Int) + 1 := by omega
      rw [hc, Int.pow_succ]
      generalize (bst A k).2 = p at *
      generalize (n : Int) ^ k = q at *
      generalize (n : Int) = N at *
      generalize (k : Int) = K at *
      split
      · rw [show q * (N - K - 1) * (q * (N - K - 1)) - -q * -q = (q * N * (N - (K + 1) - 1)) * p by grind, Int.mul_tdiv_cancel _ hp]
      · rw [show -q * (q * (N - K - 1)) - -q * -q = (-(q * N)) * p by grind, Int.mul_tdiv_cancel _ hp]
    · show (bst A k).1 k k * n = _
      rw [hkk, Int.pow_succ]
      have hc : ((k + 1 : Nat) : Int) = (k : Int) + 1 := by omega
      rw [hc]
      generalize (n : Int) ^ k = q at *
      grind
/-- CAYLEY, of the elimination: n^(n-2). -/
theorem bst_cayley {A : Nat → Nat → Int} {r : Nat} (hr : 0 < r) (hA : ∀ i j, i < r → j < r → A i j = if i = j then ((r + 1 : Nat) : Int) - 1 else -1) : (bst A r).2 = ((r + 1 : Nat) : Int) ^ (r - 1) := by
  obtain ⟨s, rfl⟩ : ∃ s, r = s + 1 := ⟨r - 1, by omega⟩
  have h := (bst_full rfl hA (s + 1) (Nat.le_refl _)).2
  rw [Int.pow_succ] at h
  have hn : (0 : Int) < ((s + 1 + 1 : Nat) : Int) := by omega
  have e : ((s + 1 + 1 : Nat) : Int) - ((s + 1 : Nat) : Int) = 1 := by omega
  rw [e, Int.mul_one] at h
  have := Int.eq_of_mul_eq_mul_right (by omega) h
  simpa using this
end Go.Proofs.YthfgbgmkiggjmacDoor
