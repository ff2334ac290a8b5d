/- How great the numbers are that the reference's Count goes through. Plain facts, of no program. -/
import Derived.Test.YtpcealcghglopaaSubW
namespace Go.Proofs.Ytpcealcghglopaa

theorem fall_dec : ∀ k : Fin 14, ∀ i : Fin 11, -fallI 12 i.val ≤ fallI ((k.val : Int) - 1) i.val ∧ fallI ((k.val : Int) - 1) i.val ≤ fallI 12 i.val := by decide +kernel
theorem fall_abs {k : Int} {i : Nat} (h0 : -1 ≤ k) (h1 : k ≤ 12) (hi : i ≤ 10) : -fallI 12 i ≤ fallI k i ∧ fallI k i ≤ fallI 12 i := by
  have h := fall_dec ⟨(k + 1).toNat, by omega⟩ ⟨i, by omega⟩
  have e : (((k + 1).toNat : Nat) : Int) - 1 = k := by omega
  simp only [e] at h
  exact h
theorem fall_up_dec : ∀ j : Fin 11, ∀ i : Fin 11, i.val ≤ j.val → fallI 12 i.val ≤ fallI 12 j.val := by decide +kernel
theorem fall_up {i j : Nat} (hij : i ≤ j) (hj : j ≤ 10) : fallI 12 i ≤ fallI 12 j := fall_up_dec ⟨j, by omega⟩ ⟨i, by omega⟩ hij
section
variable {n w : Nat} {loose : Nat → Bool} {T : Nat → Nat → Int}
theorem tab_fall (H : TabP n loose T) (hl : loose 0 = true) (hn : n ≤ 10) (hw : w < 2 ^ n) {j : Nat} (hj : j ≤ n) : T w j * fallI 12 j ≤ 61917364224 := by
  have h1 := pol_le (polT_ok H) hl 12 w hw
  have h2 : ((12 : Nat) : Int) ^ pcW w n ≤ 61917364224 := by
    have := pcW_le w n
    rcases (show pcW w n = 0 ∨ pcW w n = 1 ∨ pcW w n = 2 ∨ pcW w n = 3 ∨ pcW w n = 4 ∨ pcW w n = 5 ∨ pcW w n = 6 ∨ pcW w n = 7 ∨ pcW w n = 8 ∨ pcW w n = 9 ∨ pcW w n = 10 by omega) with h | h | h | h | h | h | h | h | h | h | h <;> rw [h] <;> decide
  have h3 : T w j * fallI ((12 : Nat) : Int) j ≤ polT n T w ((12 : Nat) : Int) := sumI_ge (f := fun j => T w j * fallI ((12 : Nat) : Int) j) (i := j) (n + 1) (fun i _ => Int.mul_nonneg (tab_nonneg H (w + 1) w (by omega) hw i) (fallI_nonneg 12 i)) (by omega)
  have h9 : T w j * fallI 12 j = T w j * fallI ((12 : Nat) : Int) j := rfl
  rw [h9]
  exact Int.le_trans h3 (Int.le_trans h1 h2)
/-- Each number that comes up when the j-th one is reckoned. -/
theorem count_abs (H : TabP n loose T) (hl : loose 0 = true) (hn : n ≤ 10) (hw : w < 2 ^ n) {j i : Nat} (hij : i ≤ j) (hj : j ≤ n) {k : Int} (h0 : -1 ≤ k) (h1 : k ≤ 12) : -61917364224 ≤ T w j * fallI k i ∧ T w j * fallI k i ≤ 61917364224 := by
  have hT := tab_nonneg H (w + 1) w (by omega) hw j
  obtain ⟨a1, a2⟩ := fall_abs h0 h1 (i := i) (by omega)
  have a3 := fall_up hij (show j ≤ 10 by omega)
  have a4 := tab_fall H hl hn hw hj
  have b1 : T w j * fallI k i ≤ T w j * fallI 12 j := Int.mul_le_mul_of_nonneg_left (by omega) hT
  have b2 : T w j * (-fallI 12 j) ≤ T w j * fallI k i := Int.mul_le_mul_of_nonneg_left (by omega) hT
  rw [Int.mul_neg] at b2
  omega
theorem sum_abs {f : Nat → Int} {B : Int} : ∀ n : Nat, (∀ j, j < n → -B ≤ f j ∧ f j ≤ B) → -(B * n) ≤ sumI f n ∧ sumI f n ≤ B * n
  | 0, _ => by simp [sumI]
  | n + 1, h => by
    have h1 := sum_abs n fun j hj => h j (by omega)
    have h2 := h n (by omega)
    simp only [sumI]
    have e : B * ((n + 1 : Nat) : Int) = B * n + B := by rw [Int.natCast_add, Int.mul_add]; simp
    rw [e]
    omega
end
end Go.Proofs.Ytpcealcghglopaa
