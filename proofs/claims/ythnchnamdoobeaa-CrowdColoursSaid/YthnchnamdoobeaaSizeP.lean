/- How many bits a word has set, as the size of a set. Plain facts, of no program. -/
import Derived.Test.YthnchnamdoobeaaSizeD
import Derived.Test.YthnchnamdoobeaaKonigP
namespace Go.Proofs.Ythnchnamdoobeaa
theorem sizeTo_bits (s : Nat) : ∀ k, sizeTo s k = sizeP (fun i => s.testBit i) k
  | 0 => rfl
  | k + 1 => by rw [sizeTo_succ, sizeTo_bits s k, sizeP_succ]
theorem sizeTo_far {s n : Nat} (h : s < 2 ^ n) : ∀ d, sizeTo s (n + d) = sizeTo s n
  | 0 => rfl
  | d + 1 => by
    have hb : s.testBit (n + d) = false := Nat.testBit_lt_two_pow (Nat.lt_of_lt_of_le h (Nat.pow_le_pow_right (by decide) (by omega)))
    rw [show n + (d + 1) = (n + d) + 1 by omega, sizeTo_succ, sizeTo_far h d, hb]; rfl
theorem sizeW_bits {s n : Nat} (hn : n ≤ 32) (h : s < 2 ^ n) : sizeW s = sizeP (fun i => s.testBit i) n := by
  have h1 : sizeW s = sizeTo s (n + (32 - n)) := by rw [show n + (32 - n) = 32 by omega]; rfl
  rw [h1, sizeTo_far h, sizeTo_bits]
end Go.Proofs.Ythnchnamdoobeaa
