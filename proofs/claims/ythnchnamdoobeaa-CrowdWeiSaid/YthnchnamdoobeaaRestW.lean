/- What all nodes have that a set lacks, as a word. Plain facts, of no program. -/
import Derived.Test.YthnchnamdoobeaaCrowdLawP
import Derived.Test.YthnchnamdoobeaaWords
namespace Go.Proofs.Ythnchnamdoobeaa

theorem diff_rest {m w : Nat} (hm : m ≤ 10) (hw : w < 2 ^ m) : diffW (2 ^ m - 1) w = restW m w := by
  have h1 : 2 ^ m ≤ 1024 := by rw [show 1024 = 2 ^ 10 from rfl]; exact Nat.pow_le_pow_right (by decide) hm
  apply Nat.eq_of_testBit_eq
  intro i
  rw [diffW_testBit _ _ i (by omega) (by omega), rest_bit hw, Nat.testBit_two_pow_sub_one]
theorem diff_none {m w : Nat} (hm : m ≤ 10) (hw : w < 2 ^ m) : diffW w (2 ^ m - 1) = 0 := by
  have h1 : 2 ^ m ≤ 1024 := by rw [show 1024 = 2 ^ 10 from rfl]; exact Nat.pow_le_pow_right (by decide) hm
  apply Nat.eq_of_testBit_eq
  intro i
  rw [diffW_testBit _ _ i (by omega) (by omega), Nat.testBit_two_pow_sub_one, Nat.zero_testBit]
  cases hb : w.testBit i with
  | false => rfl
  | true => rw [decide_eq_true (bit_lt hw hb)]; rfl
end Go.Proofs.Ythnchnamdoobeaa
