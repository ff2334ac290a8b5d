/- How many bits a word has set. Plain facts, of no program. -/
import Derived.Test.YthnchnamdoobeaaPlain
namespace Go.Proofs.Ythnchnamdoobeaa

/-- How many bits are set. -/
def sizeW (s : Nat) : Nat := (List.range 32).countP fun i => s.testBit i
def sizeTo (s k : Nat) : Nat := (List.range k).countP fun i => s.testBit i
theorem sizeTo_succ (s k : Nat) : sizeTo s (k + 1) = sizeTo s k + if s.testBit k = true then 1 else 0 := by
  unfold sizeTo; rw [List.range_succ, List.countP_append]; simp [List.countP_cons]
theorem sizeTo_le (s : Nat) (k : Nat) : sizeTo s k ≤ k := by
  have := List.countP_le_length (p := fun i => s.testBit i) (l := List.range k)
  simpa [sizeTo] using this
end Go.Proofs.Ythnchnamdoobeaa
