/- A graph with all edges, plain: no fault in it, and its Laplacian. -/
import Derived.Test.YthfgbgmkiggjmacDoorCay
import Derived.Test.YthfgbgmkiggjmacDoorLap
namespace Go.Proofs.YthfgbgmkiggjmacDoor

/-- The edges of node i to the nodes below j. -/
def fullRow (i j : Nat) : List E3 := (List.range j).map fun (a : Nat) => ((a : Int), (i : Int), (0 : Int))
/-- The edges of the first i nodes. -/
def fullE (i : Nat) : List E3 := (List.range i).flatMap fun b => fullRow b b
theorem fullRow_succ (i j : Nat) : fullRow i (j + 1) = fullRow i j ++ [((j : Int), (i : Int), (0 : Int))] := by
  unfold fullRow; rw [List.range_succ, List.map_append]; rfl
theorem fullE_succ (i : Nat) : fullE (i + 1) = fullE i ++ fullRow i i := by
  unfold fullE; rw [List.range_succ, List.flatMap_append]; simp
theorem fullRow_len (i j : Nat) : (fullRow i j).length = j := by simp [fullRow]
theorem fullE_len : ∀ i, 2 * (fullE i).length + i = i * i
  | 0 => rfl
  | i + 1 => by
    have := fullE_len i
    have h2 : (i + 1) * (i + 1) = i * i + i + i + 1 := by rw [Nat.add_mul, Nat.mul_add]; omega
    rw [fullE_succ, List.length_append, fullRow_len, h2]
    omega
set_option maxRecDepth 100000 in
theorem gcheck_full : ∀ n : Nat, n ≤ 10 → gcheck (n : Int) (fullE n) = 0 := by decide +kernel
def fullN (n : Nat) : NE := (List.range n).flatMap fun b => (List.range b).map fun a => (a, b)
set_option maxRecDepth 100000 in
theorem lap_full : ∀ n : Nat, n ≤ 10 → ∀ a, a < n → ∀ b, b < n → lapS (fullN n) (ind id a) (ind id b) = if a = b then (n : Int) - 1 else -1 := by decide +kernel
end Go.Proofs.YthfgbgmkiggjmacDoor
