/- What chord's faces are to tell. -/
import Derived.Test.YticickicfigpbaaElimP
import Derived.Test.YticickicfigpbaaNatG
import Derived.Test.YticickicfigpbaaAdj
import Derived.Test.YticickicfigpbaaGood
import Derived.Test.YticickicfigpbaaRows2
import Derived.Test.YticickicfigpbaaBox0
namespace Go.Proofs.Yticickicfigpbaa
open Go.RowKit

def ChordTop (w : World) (n : Int) (es : List E3) (e : Ending) (w' : World) : Prop :=
  (gcheck n es ≠ 0 → e = .returned (.tuple #[.slice none 0 0, .int .i64 (gcheck n es)])) ∧
  (gcheck n es = 0 → elimF (adjE es) n.toNat n.toNat [] = none → e = .returned (.tuple #[.slice none 0 0, .int .i64 5])) ∧
  (gcheck n es = 0 → ∀ l, elimF (adjE es) n.toNat n.toNat [] = some l → ∃ A' c', e = .returned (.tuple #[.slice A' n.toNat c', .int .i64 0]) ∧ IntsAt w' w'.heap.size A' n.toNat (natG l) ∧ n.toNat ≤ c') ∧ Below w.heap.size w w'
/-- A ring of four or more without a short cut, as a list. -/
def HoleL (adj : Nat → Nat → Bool) (n : Nat) (r : List Nat) : Prop := HoleP adj (restB n []) r.length fun i => r.getD i 0
def HoleTop (w : World) (n : Int) (es : List E3) (e : Ending) (w' : World) : Prop :=
  (gcheck n es ≠ 0 → e = .returned (.tuple #[.slice none 0 0, .int .i64 (gcheck n es)])) ∧
  (gcheck n es = 0 → (∀ L q, ¬ HoleP (adjE es) (restB n.toNat []) L q) → e = .returned (.tuple #[.slice none 0 0, .int .i64 5])) ∧
  (gcheck n es = 0 → (∃ L q, HoleP (adjE es) (restB n.toNat []) L q) → ∃ r A' c', HoleL (adjE es) n.toNat r ∧ e = .returned (.tuple #[.slice A' r.length c', .int .i64 0]) ∧ IntsAt w' w'.heap.size A' r.length (natG r) ∧ r.length ≤ c') ∧ Below w.heap.size w w'
end Go.Proofs.Yticickicfigpbaa
