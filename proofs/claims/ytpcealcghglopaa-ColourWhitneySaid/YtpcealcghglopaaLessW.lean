/- A graph without an edge, in the middle of it: how it lies. -/
import Derived.Test.YtpcealcghglopaaEdgesOwn
import Derived.Test.YtpcealcghglopaaRefCheck
namespace Go.Proofs.Ytpcealcghglopaa
open Go.RowKit

def lessW (w : World) (m : Int) (A : Option Addr) (len cap : Nat) : World := ((w.alloc (.cells #[.int .i64 m, .slice A len cap] 24)).alloc (.cells #[.int .i64 0, .slice none 0 0] 24)).alloc (.cells #[.int .i64 m, .slice none 0 0] 24)
theorem lessW_size (w : World) (m : Int) (A : Option Addr) (len cap : Nat) : (lessW w m A len cap).heap.size = w.heap.size + 3 := by simp [lessW]
theorem lessW_below (w : World) (m : Int) (A : Option Addr) (len cap : Nat) : Below w.heap.size w (lessW w m A len cap) := (((Below.refl _ _).alloc (Nat.le_refl _) _).alloc (by simp) _).alloc (by simp; omega) _
def LessInv (m k : Nat) (es : List E3) (w W : World) (j : Nat) (wr : World) : Prop :=
  ∃ v, RowOf wr (w.heap.size + 1 + 1) 24 [.int .i64 m, v] ∧ wr.ownsRow (w.heap.size + 3) 61 3 v ((es.take j).eraseIdx k).length (cellsE ((es.take j).eraseIdx k)) ∧ Below (w.heap.size + 2) W wr
end Go.Proofs.Ytpcealcghglopaa
