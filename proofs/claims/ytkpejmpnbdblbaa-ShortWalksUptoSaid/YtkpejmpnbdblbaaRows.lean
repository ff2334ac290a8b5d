/-
  No cell of these rows narrows 'for every input' (looked for: loops, veiled, ifaces, maps, wideKeys, modest, calm, conditions, laid).
  DERIVED. THE GIVEN ROWS OF THIS SEAT. 6 by the template 'for every input the law returns true; each argument reads behind the call as it read before'; 0 by the template 'total and deterministic' (their statements: YtkpejmpnbdblbaaTotals.lean).
  GIVEN WITH THE SEED: the statements are not yours to turn. If you find one false, say at which input.
  Laid BY PROGRAM, IN A SANDBOX (cutbox-rows.mjs): the forced cells as the released guide's own fill.sh prints them over the translation 87c97b433aec877a… (all of the seat's roots in one cut). By AI agents, Wed Nov 11 2026. No macro, syntax, notation, axiom, sorry.
-/
import Derived.Test.YtkpejmpnbdblbaaChecked
import GoSem.Claim
import GoSem.ClaimJoined
import GoSem.ClaimMapViews
import Derived.JoinedTies
import Derived.KernelRfl
namespace Go.Proofs.Ytkpejmpnbdblbaa
/- THE CELL 'sum', in the pinned program and in every row, IS THE sha256 OF THE DUMP (.gsa) THAT YtkpejmpnbdblbaaProg.lean LOADS. Nothing in Lean hashes anything: it is a label: what it is worth is what the hold of that sum in a sandbox is worth. -/
noncomputable def Try.pinned : Pinned := { name := "ytkpejmpnbdblbaa", sum := "87c97b433aec877aad4737926eda1368437d93b7e7f5d3571f04c3def45afda2", checked := Try.checked }
namespace Rows
def none {H : Type} : Left H := { results := [], args := [] }

/-- 'teamsterlaw.ShortFars': WHATEVER THE INPUT: true; the input reads as it did. -/
def shortFarsSpec : ChangeSpec := { name := "shortFars", fn := fun _ => fun
  | [d1, d2] => { results := [.lit (.bool true)], args := [d1, d2] }
  | _ => none }
def shortFarsRow : OpenClaim := { program := "ytkpejmpnbdblbaa", sum := "87c97b433aec877aad4737926eda1368437d93b7e7f5d3571f04c3def45afda2", func := "teamster/teamsterlaw.ShortFars", spec := "shortFars", apart := false }
def ShortFarsSaid : Prop := shortFarsRow.holds Try.pinned (OpenSpec.ofChange shortFarsSpec)

/-- ITS FALSE NEIGHBOUR: 'it returns false'. Refute it at one input. -/
def shortFarsWrong : ChangeSpec := { name := "shortFars", fn := fun _ => fun
  | [d1, d2] => { results := [.lit (.bool false)], args := [d1, d2] }
  | _ => none }
def ShortFarsWrongFalsely : Prop := shortFarsRow.holds Try.pinned (OpenSpec.ofChange shortFarsWrong)

/-- 'teamsterlaw.ShortAlls': WHATEVER THE INPUT: true; the input reads as it did. -/
def shortAllsSpec : ChangeSpec := { name := "shortAlls", fn := fun _ => fun
  | [d] => { results := [.lit (.bool true)], args := [d] }
  | _ => none }
def shortAllsRow : OpenClaim := { program := "ytkpejmpnbdblbaa", sum := "87c97b433aec877aad4737926eda1368437d93b7e7f5d3571f04c3def45afda2", func := "teamster/teamsterlaw.ShortAlls", spec := "shortAlls", apart := false }
def ShortAllsSaid : Prop := shortAllsRow.holds Try.pinned (OpenSpec.ofChange shortAllsSpec)

/-- ITS FALSE NEIGHBOUR: 'it returns false'. Refute it at one input. -/
def shortAllsWrong : ChangeSpec := { name := "shortAlls", fn := fun _ => fun
  | [d] => { results := [.lit (.bool false)], args := [d] }
  | _ => none }
def ShortAllsWrongFalsely : Prop := shortAllsRow.holds Try.pinned (OpenSpec.ofChange shortAllsWrong)

/-- 'teamsterlaw.ShortWays': WHATEVER THE INPUT: true; the input reads as it did. -/
def shortWaysSpec : ChangeSpec := { name := "shortWays", fn := fun _ => fun
  | [d1, d2, d3] => { results := [.lit (.bool true)], args := [d1, d2, d3] }
  | _ => none }
def shortWaysRow : OpenClaim := { program := "ytkpejmpnbdblbaa", sum := "87c97b433aec877aad4737926eda1368437d93b7e7f5d3571f04c3def45afda2", func := "teamster/teamsterlaw.ShortWays", spec := "shortWays", apart := false }
def ShortWaysSaid : Prop := shortWaysRow.holds Try.pinned (OpenSpec.ofChange shortWaysSpec)

/-- ITS FALSE NEIGHBOUR: 'it returns false'. Refute it at one input. -/
def shortWaysWrong : ChangeSpec := { name := "shortWays", fn := fun _ => fun
  | [d1, d2, d3] => { results := [.lit (.bool false)], args := [d1, d2, d3] }
  | _ => none }
def ShortWaysWrongFalsely : Prop := shortWaysRow.holds Try.pinned (OpenSpec.ofChange shortWaysWrong)

/-- 'teamsterkeep.ShortBellman': WHATEVER THE INPUT: true; the input reads as it did. -/
def shortBellmanSpec : ChangeSpec := { name := "shortBellman", fn := fun _ => fun
  | [d1, d2] => { results := [.lit (.bool true)], args := [d1, d2] }
  | _ => none }
def shortBellmanRow : OpenClaim := { program := "ytkpejmpnbdblbaa", sum := "87c97b433aec877aad4737926eda1368437d93b7e7f5d3571f04c3def45afda2", func := "teamster/teamsterkeep.ShortBellman", spec := "shortBellman", apart := false }
def ShortBellmanSaid : Prop := shortBellmanRow.holds Try.pinned (OpenSpec.ofChange shortBellmanSpec)

/-- ITS FALSE NEIGHBOUR: 'it returns false'. Refute it at one input. -/
def shortBellmanWrong : ChangeSpec := { name := "shortBellman", fn := fun _ => fun
  | [d1, d2] => { results := [.lit (.bool false)], args := [d1, d2] }
  | _ => none }
def ShortBellmanWrongFalsely : Prop := shortBellmanRow.holds Try.pinned (OpenSpec.ofChange shortBellmanWrong)

/-- 'teamsterkeep.ShortWalks': WHATEVER THE INPUT: true; the input reads as it did. -/
def shortWalksSpec : ChangeSpec := { name := "shortWalks", fn := fun _ => fun
  | [d1, d2, d3, d4] => { results := [.lit (.bool true)], args := [d1, d2, d3, d4] }
  | _ => none }
def shortWalksRow : OpenClaim := { program := "ytkpejmpnbdblbaa", sum := "87c97b433aec877aad4737926eda1368437d93b7e7f5d3571f04c3def45afda2", func := "teamster/teamsterkeep.ShortWalks", spec := "shortWalks", apart := false }
def ShortWalksSaid : Prop := shortWalksRow.holds Try.pinned (OpenSpec.ofChange shortWalksSpec)

/-- ITS FALSE NEIGHBOUR: 'it returns false'. Refute it at one input. -/
def shortWalksWrong : ChangeSpec := { name := "shortWalks", fn := fun _ => fun
  | [d1, d2, d3, d4] => { results := [.lit (.bool false)], args := [d1, d2, d3, d4] }
  | _ => none }
def ShortWalksWrongFalsely : Prop := shortWalksRow.holds Try.pinned (OpenSpec.ofChange shortWalksWrong)

/-- 'teamsterkeep.ShortShifts': WHATEVER THE INPUT: true; the input reads as it did. -/
def shortShiftsSpec : ChangeSpec := { name := "shortShifts", fn := fun _ => fun
  | [d1, d2, d3] => { results := [.lit (.bool true)], args := [d1, d2, d3] }
  | _ => none }
def shortShiftsRow : OpenClaim := { program := "ytkpejmpnbdblbaa", sum := "87c97b433aec877aad4737926eda1368437d93b7e7f5d3571f04c3def45afda2", func := "teamster/teamsterkeep.ShortShifts", spec := "shortShifts", apart := false }
def ShortShiftsSaid : Prop := shortShiftsRow.holds Try.pinned (OpenSpec.ofChange shortShiftsSpec)

/-- ITS FALSE NEIGHBOUR: 'it returns false'. Refute it at one input. -/
def shortShiftsWrong : ChangeSpec := { name := "shortShifts", fn := fun _ => fun
  | [d1, d2, d3] => { results := [.lit (.bool false)], args := [d1, d2, d3] }
  | _ => none }
def ShortShiftsWrongFalsely : Prop := shortShiftsRow.holds Try.pinned (OpenSpec.ofChange shortShiftsWrong)

/- THE SECOND FORM. 'bulk': how many values and letters a reading holds, each counted each time it is reached (what is shared counts as often as it is met; a slice's spare places count too). A statement '..UptoSaid' is the law's where the arguments, and the package variables that the reading takes, are together of bulk at most 1048576: NARROWER than '..Said'. Prove '..Said' where nothing that the law and all that it calls make is longer than what came in: it says more and counts as full. Else prove '..UptoSaid'. A law counts once. -/
mutual
def uptoBulk {H : Type} : DataW H → Nat
  | .lit (.string bytes) => bytes.length + 1
  | .lit _ => 1
  | .nil => 1
  | .ptr d => uptoBulk d + 1
  | .slice elems spare => uptoBulkAll elems + uptoBulkAll spare + 1
  | .agg parts => uptoBulkAll parts + 1
  | .iface _ d => uptoBulk d + 1
  | .map entries => uptoBulkEntries entries + 1
  | .held _ => 1
def uptoBulkAll {H : Type} : List (DataW H) → Nat
  | [] => 0
  | d :: r => uptoBulk d + uptoBulkAll r
def uptoBulkEntries {H : Type} : List (Lit × DataW H) → Nat
  | [] => 0
  | x :: r => uptoBulkEntry x + uptoBulkEntries r
def uptoBulkEntry {H : Type} : Lit × DataW H → Nat
  | (.string bytes, d) => bytes.length + uptoBulk d + 1
  | (_, d) => uptoBulk d + 1
 end
def uptoSmall : (H : Type) → List (DataW H) → Bool := fun _ ds => decide (uptoBulkAll ds ≤ 1048576)
def OpenSpec.upto (s : _root_.Go.ChangeSpec) : _root_.Go.OpenSpec := { _root_.Go.OpenSpec.ofChange s with cond := some uptoSmall }

/-- 'teamsterlaw.ShortFars', WHERE WHAT IT READS IS OF BULK AT MOST 1048576: true; the input reads as it did. -/
def shortFarsUptoRow : OpenClaim := { program := "ytkpejmpnbdblbaa", sum := "87c97b433aec877aad4737926eda1368437d93b7e7f5d3571f04c3def45afda2", func := "teamster/teamsterlaw.ShortFars", spec := "shortFars", apart := false, narrowed := true }
def ShortFarsUptoSaid : Prop := shortFarsUptoRow.holds Try.pinned (OpenSpec.upto shortFarsSpec)

/-- 'teamsterlaw.ShortAlls', WHERE WHAT IT READS IS OF BULK AT MOST 1048576: true; the input reads as it did. -/
def shortAllsUptoRow : OpenClaim := { program := "ytkpejmpnbdblbaa", sum := "87c97b433aec877aad4737926eda1368437d93b7e7f5d3571f04c3def45afda2", func := "teamster/teamsterlaw.ShortAlls", spec := "shortAlls", apart := false, narrowed := true }
def ShortAllsUptoSaid : Prop := shortAllsUptoRow.holds Try.pinned (OpenSpec.upto shortAllsSpec)

/-- 'teamsterlaw.ShortWays', WHERE WHAT IT READS IS OF BULK AT MOST 1048576: true; the input reads as it did. -/
def shortWaysUptoRow : OpenClaim := { program := "ytkpejmpnbdblbaa", sum := "87c97b433aec877aad4737926eda1368437d93b7e7f5d3571f04c3def45afda2", func := "teamster/teamsterlaw.ShortWays", spec := "shortWays", apart := false, narrowed := true }
def ShortWaysUptoSaid : Prop := shortWaysUptoRow.holds Try.pinned (OpenSpec.upto shortWaysSpec)

/-- 'teamsterkeep.ShortBellman', WHERE WHAT IT READS IS OF BULK AT MOST 1048576: true; the input reads as it did. -/
def shortBellmanUptoRow : OpenClaim := { program := "ytkpejmpnbdblbaa", sum := "87c97b433aec877aad4737926eda1368437d93b7e7f5d3571f04c3def45afda2", func := "teamster/teamsterkeep.ShortBellman", spec := "shortBellman", apart := false, narrowed := true }
def ShortBellmanUptoSaid : Prop := shortBellmanUptoRow.holds Try.pinned (OpenSpec.upto shortBellmanSpec)

/-- 'teamsterkeep.ShortWalks', WHERE WHAT IT READS IS OF BULK AT MOST 1048576: true; the input reads as it did. -/
def shortWalksUptoRow : OpenClaim := { program := "ytkpejmpnbdblbaa", sum := "87c97b433aec877aad4737926eda1368437d93b7e7f5d3571f04c3def45afda2", func := "teamster/teamsterkeep.ShortWalks", spec := "shortWalks", apart := false, narrowed := true }
def ShortWalksUptoSaid : Prop := shortWalksUptoRow.holds Try.pinned (OpenSpec.upto shortWalksSpec)

/-- 'teamsterkeep.ShortShifts', WHERE WHAT IT READS IS OF BULK AT MOST 1048576: true; the input reads as it did. -/
def shortShiftsUptoRow : OpenClaim := { program := "ytkpejmpnbdblbaa", sum := "87c97b433aec877aad4737926eda1368437d93b7e7f5d3571f04c3def45afda2", func := "teamster/teamsterkeep.ShortShifts", spec := "shortShifts", apart := false, narrowed := true }
def ShortShiftsUptoSaid : Prop := shortShiftsUptoRow.holds Try.pinned (OpenSpec.upto shortShiftsSpec)

end Rows
end Go.Proofs.Ytkpejmpnbdblbaa
