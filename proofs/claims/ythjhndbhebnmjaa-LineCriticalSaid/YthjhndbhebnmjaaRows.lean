/-
  No cell of these rows narrows 'for every input' (looked for: loops, veiled, ifaces, maps, wideKeys, modest, calm, conditions, laid).
  DERIVED. THE GIVEN ROWS OF THIS SEAT. 4 by the template 'for every input the law returns true; each argument reads behind the call as it read before'; 0 by the template 'total and deterministic' (their statements: YthjhndbhebnmjaaTotals.lean).
  GIVEN WITH THE SEED: the statements are not yours to turn. If you find one false, say at which input.
  Laid BY PROGRAM, IN A SANDBOX (cutbox-rows.mjs): the forced cells as the released guide's own fill.sh prints them over the translation 07064ec41e3300f5… (all of the seat's roots in one cut). By AI agents, Wed Nov 11 2026. No macro, syntax, notation, axiom, sorry.
-/
import Derived.Test.YthjhndbhebnmjaaChecked
import GoSem.Claim
import GoSem.ClaimJoined
import GoSem.ClaimMapViews
import Derived.JoinedTies
import Derived.KernelRfl
namespace Go.Proofs.Ythjhndbhebnmjaa
/- THE CELL 'sum', in the pinned program and in every row, IS THE sha256 OF THE DUMP (.gsa) THAT YthjhndbhebnmjaaProg.lean LOADS. Nothing in Lean hashes anything: it is a label: what it is worth is what the hold of that sum in a sandbox is worth. -/
noncomputable def Try.pinned : Pinned := { name := "ythjhndbhebnmjaa", sum := "07064ec41e3300f5dc66f3b796af56b82b60afcd09de6e65f566b3cf65adb310", checked := Try.checked }
namespace Rows
def none {H : Type} : Left H := { results := [], args := [] }

/-- 'teamsterlaw.LineOrders': WHATEVER THE INPUT: true; the input reads as it did. -/
def lineOrdersSpec : ChangeSpec := { name := "lineOrders", fn := fun _ => fun
  | [d] => { results := [.lit (.bool true)], args := [d] }
  | _ => none }
def lineOrdersRow : OpenClaim := { program := "ythjhndbhebnmjaa", sum := "07064ec41e3300f5dc66f3b796af56b82b60afcd09de6e65f566b3cf65adb310", func := "teamster/teamsterlaw.LineOrders", spec := "lineOrders", unfollowed := true, recurses := true, apart := false }
def LineOrdersSaid : Prop := lineOrdersRow.holds Try.pinned (OpenSpec.ofChange lineOrdersSpec)

/-- ITS FALSE NEIGHBOUR: 'it returns false'. Refute it at one input. -/
def lineOrdersWrong : ChangeSpec := { name := "lineOrders", fn := fun _ => fun
  | [d] => { results := [.lit (.bool false)], args := [d] }
  | _ => none }
def LineOrdersWrongFalsely : Prop := lineOrdersRow.holds Try.pinned (OpenSpec.ofChange lineOrdersWrong)

/-- 'teamsterlaw.LineTimes': WHATEVER THE INPUT: true; the input reads as it did. -/
def lineTimesSpec : ChangeSpec := { name := "lineTimes", fn := fun _ => fun
  | [d] => { results := [.lit (.bool true)], args := [d] }
  | _ => none }
def lineTimesRow : OpenClaim := { program := "ythjhndbhebnmjaa", sum := "07064ec41e3300f5dc66f3b796af56b82b60afcd09de6e65f566b3cf65adb310", func := "teamster/teamsterlaw.LineTimes", spec := "lineTimes", unfollowed := true, recurses := true, apart := false }
def LineTimesSaid : Prop := lineTimesRow.holds Try.pinned (OpenSpec.ofChange lineTimesSpec)

/-- ITS FALSE NEIGHBOUR: 'it returns false'. Refute it at one input. -/
def lineTimesWrong : ChangeSpec := { name := "lineTimes", fn := fun _ => fun
  | [d] => { results := [.lit (.bool false)], args := [d] }
  | _ => none }
def LineTimesWrongFalsely : Prop := lineTimesRow.holds Try.pinned (OpenSpec.ofChange lineTimesWrong)

/-- 'teamsterkeep.LineRight': WHATEVER THE INPUT: true; the input reads as it did. -/
def lineRightSpec : ChangeSpec := { name := "lineRight", fn := fun _ => fun
  | [d] => { results := [.lit (.bool true)], args := [d] }
  | _ => none }
def lineRightRow : OpenClaim := { program := "ythjhndbhebnmjaa", sum := "07064ec41e3300f5dc66f3b796af56b82b60afcd09de6e65f566b3cf65adb310", func := "teamster/teamsterkeep.LineRight", spec := "lineRight", unfollowed := true, recurses := true, apart := false }
def LineRightSaid : Prop := lineRightRow.holds Try.pinned (OpenSpec.ofChange lineRightSpec)

/-- ITS FALSE NEIGHBOUR: 'it returns false'. Refute it at one input. -/
def lineRightWrong : ChangeSpec := { name := "lineRight", fn := fun _ => fun
  | [d] => { results := [.lit (.bool false)], args := [d] }
  | _ => none }
def LineRightWrongFalsely : Prop := lineRightRow.holds Try.pinned (OpenSpec.ofChange lineRightWrong)

/-- 'teamsterkeep.LineCritical': WHATEVER THE INPUT: true; the input reads as it did. -/
def lineCriticalSpec : ChangeSpec := { name := "lineCritical", fn := fun _ => fun
  | [d] => { results := [.lit (.bool true)], args := [d] }
  | _ => none }
def lineCriticalRow : OpenClaim := { program := "ythjhndbhebnmjaa", sum := "07064ec41e3300f5dc66f3b796af56b82b60afcd09de6e65f566b3cf65adb310", func := "teamster/teamsterkeep.LineCritical", spec := "lineCritical", unfollowed := true, recurses := true, apart := false }
def LineCriticalSaid : Prop := lineCriticalRow.holds Try.pinned (OpenSpec.ofChange lineCriticalSpec)

/-- ITS FALSE NEIGHBOUR: 'it returns false'. Refute it at one input. -/
def lineCriticalWrong : ChangeSpec := { name := "lineCritical", fn := fun _ => fun
  | [d] => { results := [.lit (.bool false)], args := [d] }
  | _ => none }
def LineCriticalWrongFalsely : Prop := lineCriticalRow.holds Try.pinned (OpenSpec.ofChange lineCriticalWrong)

/- THE SECOND FORM. 'bulk': how many values and letters a reading holds, each counted each time it is reached (what is shared counts as often as it is met; a slice's spare places count too). A statement '..UptoSaid' is the law's where the arguments, and the package variables that the reading takes, are together of bulk at most 1048576: NARROWER than '..Said'. Prove '..Said' where nothing that the law and all that it calls make is longer than what came in: it says more and counts as full. Else prove '..UptoSaid'. A law counts once. -/
mutual
def uptoBulk {H : Type} : DataW H → Nat
  | .lit (.string bytes) => bytes.length + 1
  | .lit _ => 1
  | .nil => 1
  | .ptr d => uptoBulk d + 1
  | .slice elems spare => uptoBulkAll elems + uptoBulkAll spare + 1
  | .agg parts => uptoBulkAll parts + 1
  | .iface _ d => uptoBulk d + 1
  | .map entries => uptoBulkEntries entries + 1
  | .held _ => 1
def uptoBulkAll {H : Type} : List (DataW H) → Nat
  | [] => 0
  | d :: r => uptoBulk d + uptoBulkAll r
def uptoBulkEntries {H : Type} : List (Lit × DataW H) → Nat
  | [] => 0
  | x :: r => uptoBulkEntry x + uptoBulkEntries r
def uptoBulkEntry {H : Type} : Lit × DataW H → Nat
  | (.string bytes, d) => bytes.length + uptoBulk d + 1
  | (_, d) => uptoBulk d + 1
 end
def uptoSmall : (H : Type) → List (DataW H) → Bool := fun _ ds => decide (uptoBulkAll ds ≤ 1048576)
def OpenSpec.upto (s : _root_.Go.ChangeSpec) : _root_.Go.OpenSpec := { _root_.Go.OpenSpec.ofChange s with cond := some uptoSmall }

/-- 'teamsterlaw.LineOrders', WHERE WHAT IT READS IS OF BULK AT MOST 1048576: true; the input reads as it did. -/
def lineOrdersUptoRow : OpenClaim := { program := "ythjhndbhebnmjaa", sum := "07064ec41e3300f5dc66f3b796af56b82b60afcd09de6e65f566b3cf65adb310", func := "teamster/teamsterlaw.LineOrders", spec := "lineOrders", unfollowed := true, recurses := true, apart := false, narrowed := true }
def LineOrdersUptoSaid : Prop := lineOrdersUptoRow.holds Try.pinned (OpenSpec.upto lineOrdersSpec)

/-- 'teamsterlaw.LineTimes', WHERE WHAT IT READS IS OF BULK AT MOST 1048576: true; the input reads as it did. -/
def lineTimesUptoRow : OpenClaim := { program := "ythjhndbhebnmjaa", sum := "07064ec41e3300f5dc66f3b796af56b82b60afcd09de6e65f566b3cf65adb310", func := "teamster/teamsterlaw.LineTimes", spec := "lineTimes", unfollowed := true, recurses := true, apart := false, narrowed := true }
def LineTimesUptoSaid : Prop := lineTimesUptoRow.holds Try.pinned (OpenSpec.upto lineTimesSpec)

/-- 'teamsterkeep.LineRight', WHERE WHAT IT READS IS OF BULK AT MOST 1048576: true; the input reads as it did. -/
def lineRightUptoRow : OpenClaim := { program := "ythjhndbhebnmjaa", sum := "07064ec41e3300f5dc66f3b796af56b82b60afcd09de6e65f566b3cf65adb310", func := "teamster/teamsterkeep.LineRight", spec := "lineRight", unfollowed := true, recurses := true, apart := false, narrowed := true }
def LineRightUptoSaid : Prop := lineRightUptoRow.holds Try.pinned (OpenSpec.upto lineRightSpec)

/-- 'teamsterkeep.LineCritical', WHERE WHAT IT READS IS OF BULK AT MOST 1048576: true; the input reads as it did. -/
def lineCriticalUptoRow : OpenClaim := { program := "ythjhndbhebnmjaa", sum := "07064ec41e3300f5dc66f3b796af56b82b60afcd09de6e65f566b3cf65adb310", func := "teamster/teamsterkeep.LineCritical", spec := "lineCritical", unfollowed := true, recurses := true, apart := false, narrowed := true }
def LineCriticalUptoSaid : Prop := lineCriticalUptoRow.holds Try.pinned (OpenSpec.upto lineCriticalSpec)

end Rows
end Go.Proofs.Ythjhndbhebnmjaa
