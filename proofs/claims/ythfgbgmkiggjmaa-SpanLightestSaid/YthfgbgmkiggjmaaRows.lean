/-
  No cell of these rows narrows 'for every input' (looked for: loops, veiled, ifaces, maps, wideKeys, modest, calm, conditions, laid).
  DERIVED. THE GIVEN ROWS OF THIS SEAT. 12 by the template 'for every input the law returns true; each argument reads behind the call as it read before'; 0 by the template 'total and deterministic' (their statements: YthfgbgmkiggjmaaTotals.lean).
  GIVEN WITH THE SEED: the statements are not yours to turn. If you find one false, say at which input.
  Laid BY PROGRAM, IN A SANDBOX (cutbox-rows.mjs): the forced cells as the released guide's own fill.sh prints them over the translation fa1b0da75e46c9f7… (all of the seat's roots in one cut). By AI agents, Wed Nov 11 2026. No macro, syntax, notation, axiom, sorry.
-/
import Derived.Test.YthfgbgmkiggjmaaChecked
import GoSem.Claim
import GoSem.ClaimJoined
import GoSem.ClaimMapViews
import Derived.JoinedTies
import Derived.KernelRfl
namespace Go.Proofs.Ythfgbgmkiggjmaa
/- THE CELL 'sum', in the pinned program and in every row, IS THE sha256 OF THE DUMP (.gsa) THAT YthfgbgmkiggjmaaProg.lean LOADS. Nothing in Lean hashes anything: it is a label: what it is worth is what the hold of that sum in a sandbox is worth. -/
noncomputable def Try.pinned : Pinned := { name := "ythfgbgmkiggjmaa", sum := "fa1b0da75e46c9f7a04d21ae9bd40d87d125b42f27d437f82e01c0b97929b3e2", checked := Try.checked }
namespace Rows
def none {H : Type} : Left H := { results := [], args := [] }

/-- 'teamsterlaw.GraphChecks': WHATEVER THE INPUT: true; the input reads as it did. -/
def graphChecksSpec : ChangeSpec := { name := "graphChecks", fn := fun _ => fun
  | [d] => { results := [.lit (.bool true)], args := [d] }
  | _ => none }
def graphChecksRow : OpenClaim := { program := "ythfgbgmkiggjmaa", sum := "fa1b0da75e46c9f7a04d21ae9bd40d87d125b42f27d437f82e01c0b97929b3e2", func := "teamster/teamsterlaw.GraphChecks", spec := "graphChecks", plainKeys := false, apart := false }
def GraphChecksSaid : Prop := graphChecksRow.holds Try.pinned (OpenSpec.ofChange graphChecksSpec)

/-- ITS FALSE NEIGHBOUR: 'it returns false'. Refute it at one input. -/
def graphChecksWrong : ChangeSpec := { name := "graphChecks", fn := fun _ => fun
  | [d] => { results := [.lit (.bool false)], args := [d] }
  | _ => none }
def GraphChecksWrongFalsely : Prop := graphChecksRow.holds Try.pinned (OpenSpec.ofChange graphChecksWrong)

/-- 'teamsterlaw.GraphDegrees': WHATEVER THE INPUT: true; the input reads as it did. -/
def graphDegreesSpec : ChangeSpec := { name := "graphDegrees", fn := fun _ => fun
  | [d] => { results := [.lit (.bool true)], args := [d] }
  | _ => none }
def graphDegreesRow : OpenClaim := { program := "ythfgbgmkiggjmaa", sum := "fa1b0da75e46c9f7a04d21ae9bd40d87d125b42f27d437f82e01c0b97929b3e2", func := "teamster/teamsterlaw.GraphDegrees", spec := "graphDegrees", plainKeys := false, apart := false }
def GraphDegreesSaid : Prop := graphDegreesRow.holds Try.pinned (OpenSpec.ofChange graphDegreesSpec)

/-- ITS FALSE NEIGHBOUR: 'it returns false'. Refute it at one input. -/
def graphDegreesWrong : ChangeSpec := { name := "graphDegrees", fn := fun _ => fun
  | [d] => { results := [.lit (.bool false)], args := [d] }
  | _ => none }
def GraphDegreesWrongFalsely : Prop := graphDegreesRow.holds Try.pinned (OpenSpec.ofChange graphDegreesWrong)

/-- 'teamsterkeep.GraphHands': WHATEVER THE INPUT: true; the input reads as it did. -/
def graphHandsSpec : ChangeSpec := { name := "graphHands", fn := fun _ => fun
  | [d] => { results := [.lit (.bool true)], args := [d] }
  | _ => none }
def graphHandsRow : OpenClaim := { program := "ythfgbgmkiggjmaa", sum := "fa1b0da75e46c9f7a04d21ae9bd40d87d125b42f27d437f82e01c0b97929b3e2", func := "teamster/teamsterkeep.GraphHands", spec := "graphHands", plainKeys := false, apart := false }
def GraphHandsSaid : Prop := graphHandsRow.holds Try.pinned (OpenSpec.ofChange graphHandsSpec)

/-- ITS FALSE NEIGHBOUR: 'it returns false'. Refute it at one input. -/
def graphHandsWrong : ChangeSpec := { name := "graphHands", fn := fun _ => fun
  | [d] => { results := [.lit (.bool false)], args := [d] }
  | _ => none }
def GraphHandsWrongFalsely : Prop := graphHandsRow.holds Try.pinned (OpenSpec.ofChange graphHandsWrong)

/-- 'teamsterlaw.SpanLeast': WHATEVER THE INPUT: true; the input reads as it did. -/
def spanLeastSpec : ChangeSpec := { name := "spanLeast", fn := fun _ => fun
  | [d] => { results := [.lit (.bool true)], args := [d] }
  | _ => none }
def spanLeastRow : OpenClaim := { program := "ythfgbgmkiggjmaa", sum := "fa1b0da75e46c9f7a04d21ae9bd40d87d125b42f27d437f82e01c0b97929b3e2", func := "teamster/teamsterlaw.SpanLeast", spec := "spanLeast", unfollowed := true, recurses := true, plainKeys := false, apart := false }
def SpanLeastSaid : Prop := spanLeastRow.holds Try.pinned (OpenSpec.ofChange spanLeastSpec)

/-- ITS FALSE NEIGHBOUR: 'it returns false'. Refute it at one input. -/
def spanLeastWrong : ChangeSpec := { name := "spanLeast", fn := fun _ => fun
  | [d] => { results := [.lit (.bool false)], args := [d] }
  | _ => none }
def SpanLeastWrongFalsely : Prop := spanLeastRow.holds Try.pinned (OpenSpec.ofChange spanLeastWrong)

/-- 'teamsterlaw.SpanDecodes': WHATEVER THE INPUT: true; the input reads as it did. -/
def spanDecodesSpec : ChangeSpec := { name := "spanDecodes", fn := fun _ => fun
  | [d] => { results := [.lit (.bool true)], args := [d] }
  | _ => none }
def spanDecodesRow : OpenClaim := { program := "ythfgbgmkiggjmaa", sum := "fa1b0da75e46c9f7a04d21ae9bd40d87d125b42f27d437f82e01c0b97929b3e2", func := "teamster/teamsterlaw.SpanDecodes", spec := "spanDecodes", plainKeys := false, apart := false }
def SpanDecodesSaid : Prop := spanDecodesRow.holds Try.pinned (OpenSpec.ofChange spanDecodesSpec)

/-- ITS FALSE NEIGHBOUR: 'it returns false'. Refute it at one input. -/
def spanDecodesWrong : ChangeSpec := { name := "spanDecodes", fn := fun _ => fun
  | [d] => { results := [.lit (.bool false)], args := [d] }
  | _ => none }
def SpanDecodesWrongFalsely : Prop := spanDecodesRow.holds Try.pinned (OpenSpec.ofChange spanDecodesWrong)

/-- 'teamsterkeep.SpanLightest': WHATEVER THE INPUT: true; the input reads as it did. -/
def spanLightestSpec : ChangeSpec := { name := "spanLightest", fn := fun _ => fun
  | [d1, d2] => { results := [.lit (.bool true)], args := [d1, d2] }
  | _ => none }
def spanLightestRow : OpenClaim := { program := "ythfgbgmkiggjmaa", sum := "fa1b0da75e46c9f7a04d21ae9bd40d87d125b42f27d437f82e01c0b97929b3e2", func := "teamster/teamsterkeep.SpanLightest", spec := "spanLightest", unfollowed := true, recurses := true, plainKeys := false, apart := false }
def SpanLightestSaid : Prop := spanLightestRow.holds Try.pinned (OpenSpec.ofChange spanLightestSpec)

/-- ITS FALSE NEIGHBOUR: 'it returns false'. Refute it at one input. -/
def spanLightestWrong : ChangeSpec := { name := "spanLightest", fn := fun _ => fun
  | [d1, d2] => { results := [.lit (.bool false)], args := [d1, d2] }
  | _ => none }
def SpanLightestWrongFalsely : Prop := spanLightestRow.holds Try.pinned (OpenSpec.ofChange spanLightestWrong)

/-- 'teamsterkeep.SpanCut': WHATEVER THE INPUT: true; the input reads as it did. -/
def spanCutSpec : ChangeSpec := { name := "spanCut", fn := fun _ => fun
  | [d1, d2] => { results := [.lit (.bool true)], args := [d1, d2] }
  | _ => none }
def spanCutRow : OpenClaim := { program := "ythfgbgmkiggjmaa", sum := "fa1b0da75e46c9f7a04d21ae9bd40d87d125b42f27d437f82e01c0b97929b3e2", func := "teamster/teamsterkeep.SpanCut", spec := "spanCut", unfollowed := true, recurses := true, plainKeys := false, apart := false }
def SpanCutSaid : Prop := spanCutRow.holds Try.pinned (OpenSpec.ofChange spanCutSpec)

/-- ITS FALSE NEIGHBOUR: 'it returns false'. Refute it at one input. -/
def spanCutWrong : ChangeSpec := { name := "spanCut", fn := fun _ => fun
  | [d1, d2] => { results := [.lit (.bool false)], args := [d1, d2] }
  | _ => none }
def SpanCutWrongFalsely : Prop := spanCutRow.holds Try.pinned (OpenSpec.ofChange spanCutWrong)

/-- 'teamsterlaw.FlowChecks': WHATEVER THE INPUT: true; the input reads as it did. -/
def flowChecksSpec : ChangeSpec := { name := "flowChecks", fn := fun _ => fun
  | [d] => { results := [.lit (.bool true)], args := [d] }
  | _ => none }
def flowChecksRow : OpenClaim := { program := "ythfgbgmkiggjmaa", sum := "fa1b0da75e46c9f7a04d21ae9bd40d87d125b42f27d437f82e01c0b97929b3e2", func := "teamster/teamsterlaw.FlowChecks", spec := "flowChecks", plainKeys := false, apart := false }
def FlowChecksSaid : Prop := flowChecksRow.holds Try.pinned (OpenSpec.ofChange flowChecksSpec)

/-- ITS FALSE NEIGHBOUR: 'it returns false'. Refute it at one input. -/
def flowChecksWrong : ChangeSpec := { name := "flowChecks", fn := fun _ => fun
  | [d] => { results := [.lit (.bool false)], args := [d] }
  | _ => none }
def FlowChecksWrongFalsely : Prop := flowChecksRow.holds Try.pinned (OpenSpec.ofChange flowChecksWrong)

/-- 'teamsterlaw.FlowMost': WHATEVER THE INPUT: true; the input reads as it did. -/
def flowMostSpec : ChangeSpec := { name := "flowMost", fn := fun _ => fun
  | [d1, d2, d3] => { results := [.lit (.bool true)], args := [d1, d2, d3] }
  | _ => none }
def flowMostRow : OpenClaim := { program := "ythfgbgmkiggjmaa", sum := "fa1b0da75e46c9f7a04d21ae9bd40d87d125b42f27d437f82e01c0b97929b3e2", func := "teamster/teamsterlaw.FlowMost", spec := "flowMost", unfollowed := true, recurses := true, plainKeys := false, apart := false }
def FlowMostSaid : Prop := flowMostRow.holds Try.pinned (OpenSpec.ofChange flowMostSpec)

/-- ITS FALSE NEIGHBOUR: 'it returns false'. Refute it at one input. -/
def flowMostWrong : ChangeSpec := { name := "flowMost", fn := fun _ => fun
  | [d1, d2, d3] => { results := [.lit (.bool false)], args := [d1, d2, d3] }
  | _ => none }
def FlowMostWrongFalsely : Prop := flowMostRow.holds Try.pinned (OpenSpec.ofChange flowMostWrong)

/-- 'teamsterlaw.FlowCuts': WHATEVER THE INPUT: true; the input reads as it did. -/
def flowCutsSpec : ChangeSpec := { name := "flowCuts", fn := fun _ => fun
  | [d1, d2, d3] => { results := [.lit (.bool true)], args := [d1, d2, d3] }
  | _ => none }
def flowCutsRow : OpenClaim := { program := "ythfgbgmkiggjmaa", sum := "fa1b0da75e46c9f7a04d21ae9bd40d87d125b42f27d437f82e01c0b97929b3e2", func := "teamster/teamsterlaw.FlowCuts", spec := "flowCuts", unfollowed := true, recurses := true, plainKeys := false, apart := false }
def FlowCutsSaid : Prop := flowCutsRow.holds Try.pinned (OpenSpec.ofChange flowCutsSpec)

/-- ITS FALSE NEIGHBOUR: 'it returns false'. Refute it at one input. -/
def flowCutsWrong : ChangeSpec := { name := "flowCuts", fn := fun _ => fun
  | [d1, d2, d3] => { results := [.lit (.bool false)], args := [d1, d2, d3] }
  | _ => none }
def FlowCutsWrongFalsely : Prop := flowCutsRow.holds Try.pinned (OpenSpec.ofChange flowCutsWrong)

/-- 'teamsterkeep.FlowDual': WHATEVER THE INPUT: true; the input reads as it did. -/
def flowDualSpec : ChangeSpec := { name := "flowDual", fn := fun _ => fun
  | [d1, d2, d3, d4, d5] => { results := [.lit (.bool true)], args := [d1, d2, d3, d4, d5] }
  | _ => none }
def flowDualRow : OpenClaim := { program := "ythfgbgmkiggjmaa", sum := "fa1b0da75e46c9f7a04d21ae9bd40d87d125b42f27d437f82e01c0b97929b3e2", func := "teamster/teamsterkeep.FlowDual", spec := "flowDual", unfollowed := true, recurses := true, plainKeys := false, apart := false }
def FlowDualSaid : Prop := flowDualRow.holds Try.pinned (OpenSpec.ofChange flowDualSpec)

/-- ITS FALSE NEIGHBOUR: 'it returns false'. Refute it at one input. -/
def flowDualWrong : ChangeSpec := { name := "flowDual", fn := fun _ => fun
  | [d1, d2, d3, d4, d5] => { results := [.lit (.bool false)], args := [d1, d2, d3, d4, d5] }
  | _ => none }
def FlowDualWrongFalsely : Prop := flowDualRow.holds Try.pinned (OpenSpec.ofChange flowDualWrong)

/-- 'teamsterkeep.FlowMore': WHATEVER THE INPUT: true; the input reads as it did. -/
def flowMoreSpec : ChangeSpec := { name := "flowMore", fn := fun _ => fun
  | [d1, d2, d3, d4, d5] => { results := [.lit (.bool true)], args := [d1, d2, d3, d4, d5] }
  | _ => none }
def flowMoreRow : OpenClaim := { program := "ythfgbgmkiggjmaa", sum := "fa1b0da75e46c9f7a04d21ae9bd40d87d125b42f27d437f82e01c0b97929b3e2", func := "teamster/teamsterkeep.FlowMore", spec := "flowMore", unfollowed := true, recurses := true, plainKeys := false, apart := false }
def FlowMoreSaid : Prop := flowMoreRow.holds Try.pinned (OpenSpec.ofChange flowMoreSpec)

/-- ITS FALSE NEIGHBOUR: 'it returns false'. Refute it at one input. -/
def flowMoreWrong : ChangeSpec := { name := "flowMore", fn := fun _ => fun
  | [d1, d2, d3, d4, d5] => { results := [.lit (.bool false)], args := [d1, d2, d3, d4, d5] }
  | _ => none }
def FlowMoreWrongFalsely : Prop := flowMoreRow.holds Try.pinned (OpenSpec.ofChange flowMoreWrong)

/- THE SECOND FORM. 'bulk': how many values and letters a reading holds, each counted each time it is reached (what is shared counts as often as it is met; a slice's spare places count too). A statement '..UptoSaid' is the law's where the arguments, and the package variables that the reading takes, are together of bulk at most 1048576: NARROWER than '..Said'. Prove '..Said' where nothing that the law and all that it calls make is longer than what came in: it says more and counts as full. Else prove '..UptoSaid'. A law counts once. -/
mutual
def uptoBulk {H : Type} : DataW H → Nat
  | .lit (.string bytes) => bytes.length + 1
  | .lit _ => 1
  | .nil => 1
  | .ptr d => uptoBulk d + 1
  | .slice elems spare => uptoBulkAll elems + uptoBulkAll spare + 1
  | .agg parts => uptoBulkAll parts + 1
  | .iface _ d => uptoBulk d + 1
  | .map entries => uptoBulkEntries entries + 1
  | .held _ => 1
def uptoBulkAll {H : Type} : List (DataW H) → Nat
  | [] => 0
  | d :: r => uptoBulk d + uptoBulkAll r
def uptoBulkEntries {H : Type} : List (Lit × DataW H) → Nat
  | [] => 0
  | x :: r => uptoBulkEntry x + uptoBulkEntries r
def uptoBulkEntry {H : Type} : Lit × DataW H → Nat
  | (.string bytes, d) => bytes.length + uptoBulk d + 1
  | (_, d) => uptoBulk d + 1
 end
def uptoSmall : (H : Type) → List (DataW H) → Bool := fun _ ds => decide (uptoBulkAll ds ≤ 1048576)
def OpenSpec.upto (s : _root_.Go.ChangeSpec) : _root_.Go.OpenSpec := { _root_.Go.OpenSpec.ofChange s with cond := some uptoSmall }

/-- 'teamsterlaw.GraphChecks', WHERE WHAT IT READS IS OF BULK AT MOST 1048576: true; the input reads as it did. -/
def graphChecksUptoRow : OpenClaim := { program := "ythfgbgmkiggjmaa", sum := "fa1b0da75e46c9f7a04d21ae9bd40d87d125b42f27d437f82e01c0b97929b3e2", func := "teamster/teamsterlaw.GraphChecks", spec := "graphChecks", plainKeys := false, apart := false, narrowed := true }
def GraphChecksUptoSaid : Prop := graphChecksUptoRow.holds Try.pinned (OpenSpec.upto graphChecksSpec)

/-- 'teamsterlaw.GraphDegrees', WHERE WHAT IT READS IS OF BULK AT MOST 1048576: true; the input reads as it did. -/
def graphDegreesUptoRow : OpenClaim := { program := "ythfgbgmkiggjmaa", sum := "fa1b0da75e46c9f7a04d21ae9bd40d87d125b42f27d437f82e01c0b97929b3e2", func := "teamster/teamsterlaw.GraphDegrees", spec := "graphDegrees", plainKeys := false, apart := false, narrowed := true }
def GraphDegreesUptoSaid : Prop := graphDegreesUptoRow.holds Try.pinned (OpenSpec.upto graphDegreesSpec)

/-- 'teamsterkeep.GraphHands', WHERE WHAT IT READS IS OF BULK AT MOST 1048576: true; the input reads as it did. -/
def graphHandsUptoRow : OpenClaim := { program := "ythfgbgmkiggjmaa", sum := "fa1b0da75e46c9f7a04d21ae9bd40d87d125b42f27d437f82e01c0b97929b3e2", func := "teamster/teamsterkeep.GraphHands", spec := "graphHands", plainKeys := false, apart := false, narrowed := true }
def GraphHandsUptoSaid : Prop := graphHandsUptoRow.holds Try.pinned (OpenSpec.upto graphHandsSpec)

/-- 'teamsterlaw.SpanLeast', WHERE WHAT IT READS IS OF BULK AT MOST 1048576: true; the input reads as it did. -/
def spanLeastUptoRow : OpenClaim := { program := "ythfgbgmkiggjmaa", sum := "fa1b0da75e46c9f7a04d21ae9bd40d87d125b42f27d437f82e01c0b97929b3e2", func := "teamster/teamsterlaw.SpanLeast", spec := "spanLeast", unfollowed := true, recurses := true, plainKeys := false, apart := false, narrowed := true }
def SpanLeastUptoSaid : Prop := spanLeastUptoRow.holds Try.pinned (OpenSpec.upto spanLeastSpec)

/-- 'teamsterlaw.SpanDecodes', WHERE WHAT IT READS IS OF BULK AT MOST 1048576: true; the input reads as it did. -/
def spanDecodesUptoRow : OpenClaim := { program := "ythfgbgmkiggjmaa", sum := "fa1b0da75e46c9f7a04d21ae9bd40d87d125b42f27d437f82e01c0b97929b3e2", func := "teamster/teamsterlaw.SpanDecodes", spec := "spanDecodes", plainKeys := false, apart := false, narrowed := true }
def SpanDecodesUptoSaid : Prop := spanDecodesUptoRow.holds Try.pinned (OpenSpec.upto spanDecodesSpec)

/-- 'teamsterkeep.SpanLightest', WHERE WHAT IT READS IS OF BULK AT MOST 1048576: true; the input reads as it did. -/
def spanLightestUptoRow : OpenClaim := { program := "ythfgbgmkiggjmaa", sum := "fa1b0da75e46c9f7a04d21ae9bd40d87d125b42f27d437f82e01c0b97929b3e2", func := "teamster/teamsterkeep.SpanLightest", spec := "spanLightest", unfollowed := true, recurses := true, plainKeys := false, apart := false, narrowed := true }
def SpanLightestUptoSaid : Prop := spanLightestUptoRow.holds Try.pinned (OpenSpec.upto spanLightestSpec)

/-- 'teamsterkeep.SpanCut', WHERE WHAT IT READS IS OF BULK AT MOST 1048576: true; the input reads as it did. -/
def spanCutUptoRow : OpenClaim := { program := "ythfgbgmkiggjmaa", sum := "fa1b0da75e46c9f7a04d21ae9bd40d87d125b42f27d437f82e01c0b97929b3e2", func := "teamster/teamsterkeep.SpanCut", spec := "spanCut", unfollowed := true, recurses := true, plainKeys := false, apart := false, narrowed := true }
def SpanCutUptoSaid : Prop := spanCutUptoRow.holds Try.pinned (OpenSpec.upto spanCutSpec)

/-- 'teamsterlaw.FlowChecks', WHERE WHAT IT READS IS OF BULK AT MOST 1048576: true; the input reads as it did. -/
def flowChecksUptoRow : OpenClaim := { program := "ythfgbgmkiggjmaa", sum := "fa1b0da75e46c9f7a04d21ae9bd40d87d125b42f27d437f82e01c0b97929b3e2", func := "teamster/teamsterlaw.FlowChecks", spec := "flowChecks", plainKeys := false, apart := false, narrowed := true }
def FlowChecksUptoSaid : Prop := flowChecksUptoRow.holds Try.pinned (OpenSpec.upto flowChecksSpec)

/-- 'teamsterlaw.FlowMost', WHERE WHAT IT READS IS OF BULK AT MOST 1048576: true; the input reads as it did. -/
def flowMostUptoRow : OpenClaim := { program := "ythfgbgmkiggjmaa", sum := "fa1b0da75e46c9f7a04d21ae9bd40d87d125b42f27d437f82e01c0b97929b3e2", func := "teamster/teamsterlaw.FlowMost", spec := "flowMost", unfollowed := true, recurses := true, plainKeys := false, apart := false, narrowed := true }
def FlowMostUptoSaid : Prop := flowMostUptoRow.holds Try.pinned (OpenSpec.upto flowMostSpec)

/-- 'teamsterlaw.FlowCuts', WHERE WHAT IT READS IS OF BULK AT MOST 1048576: true; the input reads as it did. -/
def flowCutsUptoRow : OpenClaim := { program := "ythfgbgmkiggjmaa", sum := "fa1b0da75e46c9f7a04d21ae9bd40d87d125b42f27d437f82e01c0b97929b3e2", func := "teamster/teamsterlaw.FlowCuts", spec := "flowCuts", unfollowed := true, recurses := true, plainKeys := false, apart := false, narrowed := true }
def FlowCutsUptoSaid : Prop := flowCutsUptoRow.holds Try.pinned (OpenSpec.upto flowCutsSpec)

/-- 'teamsterkeep.FlowDual', WHERE WHAT IT READS IS OF BULK AT MOST 1048576: true; the input reads as it did. -/
def flowDualUptoRow : OpenClaim := { program := "ythfgbgmkiggjmaa", sum := "fa1b0da75e46c9f7a04d21ae9bd40d87d125b42f27d437f82e01c0b97929b3e2", func := "teamster/teamsterkeep.FlowDual", spec := "flowDual", unfollowed := true, recurses := true, plainKeys := false, apart := false, narrowed := true }
def FlowDualUptoSaid : Prop := flowDualUptoRow.holds Try.pinned (OpenSpec.upto flowDualSpec)

/-- 'teamsterkeep.FlowMore', WHERE WHAT IT READS IS OF BULK AT MOST 1048576: true; the input reads as it did. -/
def flowMoreUptoRow : OpenClaim := { program := "ythfgbgmkiggjmaa", sum := "fa1b0da75e46c9f7a04d21ae9bd40d87d125b42f27d437f82e01c0b97929b3e2", func := "teamster/teamsterkeep.FlowMore", spec := "flowMore", unfollowed := true, recurses := true, plainKeys := false, apart := false, narrowed := true }
def FlowMoreUptoSaid : Prop := flowMoreUptoRow.holds Try.pinned (OpenSpec.upto flowMoreSpec)

end Rows
end Go.Proofs.Ythfgbgmkiggjmaa
