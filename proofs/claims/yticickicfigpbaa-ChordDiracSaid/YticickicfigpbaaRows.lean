/-
  No cell of these rows narrows 'for every input' (looked for: loops, veiled, ifaces, maps, wideKeys, modest, calm, conditions, laid).
  DERIVED. THE GIVEN ROWS OF THIS SEAT. 4 by the template 'for every input the law returns true; each argument reads behind the call as it read before'; 0 by the template 'total and deterministic' (their statements: YticickicfigpbaaTotals.lean).
  GIVEN WITH THE SEED: the statements are not yours to turn. If you find one false, say at which input.
  Laid BY PROGRAM, IN A SANDBOX (cutbox-rows.mjs): the forced cells as the released guide's own fill.sh prints them over the translation 9f3ada13d8726104… (all of the seat's roots in one cut). By AI agents, Wed Nov 11 2026. No macro, syntax, notation, axiom, sorry.
-/
import Derived.Test.YticickicfigpbaaChecked
import GoSem.Claim
import GoSem.ClaimJoined
import GoSem.ClaimMapViews
import Derived.JoinedTies
import Derived.KernelRfl
namespace Go.Proofs.Yticickicfigpbaa
/- THE CELL 'sum', in the pinned program and in every row, IS THE sha256 OF THE DUMP (.gsa) THAT YticickicfigpbaaProg.lean LOADS. Nothing in Lean hashes anything: it is a label: what it is worth is what the hold of that sum in a sandbox is worth. -/
noncomputable def Try.pinned : Pinned := { name := "yticickicfigpbaa", sum := "9f3ada13d8726104d6734f1403110ecd9e53501af39db063fcf426686dfbb7c8", checked := Try.checked }
namespace Rows
def none {H : Type} : Left H := { results := [], args := [] }

/-- 'teamsterlaw.ChordOrders': WHATEVER THE INPUT: true; the input reads as it did. -/
def chordOrdersSpec : ChangeSpec := { name := "chordOrders", fn := fun _ => fun
  | [d] => { results := [.lit (.bool true)], args := [d] }
  | _ => none }
def chordOrdersRow : OpenClaim := { program := "yticickicfigpbaa", sum := "9f3ada13d8726104d6734f1403110ecd9e53501af39db063fcf426686dfbb7c8", func := "teamster/teamsterlaw.ChordOrders", spec := "chordOrders", unfollowed := true, recurses := true, plainKeys := false, apart := false }
def ChordOrdersSaid : Prop := chordOrdersRow.holds Try.pinned (OpenSpec.ofChange chordOrdersSpec)

/-- ITS FALSE NEIGHBOUR: 'it returns false'. Refute it at one input. -/
def chordOrdersWrong : ChangeSpec := { name := "chordOrders", fn := fun _ => fun
  | [d] => { results := [.lit (.bool false)], args := [d] }
  | _ => none }
def ChordOrdersWrongFalsely : Prop := chordOrdersRow.holds Try.pinned (OpenSpec.ofChange chordOrdersWrong)

/-- 'teamsterlaw.ChordRings': WHATEVER THE INPUT: true; the input reads as it did. -/
def chordRingsSpec : ChangeSpec := { name := "chordRings", fn := fun _ => fun
  | [d] => { results := [.lit (.bool true)], args := [d] }
  | _ => none }
def chordRingsRow : OpenClaim := { program := "yticickicfigpbaa", sum := "9f3ada13d8726104d6734f1403110ecd9e53501af39db063fcf426686dfbb7c8", func := "teamster/teamsterlaw.ChordRings", spec := "chordRings", unfollowed := true, recurses := true, plainKeys := false, apart := false }
def ChordRingsSaid : Prop := chordRingsRow.holds Try.pinned (OpenSpec.ofChange chordRingsSpec)

/-- ITS FALSE NEIGHBOUR: 'it returns false'. Refute it at one input. -/
def chordRingsWrong : ChangeSpec := { name := "chordRings", fn := fun _ => fun
  | [d] => { results := [.lit (.bool false)], args := [d] }
  | _ => none }
def ChordRingsWrongFalsely : Prop := chordRingsRow.holds Try.pinned (OpenSpec.ofChange chordRingsWrong)

/-- 'teamsterkeep.ChordDirac': WHATEVER THE INPUT: true; the input reads as it did. -/
def chordDiracSpec : ChangeSpec := { name := "chordDirac", fn := fun _ => fun
  | [d] => { results := [.lit (.bool true)], args := [d] }
  | _ => none }
def chordDiracRow : OpenClaim := { program := "yticickicfigpbaa", sum := "9f3ada13d8726104d6734f1403110ecd9e53501af39db063fcf426686dfbb7c8", func := "teamster/teamsterkeep.ChordDirac", spec := "chordDirac", unfollowed := true, recurses := true, plainKeys := false, apart := false }
def ChordDiracSaid : Prop := chordDiracRow.holds Try.pinned (OpenSpec.ofChange chordDiracSpec)

/-- ITS FALSE NEIGHBOUR: 'it returns false'. Refute it at one input. -/
def chordDiracWrong : ChangeSpec := { name := "chordDirac", fn := fun _ => fun
  | [d] => { results := [.lit (.bool false)], args := [d] }
  | _ => none }
def ChordDiracWrongFalsely : Prop := chordDiracRow.holds Try.pinned (OpenSpec.ofChange chordDiracWrong)

/-- 'teamsterkeep.ChordPerfect': WHATEVER THE INPUT: true; the input reads as it did. -/
def chordPerfectSpec : ChangeSpec := { name := "chordPerfect", fn := fun _ => fun
  | [d] => { results := [.lit (.bool true)], args := [d] }
  | _ => none }
def chordPerfectRow : OpenClaim := { program := "yticickicfigpbaa", sum := "9f3ada13d8726104d6734f1403110ecd9e53501af39db063fcf426686dfbb7c8", func := "teamster/teamsterkeep.ChordPerfect", spec := "chordPerfect", unfollowed := true, recurses := true, plainKeys := false, apart := false }
def ChordPerfectSaid : Prop := chordPerfectRow.holds Try.pinned (OpenSpec.ofChange chordPerfectSpec)

/-- ITS FALSE NEIGHBOUR: 'it returns false'. Refute it at one input. -/
def chordPerfectWrong : ChangeSpec := { name := "chordPerfect", fn := fun _ => fun
  | [d] => { results := [.lit (.bool false)], args := [d] }
  | _ => none }
def ChordPerfectWrongFalsely : Prop := chordPerfectRow.holds Try.pinned (OpenSpec.ofChange chordPerfectWrong)

/- THE SECOND FORM. 'bulk': how many values and letters a reading holds, each counted each time it is reached (what is shared counts as often as it is met; a slice's spare places count too). A statement '..UptoSaid' is the law's where the arguments, and the package variables that the reading takes, are together of bulk at most 1048576: NARROWER than '..Said'. Prove '..Said' where nothing that the law and all that it calls make is longer than what came in: it says more and counts as full. Else prove '..UptoSaid'. A law counts once. -/
mutual
def uptoBulk {H : Type} : DataW H → Nat
  | .lit (.string bytes) => bytes.length + 1
  | .lit _ => 1
  | .nil => 1
  | .ptr d => uptoBulk d + 1
  | .slice elems spare => uptoBulkAll elems + uptoBulkAll spare + 1
  | .agg parts => uptoBulkAll parts + 1
  | .iface _ d => uptoBulk d + 1
  | .map entries => uptoBulkEntries entries + 1
  | .held _ => 1
def uptoBulkAll {H : Type} : List (DataW H) → Nat
  | [] => 0
  | d :: r => uptoBulk d + uptoBulkAll r
def uptoBulkEntries {H : Type} : List (Lit × DataW H) → Nat
  | [] => 0
  | x :: r => uptoBulkEntry x + uptoBulkEntries r
def uptoBulkEntry {H : Type} : Lit × DataW H → Nat
  | (.string bytes, d) => bytes.length + uptoBulk d + 1
  | (_, d) => uptoBulk d + 1
 end
def uptoSmall : (H : Type) → List (DataW H) → Bool := fun _ ds => decide (uptoBulkAll ds ≤ 1048576)
def OpenSpec.upto (s : _root_.Go.ChangeSpec) : _root_.Go.OpenSpec := { _root_.Go.OpenSpec.ofChange s with cond := some uptoSmall }

/-- 'teamsterlaw.ChordOrders', WHERE WHAT IT READS IS OF BULK AT MOST 1048576: true; the input reads as it did. -/
def chordOrdersUptoRow : OpenClaim := { program := "yticickicfigpbaa", sum := "9f3ada13d8726104d6734f1403110ecd9e53501af39db063fcf426686dfbb7c8", func := "teamster/teamsterlaw.ChordOrders", spec := "chordOrders", unfollowed := true, recurses := true, plainKeys := false, apart := false, narrowed := true }
def ChordOrdersUptoSaid : Prop := chordOrdersUptoRow.holds Try.pinned (OpenSpec.upto chordOrdersSpec)

/-- 'teamsterlaw.ChordRings', WHERE WHAT IT READS IS OF BULK AT MOST 1048576: true; the input reads as it did. -/
def chordRingsUptoRow : OpenClaim := { program := "yticickicfigpbaa", sum := "9f3ada13d8726104d6734f1403110ecd9e53501af39db063fcf426686dfbb7c8", func := "teamster/teamsterlaw.ChordRings", spec := "chordRings", unfollowed := true, recurses := true, plainKeys := false, apart := false, narrowed := true }
def ChordRingsUptoSaid : Prop := chordRingsUptoRow.holds Try.pinned (OpenSpec.upto chordRingsSpec)

/-- 'teamsterkeep.ChordDirac', WHERE WHAT IT READS IS OF BULK AT MOST 1048576: true; the input reads as it did. -/
def chordDiracUptoRow : OpenClaim := { program := "yticickicfigpbaa", sum := "9f3ada13d8726104d6734f1403110ecd9e53501af39db063fcf426686dfbb7c8", func := "teamster/teamsterkeep.ChordDirac", spec := "chordDirac", unfollowed := true, recurses := true, plainKeys := false, apart := false, narrowed := true }
def ChordDiracUptoSaid : Prop := chordDiracUptoRow.holds Try.pinned (OpenSpec.upto chordDiracSpec)

/-- 'teamsterkeep.ChordPerfect', WHERE WHAT IT READS IS OF BULK AT MOST 1048576: true; the input reads as it did. -/
def chordPerfectUptoRow : OpenClaim := { program := "yticickicfigpbaa", sum := "9f3ada13d8726104d6734f1403110ecd9e53501af39db063fcf426686dfbb7c8", func := "teamster/teamsterkeep.ChordPerfect", spec := "chordPerfect", unfollowed := true, recurses := true, plainKeys := false, apart := false, narrowed := true }
def ChordPerfectUptoSaid : Prop := chordPerfectUptoRow.holds Try.pinned (OpenSpec.upto chordPerfectSpec)

end Rows
end Go.Proofs.Yticickicfigpbaa
