/-
  No cell of these rows narrows 'for every input' (looked for: loops, veiled, ifaces, maps, wideKeys, modest, calm, conditions, laid).
  DERIVED. THE GIVEN ROWS OF THIS SEAT. 12 by the template 'for every input the law returns true; each argument reads behind the call as it read before'; 0 by the template 'total and deterministic' (their statements: YtpcealcghglopaaTotals.lean).
  GIVEN WITH THE SEED: the statements are not yours to turn. If you find one false, say at which input.
  Laid BY PROGRAM, IN A SANDBOX (cutbox-rows.mjs): the forced cells as the released guide's own fill.sh prints them over the translation b58e1eb100e0fb06… (all of the seat's roots in one cut). By AI agents, Wed Nov 11 2026. No macro, syntax, notation, axiom, sorry.
-/
import Derived.Test.YtpcealcghglopaaChecked
import GoSem.Claim
import GoSem.ClaimJoined
import GoSem.ClaimMapViews
import Derived.JoinedTies
import Derived.KernelRfl
namespace Go.Proofs.Ytpcealcghglopaa
/- THE CELL 'sum', in the pinned program and in every row, IS THE sha256 OF THE DUMP (.gsa) THAT YtpcealcghglopaaProg.lean LOADS. Nothing in Lean hashes anything: it is a label: what it is worth is what the hold of that sum in a sandbox is worth. -/
noncomputable def Try.pinned : Pinned := { name := "ytpcealcghglopaa", sum := "b58e1eb100e0fb065df18a9fc9adafa7e697b500e69db66fa9d0660d1c4a74c8", checked := Try.checked }
namespace Rows
def none {H : Type} : Left H := { results := [], args := [] }

/-- 'teamsterlaw.ColourLeast': WHATEVER THE INPUT: true; the input reads as it did. -/
def colourLeastSpec : ChangeSpec := { name := "colourLeast", fn := fun _ => fun
  | [d] => { results := [.lit (.bool true)], args := [d] }
  | _ => none }
def colourLeastRow : OpenClaim := { program := "ytpcealcghglopaa", sum := "b58e1eb100e0fb065df18a9fc9adafa7e697b500e69db66fa9d0660d1c4a74c8", func := "teamster/teamsterlaw.ColourLeast", spec := "colourLeast", unfollowed := true, recurses := true, plainKeys := false, apart := false }
def ColourLeastSaid : Prop := colourLeastRow.holds Try.pinned (OpenSpec.ofChange colourLeastSpec)

/-- ITS FALSE NEIGHBOUR: 'it returns false'. Refute it at one input. -/
def colourLeastWrong : ChangeSpec := { name := "colourLeast", fn := fun _ => fun
  | [d] => { results := [.lit (.bool false)], args := [d] }
  | _ => none }
def ColourLeastWrongFalsely : Prop := colourLeastRow.holds Try.pinned (OpenSpec.ofChange colourLeastWrong)

/-- 'teamsterlaw.ColourGreedy': WHATEVER THE INPUT: true; the input reads as it did. -/
def colourGreedySpec : ChangeSpec := { name := "colourGreedy", fn := fun _ => fun
  | [d1, d2] => { results := [.lit (.bool true)], args := [d1, d2] }
  | _ => none }
def colourGreedyRow : OpenClaim := { program := "ytpcealcghglopaa", sum := "b58e1eb100e0fb065df18a9fc9adafa7e697b500e69db66fa9d0660d1c4a74c8", func := "teamster/teamsterlaw.ColourGreedy", spec := "colourGreedy", unfollowed := true, recurses := true, plainKeys := false, apart := false }
def ColourGreedySaid : Prop := colourGreedyRow.holds Try.pinned (OpenSpec.ofChange colourGreedySpec)

/-- ITS FALSE NEIGHBOUR: 'it returns false'. Refute it at one input. -/
def colourGreedyWrong : ChangeSpec := { name := "colourGreedy", fn := fun _ => fun
  | [d1, d2] => { results := [.lit (.bool false)], args := [d1, d2] }
  | _ => none }
def ColourGreedyWrongFalsely : Prop := colourGreedyRow.holds Try.pinned (OpenSpec.ofChange colourGreedyWrong)

/-- 'teamsterlaw.ColourCounts': WHATEVER THE INPUT: true; the input reads as it did. -/
def colourCountsSpec : ChangeSpec := { name := "colourCounts", fn := fun _ => fun
  | [d1, d2] => { results := [.lit (.bool true)], args := [d1, d2] }
  | _ => none }
def colourCountsRow : OpenClaim := { program := "ytpcealcghglopaa", sum := "b58e1eb100e0fb065df18a9fc9adafa7e697b500e69db66fa9d0660d1c4a74c8", func := "teamster/teamsterlaw.ColourCounts", spec := "colourCounts", unfollowed := true, recurses := true, plainKeys := false, apart := false }
def ColourCountsSaid : Prop := colourCountsRow.holds Try.pinned (OpenSpec.ofChange colourCountsSpec)

/-- ITS FALSE NEIGHBOUR: 'it returns false'. Refute it at one input. -/
def colourCountsWrong : ChangeSpec := { name := "colourCounts", fn := fun _ => fun
  | [d1, d2] => { results := [.lit (.bool false)], args := [d1, d2] }
  | _ => none }
def ColourCountsWrongFalsely : Prop := colourCountsRow.holds Try.pinned (OpenSpec.ofChange colourCountsWrong)

/-- 'teamsterlaw.ColourTurns': WHATEVER THE INPUT: true; the input reads as it did. -/
def colourTurnsSpec : ChangeSpec := { name := "colourTurns", fn := fun _ => fun
  | [d] => { results := [.lit (.bool true)], args := [d] }
  | _ => none }
def colourTurnsRow : OpenClaim := { program := "ytpcealcghglopaa", sum := "b58e1eb100e0fb065df18a9fc9adafa7e697b500e69db66fa9d0660d1c4a74c8", func := "teamster/teamsterlaw.ColourTurns", spec := "colourTurns", unfollowed := true, recurses := true, plainKeys := false, apart := false }
def ColourTurnsSaid : Prop := colourTurnsRow.holds Try.pinned (OpenSpec.ofChange colourTurnsSpec)

/-- ITS FALSE NEIGHBOUR: 'it returns false'. Refute it at one input. -/
def colourTurnsWrong : ChangeSpec := { name := "colourTurns", fn := fun _ => fun
  | [d] => { results := [.lit (.bool false)], args := [d] }
  | _ => none }
def ColourTurnsWrongFalsely : Prop := colourTurnsRow.holds Try.pinned (OpenSpec.ofChange colourTurnsWrong)

/-- 'teamsterkeep.ColourFew': WHATEVER THE INPUT: true; the input reads as it did. -/
def colourFewSpec : ChangeSpec := { name := "colourFew", fn := fun _ => fun
  | [d1, d2] => { results := [.lit (.bool true)], args := [d1, d2] }
  | _ => none }
def colourFewRow : OpenClaim := { program := "ytpcealcghglopaa", sum := "b58e1eb100e0fb065df18a9fc9adafa7e697b500e69db66fa9d0660d1c4a74c8", func := "teamster/teamsterkeep.ColourFew", spec := "colourFew", unfollowed := true, recurses := true, plainKeys := false, apart := false }
def ColourFewSaid : Prop := colourFewRow.holds Try.pinned (OpenSpec.ofChange colourFewSpec)

/-- ITS FALSE NEIGHBOUR: 'it returns false'. Refute it at one input. -/
def colourFewWrong : ChangeSpec := { name := "colourFew", fn := fun _ => fun
  | [d1, d2] => { results := [.lit (.bool false)], args := [d1, d2] }
  | _ => none }
def ColourFewWrongFalsely : Prop := colourFewRow.holds Try.pinned (OpenSpec.ofChange colourFewWrong)

/-- 'teamsterkeep.ColourBrooks': WHATEVER THE INPUT: true; the input reads as it did. -/
def colourBrooksSpec : ChangeSpec := { name := "colourBrooks", fn := fun _ => fun
  | [d] => { results := [.lit (.bool true)], args := [d] }
  | _ => none }
def colourBrooksRow : OpenClaim := { program := "ytpcealcghglopaa", sum := "b58e1eb100e0fb065df18a9fc9adafa7e697b500e69db66fa9d0660d1c4a74c8", func := "teamster/teamsterkeep.ColourBrooks", spec := "colourBrooks", unfollowed := true, recurses := true, plainKeys := false, apart := false }
def ColourBrooksSaid : Prop := colourBrooksRow.holds Try.pinned (OpenSpec.ofChange colourBrooksSpec)

/-- ITS FALSE NEIGHBOUR: 'it returns false'. Refute it at one input. -/
def colourBrooksWrong : ChangeSpec := { name := "colourBrooks", fn := fun _ => fun
  | [d] => { results := [.lit (.bool false)], args := [d] }
  | _ => none }
def ColourBrooksWrongFalsely : Prop := colourBrooksRow.holds Try.pinned (OpenSpec.ofChange colourBrooksWrong)

/-- 'teamsterkeep.ColourWelsh': WHATEVER THE INPUT: true; the input reads as it did. -/
def colourWelshSpec : ChangeSpec := { name := "colourWelsh", fn := fun _ => fun
  | [d1, d2] => { results := [.lit (.bool true)], args := [d1, d2] }
  | _ => none }
def colourWelshRow : OpenClaim := { program := "ytpcealcghglopaa", sum := "b58e1eb100e0fb065df18a9fc9adafa7e697b500e69db66fa9d0660d1c4a74c8", func := "teamster/teamsterkeep.ColourWelsh", spec := "colourWelsh", unfollowed := true, recurses := true, plainKeys := false, apart := false }
def ColourWelshSaid : Prop := colourWelshRow.holds Try.pinned (OpenSpec.ofChange colourWelshSpec)

/-- ITS FALSE NEIGHBOUR: 'it returns false'. Refute it at one input. -/
def colourWelshWrong : ChangeSpec := { name := "colourWelsh", fn := fun _ => fun
  | [d1, d2] => { results := [.lit (.bool false)], args := [d1, d2] }
  | _ => none }
def ColourWelshWrongFalsely : Prop := colourWelshRow.holds Try.pinned (OpenSpec.ofChange colourWelshWrong)

/-- 'teamsterkeep.ColourOrder': WHATEVER THE INPUT: true; the input reads as it did. -/
def colourOrderSpec : ChangeSpec := { name := "colourOrder", fn := fun _ => fun
  | [d] => { results := [.lit (.bool true)], args := [d] }
  | _ => none }
def colourOrderRow : OpenClaim := { program := "ytpcealcghglopaa", sum := "b58e1eb100e0fb065df18a9fc9adafa7e697b500e69db66fa9d0660d1c4a74c8", func := "teamster/teamsterkeep.ColourOrder", spec := "colourOrder", unfollowed := true, recurses := true, plainKeys := false, apart := false }
def ColourOrderSaid : Prop := colourOrderRow.holds Try.pinned (OpenSpec.ofChange colourOrderSpec)

/-- ITS FALSE NEIGHBOUR: 'it returns false'. Refute it at one input. -/
def colourOrderWrong : ChangeSpec := { name := "colourOrder", fn := fun _ => fun
  | [d] => { results := [.lit (.bool false)], args := [d] }
  | _ => none }
def ColourOrderWrongFalsely : Prop := colourOrderRow.holds Try.pinned (OpenSpec.ofChange colourOrderWrong)

/-- 'teamsterkeep.ColourRoy': WHATEVER THE INPUT: true; the input reads as it did. -/
def colourRoySpec : ChangeSpec := { name := "colourRoy", fn := fun _ => fun
  | [d1, d2] => { results := [.lit (.bool true)], args := [d1, d2] }
  | _ => none }
def colourRoyRow : OpenClaim := { program := "ytpcealcghglopaa", sum := "b58e1eb100e0fb065df18a9fc9adafa7e697b500e69db66fa9d0660d1c4a74c8", func := "teamster/teamsterkeep.ColourRoy", spec := "colourRoy", unfollowed := true, recurses := true, plainKeys := false, apart := false }
def ColourRoySaid : Prop := colourRoyRow.holds Try.pinned (OpenSpec.ofChange colourRoySpec)

/-- ITS FALSE NEIGHBOUR: 'it returns false'. Refute it at one input. -/
def colourRoyWrong : ChangeSpec := { name := "colourRoy", fn := fun _ => fun
  | [d1, d2] => { results := [.lit (.bool false)], args := [d1, d2] }
  | _ => none }
def ColourRoyWrongFalsely : Prop := colourRoyRow.holds Try.pinned (OpenSpec.ofChange colourRoyWrong)

/-- 'teamsterkeep.ColourWhitney': WHATEVER THE INPUT: true; the input reads as it did. -/
def colourWhitneySpec : ChangeSpec := { name := "colourWhitney", fn := fun _ => fun
  | [d1, d2, d3] => { results := [.lit (.bool true)], args := [d1, d2, d3] }
  | _ => none }
def colourWhitneyRow : OpenClaim := { program := "ytpcealcghglopaa", sum := "b58e1eb100e0fb065df18a9fc9adafa7e697b500e69db66fa9d0660d1c4a74c8", func := "teamster/teamsterkeep.ColourWhitney", spec := "colourWhitney", unfollowed := true, recurses := true, plainKeys := false, apart := false }
def ColourWhitneySaid : Prop := colourWhitneyRow.holds Try.pinned (OpenSpec.ofChange colourWhitneySpec)

/-- ITS FALSE NEIGHBOUR: 'it returns false'. Refute it at one input. -/
def colourWhitneyWrong : ChangeSpec := { name := "colourWhitney", fn := fun _ => fun
  | [d1, d2, d3] => { results := [.lit (.bool false)], args := [d1, d2, d3] }
  | _ => none }
def ColourWhitneyWrongFalsely : Prop := colourWhitneyRow.holds Try.pinned (OpenSpec.ofChange colourWhitneyWrong)

/-- 'teamsterkeep.ColourZero': WHATEVER THE INPUT: true; the input reads as it did. -/
def colourZeroSpec : ChangeSpec := { name := "colourZero", fn := fun _ => fun
  | [d1, d2] => { results := [.lit (.bool true)], args := [d1, d2] }
  | _ => none }
def colourZeroRow : OpenClaim := { program := "ytpcealcghglopaa", sum := "b58e1eb100e0fb065df18a9fc9adafa7e697b500e69db66fa9d0660d1c4a74c8", func := "teamster/teamsterkeep.ColourZero", spec := "colourZero", unfollowed := true, recurses := true, plainKeys := false, apart := false }
def ColourZeroSaid : Prop := colourZeroRow.holds Try.pinned (OpenSpec.ofChange colourZeroSpec)

/-- ITS FALSE NEIGHBOUR: 'it returns false'. Refute it at one input. -/
def colourZeroWrong : ChangeSpec := { name := "colourZero", fn := fun _ => fun
  | [d1, d2] => { results := [.lit (.bool false)], args := [d1, d2] }
  | _ => none }
def ColourZeroWrongFalsely : Prop := colourZeroRow.holds Try.pinned (OpenSpec.ofChange colourZeroWrong)

/-- 'teamsterkeep.ColourStanley': WHATEVER THE INPUT: true; the input reads as it did. -/
def colourStanleySpec : ChangeSpec := { name := "colourStanley", fn := fun _ => fun
  | [d] => { results := [.lit (.bool true)], args := [d] }
  | _ => none }
def colourStanleyRow : OpenClaim := { program := "ytpcealcghglopaa", sum := "b58e1eb100e0fb065df18a9fc9adafa7e697b500e69db66fa9d0660d1c4a74c8", func := "teamster/teamsterkeep.ColourStanley", spec := "colourStanley", unfollowed := true, recurses := true, plainKeys := false, apart := false }
def ColourStanleySaid : Prop := colourStanleyRow.holds Try.pinned (OpenSpec.ofChange colourStanleySpec)

/-- ITS FALSE NEIGHBOUR: 'it returns false'. Refute it at one input. -/
def colourStanleyWrong : ChangeSpec := { name := "colourStanley", fn := fun _ => fun
  | [d] => { results := [.lit (.bool false)], args := [d] }
  | _ => none }
def ColourStanleyWrongFalsely : Prop := colourStanleyRow.holds Try.pinned (OpenSpec.ofChange colourStanleyWrong)

/- THE SECOND FORM. 'bulk': how many values and letters a reading holds, each counted each time it is reached (what is shared counts as often as it is met; a slice's spare places count too). A statement '..UptoSaid' is the law's where the arguments, and the package variables that the reading takes, are together of bulk at most 1048576: NARROWER than '..Said'. Prove '..Said' where nothing that the law and all that it calls make is longer than what came in: it says more and counts as full. Else prove '..UptoSaid'. A law counts once. -/
mutual
def uptoBulk {H : Type} : DataW H → Nat
  | .lit (.string bytes) => bytes.length + 1
  | .lit _ => 1
  | .nil => 1
  | .ptr d => uptoBulk d + 1
  | .slice elems spare => uptoBulkAll elems + uptoBulkAll spare + 1
  | .agg parts => uptoBulkAll parts + 1
  | .iface _ d => uptoBulk d + 1
  | .map entries => uptoBulkEntries entries + 1
  | .held _ => 1
def uptoBulkAll {H : Type} : List (DataW H) → Nat
  | [] => 0
  | d :: r => uptoBulk d + uptoBulkAll r
def uptoBulkEntries {H : Type} : List (Lit × DataW H) → Nat
  | [] => 0
  | x :: r => uptoBulkEntry x + uptoBulkEntries r
def uptoBulkEntry {H : Type} : Lit × DataW H → Nat
  | (.string bytes, d) => bytes.length + uptoBulk d + 1
  | (_, d) => uptoBulk d + 1
 end
def uptoSmall : (H : Type) → List (DataW H) → Bool := fun _ ds => decide (uptoBulkAll ds ≤ 1048576)
def OpenSpec.upto (s : _root_.Go.ChangeSpec) : _root_.Go.OpenSpec := { _root_.Go.OpenSpec.ofChange s with cond := some uptoSmall }

/-- 'teamsterlaw.ColourLeast', WHERE WHAT IT READS IS OF BULK AT MOST 1048576: true; the input reads as it did. -/
def colourLeastUptoRow : OpenClaim := { program := "ytpcealcghglopaa", sum := "b58e1eb100e0fb065df18a9fc9adafa7e697b500e69db66fa9d0660d1c4a74c8", func := "teamster/teamsterlaw.ColourLeast", spec := "colourLeast", unfollowed := true, recurses := true, plainKeys := false, apart := false, narrowed := true }
def ColourLeastUptoSaid : Prop := colourLeastUptoRow.holds Try.pinned (OpenSpec.upto colourLeastSpec)

/-- 'teamsterlaw.ColourGreedy', WHERE WHAT IT READS IS OF BULK AT MOST 1048576: true; the input reads as it did. -/
def colourGreedyUptoRow : OpenClaim := { program := "ytpcealcghglopaa", sum := "b58e1eb100e0fb065df18a9fc9adafa7e697b500e69db66fa9d0660d1c4a74c8", func := "teamster/teamsterlaw.ColourGreedy", spec := "colourGreedy", unfollowed := true, recurses := true, plainKeys := false, apart := false, narrowed := true }
def ColourGreedyUptoSaid : Prop := colourGreedyUptoRow.holds Try.pinned (OpenSpec.upto colourGreedySpec)

/-- 'teamsterlaw.ColourCounts', WHERE WHAT IT READS IS OF BULK AT MOST 1048576: true; the input reads as it did. -/
def colourCountsUptoRow : OpenClaim := { program := "ytpcealcghglopaa", sum := "b58e1eb100e0fb065df18a9fc9adafa7e697b500e69db66fa9d0660d1c4a74c8", func := "teamster/teamsterlaw.ColourCounts", spec := "colourCounts", unfollowed := true, recurses := true, plainKeys := false, apart := false, narrowed := true }
def ColourCountsUptoSaid : Prop := colourCountsUptoRow.holds Try.pinned (OpenSpec.upto colourCountsSpec)

/-- 'teamsterlaw.ColourTurns', WHERE WHAT IT READS IS OF BULK AT MOST 1048576: true; the input reads as it did. -/
def colourTurnsUptoRow : OpenClaim := { program := "ytpcealcghglopaa", sum := "b58e1eb100e0fb065df18a9fc9adafa7e697b500e69db66fa9d0660d1c4a74c8", func := "teamster/teamsterlaw.ColourTurns", spec := "colourTurns", unfollowed := true, recurses := true, plainKeys := false, apart := false, narrowed := true }
def ColourTurnsUptoSaid : Prop := colourTurnsUptoRow.holds Try.pinned (OpenSpec.upto colourTurnsSpec)

/-- 'teamsterkeep.ColourFew', WHERE WHAT IT READS IS OF BULK AT MOST 1048576: true; the input reads as it did. -/
def colourFewUptoRow : OpenClaim := { program := "ytpcealcghglopaa", sum := "b58e1eb100e0fb065df18a9fc9adafa7e697b500e69db66fa9d0660d1c4a74c8", func := "teamster/teamsterkeep.ColourFew", spec := "colourFew", unfollowed := true, recurses := true, plainKeys := false, apart := false, narrowed := true }
def ColourFewUptoSaid : Prop := colourFewUptoRow.holds Try.pinned (OpenSpec.upto colourFewSpec)

/-- 'teamsterkeep.ColourBrooks', WHERE WHAT IT READS IS OF BULK AT MOST 1048576: true; the input reads as it did. -/
def colourBrooksUptoRow : OpenClaim := { program := "ytpcealcghglopaa", sum := "b58e1eb100e0fb065df18a9fc9adafa7e697b500e69db66fa9d0660d1c4a74c8", func := "teamster/teamsterkeep.ColourBrooks", spec := "colourBrooks", unfollowed := true, recurses := true, plainKeys := false, apart := false, narrowed := true }
def ColourBrooksUptoSaid : Prop := colourBrooksUptoRow.holds Try.pinned (OpenSpec.upto colourBrooksSpec)

/-- 'teamsterkeep.ColourWelsh', WHERE WHAT IT READS IS OF BULK AT MOST 1048576: true; the input reads as it did. -/
def colourWelshUptoRow : OpenClaim := { program := "ytpcealcghglopaa", sum := "b58e1eb100e0fb065df18a9fc9adafa7e697b500e69db66fa9d0660d1c4a74c8", func := "teamster/teamsterkeep.ColourWelsh", spec := "colourWelsh", unfollowed := true, recurses := true, plainKeys := false, apart := false, narrowed := true }
def ColourWelshUptoSaid : Prop := colourWelshUptoRow.holds Try.pinned (OpenSpec.upto colourWelshSpec)

/-- 'teamsterkeep.ColourOrder', WHERE WHAT IT READS IS OF BULK AT MOST 1048576: true; the input reads as it did. -/
def colourOrderUptoRow : OpenClaim := { program := "ytpcealcghglopaa", sum := "b58e1eb100e0fb065df18a9fc9adafa7e697b500e69db66fa9d0660d1c4a74c8", func := "teamster/teamsterkeep.ColourOrder", spec := "colourOrder", unfollowed := true, recurses := true, plainKeys := false, apart := false, narrowed := true }
def ColourOrderUptoSaid : Prop := colourOrderUptoRow.holds Try.pinned (OpenSpec.upto colourOrderSpec)

/-- 'teamsterkeep.ColourRoy', WHERE WHAT IT READS IS OF BULK AT MOST 1048576: true; the input reads as it did. -/
def colourRoyUptoRow : OpenClaim := { program := "ytpcealcghglopaa", sum := "b58e1eb100e0fb065df18a9fc9adafa7e697b500e69db66fa9d0660d1c4a74c8", func := "teamster/teamsterkeep.ColourRoy", spec := "colourRoy", unfollowed := true, recurses := true, plainKeys := false, apart := false, narrowed := true }
def ColourRoyUptoSaid : Prop := colourRoyUptoRow.holds Try.pinned (OpenSpec.upto colourRoySpec)

/-- 'teamsterkeep.ColourWhitney', WHERE WHAT IT READS IS OF BULK AT MOST 1048576: true; the input reads as it did. -/
def colourWhitneyUptoRow : OpenClaim := { program := "ytpcealcghglopaa", sum := "b58e1eb100e0fb065df18a9fc9adafa7e697b500e69db66fa9d0660d1c4a74c8", func := "teamster/teamsterkeep.ColourWhitney", spec := "colourWhitney", unfollowed := true, recurses := true, plainKeys := false, apart := false, narrowed := true }
def ColourWhitneyUptoSaid : Prop := colourWhitneyUptoRow.holds Try.pinned (OpenSpec.upto colourWhitneySpec)

/-- 'teamsterkeep.ColourZero', WHERE WHAT IT READS IS OF BULK AT MOST 1048576: true; the input reads as it did. -/
def colourZeroUptoRow : OpenClaim := { program := "ytpcealcghglopaa", sum := "b58e1eb100e0fb065df18a9fc9adafa7e697b500e69db66fa9d0660d1c4a74c8", func := "teamster/teamsterkeep.ColourZero", spec := "colourZero", unfollowed := true, recurses := true, plainKeys := false, apart := false, narrowed := true }
def ColourZeroUptoSaid : Prop := colourZeroUptoRow.holds Try.pinned (OpenSpec.upto colourZeroSpec)

/-- 'teamsterkeep.ColourStanley', WHERE WHAT IT READS IS OF BULK AT MOST 1048576: true; the input reads as it did. -/
def colourStanleyUptoRow : OpenClaim := { program := "ytpcealcghglopaa", sum := "b58e1eb100e0fb065df18a9fc9adafa7e697b500e69db66fa9d0660d1c4a74c8", func := "teamster/teamsterkeep.ColourStanley", spec := "colourStanley", unfollowed := true, recurses := true, plainKeys := false, apart := false, narrowed := true }
def ColourStanleyUptoSaid : Prop := colourStanleyUptoRow.holds Try.pinned (OpenSpec.upto colourStanleySpec)

end Rows
end Go.Proofs.Ytpcealcghglopaa
