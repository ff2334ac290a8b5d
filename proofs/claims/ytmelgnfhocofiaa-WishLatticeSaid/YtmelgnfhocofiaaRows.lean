/-
  No cell of these rows narrows 'for every input' (looked for: loops, veiled, ifaces, maps, wideKeys, modest, calm, conditions, laid).
  DERIVED. THE GIVEN ROWS OF THIS SEAT. 8 by the template 'for every input the law returns true; each argument reads behind the call as it read before'; 0 by the template 'total and deterministic' (their statements: YtmelgnfhocofiaaTotals.lean).
  GIVEN WITH THE SEED: the statements are not yours to turn. If you find one false, say at which input.
  Laid BY PROGRAM, IN A SANDBOX (cutbox-rows.mjs): the forced cells as the released guide's own fill.sh prints them over the translation 00677338cdf3a3f5… (all of the seat's roots in one cut). By AI agents, Wed Nov 11 2026. No macro, syntax, notation, axiom, sorry.
-/
import Derived.Test.YtmelgnfhocofiaaChecked
import GoSem.Claim
import GoSem.ClaimJoined
import GoSem.ClaimMapViews
import Derived.JoinedTies
import Derived.KernelRfl
namespace Go.Proofs.Ytmelgnfhocofiaa
/- THE CELL 'sum', in the pinned program and in every row, IS THE sha256 OF THE DUMP (.gsa) THAT YtmelgnfhocofiaaProg.lean LOADS. Nothing in Lean hashes anything: it is a label: what it is worth is what the hold of that sum in a sandbox is worth. -/
noncomputable def Try.pinned : Pinned := { name := "ytmelgnfhocofiaa", sum := "00677338cdf3a3f534682c9f5a81c2aacb15a7d1637f9f8a636a0a2b8327f126", checked := Try.checked }
namespace Rows
def none {H : Type} : Left H := { results := [], args := [] }

/-- 'teamsterlaw.WishChecks': WHATEVER THE INPUT: true; the input reads as it did. -/
def wishChecksSpec : ChangeSpec := { name := "wishChecks", fn := fun _ => fun
  | [d] => { results := [.lit (.bool true)], args := [d] }
  | _ => none }
def wishChecksRow : OpenClaim := { program := "ytmelgnfhocofiaa", sum := "00677338cdf3a3f534682c9f5a81c2aacb15a7d1637f9f8a636a0a2b8327f126", func := "teamster/teamsterlaw.WishChecks", spec := "wishChecks", apart := false }
def WishChecksSaid : Prop := wishChecksRow.holds Try.pinned (OpenSpec.ofChange wishChecksSpec)

/-- ITS FALSE NEIGHBOUR: 'it returns false'. Refute it at one input. -/
def wishChecksWrong : ChangeSpec := { name := "wishChecks", fn := fun _ => fun
  | [d] => { results := [.lit (.bool false)], args := [d] }
  | _ => none }
def WishChecksWrongFalsely : Prop := wishChecksRow.holds Try.pinned (OpenSpec.ofChange wishChecksWrong)

/-- 'teamsterlaw.WishHolds': WHATEVER THE INPUT: true; the input reads as it did. -/
def wishHoldsSpec : ChangeSpec := { name := "wishHolds", fn := fun _ => fun
  | [d1, d2] => { results := [.lit (.bool true)], args := [d1, d2] }
  | _ => none }
def wishHoldsRow : OpenClaim := { program := "ytmelgnfhocofiaa", sum := "00677338cdf3a3f534682c9f5a81c2aacb15a7d1637f9f8a636a0a2b8327f126", func := "teamster/teamsterlaw.WishHolds", spec := "wishHolds", unfollowed := true, recurses := true, apart := false }
def WishHoldsSaid : Prop := wishHoldsRow.holds Try.pinned (OpenSpec.ofChange wishHoldsSpec)

/-- ITS FALSE NEIGHBOUR: 'it returns false'. Refute it at one input. -/
def wishHoldsWrong : ChangeSpec := { name := "wishHolds", fn := fun _ => fun
  | [d1, d2] => { results := [.lit (.bool false)], args := [d1, d2] }
  | _ => none }
def WishHoldsWrongFalsely : Prop := wishHoldsRow.holds Try.pinned (OpenSpec.ofChange wishHoldsWrong)

/-- 'teamsterlaw.WishPairs': WHATEVER THE INPUT: true; the input reads as it did. -/
def wishPairsSpec : ChangeSpec := { name := "wishPairs", fn := fun _ => fun
  | [d] => { results := [.lit (.bool true)], args := [d] }
  | _ => none }
def wishPairsRow : OpenClaim := { program := "ytmelgnfhocofiaa", sum := "00677338cdf3a3f534682c9f5a81c2aacb15a7d1637f9f8a636a0a2b8327f126", func := "teamster/teamsterlaw.WishPairs", spec := "wishPairs", unfollowed := true, recurses := true, apart := false }
def WishPairsSaid : Prop := wishPairsRow.holds Try.pinned (OpenSpec.ofChange wishPairsSpec)

/-- ITS FALSE NEIGHBOUR: 'it returns false'. Refute it at one input. -/
def wishPairsWrong : ChangeSpec := { name := "wishPairs", fn := fun _ => fun
  | [d] => { results := [.lit (.bool false)], args := [d] }
  | _ => none }
def WishPairsWrongFalsely : Prop := wishPairsRow.holds Try.pinned (OpenSpec.ofChange wishPairsWrong)

/-- 'teamsterlaw.WishAlls': WHATEVER THE INPUT: true; the input reads as it did. -/
def wishAllsSpec : ChangeSpec := { name := "wishAlls", fn := fun _ => fun
  | [d] => { results := [.lit (.bool true)], args := [d] }
  | _ => none }
def wishAllsRow : OpenClaim := { program := "ytmelgnfhocofiaa", sum := "00677338cdf3a3f534682c9f5a81c2aacb15a7d1637f9f8a636a0a2b8327f126", func := "teamster/teamsterlaw.WishAlls", spec := "wishAlls", unfollowed := true, recurses := true, apart := false }
def WishAllsSaid : Prop := wishAllsRow.holds Try.pinned (OpenSpec.ofChange wishAllsSpec)

/-- ITS FALSE NEIGHBOUR: 'it returns false'. Refute it at one input. -/
def wishAllsWrong : ChangeSpec := { name := "wishAlls", fn := fun _ => fun
  | [d] => { results := [.lit (.bool false)], args := [d] }
  | _ => none }
def WishAllsWrongFalsely : Prop := wishAllsRow.holds Try.pinned (OpenSpec.ofChange wishAllsWrong)

/-- 'teamsterkeep.WishStable': WHATEVER THE INPUT: true; the input reads as it did. -/
def wishStableSpec : ChangeSpec := { name := "wishStable", fn := fun _ => fun
  | [d] => { results := [.lit (.bool true)], args := [d] }
  | _ => none }
def wishStableRow : OpenClaim := { program := "ytmelgnfhocofiaa", sum := "00677338cdf3a3f534682c9f5a81c2aacb15a7d1637f9f8a636a0a2b8327f126", func := "teamster/teamsterkeep.WishStable", spec := "wishStable", unfollowed := true, recurses := true, apart := false }
def WishStableSaid : Prop := wishStableRow.holds Try.pinned (OpenSpec.ofChange wishStableSpec)

/-- ITS FALSE NEIGHBOUR: 'it returns false'. Refute it at one input. -/
def wishStableWrong : ChangeSpec := { name := "wishStable", fn := fun _ => fun
  | [d] => { results := [.lit (.bool false)], args := [d] }
  | _ => none }
def WishStableWrongFalsely : Prop := wishStableRow.holds Try.pinned (OpenSpec.ofChange wishStableWrong)

/-- 'teamsterkeep.WishBest': WHATEVER THE INPUT: true; the input reads as it did. -/
def wishBestSpec : ChangeSpec := { name := "wishBest", fn := fun _ => fun
  | [d1, d2] => { results := [.lit (.bool true)], args := [d1, d2] }
  | _ => none }
def wishBestRow : OpenClaim := { program := "ytmelgnfhocofiaa", sum := "00677338cdf3a3f534682c9f5a81c2aacb15a7d1637f9f8a636a0a2b8327f126", func := "teamster/teamsterkeep.WishBest", spec := "wishBest", unfollowed := true, recurses := true, apart := false }
def WishBestSaid : Prop := wishBestRow.holds Try.pinned (OpenSpec.ofChange wishBestSpec)

/-- ITS FALSE NEIGHBOUR: 'it returns false'. Refute it at one input. -/
def wishBestWrong : ChangeSpec := { name := "wishBest", fn := fun _ => fun
  | [d1, d2] => { results := [.lit (.bool false)], args := [d1, d2] }
  | _ => none }
def WishBestWrongFalsely : Prop := wishBestRow.holds Try.pinned (OpenSpec.ofChange wishBestWrong)

/-- 'teamsterkeep.WishRural': WHATEVER THE INPUT: true; the input reads as it did. -/
def wishRuralSpec : ChangeSpec := { name := "wishRural", fn := fun _ => fun
  | [d] => { results := [.lit (.bool true)], args := [d] }
  | _ => none }
def wishRuralRow : OpenClaim := { program := "ytmelgnfhocofiaa", sum := "00677338cdf3a3f534682c9f5a81c2aacb15a7d1637f9f8a636a0a2b8327f126", func := "teamster/teamsterkeep.WishRural", spec := "wishRural", unfollowed := true, recurses := true, apart := false }
def WishRuralSaid : Prop := wishRuralRow.holds Try.pinned (OpenSpec.ofChange wishRuralSpec)

/-- ITS FALSE NEIGHBOUR: 'it returns false'. Refute it at one input. -/
def wishRuralWrong : ChangeSpec := { name := "wishRural", fn := fun _ => fun
  | [d] => { results := [.lit (.bool false)], args := [d] }
  | _ => none }
def WishRuralWrongFalsely : Prop := wishRuralRow.holds Try.pinned (OpenSpec.ofChange wishRuralWrong)

/-- 'teamsterkeep.WishLattice': WHATEVER THE INPUT: true; the input reads as it did. -/
def wishLatticeSpec : ChangeSpec := { name := "wishLattice", fn := fun _ => fun
  | [d1, d2, d3] => { results := [.lit (.bool true)], args := [d1, d2, d3] }
  | _ => none }
def wishLatticeRow : OpenClaim := { program := "ytmelgnfhocofiaa", sum := "00677338cdf3a3f534682c9f5a81c2aacb15a7d1637f9f8a636a0a2b8327f126", func := "teamster/teamsterkeep.WishLattice", spec := "wishLattice", unfollowed := true, recurses := true, apart := false }
def WishLatticeSaid : Prop := wishLatticeRow.holds Try.pinned (OpenSpec.ofChange wishLatticeSpec)

/-- ITS FALSE NEIGHBOUR: 'it returns false'. Refute it at one input. -/
def wishLatticeWrong : ChangeSpec := { name := "wishLattice", fn := fun _ => fun
  | [d1, d2, d3] => { results := [.lit (.bool false)], args := [d1, d2, d3] }
  | _ => none }
def WishLatticeWrongFalsely : Prop := wishLatticeRow.holds Try.pinned (OpenSpec.ofChange wishLatticeWrong)

/- THE SECOND FORM. 'bulk': how many values and letters a reading holds, each counted each time it is reached (what is shared counts as often as it is met; a slice's spare places count too). A statement '..UptoSaid' is the law's where the arguments, and the package variables that the reading takes, are together of bulk at most 1048576: NARROWER than '..Said'. Prove '..Said' where nothing that the law and all that it calls make is longer than what came in: it says more and counts as full. Else prove '..UptoSaid'. A law counts once. -/
mutual
def uptoBulk {H : Type} : DataW H → Nat
  | .lit (.string bytes) => bytes.length + 1
  | .lit _ => 1
  | .nil => 1
  | .ptr d => uptoBulk d + 1
  | .slice elems spare => uptoBulkAll elems + uptoBulkAll spare + 1
  | .agg parts => uptoBulkAll parts + 1
  | .iface _ d => uptoBulk d + 1
  | .map entries => uptoBulkEntries entries + 1
  | .held _ => 1
def uptoBulkAll {H : Type} : List (DataW H) → Nat
  | [] => 0
  | d :: r => uptoBulk d + uptoBulkAll r
def uptoBulkEntries {H : Type} : List (Lit × DataW H) → Nat
  | [] => 0
  | x :: r => uptoBulkEntry x + uptoBulkEntries r
def uptoBulkEntry {H : Type} : Lit × DataW H → Nat
  | (.string bytes, d) => bytes.length + uptoBulk d + 1
  | (_, d) => uptoBulk d + 1
 end
def uptoSmall : (H : Type) → List (DataW H) → Bool := fun _ ds => decide (uptoBulkAll ds ≤ 1048576)
def OpenSpec.upto (s : _root_.Go.ChangeSpec) : _root_.Go.OpenSpec := { _root_.Go.OpenSpec.ofChange s with cond := some uptoSmall }

/-- 'teamsterlaw.WishChecks', WHERE WHAT IT READS IS OF BULK AT MOST 1048576: true; the input reads as it did. -/
def wishChecksUptoRow : OpenClaim := { program := "ytmelgnfhocofiaa", sum := "00677338cdf3a3f534682c9f5a81c2aacb15a7d1637f9f8a636a0a2b8327f126", func := "teamster/teamsterlaw.WishChecks", spec := "wishChecks", apart := false, narrowed := true }
def WishChecksUptoSaid : Prop := wishChecksUptoRow.holds Try.pinned (OpenSpec.upto wishChecksSpec)

/-- 'teamsterlaw.WishHolds', WHERE WHAT IT READS IS OF BULK AT MOST 1048576: true; the input reads as it did. -/
def wishHoldsUptoRow : OpenClaim := { program := "ytmelgnfhocofiaa", sum := "00677338cdf3a3f534682c9f5a81c2aacb15a7d1637f9f8a636a0a2b8327f126", func := "teamster/teamsterlaw.WishHolds", spec := "wishHolds", unfollowed := true, recurses := true, apart := false, narrowed := true }
def WishHoldsUptoSaid : Prop := wishHoldsUptoRow.holds Try.pinned (OpenSpec.upto wishHoldsSpec)

/-- 'teamsterlaw.WishPairs', WHERE WHAT IT READS IS OF BULK AT MOST 1048576: true; the input reads as it did. -/
def wishPairsUptoRow : OpenClaim := { program := "ytmelgnfhocofiaa", sum := "00677338cdf3a3f534682c9f5a81c2aacb15a7d1637f9f8a636a0a2b8327f126", func := "teamster/teamsterlaw.WishPairs", spec := "wishPairs", unfollowed := true, recurses := true, apart := false, narrowed := true }
def WishPairsUptoSaid : Prop := wishPairsUptoRow.holds Try.pinned (OpenSpec.upto wishPairsSpec)

/-- 'teamsterlaw.WishAlls', WHERE WHAT IT READS IS OF BULK AT MOST 1048576: true; the input reads as it did. -/
def wishAllsUptoRow : OpenClaim := { program := "ytmelgnfhocofiaa", sum := "00677338cdf3a3f534682c9f5a81c2aacb15a7d1637f9f8a636a0a2b8327f126", func := "teamster/teamsterlaw.WishAlls", spec := "wishAlls", unfollowed := true, recurses := true, apart := false, narrowed := true }
def WishAllsUptoSaid : Prop := wishAllsUptoRow.holds Try.pinned (OpenSpec.upto wishAllsSpec)

/-- 'teamsterkeep.WishStable', WHERE WHAT IT READS IS OF BULK AT MOST 1048576: true; the input reads as it did. -/
def wishStableUptoRow : OpenClaim := { program := "ytmelgnfhocofiaa", sum := "00677338cdf3a3f534682c9f5a81c2aacb15a7d1637f9f8a636a0a2b8327f126", func := "teamster/teamsterkeep.WishStable", spec := "wishStable", unfollowed := true, recurses := true, apart := false, narrowed := true }
def WishStableUptoSaid : Prop := wishStableUptoRow.holds Try.pinned (OpenSpec.upto wishStableSpec)

/-- 'teamsterkeep.WishBest', WHERE WHAT IT READS IS OF BULK AT MOST 1048576: true; the input reads as it did. -/
def wishBestUptoRow : OpenClaim := { program := "ytmelgnfhocofiaa", sum := "00677338cdf3a3f534682c9f5a81c2aacb15a7d1637f9f8a636a0a2b8327f126", func := "teamster/teamsterkeep.WishBest", spec := "wishBest", unfollowed := true, recurses := true, apart := false, narrowed := true }
def WishBestUptoSaid : Prop := wishBestUptoRow.holds Try.pinned (OpenSpec.upto wishBestSpec)

/-- 'teamsterkeep.WishRural', WHERE WHAT IT READS IS OF BULK AT MOST 1048576: true; the input reads as it did. -/
def wishRuralUptoRow : OpenClaim := { program := "ytmelgnfhocofiaa", sum := "00677338cdf3a3f534682c9f5a81c2aacb15a7d1637f9f8a636a0a2b8327f126", func := "teamster/teamsterkeep.WishRural", spec := "wishRural", unfollowed := true, recurses := true, apart := false, narrowed := true }
def WishRuralUptoSaid : Prop := wishRuralUptoRow.holds Try.pinned (OpenSpec.upto wishRuralSpec)

/-- 'teamsterkeep.WishLattice', WHERE WHAT IT READS IS OF BULK AT MOST 1048576: true; the input reads as it did. -/
def wishLatticeUptoRow : OpenClaim := { program := "ytmelgnfhocofiaa", sum := "00677338cdf3a3f534682c9f5a81c2aacb15a7d1637f9f8a636a0a2b8327f126", func := "teamster/teamsterkeep.WishLattice", spec := "wishLattice", unfollowed := true, recurses := true, apart := false, narrowed := true }
def WishLatticeUptoSaid : Prop := wishLatticeUptoRow.holds Try.pinned (OpenSpec.upto wishLatticeSpec)

end Rows
end Go.Proofs.Ytmelgnfhocofiaa
