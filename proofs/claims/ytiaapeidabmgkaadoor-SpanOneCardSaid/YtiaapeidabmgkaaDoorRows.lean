/-
  NARROWER THAN 'FOR EVERY INPUT', by the rows' own cells (each row's printed sentence says how): SpanMany: laid · SpanCayley: laid · SpanOne: laid · SidesTells: laid · SidesRings: laid · SidesKonig: laid.
  DERIVED. THE GIVEN ROWS OF THIS SEAT. 6 by the template 'for every input the law returns true; each argument reads behind the call as it read before'; 0 by the template 'total and deterministic' (their statements: YtiaapeidabmgkaaDoorTotals.lean).
  GIVEN WITH THE SEED: the statements are not yours to turn. If you find one false, say at which input.
  Laid BY PROGRAM, IN A SANDBOX (cutbox-rows.mjs): the forced cells as the released guide's own fill.sh prints them over the translation c2838c62701d8eb3… (all of the seat's roots in one cut). By AI agents, Wed Nov 11 2026. No macro, syntax, notation, axiom, sorry.
-/
import Derived.Test.YtiaapeidabmgkaaDoorChecked
import GoSem.Claim
import GoSem.ClaimJoined
import GoSem.ClaimMapViews
import Derived.JoinedTies
import Derived.KernelRfl
namespace Go.Proofs.YtiaapeidabmgkaaDoor
/- THE CELL 'sum', in the pinned program and in every row, IS THE sha256 OF THE DUMP (.gsa) THAT YtiaapeidabmgkaaDoorProg.lean LOADS. Nothing in Lean hashes anything: it is a label: what it is worth is what the hold of that sum in a sandbox is worth. -/
noncomputable def Tryd.pinned : Pinned := { name := "ytiaapeidabmgkaadoor", sum := "c2838c62701d8eb34e6e501cec71db3b9ab04d6ba511df8bed589a365daf1f48", checked := Tryd.checked }
namespace Rows
def none {H : Type} : Left H := { results := [], args := [] }

/- WHAT THE LISTED PACKAGE-LEVEL VARIABLES READ AS WHEN THE CALL BEGINS. Each datum BY PROGRAM (the guide's laid-datum.mjs) off the statement by which the dump's own 'gosem.cut.vars' lays the variable. In a bare row this is a premise. The card (YtiaapeidabmgkaaDoorCards.lean) ties it to the program's text. -/
def laid_math_bits_deBruijn32tab {H : Type} : DataW H := .agg [.lit (.int .u8 0), .lit (.int .u8 1), .lit (.int .u8 28), .lit (.int .u8 2), .lit (.int .u8 29), .lit (.int .u8 14), .lit (.int .u8 24), .lit (.int .u8 3), .lit (.int .u8 30), .lit (.int .u8 22), .lit (.int .u8 20), .lit (.int .u8 15), .lit (.int .u8 25), .lit (.int .u8 17), .lit (.int .u8 4), .lit (.int .u8 8), .lit (.int .u8 31), .lit (.int .u8 27), .lit (.int .u8 13), .lit (.int .u8 23), .lit (.int .u8 21), .lit (.int .u8 19), .lit (.int .u8 16), .lit (.int .u8 7), .lit (.int .u8 26), .lit (.int .u8 12), .lit (.int .u8 18), .lit (.int .u8 6), .lit (.int .u8 11), .lit (.int .u8 5), .lit (.int .u8 10), .lit (.int .u8 9)]

/-- 'teamsterlaw.SpanMany': WHATEVER THE INPUT: true; the input reads as it did. -/
def spanManySpec : ChangeSpec := { name := "spanMany", fn := fun _ => fun
  | [d] => { results := [.lit (.bool true)], args := [d] }
  | _ => none }
def spanManyRow : OpenClaim := { program := "ytiaapeidabmgkaadoor", sum := "c2838c62701d8eb34e6e501cec71db3b9ab04d6ba511df8bed589a365daf1f48", func := "teamster/teamsterlaw.SpanMany", spec := "spanMany", unfollowed := true, recurses := true, named := ["math/bits.deBruijn32tab"], plainKeys := false, apart := false, laid := [("math/bits.deBruijn32tab", laid_math_bits_deBruijn32tab)] }
def SpanManySaid : Prop := spanManyRow.holds Tryd.pinned (OpenSpec.ofChange spanManySpec)

/-- ITS FALSE NEIGHBOUR: 'it returns false'. Refute it at one input. -/
def spanManyWrong : ChangeSpec := { name := "spanMany", fn := fun _ => fun
  | [d] => { results := [.lit (.bool false)], args := [d] }
  | _ => none }
def SpanManyWrongFalsely : Prop := spanManyRow.holds Tryd.pinned (OpenSpec.ofChange spanManyWrong)

/-- 'teamsterkeep.SpanCayley': WHATEVER THE INPUT: true; the input reads as it did. -/
def spanCayleySpec : ChangeSpec := { name := "spanCayley", fn := fun _ => fun
  | [d] => { results := [.lit (.bool true)], args := [d] }
  | _ => none }
def spanCayleyRow : OpenClaim := { program := "ytiaapeidabmgkaadoor", sum := "c2838c62701d8eb34e6e501cec71db3b9ab04d6ba511df8bed589a365daf1f48", func := "teamster/teamsterkeep.SpanCayley", spec := "spanCayley", unfollowed := true, recurses := true, named := ["math/bits.deBruijn32tab"], plainKeys := false, apart := false, laid := [("math/bits.deBruijn32tab", laid_math_bits_deBruijn32tab)] }
def SpanCayleySaid : Prop := spanCayleyRow.holds Tryd.pinned (OpenSpec.ofChange spanCayleySpec)

/-- ITS FALSE NEIGHBOUR: 'it returns false'. Refute it at one input. -/
def spanCayleyWrong : ChangeSpec := { name := "spanCayley", fn := fun _ => fun
  | [d] => { results := [.lit (.bool false)], args := [d] }
  | _ => none }
def SpanCayleyWrongFalsely : Prop := spanCayleyRow.holds Tryd.pinned (OpenSpec.ofChange spanCayleyWrong)

/-- 'teamsterkeep.SpanOne': WHATEVER THE INPUT: true; the input reads as it did. -/
def spanOneSpec : ChangeSpec := { name := "spanOne", fn := fun _ => fun
  | [d1, d2] => { results := [.lit (.bool true)], args := [d1, d2] }
  | _ => none }
def spanOneRow : OpenClaim := { program := "ytiaapeidabmgkaadoor", sum := "c2838c62701d8eb34e6e501cec71db3b9ab04d6ba511df8bed589a365daf1f48", func := "teamster/teamsterkeep.SpanOne", spec := "spanOne", unfollowed := true, recurses := true, named := ["math/bits.deBruijn32tab"], plainKeys := false, apart := false, laid := [("math/bits.deBruijn32tab", laid_math_bits_deBruijn32tab)] }
def SpanOneSaid : Prop := spanOneRow.holds Tryd.pinned (OpenSpec.ofChange spanOneSpec)

/-- ITS FALSE NEIGHBOUR: 'it returns false'. Refute it at one input. -/
def spanOneWrong : ChangeSpec := { name := "spanOne", fn := fun _ => fun
  | [d1, d2] => { results := [.lit (.bool false)], args := [d1, d2] }
  | _ => none }
def SpanOneWrongFalsely : Prop := spanOneRow.holds Tryd.pinned (OpenSpec.ofChange spanOneWrong)

/-- 'teamsterlaw.SidesTells': WHATEVER THE INPUT: true; the input reads as it did. -/
def sidesTellsSpec : ChangeSpec := { name := "sidesTells", fn := fun _ => fun
  | [d] => { results := [.lit (.bool true)], args := [d] }
  | _ => none }
def sidesTellsRow : OpenClaim := { program := "ytiaapeidabmgkaadoor", sum := "c2838c62701d8eb34e6e501cec71db3b9ab04d6ba511df8bed589a365daf1f48", func := "teamster/teamsterlaw.SidesTells", spec := "sidesTells", unfollowed := true, recurses := true, named := ["math/bits.deBruijn32tab"], plainKeys := false, apart := false, laid := [("math/bits.deBruijn32tab", laid_math_bits_deBruijn32tab)] }
def SidesTellsSaid : Prop := sidesTellsRow.holds Tryd.pinned (OpenSpec.ofChange sidesTellsSpec)

/-- ITS FALSE NEIGHBOUR: 'it returns false'. Refute it at one input. -/
def sidesTellsWrong : ChangeSpec := { name := "sidesTells", fn := fun _ => fun
  | [d] => { results := [.lit (.bool false)], args := [d] }
  | _ => none }
def SidesTellsWrongFalsely : Prop := sidesTellsRow.holds Tryd.pinned (OpenSpec.ofChange sidesTellsWrong)

/-- 'teamsterlaw.SidesRings': WHATEVER THE INPUT: true; the input reads as it did. -/
def sidesRingsSpec : ChangeSpec := { name := "sidesRings", fn := fun _ => fun
  | [d] => { results := [.lit (.bool true)], args := [d] }
  | _ => none }
def sidesRingsRow : OpenClaim := { program := "ytiaapeidabmgkaadoor", sum := "c2838c62701d8eb34e6e501cec71db3b9ab04d6ba511df8bed589a365daf1f48", func := "teamster/teamsterlaw.SidesRings", spec := "sidesRings", recurses := true, named := ["math/bits.deBruijn32tab"], plainKeys := false, apart := false, laid := [("math/bits.deBruijn32tab", laid_math_bits_deBruijn32tab)] }
def SidesRingsSaid : Prop := sidesRingsRow.holds Tryd.pinned (OpenSpec.ofChange sidesRingsSpec)

/-- ITS FALSE NEIGHBOUR: 'it returns false'. Refute it at one input. -/
def sidesRingsWrong : ChangeSpec := { name := "sidesRings", fn := fun _ => fun
  | [d] => { results := [.lit (.bool false)], args := [d] }
  | _ => none }
def SidesRingsWrongFalsely : Prop := sidesRingsRow.holds Tryd.pinned (OpenSpec.ofChange sidesRingsWrong)

/-- 'teamsterkeep.SidesKonig': WHATEVER THE INPUT: true; the input reads as it did. -/
def sidesKonigSpec : ChangeSpec := { name := "sidesKonig", fn := fun _ => fun
  | [d] => { results := [.lit (.bool true)], args := [d] }
  | _ => none }
def sidesKonigRow : OpenClaim := { program := "ytiaapeidabmgkaadoor", sum := "c2838c62701d8eb34e6e501cec71db3b9ab04d6ba511df8bed589a365daf1f48", func := "teamster/teamsterkeep.SidesKonig", spec := "sidesKonig", unfollowed := true, recurses := true, named := ["math/bits.deBruijn32tab"], plainKeys := false, apart := false, laid := [("math/bits.deBruijn32tab", laid_math_bits_deBruijn32tab)] }
def SidesKonigSaid : Prop := sidesKonigRow.holds Tryd.pinned (OpenSpec.ofChange sidesKonigSpec)

/-- ITS FALSE NEIGHBOUR: 'it returns false'. Refute it at one input. -/
def sidesKonigWrong : ChangeSpec := { name := "sidesKonig", fn := fun _ => fun
  | [d] => { results := [.lit (.bool false)], args := [d] }
  | _ => none }
def SidesKonigWrongFalsely : Prop := sidesKonigRow.holds Tryd.pinned (OpenSpec.ofChange sidesKonigWrong)

/- THE SECOND FORM. 'bulk': how many values and letters a reading holds, each counted each time it is reached (what is shared counts as often as it is met; a slice's spare places count too). A statement '..UptoSaid' is the law's where the arguments, and the package variables that the reading takes, are together of bulk at most 1048576: NARROWER than '..Said'. Prove '..Said' where nothing that the law and all that it calls make is longer than what came in: it says more and counts as full. Else prove '..UptoSaid'. A law counts once. -/
mutual
def uptoBulk {H : Type} : DataW H → Nat
  | .lit (.string bytes) => bytes.length + 1
  | .lit _ => 1
  | .nil => 1
  | .ptr d => uptoBulk d + 1
  | .slice elems spare => uptoBulkAll elems + uptoBulkAll spare + 1
  | .agg parts => uptoBulkAll parts + 1
  | .iface _ d => uptoBulk d + 1
  | .map entries => uptoBulkEntries entries + 1
  | .held _ => 1
def uptoBulkAll {H : Type} : List (DataW H) → Nat
  | [] => 0
  | d :: r => uptoBulk d + uptoBulkAll r
def uptoBulkEntries {H : Type} : List (Lit × DataW H) → Nat
  | [] => 0
  | x :: r => uptoBulkEntry x + uptoBulkEntries r
def uptoBulkEntry {H : Type} : Lit × DataW H → Nat
  | (.string bytes, d) => bytes.length + uptoBulk d + 1
  | (_, d) => uptoBulk d + 1
 end
def uptoSmall : (H : Type) → List (DataW H) → Bool := fun _ ds => decide (uptoBulkAll ds ≤ 1048576)
def OpenSpec.upto (s : _root_.Go.ChangeSpec) : _root_.Go.OpenSpec := { _root_.Go.OpenSpec.ofChange s with cond := some uptoSmall }

/-- 'teamsterlaw.SpanMany', WHERE WHAT IT READS IS OF BULK AT MOST 1048576: true; the input reads as it did. -/
def spanManyUptoRow : OpenClaim := { program := "ytiaapeidabmgkaadoor", sum := "c2838c62701d8eb34e6e501cec71db3b9ab04d6ba511df8bed589a365daf1f48", func := "teamster/teamsterlaw.SpanMany", spec := "spanMany", unfollowed := true, recurses := true, named := ["math/bits.deBruijn32tab"], plainKeys := false, apart := false, laid := [("math/bits.deBruijn32tab", laid_math_bits_deBruijn32tab)], narrowed := true }
def SpanManyUptoSaid : Prop := spanManyUptoRow.holds Tryd.pinned (OpenSpec.upto spanManySpec)

/-- 'teamsterkeep.SpanCayley', WHERE WHAT IT READS IS OF BULK AT MOST 1048576: true; the input reads as it did. -/
def spanCayleyUptoRow : OpenClaim := { program := "ytiaapeidabmgkaadoor", sum := "c2838c62701d8eb34e6e501cec71db3b9ab04d6ba511df8bed589a365daf1f48", func := "teamster/teamsterkeep.SpanCayley", spec := "spanCayley", unfollowed := true, recurses := true, named := ["math/bits.deBruijn32tab"], plainKeys := false, apart := false, laid := [("math/bits.deBruijn32tab", laid_math_bits_deBruijn32tab)], narrowed := true }
def SpanCayleyUptoSaid : Prop := spanCayleyUptoRow.holds Tryd.pinned (OpenSpec.upto spanCayleySpec)

/-- 'teamsterkeep.SpanOne', WHERE WHAT IT READS IS OF BULK AT MOST 1048576: true; the input reads as it did. -/
def spanOneUptoRow : OpenClaim := { program := "ytiaapeidabmgkaadoor", sum := "c2838c62701d8eb34e6e501cec71db3b9ab04d6ba511df8bed589a365daf1f48", func := "teamster/teamsterkeep.SpanOne", spec := "spanOne", unfollowed := true, recurses := true, named := ["math/bits.deBruijn32tab"], plainKeys := false, apart := false, laid := [("math/bits.deBruijn32tab", laid_math_bits_deBruijn32tab)], narrowed := true }
def SpanOneUptoSaid : Prop := spanOneUptoRow.holds Tryd.pinned (OpenSpec.upto spanOneSpec)

/-- 'teamsterlaw.SidesTells', WHERE WHAT IT READS IS OF BULK AT MOST 1048576: true; the input reads as it did. -/
def sidesTellsUptoRow : OpenClaim := { program := "ytiaapeidabmgkaadoor", sum := "c2838c62701d8eb34e6e501cec71db3b9ab04d6ba511df8bed589a365daf1f48", func := "teamster/teamsterlaw.SidesTells", spec := "sidesTells", unfollowed := true, recurses := true, named := ["math/bits.deBruijn32tab"], plainKeys := false, apart := false, laid := [("math/bits.deBruijn32tab", laid_math_bits_deBruijn32tab)], narrowed := true }
def SidesTellsUptoSaid : Prop := sidesTellsUptoRow.holds Tryd.pinned (OpenSpec.upto sidesTellsSpec)

/-- 'teamsterlaw.SidesRings', WHERE WHAT IT READS IS OF BULK AT MOST 1048576: true; the input reads as it did. -/
def sidesRingsUptoRow : OpenClaim := { program := "ytiaapeidabmgkaadoor", sum := "c2838c62701d8eb34e6e501cec71db3b9ab04d6ba511df8bed589a365daf1f48", func := "teamster/teamsterlaw.SidesRings", spec := "sidesRings", recurses := true, named := ["math/bits.deBruijn32tab"], plainKeys := false, apart := false, laid := [("math/bits.deBruijn32tab", laid_math_bits_deBruijn32tab)], narrowed := true }
def SidesRingsUptoSaid : Prop := sidesRingsUptoRow.holds Tryd.pinned (OpenSpec.upto sidesRingsSpec)

/-- 'teamsterkeep.SidesKonig', WHERE WHAT IT READS IS OF BULK AT MOST 1048576: true; the input reads as it did. -/
def sidesKonigUptoRow : OpenClaim := { program := "ytiaapeidabmgkaadoor", sum := "c2838c62701d8eb34e6e501cec71db3b9ab04d6ba511df8bed589a365daf1f48", func := "teamster/teamsterkeep.SidesKonig", spec := "sidesKonig", unfollowed := true, recurses := true, named := ["math/bits.deBruijn32tab"], plainKeys := false, apart := false, laid := [("math/bits.deBruijn32tab", laid_math_bits_deBruijn32tab)], narrowed := true }
def SidesKonigUptoSaid : Prop := sidesKonigUptoRow.holds Tryd.pinned (OpenSpec.upto sidesKonigSpec)

end Rows
end Go.Proofs.YtiaapeidabmgkaaDoor
