/-
  NARROWER THAN 'FOR EVERY INPUT', by the rows' own cells (each row's printed sentence says how): GraphParts: laid · GraphDists: laid · GraphMetric: laid · GraphLinked: laid · TourTells: laid · TourEuler: laid · SidesTells: laid · SidesRings: laid · SidesKonig: laid · SpanCodes: laid · SpanPrufer: laid · SpanOne: laid.
  DERIVED. THE GIVEN ROWS OF THIS SEAT. 12 by the template 'for every input the law returns true; each argument reads behind the call as it read before'; 0 by the template 'total and deterministic' (their statements: YthfgbgmkiggjmabDoorTotals.lean).
  GIVEN WITH THE SEED: the statements are not yours to turn. If you find one false, say at which input.
  Laid BY PROGRAM, IN A SANDBOX (cutbox-rows.mjs): the forced cells as the released guide's own fill.sh prints them over the translation e501633825ae0cc5… (all of the seat's roots in one cut). By AI agents, Wed Nov 11 2026. No macro, syntax, notation, axiom, sorry.
-/
import Derived.Test.YthfgbgmkiggjmabDoorChecked
import GoSem.Claim
import GoSem.ClaimJoined
import GoSem.ClaimMapViews
import Derived.JoinedTies
import Derived.KernelRfl
namespace Go.Proofs.YthfgbgmkiggjmabDoor
/- THE CELL 'sum', in the pinned program and in every row, IS THE sha256 OF THE DUMP (.gsa) THAT YthfgbgmkiggjmabDoorProg.lean LOADS. Nothing in Lean hashes anything: it is a label: what it is worth is what the hold of that sum in a sandbox is worth. -/
noncomputable def Tryd.pinned : Pinned := { name := "ythfgbgmkiggjmabdoor", sum := "e501633825ae0cc557935595ccf01711cae84ddc22e05c8cd024ff3091980073", checked := Tryd.checked }
namespace Rows
def none {H : Type} : Left H := { results := [], args := [] }

/- WHAT THE LISTED PACKAGE-LEVEL VARIABLES READ AS WHEN THE CALL BEGINS. Each datum BY PROGRAM (the guide's laid-datum.mjs) off the statement by which the dump's own 'gosem.cut.vars' lays the variable. In a bare row this is a premise. The card (YthfgbgmkiggjmabDoorCards.lean) ties it to the program's text. -/
def laid_math_bits_deBruijn32tab {H : Type} : DataW H := .agg [.lit (.int .u8 0), .lit (.int .u8 1), .lit (.int .u8 28), .lit (.int .u8 2), .lit (.int .u8 29), .lit (.int .u8 14), .lit (.int .u8 24), .lit (.int .u8 3), .lit (.int .u8 30), .lit (.int .u8 22), .lit (.int .u8 20), .lit (.int .u8 15), .lit (.int .u8 25), .lit (.int .u8 17), .lit (.int .u8 4), .lit (.int .u8 8), .lit (.int .u8 31), .lit (.int .u8 27), .lit (.int .u8 13), .lit (.int .u8 23), .lit (.int .u8 21), .lit (.int .u8 19), .lit (.int .u8 16), .lit (.int .u8 7), .lit (.int .u8 26), .lit (.int .u8 12), .lit (.int .u8 18), .lit (.int .u8 6), .lit (.int .u8 11), .lit (.int .u8 5), .lit (.int .u8 10), .lit (.int .u8 9)]

/-- 'teamsterlaw.GraphParts': WHATEVER THE INPUT: true; the input reads as it did. -/
def graphPartsSpec : ChangeSpec := { name := "graphParts", fn := fun _ => fun
  | [d] => { results := [.lit (.bool true)], args := [d] }
  | _ => none }
def graphPartsRow : OpenClaim := { program := "ythfgbgmkiggjmabdoor", sum := "e501633825ae0cc557935595ccf01711cae84ddc22e05c8cd024ff3091980073", func := "teamster/teamsterlaw.GraphParts", spec := "graphParts", unfollowed := true, recurses := true, named := ["math/bits.deBruijn32tab"], plainKeys := false, apart := false, laid := [("math/bits.deBruijn32tab", laid_math_bits_deBruijn32tab)] }
def GraphPartsSaid : Prop := graphPartsRow.holds Tryd.pinned (OpenSpec.ofChange graphPartsSpec)

/-- ITS FALSE NEIGHBOUR: 'it returns false'. Refute it at one input. -/
def graphPartsWrong : ChangeSpec := { name := "graphParts", fn := fun _ => fun
  | [d] => { results := [.lit (.bool false)], args := [d] }
  | _ => none }
def GraphPartsWrongFalsely : Prop := graphPartsRow.holds Tryd.pinned (OpenSpec.ofChange graphPartsWrong)

/-- 'teamsterlaw.GraphDists': WHATEVER THE INPUT: true; the input reads as it did. -/
def graphDistsSpec : ChangeSpec := { name := "graphDists", fn := fun _ => fun
  | [d] => { results := [.lit (.bool true)], args := [d] }
  | _ => none }
def graphDistsRow : OpenClaim := { program := "ythfgbgmkiggjmabdoor", sum := "e501633825ae0cc557935595ccf01711cae84ddc22e05c8cd024ff3091980073", func := "teamster/teamsterlaw.GraphDists", spec := "graphDists", unfollowed := true, recurses := true, named := ["math/bits.deBruijn32tab"], plainKeys := false, apart := false, laid := [("math/bits.deBruijn32tab", laid_math_bits_deBruijn32tab)] }
def GraphDistsSaid : Prop := graphDistsRow.holds Tryd.pinned (OpenSpec.ofChange graphDistsSpec)

/-- ITS FALSE NEIGHBOUR: 'it returns false'. Refute it at one input. -/
def graphDistsWrong : ChangeSpec := { name := "graphDists", fn := fun _ => fun
  | [d] => { results := [.lit (.bool false)], args := [d] }
  | _ => none }
def GraphDistsWrongFalsely : Prop := graphDistsRow.holds Tryd.pinned (OpenSpec.ofChange graphDistsWrong)

/-- 'teamsterkeep.GraphMetric': WHATEVER THE INPUT: true; the input reads as it did. -/
def graphMetricSpec : ChangeSpec := { name := "graphMetric", fn := fun _ => fun
  | [d1, d2, d3, d4] => { results := [.lit (.bool true)], args := [d1, d2, d3, d4] }
  | _ => none }
def graphMetricRow : OpenClaim := { program := "ythfgbgmkiggjmabdoor", sum := "e501633825ae0cc557935595ccf01711cae84ddc22e05c8cd024ff3091980073", func := "teamster/teamsterkeep.GraphMetric", spec := "graphMetric", unfollowed := true, recurses := true, named := ["math/bits.deBruijn32tab"], plainKeys := false, apart := false, laid := [("math/bits.deBruijn32tab", laid_math_bits_deBruijn32tab)] }
def GraphMetricSaid : Prop := graphMetricRow.holds Tryd.pinned (OpenSpec.ofChange graphMetricSpec)

/-- ITS FALSE NEIGHBOUR: 'it returns false'. Refute it at one input. -/
def graphMetricWrong : ChangeSpec := { name := "graphMetric", fn := fun _ => fun
  | [d1, d2, d3, d4] => { results := [.lit (.bool false)], args := [d1, d2, d3, d4] }
  | _ => none }
def GraphMetricWrongFalsely : Prop := graphMetricRow.holds Tryd.pinned (OpenSpec.ofChange graphMetricWrong)

/-- 'teamsterkeep.GraphLinked': WHATEVER THE INPUT: true; the input reads as it did. -/
def graphLinkedSpec : ChangeSpec := { name := "graphLinked", fn := fun _ => fun
  | [d] => { results := [.lit (.bool true)], args := [d] }
  | _ => none }
def graphLinkedRow : OpenClaim := { program := "ythfgbgmkiggjmabdoor", sum := "e501633825ae0cc557935595ccf01711cae84ddc22e05c8cd024ff3091980073", func := "teamster/teamsterkeep.GraphLinked", spec := "graphLinked", unfollowed := true, recurses := true, named := ["math/bits.deBruijn32tab"], plainKeys := false, apart := false, laid := [("math/bits.deBruijn32tab", laid_math_bits_deBruijn32tab)] }
def GraphLinkedSaid : Prop := graphLinkedRow.holds Tryd.pinned (OpenSpec.ofChange graphLinkedSpec)

/-- ITS FALSE NEIGHBOUR: 'it returns false'. Refute it at one input. -/
def graphLinkedWrong : ChangeSpec := { name := "graphLinked", fn := fun _ => fun
  | [d] => { results := [.lit (.bool false)], args := [d] }
  | _ => none }
def GraphLinkedWrongFalsely : Prop := graphLinkedRow.holds Tryd.pinned (OpenSpec.ofChange graphLinkedWrong)

/-- 'teamsterlaw.TourTells': WHATEVER THE INPUT: true; the input reads as it did. -/
def tourTellsSpec : ChangeSpec := { name := "tourTells", fn := fun _ => fun
  | [d] => { results := [.lit (.bool true)], args := [d] }
  | _ => none }
def tourTellsRow : OpenClaim := { program := "ythfgbgmkiggjmabdoor", sum := "e501633825ae0cc557935595ccf01711cae84ddc22e05c8cd024ff3091980073", func := "teamster/teamsterlaw.TourTells", spec := "tourTells", unfollowed := true, recurses := true, named := ["math/bits.deBruijn32tab"], plainKeys := false, apart := false, laid := [("math/bits.deBruijn32tab", laid_math_bits_deBruijn32tab)] }
def TourTellsSaid : Prop := tourTellsRow.holds Tryd.pinned (OpenSpec.ofChange tourTellsSpec)

/-- ITS FALSE NEIGHBOUR: 'it returns false'. Refute it at one input. -/
def tourTellsWrong : ChangeSpec := { name := "tourTells", fn := fun _ => fun
  | [d] => { results := [.lit (.bool false)], args := [d] }
  | _ => none }
def TourTellsWrongFalsely : Prop := tourTellsRow.holds Tryd.pinned (OpenSpec.ofChange tourTellsWrong)

/-- 'teamsterkeep.TourEuler': WHATEVER THE INPUT: true; the input reads as it did. -/
def tourEulerSpec : ChangeSpec := { name := "tourEuler", fn := fun _ => fun
  | [d] => { results := [.lit (.bool true)], args := [d] }
  | _ => none }
def tourEulerRow : OpenClaim := { program := "ythfgbgmkiggjmabdoor", sum := "e501633825ae0cc557935595ccf01711cae84ddc22e05c8cd024ff3091980073", func := "teamster/teamsterkeep.TourEuler", spec := "tourEuler", unfollowed := true, recurses := true, named := ["math/bits.deBruijn32tab"], plainKeys := false, apart := false, laid := [("math/bits.deBruijn32tab", laid_math_bits_deBruijn32tab)] }
def TourEulerSaid : Prop := tourEulerRow.holds Tryd.pinned (OpenSpec.ofChange tourEulerSpec)

/-- ITS FALSE NEIGHBOUR: 'it returns false'. Refute it at one input. -/
def tourEulerWrong : ChangeSpec := { name := "tourEuler", fn := fun _ => fun
  | [d] => { results := [.lit (.bool false)], args := [d] }
  | _ => none }
def TourEulerWrongFalsely : Prop := tourEulerRow.holds Tryd.pinned (OpenSpec.ofChange tourEulerWrong)

/-- 'teamsterlaw.SidesTells': WHATEVER THE INPUT: true; the input reads as it did. -/
def sidesTellsSpec : ChangeSpec := { name := "sidesTells", fn := fun _ => fun
  | [d] => { results := [.lit (.bool true)], args := [d] }
  | _ => none }
def sidesTellsRow : OpenClaim := { program := "ythfgbgmkiggjmabdoor", sum := "e501633825ae0cc557935595ccf01711cae84ddc22e05c8cd024ff3091980073", func := "teamster/teamsterlaw.SidesTells", spec := "sidesTells", unfollowed := true, recurses := true, named := ["math/bits.deBruijn32tab"], plainKeys := false, apart := false, laid := [("math/bits.deBruijn32tab", laid_math_bits_deBruijn32tab)] }
def SidesTellsSaid : Prop := sidesTellsRow.holds Tryd.pinned (OpenSpec.ofChange sidesTellsSpec)

/-- ITS FALSE NEIGHBOUR: 'it returns false'. Refute it at one input. -/
def sidesTellsWrong : ChangeSpec := { name := "sidesTells", fn := fun _ => fun
  | [d] => { results := [.lit (.bool false)], args := [d] }
  | _ => none }
def SidesTellsWrongFalsely : Prop := sidesTellsRow.holds Tryd.pinned (OpenSpec.ofChange sidesTellsWrong)

/-- 'teamsterlaw.SidesRings': WHATEVER THE INPUT: true; the input reads as it did. -/
def sidesRingsSpec : ChangeSpec := { name := "sidesRings", fn := fun _ => fun
  | [d] => { results := [.lit (.bool true)], args := [d] }
  | _ => none }
def sidesRingsRow : OpenClaim := { program := "ythfgbgmkiggjmabdoor", sum := "e501633825ae0cc557935595ccf01711cae84ddc22e05c8cd024ff3091980073", func := "teamster/teamsterlaw.SidesRings", spec := "sidesRings", recurses := true, named := ["math/bits.deBruijn32tab"], plainKeys := false, apart := false, laid := [("math/bits.deBruijn32tab", laid_math_bits_deBruijn32tab)] }
def SidesRingsSaid : Prop := sidesRingsRow.holds Tryd.pinned (OpenSpec.ofChange sidesRingsSpec)

/-- ITS FALSE NEIGHBOUR: 'it returns false'. Refute it at one input. -/
def sidesRingsWrong : ChangeSpec := { name := "sidesRings", fn := fun _ => fun
  | [d] => { results := [.lit (.bool false)], args := [d] }
  | _ => none }
def SidesRingsWrongFalsely : Prop := sidesRingsRow.holds Tryd.pinned (OpenSpec.ofChange sidesRingsWrong)

/-- 'teamsterkeep.SidesKonig': WHATEVER THE INPUT: true; the input reads as it did. -/
def sidesKonigSpec : ChangeSpec := { name := "sidesKonig", fn := fun _ => fun
  | [d] => { results := [.lit (.bool true)], args := [d] }
  | _ => none }
def sidesKonigRow : OpenClaim := { program := "ythfgbgmkiggjmabdoor", sum := "e501633825ae0cc557935595ccf01711cae84ddc22e05c8cd024ff3091980073", func := "teamster/teamsterkeep.SidesKonig", spec := "sidesKonig", unfollowed := true, recurses := true, named := ["math/bits.deBruijn32tab"], plainKeys := false, apart := false, laid := [("math/bits.deBruijn32tab", laid_math_bits_deBruijn32tab)] }
def SidesKonigSaid : Prop := sidesKonigRow.holds Tryd.pinned (OpenSpec.ofChange sidesKonigSpec)

/-- ITS FALSE NEIGHBOUR: 'it returns false'. Refute it at one input. -/
def sidesKonigWrong : ChangeSpec := { name := "sidesKonig", fn := fun _ => fun
  | [d] => { results := [.lit (.bool false)], args := [d] }
  | _ => none }
def SidesKonigWrongFalsely : Prop := sidesKonigRow.holds Tryd.pinned (OpenSpec.ofChange sidesKonigWrong)

/-- 'teamsterlaw.SpanCodes': WHATEVER THE INPUT: true; the input reads as it did. -/
def spanCodesSpec : ChangeSpec := { name := "spanCodes", fn := fun _ => fun
  | [d] => { results := [.lit (.bool true)], args := [d] }
  | _ => none }
def spanCodesRow : OpenClaim := { program := "ythfgbgmkiggjmabdoor", sum := "e501633825ae0cc557935595ccf01711cae84ddc22e05c8cd024ff3091980073", func := "teamster/teamsterlaw.SpanCodes", spec := "spanCodes", unfollowed := true, recurses := true, named := ["math/bits.deBruijn32tab"], plainKeys := false, apart := false, laid := [("math/bits.deBruijn32tab", laid_math_bits_deBruijn32tab)] }
def SpanCodesSaid : Prop := spanCodesRow.holds Tryd.pinned (OpenSpec.ofChange spanCodesSpec)

/-- ITS FALSE NEIGHBOUR: 'it returns false'. Refute it at one input. -/
def spanCodesWrong : ChangeSpec := { name := "spanCodes", fn := fun _ => fun
  | [d] => { results := [.lit (.bool false)], args := [d] }
  | _ => none }
def SpanCodesWrongFalsely : Prop := spanCodesRow.holds Tryd.pinned (OpenSpec.ofChange spanCodesWrong)

/-- 'teamsterkeep.SpanPrufer': WHATEVER THE INPUT: true; the input reads as it did. -/
def spanPruferSpec : ChangeSpec := { name := "spanPrufer", fn := fun _ => fun
  | [d1, d2] => { results := [.lit (.bool true)], args := [d1, d2] }
  | _ => none }
def spanPruferRow : OpenClaim := { program := "ythfgbgmkiggjmabdoor", sum := "e501633825ae0cc557935595ccf01711cae84ddc22e05c8cd024ff3091980073", func := "teamster/teamsterkeep.SpanPrufer", spec := "spanPrufer", unfollowed := true, recurses := true, named := ["math/bits.deBruijn32tab"], plainKeys := false, apart := false, laid := [("math/bits.deBruijn32tab", laid_math_bits_deBruijn32tab)] }
def SpanPruferSaid : Prop := spanPruferRow.holds Tryd.pinned (OpenSpec.ofChange spanPruferSpec)

/-- ITS FALSE NEIGHBOUR: 'it returns false'. Refute it at one input. -/
def spanPruferWrong : ChangeSpec := { name := "spanPrufer", fn := fun _ => fun
  | [d1, d2] => { results := [.lit (.bool false)], args := [d1, d2] }
  | _ => none }
def SpanPruferWrongFalsely : Prop := spanPruferRow.holds Tryd.pinned (OpenSpec.ofChange spanPruferWrong)

/-- 'teamsterkeep.SpanOne': WHATEVER THE INPUT: true; the input reads as it did. -/
def spanOneSpec : ChangeSpec := { name := "spanOne", fn := fun _ => fun
  | [d1, d2] => { results := [.lit (.bool true)], args := [d1, d2] }
  | _ => none }
def spanOneRow : OpenClaim := { program := "ythfgbgmkiggjmabdoor", sum := "e501633825ae0cc557935595ccf01711cae84ddc22e05c8cd024ff3091980073", func := "teamster/teamsterkeep.SpanOne", spec := "spanOne", unfollowed := true, recurses := true, named := ["math/bits.deBruijn32tab"], plainKeys := false, apart := false, laid := [("math/bits.deBruijn32tab", laid_math_bits_deBruijn32tab)] }
def SpanOneSaid : Prop := spanOneRow.holds Tryd.pinned (OpenSpec.ofChange spanOneSpec)

/-- ITS FALSE NEIGHBOUR: 'it returns false'. Refute it at one input. -/
def spanOneWrong : ChangeSpec := { name := "spanOne", fn := fun _ => fun
  | [d1, d2] => { results := [.lit (.bool false)], args := [d1, d2] }
  | _ => none }
def SpanOneWrongFalsely : Prop := spanOneRow.holds Tryd.pinned (OpenSpec.ofChange spanOneWrong)

/- THE SECOND FORM. 'bulk': how many values and letters a reading holds, each counted each time it is reached (what is shared counts as often as it is met; a slice's spare places count too). A statement '..UptoSaid' is the law's where the arguments, and the package variables that the reading takes, are together of bulk at most 1048576: NARROWER than '..Said'. Prove '..Said' where nothing that the law and all that it calls make is longer than what came in: it says more and counts as full. Else prove '..UptoSaid'. A law counts once. -/
mutual
def uptoBulk {H : Type} : DataW H → Nat
  | .lit (.string bytes) => bytes.length + 1
  | .lit _ => 1
  | .nil => 1
  | .ptr d => uptoBulk d + 1
  | .slice elems spare => uptoBulkAll elems + uptoBulkAll spare + 1
  | .agg parts => uptoBulkAll parts + 1
  | .iface _ d => uptoBulk d + 1
  | .map entries => uptoBulkEntries entries + 1
  | .held _ => 1
def uptoBulkAll {H : Type} : List (DataW H) → Nat
  | [] => 0
  | d :: r => uptoBulk d + uptoBulkAll r
def uptoBulkEntries {H : Type} : List (Lit × DataW H) → Nat
  | [] => 0
  | x :: r => uptoBulkEntry x + uptoBulkEntries r
def uptoBulkEntry {H : Type} : Lit × DataW H → Nat
  | (.string bytes, d) => bytes.length + uptoBulk d + 1
  | (_, d) => uptoBulk d + 1
 end
def uptoSmall : (H : Type) → List (DataW H) → Bool := fun _ ds => decide (uptoBulkAll ds ≤ 1048576)
def OpenSpec.upto (s : _root_.Go.ChangeSpec) : _root_.Go.OpenSpec := { _root_.Go.OpenSpec.ofChange s with cond := some uptoSmall }

/-- 'teamsterlaw.GraphParts', WHERE WHAT IT READS IS OF BULK AT MOST 1048576: true; the input reads as it did. -/
def graphPartsUptoRow : OpenClaim := { program := "ythfgbgmkiggjmabdoor", sum := "e501633825ae0cc557935595ccf01711cae84ddc22e05c8cd024ff3091980073", func := "teamster/teamsterlaw.GraphParts", spec := "graphParts", unfollowed := true, recurses := true, named := ["math/bits.deBruijn32tab"], plainKeys := false, apart := false, laid := [("math/bits.deBruijn32tab", laid_math_bits_deBruijn32tab)], narrowed := true }
def GraphPartsUptoSaid : Prop := graphPartsUptoRow.holds Tryd.pinned (OpenSpec.upto graphPartsSpec)

/-- 'teamsterlaw.GraphDists', WHERE WHAT IT READS IS OF BULK AT MOST 1048576: true; the input reads as it did. -/
def graphDistsUptoRow : OpenClaim := { program := "ythfgbgmkiggjmabdoor", sum := "e501633825ae0cc557935595ccf01711cae84ddc22e05c8cd024ff3091980073", func := "teamster/teamsterlaw.GraphDists", spec := "graphDists", unfollowed := true, recurses := true, named := ["math/bits.deBruijn32tab"], plainKeys := false, apart := false, laid := [("math/bits.deBruijn32tab", laid_math_bits_deBruijn32tab)], narrowed := true }
def GraphDistsUptoSaid : Prop := graphDistsUptoRow.holds Tryd.pinned (OpenSpec.upto graphDistsSpec)

/-- 'teamsterkeep.GraphMetric', WHERE WHAT IT READS IS OF BULK AT MOST 1048576: true; the input reads as it did. -/
def graphMetricUptoRow : OpenClaim := { program := "ythfgbgmkiggjmabdoor", sum := "e501633825ae0cc557935595ccf01711cae84ddc22e05c8cd024ff3091980073", func := "teamster/teamsterkeep.GraphMetric", spec := "graphMetric", unfollowed := true, recurses := true, named := ["math/bits.deBruijn32tab"], plainKeys := false, apart := false, laid := [("math/bits.deBruijn32tab", laid_math_bits_deBruijn32tab)], narrowed := true }
def GraphMetricUptoSaid : Prop := graphMetricUptoRow.holds Tryd.pinned (OpenSpec.upto graphMetricSpec)

/-- 'teamsterkeep.GraphLinked', WHERE WHAT IT READS IS OF BULK AT MOST 1048576: true; the input reads as it did. -/
def graphLinkedUptoRow : OpenClaim := { program := "ythfgbgmkiggjmabdoor", sum := "e501633825ae0cc557935595ccf01711cae84ddc22e05c8cd024ff3091980073", func := "teamster/teamsterkeep.GraphLinked", spec := "graphLinked", unfollowed := true, recurses := true, named := ["math/bits.deBruijn32tab"], plainKeys := false, apart := false, laid := [("math/bits.deBruijn32tab", laid_math_bits_deBruijn32tab)], narrowed := true }
def GraphLinkedUptoSaid : Prop := graphLinkedUptoRow.holds Tryd.pinned (OpenSpec.upto graphLinkedSpec)

/-- 'teamsterlaw.TourTells', WHERE WHAT IT READS IS OF BULK AT MOST 1048576: true; the input reads as it did. -/
def tourTellsUptoRow : OpenClaim := { program := "ythfgbgmkiggjmabdoor", sum := "e501633825ae0cc557935595ccf01711cae84ddc22e05c8cd024ff3091980073", func := "teamster/teamsterlaw.TourTells", spec := "tourTells", unfollowed := true, recurses := true, named := ["math/bits.deBruijn32tab"], plainKeys := false, apart := false, laid := [("math/bits.deBruijn32tab", laid_math_bits_deBruijn32tab)], narrowed := true }
def TourTellsUptoSaid : Prop := tourTellsUptoRow.holds Tryd.pinned (OpenSpec.upto tourTellsSpec)

/-- 'teamsterkeep.TourEuler', WHERE WHAT IT READS IS OF BULK AT MOST 1048576: true; the input reads as it did. -/
def tourEulerUptoRow : OpenClaim := { program := "ythfgbgmkiggjmabdoor", sum := "e501633825ae0cc557935595ccf01711cae84ddc22e05c8cd024ff3091980073", func := "teamster/teamsterkeep.TourEuler", spec := "tourEuler", unfollowed := true, recurses := true, named := ["math/bits.deBruijn32tab"], plainKeys := false, apart := false, laid := [("math/bits.deBruijn32tab", laid_math_bits_deBruijn32tab)], narrowed := true }
def TourEulerUptoSaid : Prop := tourEulerUptoRow.holds Tryd.pinned (OpenSpec.upto tourEulerSpec)

/-- 'teamsterlaw.SidesTells', WHERE WHAT IT READS IS OF BULK AT MOST 1048576: true; the input reads as it did. -/
def sidesTellsUptoRow : OpenClaim := { program := "ythfgbgmkiggjmabdoor", sum := "e501633825ae0cc557935595ccf01711cae84ddc22e05c8cd024ff3091980073", func := "teamster/teamsterlaw.SidesTells", spec := "sidesTells", unfollowed := true, recurses := true, named := ["math/bits.deBruijn32tab"], plainKeys := false, apart := false, laid := [("math/bits.deBruijn32tab", laid_math_bits_deBruijn32tab)], narrowed := true }
def SidesTellsUptoSaid : Prop := sidesTellsUptoRow.holds Tryd.pinned (OpenSpec.upto sidesTellsSpec)

/-- 'teamsterlaw.SidesRings', WHERE WHAT IT READS IS OF BULK AT MOST 1048576: true; the input reads as it did. -/
def sidesRingsUptoRow : OpenClaim := { program := "ythfgbgmkiggjmabdoor", sum := "e501633825ae0cc557935595ccf01711cae84ddc22e05c8cd024ff3091980073", func := "teamster/teamsterlaw.SidesRings", spec := "sidesRings", recurses := true, named := ["math/bits.deBruijn32tab"], plainKeys := false, apart := false, laid := [("math/bits.deBruijn32tab", laid_math_bits_deBruijn32tab)], narrowed := true }
def SidesRingsUptoSaid : Prop := sidesRingsUptoRow.holds Tryd.pinned (OpenSpec.upto sidesRingsSpec)

/-- 'teamsterkeep.SidesKonig', WHERE WHAT IT READS IS OF BULK AT MOST 1048576: true; the input reads as it did. -/
def sidesKonigUptoRow : OpenClaim := { program := "ythfgbgmkiggjmabdoor", sum := "e501633825ae0cc557935595ccf01711cae84ddc22e05c8cd024ff3091980073", func := "teamster/teamsterkeep.SidesKonig", spec := "sidesKonig", unfollowed := true, recurses := true, named := ["math/bits.deBruijn32tab"], plainKeys := false, apart := false, laid := [("math/bits.deBruijn32tab", laid_math_bits_deBruijn32tab)], narrowed := true }
def SidesKonigUptoSaid : Prop := sidesKonigUptoRow.holds Tryd.pinned (OpenSpec.upto sidesKonigSpec)

/-- 'teamsterlaw.SpanCodes', WHERE WHAT IT READS IS OF BULK AT MOST 1048576: true; the input reads as it did. -/
def spanCodesUptoRow : OpenClaim := { program := "ythfgbgmkiggjmabdoor", sum := "e501633825ae0cc557935595ccf01711cae84ddc22e05c8cd024ff3091980073", func := "teamster/teamsterlaw.SpanCodes", spec := "spanCodes", unfollowed := true, recurses := true, named := ["math/bits.deBruijn32tab"], plainKeys := false, apart := false, laid := [("math/bits.deBruijn32tab", laid_math_bits_deBruijn32tab)], narrowed := true }
def SpanCodesUptoSaid : Prop := spanCodesUptoRow.holds Tryd.pinned (OpenSpec.upto spanCodesSpec)

/-- 'teamsterkeep.SpanPrufer', WHERE WHAT IT READS IS OF BULK AT MOST 1048576: true; the input reads as it did. -/
def spanPruferUptoRow : OpenClaim := { program := "ythfgbgmkiggjmabdoor", sum := "e501633825ae0cc557935595ccf01711cae84ddc22e05c8cd024ff3091980073", func := "teamster/teamsterkeep.SpanPrufer", spec := "spanPrufer", unfollowed := true, recurses := true, named := ["math/bits.deBruijn32tab"], plainKeys := false, apart := false, laid := [("math/bits.deBruijn32tab", laid_math_bits_deBruijn32tab)], narrowed := true }
def SpanPruferUptoSaid : Prop := spanPruferUptoRow.holds Tryd.pinned (OpenSpec.upto spanPruferSpec)

/-- 'teamsterkeep.SpanOne', WHERE WHAT IT READS IS OF BULK AT MOST 1048576: true; the input reads as it did. -/
def spanOneUptoRow : OpenClaim := { program := "ythfgbgmkiggjmabdoor", sum := "e501633825ae0cc557935595ccf01711cae84ddc22e05c8cd024ff3091980073", func := "teamster/teamsterkeep.SpanOne", spec := "spanOne", unfollowed := true, recurses := true, named := ["math/bits.deBruijn32tab"], plainKeys := false, apart := false, laid := [("math/bits.deBruijn32tab", laid_math_bits_deBruijn32tab)], narrowed := true }
def SpanOneUptoSaid : Prop := spanOneUptoRow.holds Tryd.pinned (OpenSpec.upto spanOneSpec)

end Rows
end Go.Proofs.YthfgbgmkiggjmabDoor
