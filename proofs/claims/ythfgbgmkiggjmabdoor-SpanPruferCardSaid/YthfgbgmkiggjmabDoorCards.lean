/-
  DERIVED. GIVEN WITH THE SEED: THE CARDS: each row of YthfgbgmkiggjmabDoorRows.lean that lists a variable, with what it lists TIED to the program's text (the seventh form; the later family's looks); each row that meets fmt, with fmt's text TOLD by the authors' own Lean function (tested against real Go, not proved from fmt's source: count such statements apart). THE CARD IS WHAT COUNTS. Prove the row's statement (the work); the ties are given (YthfgbgmkiggjmabDoorTie.lean); close each card by the builder's one call (the guide's Derived/Test/ToyasCard.lean, 'card_holds'). Laid BY PROGRAM, IN A SANDBOX (cutbox-door.mjs). By AI agents, Wed Nov 11 2026. No macro, syntax, notation, axiom, sorry.
-/
import Derived.Test.YthfgbgmkiggjmabDoorRows
import GoSem.ClaimSeven
namespace Go.Proofs.YthfgbgmkiggjmabDoor
namespace Rows

/-- THE TIED CARD OF 'teamsterlaw.GraphParts'. -/
def graphPartsCard : Claim7 := { stood := { row := graphPartsRow, standIns := [], harness := (true, "453b7ba70e231f84b789b2c643083535ac169f0be8729f1cef1b0cfc17118c8e"), looks := false }, kinds := [], alts := [], laidByText := true, laidKinds := [.data], laidTests := true, laidLooks := .later }
def GraphPartsCardSaid : Prop := Claim7.holds Tryd.pinned (.plain (OpenSpec.ofChange graphPartsSpec)) graphPartsCard

/-- THE TIED CARD OF 'teamsterlaw.GraphDists'. -/
def graphDistsCard : Claim7 := { stood := { row := graphDistsRow, standIns := [], harness := (true, "453b7ba70e231f84b789b2c643083535ac169f0be8729f1cef1b0cfc17118c8e"), looks := false }, kinds := [], alts := [], laidByText := true, laidKinds := [.data], laidTests := true, laidLooks := .later }
def GraphDistsCardSaid : Prop := Claim7.holds Tryd.pinned (.plain (OpenSpec.ofChange graphDistsSpec)) graphDistsCard

/-- THE TIED CARD OF 'teamsterkeep.GraphMetric'. -/
def graphMetricCard : Claim7 := { stood := { row := graphMetricRow, standIns := [], harness := (true, "453b7ba70e231f84b789b2c643083535ac169f0be8729f1cef1b0cfc17118c8e"), looks := false }, kinds := [], alts := [], laidByText := true, laidKinds := [.data], laidTests := true, laidLooks := .later }
def GraphMetricCardSaid : Prop := Claim7.holds Tryd.pinned (.plain (OpenSpec.ofChange graphMetricSpec)) graphMetricCard

/-- THE TIED CARD OF 'teamsterkeep.GraphLinked'. -/
def graphLinkedCard : Claim7 := { stood := { row := graphLinkedRow, standIns := [], harness := (true, "453b7ba70e231f84b789b2c643083535ac169f0be8729f1cef1b0cfc17118c8e"), looks := false }, kinds := [], alts := [], laidByText := true, laidKinds := [.data], laidTests := true, laidLooks := .later }
def GraphLinkedCardSaid : Prop := Claim7.holds Tryd.pinned (.plain (OpenSpec.ofChange graphLinkedSpec)) graphLinkedCard

/-- THE TIED CARD OF 'teamsterlaw.TourTells'. -/
def tourTellsCard : Claim7 := { stood := { row := tourTellsRow, standIns := [], harness := (true, "453b7ba70e231f84b789b2c643083535ac169f0be8729f1cef1b0cfc17118c8e"), looks := false }, kinds := [], alts := [], laidByText := true, laidKinds := [.data], laidTests := true, laidLooks := .later }
def TourTellsCardSaid : Prop := Claim7.holds Tryd.pinned (.plain (OpenSpec.ofChange tourTellsSpec)) tourTellsCard

/-- THE TIED CARD OF 'teamsterkeep.TourEuler'. -/
def tourEulerCard : Claim7 := { stood := { row := tourEulerRow, standIns := [], harness := (true, "453b7ba70e231f84b789b2c643083535ac169f0be8729f1cef1b0cfc17118c8e"), looks := false }, kinds := [], alts := [], laidByText := true, laidKinds := [.data], laidTests := true, laidLooks := .later }
def TourEulerCardSaid : Prop := Claim7.holds Tryd.pinned (.plain (OpenSpec.ofChange tourEulerSpec)) tourEulerCard

/-- THE TIED CARD OF 'teamsterlaw.SidesTells'. -/
def sidesTellsCard : Claim7 := { stood := { row := sidesTellsRow, standIns := [], harness := (true, "453b7ba70e231f84b789b2c643083535ac169f0be8729f1cef1b0cfc17118c8e"), looks := false }, kinds := [], alts := [], laidByText := true, laidKinds := [.data], laidTests := true, laidLooks := .later }
def SidesTellsCardSaid : Prop := Claim7.holds Tryd.pinned (.plain (OpenSpec.ofChange sidesTellsSpec)) sidesTellsCard

/-- THE TIED CARD OF 'teamsterlaw.SidesRings'. -/
def sidesRingsCard : Claim7 := { stood := { row := sidesRingsRow, standIns := [], harness := (true, "453b7ba70e231f84b789b2c643083535ac169f0be8729f1cef1b0cfc17118c8e"), looks := false }, kinds := [], alts := [], laidByText := true, laidKinds := [.data], laidTests := true, laidLooks := .later }
def SidesRingsCardSaid : Prop := Claim7.holds Tryd.pinned (.plain (OpenSpec.ofChange sidesRingsSpec)) sidesRingsCard

/-- THE TIED CARD OF 'teamsterkeep.SidesKonig'. -/
def sidesKonigCard : Claim7 := { stood := { row := sidesKonigRow, standIns := [], harness := (true, "453b7ba70e231f84b789b2c643083535ac169f0be8729f1cef1b0cfc17118c8e"), looks := false }, kinds := [], alts := [], laidByText := true, laidKinds := [.data], laidTests := true, laidLooks := .later }
def SidesKonigCardSaid : Prop := Claim7.holds Tryd.pinned (.plain (OpenSpec.ofChange sidesKonigSpec)) sidesKonigCard

/-- THE TIED CARD OF 'teamsterlaw.SpanCodes'. -/
def spanCodesCard : Claim7 := { stood := { row := spanCodesRow, standIns := [], harness := (true, "453b7ba70e231f84b789b2c643083535ac169f0be8729f1cef1b0cfc17118c8e"), looks := false }, kinds := [], alts := [], laidByText := true, laidKinds := [.data], laidTests := true, laidLooks := .later }
def SpanCodesCardSaid : Prop := Claim7.holds Tryd.pinned (.plain (OpenSpec.ofChange spanCodesSpec)) spanCodesCard

/-- THE TIED CARD OF 'teamsterkeep.SpanPrufer'. -/
def spanPruferCard : Claim7 := { stood := { row := spanPruferRow, standIns := [], harness := (true, "453b7ba70e231f84b789b2c643083535ac169f0be8729f1cef1b0cfc17118c8e"), looks := false }, kinds := [], alts := [], laidByText := true, laidKinds := [.data], laidTests := true, laidLooks := .later }
def SpanPruferCardSaid : Prop := Claim7.holds Tryd.pinned (.plain (OpenSpec.ofChange spanPruferSpec)) spanPruferCard

/-- THE TIED CARD OF 'teamsterkeep.SpanOne'. -/
def spanOneCard : Claim7 := { stood := { row := spanOneRow, standIns := [], harness := (true, "453b7ba70e231f84b789b2c643083535ac169f0be8729f1cef1b0cfc17118c8e"), looks := false }, kinds := [], alts := [], laidByText := true, laidKinds := [.data], laidTests := true, laidLooks := .later }
def SpanOneCardSaid : Prop := Claim7.holds Tryd.pinned (.plain (OpenSpec.ofChange spanOneSpec)) spanOneCard

/-- THE SECOND FORM's CARD OF 'teamsterlaw.GraphParts'. -/
def graphPartsUptoCard : Claim7 := { stood := { row := graphPartsUptoRow, standIns := [], harness := (true, "453b7ba70e231f84b789b2c643083535ac169f0be8729f1cef1b0cfc17118c8e"), looks := false }, kinds := [], alts := [], laidByText := true, laidKinds := [.data], laidTests := true, laidLooks := .later }
def GraphPartsUptoCardSaid : Prop := Claim7.holds Tryd.pinned (.plain (OpenSpec.upto graphPartsSpec)) graphPartsUptoCard

/-- THE SECOND FORM's CARD OF 'teamsterlaw.GraphDists'. -/
def graphDistsUptoCard : Claim7 := { stood := { row := graphDistsUptoRow, standIns := [], harness := (true, "453b7ba70e231f84b789b2c643083535ac169f0be8729f1cef1b0cfc17118c8e"), looks := false }, kinds := [], alts := [], laidByText := true, laidKinds := [.data], laidTests := true, laidLooks := .later }
def GraphDistsUptoCardSaid : Prop := Claim7.holds Tryd.pinned (.plain (OpenSpec.upto graphDistsSpec)) graphDistsUptoCard

/-- THE SECOND FORM's CARD OF 'teamsterkeep.GraphMetric'. -/
def graphMetricUptoCard : Claim7 := { stood := { row := graphMetricUptoRow, standIns := [], harness := (true, "453b7ba70e231f84b789b2c643083535ac169f0be8729f1cef1b0cfc17118c8e"), looks := false }, kinds := [], alts := [], laidByText := true, laidKinds := [.data], laidTests := true, laidLooks := .later }
def GraphMetricUptoCardSaid : Prop := Claim7.holds Tryd.pinned (.plain (OpenSpec.upto graphMetricSpec)) graphMetricUptoCard

/-- THE SECOND FORM's CARD OF 'teamsterkeep.GraphLinked'. -/
def graphLinkedUptoCard : Claim7 := { stood := { row := graphLinkedUptoRow, standIns := [], harness := (true, "453b7ba70e231f84b789b2c643083535ac169f0be8729f1cef1b0cfc17118c8e"), looks := false }, kinds := [], alts := [], laidByText := true, laidKinds := [.data], laidTests := true, laidLooks := .later }
def GraphLinkedUptoCardSaid : Prop := Claim7.holds Tryd.pinned (.plain (OpenSpec.upto graphLinkedSpec)) graphLinkedUptoCard

/-- THE SECOND FORM's CARD OF 'teamsterlaw.TourTells'. -/
def tourTellsUptoCard : Claim7 := { stood := { row := tourTellsUptoRow, standIns := [], harness := (true, "453b7ba70e231f84b789b2c643083535ac169f0be8729f1cef1b0cfc17118c8e"), looks := false }, kinds := [], alts := [], laidByText := true, laidKinds := [.data], laidTests := true, laidLooks := .later }
def TourTellsUptoCardSaid : Prop := Claim7.holds Tryd.pinned (.plain (OpenSpec.upto tourTellsSpec)) tourTellsUptoCard

/-- THE SECOND FORM's CARD OF 'teamsterkeep.TourEuler'. -/
def tourEulerUptoCard : Claim7 := { stood := { row := tourEulerUptoRow, standIns := [], harness := (true, "453b7ba70e231f84b789b2c643083535ac169f0be8729f1cef1b0cfc17118c8e"), looks := false }, kinds := [], alts := [], laidByText := true, laidKinds := [.data], laidTests := true, laidLooks := .later }
def TourEulerUptoCardSaid : Prop := Claim7.holds Tryd.pinned (.plain (OpenSpec.upto tourEulerSpec)) tourEulerUptoCard

/-- THE SECOND FORM's CARD OF 'teamsterlaw.SidesTells'. -/
def sidesTellsUptoCard : Claim7 := { stood := { row := sidesTellsUptoRow, standIns := [], harness := (true, "453b7ba70e231f84b789b2c643083535ac169f0be8729f1cef1b0cfc17118c8e"), looks := false }, kinds := [], alts := [], laidByText := true, laidKinds := [.data], laidTests := true, laidLooks := .later }
def SidesTellsUptoCardSaid : Prop := Claim7.holds Tryd.pinned (.plain (OpenSpec.upto sidesTellsSpec)) sidesTellsUptoCard

/-- THE SECOND FORM's CARD OF 'teamsterlaw.SidesRings'. -/
def sidesRingsUptoCard : Claim7 := { stood := { row := sidesRingsUptoRow, standIns := [], harness := (true, "453b7ba70e231f84b789b2c643083535ac169f0be8729f1cef1b0cfc17118c8e"), looks := false }, kinds := [], alts := [], laidByText := true, laidKinds := [.data], laidTests := true, laidLooks := .later }
def SidesRingsUptoCardSaid : Prop := Claim7.holds Tryd.pinned (.plain (OpenSpec.upto sidesRingsSpec)) sidesRingsUptoCard

/-- THE SECOND FORM's CARD OF 'teamsterkeep.SidesKonig'. -/
def sidesKonigUptoCard : Claim7 := { stood := { row := sidesKonigUptoRow, standIns := [], harness := (true, "453b7ba70e231f84b789b2c643083535ac169f0be8729f1cef1b0cfc17118c8e"), looks := false }, kinds := [], alts := [], laidByText := true, laidKinds := [.data], laidTests := true, laidLooks := .later }
def SidesKonigUptoCardSaid : Prop := Claim7.holds Tryd.pinned (.plain (OpenSpec.upto sidesKonigSpec)) sidesKonigUptoCard

/-- THE SECOND FORM's CARD OF 'teamsterlaw.SpanCodes'. -/
def spanCodesUptoCard : Claim7 := { stood := { row := spanCodesUptoRow, standIns := [], harness := (true, "453b7ba70e231f84b789b2c643083535ac169f0be8729f1cef1b0cfc17118c8e"), looks := false }, kinds := [], alts := [], laidByText := true, laidKinds := [.data], laidTests := true, laidLooks := .later }
def SpanCodesUptoCardSaid : Prop := Claim7.holds Tryd.pinned (.plain (OpenSpec.upto spanCodesSpec)) spanCodesUptoCard

/-- THE SECOND FORM's CARD OF 'teamsterkeep.SpanPrufer'. -/
def spanPruferUptoCard : Claim7 := { stood := { row := spanPruferUptoRow, standIns := [], harness := (true, "453b7ba70e231f84b789b2c643083535ac169f0be8729f1cef1b0cfc17118c8e"), looks := false }, kinds := [], alts := [], laidByText := true, laidKinds := [.data], laidTests := true, laidLooks := .later }
def SpanPruferUptoCardSaid : Prop := Claim7.holds Tryd.pinned (.plain (OpenSpec.upto spanPruferSpec)) spanPruferUptoCard

/-- THE SECOND FORM's CARD OF 'teamsterkeep.SpanOne'. -/
def spanOneUptoCard : Claim7 := { stood := { row := spanOneUptoRow, standIns := [], harness := (true, "453b7ba70e231f84b789b2c643083535ac169f0be8729f1cef1b0cfc17118c8e"), looks := false }, kinds := [], alts := [], laidByText := true, laidKinds := [.data], laidTests := true, laidLooks := .later }
def SpanOneUptoCardSaid : Prop := Claim7.holds Tryd.pinned (.plain (OpenSpec.upto spanOneSpec)) spanOneUptoCard
end Rows
end Go.Proofs.YthfgbgmkiggjmabDoor
