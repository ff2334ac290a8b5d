/-
  DERIVED. GIVEN WITH THE SEED: THE CARDS: each row of YtofggmdmeiaejaaDoorRows.lean that lists a variable, with what it lists TIED to the program's text (the seventh form; the later family's looks); each row that meets fmt, with fmt's text TOLD by the authors' own Lean function (tested against real Go, not proved from fmt's source: count such statements apart). THE CARD IS WHAT COUNTS. Prove the row's statement (the work); the ties are given (YtofggmdmeiaejaaDoorTie.lean); close each card by the builder's one call (the guide's Derived/Test/ToyasCard.lean, 'card_holds'). Laid BY PROGRAM, IN A SANDBOX (cutbox-door.mjs). By AI agents, Wed Nov 11 2026. No macro, syntax, notation, axiom, sorry.
-/
import Derived.Test.YtofggmdmeiaejaaDoorRows
import GoSem.ClaimSeven
namespace Go.Proofs.YtofggmdmeiaejaaDoor
namespace Rows

/-- THE TIED CARD OF 'teamsterlaw.GraphParts'. -/
def graphPartsCard : Claim7 := { stood := { row := graphPartsRow, standIns := [], harness := (true, "9083d5b1d04f2dccc65d326535c91128884028c901e05092964dd160d59a6c30"), looks := false }, kinds := [], alts := [], laidByText := true, laidKinds := [.data], laidTests := true, laidLooks := .later }
def GraphPartsCardSaid : Prop := Claim7.holds Tryd.pinned (.plain (OpenSpec.ofChange graphPartsSpec)) graphPartsCard

/-- THE TIED CARD OF 'teamsterlaw.GraphDists'. -/
def graphDistsCard : Claim7 := { stood := { row := graphDistsRow, standIns := [], harness := (true, "9083d5b1d04f2dccc65d326535c91128884028c901e05092964dd160d59a6c30"), looks := false }, kinds := [], alts := [], laidByText := true, laidKinds := [.data], laidTests := true, laidLooks := .later }
def GraphDistsCardSaid : Prop := Claim7.holds Tryd.pinned (.plain (OpenSpec.ofChange graphDistsSpec)) graphDistsCard

/-- THE TIED CARD OF 'teamsterkeep.GraphMetric'. -/
def graphMetricCard : Claim7 := { stood := { row := graphMetricRow, standIns := [], harness := (true, "9083d5b1d04f2dccc65d326535c91128884028c901e05092964dd160d59a6c30"), looks := false }, kinds := [], alts := [], laidByText := true, laidKinds := [.data], laidTests := true, laidLooks := .later }
def GraphMetricCardSaid : Prop := Claim7.holds Tryd.pinned (.plain (OpenSpec.ofChange graphMetricSpec)) graphMetricCard

/-- THE TIED CARD OF 'teamsterkeep.GraphLinked'. -/
def graphLinkedCard : Claim7 := { stood := { row := graphLinkedRow, standIns := [], harness := (true, "9083d5b1d04f2dccc65d326535c91128884028c901e05092964dd160d59a6c30"), looks := false }, kinds := [], alts := [], laidByText := true, laidKinds := [.data], laidTests := true, laidLooks := .later }
def GraphLinkedCardSaid : Prop := Claim7.holds Tryd.pinned (.plain (OpenSpec.ofChange graphLinkedSpec)) graphLinkedCard

/-- THE TIED CARD OF 'teamsterlaw.TourTells'. -/
def tourTellsCard : Claim7 := { stood := { row := tourTellsRow, standIns := [], harness := (true, "9083d5b1d04f2dccc65d326535c91128884028c901e05092964dd160d59a6c30"), looks := false }, kinds := [], alts := [], laidByText := true, laidKinds := [.data], laidTests := true, laidLooks := .later }
def TourTellsCardSaid : Prop := Claim7.holds Tryd.pinned (.plain (OpenSpec.ofChange tourTellsSpec)) tourTellsCard

/-- THE TIED CARD OF 'teamsterkeep.TourEuler'. -/
def tourEulerCard : Claim7 := { stood := { row := tourEulerRow, standIns := [], harness := (true, "9083d5b1d04f2dccc65d326535c91128884028c901e05092964dd160d59a6c30"), looks := false }, kinds := [], alts := [], laidByText := true, laidKinds := [.data], laidTests := true, laidLooks := .later }
def TourEulerCardSaid : Prop := Claim7.holds Tryd.pinned (.plain (OpenSpec.ofChange tourEulerSpec)) tourEulerCard

/-- THE SECOND FORM's CARD OF 'teamsterlaw.GraphParts'. -/
def graphPartsUptoCard : Claim7 := { stood := { row := graphPartsUptoRow, standIns := [], harness := (true, "9083d5b1d04f2dccc65d326535c91128884028c901e05092964dd160d59a6c30"), looks := false }, kinds := [], alts := [], laidByText := true, laidKinds := [.data], laidTests := true, laidLooks := .later }
def GraphPartsUptoCardSaid : Prop := Claim7.holds Tryd.pinned (.plain (OpenSpec.upto graphPartsSpec)) graphPartsUptoCard

/-- THE SECOND FORM's CARD OF 'teamsterlaw.GraphDists'. -/
def graphDistsUptoCard : Claim7 := { stood := { row := graphDistsUptoRow, standIns := [], harness := (true, "9083d5b1d04f2dccc65d326535c91128884028c901e05092964dd160d59a6c30"), looks := false }, kinds := [], alts := [], laidByText := true, laidKinds := [.data], laidTests := true, laidLooks := .later }
def GraphDistsUptoCardSaid : Prop := Claim7.holds Tryd.pinned (.plain (OpenSpec.upto graphDistsSpec)) graphDistsUptoCard

/-- THE SECOND FORM's CARD OF 'teamsterkeep.GraphMetric'. -/
def graphMetricUptoCard : Claim7 := { stood := { row := graphMetricUptoRow, standIns := [], harness := (true, "9083d5b1d04f2dccc65d326535c91128884028c901e05092964dd160d59a6c30"), looks := false }, kinds := [], alts := [], laidByText := true, laidKinds := [.data], laidTests := true, laidLooks := .later }
def GraphMetricUptoCardSaid : Prop := Claim7.holds Tryd.pinned (.plain (OpenSpec.upto graphMetricSpec)) graphMetricUptoCard

/-- THE SECOND FORM's CARD OF 'teamsterkeep.GraphLinked'. -/
def graphLinkedUptoCard : Claim7 := { stood := { row := graphLinkedUptoRow, standIns := [], harness := (true, "9083d5b1d04f2dccc65d326535c91128884028c901e05092964dd160d59a6c30"), looks := false }, kinds := [], alts := [], laidByText := true, laidKinds := [.data], laidTests := true, laidLooks := .later }
def GraphLinkedUptoCardSaid : Prop := Claim7.holds Tryd.pinned (.plain (OpenSpec.upto graphLinkedSpec)) graphLinkedUptoCard

/-- THE SECOND FORM's CARD OF 'teamsterlaw.TourTells'. -/
def tourTellsUptoCard : Claim7 := { stood := { row := tourTellsUptoRow, standIns := [], harness := (true, "9083d5b1d04f2dccc65d326535c91128884028c901e05092964dd160d59a6c30"), looks := false }, kinds := [], alts := [], laidByText := true, laidKinds := [.data], laidTests := true, laidLooks := .later }
def TourTellsUptoCardSaid : Prop := Claim7.holds Tryd.pinned (.plain (OpenSpec.upto tourTellsSpec)) tourTellsUptoCard

/-- THE SECOND FORM's CARD OF 'teamsterkeep.TourEuler'. -/
def tourEulerUptoCard : Claim7 := { stood := { row := tourEulerUptoRow, standIns := [], harness := (true, "9083d5b1d04f2dccc65d326535c91128884028c901e05092964dd160d59a6c30"), looks := false }, kinds := [], alts := [], laidByText := true, laidKinds := [.data], laidTests := true, laidLooks := .later }
def TourEulerUptoCardSaid : Prop := Claim7.holds Tryd.pinned (.plain (OpenSpec.upto tourEulerSpec)) tourEulerUptoCard
end Rows
end Go.Proofs.YtofggmdmeiaejaaDoor
