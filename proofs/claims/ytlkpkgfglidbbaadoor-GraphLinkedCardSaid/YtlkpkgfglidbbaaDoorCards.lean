/-
  DERIVED. GIVEN WITH THE SEED: THE CARDS: each row of YtlkpkgfglidbbaaDoorRows.lean that lists a variable, with what it lists TIED to the program's text (the seventh form; the later family's looks); each row that meets fmt, with fmt's text TOLD by the authors' own Lean function (tested against real Go, not proved from fmt's source: count such statements apart). THE CARD IS WHAT COUNTS. Prove the row's statement (the work); the ties are given (YtlkpkgfglidbbaaDoorTie.lean); close each card by the builder's one call (the guide's Derived/Test/ToyasCard.lean, 'card_holds'). Laid BY PROGRAM, IN A SANDBOX (cutbox-door.mjs). By AI agents, Wed Nov 11 2026. No macro, syntax, notation, axiom, sorry.
-/
import Derived.Test.YtlkpkgfglidbbaaDoorRows
import GoSem.ClaimSeven
namespace Go.Proofs.YtlkpkgfglidbbaaDoor
namespace Rows

/-- THE TIED CARD OF 'teamsterlaw.GraphParts'. -/
def graphPartsCard : Claim7 := { stood := { row := graphPartsRow, standIns := [], harness := (true, "8df83fb7240a33dc2fb9ea4a86764a1583dfa7e0c221709ef871e4bddf34a49d"), looks := false }, kinds := [], alts := [], laidByText := true, laidKinds := [.data], laidTests := true, laidLooks := .later }
def GraphPartsCardSaid : Prop := Claim7.holds Tryd.pinned (.plain (OpenSpec.ofChange graphPartsSpec)) graphPartsCard

/-- THE TIED CARD OF 'teamsterlaw.GraphDists'. -/
def graphDistsCard : Claim7 := { stood := { row := graphDistsRow, standIns := [], harness := (true, "8df83fb7240a33dc2fb9ea4a86764a1583dfa7e0c221709ef871e4bddf34a49d"), looks := false }, kinds := [], alts := [], laidByText := true, laidKinds := [.data], laidTests := true, laidLooks := .later }
def GraphDistsCardSaid : Prop := Claim7.holds Tryd.pinned (.plain (OpenSpec.ofChange graphDistsSpec)) graphDistsCard

/-- THE TIED CARD OF 'teamsterkeep.GraphMetric'. -/
def graphMetricCard : Claim7 := { stood := { row := graphMetricRow, standIns := [], harness := (true, "8df83fb7240a33dc2fb9ea4a86764a1583dfa7e0c221709ef871e4bddf34a49d"), looks := false }, kinds := [], alts := [], laidByText := true, laidKinds := [.data], laidTests := true, laidLooks := .later }
def GraphMetricCardSaid : Prop := Claim7.holds Tryd.pinned (.plain (OpenSpec.ofChange graphMetricSpec)) graphMetricCard

/-- THE TIED CARD OF 'teamsterkeep.GraphLinked'. -/
def graphLinkedCard : Claim7 := { stood := { row := graphLinkedRow, standIns := [], harness := (true, "8df83fb7240a33dc2fb9ea4a86764a1583dfa7e0c221709ef871e4bddf34a49d"), looks := false }, kinds := [], alts := [], laidByText := true, laidKinds := [.data], laidTests := true, laidLooks := .later }
def GraphLinkedCardSaid : Prop := Claim7.holds Tryd.pinned (.plain (OpenSpec.ofChange graphLinkedSpec)) graphLinkedCard

/-- THE SECOND FORM's CARD OF 'teamsterlaw.GraphParts'. -/
def graphPartsUptoCard : Claim7 := { stood := { row := graphPartsUptoRow, standIns := [], harness := (true, "8df83fb7240a33dc2fb9ea4a86764a1583dfa7e0c221709ef871e4bddf34a49d"), looks := false }, kinds := [], alts := [], laidByText := true, laidKinds := [.data], laidTests := true, laidLooks := .later }
def GraphPartsUptoCardSaid : Prop := Claim7.holds Tryd.pinned (.plain (OpenSpec.upto graphPartsSpec)) graphPartsUptoCard

/-- THE SECOND FORM's CARD OF 'teamsterlaw.GraphDists'. -/
def graphDistsUptoCard : Claim7 := { stood := { row := graphDistsUptoRow, standIns := [], harness := (true, "8df83fb7240a33dc2fb9ea4a86764a1583dfa7e0c221709ef871e4bddf34a49d"), looks := false }, kinds := [], alts := [], laidByText := true, laidKinds := [.data], laidTests := true, laidLooks := .later }
def GraphDistsUptoCardSaid : Prop := Claim7.holds Tryd.pinned (.plain (OpenSpec.upto graphDistsSpec)) graphDistsUptoCard

/-- THE SECOND FORM's CARD OF 'teamsterkeep.GraphMetric'. -/
def graphMetricUptoCard : Claim7 := { stood := { row := graphMetricUptoRow, standIns := [], harness := (true, "8df83fb7240a33dc2fb9ea4a86764a1583dfa7e0c221709ef871e4bddf34a49d"), looks := false }, kinds := [], alts := [], laidByText := true, laidKinds := [.data], laidTests := true, laidLooks := .later }
def GraphMetricUptoCardSaid : Prop := Claim7.holds Tryd.pinned (.plain (OpenSpec.upto graphMetricSpec)) graphMetricUptoCard

/-- THE SECOND FORM's CARD OF 'teamsterkeep.GraphLinked'. -/
def graphLinkedUptoCard : Claim7 := { stood := { row := graphLinkedUptoRow, standIns := [], harness := (true, "8df83fb7240a33dc2fb9ea4a86764a1583dfa7e0c221709ef871e4bddf34a49d"), looks := false }, kinds := [], alts := [], laidByText := true, laidKinds := [.data], laidTests := true, laidLooks := .later }
def GraphLinkedUptoCardSaid : Prop := Claim7.holds Tryd.pinned (.plain (OpenSpec.upto graphLinkedSpec)) graphLinkedUptoCard
end Rows
end Go.Proofs.YtlkpkgfglidbbaaDoor
