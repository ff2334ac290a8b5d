/-
  DERIVED. GIVEN WITH THE SEED: THE CARDS: each row of YtmelemjngnadpaaDoorRows.lean that lists a variable, with what it lists TIED to the program's text (the seventh form; the later family's looks); each row that meets fmt, with fmt's text TOLD by the authors' own Lean function (tested against real Go, not proved from fmt's source: count such statements apart). THE CARD IS WHAT COUNTS. Prove the row's statement (the work); the ties are given (YtmelemjngnadpaaDoorTie.lean); close each card by the builder's one call (the guide's Derived/Test/ToyasCard.lean, 'card_holds'). Laid BY PROGRAM, IN A SANDBOX (cutbox-door.mjs). By AI agents, Wed Nov 11 2026. No macro, syntax, notation, axiom, sorry.
-/
import Derived.Test.YtmelemjngnadpaaDoorRows
import GoSem.ClaimSeven
namespace Go.Proofs.YtmelemjngnadpaaDoor
namespace Rows

/-- THE TIED CARD OF 'teamsterlaw.LanesWalls'. -/
def lanesWallsCard : Claim7 := { stood := { row := lanesWallsRow, standIns := [], harness := (true, "0905906939781594e6019bf8587921ee728b3b534654805234680e2f62d0a641"), looks := false }, kinds := [], alts := [], laidByText := true, laidKinds := [.data], laidTests := true, laidLooks := .later }
def LanesWallsCardSaid : Prop := Claim7.holds Tryd.pinned (.plain (OpenSpec.ofChange lanesWallsSpec)) lanesWallsCard

/-- THE TIED CARD OF 'teamsterkeep.LanesFew'. -/
def lanesFewCard : Claim7 := { stood := { row := lanesFewRow, standIns := [], harness := (true, "0905906939781594e6019bf8587921ee728b3b534654805234680e2f62d0a641"), looks := false }, kinds := [], alts := [], laidByText := true, laidKinds := [.data], laidTests := true, laidLooks := .later }
def LanesFewCardSaid : Prop := Claim7.holds Tryd.pinned (.plain (OpenSpec.ofChange lanesFewSpec)) lanesFewCard

/-- THE SECOND FORM's CARD OF 'teamsterlaw.LanesWalls'. -/
def lanesWallsUptoCard : Claim7 := { stood := { row := lanesWallsUptoRow, standIns := [], harness := (true, "0905906939781594e6019bf8587921ee728b3b534654805234680e2f62d0a641"), looks := false }, kinds := [], alts := [], laidByText := true, laidKinds := [.data], laidTests := true, laidLooks := .later }
def LanesWallsUptoCardSaid : Prop := Claim7.holds Tryd.pinned (.plain (OpenSpec.upto lanesWallsSpec)) lanesWallsUptoCard

/-- THE SECOND FORM's CARD OF 'teamsterkeep.LanesFew'. -/
def lanesFewUptoCard : Claim7 := { stood := { row := lanesFewUptoRow, standIns := [], harness := (true, "0905906939781594e6019bf8587921ee728b3b534654805234680e2f62d0a641"), looks := false }, kinds := [], alts := [], laidByText := true, laidKinds := [.data], laidTests := true, laidLooks := .later }
def LanesFewUptoCardSaid : Prop := Claim7.holds Tryd.pinned (.plain (OpenSpec.upto lanesFewSpec)) lanesFewUptoCard
end Rows
end Go.Proofs.YtmelemjngnadpaaDoor
