/-
  DERIVED. GIVEN WITH THE SEED: THE CARDS: each row of YthfgbgmkiggjmacDoorRows.lean that lists a variable, with what it lists TIED to the program's text (the seventh form; the later family's looks); each row that meets fmt, with fmt's text TOLD by the authors' own Lean function (tested against real Go, not proved from fmt's source: count such statements apart). THE CARD IS WHAT COUNTS. Prove the row's statement (the work); the ties are given (YthfgbgmkiggjmacDoorTie.lean); close each card by the builder's one call (the guide's Derived/Test/ToyasCard.lean, 'card_holds'). Laid BY PROGRAM, IN A SANDBOX (cutbox-door.mjs). By AI agents, Wed Nov 11 2026. No macro, syntax, notation, axiom, sorry.
-/
import Derived.Test.YthfgbgmkiggjmacDoorRows
import GoSem.ClaimSeven
namespace Go.Proofs.YthfgbgmkiggjmacDoor
namespace Rows

/-- THE TIED CARD OF 'teamsterlaw.SpanMany'. -/
def spanManyCard : Claim7 := { stood := { row := spanManyRow, standIns := [], harness := (true, "c4be1c34bd889f4532424dd531b0d923b1197bf9a16a3a9112c189fed51fdfd3"), looks := false }, kinds := [], alts := [], laidByText := true, laidKinds := [.data], laidTests := true, laidLooks := .later }
def SpanManyCardSaid : Prop := Claim7.holds Tryd.pinned (.plain (OpenSpec.ofChange spanManySpec)) spanManyCard

/-- THE TIED CARD OF 'teamsterkeep.SpanCayley'. -/
def spanCayleyCard : Claim7 := { stood := { row := spanCayleyRow, standIns := [], harness := (true, "c4be1c34bd889f4532424dd531b0d923b1197bf9a16a3a9112c189fed51fdfd3"), looks := false }, kinds := [], alts := [], laidByText := true, laidKinds := [.data], laidTests := true, laidLooks := .later }
def SpanCayleyCardSaid : Prop := Claim7.holds Tryd.pinned (.plain (OpenSpec.ofChange spanCayleySpec)) spanCayleyCard

/-- THE TIED CARD OF 'teamsterlaw.BondsMost'. -/
def bondsMostCard : Claim7 := { stood := { row := bondsMostRow, standIns := [], harness := (true, "c4be1c34bd889f4532424dd531b0d923b1197bf9a16a3a9112c189fed51fdfd3"), looks := false }, kinds := [], alts := [], laidByText := true, laidKinds := [.data], laidTests := true, laidLooks := .later }
def BondsMostCardSaid : Prop := Claim7.holds Tryd.pinned (.plain (OpenSpec.ofChange bondsMostSpec)) bondsMostCard

/-- THE TIED CARD OF 'teamsterlaw.BondsWalls'. -/
def bondsWallsCard : Claim7 := { stood := { row := bondsWallsRow, standIns := [], harness := (true, "c4be1c34bd889f4532424dd531b0d923b1197bf9a16a3a9112c189fed51fdfd3"), looks := false }, kinds := [], alts := [], laidByText := true, laidKinds := [.data], laidTests := true, laidLooks := .later }
def BondsWallsCardSaid : Prop := Claim7.holds Tryd.pinned (.plain (OpenSpec.ofChange bondsWallsSpec)) bondsWallsCard

/-- THE TIED CARD OF 'teamsterkeep.BondsTutte'. -/
def bondsTutteCard : Claim7 := { stood := { row := bondsTutteRow, standIns := [], harness := (true, "c4be1c34bd889f4532424dd531b0d923b1197bf9a16a3a9112c189fed51fdfd3"), looks := false }, kinds := [], alts := [], laidByText := true, laidKinds := [.data], laidTests := true, laidLooks := .later }
def BondsTutteCardSaid : Prop := Claim7.holds Tryd.pinned (.plain (OpenSpec.ofChange bondsTutteSpec)) bondsTutteCard

/-- THE TIED CARD OF 'teamsterkeep.BondsAny'. -/
def bondsAnyCard : Claim7 := { stood := { row := bondsAnyRow, standIns := [], harness := (true, "c4be1c34bd889f4532424dd531b0d923b1197bf9a16a3a9112c189fed51fdfd3"), looks := false }, kinds := [], alts := [], laidByText := true, laidKinds := [.data], laidTests := true, laidLooks := .later }
def BondsAnyCardSaid : Prop := Claim7.holds Tryd.pinned (.plain (OpenSpec.ofChange bondsAnySpec)) bondsAnyCard

/-- THE SECOND FORM's CARD OF 'teamsterlaw.SpanMany'. -/
def spanManyUptoCard : Claim7 := { stood := { row := spanManyUptoRow, standIns := [], harness := (true, "c4be1c34bd889f4532424dd531b0d923b1197bf9a16a3a9112c189fed51fdfd3"), looks := false }, kinds := [], alts := [], laidByText := true, laidKinds := [.data], laidTests := true, laidLooks := .later }
def SpanManyUptoCardSaid : Prop := Claim7.holds Tryd.pinned (.plain (OpenSpec.upto spanManySpec)) spanManyUptoCard

/-- THE SECOND FORM's CARD OF 'teamsterkeep.SpanCayley'. -/
def spanCayleyUptoCard : Claim7 := { stood := { row := spanCayleyUptoRow, standIns := [], harness := (true, "c4be1c34bd889f4532424dd531b0d923b1197bf9a16a3a9112c189fed51fdfd3"), looks := false }, kinds := [], alts := [], laidByText := true, laidKinds := [.data], laidTests := true, laidLooks := .later }
def SpanCayleyUptoCardSaid : Prop := Claim7.holds Tryd.pinned (.plain (OpenSpec.upto spanCayleySpec)) spanCayleyUptoCard

/-- THE SECOND FORM's CARD OF 'teamsterlaw.BondsMost'. -/
def bondsMostUptoCard : Claim7 := { stood := { row := bondsMostUptoRow, standIns := [], harness := (true, "c4be1c34bd889f4532424dd531b0d923b1197bf9a16a3a9112c189fed51fdfd3"), looks := false }, kinds := [], alts := [], laidByText := true, laidKinds := [.data], laidTests := true, laidLooks := .later }
def BondsMostUptoCardSaid : Prop := Claim7.holds Tryd.pinned (.plain (OpenSpec.upto bondsMostSpec)) bondsMostUptoCard

/-- THE SECOND FORM's CARD OF 'teamsterlaw.BondsWalls'. -/
def bondsWallsUptoCard : Claim7 := { stood := { row := bondsWallsUptoRow, standIns := [], harness := (true, "c4be1c34bd889f4532424dd531b0d923b1197bf9a16a3a9112c189fed51fdfd3"), looks := false }, kinds := [], alts := [], laidByText := true, laidKinds := [.data], laidTests := true, laidLooks := .later }
def BondsWallsUptoCardSaid : Prop := Claim7.holds Tryd.pinned (.plain (OpenSpec.upto bondsWallsSpec)) bondsWallsUptoCard

/-- THE SECOND FORM's CARD OF 'teamsterkeep.BondsTutte'. -/
def bondsTutteUptoCard : Claim7 := { stood := { row := bondsTutteUptoRow, standIns := [], harness := (true, "c4be1c34bd889f4532424dd531b0d923b1197bf9a16a3a9112c189fed51fdfd3"), looks := false }, kinds := [], alts := [], laidByText := true, laidKinds := [.data], laidTests := true, laidLooks := .later }
def BondsTutteUptoCardSaid : Prop := Claim7.holds Tryd.pinned (.plain (OpenSpec.upto bondsTutteSpec)) bondsTutteUptoCard

/-- THE SECOND FORM's CARD OF 'teamsterkeep.BondsAny'. -/
def bondsAnyUptoCard : Claim7 := { stood := { row := bondsAnyUptoRow, standIns := [], harness := (true, "c4be1c34bd889f4532424dd531b0d923b1197bf9a16a3a9112c189fed51fdfd3"), looks := false }, kinds := [], alts := [], laidByText := true, laidKinds := [.data], laidTests := true, laidLooks := .later }
def BondsAnyUptoCardSaid : Prop := Claim7.holds Tryd.pinned (.plain (OpenSpec.upto bondsAnySpec)) bondsAnyUptoCard
end Rows
end Go.Proofs.YthfgbgmkiggjmacDoor
