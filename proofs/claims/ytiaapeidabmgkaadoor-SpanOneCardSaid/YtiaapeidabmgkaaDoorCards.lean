/-
  DERIVED. GIVEN WITH THE SEED: THE CARDS: each row of YtiaapeidabmgkaaDoorRows.lean that lists a variable, with what it lists TIED to the program's text (the seventh form; the later family's looks); each row that meets fmt, with fmt's text TOLD by the authors' own Lean function (tested against real Go, not proved from fmt's source: count such statements apart). THE CARD IS WHAT COUNTS. Prove the row's statement (the work); the ties are given (YtiaapeidabmgkaaDoorTie.lean); close each card by the builder's one call (the guide's Derived/Test/ToyasCard.lean, 'card_holds'). Laid BY PROGRAM, IN A SANDBOX (cutbox-door.mjs). By AI agents, Wed Nov 11 2026. No macro, syntax, notation, axiom, sorry.
-/
import Derived.Test.YtiaapeidabmgkaaDoorRows
import GoSem.ClaimSeven
namespace Go.Proofs.YtiaapeidabmgkaaDoor
namespace Rows

/-- THE TIED CARD OF 'teamsterlaw.SpanMany'. -/
def spanManyCard : Claim7 := { stood := { row := spanManyRow, standIns := [], harness := (true, "9786a6660c4a939609d6614b1027269b09e15e0ef769deb4e0c15cf1a0877369"), looks := false }, kinds := [], alts := [], laidByText := true, laidKinds := [.data], laidTests := true, laidLooks := .later }
def SpanManyCardSaid : Prop := Claim7.holds Tryd.pinned (.plain (OpenSpec.ofChange spanManySpec)) spanManyCard

/-- THE TIED CARD OF 'teamsterkeep.SpanCayley'. -/
def spanCayleyCard : Claim7 := { stood := { row := spanCayleyRow, standIns := [], harness := (true, "9786a6660c4a939609d6614b1027269b09e15e0ef769deb4e0c15cf1a0877369"), looks := false }, kinds := [], alts := [], laidByText := true, laidKinds := [.data], laidTests := true, laidLooks := .later }
def SpanCayleyCardSaid : Prop := Claim7.holds Tryd.pinned (.plain (OpenSpec.ofChange spanCayleySpec)) spanCayleyCard

/-- THE TIED CARD OF 'teamsterkeep.SpanOne'. -/
def spanOneCard : Claim7 := { stood := { row := spanOneRow, standIns := [], harness := (true, "9786a6660c4a939609d6614b1027269b09e15e0ef769deb4e0c15cf1a0877369"), looks := false }, kinds := [], alts := [], laidByText := true, laidKinds := [.data], laidTests := true, laidLooks := .later }
def SpanOneCardSaid : Prop := Claim7.holds Tryd.pinned (.plain (OpenSpec.ofChange spanOneSpec)) spanOneCard

/-- THE TIED CARD OF 'teamsterlaw.SidesTells'. -/
def sidesTellsCard : Claim7 := { stood := { row := sidesTellsRow, standIns := [], harness := (true, "9786a6660c4a939609d6614b1027269b09e15e0ef769deb4e0c15cf1a0877369"), looks := false }, kinds := [], alts := [], laidByText := true, laidKinds := [.data], laidTests := true, laidLooks := .later }
def SidesTellsCardSaid : Prop := Claim7.holds Tryd.pinned (.plain (OpenSpec.ofChange sidesTellsSpec)) sidesTellsCard

/-- THE TIED CARD OF 'teamsterlaw.SidesRings'. -/
def sidesRingsCard : Claim7 := { stood := { row := sidesRingsRow, standIns := [], harness := (true, "9786a6660c4a939609d6614b1027269b09e15e0ef769deb4e0c15cf1a0877369"), looks := false }, kinds := [], alts := [], laidByText := true, laidKinds := [.data], laidTests := true, laidLooks := .later }
def SidesRingsCardSaid : Prop := Claim7.holds Tryd.pinned (.plain (OpenSpec.ofChange sidesRingsSpec)) sidesRingsCard

/-- THE TIED CARD OF 'teamsterkeep.SidesKonig'. -/
def sidesKonigCard : Claim7 := { stood := { row := sidesKonigRow, standIns := [], harness := (true, "9786a6660c4a939609d6614b1027269b09e15e0ef769deb4e0c15cf1a0877369"), looks := false }, kinds := [], alts := [], laidByText := true, laidKinds := [.data], laidTests := true, laidLooks := .later }
def SidesKonigCardSaid : Prop := Claim7.holds Tryd.pinned (.plain (OpenSpec.ofChange sidesKonigSpec)) sidesKonigCard

/-- THE SECOND FORM's CARD OF 'teamsterlaw.SpanMany'. -/
def spanManyUptoCard : Claim7 := { stood := { row := spanManyUptoRow, standIns := [], harness := (true, "9786a6660c4a939609d6614b1027269b09e15e0ef769deb4e0c15cf1a0877369"), looks := false }, kinds := [], alts := [], laidByText := true, laidKinds := [.data], laidTests := true, laidLooks := .later }
def SpanManyUptoCardSaid : Prop := Claim7.holds Tryd.pinned (.plain (OpenSpec.upto spanManySpec)) spanManyUptoCard

/-- THE SECOND FORM's CARD OF 'teamsterkeep.SpanCayley'. -/
def spanCayleyUptoCard : Claim7 := { stood := { row := spanCayleyUptoRow, standIns := [], harness := (true, "9786a6660c4a939609d6614b1027269b09e15e0ef769deb4e0c15cf1a0877369"), looks := false }, kinds := [], alts := [], laidByText := true, laidKinds := [.data], laidTests := true, laidLooks := .later }
def SpanCayleyUptoCardSaid : Prop := Claim7.holds Tryd.pinned (.plain (OpenSpec.upto spanCayleySpec)) spanCayleyUptoCard

/-- THE SECOND FORM's CARD OF 'teamsterkeep.SpanOne'. -/
def spanOneUptoCard : Claim7 := { stood := { row := spanOneUptoRow, standIns := [], harness := (true, "9786a6660c4a939609d6614b1027269b09e15e0ef769deb4e0c15cf1a0877369"), looks := false }, kinds := [], alts := [], laidByText := true, laidKinds := [.data], laidTests := true, laidLooks := .later }
def SpanOneUptoCardSaid : Prop := Claim7.holds Tryd.pinned (.plain (OpenSpec.upto spanOneSpec)) spanOneUptoCard

/-- THE SECOND FORM's CARD OF 'teamsterlaw.SidesTells'. -/
def sidesTellsUptoCard : Claim7 := { stood := { row := sidesTellsUptoRow, standIns := [], harness := (true, "9786a6660c4a939609d6614b1027269b09e15e0ef769deb4e0c15cf1a0877369"), looks := false }, kinds := [], alts := [], laidByText := true, laidKinds := [.data], laidTests := true, laidLooks := .later }
def SidesTellsUptoCardSaid : Prop := Claim7.holds Tryd.pinned (.plain (OpenSpec.upto sidesTellsSpec)) sidesTellsUptoCard

/-- THE SECOND FORM's CARD OF 'teamsterlaw.SidesRings'. -/
def sidesRingsUptoCard : Claim7 := { stood := { row := sidesRingsUptoRow, standIns := [], harness := (true, "9786a6660c4a939609d6614b1027269b09e15e0ef769deb4e0c15cf1a0877369"), looks := false }, kinds := [], alts := [], laidByText := true, laidKinds := [.data], laidTests := true, laidLooks := .later }
def SidesRingsUptoCardSaid : Prop := Claim7.holds Tryd.pinned (.plain (OpenSpec.upto sidesRingsSpec)) sidesRingsUptoCard

/-- THE SECOND FORM's CARD OF 'teamsterkeep.SidesKonig'. -/
def sidesKonigUptoCard : Claim7 := { stood := { row := sidesKonigUptoRow, standIns := [], harness := (true, "9786a6660c4a939609d6614b1027269b09e15e0ef769deb4e0c15cf1a0877369"), looks := false }, kinds := [], alts := [], laidByText := true, laidKinds := [.data], laidTests := true, laidLooks := .later }
def SidesKonigUptoCardSaid : Prop := Claim7.holds Tryd.pinned (.plain (OpenSpec.upto sidesKonigSpec)) sidesKonigUptoCard
end Rows
end Go.Proofs.YtiaapeidabmgkaaDoor
