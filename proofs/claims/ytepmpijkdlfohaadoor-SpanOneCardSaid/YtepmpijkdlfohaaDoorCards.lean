/-
  DERIVED. GIVEN WITH THE SEED: THE CARDS: each row of YtepmpijkdlfohaaDoorRows.lean that lists a variable, with what it lists TIED to the program's text (the seventh form; the later family's looks); each row that meets fmt, with fmt's text TOLD by the authors' own Lean function (tested against real Go, not proved from fmt's source: count such statements apart). THE CARD IS WHAT COUNTS. Prove the row's statement (the work); the ties are given (YtepmpijkdlfohaaDoorTie.lean); close each card by the builder's one call (the guide's Derived/Test/ToyasCard.lean, 'card_holds'). Laid BY PROGRAM, IN A SANDBOX (cutbox-door.mjs). By AI agents, Wed Nov 11 2026. No macro, syntax, notation, axiom, sorry.
-/
import Derived.Test.YtepmpijkdlfohaaDoorRows
import GoSem.ClaimSeven
namespace Go.Proofs.YtepmpijkdlfohaaDoor
namespace Rows

/-- THE TIED CARD OF 'teamsterlaw.SpanMany'. -/
def spanManyCard : Claim7 := { stood := { row := spanManyRow, standIns := [], harness := (true, "6cff7d8913bbecc6764f3e5a8e82bbaf4c93482a3218521bb3f0a77f2864f605"), looks := false }, kinds := [], alts := [], laidByText := true, laidKinds := [.data], laidTests := true, laidLooks := .later }
def SpanManyCardSaid : Prop := Claim7.holds Tryd.pinned (.plain (OpenSpec.ofChange spanManySpec)) spanManyCard

/-- THE TIED CARD OF 'teamsterlaw.SpanCodes'. -/
def spanCodesCard : Claim7 := { stood := { row := spanCodesRow, standIns := [], harness := (true, "6cff7d8913bbecc6764f3e5a8e82bbaf4c93482a3218521bb3f0a77f2864f605"), looks := false }, kinds := [], alts := [], laidByText := true, laidKinds := [.data], laidTests := true, laidLooks := .later }
def SpanCodesCardSaid : Prop := Claim7.holds Tryd.pinned (.plain (OpenSpec.ofChange spanCodesSpec)) spanCodesCard

/-- THE TIED CARD OF 'teamsterkeep.SpanCayley'. -/
def spanCayleyCard : Claim7 := { stood := { row := spanCayleyRow, standIns := [], harness := (true, "6cff7d8913bbecc6764f3e5a8e82bbaf4c93482a3218521bb3f0a77f2864f605"), looks := false }, kinds := [], alts := [], laidByText := true, laidKinds := [.data], laidTests := true, laidLooks := .later }
def SpanCayleyCardSaid : Prop := Claim7.holds Tryd.pinned (.plain (OpenSpec.ofChange spanCayleySpec)) spanCayleyCard

/-- THE TIED CARD OF 'teamsterkeep.SpanOne'. -/
def spanOneCard : Claim7 := { stood := { row := spanOneRow, standIns := [], harness := (true, "6cff7d8913bbecc6764f3e5a8e82bbaf4c93482a3218521bb3f0a77f2864f605"), looks := false }, kinds := [], alts := [], laidByText := true, laidKinds := [.data], laidTests := true, laidLooks := .later }
def SpanOneCardSaid : Prop := Claim7.holds Tryd.pinned (.plain (OpenSpec.ofChange spanOneSpec)) spanOneCard

/-- THE TIED CARD OF 'teamsterkeep.SpanPrufer'. -/
def spanPruferCard : Claim7 := { stood := { row := spanPruferRow, standIns := [], harness := (true, "6cff7d8913bbecc6764f3e5a8e82bbaf4c93482a3218521bb3f0a77f2864f605"), looks := false }, kinds := [], alts := [], laidByText := true, laidKinds := [.data], laidTests := true, laidLooks := .later }
def SpanPruferCardSaid : Prop := Claim7.holds Tryd.pinned (.plain (OpenSpec.ofChange spanPruferSpec)) spanPruferCard

/-- THE SECOND FORM's CARD OF 'teamsterlaw.SpanMany'. -/
def spanManyUptoCard : Claim7 := { stood := { row := spanManyUptoRow, standIns := [], harness := (true, "6cff7d8913bbecc6764f3e5a8e82bbaf4c93482a3218521bb3f0a77f2864f605"), looks := false }, kinds := [], alts := [], laidByText := true, laidKinds := [.data], laidTests := true, laidLooks := .later }
def SpanManyUptoCardSaid : Prop := Claim7.holds Tryd.pinned (.plain (OpenSpec.upto spanManySpec)) spanManyUptoCard

/-- THE SECOND FORM's CARD OF 'teamsterlaw.SpanCodes'. -/
def spanCodesUptoCard : Claim7 := { stood := { row := spanCodesUptoRow, standIns := [], harness := (true, "6cff7d8913bbecc6764f3e5a8e82bbaf4c93482a3218521bb3f0a77f2864f605"), looks := false }, kinds := [], alts := [], laidByText := true, laidKinds := [.data], laidTests := true, laidLooks := .later }
def SpanCodesUptoCardSaid : Prop := Claim7.holds Tryd.pinned (.plain (OpenSpec.upto spanCodesSpec)) spanCodesUptoCard

/-- THE SECOND FORM's CARD OF 'teamsterkeep.SpanCayley'. -/
def spanCayleyUptoCard : Claim7 := { stood := { row := spanCayleyUptoRow, standIns := [], harness := (true, "6cff7d8913bbecc6764f3e5a8e82bbaf4c93482a3218521bb3f0a77f2864f605"), looks := false }, kinds := [], alts := [], laidByText := true, laidKinds := [.data], laidTests := true, laidLooks := .later }
def SpanCayleyUptoCardSaid : Prop := Claim7.holds Tryd.pinned (.plain (OpenSpec.upto spanCayleySpec)) spanCayleyUptoCard

/-- THE SECOND FORM's CARD OF 'teamsterkeep.SpanOne'. -/
def spanOneUptoCard : Claim7 := { stood := { row := spanOneUptoRow, standIns := [], harness := (true, "6cff7d8913bbecc6764f3e5a8e82bbaf4c93482a3218521bb3f0a77f2864f605"), looks := false }, kinds := [], alts := [], laidByText := true, laidKinds := [.data], laidTests := true, laidLooks := .later }
def SpanOneUptoCardSaid : Prop := Claim7.holds Tryd.pinned (.plain (OpenSpec.upto spanOneSpec)) spanOneUptoCard

/-- THE SECOND FORM's CARD OF 'teamsterkeep.SpanPrufer'. -/
def spanPruferUptoCard : Claim7 := { stood := { row := spanPruferUptoRow, standIns := [], harness := (true, "6cff7d8913bbecc6764f3e5a8e82bbaf4c93482a3218521bb3f0a77f2864f605"), looks := false }, kinds := [], alts := [], laidByText := true, laidKinds := [.data], laidTests := true, laidLooks := .later }
def SpanPruferUptoCardSaid : Prop := Claim7.holds Tryd.pinned (.plain (OpenSpec.upto spanPruferSpec)) spanPruferUptoCard
end Rows
end Go.Proofs.YtepmpijkdlfohaaDoor
