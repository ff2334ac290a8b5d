/-
  DERIVED. GIVEN WITH THE SEED: THE CARDS: each row of YtmlmnmphmghdlaaDoorRows.lean that lists a variable, with what it lists TIED to the program's text (the seventh form; the later family's looks); each row that meets fmt, with fmt's text TOLD by the authors' own Lean function (tested against real Go, not proved from fmt's source: count such statements apart). THE CARD IS WHAT COUNTS. Prove the row's statement (the work); the ties are given (YtmlmnmphmghdlaaDoorTie.lean); close each card by the builder's one call (the guide's Derived/Test/ToyasCard.lean, 'card_holds'). Laid BY PROGRAM, IN A SANDBOX (cutbox-door.mjs). By AI agents, Wed Nov 11 2026. No macro, syntax, notation, axiom, sorry.
-/
import Derived.Test.YtmlmnmphmghdlaaDoorRows
import GoSem.ClaimSeven
namespace Go.Proofs.YtmlmnmphmghdlaaDoor
namespace Rows

/-- THE TIED CARD OF 'teamsterlaw.FeeAssigns'. -/
def feeAssignsCard : Claim7 := { stood := { row := feeAssignsRow, standIns := [], harness := (true, "2f4fa5de9d4c57b2bce1983374ee1c0c85162b0398a776ceda9b9144fdfcfd2f"), looks := false }, kinds := [], alts := [], laidByText := true, laidKinds := [.data], laidTests := true, laidLooks := .later }
def FeeAssignsCardSaid : Prop := Claim7.holds Tryd.pinned (.plain (OpenSpec.ofChange feeAssignsSpec)) feeAssignsCard

/-- THE TIED CARD OF 'teamsterkeep.FeeDual'. -/
def feeDualCard : Claim7 := { stood := { row := feeDualRow, standIns := [], harness := (true, "2f4fa5de9d4c57b2bce1983374ee1c0c85162b0398a776ceda9b9144fdfcfd2f"), looks := false }, kinds := [], alts := [], laidByText := true, laidKinds := [.data], laidTests := true, laidLooks := .later }
def FeeDualCardSaid : Prop := Claim7.holds Tryd.pinned (.plain (OpenSpec.ofChange feeDualSpec)) feeDualCard

/-- THE TIED CARD OF 'teamsterkeep.FeeShifts'. -/
def feeShiftsCard : Claim7 := { stood := { row := feeShiftsRow, standIns := [], harness := (true, "2f4fa5de9d4c57b2bce1983374ee1c0c85162b0398a776ceda9b9144fdfcfd2f"), looks := false }, kinds := [], alts := [], laidByText := true, laidKinds := [.data], laidTests := true, laidLooks := .later }
def FeeShiftsCardSaid : Prop := Claim7.holds Tryd.pinned (.plain (OpenSpec.ofChange feeShiftsSpec)) feeShiftsCard

/-- THE SECOND FORM's CARD OF 'teamsterlaw.FeeAssigns'. -/
def feeAssignsUptoCard : Claim7 := { stood := { row := feeAssignsUptoRow, standIns := [], harness := (true, "2f4fa5de9d4c57b2bce1983374ee1c0c85162b0398a776ceda9b9144fdfcfd2f"), looks := false }, kinds := [], alts := [], laidByText := true, laidKinds := [.data], laidTests := true, laidLooks := .later }
def FeeAssignsUptoCardSaid : Prop := Claim7.holds Tryd.pinned (.plain (OpenSpec.upto feeAssignsSpec)) feeAssignsUptoCard

/-- THE SECOND FORM's CARD OF 'teamsterkeep.FeeDual'. -/
def feeDualUptoCard : Claim7 := { stood := { row := feeDualUptoRow, standIns := [], harness := (true, "2f4fa5de9d4c57b2bce1983374ee1c0c85162b0398a776ceda9b9144fdfcfd2f"), looks := false }, kinds := [], alts := [], laidByText := true, laidKinds := [.data], laidTests := true, laidLooks := .later }
def FeeDualUptoCardSaid : Prop := Claim7.holds Tryd.pinned (.plain (OpenSpec.upto feeDualSpec)) feeDualUptoCard

/-- THE SECOND FORM's CARD OF 'teamsterkeep.FeeShifts'. -/
def feeShiftsUptoCard : Claim7 := { stood := { row := feeShiftsUptoRow, standIns := [], harness := (true, "2f4fa5de9d4c57b2bce1983374ee1c0c85162b0398a776ceda9b9144fdfcfd2f"), looks := false }, kinds := [], alts := [], laidByText := true, laidKinds := [.data], laidTests := true, laidLooks := .later }
def FeeShiftsUptoCardSaid : Prop := Claim7.holds Tryd.pinned (.plain (OpenSpec.upto feeShiftsSpec)) feeShiftsUptoCard
end Rows
end Go.Proofs.YtmlmnmphmghdlaaDoor
