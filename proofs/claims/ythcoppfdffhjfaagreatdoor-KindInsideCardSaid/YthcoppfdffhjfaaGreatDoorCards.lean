/-
  DERIVED. GIVEN WITH THE SEED: THE CARDS: each row of YthcoppfdffhjfaaGreatDoorRows.lean that lists a variable, with what it lists TIED to the program's text (the seventh form; the later family's looks); each row that meets fmt, with fmt's text TOLD by the authors' own Lean function (tested against real Go, not proved from fmt's source: count such statements apart). THE CARD IS WHAT COUNTS. Prove the row's statement (the work); the ties are given (YthcoppfdffhjfaaGreatDoorTie.lean); close each card by the builder's one call (the guide's Derived/Test/ToyasCard.lean, 'card_holds'). Laid BY PROGRAM, IN A SANDBOX (cutbox-door.mjs). By AI agents, Wed Nov 11 2026. No macro, syntax, notation, axiom, sorry.
-/
import Derived.Test.YthcoppfdffhjfaaGreatDoorRows
import GoSem.ClaimSeven
namespace Go.Proofs.YthcoppfdffhjfaaGreatDoor
namespace Rows

/-- THE TIED CARD OF 'arguslaw03.KindChecks'. -/
def kindChecksCard : Claim7 := { stood := { row := kindChecksRow, standIns := [], harness := (true, "514e7e6fa1b10e0e7cb0aa911a5d04d8c9d00fe7e1d9102689b1b534fbd6b170"), looks := true }, kinds := [], alts := [], laidByText := true, laidKinds := [.data, .data, .pinned], laidTests := true, laidLooks := .later }
def KindChecksCardSaid : Prop := Claim7.holds Tryz.pinned (.plain (OpenSpec.ofChange kindChecksSpec)) kindChecksCard

/-- THE TIED CARD OF 'arguslaw03.KindParts'. -/
def kindPartsCard : Claim7 := { stood := { row := kindPartsRow, standIns := [], harness := (true, "514e7e6fa1b10e0e7cb0aa911a5d04d8c9d00fe7e1d9102689b1b534fbd6b170"), looks := true }, kinds := [], alts := [], laidByText := true, laidKinds := [.data, .data, .pinned], laidTests := true, laidLooks := .later }
def KindPartsCardSaid : Prop := Claim7.holds Tryz.pinned (.plain (OpenSpec.ofChange kindPartsSpec)) kindPartsCard

/-- THE TIED CARD OF 'arguslaw03.KindMakes'. -/
def kindMakesCard : Claim7 := { stood := { row := kindMakesRow, standIns := [], harness := (true, "514e7e6fa1b10e0e7cb0aa911a5d04d8c9d00fe7e1d9102689b1b534fbd6b170"), looks := true }, kinds := [], alts := [], laidByText := true, laidKinds := [.data, .data, .pinned], laidTests := true, laidLooks := .later }
def KindMakesCardSaid : Prop := Claim7.holds Tryz.pinned (.plain (OpenSpec.ofChange kindMakesSpec)) kindMakesCard

/-- THE TIED CARD OF 'arguslaw03.KindWith'. -/
def kindWithCard : Claim7 := { stood := { row := kindWithRow, standIns := [], harness := (true, "514e7e6fa1b10e0e7cb0aa911a5d04d8c9d00fe7e1d9102689b1b534fbd6b170"), looks := true }, kinds := [], alts := [], laidByText := true, laidKinds := [.data, .data, .pinned], laidTests := true, laidLooks := .later }
def KindWithCardSaid : Prop := Claim7.holds Tryz.pinned (.plain (OpenSpec.ofChange kindWithSpec)) kindWithCard

/-- THE TIED CARD OF 'arguslaw03.KindInside'. -/
def kindInsideCard : Claim7 := { stood := { row := kindInsideRow, standIns := [], harness := (true, "514e7e6fa1b10e0e7cb0aa911a5d04d8c9d00fe7e1d9102689b1b534fbd6b170"), looks := true }, kinds := [], alts := [], laidByText := true, laidKinds := [.data, .data, .pinned], laidTests := true, laidLooks := .later }
def KindInsideCardSaid : Prop := Claim7.holds Tryz.pinned (.plain (OpenSpec.ofChange kindInsideSpec)) kindInsideCard

/-- THE TIED CARD OF 'arguslaw03.KindPut'. -/
def kindPutCard : Claim7 := { stood := { row := kindPutRow, standIns := [], harness := (true, "514e7e6fa1b10e0e7cb0aa911a5d04d8c9d00fe7e1d9102689b1b534fbd6b170"), looks := true }, kinds := [], alts := [], laidByText := true, laidKinds := [.data, .data, .pinned], laidTests := true, laidLooks := .later }
def KindPutCardSaid : Prop := Claim7.holds Tryz.pinned (.plain (OpenSpec.ofChange kindPutSpec)) kindPutCard

/-- THE TIED CARD OF 'arguslaw03.KindMatched'. -/
def kindMatchedCard : Claim7 := { stood := { row := kindMatchedRow, standIns := [], harness := (true, "514e7e6fa1b10e0e7cb0aa911a5d04d8c9d00fe7e1d9102689b1b534fbd6b170"), looks := true }, kinds := [], alts := [], laidByText := true, laidKinds := [.data, .data, .pinned], laidTests := true, laidLooks := .later }
def KindMatchedCardSaid : Prop := Claim7.holds Tryz.pinned (.plain (OpenSpec.ofChange kindMatchedSpec)) kindMatchedCard

/-- THE TIED CARD OF 'arguslaw03.KindRebuilt'. -/
def kindRebuiltCard : Claim7 := { stood := { row := kindRebuiltRow, standIns := [], harness := (true, "514e7e6fa1b10e0e7cb0aa911a5d04d8c9d00fe7e1d9102689b1b534fbd6b170"), looks := true }, kinds := [], alts := [], laidByText := true, laidKinds := [.data, .data, .pinned], laidTests := true, laidLooks := .later }
def KindRebuiltCardSaid : Prop := Claim7.holds Tryz.pinned (.plain (OpenSpec.ofChange kindRebuiltSpec)) kindRebuiltCard

/-- THE TIED CARD OF 'arguslaw03.KindLevels'. -/
def kindLevelsCard : Claim7 := { stood := { row := kindLevelsRow, standIns := [], harness := (true, "514e7e6fa1b10e0e7cb0aa911a5d04d8c9d00fe7e1d9102689b1b534fbd6b170"), looks := true }, kinds := [], alts := [], laidByText := true, laidKinds := [.data, .data, .pinned], laidTests := true, laidLooks := .later }
def KindLevelsCardSaid : Prop := Claim7.holds Tryz.pinned (.plain (OpenSpec.ofChange kindLevelsSpec)) kindLevelsCard

/-- THE TIED CARD OF 'arguslaw03.KindNames'. -/
def kindNamesCard : Claim7 := { stood := { row := kindNamesRow, standIns := [], harness := (true, "514e7e6fa1b10e0e7cb0aa911a5d04d8c9d00fe7e1d9102689b1b534fbd6b170"), looks := true }, kinds := [], alts := [], laidByText := true, laidKinds := [.data, .data, .pinned], laidTests := true, laidLooks := .later }
def KindNamesCardSaid : Prop := Claim7.holds Tryz.pinned (.plain (OpenSpec.ofChange kindNamesSpec)) kindNamesCard

/-- THE SECOND FORM's CARD OF 'arguslaw03.KindChecks'. -/
def kindChecksUptoCard : Claim7 := { stood := { row := kindChecksUptoRow, standIns := [], harness := (true, "514e7e6fa1b10e0e7cb0aa911a5d04d8c9d00fe7e1d9102689b1b534fbd6b170"), looks := true }, kinds := [], alts := [], laidByText := true, laidKinds := [.data, .data, .pinned], laidTests := true, laidLooks := .later }
def KindChecksUptoCardSaid : Prop := Claim7.holds Tryz.pinned (.plain (OpenSpec.upto kindChecksSpec)) kindChecksUptoCard

/-- THE SECOND FORM's CARD OF 'arguslaw03.KindParts'. -/
def kindPartsUptoCard : Claim7 := { stood := { row := kindPartsUptoRow, standIns := [], harness := (true, "514e7e6fa1b10e0e7cb0aa911a5d04d8c9d00fe7e1d9102689b1b534fbd6b170"), looks := true }, kinds := [], alts := [], laidByText := true, laidKinds := [.data, .data, .pinned], laidTests := true, laidLooks := .later }
def KindPartsUptoCardSaid : Prop := Claim7.holds Tryz.pinned (.plain (OpenSpec.upto kindPartsSpec)) kindPartsUptoCard

/-- THE SECOND FORM's CARD OF 'arguslaw03.KindMakes'. -/
def kindMakesUptoCard : Claim7 := { stood := { row := kindMakesUptoRow, standIns := [], harness := (true, "514e7e6fa1b10e0e7cb0aa911a5d04d8c9d00fe7e1d9102689b1b534fbd6b170"), looks := true }, kinds := [], alts := [], laidByText := true, laidKinds := [.data, .data, .pinned], laidTests := true, laidLooks := .later }
def KindMakesUptoCardSaid : Prop := Claim7.holds Tryz.pinned (.plain (OpenSpec.upto kindMakesSpec)) kindMakesUptoCard

/-- THE SECOND FORM's CARD OF 'arguslaw03.KindWith'. -/
def kindWithUptoCard : Claim7 := { stood := { row := kindWithUptoRow, standIns := [], harness := (true, "514e7e6fa1b10e0e7cb0aa911a5d04d8c9d00fe7e1d9102689b1b534fbd6b170"), looks := true }, kinds := [], alts := [], laidByText := true, laidKinds := [.data, .data, .pinned], laidTests := true, laidLooks := .later }
def KindWithUptoCardSaid : Prop := Claim7.holds Tryz.pinned (.plain (OpenSpec.upto kindWithSpec)) kindWithUptoCard

/-- THE SECOND FORM's CARD OF 'arguslaw03.KindInside'. -/
def kindInsideUptoCard : Claim7 := { stood := { row := kindInsideUptoRow, standIns := [], harness := (true, "514e7e6fa1b10e0e7cb0aa911a5d04d8c9d00fe7e1d9102689b1b534fbd6b170"), looks := true }, kinds := [], alts := [], laidByText := true, laidKinds := [.data, .data, .pinned], laidTests := true, laidLooks := .later }
def KindInsideUptoCardSaid : Prop := Claim7.holds Tryz.pinned (.plain (OpenSpec.upto kindInsideSpec)) kindInsideUptoCard

/-- THE SECOND FORM's CARD OF 'arguslaw03.KindPut'. -/
def kindPutUptoCard : Claim7 := { stood := { row := kindPutUptoRow, standIns := [], harness := (true, "514e7e6fa1b10e0e7cb0aa911a5d04d8c9d00fe7e1d9102689b1b534fbd6b170"), looks := true }, kinds := [], alts := [], laidByText := true, laidKinds := [.data, .data, .pinned], laidTests := true, laidLooks := .later }
def KindPutUptoCardSaid : Prop := Claim7.holds Tryz.pinned (.plain (OpenSpec.upto kindPutSpec)) kindPutUptoCard

/-- THE SECOND FORM's CARD OF 'arguslaw03.KindMatched'. -/
def kindMatchedUptoCard : Claim7 := { stood := { row := kindMatchedUptoRow, standIns := [], harness := (true, "514e7e6fa1b10e0e7cb0aa911a5d04d8c9d00fe7e1d9102689b1b534fbd6b170"), looks := true }, kinds := [], alts := [], laidByText := true, laidKinds := [.data, .data, .pinned], laidTests := true, laidLooks := .later }
def KindMatchedUptoCardSaid : Prop := Claim7.holds Tryz.pinned (.plain (OpenSpec.upto kindMatchedSpec)) kindMatchedUptoCard

/-- THE SECOND FORM's CARD OF 'arguslaw03.KindRebuilt'. -/
def kindRebuiltUptoCard : Claim7 := { stood := { row := kindRebuiltUptoRow, standIns := [], harness := (true, "514e7e6fa1b10e0e7cb0aa911a5d04d8c9d00fe7e1d9102689b1b534fbd6b170"), looks := true }, kinds := [], alts := [], laidByText := true, laidKinds := [.data, .data, .pinned], laidTests := true, laidLooks := .later }
def KindRebuiltUptoCardSaid : Prop := Claim7.holds Tryz.pinned (.plain (OpenSpec.upto kindRebuiltSpec)) kindRebuiltUptoCard

/-- THE SECOND FORM's CARD OF 'arguslaw03.KindLevels'. -/
def kindLevelsUptoCard : Claim7 := { stood := { row := kindLevelsUptoRow, standIns := [], harness := (true, "514e7e6fa1b10e0e7cb0aa911a5d04d8c9d00fe7e1d9102689b1b534fbd6b170"), looks := true }, kinds := [], alts := [], laidByText := true, laidKinds := [.data, .data, .pinned], laidTests := true, laidLooks := .later }
def KindLevelsUptoCardSaid : Prop := Claim7.holds Tryz.pinned (.plain (OpenSpec.upto kindLevelsSpec)) kindLevelsUptoCard

/-- THE SECOND FORM's CARD OF 'arguslaw03.KindNames'. -/
def kindNamesUptoCard : Claim7 := { stood := { row := kindNamesUptoRow, standIns := [], harness := (true, "514e7e6fa1b10e0e7cb0aa911a5d04d8c9d00fe7e1d9102689b1b534fbd6b170"), looks := true }, kinds := [], alts := [], laidByText := true, laidKinds := [.data, .data, .pinned], laidTests := true, laidLooks := .later }
def KindNamesUptoCardSaid : Prop := Claim7.holds Tryz.pinned (.plain (OpenSpec.upto kindNamesSpec)) kindNamesUptoCard
end Rows
end Go.Proofs.YthcoppfdffhjfaaGreatDoor
