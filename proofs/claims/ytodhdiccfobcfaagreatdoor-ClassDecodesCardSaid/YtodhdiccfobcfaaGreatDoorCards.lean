/-
  DERIVED. GIVEN WITH THE SEED: THE CARDS: each row of YtodhdiccfobcfaaGreatDoorRows.lean that lists a variable, with what it lists TIED to the program's text (the seventh form; the later family's looks); each row that meets fmt, with fmt's text TOLD by the authors' own Lean function (tested against real Go, not proved from fmt's source: count such statements apart). THE CARD IS WHAT COUNTS. Prove the row's statement (the work); the ties are given (YtodhdiccfobcfaaGreatDoorTie.lean); close each card by the builder's one call (the guide's Derived/Test/ToyasCard.lean, 'card_holds'). Laid BY PROGRAM, IN A SANDBOX (cutbox-door.mjs). By AI agents, Wed Nov 11 2026. No macro, syntax, notation, axiom, sorry.
-/
import Derived.Test.YtodhdiccfobcfaaGreatDoorRows
import GoSem.ClaimSeven
namespace Go.Proofs.YtodhdiccfobcfaaGreatDoor
namespace Rows

/-- THE TIED CARD OF 'understudylaw05.ClassEncodes'. -/
def classEncodesCard : Claim7 := { stood := { row := classEncodesRow, standIns := [], harness := (true, "4918ddbe866951c6540a4b389d8e951cc2f3533b0f94b1fb1c479bf7232b99e3"), looks := true }, kinds := [], alts := [], laidByText := true, laidKinds := [.data, .handle, .pinned], laidTests := true, laidLooks := .later }
def ClassEncodesCardSaid : Prop := Claim7.holds Tryz.pinned (.plain (OpenSpec.ofChange classEncodesSpec)) classEncodesCard

/-- THE TIED CARD OF 'understudylaw05.ClassDecodes'. -/
def classDecodesCard : Claim7 := { stood := { row := classDecodesRow, standIns := [], harness := (true, "4918ddbe866951c6540a4b389d8e951cc2f3533b0f94b1fb1c479bf7232b99e3"), looks := true }, kinds := [], alts := [], laidByText := true, laidKinds := [.data, .handle, .pinned], laidTests := true, laidLooks := .later }
def ClassDecodesCardSaid : Prop := Claim7.holds Tryz.pinned (.plain (OpenSpec.ofChange classDecodesSpec)) classDecodesCard

/-- THE TIED CARD OF 'understudylaw05.ClassBack'. -/
def classBackCard : Claim7 := { stood := { row := classBackRow, standIns := [], harness := (true, "4918ddbe866951c6540a4b389d8e951cc2f3533b0f94b1fb1c479bf7232b99e3"), looks := true }, kinds := [], alts := [], laidByText := true, laidKinds := [.data, .handle, .pinned], laidTests := true, laidLooks := .later }
def ClassBackCardSaid : Prop := Claim7.holds Tryz.pinned (.plain (OpenSpec.ofChange classBackSpec)) classBackCard

/-- THE TIED CARD OF 'understudylaw05.ClassCut'. -/
def classCutCard : Claim7 := { stood := { row := classCutRow, standIns := [], harness := (true, "4918ddbe866951c6540a4b389d8e951cc2f3533b0f94b1fb1c479bf7232b99e3"), looks := true }, kinds := [], alts := [], laidByText := true, laidKinds := [.data, .handle, .pinned], laidTests := true, laidLooks := .later }
def ClassCutCardSaid : Prop := Claim7.holds Tryz.pinned (.plain (OpenSpec.ofChange classCutSpec)) classCutCard

/-- THE TIED CARD OF 'understudylaw05.ClassRight'. -/
def classRightCard : Claim7 := { stood := { row := classRightRow, standIns := [], harness := (true, "4918ddbe866951c6540a4b389d8e951cc2f3533b0f94b1fb1c479bf7232b99e3"), looks := true }, kinds := [], alts := [], laidByText := true, laidKinds := [.data, .handle, .pinned], laidTests := true, laidLooks := .later }
def ClassRightCardSaid : Prop := Claim7.holds Tryz.pinned (.plain (OpenSpec.ofChange classRightSpec)) classRightCard

/-- THE SECOND FORM's CARD OF 'understudylaw05.ClassEncodes'. -/
def classEncodesUptoCard : Claim7 := { stood := { row := classEncodesUptoRow, standIns := [], harness := (true, "4918ddbe866951c6540a4b389d8e951cc2f3533b0f94b1fb1c479bf7232b99e3"), looks := true }, kinds := [], alts := [], laidByText := true, laidKinds := [.data, .handle, .pinned], laidTests := true, laidLooks := .later }
def ClassEncodesUptoCardSaid : Prop := Claim7.holds Tryz.pinned (.plain (OpenSpec.upto classEncodesSpec)) classEncodesUptoCard

/-- THE SECOND FORM's CARD OF 'understudylaw05.ClassDecodes'. -/
def classDecodesUptoCard : Claim7 := { stood := { row := classDecodesUptoRow, standIns := [], harness := (true, "4918ddbe866951c6540a4b389d8e951cc2f3533b0f94b1fb1c479bf7232b99e3"), looks := true }, kinds := [], alts := [], laidByText := true, laidKinds := [.data, .handle, .pinned], laidTests := true, laidLooks := .later }
def ClassDecodesUptoCardSaid : Prop := Claim7.holds Tryz.pinned (.plain (OpenSpec.upto classDecodesSpec)) classDecodesUptoCard

/-- THE SECOND FORM's CARD OF 'understudylaw05.ClassBack'. -/
def classBackUptoCard : Claim7 := { stood := { row := classBackUptoRow, standIns := [], harness := (true, "4918ddbe866951c6540a4b389d8e951cc2f3533b0f94b1fb1c479bf7232b99e3"), looks := true }, kinds := [], alts := [], laidByText := true, laidKinds := [.data, .handle, .pinned], laidTests := true, laidLooks := .later }
def ClassBackUptoCardSaid : Prop := Claim7.holds Tryz.pinned (.plain (OpenSpec.upto classBackSpec)) classBackUptoCard

/-- THE SECOND FORM's CARD OF 'understudylaw05.ClassCut'. -/
def classCutUptoCard : Claim7 := { stood := { row := classCutUptoRow, standIns := [], harness := (true, "4918ddbe866951c6540a4b389d8e951cc2f3533b0f94b1fb1c479bf7232b99e3"), looks := true }, kinds := [], alts := [], laidByText := true, laidKinds := [.data, .handle, .pinned], laidTests := true, laidLooks := .later }
def ClassCutUptoCardSaid : Prop := Claim7.holds Tryz.pinned (.plain (OpenSpec.upto classCutSpec)) classCutUptoCard

/-- THE SECOND FORM's CARD OF 'understudylaw05.ClassRight'. -/
def classRightUptoCard : Claim7 := { stood := { row := classRightUptoRow, standIns := [], harness := (true, "4918ddbe866951c6540a4b389d8e951cc2f3533b0f94b1fb1c479bf7232b99e3"), looks := true }, kinds := [], alts := [], laidByText := true, laidKinds := [.data, .handle, .pinned], laidTests := true, laidLooks := .later }
def ClassRightUptoCardSaid : Prop := Claim7.holds Tryz.pinned (.plain (OpenSpec.upto classRightSpec)) classRightUptoCard
end Rows
end Go.Proofs.YtodhdiccfobcfaaGreatDoor
