/-
  DERIVED. GIVEN WITH THE SEED: THE CARDS: each row of YtackogifpfioaaaGreatDoorRows.lean that lists a variable, with what it lists TIED to the program's text (the seventh form; the later family's looks); each row that meets fmt, with fmt's text TOLD by the authors' own Lean function (tested against real Go, not proved from fmt's source: count such statements apart). THE CARD IS WHAT COUNTS. Prove the row's statement (the work); the ties are given (YtackogifpfioaaaGreatDoorTie.lean); close each card by the builder's one call (the guide's Derived/Test/ToyasCard.lean, 'card_holds'). Laid BY PROGRAM, IN A SANDBOX (cutbox-door.mjs). By AI agents, Wed Nov 11 2026. No macro, syntax, notation, axiom, sorry.
-/
import Derived.Test.YtackogifpfioaaaGreatDoorRows
import GoSem.ClaimSeven
namespace Go.Proofs.YtackogifpfioaaaGreatDoor
namespace Rows

/-- THE TIED CARD OF 'understudylaw11.RulesZero'. -/
def rulesZeroCard : Claim7 := { stood := { row := rulesZeroRow, standIns := [], harness := (true, "5a8c13610dae66bad867cdb099989f05e2bbac2bc3657d1a4d80e93048617578"), looks := true }, kinds := [], alts := [], laidByText := true, laidKinds := [.handle, .data, .data, .data, .data, .data], laidTests := true, laidLooks := .later }
def RulesZeroCardSaid : Prop := Claim7.holds Tryz.pinned (.plain (OpenSpec.ofChange rulesZeroSpec)) rulesZeroCard

/-- THE TIED CARD OF 'understudylaw12.VerifyZero'. -/
def verifyZeroCard : Claim7 := { stood := { row := verifyZeroRow, standIns := [], harness := (true, "5a8c13610dae66bad867cdb099989f05e2bbac2bc3657d1a4d80e93048617578"), looks := true }, kinds := [], alts := [], laidByText := true, laidKinds := [.handle, .data, .data, .data, .data, .data, .data], laidTests := true, laidLooks := .later }
def VerifyZeroCardSaid : Prop := Claim7.holds Tryz.pinned (.plain (OpenSpec.ofChange verifyZeroSpec)) verifyZeroCard

/-- THE SECOND FORM's CARD OF 'understudylaw11.RulesZero'. -/
def rulesZeroUptoCard : Claim7 := { stood := { row := rulesZeroUptoRow, standIns := [], harness := (true, "5a8c13610dae66bad867cdb099989f05e2bbac2bc3657d1a4d80e93048617578"), looks := true }, kinds := [], alts := [], laidByText := true, laidKinds := [.handle, .data, .data, .data, .data, .data], laidTests := true, laidLooks := .later }
def RulesZeroUptoCardSaid : Prop := Claim7.holds Tryz.pinned (.plain (OpenSpec.upto rulesZeroSpec)) rulesZeroUptoCard

/-- THE SECOND FORM's CARD OF 'understudylaw12.VerifyZero'. -/
def verifyZeroUptoCard : Claim7 := { stood := { row := verifyZeroUptoRow, standIns := [], harness := (true, "5a8c13610dae66bad867cdb099989f05e2bbac2bc3657d1a4d80e93048617578"), looks := true }, kinds := [], alts := [], laidByText := true, laidKinds := [.handle, .data, .data, .data, .data, .data, .data], laidTests := true, laidLooks := .later }
def VerifyZeroUptoCardSaid : Prop := Claim7.holds Tryz.pinned (.plain (OpenSpec.upto verifyZeroSpec)) verifyZeroUptoCard
end Rows
end Go.Proofs.YtackogifpfioaaaGreatDoor
