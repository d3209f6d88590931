/-
  DERIVED. GIVEN WITH THE SEED: THE CARDS: each row of YtinbelghhfodiaaGreatDoorRows.lean that lists a variable, with what it lists TIED to the program's text (the seventh form; the later family's looks); each row that meets fmt, with fmt's text TOLD by the authors' own Lean function (tested against real Go, not proved from fmt's source: count such statements apart). THE CARD IS WHAT COUNTS. Prove the row's statement (the work); the ties are given (YtinbelghhfodiaaGreatDoorTie.lean); close each card by the builder's one call (the guide's Derived/Test/ToyasCard.lean, 'card_holds'). Laid BY PROGRAM, IN A SANDBOX (cutbox-door.mjs). By AI agents, Wed Nov 11 2026. No macro, syntax, notation, axiom, sorry.
-/
import Derived.Test.YtinbelghhfodiaaGreatDoorRows
import GoSem.ClaimSeven
namespace Go.Proofs.YtinbelghhfodiaaGreatDoor
namespace Rows

/-- THE TIED CARD OF 'understudylaw11.RulesAssigns'. -/
def rulesAssignsCard : Claim7 := { stood := { row := rulesAssignsRow, standIns := [], harness := (true, "7037669ba9c1328a3c382b4b7ed109b1f054c1af86d93dea4d71ead1c55df207"), looks := true }, kinds := [], alts := [], laidByText := true, laidKinds := [.data, .handle, .pinned], laidTests := true, laidLooks := .later }
def RulesAssignsCardSaid : Prop := Claim7.holds Tryz.pinned (.plain (OpenSpec.ofChange rulesAssignsSpec)) rulesAssignsCard

/-- THE TIED CARD OF 'understudylaw11.RulesFirst'. -/
def rulesFirstCard : Claim7 := { stood := { row := rulesFirstRow, standIns := [], harness := (true, "7037669ba9c1328a3c382b4b7ed109b1f054c1af86d93dea4d71ead1c55df207"), looks := true }, kinds := [], alts := [], laidByText := true, laidKinds := [.data, .handle, .pinned], laidTests := true, laidLooks := .later }
def RulesFirstCardSaid : Prop := Claim7.holds Tryz.pinned (.plain (OpenSpec.ofChange rulesFirstSpec)) rulesFirstCard

/-- THE SECOND FORM's CARD OF 'understudylaw11.RulesAssigns'. -/
def rulesAssignsUptoCard : Claim7 := { stood := { row := rulesAssignsUptoRow, standIns := [], harness := (true, "7037669ba9c1328a3c382b4b7ed109b1f054c1af86d93dea4d71ead1c55df207"), looks := true }, kinds := [], alts := [], laidByText := true, laidKinds := [.data, .handle, .pinned], laidTests := true, laidLooks := .later }
def RulesAssignsUptoCardSaid : Prop := Claim7.holds Tryz.pinned (.plain (OpenSpec.upto rulesAssignsSpec)) rulesAssignsUptoCard

/-- THE SECOND FORM's CARD OF 'understudylaw11.RulesFirst'. -/
def rulesFirstUptoCard : Claim7 := { stood := { row := rulesFirstUptoRow, standIns := [], harness := (true, "7037669ba9c1328a3c382b4b7ed109b1f054c1af86d93dea4d71ead1c55df207"), looks := true }, kinds := [], alts := [], laidByText := true, laidKinds := [.data, .handle, .pinned], laidTests := true, laidLooks := .later }
def RulesFirstUptoCardSaid : Prop := Claim7.holds Tryz.pinned (.plain (OpenSpec.upto rulesFirstSpec)) rulesFirstUptoCard
end Rows
end Go.Proofs.YtinbelghhfodiaaGreatDoor
