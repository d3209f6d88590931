/-
  DERIVED. GIVEN WITH THE SEED: THE CARDS: each row of YtemplkpcckmcoaaGreatDoorRows.lean that lists a variable, with what it lists TIED to the program's text (the seventh form; the later family's looks); each row that meets fmt, with fmt's text TOLD by the authors' own Lean function (tested against real Go, not proved from fmt's source: count such statements apart). THE CARD IS WHAT COUNTS. Prove the row's statement (the work); the ties are given (YtemplkpcckmcoaaGreatDoorTie.lean); close each card by the builder's one call (the guide's Derived/Test/ToyasCard.lean, 'card_holds'). Laid BY PROGRAM, IN A SANDBOX (cutbox-door.mjs). By AI agents, Wed Nov 11 2026. No macro, syntax, notation, axiom, sorry.
-/
import Derived.Test.YtemplkpcckmcoaaGreatDoorRows
import GoSem.ClaimSeven
namespace Go.Proofs.YtemplkpcckmcoaaGreatDoor
namespace Rows

/-- THE TIED CARD OF 'understudylaw09.LinkBuilds'. -/
def linkBuildsCard : Claim7 := { stood := { row := linkBuildsRow, standIns := [], harness := (true, "7a5fbf1420a284c89e83fc2fa045c564b025a518309ebebc9350bb7281ae3ed7"), looks := true }, kinds := [], alts := [], laidByText := true, laidKinds := [.data, .handle, .pinned], laidTests := true, laidLooks := .later }
def LinkBuildsCardSaid : Prop := Claim7.holds Tryz.pinned (.plain (OpenSpec.ofChange linkBuildsSpec)) linkBuildsCard

/-- THE SECOND FORM's CARD OF 'understudylaw09.LinkBuilds'. -/
def linkBuildsUptoCard : Claim7 := { stood := { row := linkBuildsUptoRow, standIns := [], harness := (true, "7a5fbf1420a284c89e83fc2fa045c564b025a518309ebebc9350bb7281ae3ed7"), looks := true }, kinds := [], alts := [], laidByText := true, laidKinds := [.data, .handle, .pinned], laidTests := true, laidLooks := .later }
def LinkBuildsUptoCardSaid : Prop := Claim7.holds Tryz.pinned (.plain (OpenSpec.upto linkBuildsSpec)) linkBuildsUptoCard
end Rows
end Go.Proofs.YtemplkpcckmcoaaGreatDoor
