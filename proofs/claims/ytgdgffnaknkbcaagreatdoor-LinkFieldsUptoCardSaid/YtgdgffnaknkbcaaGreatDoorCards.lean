/-
  DERIVED. GIVEN WITH THE SEED: THE CARDS: each row of YtgdgffnaknkbcaaGreatDoorRows.lean that lists a variable, with what it lists TIED to the program's text (the seventh form; the later family's looks); each row that meets fmt, with fmt's text TOLD by the authors' own Lean function (tested against real Go, not proved from fmt's source: count such statements apart). THE CARD IS WHAT COUNTS. Prove the row's statement (the work); the ties are given (YtgdgffnaknkbcaaGreatDoorTie.lean); close each card by the builder's one call (the guide's Derived/Test/ToyasCard.lean, 'card_holds'). Laid BY PROGRAM, IN A SANDBOX (cutbox-door.mjs). By AI agents, Wed Nov 11 2026. No macro, syntax, notation, axiom, sorry.
-/
import Derived.Test.YtgdgffnaknkbcaaGreatDoorRows
import GoSem.ClaimSeven
namespace Go.Proofs.YtgdgffnaknkbcaaGreatDoor
namespace Rows

/-- THE TIED CARD OF 'understudylaw09.LinkBuilds'. -/
def linkBuildsCard : Claim7 := { stood := { row := linkBuildsRow, standIns := [], harness := (true, "7c2a5be640eb675be3dca4d27a82e69531754b7d1518c61a6fd80d88f362e391"), looks := true }, kinds := [], alts := [], laidByText := true, laidKinds := [.data, .handle, .pinned], laidTests := true, laidLooks := .later }
def LinkBuildsCardSaid : Prop := Claim7.holds Tryz.pinned (.plain (OpenSpec.ofChange linkBuildsSpec)) linkBuildsCard

/-- THE TIED CARD OF 'understudylaw09.LinkLooks'. -/
def linkLooksCard : Claim7 := { stood := { row := linkLooksRow, standIns := [], harness := (true, "7c2a5be640eb675be3dca4d27a82e69531754b7d1518c61a6fd80d88f362e391"), looks := true }, kinds := [], alts := [], laidByText := true, laidKinds := [.data, .handle, .pinned], laidTests := true, laidLooks := .later }
def LinkLooksCardSaid : Prop := Claim7.holds Tryz.pinned (.plain (OpenSpec.ofChange linkLooksSpec)) linkLooksCard

/-- THE TIED CARD OF 'understudylaw09.LinkTree'. -/
def linkTreeCard : Claim7 := { stood := { row := linkTreeRow, standIns := [], harness := (true, "7c2a5be640eb675be3dca4d27a82e69531754b7d1518c61a6fd80d88f362e391"), looks := true }, kinds := [], alts := [], laidByText := true, laidKinds := [.data, .handle, .pinned], laidTests := true, laidLooks := .later }
def LinkTreeCardSaid : Prop := Claim7.holds Tryz.pinned (.plain (OpenSpec.ofChange linkTreeSpec)) linkTreeCard

/-- THE TIED CARD OF 'understudylaw09.LinkFields'. -/
def linkFieldsCard : Claim7 := { stood := { row := linkFieldsRow, standIns := [], harness := (true, "7c2a5be640eb675be3dca4d27a82e69531754b7d1518c61a6fd80d88f362e391"), looks := true }, kinds := [], alts := [], laidByText := true, laidKinds := [.data, .handle, .pinned], laidTests := true, laidLooks := .later }
def LinkFieldsCardSaid : Prop := Claim7.holds Tryz.pinned (.plain (OpenSpec.ofChange linkFieldsSpec)) linkFieldsCard

/-- THE TIED CARD OF 'understudylaw09.LinkBuiltIn'. -/
def linkBuiltInCard : Claim7 := { stood := { row := linkBuiltInRow, standIns := [], harness := (true, "7c2a5be640eb675be3dca4d27a82e69531754b7d1518c61a6fd80d88f362e391"), looks := true }, kinds := [], alts := [], laidByText := true, laidKinds := [.data, .handle, .pinned], laidTests := true, laidLooks := .later }
def LinkBuiltInCardSaid : Prop := Claim7.holds Tryz.pinned (.plain (OpenSpec.ofChange linkBuiltInSpec)) linkBuiltInCard

/-- THE TIED CARD OF 'understudylaw09.LinkMore'. -/
def linkMoreCard : Claim7 := { stood := { row := linkMoreRow, standIns := [], harness := (true, "7c2a5be640eb675be3dca4d27a82e69531754b7d1518c61a6fd80d88f362e391"), looks := true }, kinds := [], alts := [], laidByText := true, laidKinds := [.data, .handle, .pinned], laidTests := true, laidLooks := .later }
def LinkMoreCardSaid : Prop := Claim7.holds Tryz.pinned (.plain (OpenSpec.ofChange linkMoreSpec)) linkMoreCard

/-- THE SECOND FORM's CARD OF 'understudylaw09.LinkBuilds'. -/
def linkBuildsUptoCard : Claim7 := { stood := { row := linkBuildsUptoRow, standIns := [], harness := (true, "7c2a5be640eb675be3dca4d27a82e69531754b7d1518c61a6fd80d88f362e391"), looks := true }, kinds := [], alts := [], laidByText := true, laidKinds := [.data, .handle, .pinned], laidTests := true, laidLooks := .later }
def LinkBuildsUptoCardSaid : Prop := Claim7.holds Tryz.pinned (.plain (OpenSpec.upto linkBuildsSpec)) linkBuildsUptoCard

/-- THE SECOND FORM's CARD OF 'understudylaw09.LinkLooks'. -/
def linkLooksUptoCard : Claim7 := { stood := { row := linkLooksUptoRow, standIns := [], harness := (true, "7c2a5be640eb675be3dca4d27a82e69531754b7d1518c61a6fd80d88f362e391"), looks := true }, kinds := [], alts := [], laidByText := true, laidKinds := [.data, .handle, .pinned], laidTests := true, laidLooks := .later }
def LinkLooksUptoCardSaid : Prop := Claim7.holds Tryz.pinned (.plain (OpenSpec.upto linkLooksSpec)) linkLooksUptoCard

/-- THE SECOND FORM's CARD OF 'understudylaw09.LinkTree'. -/
def linkTreeUptoCard : Claim7 := { stood := { row := linkTreeUptoRow, standIns := [], harness := (true, "7c2a5be640eb675be3dca4d27a82e69531754b7d1518c61a6fd80d88f362e391"), looks := true }, kinds := [], alts := [], laidByText := true, laidKinds := [.data, .handle, .pinned], laidTests := true, laidLooks := .later }
def LinkTreeUptoCardSaid : Prop := Claim7.holds Tryz.pinned (.plain (OpenSpec.upto linkTreeSpec)) linkTreeUptoCard

/-- THE SECOND FORM's CARD OF 'understudylaw09.LinkFields'. -/
def linkFieldsUptoCard : Claim7 := { stood := { row := linkFieldsUptoRow, standIns := [], harness := (true, "7c2a5be640eb675be3dca4d27a82e69531754b7d1518c61a6fd80d88f362e391"), looks := true }, kinds := [], alts := [], laidByText := true, laidKinds := [.data, .handle, .pinned], laidTests := true, laidLooks := .later }
def LinkFieldsUptoCardSaid : Prop := Claim7.holds Tryz.pinned (.plain (OpenSpec.upto linkFieldsSpec)) linkFieldsUptoCard

/-- THE SECOND FORM's CARD OF 'understudylaw09.LinkBuiltIn'. -/
def linkBuiltInUptoCard : Claim7 := { stood := { row := linkBuiltInUptoRow, standIns := [], harness := (true, "7c2a5be640eb675be3dca4d27a82e69531754b7d1518c61a6fd80d88f362e391"), looks := true }, kinds := [], alts := [], laidByText := true, laidKinds := [.data, .handle, .pinned], laidTests := true, laidLooks := .later }
def LinkBuiltInUptoCardSaid : Prop := Claim7.holds Tryz.pinned (.plain (OpenSpec.upto linkBuiltInSpec)) linkBuiltInUptoCard

/-- THE SECOND FORM's CARD OF 'understudylaw09.LinkMore'. -/
def linkMoreUptoCard : Claim7 := { stood := { row := linkMoreUptoRow, standIns := [], harness := (true, "7c2a5be640eb675be3dca4d27a82e69531754b7d1518c61a6fd80d88f362e391"), looks := true }, kinds := [], alts := [], laidByText := true, laidKinds := [.data, .handle, .pinned], laidTests := true, laidLooks := .later }
def LinkMoreUptoCardSaid : Prop := Claim7.holds Tryz.pinned (.plain (OpenSpec.upto linkMoreSpec)) linkMoreUptoCard
end Rows
end Go.Proofs.YtgdgffnaknkbcaaGreatDoor
