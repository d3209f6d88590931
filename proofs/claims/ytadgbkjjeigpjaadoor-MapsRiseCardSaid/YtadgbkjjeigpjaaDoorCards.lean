/-
  DERIVED. GIVEN WITH THE SEED: THE CARDS: each row of YtadgbkjjeigpjaaDoorRows.lean that lists a variable, with what it lists TIED to the program's text (the seventh form; the later family's looks); each row that meets fmt, with fmt's text TOLD by the authors' own Lean function (tested against real Go, not proved from fmt's source: count such statements apart). THE CARD IS WHAT COUNTS. Prove the row's statement (the work); the ties are given (YtadgbkjjeigpjaaDoorTie.lean); close each card by the builder's one call (the guide's Derived/Test/ToyasCard.lean, 'card_holds'). Laid BY PROGRAM, IN A SANDBOX (cutbox-door.mjs). By AI agents, Wed Nov 11 2026. No macro, syntax, notation, axiom, sorry.
-/
import Derived.Test.YtadgbkjjeigpjaaDoorRows
import GoSem.ClaimSeven
namespace Go.Proofs.YtadgbkjjeigpjaaDoor
namespace Rows

/-- THE TIED CARD OF 'understudylaw10.MapsDecodes'. -/
def mapsDecodesCard : Claim7 := { stood := { row := mapsDecodesRow, standIns := [], harness := (true, "9f3b330311c92f1fa59fffd77b6c362060119150fb065b989862da363cea312d"), looks := true }, kinds := [], alts := [], laidByText := true, laidKinds := [.data], laidTests := true, laidLooks := .later }
def MapsDecodesCardSaid : Prop := Claim7.holds Tryd.pinned (.plain (OpenSpec.ofChange mapsDecodesSpec)) mapsDecodesCard

/-- THE TIED CARD OF 'understudylaw10.MapsRise'. -/
def mapsRiseCard : Claim7 := { stood := { row := mapsRiseRow, standIns := [], harness := (true, "9f3b330311c92f1fa59fffd77b6c362060119150fb065b989862da363cea312d"), looks := true }, kinds := [], alts := [], laidByText := true, laidKinds := [.data], laidTests := true, laidLooks := .later }
def MapsRiseCardSaid : Prop := Claim7.holds Tryd.pinned (.plain (OpenSpec.ofChange mapsRiseSpec)) mapsRiseCard

/-- THE SECOND FORM's CARD OF 'understudylaw10.MapsDecodes'. -/
def mapsDecodesUptoCard : Claim7 := { stood := { row := mapsDecodesUptoRow, standIns := [], harness := (true, "9f3b330311c92f1fa59fffd77b6c362060119150fb065b989862da363cea312d"), looks := true }, kinds := [], alts := [], laidByText := true, laidKinds := [.data], laidTests := true, laidLooks := .later }
def MapsDecodesUptoCardSaid : Prop := Claim7.holds Tryd.pinned (.plain (OpenSpec.upto mapsDecodesSpec)) mapsDecodesUptoCard

/-- THE SECOND FORM's CARD OF 'understudylaw10.MapsRise'. -/
def mapsRiseUptoCard : Claim7 := { stood := { row := mapsRiseUptoRow, standIns := [], harness := (true, "9f3b330311c92f1fa59fffd77b6c362060119150fb065b989862da363cea312d"), looks := true }, kinds := [], alts := [], laidByText := true, laidKinds := [.data], laidTests := true, laidLooks := .later }
def MapsRiseUptoCardSaid : Prop := Claim7.holds Tryd.pinned (.plain (OpenSpec.upto mapsRiseSpec)) mapsRiseUptoCard
end Rows
end Go.Proofs.YtadgbkjjeigpjaaDoor
