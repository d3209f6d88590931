/- PROVED: the law LinkBuiltIn: what is built in is in each program, in its place, and nothing of it has code. Every list of classes. -/
import Derived.Test.YtgdgffnaknkbcaaGreatDoorLawLinkBuiltInH
namespace Go.Proofs.YtgdgffnaknkbcaaGreatDoor.linkBuiltIn
open Go.ChangeShapes Go.WideShapes Go.ChangeAt Go.RowKit
set_option linter.unusedVariables false
set_option linter.unusedSimpArgs false
theorem proved : Rows.LinkBuiltInCardSaid :=
  Claim7.holds_tied_plain_at .later [] _ _ _ _ over (fun _ h => by cases h) (by kernel_rfl) (fun _ h => by cases h) linkBuiltIn_row_tie rfl ⟨rfl, rfl⟩ t_main rfl plain t_goes
#print axioms proved
end Go.Proofs.YtgdgffnaknkbcaaGreatDoor.linkBuiltIn
