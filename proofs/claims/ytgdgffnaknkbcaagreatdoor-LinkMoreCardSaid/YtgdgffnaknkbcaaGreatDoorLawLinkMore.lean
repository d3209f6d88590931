/- PROVED: the law LinkMore: one class more, at the end, changes nothing of what the others are. Every list of classes, every class. -/
import Derived.Test.YtgdgffnaknkbcaaGreatDoorLawLinkMoreH
namespace Go.Proofs.YtgdgffnaknkbcaaGreatDoor.linkMore
open Go.ChangeShapes Go.WideShapes Go.ChangeAt Go.RowKit
set_option linter.unusedVariables false
set_option linter.unusedSimpArgs false
theorem proved : Rows.LinkMoreCardSaid :=
  Claim7.holds_tied_plain_at .later [] _ _ _ _ over (fun _ h => by cases h) (by kernel_rfl) (fun _ h => by cases h) linkMore_row_tie rfl ⟨rfl, rfl⟩ t_main rfl plain t_goes
#print axioms proved
end Go.Proofs.YtgdgffnaknkbcaaGreatDoor.linkMore
