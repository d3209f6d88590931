/- PROVED: the law LinkLooks: fields and methods are found by any names as the document finds them. For every list of classes and names of at most 1048576 places and letters in all (the second form's bound on the input's bulk). -/
import Derived.Test.YtgdgffnaknkbcaaGreatDoorLawLinkLooksH
namespace Go.Proofs.YtgdgffnaknkbcaaGreatDoor.linkLooks
open Go.ChangeShapes Go.WideShapes Go.ChangeAt Go.RowKit
set_option linter.unusedVariables false
set_option linter.unusedSimpArgs false
theorem proved : Rows.LinkLooksUptoCardSaid :=
 Claim7.holds_tied_plain_at .later [] _ _ _ _ over (fun _ h => by cases h) (by kernel_rfl) (fun _ h => by cases h) linkLooksUpto_row_tie rfl ⟨rfl, rfl⟩ t_main rfl plain t_goes
#print axioms proved
end Go.Proofs.YtgdgffnaknkbcaaGreatDoor.linkLooks
