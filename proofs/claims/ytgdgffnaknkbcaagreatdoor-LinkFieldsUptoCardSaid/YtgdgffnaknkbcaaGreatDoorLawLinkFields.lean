/- PROVED: the law LinkFields: each field of a class of the list is found by its name, and has its slot. For every list of classes whose letters and items are at most 1048576 in all (the second form's bound on the input's bulk). -/
import Derived.Test.YtgdgffnaknkbcaaGreatDoorLawLinkFieldsH
namespace Go.Proofs.YtgdgffnaknkbcaaGreatDoor.linkFields
open Go.ChangeShapes Go.WideShapes Go.ChangeAt Go.RowKit
set_option linter.unusedVariables false
set_option linter.unusedSimpArgs false
theorem proved : Rows.LinkFieldsUptoCardSaid :=
 Claim7.holds_tied_plain_at .later [] _ _ _ _ over (fun _ h => by cases h) (by kernel_rfl) (fun _ h => by cases h) linkFieldsUpto_row_tie rfl ⟨rfl, rfl⟩ t_main rfl plain t_goes
#print axioms proved
end Go.Proofs.YtgdgffnaknkbcaaGreatDoor.linkFields
