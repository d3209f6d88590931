/- PROVED: the law LinkTree: in a program all supers lead to Object, slots begin with the super's, and Sub is what the tree says. Every list of classes, every two numbers of 8 bits. -/
import Derived.Test.YtgdgffnaknkbcaaGreatDoorLawLinkTreeH
namespace Go.Proofs.YtgdgffnaknkbcaaGreatDoor.linkTree
open Go.ChangeShapes Go.WideShapes Go.ChangeAt Go.RowKit
set_option linter.unusedVariables false
set_option linter.unusedSimpArgs false
theorem proved : Rows.LinkTreeCardSaid :=
  Claim7.holds_tied_plain_at .later [] _ _ _ _ over (fun _ h => by cases h) (by kernel_rfl) (fun _ h => by cases h) linkTree_row_tie rfl ⟨rfl, rfl⟩ t_main rfl plain t_goes
#print axioms proved
end Go.Proofs.YtgdgffnaknkbcaaGreatDoor.linkTree
