/- PROVED: the law LinkBuilds: which classes stand together, and all that is told of them, is what the document tells. For every list of classes whose letters and items are at most 1048576 in all (the second form's bound on the input's bulk). -/
import Derived.Test.YtemplkpcckmcoaaGreatDoorLawLinkBuildsH
namespace Go.Proofs.YtemplkpcckmcoaaGreatDoor.linkBuilds
open Go.ChangeShapes Go.WideShapes Go.ChangeAt Go.RowKit
set_option linter.unusedVariables false
set_option linter.unusedSimpArgs false
theorem proved : Rows.LinkBuildsUptoCardSaid :=
 Claim7.holds_tied_plain_at .later [] _ _ _ _ over (fun _ h => by cases h) (by kernel_rfl) (fun _ h => by cases h) linkBuildsUpto_row_tie rfl ⟨rfl, rfl⟩ t_main rfl plain t_goes
#print axioms proved
end Go.Proofs.YtemplkpcckmcoaaGreatDoor.linkBuilds
