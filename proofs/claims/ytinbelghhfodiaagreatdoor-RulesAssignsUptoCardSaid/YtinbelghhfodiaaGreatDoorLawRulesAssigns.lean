/- PROVED: the law RulesAssigns: whether any frame may go where any is asked, at any method of any program, the program answers as the document; each frame may go where it is asked itself. For every list of classes, two numbers and two frames whose letters and items are at most 1048576 in all (the second form's bound on the input's bulk). -/
import Derived.Test.YtinbelghhfodiaaGreatDoorLawRulesAssignsH
namespace Go.Proofs.YtinbelghhfodiaaGreatDoor.rulesAssigns
open Go.ChangeShapes Go.WideShapes Go.ChangeAt Go.RowKit
set_option linter.unusedVariables false
set_option linter.unusedSimpArgs false
theorem proved : Rows.RulesAssignsUptoCardSaid :=
 Claim7.holds_tied_plain_at .later [] _ _ _ _ over (fun _ h => by cases h) (by kernel_rfl) (fun _ h => by cases h) rulesAssignsUpto_row_tie rfl ⟨rfl, rfl⟩ t_main rfl plain t_goes
#print axioms proved
end Go.Proofs.YtinbelghhfodiaaGreatDoor.rulesAssigns
