/- PROVED: the law RulesFirst: the frame at the beginning of any method of any program, and the type at any constant, the program answers as the document. For every list of classes and three numbers whose letters and items are at most 1048576 in all (the second form's bound on the input's bulk). -/
import Derived.Test.YtinbelghhfodiaaGreatDoorLawRulesFirstH
namespace Go.Proofs.YtinbelghhfodiaaGreatDoor.rulesFirst
open Go.ChangeShapes Go.WideShapes Go.ChangeAt Go.RowKit
set_option linter.unusedVariables false
set_option linter.unusedSimpArgs false
theorem proved : Rows.RulesFirstUptoCardSaid :=
 Claim7.holds_tied_plain_at .later [] _ _ _ _ over (fun _ h => by cases h) (by kernel_rfl) (fun _ h => by cases h) rulesFirstUpto_row_tie rfl ⟨rfl, rfl⟩ t_main rfl plain t_goes
#print axioms proved
end Go.Proofs.YtinbelghhfodiaaGreatDoor.rulesFirst
