/- PROVED: the law RulesZero: a place that nobody made answers nothing. For every input. No condition. -/
import Derived.Test.YtackogifpfioaaaGreatDoorLawRulesZeroH
namespace Go.Proofs.YtackogifpfioaaaGreatDoor.rulesZero
open Go.ChangeShapes Go.WideShapes Go.ChangeAt Go.RowKit Go.Deep
set_option linter.unusedVariables false
set_option linter.unusedSimpArgs false

theorem proved : Rows.RulesZeroCardSaid :=
  Claim7.holds_tied_plain_at .later [] _ _ _ _ over (fun _ h => by cases h) (by kernel_rfl) (fun _ h => by cases h) rulesZero_row_tie rfl ⟨rfl, rfl⟩ t_main rfl plain t_goes
#print axioms proved
end Go.Proofs.YtackogifpfioaaaGreatDoor.rulesZero
