/- PROVED: the law VerifyZero: of no program nothing may run. For every input. No condition. -/
import Derived.Test.YtackogifpfioaaaGreatDoorLawVerifyZeroH
namespace Go.Proofs.YtackogifpfioaaaGreatDoor.verifyZero
open Go.ChangeShapes Go.WideShapes Go.ChangeAt Go.RowKit Go.Deep
set_option linter.unusedVariables false
set_option linter.unusedSimpArgs false

theorem proved : Rows.VerifyZeroCardSaid :=
  Claim7.holds_tied_plain_at .later [] _ _ _ _ over (fun _ h => by cases h) (by kernel_rfl) (fun _ h => by cases h) verifyZero_row_tie rfl ⟨rfl, rfl⟩ t_main rfl plain t_goes
#print axioms proved
end Go.Proofs.YtackogifpfioaaaGreatDoor.verifyZero
