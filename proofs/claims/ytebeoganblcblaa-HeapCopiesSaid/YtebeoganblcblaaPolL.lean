/- An argument that is a list of constants, opened. No condition but the form's own reach. -/
import Derived.Test.YtebeoganblcblaaArg
import Derived.Test.YtebeoganblcblaaPolA
namespace Go.Proofs.Ytebeoganblcblaa
open Go.ChangeShapes Go.WideShapes Go.ChangeAt Go.RowKit Go.Deep
set_option linter.unusedVariables false
set_option linter.unusedSimpArgs false

theorem bulk_mem {H : Type} : ∀ {l : List (DataW H)} {d : DataW H}, d ∈ l → Rows.uptoBulk d ≤ Rows.uptoBulkAll l
  | [], d, h => by cases h
  | a :: r, d, h => by
    simp only [Rows.uptoBulkAll]
    rcases List.mem_cons.1 h with rfl | h
    · omega
    · have := bulk_mem h; omega

section
variable {H : Type} {enc : TypeId × Value → H} {w : World} {held : Bool}
end

end Go.Proofs.Ytebeoganblcblaa
