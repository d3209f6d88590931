/- Of the law LinkBuiltIn: the facts of the row. -/
import Derived.Test.YtgdgffnaknkbcaaGreatDoorSeatFa
import Derived.Test.YtgdgffnaknkbcaaGreatDoorSeatFb
namespace Go.Proofs.YtgdgffnaknkbcaaGreatDoor.linkBuiltIn
open Go.ChangeShapes Go.WideShapes Go.ChangeAt Go.RowKit
set_option linter.unusedVariables false
theorem t_inPlace : (Rows.linkBuiltInRow.inPlace == Tryz.prog.inPlace 7) = true := by kernel_rfl
theorem t_unfollowed : (Rows.linkBuiltInRow.unfollowed == Tryz.prog.unfollowed 7) = true := by kernel_rfl
theorem t_recurses : (Rows.linkBuiltInRow.recurses == Tryz.prog.recurses 7) = true := by kernel_rfl
theorem t_named : (Rows.linkBuiltInRow.named == Tryz.prog.varsNamed 7) = true := by kernel_rfl
theorem closed : joinedFacts Tryz.prog 7 Tryz.f7 (OpenSpec.ofChange Rows.linkBuiltInSpec).bare Rows.linkBuiltInRow = true := by
  unfold joinedFacts
  simp only [Bool.and_eq_true]
  and_intros
  all_goals first
    | with_reducible exact t_inPlace
    | with_reducible exact t_unfollowed
    | with_reducible exact t_recurses
    | with_reducible exact t_named
    | with_reducible exact p_enter
    | with_reducible exact p_rowed
    | with_reducible exact p_heard
    | with_reducible exact p_laid
    | (rw [p_lifts]; kernel_rfl)
    | (rw [p_make]; kernel_rfl)
    | (rw [p_plain]; kernel_rfl)
    | kernel_rfl
end Go.Proofs.YtgdgffnaknkbcaaGreatDoor.linkBuiltIn
