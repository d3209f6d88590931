/- Of the law LinkMore: the facts of the row. -/
import Derived.Test.YtgdgffnaknkbcaaGreatDoorSeatFa
import Derived.Test.YtgdgffnaknkbcaaGreatDoorSeatFb
namespace Go.Proofs.YtgdgffnaknkbcaaGreatDoor.linkMore
open Go.ChangeShapes Go.WideShapes Go.ChangeAt Go.RowKit
set_option linter.unusedVariables false
theorem t_inPlace : (Rows.linkMoreRow.inPlace == Tryz.prog.inPlace 8) = true := by kernel_rfl
theorem t_unfollowed : (Rows.linkMoreRow.unfollowed == Tryz.prog.unfollowed 8) = true := by kernel_rfl
theorem t_recurses : (Rows.linkMoreRow.recurses == Tryz.prog.recurses 8) = true := by kernel_rfl
theorem t_named : (Rows.linkMoreRow.named == Tryz.prog.varsNamed 8) = true := by kernel_rfl
theorem closed : joinedFacts Tryz.prog 8 Tryz.f8 (OpenSpec.ofChange Rows.linkMoreSpec).bare Rows.linkMoreRow = true := by
  unfold joinedFacts
  simp only [Bool.and_eq_true]
  and_intros
  all_goals first
    | with_reducible exact t_inPlace
    | with_reducible exact t_unfollowed
    | with_reducible exact t_recurses
    | with_reducible exact t_named
    | with_reducible exact p_enter
    | with_reducible exact p_rowed
    | with_reducible exact p_heard
    | with_reducible exact p_laid
    | (rw [p_lifts]; kernel_rfl)
    | (rw [p_make]; kernel_rfl)
    | (rw [p_plain]; kernel_rfl)
    | kernel_rfl
end Go.Proofs.YtgdgffnaknkbcaaGreatDoor.linkMore
