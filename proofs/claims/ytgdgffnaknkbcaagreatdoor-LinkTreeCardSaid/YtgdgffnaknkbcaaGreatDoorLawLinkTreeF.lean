/- Of the law LinkTree: the facts of the row. -/
import Derived.Test.YtgdgffnaknkbcaaGreatDoorSeatFa
import Derived.Test.YtgdgffnaknkbcaaGreatDoorSeatFb
namespace Go.Proofs.YtgdgffnaknkbcaaGreatDoor.linkTree
open Go.ChangeShapes Go.WideShapes Go.ChangeAt Go.RowKit
set_option linter.unusedVariables false
theorem t_inPlace : (Rows.linkTreeRow.inPlace == Tryz.prog.inPlace 5) = true := by kernel_rfl
theorem t_unfollowed : (Rows.linkTreeRow.unfollowed == Tryz.prog.unfollowed 5) = true := by kernel_rfl
theorem t_recurses : (Rows.linkTreeRow.recurses == Tryz.prog.recurses 5) = true := by kernel_rfl
theorem t_named : (Rows.linkTreeRow.named == Tryz.prog.varsNamed 5) = true := by kernel_rfl
theorem closed : joinedFacts Tryz.prog 5 Tryz.f5 (OpenSpec.ofChange Rows.linkTreeSpec).bare Rows.linkTreeRow = true := by
  unfold joinedFacts
  simp only [Bool.and_eq_true]
  and_intros
  all_goals first
    | with_reducible exact t_inPlace
    | with_reducible exact t_unfollowed
    | with_reducible exact t_recurses
    | with_reducible exact t_named
    | with_reducible exact p_enter
    | with_reducible exact p_rowed
    | with_reducible exact p_heard
    | with_reducible exact p_laid
    | (rw [p_lifts]; kernel_rfl)
    | (rw [p_make]; kernel_rfl)
    | (rw [p_plain]; kernel_rfl)
    | kernel_rfl
end Go.Proofs.YtgdgffnaknkbcaaGreatDoor.linkTree
