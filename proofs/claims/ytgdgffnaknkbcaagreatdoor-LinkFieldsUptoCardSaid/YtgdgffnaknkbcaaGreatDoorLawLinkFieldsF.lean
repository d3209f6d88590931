/- Of the law LinkFields: the facts of the row. -/
import Derived.Test.YtgdgffnaknkbcaaGreatDoorSeatFa
import Derived.Test.YtgdgffnaknkbcaaGreatDoorSeatFb
namespace Go.Proofs.YtgdgffnaknkbcaaGreatDoor.linkFields
open Go.ChangeShapes Go.WideShapes Go.ChangeAt Go.RowKit
set_option linter.unusedVariables false
theorem t_inPlace : (Rows.linkFieldsUptoRow.inPlace == Tryz.prog.inPlace 6) = true := by kernel_rfl
theorem t_unfollowed : (Rows.linkFieldsUptoRow.unfollowed == Tryz.prog.unfollowed 6) = true := by kernel_rfl
theorem t_recurses : (Rows.linkFieldsUptoRow.recurses == Tryz.prog.recurses 6) = true := by kernel_rfl
theorem t_named : (Rows.linkFieldsUptoRow.named == Tryz.prog.varsNamed 6) = true := by kernel_rfl
theorem closed : joinedFacts Tryz.prog 6 Tryz.f6 (OpenSpec.ofChange Rows.linkFieldsSpec).bare Rows.linkFieldsUptoRow = true := by
 unfold joinedFacts
 simp only [Bool.and_eq_true]
 and_intros
 all_goals first
  | with_reducible exact t_inPlace
  | with_reducible exact t_unfollowed
  | with_reducible exact t_recurses
  | with_reducible exact t_named
  | with_reducible exact p_enter
  | with_reducible exact p_rowed
  | with_reducible exact p_heard
  | with_reducible exact p_laid
  | (rw [p_lifts]; kernel_rfl)
  | (rw [p_make]; kernel_rfl)
  | (rw [p_plain]; kernel_rfl)
  | kernel_rfl
end Go.Proofs.YtgdgffnaknkbcaaGreatDoor.linkFields
