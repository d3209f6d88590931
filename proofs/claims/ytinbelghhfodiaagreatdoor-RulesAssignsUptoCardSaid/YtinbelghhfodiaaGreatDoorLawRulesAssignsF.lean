/- Of the law RulesAssigns: the facts of the row. -/
import Derived.Test.YtinbelghhfodiaaGreatDoorSeatFa
import Derived.Test.YtinbelghhfodiaaGreatDoorSeatFb
namespace Go.Proofs.YtinbelghhfodiaaGreatDoor.rulesAssigns
open Go.ChangeShapes Go.WideShapes Go.ChangeAt Go.RowKit
set_option linter.unusedVariables false
theorem t_inPlace : (Rows.rulesAssignsUptoRow.inPlace == Tryz.prog.inPlace 3) = true := by kernel_rfl
theorem t_unfollowed : (Rows.rulesAssignsUptoRow.unfollowed == Tryz.prog.unfollowed 3) = true := by kernel_rfl
theorem t_recurses : (Rows.rulesAssignsUptoRow.recurses == Tryz.prog.recurses 3) = true := by kernel_rfl
theorem t_named : (Rows.rulesAssignsUptoRow.named == Tryz.prog.varsNamed 3) = true := by kernel_rfl
theorem closed : joinedFacts Tryz.prog 3 Tryz.f3 (OpenSpec.ofChange Rows.rulesAssignsSpec).bare Rows.rulesAssignsUptoRow = true := by
 unfold joinedFacts
 simp only [Bool.and_eq_true]
 and_intros
 all_goals first
  | with_reducible exact t_inPlace
  | with_reducible exact t_unfollowed
  | with_reducible exact t_recurses
  | with_reducible exact t_named
  | with_reducible exact p_enter
  | with_reducible exact p_rowed
  | with_reducible exact p_heard
  | with_reducible exact p_laid
  | (rw [p_lifts]; kernel_rfl)
  | (rw [p_make]; kernel_rfl)
  | (rw [p_plain]; kernel_rfl)
  | kernel_rfl
end Go.Proofs.YtinbelghhfodiaaGreatDoor.rulesAssigns
