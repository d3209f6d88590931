/- Of the law RulesFirst: the facts of the row. -/
import Derived.Test.YtinbelghhfodiaaGreatDoorSeatFa
import Derived.Test.YtinbelghhfodiaaGreatDoorSeatFb
namespace Go.Proofs.YtinbelghhfodiaaGreatDoor.rulesFirst
open Go.ChangeShapes Go.WideShapes Go.ChangeAt Go.RowKit
set_option linter.unusedVariables false
theorem t_inPlace : (Rows.rulesFirstUptoRow.inPlace == Tryz.prog.inPlace 4) = true := by kernel_rfl
theorem t_unfollowed : (Rows.rulesFirstUptoRow.unfollowed == Tryz.prog.unfollowed 4) = true := by kernel_rfl
theorem t_recurses : (Rows.rulesFirstUptoRow.recurses == Tryz.prog.recurses 4) = true := by kernel_rfl
theorem t_named : (Rows.rulesFirstUptoRow.named == Tryz.prog.varsNamed 4) = true := by kernel_rfl
theorem closed : joinedFacts Tryz.prog 4 Tryz.f4 (OpenSpec.ofChange Rows.rulesFirstSpec).bare Rows.rulesFirstUptoRow = true := by
 unfold joinedFacts
 simp only [Bool.and_eq_true]
 and_intros
 all_goals first
  | with_reducible exact t_inPlace
  | with_reducible exact t_unfollowed
  | with_reducible exact t_recurses
  | with_reducible exact t_named
  | with_reducible exact p_enter
  | with_reducible exact p_rowed
  | with_reducible exact p_heard
  | with_reducible exact p_laid
  | (rw [p_lifts]; kernel_rfl)
  | (rw [p_make]; kernel_rfl)
  | (rw [p_plain]; kernel_rfl)
  | kernel_rfl
end Go.Proofs.YtinbelghhfodiaaGreatDoor.rulesFirst
