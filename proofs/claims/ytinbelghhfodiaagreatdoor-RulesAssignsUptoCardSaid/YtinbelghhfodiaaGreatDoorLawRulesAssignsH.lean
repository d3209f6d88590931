/- Of the law RulesAssigns: no stand-in, the harness, no goroutine. -/
import Derived.Test.YtinbelghhfodiaaGreatDoorLawRulesAssignsG
import Derived.Test.YtinbelghhfodiaaGreatDoorCards
namespace Go.Proofs.YtinbelghhfodiaaGreatDoor.rulesAssigns
open Go.ChangeShapes Go.WideShapes Go.ChangeAt Go.RowKit
set_option linter.unusedVariables false
set_option linter.unusedSimpArgs false
theorem plain (f : FuncId) (fn : Func) (hf : Tryz.pinned.checked.prog.funcNamed Rows.rulesAssignsUptoRow.func = some f) (hfn : Tryz.pinned.checked.prog.funcs[f]? = some fn) :
  true = Tryz.pinned.checked.prog.looks [] ∧ ∀ (j : Nat) t, fn.params[j]? = some t → Tryz.pinned.checked.prog.wantsStandIn t = false := by
 obtain rfl : f = 3 := Option.some.inj ((show Tryz.prog.funcNamed Rows.rulesAssignsUptoRow.func = some 3 by kernel_rfl).symm.trans hf) |>.symm
 obtain rfl : fn = Tryz.f3 := (Option.some.inj (Tryz.func3.symm.trans hfn)).symm
 refine ⟨by kernel_rfl, fun j t ht => ?_⟩
 rw [Tryz.params3] at ht
 have hm : t = 22 ∨ t = 3 ∨ t = 25 := by simpa using Array.mem_of_getElem? ht
 rcases hm with rfl | rfl | rfl
 ·exact (show Tryz.prog.wantsStandIn 22 = false by kernel_rfl)
 ·exact (show Tryz.prog.wantsStandIn 3 = false by kernel_rfl)
 ·exact (show Tryz.prog.wantsStandIn 25 = false by kernel_rfl)
theorem t_main : Tryz.prog.mainIs = some (Rows.rulesAssignsUptoCard.stood.harness.1, Rows.rulesAssignsUptoCard.stood.harness.2.toList) := by kernel_rfl
theorem t_goes : false = Rows.rulesAssignsUptoRow.goesBy Tryz.prog := by kernel_rfl
end Go.Proofs.YtinbelghhfodiaaGreatDoor.rulesAssigns
