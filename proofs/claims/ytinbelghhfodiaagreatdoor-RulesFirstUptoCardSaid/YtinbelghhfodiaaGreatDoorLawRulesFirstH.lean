/- Of the law RulesFirst: no stand-in, the harness, no goroutine. -/
import Derived.Test.YtinbelghhfodiaaGreatDoorLawRulesFirstG
import Derived.Test.YtinbelghhfodiaaGreatDoorCards
namespace Go.Proofs.YtinbelghhfodiaaGreatDoor.rulesFirst
open Go.ChangeShapes Go.WideShapes Go.ChangeAt Go.RowKit
set_option linter.unusedVariables false
set_option linter.unusedSimpArgs false
theorem plain (f : FuncId) (fn : Func) (hf : Tryz.pinned.checked.prog.funcNamed Rows.rulesFirstUptoRow.func = some f) (hfn : Tryz.pinned.checked.prog.funcs[f]? = some fn) :
  true = Tryz.pinned.checked.prog.looks [] ∧ ∀ (j : Nat) t, fn.params[j]? = some t → Tryz.pinned.checked.prog.wantsStandIn t = false := by
 obtain rfl : f = 4 := Option.some.inj ((show Tryz.prog.funcNamed Rows.rulesFirstUptoRow.func = some 4 by kernel_rfl).symm.trans hf) |>.symm
 obtain rfl : fn = Tryz.f4 := (Option.some.inj (Tryz.func4.symm.trans hfn)).symm
 refine ⟨by kernel_rfl, fun j t ht => ?_⟩
 rw [Tryz.params4] at ht
 have hm : t = 22 ∨ t = 3 := by simpa using Array.mem_of_getElem? ht
 rcases hm with rfl | rfl
 ·exact (show Tryz.prog.wantsStandIn 22 = false by kernel_rfl)
 ·exact (show Tryz.prog.wantsStandIn 3 = false by kernel_rfl)
theorem t_main : Tryz.prog.mainIs = some (Rows.rulesFirstUptoCard.stood.harness.1, Rows.rulesFirstUptoCard.stood.harness.2.toList) := by kernel_rfl
theorem t_goes : false = Rows.rulesFirstUptoRow.goesBy Tryz.prog := by kernel_rfl
end Go.Proofs.YtinbelghhfodiaaGreatDoor.rulesFirst
