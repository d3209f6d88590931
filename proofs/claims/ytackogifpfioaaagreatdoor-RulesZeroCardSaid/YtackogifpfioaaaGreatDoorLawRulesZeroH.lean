/- Of the law RulesZero: no stand-in, the harness, no goroutine. -/
import Derived.Test.YtackogifpfioaaaGreatDoorLawRulesZeroG
import Derived.Test.YtackogifpfioaaaGreatDoorCards
namespace Go.Proofs.YtackogifpfioaaaGreatDoor.rulesZero
open Go.ChangeShapes Go.WideShapes Go.ChangeAt Go.RowKit Go.Deep
set_option linter.unusedVariables false
set_option linter.unusedSimpArgs false

/-- No parameter wants a stand-in; the program looks (errors.As reads the types). -/
theorem plain (f : FuncId) (fn : Func) (hf : Tryz.pinned.checked.prog.funcNamed Rows.rulesZeroRow.func = some f) (hfn : Tryz.pinned.checked.prog.funcs[f]? = some fn) :
    true = Tryz.pinned.checked.prog.looks [] ∧ ∀ (j : Nat) t, fn.params[j]? = some t → Tryz.pinned.checked.prog.wantsStandIn t = false := by
  obtain rfl : f = 3 := Option.some.inj ((show Tryz.prog.funcNamed Rows.rulesZeroRow.func = some 3 by kernel_rfl).symm.trans hf) |>.symm
  obtain rfl : fn = Tryz.f3 := (Option.some.inj (Tryz.func3.symm.trans hfn)).symm
  refine ⟨by kernel_rfl, fun j t ht => ?_⟩
  rw [Tryz.params3] at ht
  have hm : t = 23 ∨ t = 26 ∨ t = 3 := by simpa using Array.mem_of_getElem? ht
  rcases hm with rfl | rfl | rfl
  · exact (show Tryz.prog.wantsStandIn 23 = false by kernel_rfl)
  · exact (show Tryz.prog.wantsStandIn 26 = false by kernel_rfl)
  · exact (show Tryz.prog.wantsStandIn 3 = false by kernel_rfl)

theorem t_main : Tryz.prog.mainIs = some (Rows.rulesZeroCard.stood.harness.1, Rows.rulesZeroCard.stood.harness.2.toList) := by kernel_rfl

theorem t_goes : false = Rows.rulesZeroRow.goesBy Tryz.prog := by kernel_rfl
end Go.Proofs.YtackogifpfioaaaGreatDoor.rulesZero
