/- Of the law VerifyZero: no stand-in, the harness, no goroutine. -/
import Derived.Test.YtackogifpfioaaaGreatDoorLawVerifyZeroG
import Derived.Test.YtackogifpfioaaaGreatDoorCards
namespace Go.Proofs.YtackogifpfioaaaGreatDoor.verifyZero
open Go.ChangeShapes Go.WideShapes Go.ChangeAt Go.RowKit Go.Deep
set_option linter.unusedVariables false
set_option linter.unusedSimpArgs false

/-- No parameter wants a stand-in; the program looks (errors.As reads the types). -/
theorem plain (f : FuncId) (fn : Func) (hf : Tryz.pinned.checked.prog.funcNamed Rows.verifyZeroRow.func = some f) (hfn : Tryz.pinned.checked.prog.funcs[f]? = some fn) :
    true = Tryz.pinned.checked.prog.looks [] ∧ ∀ (j : Nat) t, fn.params[j]? = some t → Tryz.pinned.checked.prog.wantsStandIn t = false := by
  obtain rfl : f = 4 := Option.some.inj ((show Tryz.prog.funcNamed Rows.verifyZeroRow.func = some 4 by kernel_rfl).symm.trans hf) |>.symm
  obtain rfl : fn = Tryz.f4 := (Option.some.inj (Tryz.func4.symm.trans hfn)).symm
  refine ⟨by kernel_rfl, fun j t ht => ?_⟩
  rw [Tryz.params4] at ht
  obtain rfl : t = 3 := by simpa using Array.mem_of_getElem? ht
  exact (show Tryz.prog.wantsStandIn 3 = false by kernel_rfl)

theorem t_main : Tryz.prog.mainIs = some (Rows.verifyZeroCard.stood.harness.1, Rows.verifyZeroCard.stood.harness.2.toList) := by kernel_rfl

theorem t_goes : false = Rows.verifyZeroRow.goesBy Tryz.prog := by kernel_rfl
end Go.Proofs.YtackogifpfioaaaGreatDoor.verifyZero
