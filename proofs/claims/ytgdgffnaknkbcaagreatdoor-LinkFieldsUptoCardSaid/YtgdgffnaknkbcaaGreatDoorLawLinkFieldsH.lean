/- Of the law LinkFields: no stand-in, the harness, no goroutine. -/
import Derived.Test.YtgdgffnaknkbcaaGreatDoorLawLinkFieldsG
import Derived.Test.YtgdgffnaknkbcaaGreatDoorCards
namespace Go.Proofs.YtgdgffnaknkbcaaGreatDoor.linkFields
open Go.ChangeShapes Go.WideShapes Go.ChangeAt Go.RowKit
set_option linter.unusedVariables false
set_option linter.unusedSimpArgs false
theorem plain (f : FuncId) (fn : Func) (hf : Tryz.pinned.checked.prog.funcNamed Rows.linkFieldsUptoRow.func = some f) (hfn : Tryz.pinned.checked.prog.funcs[f]? = some fn) :
  true = Tryz.pinned.checked.prog.looks [] ∧ ∀ (j : Nat) t, fn.params[j]? = some t → Tryz.pinned.checked.prog.wantsStandIn t = false := by
 obtain rfl : f = 6 := Option.some.inj ((show Tryz.prog.funcNamed Rows.linkFieldsUptoRow.func = some 6 by kernel_rfl).symm.trans hf) |>.symm
 obtain rfl : fn = Tryz.f6 := (Option.some.inj (Tryz.func6.symm.trans hfn)).symm
 refine ⟨by kernel_rfl, fun j t ht => ?_⟩
 rw [Tryz.params6] at ht
 obtain rfl : t = 22 := by simpa using Array.mem_of_getElem? ht
 exact (show Tryz.prog.wantsStandIn 22 = false by kernel_rfl)
theorem t_main : Tryz.prog.mainIs = some (Rows.linkFieldsUptoCard.stood.harness.1, Rows.linkFieldsUptoCard.stood.harness.2.toList) := by kernel_rfl
theorem t_goes : false = Rows.linkFieldsUptoRow.goesBy Tryz.prog := by kernel_rfl
end Go.Proofs.YtgdgffnaknkbcaaGreatDoor.linkFields
