/- Of the law LinkBuilds: no stand-in, the harness, no goroutine. -/
import Derived.Test.YtemplkpcckmcoaaGreatDoorLawLinkBuildsG
import Derived.Test.YtemplkpcckmcoaaGreatDoorCards
namespace Go.Proofs.YtemplkpcckmcoaaGreatDoor.linkBuilds
open Go.ChangeShapes Go.WideShapes Go.ChangeAt Go.RowKit
set_option linter.unusedVariables false
set_option linter.unusedSimpArgs false
theorem plain (f : FuncId) (fn : Func) (hf : Tryz.pinned.checked.prog.funcNamed Rows.linkBuildsUptoRow.func = some f) (hfn : Tryz.pinned.checked.prog.funcs[f]? = some fn) :
  true = Tryz.pinned.checked.prog.looks [] ∧ ∀ (j : Nat) t, fn.params[j]? = some t → Tryz.pinned.checked.prog.wantsStandIn t = false := by
 obtain rfl : f = 3 := Option.some.inj ((show Tryz.prog.funcNamed Rows.linkBuildsUptoRow.func = some 3 by kernel_rfl).symm.trans hf) |>.symm
 obtain rfl : fn = Tryz.f3 := (Option.some.inj (Tryz.func3.symm.trans hfn)).symm
 refine ⟨by kernel_rfl, fun j t ht => ?_⟩
 rw [Tryz.params3] at ht
 obtain rfl : t = 22 := by simpa using Array.mem_of_getElem? ht
 exact (show Tryz.prog.wantsStandIn 22 = false by kernel_rfl)
theorem t_main : Tryz.prog.mainIs = some (Rows.linkBuildsUptoCard.stood.harness.1, Rows.linkBuildsUptoCard.stood.harness.2.toList) := by kernel_rfl
theorem t_goes : false = Rows.linkBuildsUptoRow.goesBy Tryz.prog := by kernel_rfl
end Go.Proofs.YtemplkpcckmcoaaGreatDoor.linkBuilds
