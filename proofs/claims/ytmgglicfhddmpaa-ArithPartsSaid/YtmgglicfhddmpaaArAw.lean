/- The law's awake of layer 13: 2 and 3 are 5. -/
import Derived.Test.YtmgglicfhddmpaaArA
namespace Go.Proofs.Ytmgglicfhddmpaa
open Go.RowKit
set_option linter.unusedVariables false
set_option maxRecDepth 100000 in
theorem awake13 (w : World) : Calls Try.prog 14 #[] w fun e w' => e = .returned (.bool true) ∧ Only (fun _ => False) w w' := by
  have C := Lib.hid (fun W => progInt 96 2 3 (by decide) (by decide) W)
  have e1 : (intZ 96 2 3).1 = 5 := by simp [intZ, isInt, longZ, wrap32, wrap64]
  have e2 : (intZ 96 2 3).2 = 0 := by simp [intZ, isInt, longZ]
  simp only [e1, e2] at C
  clear e1 e2
  go_enter Try.func14, Try.ntmps14
  go_wp2_with (fail)
  refine (C.out _).mono ?_
  rintro e w1 ⟨rfl, hww⟩
  have HO1 := Lib.hid hww
  clear hww
  go_wp2
  go_ret
  exact ⟨rfl, HO1.out⟩
end Go.Proofs.Ytmgglicfhddmpaa
