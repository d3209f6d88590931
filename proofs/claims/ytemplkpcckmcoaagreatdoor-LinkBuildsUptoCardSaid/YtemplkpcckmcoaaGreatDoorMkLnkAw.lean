import Derived.Test.YtemplkpcckmcoaaGreatDoorMkLpJLpL
namespace Go.Proofs.YtemplkpcckmcoaaGreatDoor
open Lib (hid)
open Go.RowKit
set_option linter.unusedVariables false
set_option linter.unusedSimpArgs false
theorem awake9 (w : World) : Calls Tryz.prog 7 #[] w fun e w' => e = .returned (.bool true) ∧ Only (fun _ => False) w w' := by
 have C := hid (pBuilt w)
 go_enter Tryz.func7, Tryz.ntmps7
 go_wp2_with (fail)
 refine C.out.mono ?_
 rintro e w1 ⟨rfl, ho⟩
 have HO := hid ho
 clear ho
 go_wp2
 go_ret
 exact ⟨rfl, HO.out⟩
end Go.Proofs.YtemplkpcckmcoaaGreatDoor
