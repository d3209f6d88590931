/- The walk of the law VerifyZero. -/
import Derived.Test.YtackogifpfioaaaGreatDoorVrfZb
namespace Go.Proofs.YtackogifpfioaaaGreatDoor
open Go.RowKit
set_option linter.unusedVariables false
set_option linter.unusedSimpArgs false

set_option maxHeartbeats 8000000 in
theorem walkZero (n m : Int) (w : World) (hE : ErrV w) : Calls Tryz.prog 4 #[.int .i64 n, .int .i64 m] w fun e w' => e = .returned (.bool true) ∧ Only (fun _ => False) w w' := by
  have ho1 := (Only.refl (fun _ => False) w).alloc (.cells #[.slice none 0 0, .map none] 47)
  have hq := unmade_at (heap_alloc_new w (.cells #[.slice none 0 0, .map none] 47))
  obtain ⟨W1, hW1⟩ : ∃ W1, w.alloc (.cells #[.slice none 0 0, .map none] 47) = W1 := ⟨_, rfl⟩
  rw [hW1] at ho1 hq
  have HW1 := Lib.hid hW1
  have HO1 := Lib.hid ho1
  have C1 := Lib.hid (fun W => zProgram (unmade_nil W))
  have C2 := Lib.hid (fun W (hW : Only (fun _ => False) W1 W) => zProgram (hq.only hW))
  have C3 := Lib.hid (fun W (hW : Only (fun _ => False) W1 W) => zVMethod (unmade_nil W) (hE.only (ho1.trans hW (fun _ h _ => h)) (fun h => h)) n m)
  have C4 := Lib.hid (fun W (hW : Only (fun _ => False) W1 W) => zVMethod (hq.only hW) (hE.only (ho1.trans hW (fun _ h _ => h)) (fun h => h)) n m)
  clear hq ho1 hW1 hE
  go_enter Tryz.func4, Tryz.ntmps4
  go_wp2_with (fail)
  rw [HW1.out]
  refine (C1.out _).mono ?_
  rintro e w1 ⟨rfl, hww⟩
  subst hww
  go_wp2_with (fail)
  refine (C2.out _ (Only.refl _ _)).mono ?_
  rintro e w1 ⟨rfl, hww⟩
  subst hww
  go_wp2_with (fail)
  refine (C3.out _ (Only.refl _ _)).mono ?_
  rintro e w2 ⟨rfl, ho2⟩
  have HO2 := Lib.hid ho2
  clear ho2
  go_wp2_with (fail)
  refine (C4.out _ HO2.out).mono ?_
  rintro e w3 ⟨rfl, ho3⟩
  have HO3 := Lib.hid (HO1.out.trans (HO2.out.trans ho3 (fun _ h _ => h)) (fun _ h _ => h))
  clear ho3
  go_wp2
  go_ret
  exact ⟨rfl, HO3.out⟩
end Go.Proofs.YtackogifpfioaaaGreatDoor
