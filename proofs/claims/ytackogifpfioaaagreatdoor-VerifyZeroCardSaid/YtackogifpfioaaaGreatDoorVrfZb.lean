/- Of a program that nobody made no method may run. Condition: its classes are none; the library's own variable errorType holds what its text lays. -/
import Derived.Test.YtackogifpfioaaaGreatDoorVrfZ
import Derived.Test.YtackogifpfioaaaGreatDoorLpZa
namespace Go.Proofs.YtackogifpfioaaaGreatDoor
open Go.RowKit
set_option linter.unusedVariables false
set_option linter.unusedSimpArgs false

section
variable {po : Option Addr} {w : World} (h : Unmade po w)
include h
theorem zAt (n m : Int) : Calls Tryz.prog 94 #[.pointer po, .int .i64 n, .int .i64 m] w fun e w' => e = .returned (.tuple #[.pointer none, .int .i64 7]) ∧ Only (fun _ => False) w w' := by
  have C1 := Lib.hid (fun W (hW : Only (fun _ => False) w W) => zLen (h.only hW))
  clear h
  go_enter Tryz.func94, Tryz.ntmps94
  go_wp2_with (fail)
  refine (C1.out _ (by repeat (first | exact Only.refl _ _ | refine Only.alloc ?_ _))).mono ?_
  rintro e w1 ⟨rfl, hww⟩
  subst hww
  go_wp2
  go_ret2
  exact ⟨rfl, by repeat (first | exact Only.refl _ _ | refine Only.alloc ?_ _)⟩
theorem zProgram : Calls Tryz.prog 10 #[.pointer po] w fun e w' => e = .returned (.tuple #[.int .i64 (-1), .int .i64 (-1), .int .i64 7]) ∧ w = w' := by
  have C1 := Lib.hid (zLen h)
  clear h
  go_enter Tryz.func10, Tryz.ntmps10
  go_wp2_with (fail)
  refine C1.out.mono ?_
  rintro e w1 ⟨rfl, hww⟩
  subst hww
  go_wp2
  go_ret3
  exact ⟨rfl, rfl⟩
theorem zOpen (n m : Int) : Calls Tryz.prog 52 #[.pointer po, .int .i64 n, .int .i64 m] w fun e w' => e = .returned (.tuple #[.pointer none, .int .i64 7]) ∧ Only (fun _ => False) w w' := by
  have C1 := Lib.hid (zAt h n m)
  clear h
  go_enter Tryz.func52, Tryz.ntmps52
  go_wp2_with (fail)
  refine C1.out.mono ?_
  rintro e w1 ⟨rfl, ho1⟩
  have HO := Lib.hid ho1
  clear ho1
  go_wp2
  go_ret2
  exact ⟨rfl, HO.out⟩
theorem zCheck (n m : Int) : Calls Tryz.prog 26 #[.pointer po, .int .i64 n, .int .i64 m] w fun e w' => e = .returned (.iface 70 (.agg #[.int .i64 n, .int .i64 m, .int .i64 7])) ∧ Only (fun _ => False) w w' := by
  have C1 := Lib.hid (zOpen h n m)
  clear h
  go_enter Tryz.func26, Tryz.ntmps26
  go_wp2_with (fail)
  refine C1.out.mono ?_
  rintro e w1 ⟨rfl, ho1⟩
  have HO := Lib.hid ho1
  clear ho1
  go_wp2
  go_ret
  exact ⟨rfl, HO.out⟩
theorem zVMethod (hE : ErrV w) (n m : Int) : Calls Tryz.prog 11 #[.pointer po, .int .i64 n, .int .i64 m] w fun e w' => e = .returned (.int .i64 7) ∧ Only (fun _ => False) w w' := by
  have C1 := Lib.hid (zCheck h n m)
  have C2 := Lib.hid (fun W (hW : Only (fun _ => False) w W) => whichFaultV n m 7 W (hE.only hW (fun h => h)))
  clear h hE
  go_enter Tryz.func11, Tryz.ntmps11
  go_wp2_with (fail)
  refine C1.out.mono ?_
  rintro e w1 ⟨rfl, ho1⟩
  have HO := Lib.hid ho1
  clear ho1
  go_wp2_with (fail)
  refine (C2.out _ HO.out).mono ?_
  rintro e w2 ⟨rfl, ho2⟩
  have HO2 := Lib.hid (HO.out.trans ho2 (fun _ h _ => h))
  clear ho2
  go_wp2
  go_ret
  exact ⟨rfl, HO2.out⟩
end
end Go.Proofs.YtackogifpfioaaaGreatDoor
