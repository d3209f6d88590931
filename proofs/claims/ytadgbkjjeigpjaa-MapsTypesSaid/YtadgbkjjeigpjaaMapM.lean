/- The law's own comparison of two lists of maps: of equal ones it answers true; its awake. No condition. -/
import Derived.Deep.RegionHeld3
import Derived.Test.YtadgbkjjeigpjaaMapL
import Derived.Test.YtadgbkjjeigpjaaMapV
import Derived.Test.YtadgbkjjeigpjaaMapT
namespace Go.Proofs.Ytadgbkjjeigpjaa
open Go.RowKit
set_option linter.unusedVariables false
set_option linter.unusedSimpArgs false

theorem typeN_A : typeN ⟨#[65]⟩ = some ⟨4, ⟨#[65]⟩, 0, 0, 0⟩ := rfl
theorem lit_A : (⟨#[65]⟩ : ByteArray).toList = [65] := by rw [ByteArray.toList_eq]
set_option maxHeartbeats 2000000 in
set_option maxRecDepth 100000 in
theorem awake10 (w : World) : Calls Try.prog 23 #[] w fun e w' => e = .returned (.bool true) ∧ Only (fun _ => False) w w' := by
  have cT := progMType ⟨#[65]⟩ w (by show 1 ≤ _; omega)
  unfold TypeTo valT at cT
  rw [typeN_A] at cT
  have CT : Hid (Calls Try.prog 19 #[.string ⟨#[65]⟩] w fun e w' => e = .returned (.tuple #[.agg #[.int .i64 4, .string ⟨#[65]⟩, .int .i64 0, .int .i64 0, .int .i64 0], .bool true]) ∧ Only (fun _ => False) w w') := Lib.hid cT
  have hlit := lit_A
  clear cT
  go_enter Try.func23, Try.ntmps23
  go_wp2_with (fail)
  refine CT.out.mono ?_
  rintro e w1 ⟨rfl, ho1⟩
  have HO := Lib.hid (ho1.alloc (.cells #[.int .i64 4, .string ⟨#[65]⟩, .int .i64 0, .int .i64 0, .int .i64 0] 59))
  clear ho1 CT
  go_wp2
  go_ret
  exact ⟨rfl, HO.out⟩
end Go.Proofs.Ytadgbkjjeigpjaa
