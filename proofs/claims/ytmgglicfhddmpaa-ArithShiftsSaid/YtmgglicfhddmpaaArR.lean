/- The document's own Long, Shift, Int, If, Compare, Narrow. No condition. -/
import Derived.Test.YtmgglicfhddmpaaArW
import Derived.Test.YtmgglicfhddmpaaSep
import Derived.Lib.Hide
namespace Go.Proofs.Ytmgglicfhddmpaa
open Go.RowKit
set_option linter.unusedVariables false
set_option linter.unusedSimpArgs false

set_option maxHeartbeats 4000000 in
set_option maxRecDepth 100000 in
theorem refLong (op a b : Int) (w : World) : Calls Try.prog 16 #[.int .i64 op, .int .i64 a, .int .i64 b] w fun e w' => e = .returned (.tuple #[.int .i64 (longZ op a b).1, .int .i64 (longZ op a b).2]) ∧ Only (fun _ => False) w w' := by
  have HO := Lib.hid (Only.refl (fun _ => False) w)
  have en : ∀ W, (Op.unary .neg (.int .i64 a)).run Try.prog W = .ok (.int .i64 (wrap64 (-a))) W := neg_run _ a
  by_cases h97 : op = 97
  · subst h97
    go_enter Try.func16, Try.ntmps16
    go_wp2
    go_ret2
    exact ⟨by rfl, HO.out⟩
  by_cases h101 : op = 101
  · subst h101
    go_enter Try.func16, Try.ntmps16
    go_wp2
    go_ret2
    exact ⟨by rfl, HO.out⟩
  by_cases h105 : op = 105
  · subst h105
    go_enter Try.func16, Try.ntmps16
    go_wp2
    go_ret2
    exact ⟨by rfl, HO.out⟩
  by_cases h117 : op = 117
  · subst h117
    go_enter Try.func16, Try.ntmps16
    go_wp2
    go_ret2
    exact ⟨by rfl, HO.out⟩
  by_cases h127 : op = 127
  · subst h127
    go_enter Try.func16, Try.ntmps16
    go_wp2
    go_ret2
    exact ⟨by rfl, HO.out⟩
  by_cases h129 : op = 129
  · subst h129
    go_enter Try.func16, Try.ntmps16
    go_wp2
    go_ret2
    exact ⟨by rfl, HO.out⟩
  by_cases h131 : op = 131
  · subst h131
    go_enter Try.func16, Try.ntmps16
    go_wp2
    go_ret2
    exact ⟨by rfl, HO.out⟩
  by_cases h109 : op = 109
  · subst h109
    by_cases hb : b = 0
    · subst hb
      go_enter Try.func16, Try.ntmps16
      go_wp2
      go_ret2
      exact ⟨rfl, HO.out⟩
    have hb0 : (b == 0) = false := by rw [beq_eq_false_iff_ne]; exact hb
    by_cases hm : b = -1
    · subst hm
      go_enter Try.func16, Try.ntmps16
      go_wp2
      go_ret2
      refine ⟨?_, HO.out⟩
      show _ = Ending.returned (.tuple #[.int .i64 (longZ 109 a (-1)).1, .int .i64 (longZ 109 a (-1)).2])
      simp [longZ]
    have hm0 : (b == -1) = false := by rw [beq_eq_false_iff_ne]; exact hm
    go_enter Try.func16, Try.ntmps16
    go_wp2
    go_ret2
    refine ⟨?_, HO.out⟩
    show _ = Ending.returned (.tuple #[.int .i64 (longZ 109 a b).1, .int .i64 (longZ 109 a b).2])
    simp [longZ, hb]
  by_cases h113 : op = 113
  · subst h113
    by_cases hb : b = 0
    · subst hb
      go_enter Try.func16, Try.ntmps16
      go_wp2
      go_ret2
      exact ⟨rfl, HO.out⟩
    have hb0 : (b == 0) = false := by rw [beq_eq_false_iff_ne]; exact hb
    by_cases hm : b = -1
    · subst hm
      go_enter Try.func16, Try.ntmps16
      go_wp2
      go_ret2
      refine ⟨?_, HO.out⟩
      show _ = Ending.returned (.tuple #[.int .i64 (longZ 113 a (-1)).1, .int .i64 (longZ 113 a (-1)).2])
      simp [longZ]
    have hm0 : (b == -1) = false := by rw [beq_eq_false_iff_ne]; exact hm
    go_enter Try.func16, Try.ntmps16
    go_wp2
    go_ret2
    refine ⟨?_, HO.out⟩
    show _ = Ending.returned (.tuple #[.int .i64 (longZ 113 a b).1, .int .i64 (longZ 113 a b).2])
    simp [longZ, hb]
  have e97 : (op == 97) = false := by rw [beq_eq_false_iff_ne]; exact h97
  have e101 : (op == 101) = false := by rw [beq_eq_false_iff_ne]; exact h101
  have e105 : (op == 105) = false := by rw [beq_eq_false_iff_ne]; exact h105
  have e117 : (op == 117) = false := by rw [beq_eq_false_iff_ne]; exact h117
  have e127 : (op == 127) = false := by rw [beq_eq_false_iff_ne]; exact h127
  have e129 : (op == 129) = false := by rw [beq_eq_false_iff_ne]; exact h129
  have e131 : (op == 131) = false := by rw [beq_eq_false_iff_ne]; exact h131
  have e109 : (op == 109) = false := by rw [beq_eq_false_iff_ne]; exact h109
  have e113 : (op == 113) = false := by rw [beq_eq_false_iff_ne]; exact h113
  go_enter Try.func16, Try.ntmps16
  go_wp2
  go_ret2
  refine ⟨?_, HO.out⟩
  show _ = Ending.returned (.tuple #[.int .i64 (longZ op a b).1, .int .i64 (longZ op a b).2])
  unfold longZ
  simp only [h97, h101, h105, h117, h127, h129, h131, h109, h113, if_false]
  rfl
set_option maxHeartbeats 4000000 in
set_option maxRecDepth 100000 in
theorem refShift (op a b : Int) (w : World) : Calls Try.prog 18 #[.int .i64 op, .int .i64 a, .int .i32 b] w fun e w' => e = .returned (.tuple #[.int .i64 (shiftZ op a b).1, .int .i64 (shiftZ op a b).2]) ∧ Only (fun _ => False) w w' := by
  have HO := Lib.hid (Only.refl (fun _ => False) w)
  have em := and_i32_63 b
  have ew : IntKind.u64.wrap (b % 64) = b % 64 := wrap_low b
  have e1 : ∀ W, (Op.shift .shl .i64 a .u64 (b % 64)).run Try.prog W = .ok (.int .i64 (wrap64 (a * 2 ^ sh6 b))) W := fun W => by rw [shift_shl _ _ _ _ (by omega) (by show b % 64 ≤ 64; omega)]; simp [sh6, IntWalk.i64_left]
  have e2 : ∀ W, (Op.shift .shr .i64 a .u64 (b % 64)).run Try.prog W = .ok (.int .i64 (a / 2 ^ sh6 b)) W := fun W => by rw [shift_shr _ _ _ _ (by omega) (by show b % 64 ≤ 64; omega)]; simp [sh6, IntWalk.i64_left]
  have e3 : ∀ W, (Op.shift .shr .u64 (IntKind.u64.wrap a) .u64 (b % 64)).run Try.prog W = .ok (.int .u64 (IntKind.u64.wrap a / 2 ^ sh6 b)) W := fun W => by rw [shift_shr _ _ _ _ (by omega) (by show b % 64 ≤ 64; omega)]; simp [sh6, IntWalk.i64_left]
  by_cases h121 : op = 121
  · subst h121
    go_enter Try.func18, Try.ntmps18
    go_wp2
    go_ret2
    exact ⟨by rfl, HO.out⟩
  by_cases h123 : op = 123
  · subst h123
    go_enter Try.func18, Try.ntmps18
    go_wp2
    go_ret2
    exact ⟨by rfl, HO.out⟩
  by_cases h125 : op = 125
  · subst h125
    go_enter Try.func18, Try.ntmps18
    go_wp2
    go_ret2
    exact ⟨by rfl, HO.out⟩
  have e121 : (op == 121) = false := by rw [beq_eq_false_iff_ne]; exact h121
  have e123 : (op == 123) = false := by rw [beq_eq_false_iff_ne]; exact h123
  have e125 : (op == 125) = false := by rw [beq_eq_false_iff_ne]; exact h125
  go_enter Try.func18, Try.ntmps18
  go_wp2
  go_ret2
  refine ⟨?_, HO.out⟩
  show _ = Ending.returned (.tuple #[.int .i64 (shiftZ op a b).1, .int .i64 (shiftZ op a b).2])
  unfold shiftZ
  simp only [h121, h123, h125, if_false]
  rfl
set_option maxHeartbeats 4000000 in
set_option maxRecDepth 100000 in
theorem refInt (op a b : Int) (ha : -2147483648 ≤ a ∧ a ≤ 2147483647) (hb : -2147483648 ≤ b ∧ b ≤ 2147483647) (w : World) : Calls Try.prog 13 #[.int .i64 op, .int .i32 a, .int .i32 b] w fun e w' => e = .returned (.tuple #[.int .i32 (intZ op a b).1, .int .i64 (intZ op a b).2]) ∧ Only (fun _ => False) w w' := by
  have HO := Lib.hid (Only.refl (fun _ => False) w)
  have wa : wrap64 a = a := IntWalk.wrap64_in a (by omega)
  have wb : wrap64 b = b := IntWalk.wrap64_in b (by omega)
  clear ha hb
  have em := and_i32_31 b
  have ew : IntKind.u64.wrap (b % 32) = b % 32 := wrap_low5 b
  have C := Lib.hid (fun op a b W => refLong op a b W)
  by_cases h120 : op = 120
  · subst h120
    go_enter Try.func13, Try.ntmps13
    go_wp2
    go_ret2
    refine ⟨?_, HO.out⟩
    rw [show intZ 120 a b = (wrap32 (a * 2 ^ sh5 b), 0) from by simp [intZ]]
    rfl
  by_cases h122 : op = 122
  · subst h122
    go_enter Try.func13, Try.ntmps13
    go_wp2
    go_ret2
    refine ⟨?_, HO.out⟩
    rw [show intZ 122 a b = (a / 2 ^ sh5 b, 0) from by simp [intZ]]
    rfl
  by_cases h124 : op = 124
  · subst h124
    go_enter Try.func13, Try.ntmps13
    go_wp2
    go_ret2
    refine ⟨?_, HO.out⟩
    rw [show intZ 124 a b = (wrap32 (IntKind.u32.wrap a / 2 ^ sh5 b), 0) from by simp [intZ]]
    rfl
  by_cases h96 : op = 96
  · subst h96
    go_enter Try.func13, Try.ntmps13
    go_wp2_with (fail)
    refine (C.out _ _ _ _).mono ?_
    rintro e w1 ⟨rfl, hww⟩
    have HO1 := Lib.hid hww
    clear hww
    go_wp2
    go_ret2
    refine ⟨?_, HO1.out⟩
    rw [show intZ 96 a b = (wrap32 (longZ 97 a b).1, (longZ 97 a b).2) from by simp [intZ, isInt]]
    rfl
  by_cases h100 : op = 100
  · subst h100
    go_enter Try.func13, Try.ntmps13
    go_wp2_with (fail)
    refine (C.out _ _ _ _).mono ?_
    rintro e w1 ⟨rfl, hww⟩
    have HO1 := Lib.hid hww
    clear hww
    go_wp2
    go_ret2
    refine ⟨?_, HO1.out⟩
    rw [show intZ 100 a b = (wrap32 (longZ 101 a b).1, (longZ 101 a b).2) from by simp [intZ, isInt]]
    rfl
  by_cases h104 : op = 104
  · subst h104
    go_enter Try.func13, Try.ntmps13
    go_wp2_with (fail)
    refine (C.out _ _ _ _).mono ?_
    rintro e w1 ⟨rfl, hww⟩
    have HO1 := Lib.hid hww
    clear hww
    go_wp2
    go_ret2
    refine ⟨?_, HO1.out⟩
    rw [show intZ 104 a b = (wrap32 (longZ 105 a b).1, (longZ 105 a b).2) from by simp [intZ, isInt]]
    rfl
  by_cases h108 : op = 108
  · subst h108
    go_enter Try.func13, Try.ntmps13
    go_wp2_with (fail)
    refine (C.out _ _ _ _).mono ?_
    rintro e w1 ⟨rfl, hww⟩
    have HO1 := Lib.hid hww
    clear hww
    go_wp2
    go_ret2
    refine ⟨?_, HO1.out⟩
    rw [show intZ 108 a b = (wrap32 (longZ 109 a b).1, (longZ 109 a b).2) from by simp [intZ, isInt]]
    rfl
  by_cases h112 : op = 112
  · subst h112
    go_enter Try.func13, Try.ntmps13
    go_wp2_with (fail)
    refine (C.out _ _ _ _).mono ?_
    rintro e w1 ⟨rfl, hww⟩
    have HO1 := Lib.hid hww
    clear hww
    go_wp2
    go_ret2
    refine ⟨?_, HO1.out⟩
    rw [show intZ 112 a b = (wrap32 (longZ 113 a b).1, (longZ 113 a b).2) from by simp [intZ, isInt]]
    rfl
  by_cases h116 : op = 116
  · subst h116
    go_enter Try.func13, Try.ntmps13
    go_wp2_with (fail)
    refine (C.out _ _ _ _).mono ?_
    rintro e w1 ⟨rfl, hww⟩
    have HO1 := Lib.hid hww
    clear hww
    go_wp2
    go_ret2
    refine ⟨?_, HO1.out⟩
    rw [show intZ 116 a b = (wrap32 (longZ 117 a b).1, (longZ 117 a b).2) from by simp [intZ, isInt]]
    rfl
  by_cases h126 : op = 126
  · subst h126
    go_enter Try.func13, Try.ntmps13
    go_wp2_with (fail)
    refine (C.out _ _ _ _).mono ?_
    rintro e w1 ⟨rfl, hww⟩
    have HO1 := Lib.hid hww
    clear hww
    go_wp2
    go_ret2
    refine ⟨?_, HO1.out⟩
    rw [show intZ 126 a b = (wrap32 (longZ 127 a b).1, (longZ 127 a b).2) from by simp [intZ, isInt]]
    rfl
  by_cases h128 : op = 128
  · subst h128
    go_enter Try.func13, Try.ntmps13
    go_wp2_with (fail)
    refine (C.out _ _ _ _).mono ?_
    rintro e w1 ⟨rfl, hww⟩
    have HO1 := Lib.hid hww
    clear hww
    go_wp2
    go_ret2
    refine ⟨?_, HO1.out⟩
    rw [show intZ 128 a b = (wrap32 (longZ 129 a b).1, (longZ 129 a b).2) from by simp [intZ, isInt]]
    rfl
  by_cases h130 : op = 130
  · subst h130
    go_enter Try.func13, Try.ntmps13
    go_wp2_with (fail)
    refine (C.out _ _ _ _).mono ?_
    rintro e w1 ⟨rfl, hww⟩
    have HO1 := Lib.hid hww
    clear hww
    go_wp2
    go_ret2
    refine ⟨?_, HO1.out⟩
    rw [show intZ 130 a b = (wrap32 (longZ 131 a b).1, (longZ 131 a b).2) from by simp [intZ, isInt]]
    rfl
  have e120 : (op == 120) = false := by rw [beq_eq_false_iff_ne]; exact h120
  have e122 : (op == 122) = false := by rw [beq_eq_false_iff_ne]; exact h122
  have e124 : (op == 124) = false := by rw [beq_eq_false_iff_ne]; exact h124
  have e96 : (op == 96) = false := by rw [beq_eq_false_iff_ne]; exact h96
  have e100 : (op == 100) = false := by rw [beq_eq_false_iff_ne]; exact h100
  have e104 : (op == 104) = false := by rw [beq_eq_false_iff_ne]; exact h104
  have e108 : (op == 108) = false := by rw [beq_eq_false_iff_ne]; exact h108
  have e112 : (op == 112) = false := by rw [beq_eq_false_iff_ne]; exact h112
  have e116 : (op == 116) = false := by rw [beq_eq_false_iff_ne]; exact h116
  have e126 : (op == 126) = false := by rw [beq_eq_false_iff_ne]; exact h126
  have e128 : (op == 128) = false := by rw [beq_eq_false_iff_ne]; exact h128
  have e130 : (op == 130) = false := by rw [beq_eq_false_iff_ne]; exact h130
  go_enter Try.func13, Try.ntmps13
  go_wp2
  go_ret2
  refine ⟨?_, HO.out⟩
  have eI : isInt op = false := by simp only [isInt, e96, e100, e104, e108, e112, e116, e126, e128, e130]; rfl
  show _ = Ending.returned (.tuple #[.int .i32 (intZ op a b).1, .int .i64 (intZ op a b).2])
  unfold intZ
  simp only [h120, h122, h124, if_false, eI, Bool.false_eq_true]
  rfl
set_option maxHeartbeats 4000000 in
set_option maxRecDepth 100000 in
theorem refIf (op a b : Int) (w : World) : Calls Try.prog 20 #[.int .i64 op, .int .i32 a, .int .i32 b] w fun e w' => e = .returned (.tuple #[.bool (ifZ op a b).1, .int .i64 (ifZ op a b).2]) ∧ Only (fun _ => False) w w' := by
  have HO := Lib.hid (Only.refl (fun _ => False) w)
  by_cases h153 : op = 153
  · subst h153
    go_enter Try.func20, Try.ntmps20
    go_wp2
    go_ret2
    exact ⟨by rfl, HO.out⟩
  by_cases h154 : op = 154
  · subst h154
    go_enter Try.func20, Try.ntmps20
    go_wp2
    go_ret2
    exact ⟨by rfl, HO.out⟩
  by_cases h155 : op = 155
  · subst h155
    go_enter Try.func20, Try.ntmps20
    go_wp2
    go_ret2
    exact ⟨by rfl, HO.out⟩
  by_cases h156 : op = 156
  · subst h156
    go_enter Try.func20, Try.ntmps20
    go_wp2
    go_ret2
    exact ⟨by rfl, HO.out⟩
  by_cases h157 : op = 157
  · subst h157
    go_enter Try.func20, Try.ntmps20
    go_wp2
    go_ret2
    exact ⟨by rfl, HO.out⟩
  by_cases h158 : op = 158
  · subst h158
    go_enter Try.func20, Try.ntmps20
    go_wp2
    go_ret2
    exact ⟨by rfl, HO.out⟩
  by_cases h159 : op = 159
  · subst h159
    go_enter Try.func20, Try.ntmps20
    go_wp2
    go_ret2
    exact ⟨by rfl, HO.out⟩
  by_cases h160 : op = 160
  · subst h160
    go_enter Try.func20, Try.ntmps20
    go_wp2
    go_ret2
    exact ⟨by rfl, HO.out⟩
  by_cases h161 : op = 161
  · subst h161
    go_enter Try.func20, Try.ntmps20
    go_wp2
    go_ret2
    exact ⟨by rfl, HO.out⟩
  by_cases h162 : op = 162
  · subst h162
    go_enter Try.func20, Try.ntmps20
    go_wp2
    go_ret2
    exact ⟨by rfl, HO.out⟩
  by_cases h163 : op = 163
  · subst h163
    go_enter Try.func20, Try.ntmps20
    go_wp2
    go_ret2
    exact ⟨by rfl, HO.out⟩
  by_cases h164 : op = 164
  · subst h164
    go_enter Try.func20, Try.ntmps20
    go_wp2
    go_ret2
    exact ⟨by rfl, HO.out⟩
  have e153 : (op == 153) = false := by rw [beq_eq_false_iff_ne]; exact h153
  have e154 : (op == 154) = false := by rw [beq_eq_false_iff_ne]; exact h154
  have e155 : (op == 155) = false := by rw [beq_eq_false_iff_ne]; exact h155
  have e156 : (op == 156) = false := by rw [beq_eq_false_iff_ne]; exact h156
  have e157 : (op == 157) = false := by rw [beq_eq_false_iff_ne]; exact h157
  have e158 : (op == 158) = false := by rw [beq_eq_false_iff_ne]; exact h158
  have e159 : (op == 159) = false := by rw [beq_eq_false_iff_ne]; exact h159
  have e160 : (op == 160) = false := by rw [beq_eq_false_iff_ne]; exact h160
  have e161 : (op == 161) = false := by rw [beq_eq_false_iff_ne]; exact h161
  have e162 : (op == 162) = false := by rw [beq_eq_false_iff_ne]; exact h162
  have e163 : (op == 163) = false := by rw [beq_eq_false_iff_ne]; exact h163
  have e164 : (op == 164) = false := by rw [beq_eq_false_iff_ne]; exact h164
  have hg : ¬(153 ≤ op ∧ op ≤ 158) := by omega
  by_cases hl : 153 ≤ op
  · have g1 : decide (153 ≤ op) = true := by simpa using hl
    have g2 : decide (op ≤ 158) = false := by simp only [decide_eq_false_iff_not]; omega
    go_enter Try.func20, Try.ntmps20
    go_wp2
    go_ret2
    refine ⟨?_, HO.out⟩
    unfold ifZ
    simp only [hg, h159, h160, h161, h162, h163, h164, if_false]
    rfl
  have g1 : decide (153 ≤ op) = false := by simpa using hl
  go_enter Try.func20, Try.ntmps20
  go_wp2
  go_ret2
  refine ⟨?_, HO.out⟩
  unfold ifZ
  simp only [hg, h159, h160, h161, h162, h163, h164, if_false]
  rfl
set_option maxRecDepth 100000 in
theorem refCompare (a b : Int) (w : World) : Calls Try.prog 22 #[.int .i64 a, .int .i64 b] w fun e w' => e = .returned (.int .i32 (cmpZ a b)) ∧ Only (fun _ => False) w w' := by
  have HO := Lib.hid (Only.refl (fun _ => False) w)
  unfold cmpZ
  by_cases h1 : a < b
  · have e1 : decide (a < b) = true := by simpa using h1
    go_enter Try.func22, Try.ntmps22
    go_wp2
    go_ret
    exact ⟨by simp [h1], HO.out⟩
  have e1 : decide (a < b) = false := by simpa using h1
  by_cases h2 : b < a
  · have e2 : decide (b < a) = true := by simpa using h2
    go_enter Try.func22, Try.ntmps22
    go_wp2
    go_ret
    exact ⟨by simp [h1, h2], HO.out⟩
  have e2 : decide (b < a) = false := by simpa using h2
  go_enter Try.func22, Try.ntmps22
  go_wp2
  go_ret
  exact ⟨by simp [h1, h2], HO.out⟩
theorem refNarrow (a : Int) (w : World) : Calls Try.prog 24 #[.int .i64 a] w fun e w' => e = .returned (.int .i32 (wrap32 a)) ∧ Only (fun _ => False) w w' := by
  have HO := Lib.hid (Only.refl (fun _ => False) w)
  go_enter Try.func24, Try.ntmps24
  go_wp2
  go_ret
  exact ⟨rfl, HO.out⟩
end Go.Proofs.Ytmgglicfhddmpaa
