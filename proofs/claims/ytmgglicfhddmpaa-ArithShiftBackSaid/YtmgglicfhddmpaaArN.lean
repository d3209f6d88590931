/- The program's numbers: what each word makes of two of either width. No condition but the ranges. -/
import Derived.Test.YtmgglicfhddmpaaArC
import Derived.Test.YtmgglicfhddmpaaArQ
import Derived.Test.YtmgglicfhddmpaaArR
namespace Go.Proofs.Ytmgglicfhddmpaa
open Go.RowKit
set_option linter.unusedVariables false
set_option linter.unusedSimpArgs false

theorem i32_left (z : Int) : IntKind.i32.wrap z = wrap32 z := by
  simp only [IntKind.wrap, IntKind.bits, IntKind.signed, Bool.true_and, decide_eq_true_eq, ge_iff_le]
  unfold wrap32
  split <;> omega

set_option maxRecDepth 100000 in
theorem ari32_add (a b : Int) (w : World) : Calls Try.prog 27 #[.string ⟨#[97, 100, 100]⟩, .int .i32 a, .int .i32 b] w fun e w' => e = .returned (.tuple #[.int .i32 (wrap32 (a + b)), .int .i64 0]) ∧ w = w' := by
  go_enter Try.func27, Try.ntmps27
  go_wp2
  go_ret2
  exact ⟨by rfl, rfl⟩
set_option maxRecDepth 100000 in
theorem ari32_neg (a b : Int) (w : World) : Calls Try.prog 27 #[.string ⟨#[110, 101, 103]⟩, .int .i32 a, .int .i32 b] w fun e w' => e = .returned (.tuple #[.int .i32 (wrap32 (-a)), .int .i64 0]) ∧ w = w' := by
  go_enter Try.func27, Try.ntmps27
  go_wp2
  go_ret2
  exact ⟨by rfl, rfl⟩
set_option maxRecDepth 100000 in
theorem ari32_sub (a b : Int) (w : World) : Calls Try.prog 27 #[.string ⟨#[115, 117, 98]⟩, .int .i32 a, .int .i32 b] w fun e w' => e = .returned (.tuple #[.int .i32 (wrap32 (a - b)), .int .i64 0]) ∧ w = w' := by
  go_enter Try.func27, Try.ntmps27
  go_wp2
  go_ret2
  exact ⟨by rfl, rfl⟩
set_option maxRecDepth 100000 in
theorem ari32_mul (a b : Int) (w : World) : Calls Try.prog 27 #[.string ⟨#[109, 117, 108]⟩, .int .i32 a, .int .i32 b] w fun e w' => e = .returned (.tuple #[.int .i32 (wrap32 (a * b)), .int .i64 0]) ∧ w = w' := by
  go_enter Try.func27, Try.ntmps27
  go_wp2
  go_ret2
  exact ⟨by rfl, rfl⟩
set_option maxRecDepth 100000 in
theorem ari32_and (a b : Int) (w : World) : Calls Try.prog 27 #[.string ⟨#[97, 110, 100]⟩, .int .i32 a, .int .i32 b] w fun e w' => e = .returned (.tuple #[.int .i32 (bits .and .i32 a b), .int .i64 0]) ∧ w = w' := by
  go_enter Try.func27, Try.ntmps27
  go_wp2
  go_ret2
  exact ⟨by rfl, rfl⟩
set_option maxRecDepth 100000 in
theorem ari32_or (a b : Int) (w : World) : Calls Try.prog 27 #[.string ⟨#[111, 114]⟩, .int .i32 a, .int .i32 b] w fun e w' => e = .returned (.tuple #[.int .i32 (bits .or .i32 a b), .int .i64 0]) ∧ w = w' := by
  go_enter Try.func27, Try.ntmps27
  go_wp2
  go_ret2
  exact ⟨by rfl, rfl⟩
set_option maxRecDepth 100000 in
theorem ari32_xor (a b : Int) (w : World) : Calls Try.prog 27 #[.string ⟨#[120, 111, 114]⟩, .int .i32 a, .int .i32 b] w fun e w' => e = .returned (.tuple #[.int .i32 (bits .xor .i32 a b), .int .i64 0]) ∧ w = w' := by
  go_enter Try.func27, Try.ntmps27
  go_wp2
  go_ret2
  exact ⟨by rfl, rfl⟩
set_option maxRecDepth 100000 in
theorem ari32_div0 (a : Int) (w : World) : Calls Try.prog 27 #[.string ⟨#[100, 105, 118]⟩, .int .i32 a, .int .i32 0] w fun e w' => e = .returned (.tuple #[.int .i32 0, .int .i64 6]) ∧ w = w' := by
  go_enter Try.func27, Try.ntmps27
  go_wp2
  go_ret2
  exact ⟨by rfl, rfl⟩
set_option maxRecDepth 100000 in
theorem ari32_div (a b : Int) (hb : b ≠ 0) (w : World) : Calls Try.prog 27 #[.string ⟨#[100, 105, 118]⟩, .int .i32 a, .int .i32 b] w fun e w' => e = .returned (.tuple #[.int .i32 (wrap32 (a.tdiv b)), .int .i64 0]) ∧ w = w' := by
  have hb0 : (b == 0) = false := by rw [beq_eq_false_iff_ne]; exact hb
  go_enter Try.func27, Try.ntmps27
  go_wp2
  go_ret2
  exact ⟨by rfl, rfl⟩
set_option maxRecDepth 100000 in
theorem ari32_rem0 (a : Int) (w : World) : Calls Try.prog 27 #[.string ⟨#[114, 101, 109]⟩, .int .i32 a, .int .i32 0] w fun e w' => e = .returned (.tuple #[.int .i32 0, .int .i64 6]) ∧ w = w' := by
  go_enter Try.func27, Try.ntmps27
  go_wp2
  go_ret2
  exact ⟨by rfl, rfl⟩
set_option maxRecDepth 100000 in
theorem ari32_rem (a b : Int) (hb : b ≠ 0) (w : World) : Calls Try.prog 27 #[.string ⟨#[114, 101, 109]⟩, .int .i32 a, .int .i32 b] w fun e w' => e = .returned (.tuple #[.int .i32 (a.tmod b), .int .i64 0]) ∧ w = w' := by
  have hb0 : (b == 0) = false := by rw [beq_eq_false_iff_ne]; exact hb
  go_enter Try.func27, Try.ntmps27
  go_wp2
  go_ret2
  exact ⟨by rfl, rfl⟩
set_option maxRecDepth 100000 in
theorem ari32_no (s : ByteArray) (a b : Int) (h0 : (s.toList == [97, 100, 100]) = false) (h1 : (s.toList == [110, 101, 103]) = false) (h2 : (s.toList == [115, 117, 98]) = false) (h3 : (s.toList == [109, 117, 108]) = false) (h4 : (s.toList == [100, 105, 118]) = false) (h5 : (s.toList == [114, 101, 109]) = false) (h6 : (s.toList == [97, 110, 100]) = false) (h7 : (s.toList == [111, 114]) = false) (h8 : (s.toList == [120, 111, 114]) = false) (w : World) : Calls Try.prog 27 #[.string s, .int .i32 a, .int .i32 b] w fun e w' => e = .returned (.tuple #[.int .i32 0, .int .i64 60]) ∧ w = w' := by
  go_enter Try.func27, Try.ntmps27
  go_wp2
  go_ret2
  exact ⟨by rfl, rfl⟩
set_option maxRecDepth 100000 in
theorem ari64_add (a b : Int) (w : World) : Calls Try.prog 28 #[.string ⟨#[97, 100, 100]⟩, .int .i64 a, .int .i64 b] w fun e w' => e = .returned (.tuple #[.int .i64 (wrap64 (a + b)), .int .i64 0]) ∧ w = w' := by
  go_enter Try.func28, Try.ntmps28
  go_wp2
  go_ret2
  exact ⟨by rfl, rfl⟩
set_option maxRecDepth 100000 in
theorem ari64_neg (a b : Int) (w : World) : Calls Try.prog 28 #[.string ⟨#[110, 101, 103]⟩, .int .i64 a, .int .i64 b] w fun e w' => e = .returned (.tuple #[.int .i64 (wrap64 (-a)), .int .i64 0]) ∧ w = w' := by
  go_enter Try.func28, Try.ntmps28
  go_wp2
  go_ret2
  exact ⟨by rfl, rfl⟩
set_option maxRecDepth 100000 in
theorem ari64_sub (a b : Int) (w : World) : Calls Try.prog 28 #[.string ⟨#[115, 117, 98]⟩, .int .i64 a, .int .i64 b] w fun e w' => e = .returned (.tuple #[.int .i64 (wrap64 (a - b)), .int .i64 0]) ∧ w = w' := by
  go_enter Try.func28, Try.ntmps28
  go_wp2
  go_ret2
  exact ⟨by rfl, rfl⟩
set_option maxRecDepth 100000 in
theorem ari64_mul (a b : Int) (w : World) : Calls Try.prog 28 #[.string ⟨#[109, 117, 108]⟩, .int .i64 a, .int .i64 b] w fun e w' => e = .returned (.tuple #[.int .i64 (wrap64 (a * b)), .int .i64 0]) ∧ w = w' := by
  go_enter Try.func28, Try.ntmps28
  go_wp2
  go_ret2
  exact ⟨by rfl, rfl⟩
set_option maxRecDepth 100000 in
theorem ari64_and (a b : Int) (w : World) : Calls Try.prog 28 #[.string ⟨#[97, 110, 100]⟩, .int .i64 a, .int .i64 b] w fun e w' => e = .returned (.tuple #[.int .i64 (bits .and .i64 a b), .int .i64 0]) ∧ w = w' := by
  go_enter Try.func28, Try.ntmps28
  go_wp2
  go_ret2
  exact ⟨by rfl, rfl⟩
set_option maxRecDepth 100000 in
theorem ari64_or (a b : Int) (w : World) : Calls Try.prog 28 #[.string ⟨#[111, 114]⟩, .int .i64 a, .int .i64 b] w fun e w' => e = .returned (.tuple #[.int .i64 (bits .or .i64 a b), .int .i64 0]) ∧ w = w' := by
  go_enter Try.func28, Try.ntmps28
  go_wp2
  go_ret2
  exact ⟨by rfl, rfl⟩
set_option maxRecDepth 100000 in
theorem ari64_xor (a b : Int) (w : World) : Calls Try.prog 28 #[.string ⟨#[120, 111, 114]⟩, .int .i64 a, .int .i64 b] w fun e w' => e = .returned (.tuple #[.int .i64 (bits .xor .i64 a b), .int .i64 0]) ∧ w = w' := by
  go_enter Try.func28, Try.ntmps28
  go_wp2
  go_ret2
  exact ⟨by rfl, rfl⟩
set_option maxRecDepth 100000 in
theorem ari64_div0 (a : Int) (w : World) : Calls Try.prog 28 #[.string ⟨#[100, 105, 118]⟩, .int .i64 a, .int .i64 0] w fun e w' => e = .returned (.tuple #[.int .i64 0, .int .i64 6]) ∧ w = w' := by
  go_enter Try.func28, Try.ntmps28
  go_wp2
  go_ret2
  exact ⟨by rfl, rfl⟩
set_option maxRecDepth 100000 in
theorem ari64_div (a b : Int) (hb : b ≠ 0) (w : World) : Calls Try.prog 28 #[.string ⟨#[100, 105, 118]⟩, .int .i64 a, .int .i64 b] w fun e w' => e = .returned (.tuple #[.int .i64 (wrap64 (a.tdiv b)), .int .i64 0]) ∧ w = w' := by
  have hb0 : (b == 0) = false := by rw [beq_eq_false_iff_ne]; exact hb
  go_enter Try.func28, Try.ntmps28
  go_wp2
  go_ret2
  exact ⟨by rfl, rfl⟩
set_option maxRecDepth 100000 in
theorem ari64_rem0 (a : Int) (w : World) : Calls Try.prog 28 #[.string ⟨#[114, 101, 109]⟩, .int .i64 a, .int .i64 0] w fun e w' => e = .returned (.tuple #[.int .i64 0, .int .i64 6]) ∧ w = w' := by
  go_enter Try.func28, Try.ntmps28
  go_wp2
  go_ret2
  exact ⟨by rfl, rfl⟩
set_option maxRecDepth 100000 in
theorem ari64_rem (a b : Int) (hb : b ≠ 0) (w : World) : Calls Try.prog 28 #[.string ⟨#[114, 101, 109]⟩, .int .i64 a, .int .i64 b] w fun e w' => e = .returned (.tuple #[.int .i64 (a.tmod b), .int .i64 0]) ∧ w = w' := by
  have hb0 : (b == 0) = false := by rw [beq_eq_false_iff_ne]; exact hb
  go_enter Try.func28, Try.ntmps28
  go_wp2
  go_ret2
  exact ⟨by rfl, rfl⟩
set_option maxRecDepth 100000 in
theorem ari64_no (s : ByteArray) (a b : Int) (h0 : (s.toList == [97, 100, 100]) = false) (h1 : (s.toList == [110, 101, 103]) = false) (h2 : (s.toList == [115, 117, 98]) = false) (h3 : (s.toList == [109, 117, 108]) = false) (h4 : (s.toList == [100, 105, 118]) = false) (h5 : (s.toList == [114, 101, 109]) = false) (h6 : (s.toList == [97, 110, 100]) = false) (h7 : (s.toList == [111, 114]) = false) (h8 : (s.toList == [120, 111, 114]) = false) (w : World) : Calls Try.prog 28 #[.string s, .int .i64 a, .int .i64 b] w fun e w' => e = .returned (.tuple #[.int .i64 0, .int .i64 60]) ∧ w = w' := by
  go_enter Try.func28, Try.ntmps28
  go_wp2
  go_ret2
  exact ⟨by rfl, rfl⟩
set_option maxRecDepth 100000 in
theorem arLen32 (w : World) : Calls Try.prog 33 #[.int .u64 4294967295] w fun e w' => e = .returned (.int .i64 32) ∧ w = w' := by
  go_enter Try.func33, Try.ntmps33
  go_wp2
  go_ret
  exact ⟨by kernel_rfl, rfl⟩
set_option maxRecDepth 100000 in
theorem arLen64 (w : World) : Calls Try.prog 33 #[.int .u64 18446744073709551615] w fun e w' => e = .returned (.int .i64 64) ∧ w = w' := by
  go_enter Try.func33, Try.ntmps33
  go_wp2
  go_ret
  exact ⟨by kernel_rfl, rfl⟩
set_option maxRecDepth 100000 in
theorem ari32_shl (a b : Int) (w : World) : Calls Try.prog 26 #[.string ⟨#[115, 104, 108]⟩, .int .i32 a, .int .i32 b] w fun e w' => e = .returned (.tuple #[.int .i32 (wrap32 (a * 2 ^ sh5 b)), .int .i64 0]) ∧ w = w' := by
  have em : bits .and .i64 (wrap64 b) 31 = b % 32 := by rw [and_i64_31]; unfold wrap64; omega
  have CL := Lib.hid (fun W => arLen32 W)
  have e1 : ∀ W, (Op.shift .shl .i32 a .i64 (b % 32)).run Try.prog W = .ok (.int .i32 (wrap32 (a * 2 ^ sh5 b))) W := fun W => by rw [shift_shl _ _ _ _ (by omega) (by show b % 32 ≤ 32; omega)]; simp [sh5, i32_left]
  have e2 : ∀ W, (Op.shift .shr .i32 a .i64 (b % 32)).run Try.prog W = .ok (.int .i32 (a / 2 ^ sh5 b)) W := fun W => by rw [shift_shr _ _ _ _ (by omega) (by show b % 32 ≤ 32; omega)]; simp [sh5, i32_left]
  have e3 : ∀ W, (Op.shift .shr .u32 (IntKind.u32.wrap a) .i64 (b % 32)).run Try.prog W = .ok (.int .u32 (IntKind.u32.wrap a / 2 ^ sh5 b)) W := fun W => by rw [shift_shr _ _ _ _ (by omega) (by show b % 32 ≤ 32; omega)]; simp [sh5, i32_left]
  go_enter Try.func26, Try.ntmps26
  go_wp2_with (fail)
  refine (CL.out _).mono ?_
  rintro e w1 ⟨rfl, rfl⟩
  go_wp2
  go_ret2
  exact ⟨by rfl, rfl⟩
set_option maxRecDepth 100000 in
theorem ari32_shr (a b : Int) (w : World) : Calls Try.prog 26 #[.string ⟨#[115, 104, 114]⟩, .int .i32 a, .int .i32 b] w fun e w' => e = .returned (.tuple #[.int .i32 (a / 2 ^ sh5 b), .int .i64 0]) ∧ w = w' := by
  have em : bits .and .i64 (wrap64 b) 31 = b % 32 := by rw [and_i64_31]; unfold wrap64; omega
  have CL := Lib.hid (fun W => arLen32 W)
  have e1 : ∀ W, (Op.shift .shl .i32 a .i64 (b % 32)).run Try.prog W = .ok (.int .i32 (wrap32 (a * 2 ^ sh5 b))) W := fun W => by rw [shift_shl _ _ _ _ (by omega) (by show b % 32 ≤ 32; omega)]; simp [sh5, i32_left]
  have e2 : ∀ W, (Op.shift .shr .i32 a .i64 (b % 32)).run Try.prog W = .ok (.int .i32 (a / 2 ^ sh5 b)) W := fun W => by rw [shift_shr _ _ _ _ (by omega) (by show b % 32 ≤ 32; omega)]; simp [sh5, i32_left]
  have e3 : ∀ W, (Op.shift .shr .u32 (IntKind.u32.wrap a) .i64 (b % 32)).run Try.prog W = .ok (.int .u32 (IntKind.u32.wrap a / 2 ^ sh5 b)) W := fun W => by rw [shift_shr _ _ _ _ (by omega) (by show b % 32 ≤ 32; omega)]; simp [sh5, i32_left]
  go_enter Try.func26, Try.ntmps26
  go_wp2_with (fail)
  refine (CL.out _).mono ?_
  rintro e w1 ⟨rfl, rfl⟩
  go_wp2
  go_ret2
  exact ⟨by rfl, rfl⟩
set_option maxRecDepth 100000 in
theorem ari32_ushr (a b : Int) (w : World) : Calls Try.prog 26 #[.string ⟨#[117, 115, 104, 114]⟩, .int .i32 a, .int .i32 b] w fun e w' => e = .returned (.tuple #[.int .i32 (wrap32 (IntKind.u32.wrap a / 2 ^ sh5 b)), .int .i64 0]) ∧ w = w' := by
  have em : bits .and .i64 (wrap64 b) 31 = b % 32 := by rw [and_i64_31]; unfold wrap64; omega
  have CL := Lib.hid (fun W => arLen32 W)
  have e1 : ∀ W, (Op.shift .shl .i32 a .i64 (b % 32)).run Try.prog W = .ok (.int .i32 (wrap32 (a * 2 ^ sh5 b))) W := fun W => by rw [shift_shl _ _ _ _ (by omega) (by show b % 32 ≤ 32; omega)]; simp [sh5, i32_left]
  have e2 : ∀ W, (Op.shift .shr .i32 a .i64 (b % 32)).run Try.prog W = .ok (.int .i32 (a / 2 ^ sh5 b)) W := fun W => by rw [shift_shr _ _ _ _ (by omega) (by show b % 32 ≤ 32; omega)]; simp [sh5, i32_left]
  have e3 : ∀ W, (Op.shift .shr .u32 (IntKind.u32.wrap a) .i64 (b % 32)).run Try.prog W = .ok (.int .u32 (IntKind.u32.wrap a / 2 ^ sh5 b)) W := fun W => by rw [shift_shr _ _ _ _ (by omega) (by show b % 32 ≤ 32; omega)]; simp [sh5, i32_left]
  go_enter Try.func26, Try.ntmps26
  go_wp2_with (fail)
  refine (CL.out _).mono ?_
  rintro e w1 ⟨rfl, rfl⟩
  go_wp2
  go_ret2
  exact ⟨by rfl, rfl⟩
set_option maxRecDepth 100000 in
theorem ari32_nos (s : ByteArray) (a b : Int) (h0 : (s.toList == [115, 104, 108]) = false) (h1 : (s.toList == [115, 104, 114]) = false) (h2 : (s.toList == [117, 115, 104, 114]) = false) (w : World) : Calls Try.prog 26 #[.string s, .int .i32 a, .int .i32 b] w fun e w' => e = .returned (.tuple #[.int .i32 0, .int .i64 60]) ∧ w = w' := by
  have em : bits .and .i64 (wrap64 b) 31 = b % 32 := by rw [and_i64_31]; unfold wrap64; omega
  have CL := Lib.hid (fun W => arLen32 W)
  have e1 : ∀ W, (Op.shift .shl .i32 a .i64 (b % 32)).run Try.prog W = .ok (.int .i32 (wrap32 (a * 2 ^ sh5 b))) W := fun W => by rw [shift_shl _ _ _ _ (by omega) (by show b % 32 ≤ 32; omega)]; simp [sh5, i32_left]
  have e2 : ∀ W, (Op.shift .shr .i32 a .i64 (b % 32)).run Try.prog W = .ok (.int .i32 (a / 2 ^ sh5 b)) W := fun W => by rw [shift_shr _ _ _ _ (by omega) (by show b % 32 ≤ 32; omega)]; simp [sh5, i32_left]
  have e3 : ∀ W, (Op.shift .shr .u32 (IntKind.u32.wrap a) .i64 (b % 32)).run Try.prog W = .ok (.int .u32 (IntKind.u32.wrap a / 2 ^ sh5 b)) W := fun W => by rw [shift_shr _ _ _ _ (by omega) (by show b % 32 ≤ 32; omega)]; simp [sh5, i32_left]
  go_enter Try.func26, Try.ntmps26
  go_wp2_with (fail)
  refine (CL.out _).mono ?_
  rintro e w1 ⟨rfl, rfl⟩
  go_wp2
  go_ret2
  exact ⟨by rfl, rfl⟩
set_option maxRecDepth 100000 in
theorem ari64_shl (a b : Int) (w : World) : Calls Try.prog 29 #[.string ⟨#[115, 104, 108]⟩, .int .i64 a, .int .i32 b] w fun e w' => e = .returned (.tuple #[.int .i64 (wrap64 (a * 2 ^ sh6 b)), .int .i64 0]) ∧ w = w' := by
  have em : bits .and .i64 (wrap64 b) 63 = b % 64 := by rw [and_i64_63]; unfold wrap64; omega
  have CL := Lib.hid (fun W => arLen64 W)
  have e1 : ∀ W, (Op.shift .shl .i64 a .i64 (b % 64)).run Try.prog W = .ok (.int .i64 (wrap64 (a * 2 ^ sh6 b))) W := fun W => by rw [shift_shl _ _ _ _ (by omega) (by show b % 64 ≤ 64; omega)]; simp [sh6, IntWalk.i64_left]
  have e2 : ∀ W, (Op.shift .shr .i64 a .i64 (b % 64)).run Try.prog W = .ok (.int .i64 (a / 2 ^ sh6 b)) W := fun W => by rw [shift_shr _ _ _ _ (by omega) (by show b % 64 ≤ 64; omega)]; simp [sh6, IntWalk.i64_left]
  have e3 : ∀ W, (Op.shift .shr .u64 (IntKind.u64.wrap a) .i64 (b % 64)).run Try.prog W = .ok (.int .u64 (IntKind.u64.wrap a / 2 ^ sh6 b)) W := fun W => by rw [shift_shr _ _ _ _ (by omega) (by show b % 64 ≤ 64; omega)]; simp [sh6, IntWalk.i64_left]
  go_enter Try.func29, Try.ntmps29
  go_wp2_with (fail)
  refine (CL.out _).mono ?_
  rintro e w1 ⟨rfl, rfl⟩
  go_wp2
  go_ret2
  exact ⟨by rfl, rfl⟩
set_option maxRecDepth 100000 in
theorem ari64_shr (a b : Int) (w : World) : Calls Try.prog 29 #[.string ⟨#[115, 104, 114]⟩, .int .i64 a, .int .i32 b] w fun e w' => e = .returned (.tuple #[.int .i64 (a / 2 ^ sh6 b), .int .i64 0]) ∧ w = w' := by
  have em : bits .and .i64 (wrap64 b) 63 = b % 64 := by rw [and_i64_63]; unfold wrap64; omega
  have CL := Lib.hid (fun W => arLen64 W)
  have e1 : ∀ W, (Op.shift .shl .i64 a .i64 (b % 64)).run Try.prog W = .ok (.int .i64 (wrap64 (a * 2 ^ sh6 b))) W := fun W => by rw [shift_shl _ _ _ _ (by omega) (by show b % 64 ≤ 64; omega)]; simp [sh6, IntWalk.i64_left]
  have e2 : ∀ W, (Op.shift .shr .i64 a .i64 (b % 64)).run Try.prog W = .ok (.int .i64 (a / 2 ^ sh6 b)) W := fun W => by rw [shift_shr _ _ _ _ (by omega) (by show b % 64 ≤ 64; omega)]; simp [sh6, IntWalk.i64_left]
  have e3 : ∀ W, (Op.shift .shr .u64 (IntKind.u64.wrap a) .i64 (b % 64)).run Try.prog W = .ok (.int .u64 (IntKind.u64.wrap a / 2 ^ sh6 b)) W := fun W => by rw [shift_shr _ _ _ _ (by omega) (by show b % 64 ≤ 64; omega)]; simp [sh6, IntWalk.i64_left]
  go_enter Try.func29, Try.ntmps29
  go_wp2_with (fail)
  refine (CL.out _).mono ?_
  rintro e w1 ⟨rfl, rfl⟩
  go_wp2
  go_ret2
  exact ⟨by rfl, rfl⟩
set_option maxRecDepth 100000 in
theorem ari64_ushr (a b : Int) (w : World) : Calls Try.prog 29 #[.string ⟨#[117, 115, 104, 114]⟩, .int .i64 a, .int .i32 b] w fun e w' => e = .returned (.tuple #[.int .i64 (wrap64 (IntKind.u64.wrap a / 2 ^ sh6 b)), .int .i64 0]) ∧ w = w' := by
  have em : bits .and .i64 (wrap64 b) 63 = b % 64 := by rw [and_i64_63]; unfold wrap64; omega
  have CL := Lib.hid (fun W => arLen64 W)
  have e1 : ∀ W, (Op.shift .shl .i64 a .i64 (b % 64)).run Try.prog W = .ok (.int .i64 (wrap64 (a * 2 ^ sh6 b))) W := fun W => by rw [shift_shl _ _ _ _ (by omega) (by show b % 64 ≤ 64; omega)]; simp [sh6, IntWalk.i64_left]
  have e2 : ∀ W, (Op.shift .shr .i64 a .i64 (b % 64)).run Try.prog W = .ok (.int .i64 (a / 2 ^ sh6 b)) W := fun W => by rw [shift_shr _ _ _ _ (by omega) (by show b % 64 ≤ 64; omega)]; simp [sh6, IntWalk.i64_left]
  have e3 : ∀ W, (Op.shift .shr .u64 (IntKind.u64.wrap a) .i64 (b % 64)).run Try.prog W = .ok (.int .u64 (IntKind.u64.wrap a / 2 ^ sh6 b)) W := fun W => by rw [shift_shr _ _ _ _ (by omega) (by show b % 64 ≤ 64; omega)]; simp [sh6, IntWalk.i64_left]
  go_enter Try.func29, Try.ntmps29
  go_wp2_with (fail)
  refine (CL.out _).mono ?_
  rintro e w1 ⟨rfl, rfl⟩
  go_wp2
  go_ret2
  exact ⟨by rfl, rfl⟩
set_option maxRecDepth 100000 in
theorem ari64_nos (s : ByteArray) (a b : Int) (h0 : (s.toList == [115, 104, 108]) = false) (h1 : (s.toList == [115, 104, 114]) = false) (h2 : (s.toList == [117, 115, 104, 114]) = false) (w : World) : Calls Try.prog 29 #[.string s, .int .i64 a, .int .i32 b] w fun e w' => e = .returned (.tuple #[.int .i64 0, .int .i64 60]) ∧ w = w' := by
  have em : bits .and .i64 (wrap64 b) 63 = b % 64 := by rw [and_i64_63]; unfold wrap64; omega
  have CL := Lib.hid (fun W => arLen64 W)
  have e1 : ∀ W, (Op.shift .shl .i64 a .i64 (b % 64)).run Try.prog W = .ok (.int .i64 (wrap64 (a * 2 ^ sh6 b))) W := fun W => by rw [shift_shl _ _ _ _ (by omega) (by show b % 64 ≤ 64; omega)]; simp [sh6, IntWalk.i64_left]
  have e2 : ∀ W, (Op.shift .shr .i64 a .i64 (b % 64)).run Try.prog W = .ok (.int .i64 (a / 2 ^ sh6 b)) W := fun W => by rw [shift_shr _ _ _ _ (by omega) (by show b % 64 ≤ 64; omega)]; simp [sh6, IntWalk.i64_left]
  have e3 : ∀ W, (Op.shift .shr .u64 (IntKind.u64.wrap a) .i64 (b % 64)).run Try.prog W = .ok (.int .u64 (IntKind.u64.wrap a / 2 ^ sh6 b)) W := fun W => by rw [shift_shr _ _ _ _ (by omega) (by show b % 64 ≤ 64; omega)]; simp [sh6, IntWalk.i64_left]
  go_enter Try.func29, Try.ntmps29
  go_wp2_with (fail)
  refine (CL.out _).mono ?_
  rintro e w1 ⟨rfl, rfl⟩
  go_wp2
  go_ret2
  exact ⟨by rfl, rfl⟩
end Go.Proofs.Ytmgglicfhddmpaa
