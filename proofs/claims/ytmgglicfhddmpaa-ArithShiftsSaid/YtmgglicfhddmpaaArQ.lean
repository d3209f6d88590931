/- Plain facts of shifts, branches and of what is turned about twice (layer 13). Condition: the numbers are such of 32 or 64 bits. -/
import Derived.Test.YtmgglicfhddmpaaArP
import Derived.Laws.Bits64b
namespace Go.Proofs.Ytmgglicfhddmpaa
open Go.RowKit
set_option linter.unusedVariables false
set_option linter.unusedSimpArgs false

theorem u64_eq (z : Int) : IntKind.u64.wrap z = z % 18446744073709551616 := by
  simp only [IntKind.wrap, IntKind.bits, IntKind.signed, Bool.false_and, Bool.false_eq_true, if_false]
  omega
theorem u64_wrap (z : Int) : IntKind.u64.wrap (wrap64 z) = z % 18446744073709551616 := by
  rw [u64_eq]; unfold wrap64; omega
theorem sh6_lt (n : Int) : sh6 n < 64 := by unfold sh6; omega
theorem mask_eq : ∀ k : Nat, k < 64 → (18446744073709551615 : Int) / 2 ^ k = ((2 ^ (64 - k) - 1 : Nat) : Int) := by decide
theorem shl_back (a : Int) (k : Nat) (hk : k < 64) : (a * 2 ^ k % 18446744073709551616) / 2 ^ k = a % ((2 ^ (64 - k) : Nat) : Int) := by
  have e : (18446744073709551616 : Int) = 2 ^ k * ((2 ^ (64 - k) : Nat) : Int) := by
    have h : (2 : Nat) ^ k * 2 ^ (64 - k) = 18446744073709551616 := by rw [← Nat.pow_add, show k + (64 - k) = 64 by omega]
    have h2 : ((2 ^ k * 2 ^ (64 - k) : Nat) : Int) = 18446744073709551616 := by rw [h]; rfl
    rw [← h2, Int.natCast_mul, Int.natCast_pow 2 k]
    rfl
  have hp : (0 : Int) < 2 ^ k := Int.pow_pos (by decide)
  rw [e, Int.mul_comm a, Int.mul_emod_mul_of_pos _ _ hp]
  exact Int.mul_ediv_cancel_left _ (Int.ne_of_gt hp)
/-- To the left and back without a sign: the bits that stayed. -/
theorem shift_back (a n : Int) : IntKind.u64.wrap (wrap64 (IntKind.u64.wrap (wrap64 (a * 2 ^ sh6 n)) / 2 ^ sh6 n)) = bits .and .u64 (IntKind.u64.wrap a) (18446744073709551615 / 2 ^ sh6 n) := by
  have hk := sh6_lt n
  rw [u64_wrap, u64_wrap, shl_back _ _ hk, mask_eq _ hk, u64_eq]
  have h0 : 0 ≤ a % 18446744073709551616 := by omega
  have hp : (2 : Nat) ^ (64 - sh6 n) ≤ 18446744073709551616 := Nat.pow_le_pow_right (by decide) (by omega : 64 - sh6 n ≤ 64)
  have hp0 : (0 : Nat) < 2 ^ (64 - sh6 n) := Nat.pow_pos (by decide)
  obtain ⟨A, hA⟩ := Int.eq_ofNat_of_zero_le h0
  have hd : ((2 ^ (64 - sh6 n) : Nat) : Int) ∣ 18446744073709551616 := by
    have h := Int.natCast_dvd_natCast.mpr (Nat.pow_dvd_pow 2 (by omega : 64 - sh6 n ≤ 64))
    have e64 : ((2 ^ 64 : Nat) : Int) = 18446744073709551616 := rfl
    rw [e64] at h
    exact h
  rw [hA, bits_and_u64_nat A _ (by omega) (by omega), Nat.and_two_pow_sub_one_eq_mod]
  have e1 : a % ((2 ^ (64 - sh6 n) : Nat) : Int) = (A : Int) % ((2 ^ (64 - sh6 n) : Nat) : Int) := by
    rw [← hA, Int.emod_emod_of_dvd _ hd]
  rw [e1]
  have e2 : (A : Int) % ((2 ^ (64 - sh6 n) : Nat) : Int) = ((A % 2 ^ (64 - sh6 n) : Nat) : Int) := by simp
  rw [e2]
  have hlt := Nat.mod_lt A hp0
  generalize A % 2 ^ (64 - sh6 n) = r at *
  omega
theorem xor_low (n : Int) : sh6 (bits .xor .i32 n 64) = sh6 n := by
  have e : (BitVec.ofInt 32 64) = BitVec.ofNat 32 64 := rfl
  have h : ((BitVec.ofInt 32 n ^^^ BitVec.ofInt 32 64).toNat : Int) % 64 = n % 64 := by
    rw [e, BitVec.toNat_xor, BitVec.toNat_ofNat, BitVec.toNat_ofInt]
    have H : ∀ x : Nat, (x ^^^ 64) % 64 = x % 64 := fun x => by
      have h := Nat.xor_mod_two_pow (a := x) (b := 64) (n := 6)
      simpa using h
    rw [show 64 % 2 ^ 32 = 64 from rfl]
    have h := H (n % ((2 ^ 32 : Nat) : Int)).toNat
    omega
  have h2 : bits .xor .i32 n 64 % 64 = n % 64 := by
    rw [← h]
    show IntKind.i32.wrap ((BitVec.ofInt 32 n ^^^ BitVec.ofInt 32 64).toNat : Int) % 64 = _
    simp only [IntKind.wrap, IntKind.bits, IntKind.signed, Bool.true_and, decide_eq_true_eq, ge_iff_le]
    split <;> omega
  unfold sh6
  rw [h2]
theorem shr_sign (a : Int) (k : Nat) : (a / 2 ^ k < 0) ↔ (a < 0) := by
  have hp : (0 : Int) < 2 ^ k := Int.pow_pos (by decide)
  constructor
  · intro h
    rcases Int.lt_or_le a 0 with h0 | h0
    · exact h0
    · exact absurd (Int.ediv_nonneg h0 (Int.le_of_lt hp)) (by omega)
  · intro h
    exact Int.ediv_neg_of_neg_of_pos h hp
theorem xor_twice (k : IntKind) (a b : Int) (hk : k = .i32 ∨ k = .i64) (ha : k.min ≤ a ∧ a ≤ k.max) : bits .xor k (bits .xor k a b) b = a := by
  rcases hk with rfl | rfl
  · have e : ∀ x : BitVec 32, BitVec.ofInt 32 (IntKind.i32.wrap (x.toNat : Int)) = x := fun x => by
      apply BitVec.eq_of_toNat_eq
      have := x.isLt
      rw [BitVec.toNat_ofInt]
      simp only [IntKind.wrap, IntKind.bits, IntKind.signed, Bool.true_and, decide_eq_true_eq, ge_iff_le]
      split <;> omega
    show IntKind.i32.wrap ((BitVec.ofInt 32 (IntKind.i32.wrap ((BitVec.ofInt 32 a ^^^ BitVec.ofInt 32 b).toNat : Int)) ^^^ BitVec.ofInt 32 b).toNat : Int) = a
    rw [e, BitVec.xor_assoc, BitVec.xor_self, BitVec.xor_zero, BitVec.toNat_ofInt]
    have h1 : (-2147483648 : Int) ≤ a := ha.1
    have h2 : a ≤ 2147483647 := ha.2
    simp only [IntKind.wrap, IntKind.bits, IntKind.signed, Bool.true_and, decide_eq_true_eq, ge_iff_le]
    split <;> omega
  · have e : ∀ x : BitVec 64, BitVec.ofInt 64 (IntKind.i64.wrap (x.toNat : Int)) = x := fun x => by
      apply BitVec.eq_of_toNat_eq
      have := x.isLt
      rw [BitVec.toNat_ofInt]
      simp only [IntKind.wrap, IntKind.bits, IntKind.signed, Bool.true_and, decide_eq_true_eq, ge_iff_le]
      split <;> omega
    show IntKind.i64.wrap ((BitVec.ofInt 64 (IntKind.i64.wrap ((BitVec.ofInt 64 a ^^^ BitVec.ofInt 64 b).toNat : Int)) ^^^ BitVec.ofInt 64 b).toNat : Int) = a
    rw [e, BitVec.xor_assoc, BitVec.xor_self, BitVec.xor_zero, BitVec.toNat_ofInt]
    have h1 : (-9223372036854775808 : Int) ≤ a := ha.1
    have h2 : a ≤ 9223372036854775807 := ha.2
    simp only [IntKind.wrap, IntKind.bits, IntKind.signed, Bool.true_and, decide_eq_true_eq, ge_iff_le]
    split <;> omega
theorem sq_wrap {r : Int} (h : -2147483648 ≤ r ∧ r ≤ 2147483647) : wrap64 (r * r) = r * r := by
  have h1 : r.natAbs ≤ 2147483648 := by omega
  have h2 : r.natAbs * r.natAbs ≤ 2147483648 * 2147483648 := Nat.mul_le_mul h1 h1
  have h3 : ((r.natAbs * r.natAbs : Nat) : Int) = r * r := by exact_mod_cast Int.natAbs_mul_self' r
  apply IntWalk.wrap64_in
  omega
theorem neg_twice (a : Int) (h : -2147483648 ≤ a ∧ a ≤ 2147483647) : wrap32 (wrap64 (-wrap64 (wrap32 (wrap64 (-a))))) = a := by
  unfold wrap32 wrap64; omega
theorem add_away32 (a b : Int) (h : -2147483648 ≤ a ∧ a ≤ 2147483647) (hb : -2147483648 ≤ b ∧ b ≤ 2147483647) : wrap32 (wrap64 (wrap32 (wrap64 (a + b)) - b)) = a := by
  unfold wrap32 wrap64; omega
theorem add_away64 (a b : Int) (h : -9223372036854775808 ≤ a ∧ a ≤ 9223372036854775807) : wrap64 (wrap64 (a + b) - b) = a := by
  unfold wrap64; omega
theorem cmp_turned (a b : Int) : cmpZ a b = -cmpZ b a := by
  unfold cmpZ
  split <;> split <;> (try split) <;> omega
theorem xor_cut (a b : Int) : wrap32 (bits .xor .i64 a b) = bits .xor .i32 a b := by
  have key : ((BitVec.ofInt 64 a ^^^ BitVec.ofInt 64 b).toNat : Int) % 4294967296 = ((BitVec.ofInt 32 a ^^^ BitVec.ofInt 32 b).toNat : Int) := by
    rw [BitVec.toNat_xor, BitVec.toNat_xor, BitVec.toNat_ofInt, BitVec.toNat_ofInt, BitVec.toNat_ofInt, BitVec.toNat_ofInt]
    have h := Nat.xor_mod_two_pow (a := (a % ((2 ^ 64 : Nat) : Int)).toNat) (b := (b % ((2 ^ 64 : Nat) : Int)).toNat) (n := 32)
    have ea : (a % ((2 ^ 64 : Nat) : Int)).toNat % 2 ^ 32 = (a % ((2 ^ 32 : Nat) : Int)).toNat := by omega
    have eb : (b % ((2 ^ 64 : Nat) : Int)).toNat % 2 ^ 32 = (b % ((2 ^ 32 : Nat) : Int)).toNat := by omega
    rw [ea, eb] at h
    rw [← h]
    omega
  show wrap32 (IntKind.i64.wrap ((BitVec.ofInt 64 a ^^^ BitVec.ofInt 64 b).toNat : Int)) = IntKind.i32.wrap ((BitVec.ofInt 32 a ^^^ BitVec.ofInt 32 b).toNat : Int)
  have e64 : ∀ z : Int, IntKind.i64.wrap z = wrap64 z := IntWalk.i64_left
  have e32 : ∀ z : Int, IntKind.i32.wrap z = wrap32 z := fun z => by
    simp only [IntKind.wrap, IntKind.bits, IntKind.signed, Bool.true_and, decide_eq_true_eq, ge_iff_le]
    unfold wrap32
    split <;> omega
  rw [e64, e32, ← key]
  unfold wrap32 wrap64
  omega
theorem wrap32_in (z : Int) : -2147483648 ≤ wrap32 z ∧ wrap32 z ≤ 2147483647 := by unfold wrap32; omega
theorem intZ_neg (a b : Int) : intZ 116 a b = (wrap32 (wrap64 (-a)), 0) := by simp [intZ, isInt, longZ]
theorem intZ_xor (a b : Int) : intZ 130 a b = (bits .xor .i32 a b, 0) := by simp [intZ, isInt, longZ, xor_cut]
theorem intZ_add (a b : Int) : intZ 96 a b = (wrap32 (wrap64 (a + b)), 0) := by simp [intZ, isInt, longZ]
theorem intZ_sub (a b : Int) : intZ 100 a b = (wrap32 (wrap64 (a - b)), 0) := by simp [intZ, isInt, longZ]
theorem longZ_xor (a b : Int) : longZ 131 a b = (bits .xor .i64 a b, 0) := by simp [longZ]
theorem longZ_add (a b : Int) : longZ 97 a b = (wrap64 (a + b), 0) := by simp [longZ]
theorem longZ_sub (a b : Int) : longZ 101 a b = (wrap64 (a - b), 0) := by simp [longZ]
theorem intZ_quo0 (a : Int) : intZ 108 a 0 = (0, 6) := by simp [intZ, isInt, longZ, wrap32]
theorem intZ_rem0 (a : Int) : intZ 112 a 0 = (0, 6) := by simp [intZ, isInt, longZ, wrap32]
theorem intZ_quo {b : Int} (h : b ≠ 0) (a : Int) : intZ 108 a b = (wrap32 (wrap64 (a.tdiv b)), 0) := by simp [intZ, isInt, longZ, h]
theorem intZ_rem {b : Int} (h : b ≠ 0) (a : Int) : intZ 112 a b = (wrap32 (a.tmod b), 0) := by simp [intZ, isInt, longZ, h]
theorem longZ_quo0 (a : Int) : longZ 109 a 0 = (0, 6) := by simp [longZ]
theorem longZ_rem0 (a : Int) : longZ 113 a 0 = (0, 6) := by simp [longZ]
theorem longZ_quo {b : Int} (h : b ≠ 0) (a : Int) : longZ 109 a b = (wrap64 (a.tdiv b), 0) := by simp [longZ, h]
theorem longZ_rem {b : Int} (h : b ≠ 0) (a : Int) : longZ 113 a b = (a.tmod b, 0) := by simp [longZ, h]
theorem shiftZ_l (a b : Int) : shiftZ 121 a b = (wrap64 (a * 2 ^ sh6 b), 0) := by simp [shiftZ]
theorem shiftZ_r (a b : Int) : shiftZ 123 a b = (a / 2 ^ sh6 b, 0) := by simp [shiftZ]
theorem shiftZ_u (a b : Int) : shiftZ 125 a b = (wrap64 (IntKind.u64.wrap a / 2 ^ sh6 b), 0) := by simp [shiftZ]
theorem ifZ_0 (a b : Int) : ifZ 159 a b = (a == b, 0) ∧ ifZ 160 a b = (!(a == b), 0) ∧ ifZ 153 a b = (a == 0, 0) := by refine ⟨?_, ?_, ?_⟩ <;> simp [ifZ] <;> rfl
theorem ifZ_1 (a b : Int) : ifZ 161 a b = (decide (a < b), 0) ∧ ifZ 162 a b = (!decide (a < b), 0) ∧ ifZ 155 a b = (decide (a < 0), 0) := by
  refine ⟨by simp [ifZ], ?_, by simp [ifZ]⟩
  have : decide (b ≤ a) = !decide (a < b) := by by_cases h : a < b <;> simp [h] <;> omega
  simp [ifZ, this]
theorem ifZ_2 (a b : Int) : ifZ 163 a b = (decide (b < a), 0) ∧ ifZ 164 a b = (!decide (b < a), 0) ∧ ifZ 157 a b = (decide (0 < a), 0) := by
  refine ⟨by simp [ifZ], ?_, by simp [ifZ]⟩
  have : decide (a ≤ b) = !decide (b < a) := by by_cases h : b < a <;> simp [h] <;> omega
  simp [ifZ, this]
theorem cmp_eq (a b : Int) : (cmpZ a b == 0) = (a == b) := by
  unfold cmpZ
  by_cases h1 : a < b
  · simp [h1]; omega
  · by_cases h2 : b < a
    · simp [h1, h2]; omega
    · have : a = b := by omega
      simp [this]
theorem cmp_lt (a b : Int) : decide (cmpZ a b < 0) = decide (a < b) := by
  unfold cmpZ
  by_cases h1 : a < b
  · simp [h1]
  · by_cases h2 : b < a <;> simp [h1, h2]
theorem cmp_gt (a b : Int) : decide (0 < cmpZ a b) = decide (b < a) := by
  unfold cmpZ
  by_cases h1 : a < b
  · simp [h1]; omega
  · by_cases h2 : b < a <;> simp [h1, h2]
theorem cmp_neg (a b : Int) : wrap32 (-cmpZ b a) = cmpZ a b := by
  rw [cmp_turned a b]
  unfold cmpZ wrap32
  split <;> (try split) <;> omega
theorem neg_run32 (P : Program) (a : Int) (W : World) : (Op.unary .neg (.int .i32 a)).run P W = .ok (.int .i32 (wrap32 (-a))) W := by
  have h : Op.unary .neg (.int .i32 a) = Op.intArith .sub .i32 0 a := rfl
  have e32 : ∀ z : Int, IntKind.i32.wrap z = wrap32 z := fun z => by
    simp only [IntKind.wrap, IntKind.bits, IntKind.signed, Bool.true_and, decide_eq_true_eq, ge_iff_le]
    unfold wrap32
    split <;> omega
  rw [h]
  unfold Op.intArith
  simp [e32]
end Go.Proofs.Ytmgglicfhddmpaa
