/- Whole numbers of 32 and 64 bits: what each instruction makes of two, in plain words. No condition. -/
import Derived.Test.YtmgglicfhddmpaaRows
import Derived.ProofKit
import Derived.Tactics2
import Derived.IntWalk
import Derived.Laws.Closers25b
namespace Go.Proofs.Ytmgglicfhddmpaa
open Go.RowKit
set_option linter.unusedVariables false
set_option linter.unusedSimpArgs false

theorem and_i32_63 (b : Int) : bits .and .i32 b 63 = b % 64 := by
  have e : (BitVec.ofInt 32 63) = BitVec.ofNat 32 (2 ^ 6 - 1) := rfl
  have h : ((BitVec.ofInt 32 b &&& BitVec.ofInt 32 63).toNat : Int) = b % 64 := by
    rw [e, BitVec.toNat_and, BitVec.toNat_ofNat, Nat.mod_eq_of_lt (by decide), Nat.and_two_pow_sub_one_eq_mod, BitVec.toNat_ofInt]
    omega
  show IntKind.i32.wrap ((BitVec.ofInt 32 b &&& BitVec.ofInt 32 63).toNat : Int) = _
  rw [h]
  simp only [IntKind.wrap, IntKind.bits, IntKind.signed, Bool.true_and, Bool.false_and, decide_eq_true_eq, Bool.false_eq_true, if_false, ge_iff_le]
  first | omega | (split <;> omega)
theorem and_i32_31 (b : Int) : bits .and .i32 b 31 = b % 32 := by
  have e : (BitVec.ofInt 32 31) = BitVec.ofNat 32 (2 ^ 5 - 1) := rfl
  have h : ((BitVec.ofInt 32 b &&& BitVec.ofInt 32 31).toNat : Int) = b % 32 := by
    rw [e, BitVec.toNat_and, BitVec.toNat_ofNat, Nat.mod_eq_of_lt (by decide), Nat.and_two_pow_sub_one_eq_mod, BitVec.toNat_ofInt]
    omega
  show IntKind.i32.wrap ((BitVec.ofInt 32 b &&& BitVec.ofInt 32 31).toNat : Int) = _
  rw [h]
  simp only [IntKind.wrap, IntKind.bits, IntKind.signed, Bool.true_and, Bool.false_and, decide_eq_true_eq, Bool.false_eq_true, if_false, ge_iff_le]
  first | omega | (split <;> omega)
theorem and_i64_63 (b : Int) : bits .and .i64 b 63 = b % 64 := by
  have e : (BitVec.ofInt 64 63) = BitVec.ofNat 64 (2 ^ 6 - 1) := rfl
  have h : ((BitVec.ofInt 64 b &&& BitVec.ofInt 64 63).toNat : Int) = b % 64 := by
    rw [e, BitVec.toNat_and, BitVec.toNat_ofNat, Nat.mod_eq_of_lt (by decide), Nat.and_two_pow_sub_one_eq_mod, BitVec.toNat_ofInt]
    omega
  show IntKind.i64.wrap ((BitVec.ofInt 64 b &&& BitVec.ofInt 64 63).toNat : Int) = _
  rw [h]
  simp only [IntKind.wrap, IntKind.bits, IntKind.signed, Bool.true_and, Bool.false_and, decide_eq_true_eq, Bool.false_eq_true, if_false, ge_iff_le]
  first | omega | (split <;> omega)
theorem and_i64_31 (b : Int) : bits .and .i64 b 31 = b % 32 := by
  have e : (BitVec.ofInt 64 31) = BitVec.ofNat 64 (2 ^ 5 - 1) := rfl
  have h : ((BitVec.ofInt 64 b &&& BitVec.ofInt 64 31).toNat : Int) = b % 32 := by
    rw [e, BitVec.toNat_and, BitVec.toNat_ofNat, Nat.mod_eq_of_lt (by decide), Nat.and_two_pow_sub_one_eq_mod, BitVec.toNat_ofInt]
    omega
  show IntKind.i64.wrap ((BitVec.ofInt 64 b &&& BitVec.ofInt 64 31).toNat : Int) = _
  rw [h]
  simp only [IntKind.wrap, IntKind.bits, IntKind.signed, Bool.true_and, Bool.false_and, decide_eq_true_eq, Bool.false_eq_true, if_false, ge_iff_le]
  first | omega | (split <;> omega)
theorem and_u32_63 (b : Int) : bits .and .u32 b 63 = b % 64 := by
  have e : (BitVec.ofInt 32 63) = BitVec.ofNat 32 (2 ^ 6 - 1) := rfl
  have h : ((BitVec.ofInt 32 b &&& BitVec.ofInt 32 63).toNat : Int) = b % 64 := by
    rw [e, BitVec.toNat_and, BitVec.toNat_ofNat, Nat.mod_eq_of_lt (by decide), Nat.and_two_pow_sub_one_eq_mod, BitVec.toNat_ofInt]
    omega
  show IntKind.u32.wrap ((BitVec.ofInt 32 b &&& BitVec.ofInt 32 63).toNat : Int) = _
  rw [h]
  simp only [IntKind.wrap, IntKind.bits, IntKind.signed, Bool.true_and, Bool.false_and, decide_eq_true_eq, Bool.false_eq_true, if_false, ge_iff_le]
  first | omega | (split <;> omega)
theorem and_u32_31 (b : Int) : bits .and .u32 b 31 = b % 32 := by
  have e : (BitVec.ofInt 32 31) = BitVec.ofNat 32 (2 ^ 5 - 1) := rfl
  have h : ((BitVec.ofInt 32 b &&& BitVec.ofInt 32 31).toNat : Int) = b % 32 := by
    rw [e, BitVec.toNat_and, BitVec.toNat_ofNat, Nat.mod_eq_of_lt (by decide), Nat.and_two_pow_sub_one_eq_mod, BitVec.toNat_ofInt]
    omega
  show IntKind.u32.wrap ((BitVec.ofInt 32 b &&& BitVec.ofInt 32 31).toNat : Int) = _
  rw [h]
  simp only [IntKind.wrap, IntKind.bits, IntKind.signed, Bool.true_and, Bool.false_and, decide_eq_true_eq, Bool.false_eq_true, if_false, ge_iff_le]
  first | omega | (split <;> omega)
theorem and_u64_63 (b : Int) : bits .and .u64 b 63 = b % 64 := by
  have e : (BitVec.ofInt 64 63) = BitVec.ofNat 64 (2 ^ 6 - 1) := rfl
  have h : ((BitVec.ofInt 64 b &&& BitVec.ofInt 64 63).toNat : Int) = b % 64 := by
    rw [e, BitVec.toNat_and, BitVec.toNat_ofNat, Nat.mod_eq_of_lt (by decide), Nat.and_two_pow_sub_one_eq_mod, BitVec.toNat_ofInt]
    omega
  show IntKind.u64.wrap ((BitVec.ofInt 64 b &&& BitVec.ofInt 64 63).toNat : Int) = _
  rw [h]
  simp only [IntKind.wrap, IntKind.bits, IntKind.signed, Bool.true_and, Bool.false_and, decide_eq_true_eq, Bool.false_eq_true, if_false, ge_iff_le]
  first | omega | (split <;> omega)
theorem and_u64_31 (b : Int) : bits .and .u64 b 31 = b % 32 := by
  have e : (BitVec.ofInt 64 31) = BitVec.ofNat 64 (2 ^ 5 - 1) := rfl
  have h : ((BitVec.ofInt 64 b &&& BitVec.ofInt 64 31).toNat : Int) = b % 32 := by
    rw [e, BitVec.toNat_and, BitVec.toNat_ofNat, Nat.mod_eq_of_lt (by decide), Nat.and_two_pow_sub_one_eq_mod, BitVec.toNat_ofInt]
    omega
  show IntKind.u64.wrap ((BitVec.ofInt 64 b &&& BitVec.ofInt 64 31).toNat : Int) = _
  rw [h]
  simp only [IntKind.wrap, IntKind.bits, IntKind.signed, Bool.true_and, Bool.false_and, decide_eq_true_eq, Bool.false_eq_true, if_false, ge_iff_le]
  first | omega | (split <;> omega)
theorem wrap_low (b : Int) : IntKind.u64.wrap (b % 64) = b % 64 := by
  simp only [IntKind.wrap, IntKind.bits, IntKind.signed, Bool.false_and, Bool.false_eq_true, if_false]
  omega
theorem wrap_low5 (b : Int) : IntKind.u64.wrap (b % 32) = b % 32 := by
  simp only [IntKind.wrap, IntKind.bits, IntKind.signed, Bool.false_and, Bool.false_eq_true, if_false]
  omega
theorem neg_run (P : Program) (a : Int) (W : World) : (Op.unary .neg (.int .i64 a)).run P W = .ok (.int .i64 (wrap64 (-a))) W := by
  have h : Op.unary .neg (.int .i64 a) = Op.intArith .sub .i64 0 a := rfl
  rw [h]
  unfold Op.intArith
  simp [IntWalk.i64_left]
/-- By how many bits a shift goes. -/
def sh6 (b : Int) : Nat := (b % 64).toNat
def sh5 (b : Int) : Nat := (b % 32).toNat
theorem sh6_eq (b : Int) : ((sh6 b : Nat) : Int) = b % 64 := by unfold sh6; omega
theorem sh5_eq (b : Int) : ((sh5 b : Nat) : Int) = b % 32 := by unfold sh5; omega
def longZ (op a b : Int) : Int × Int :=
  if op = 97 then (wrap64 (a + b), 0) else if op = 101 then (wrap64 (a - b), 0) else if op = 105 then (wrap64 (a * b), 0)
  else if op = 117 then (wrap64 (-a), 0) else if op = 127 then (bits .and .i64 a b, 0) else if op = 129 then (bits .or .i64 a b, 0) else if op = 131 then (bits .xor .i64 a b, 0)
  else if op = 109 then (if b = 0 then (0, 6) else (wrap64 (a.tdiv b), 0)) else if op = 113 then (if b = 0 then (0, 6) else (a.tmod b, 0)) else (0, 60)
def shiftZ (op a b : Int) : Int × Int :=
  if op = 121 then (wrap64 (a * 2 ^ sh6 b), 0) else if op = 123 then (a / 2 ^ sh6 b, 0) else if op = 125 then (wrap64 (IntKind.u64.wrap a / 2 ^ sh6 b), 0) else (0, 60)
def isInt (op : Int) : Bool := op == 96 || op == 100 || op == 104 || op == 108 || op == 112 || op == 116 || op == 126 || op == 128 || op == 130
def intZ (op a b : Int) : Int × Int :=
  if op = 120 then (wrap32 (a * 2 ^ sh5 b), 0) else if op = 122 then (a / 2 ^ sh5 b, 0) else if op = 124 then (wrap32 (IntKind.u32.wrap a / 2 ^ sh5 b), 0)
  else if isInt op then (wrap32 (longZ (op + 1) a b).1, (longZ (op + 1) a b).2) else (0, 60)
def ifZ (op a b : Int) : Bool × Int :=
  let o := if 153 ≤ op ∧ op ≤ 158 then op + 6 else op
  let c := if 153 ≤ op ∧ op ≤ 158 then 0 else b
  if o = 159 then (a == c, 0) else if o = 160 then (a != c, 0) else if o = 161 then (decide (a < c), 0) else if o = 162 then (decide (c ≤ a), 0)
  else if o = 163 then (decide (c < a), 0) else if o = 164 then (decide (a ≤ c), 0) else (false, 60)
def cmpZ (a b : Int) : Int := if a < b then -1 else if b < a then 1 else 0
end Go.Proofs.Ytmgglicfhddmpaa
