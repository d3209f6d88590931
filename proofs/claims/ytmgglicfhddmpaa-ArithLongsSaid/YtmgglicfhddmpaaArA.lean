/- The program's Long, Shift, Int, If, Compare, Narrow. No condition but the ranges. -/
import Derived.Test.YtmgglicfhddmpaaArN
import Derived.Test.YtmgglicfhddmpaaArP
namespace Go.Proofs.Ytmgglicfhddmpaa
open Go.RowKit
set_option linter.unusedVariables false
set_option linter.unusedSimpArgs false

theorem w3264 (x : Int) : wrap32 (wrap64 x) = wrap32 x := by unfold wrap32 wrap64; omega

theorem and_cut (a b : Int) : wrap32 (bits .and .i64 a b) = bits .and .i32 a b := by
  have key : ((BitVec.ofInt 64 a &&& BitVec.ofInt 64 b).toNat : Int) % 4294967296 = ((BitVec.ofInt 32 a &&& BitVec.ofInt 32 b).toNat : Int) := by
    rw [BitVec.toNat_and, BitVec.toNat_and, BitVec.toNat_ofInt, BitVec.toNat_ofInt, BitVec.toNat_ofInt, BitVec.toNat_ofInt]
    have h := Nat.and_mod_two_pow (a := (a % ((2 ^ 64 : Nat) : Int)).toNat) (b := (b % ((2 ^ 64 : Nat) : Int)).toNat) (n := 32)
    have ea : (a % ((2 ^ 64 : Nat) : Int)).toNat % 2 ^ 32 = (a % ((2 ^ 32 : Nat) : Int)).toNat := by omega
    have eb : (b % ((2 ^ 64 : Nat) : Int)).toNat % 2 ^ 32 = (b % ((2 ^ 32 : Nat) : Int)).toNat := by omega
    rw [ea, eb] at h
    rw [← h]
    omega
  show wrap32 (IntKind.i64.wrap ((BitVec.ofInt 64 a &&& BitVec.ofInt 64 b).toNat : Int)) = IntKind.i32.wrap ((BitVec.ofInt 32 a &&& BitVec.ofInt 32 b).toNat : Int)
  rw [IntWalk.i64_left, i32_left, ← key]
  unfold wrap32 wrap64
  omega
theorem or_cut (a b : Int) : wrap32 (bits .or .i64 a b) = bits .or .i32 a b := by
  have key : ((BitVec.ofInt 64 a ||| BitVec.ofInt 64 b).toNat : Int) % 4294967296 = ((BitVec.ofInt 32 a ||| BitVec.ofInt 32 b).toNat : Int) := by
    rw [BitVec.toNat_or, BitVec.toNat_or, BitVec.toNat_ofInt, BitVec.toNat_ofInt, BitVec.toNat_ofInt, BitVec.toNat_ofInt]
    have h := Nat.or_mod_two_pow (a := (a % ((2 ^ 64 : Nat) : Int)).toNat) (b := (b % ((2 ^ 64 : Nat) : Int)).toNat) (n := 32)
    have ea : (a % ((2 ^ 64 : Nat) : Int)).toNat % 2 ^ 32 = (a % ((2 ^ 32 : Nat) : Int)).toNat := by omega
    have eb : (b % ((2 ^ 64 : Nat) : Int)).toNat % 2 ^ 32 = (b % ((2 ^ 32 : Nat) : Int)).toNat := by omega
    rw [ea, eb] at h
    rw [← h]
    omega
  show wrap32 (IntKind.i64.wrap ((BitVec.ofInt 64 a ||| BitVec.ofInt 64 b).toNat : Int)) = IntKind.i32.wrap ((BitVec.ofInt 32 a ||| BitVec.ofInt 32 b).toNat : Int)
  rw [IntWalk.i64_left, i32_left, ← key]
  unfold wrap32 wrap64
  omega
theorem tmod32 (a b : Int) (ha : -2147483648 ≤ a ∧ a ≤ 2147483647) (h : b ≠ 0) : wrap32 (a.tmod b) = a.tmod b := by
  obtain ⟨_, h1, h2, _, _⟩ := tparts a b h
  unfold wrap32
  rcases Int.le_total 0 a with q | q
  · have := h1 q; omega
  · have := h2 q; omega
theorem name_in (op : Int) : nameK op = ⟨#[]⟩ ∨ ∃ c ∈ codesV, c.op = op ∧ nameK op = c.name := by
  unfold nameK
  cases h : codeOf op with
  | none => exact .inl rfl
  | some c =>
    have h' : codesV.find? (fun c => c.op == op) = some c := h
    exact .inr ⟨c, List.mem_of_find?_eq_some h', by simpa using List.find?_some h', rfl⟩
/-- Of codes that are none of these, the words are none of those. -/
theorem work_no (f : ByteArray → ByteArray) (cs : List Int) (ns : List (List UInt8)) (h0 : ns.all (fun n => !((f ⟨#[]⟩).toList == n)) = true) (hc : codesV.all (fun c => cs.contains c.op || ns.all (fun n => !((f c.name).toList == n))) = true)
    (op : Int) (ho : ∀ c ∈ cs, op ≠ c) : ∀ n ∈ ns, ((f (nameK op)).toList == n) = false := by
  intro n hn
  rcases name_in op with e | ⟨c, hc', rfl, e⟩
  · rw [e]; simpa using List.all_eq_true.1 h0 n hn
  · rw [e]
    have h1 := List.all_eq_true.1 hc c hc'
    rcases Bool.or_eq_true _ _ ▸ h1 with h2 | h2
    · exact absurd rfl (ho c.op (by simpa using h2))
    · simpa using List.all_eq_true.1 h2 n hn
theorem noI_0 : ([[115, 104, 108], [115, 104, 114], [117, 115, 104, 114], [97, 100, 100], [110, 101, 103], [115, 117, 98], [109, 117, 108], [100, 105, 118], [114, 101, 109], [97, 110, 100], [111, 114], [120, 111, 114]] : List (List UInt8)).all (fun n => !((cutZ 105 (⟨#[]⟩ : ByteArray)).toList == n)) = true := by simp only [Lib.toList_data]; kernel_rfl
theorem noI_1 : codesV.all (fun c => ([96, 100, 104, 108, 112, 116, 120, 122, 124, 126, 128, 130] : List Int).contains c.op || ([[115, 104, 108], [115, 104, 114], [117, 115, 104, 114], [97, 100, 100], [110, 101, 103], [115, 117, 98], [109, 117, 108], [100, 105, 118], [114, 101, 109], [97, 110, 100], [111, 114], [120, 111, 114]] : List (List UInt8)).all (fun n => !((cutZ 105 c.name).toList == n))) = true := by simp only [Lib.toList_data]; kernel_rfl
theorem noL_0 : ([[97, 100, 100], [110, 101, 103], [115, 117, 98], [109, 117, 108], [100, 105, 118], [114, 101, 109], [97, 110, 100], [111, 114], [120, 111, 114]] : List (List UInt8)).all (fun n => !((cutZ 108 (⟨#[]⟩ : ByteArray)).toList == n)) = true := by simp only [Lib.toList_data]; kernel_rfl
theorem noL_1 : codesV.all (fun c => ([97, 101, 105, 109, 113, 117, 127, 129, 131] : List Int).contains c.op || ([[97, 100, 100], [110, 101, 103], [115, 117, 98], [109, 117, 108], [100, 105, 118], [114, 101, 109], [97, 110, 100], [111, 114], [120, 111, 114]] : List (List UInt8)).all (fun n => !((cutZ 108 c.name).toList == n))) = true := by simp only [Lib.toList_data]; kernel_rfl
theorem noS_0 : ([[115, 104, 108], [115, 104, 114], [117, 115, 104, 114]] : List (List UInt8)).all (fun n => !((cutZ 108 (⟨#[]⟩ : ByteArray)).toList == n)) = true := by simp only [Lib.toList_data]; kernel_rfl
theorem noS_1 : codesV.all (fun c => ([121, 123, 125] : List Int).contains c.op || ([[115, 104, 108], [115, 104, 114], [117, 115, 104, 114]] : List (List UInt8)).all (fun n => !((cutZ 108 c.name).toList == n))) = true := by simp only [Lib.toList_data]; kernel_rfl
theorem noF_0 : ([[105, 102, 101, 113], [105, 102, 95, 105, 99, 109, 112, 101, 113], [105, 102, 110, 101], [105, 102, 95, 105, 99, 109, 112, 110, 101], [105, 102, 108, 116], [105, 102, 95, 105, 99, 109, 112, 108, 116], [105, 102, 103, 101], [105, 102, 95, 105, 99, 109, 112, 103, 101], [105, 102, 103, 116], [105, 102, 95, 105, 99, 109, 112, 103, 116], [105, 102, 108, 101], [105, 102, 95, 105, 99, 109, 112, 108, 101]] : List (List UInt8)).all (fun n => !((id (⟨#[]⟩ : ByteArray)).toList == n)) = true := by simp only [Lib.toList_data]; kernel_rfl
theorem noF_1 : codesV.all (fun c => ([153, 159, 154, 160, 155, 161, 156, 162, 157, 163, 158, 164] : List Int).contains c.op || ([[105, 102, 101, 113], [105, 102, 95, 105, 99, 109, 112, 101, 113], [105, 102, 110, 101], [105, 102, 95, 105, 99, 109, 112, 110, 101], [105, 102, 108, 116], [105, 102, 95, 105, 99, 109, 112, 108, 116], [105, 102, 103, 101], [105, 102, 95, 105, 99, 109, 112, 103, 101], [105, 102, 103, 116], [105, 102, 95, 105, 99, 109, 112, 103, 116], [105, 102, 108, 101], [105, 102, 95, 105, 99, 109, 112, 108, 101]] : List (List UInt8)).all (fun n => !((id c.name).toList == n))) = true := by simp only [Lib.toList_data]; kernel_rfl
theorem at96 (a b : Int) : intZ 96 a b = (wrap32 (a + b), 0) := by simp [intZ, isInt, longZ, w3264, and_cut, or_cut, xor_cut]
theorem at100 (a b : Int) : intZ 100 a b = (wrap32 (a - b), 0) := by simp [intZ, isInt, longZ, w3264, and_cut, or_cut, xor_cut]
theorem at104 (a b : Int) : intZ 104 a b = (wrap32 (a * b), 0) := by simp [intZ, isInt, longZ, w3264, and_cut, or_cut, xor_cut]
theorem at1080 (a : Int) : intZ 108 a 0 = (0, 6) := by simp [intZ, isInt, longZ, wrap32]
theorem at108 {a b : Int} (ha : -2147483648 ≤ a ∧ a ≤ 2147483647) (h : b ≠ 0) : intZ 108 a b = (wrap32 (a.tdiv b), 0) := by simp [intZ, isInt, longZ, h, w3264, tmod32 a b ha h]
theorem at1120 (a : Int) : intZ 112 a 0 = (0, 6) := by simp [intZ, isInt, longZ, wrap32]
theorem at112 {a b : Int} (ha : -2147483648 ≤ a ∧ a ≤ 2147483647) (h : b ≠ 0) : intZ 112 a b = (a.tmod b, 0) := by simp [intZ, isInt, longZ, h, w3264, tmod32 a b ha h]
theorem at116 (a b : Int) : intZ 116 a b = (wrap32 (-a), 0) := by simp [intZ, isInt, longZ, w3264, and_cut, or_cut, xor_cut]
theorem at126 (a b : Int) : intZ 126 a b = (bits .and .i32 a b, 0) := by simp [intZ, isInt, longZ, w3264, and_cut, or_cut, xor_cut]
theorem at128 (a b : Int) : intZ 128 a b = (bits .or .i32 a b, 0) := by simp [intZ, isInt, longZ, w3264, and_cut, or_cut, xor_cut]
theorem at130 (a b : Int) : intZ 130 a b = (bits .xor .i32 a b, 0) := by simp [intZ, isInt, longZ, w3264, and_cut, or_cut, xor_cut]
set_option maxHeartbeats 4000000 in
set_option maxRecDepth 100000 in
theorem progInt (op a b : Int) (ha : -2147483648 ≤ a ∧ a ≤ 2147483647) (hb : -2147483648 ≤ b ∧ b ≤ 2147483647) (w : World) : Calls Try.prog 12 #[.int .i64 op, .int .i32 a, .int .i32 b] w fun e w' => e = .returned (.tuple #[.int .i32 (intZ op a b).1, .int .i64 (intZ op a b).2]) ∧ Only (fun _ => False) w w' := by
  have HA := Lib.hid ha
  clear ha hb
  by_cases h96 : op = 96
  · subst h96
    go_enter Try.func12, Try.ntmps12
    go_wp2_with (fail)
    refine (arWork 96 105 w).mono ?_
    rintro e w1 ⟨rfl, hww⟩
    have HO1 := Lib.hid hww
    clear hww
    rw [show cutZ 105 (nameK 96) = ⟨#[97, 100, 100]⟩ from by kernel_rfl]
    go_wp2_with (fail)
    refine (ari32_nos ⟨#[97, 100, 100]⟩ a b (by rw [Lib.toList_data]; rfl) (by rw [Lib.toList_data]; rfl) (by rw [Lib.toList_data]; rfl) _).mono ?_
    rintro e w2 ⟨rfl, rfl⟩
    go_wp2_with (fail)
    refine (ari32_add a b _).mono ?_
    rintro e w3 ⟨rfl, rfl⟩
    go_wp2
    go_ret2
    refine ⟨?_, HO1.out⟩
    rw [at96]
    rfl
  by_cases h100 : op = 100
  · subst h100
    go_enter Try.func12, Try.ntmps12
    go_wp2_with (fail)
    refine (arWork 100 105 w).mono ?_
    rintro e w1 ⟨rfl, hww⟩
    have HO1 := Lib.hid hww
    clear hww
    rw [show cutZ 105 (nameK 100) = ⟨#[115, 117, 98]⟩ from by kernel_rfl]
    go_wp2_with (fail)
    refine (ari32_nos ⟨#[115, 117, 98]⟩ a b (by rw [Lib.toList_data]; rfl) (by rw [Lib.toList_data]; rfl) (by rw [Lib.toList_data]; rfl) _).mono ?_
    rintro e w2 ⟨rfl, rfl⟩
    go_wp2_with (fail)
    refine (ari32_sub a b _).mono ?_
    rintro e w3 ⟨rfl, rfl⟩
    go_wp2
    go_ret2
    refine ⟨?_, HO1.out⟩
    rw [at100]
    rfl
  by_cases h104 : op = 104
  · subst h104
    go_enter Try.func12, Try.ntmps12
    go_wp2_with (fail)
    refine (arWork 104 105 w).mono ?_
    rintro e w1 ⟨rfl, hww⟩
    have HO1 := Lib.hid hww
    clear hww
    rw [show cutZ 105 (nameK 104) = ⟨#[109, 117, 108]⟩ from by kernel_rfl]
    go_wp2_with (fail)
    refine (ari32_nos ⟨#[109, 117, 108]⟩ a b (by rw [Lib.toList_data]; rfl) (by rw [Lib.toList_data]; rfl) (by rw [Lib.toList_data]; rfl) _).mono ?_
    rintro e w2 ⟨rfl, rfl⟩
    go_wp2_with (fail)
    refine (ari32_mul a b _).mono ?_
    rintro e w3 ⟨rfl, rfl⟩
    go_wp2
    go_ret2
    refine ⟨?_, HO1.out⟩
    rw [at104]
    rfl
  by_cases h108 : op = 108
  · subst h108
    by_cases hz : b = 0
    · subst hz
      go_enter Try.func12, Try.ntmps12
      go_wp2_with (fail)
      refine (arWork 108 105 w).mono ?_
      rintro e w1 ⟨rfl, hww⟩
      have HO1 := Lib.hid hww
      clear hww
      rw [show cutZ 105 (nameK 108) = ⟨#[100, 105, 118]⟩ from by kernel_rfl]
      go_wp2_with (fail)
      refine (ari32_nos ⟨#[100, 105, 118]⟩ a 0 (by rw [Lib.toList_data]; rfl) (by rw [Lib.toList_data]; rfl) (by rw [Lib.toList_data]; rfl) _).mono ?_
      rintro e w2 ⟨rfl, rfl⟩
      go_wp2_with (fail)
      refine (ari32_div0 a _).mono ?_
      rintro e w3 ⟨rfl, rfl⟩
      go_wp2
      go_ret2
      refine ⟨?_, HO1.out⟩
      rw [at1080]
      rfl
    have hz' := Lib.hid hz
    clear hz
    go_enter Try.func12, Try.ntmps12
    go_wp2_with (fail)
    refine (arWork 108 105 w).mono ?_
    rintro e w1 ⟨rfl, hww⟩
    have HO1 := Lib.hid hww
    clear hww
    rw [show cutZ 105 (nameK 108) = ⟨#[100, 105, 118]⟩ from by kernel_rfl]
    go_wp2_with (fail)
    refine (ari32_nos ⟨#[100, 105, 118]⟩ a b (by rw [Lib.toList_data]; rfl) (by rw [Lib.toList_data]; rfl) (by rw [Lib.toList_data]; rfl) _).mono ?_
    rintro e w2 ⟨rfl, rfl⟩
    go_wp2_with (fail)
    refine (ari32_div a b hz'.out _).mono ?_
    rintro e w3 ⟨rfl, rfl⟩
    go_wp2
    go_ret2
    refine ⟨?_, HO1.out⟩
    rw [at108 HA.out hz'.out]
    rfl
  by_cases h112 : op = 112
  · subst h112
    by_cases hz : b = 0
    · subst hz
      go_enter Try.func12, Try.ntmps12
      go_wp2_with (fail)
      refine (arWork 112 105 w).mono ?_
      rintro e w1 ⟨rfl, hww⟩
      have HO1 := Lib.hid hww
      clear hww
      rw [show cutZ 105 (nameK 112) = ⟨#[114, 101, 109]⟩ from by kernel_rfl]
      go_wp2_with (fail)
      refine (ari32_nos ⟨#[114, 101, 109]⟩ a 0 (by rw [Lib.toList_data]; rfl) (by rw [Lib.toList_data]; rfl) (by rw [Lib.toList_data]; rfl) _).mono ?_
      rintro e w2 ⟨rfl, rfl⟩
      go_wp2_with (fail)
      refine (ari32_rem0 a _).mono ?_
      rintro e w3 ⟨rfl, rfl⟩
      go_wp2
      go_ret2
      refine ⟨?_, HO1.out⟩
      rw [at1120]
      rfl
    have hz' := Lib.hid hz
    clear hz
    go_enter Try.func12, Try.ntmps12
    go_wp2_with (fail)
    refine (arWork 112 105 w).mono ?_
    rintro e w1 ⟨rfl, hww⟩
    have HO1 := Lib.hid hww
    clear hww
    rw [show cutZ 105 (nameK 112) = ⟨#[114, 101, 109]⟩ from by kernel_rfl]
    go_wp2_with (fail)
    refine (ari32_nos ⟨#[114, 101, 109]⟩ a b (by rw [Lib.toList_data]; rfl) (by rw [Lib.toList_data]; rfl) (by rw [Lib.toList_data]; rfl) _).mono ?_
    rintro e w2 ⟨rfl, rfl⟩
    go_wp2_with (fail)
    refine (ari32_rem a b hz'.out _).mono ?_
    rintro e w3 ⟨rfl, rfl⟩
    go_wp2
    go_ret2
    refine ⟨?_, HO1.out⟩
    rw [at112 HA.out hz'.out]
    rfl
  by_cases h116 : op = 116
  · subst h116
    go_enter Try.func12, Try.ntmps12
    go_wp2_with (fail)
    refine (arWork 116 105 w).mono ?_
    rintro e w1 ⟨rfl, hww⟩
    have HO1 := Lib.hid hww
    clear hww
    rw [show cutZ 105 (nameK 116) = ⟨#[110, 101, 103]⟩ from by kernel_rfl]
    go_wp2_with (fail)
    refine (ari32_nos ⟨#[110, 101, 103]⟩ a b (by rw [Lib.toList_data]; rfl) (by rw [Lib.toList_data]; rfl) (by rw [Lib.toList_data]; rfl) _).mono ?_
    rintro e w2 ⟨rfl, rfl⟩
    go_wp2_with (fail)
    refine (ari32_neg a b _).mono ?_
    rintro e w3 ⟨rfl, rfl⟩
    go_wp2
    go_ret2
    refine ⟨?_, HO1.out⟩
    rw [at116]
    rfl
  by_cases h120 : op = 120
  · subst h120
    go_enter Try.func12, Try.ntmps12
    go_wp2_with (fail)
    refine (arWork 120 105 w).mono ?_
    rintro e w1 ⟨rfl, hww⟩
    have HO1 := Lib.hid hww
    clear hww
    rw [show cutZ 105 (nameK 120) = ⟨#[115, 104, 108]⟩ from by kernel_rfl]
    go_wp2_with (fail)
    refine (ari32_shl a b _).mono ?_
    rintro e w2 ⟨rfl, rfl⟩
    go_wp2
    go_ret2
    refine ⟨?_, HO1.out⟩
    rw [show intZ 120 a b = (wrap32 (a * 2 ^ sh5 b), 0) from by simp [intZ]]
    rfl
  by_cases h122 : op = 122
  · subst h122
    go_enter Try.func12, Try.ntmps12
    go_wp2_with (fail)
    refine (arWork 122 105 w).mono ?_
    rintro e w1 ⟨rfl, hww⟩
    have HO1 := Lib.hid hww
    clear hww
    rw [show cutZ 105 (nameK 122) = ⟨#[115, 104, 114]⟩ from by kernel_rfl]
    go_wp2_with (fail)
    refine (ari32_shr a b _).mono ?_
    rintro e w2 ⟨rfl, rfl⟩
    go_wp2
    go_ret2
    refine ⟨?_, HO1.out⟩
    rw [show intZ 122 a b = (a / 2 ^ sh5 b, 0) from by simp [intZ]]
    rfl
  by_cases h124 : op = 124
  · subst h124
    go_enter Try.func12, Try.ntmps12
    go_wp2_with (fail)
    refine (arWork 124 105 w).mono ?_
    rintro e w1 ⟨rfl, hww⟩
    have HO1 := Lib.hid hww
    clear hww
    rw [show cutZ 105 (nameK 124) = ⟨#[117, 115, 104, 114]⟩ from by kernel_rfl]
    go_wp2_with (fail)
    refine (ari32_ushr a b _).mono ?_
    rintro e w2 ⟨rfl, rfl⟩
    go_wp2
    go_ret2
    refine ⟨?_, HO1.out⟩
    rw [show intZ 124 a b = (wrap32 (IntKind.u32.wrap a / 2 ^ sh5 b), 0) from by simp [intZ]]
    rfl
  by_cases h126 : op = 126
  · subst h126
    go_enter Try.func12, Try.ntmps12
    go_wp2_with (fail)
    refine (arWork 126 105 w).mono ?_
    rintro e w1 ⟨rfl, hww⟩
    have HO1 := Lib.hid hww
    clear hww
    rw [show cutZ 105 (nameK 126) = ⟨#[97, 110, 100]⟩ from by kernel_rfl]
    go_wp2_with (fail)
    refine (ari32_nos ⟨#[97, 110, 100]⟩ a b (by rw [Lib.toList_data]; rfl) (by rw [Lib.toList_data]; rfl) (by rw [Lib.toList_data]; rfl) _).mono ?_
    rintro e w2 ⟨rfl, rfl⟩
    go_wp2_with (fail)
    refine (ari32_and a b _).mono ?_
    rintro e w3 ⟨rfl, rfl⟩
    go_wp2
    go_ret2
    refine ⟨?_, HO1.out⟩
    rw [at126]
    rfl
  by_cases h128 : op = 128
  · subst h128
    go_enter Try.func12, Try.ntmps12
    go_wp2_with (fail)
    refine (arWork 128 105 w).mono ?_
    rintro e w1 ⟨rfl, hww⟩
    have HO1 := Lib.hid hww
    clear hww
    rw [show cutZ 105 (nameK 128) = ⟨#[111, 114]⟩ from by kernel_rfl]
    go_wp2_with (fail)
    refine (ari32_nos ⟨#[111, 114]⟩ a b (by rw [Lib.toList_data]; rfl) (by rw [Lib.toList_data]; rfl) (by rw [Lib.toList_data]; rfl) _).mono ?_
    rintro e w2 ⟨rfl, rfl⟩
    go_wp2_with (fail)
    refine (ari32_or a b _).mono ?_
    rintro e w3 ⟨rfl, rfl⟩
    go_wp2
    go_ret2
    refine ⟨?_, HO1.out⟩
    rw [at128]
    rfl
  by_cases h130 : op = 130
  · subst h130
    go_enter Try.func12, Try.ntmps12
    go_wp2_with (fail)
    refine (arWork 130 105 w).mono ?_
    rintro e w1 ⟨rfl, hww⟩
    have HO1 := Lib.hid hww
    clear hww
    rw [show cutZ 105 (nameK 130) = ⟨#[120, 111, 114]⟩ from by kernel_rfl]
    go_wp2_with (fail)
    refine (ari32_nos ⟨#[120, 111, 114]⟩ a b (by rw [Lib.toList_data]; rfl) (by rw [Lib.toList_data]; rfl) (by rw [Lib.toList_data]; rfl) _).mono ?_
    rintro e w2 ⟨rfl, rfl⟩
    go_wp2_with (fail)
    refine (ari32_xor a b _).mono ?_
    rintro e w3 ⟨rfl, rfl⟩
    go_wp2
    go_ret2
    refine ⟨?_, HO1.out⟩
    rw [at130]
    rfl
  have N := Lib.hid (work_no (cutZ 105) _ _ noI_0 noI_1 op (by simp only [List.mem_cons, List.not_mem_nil, or_false]; rintro c (rfl | rfl | rfl | rfl | rfl | rfl | rfl | rfl | rfl | rfl | rfl | rfl) <;> assumption))
  have ev : intZ op a b = (0, 60) := by simp [intZ, isInt, h96, h100, h104, h108, h112, h116, h120, h122, h124, h126, h128, h130]
  have EV := Lib.hid ev
  clear ev h96 h100 h104 h108 h112 h116 h120 h122 h124 h126 h128 h130
  go_enter Try.func12, Try.ntmps12
  go_wp2_with (fail)
  refine (arWork op 105 w).mono ?_
  rintro e w1 ⟨rfl, hww⟩
  have HO1 := Lib.hid hww
  clear hww
  generalize cutZ 105 (nameK op) = s at *
  go_wp2_with (fail)
  refine (ari32_nos s a b (N.out _ (by simp)) (N.out _ (by simp)) (N.out _ (by simp)) _).mono ?_
  rintro e w2 ⟨rfl, rfl⟩
  go_wp2_with (fail)
  refine (ari32_no s a b (N.out _ (by simp)) (N.out _ (by simp)) (N.out _ (by simp)) (N.out _ (by simp)) (N.out _ (by simp)) (N.out _ (by simp)) (N.out _ (by simp)) (N.out _ (by simp)) (N.out _ (by simp)) _).mono ?_
  rintro e w3 ⟨rfl, rfl⟩
  go_wp2
  go_ret2
  refine ⟨?_, HO1.out⟩
  rw [EV.out]
  rfl
set_option maxHeartbeats 4000000 in
set_option maxRecDepth 100000 in
theorem progLong (op a b : Int) (w : World) : Calls Try.prog 15 #[.int .i64 op, .int .i64 a, .int .i64 b] w fun e w' => e = .returned (.tuple #[.int .i64 (longZ op a b).1, .int .i64 (longZ op a b).2]) ∧ Only (fun _ => False) w w' := by
  by_cases h97 : op = 97
  · subst h97
    go_enter Try.func15, Try.ntmps15
    go_wp2_with (fail)
    refine (arWork 97 108 w).mono ?_
    rintro e w1 ⟨rfl, hww⟩
    have HO1 := Lib.hid hww
    clear hww
    rw [show cutZ 108 (nameK 97) = ⟨#[97, 100, 100]⟩ from by kernel_rfl]
    go_wp2_with (fail)
    refine (ari64_add a b _).mono ?_
    rintro e w3 ⟨rfl, rfl⟩
    go_wp2
    go_ret2
    refine ⟨?_, HO1.out⟩
    rw [show longZ 97 a b = (wrap64 (a + b), 0) from by simp [longZ]]
    rfl
  by_cases h101 : op = 101
  · subst h101
    go_enter Try.func15, Try.ntmps15
    go_wp2_with (fail)
    refine (arWork 101 108 w).mono ?_
    rintro e w1 ⟨rfl, hww⟩
    have HO1 := Lib.hid hww
    clear hww
    rw [show cutZ 108 (nameK 101) = ⟨#[115, 117, 98]⟩ from by kernel_rfl]
    go_wp2_with (fail)
    refine (ari64_sub a b _).mono ?_
    rintro e w3 ⟨rfl, rfl⟩
    go_wp2
    go_ret2
    refine ⟨?_, HO1.out⟩
    rw [show longZ 101 a b = (wrap64 (a - b), 0) from by simp [longZ]]
    rfl
  by_cases h105 : op = 105
  · subst h105
    go_enter Try.func15, Try.ntmps15
    go_wp2_with (fail)
    refine (arWork 105 108 w).mono ?_
    rintro e w1 ⟨rfl, hww⟩
    have HO1 := Lib.hid hww
    clear hww
    rw [show cutZ 108 (nameK 105) = ⟨#[109, 117, 108]⟩ from by kernel_rfl]
    go_wp2_with (fail)
    refine (ari64_mul a b _).mono ?_
    rintro e w3 ⟨rfl, rfl⟩
    go_wp2
    go_ret2
    refine ⟨?_, HO1.out⟩
    rw [show longZ 105 a b = (wrap64 (a * b), 0) from by simp [longZ]]
    rfl
  by_cases h109 : op = 109
  · subst h109
    by_cases hz : b = 0
    · subst hz
      go_enter Try.func15, Try.ntmps15
      go_wp2_with (fail)
      refine (arWork 109 108 w).mono ?_
      rintro e w1 ⟨rfl, hww⟩
      have HO1 := Lib.hid hww
      clear hww
      rw [show cutZ 108 (nameK 109) = ⟨#[100, 105, 118]⟩ from by kernel_rfl]
      go_wp2_with (fail)
      refine (ari64_div0 a _).mono ?_
      rintro e w3 ⟨rfl, rfl⟩
      go_wp2
      go_ret2
      refine ⟨?_, HO1.out⟩
      rw [show longZ 109 a 0 = (0, 6) from by simp [longZ]]
      rfl
    have hz' := Lib.hid hz
    clear hz
    go_enter Try.func15, Try.ntmps15
    go_wp2_with (fail)
    refine (arWork 109 108 w).mono ?_
    rintro e w1 ⟨rfl, hww⟩
    have HO1 := Lib.hid hww
    clear hww
    rw [show cutZ 108 (nameK 109) = ⟨#[100, 105, 118]⟩ from by kernel_rfl]
    go_wp2_with (fail)
    refine (ari64_div a b hz'.out _).mono ?_
    rintro e w3 ⟨rfl, rfl⟩
    go_wp2
    go_ret2
    refine ⟨?_, HO1.out⟩
    rw [show longZ 109 a b = (wrap64 (a.tdiv b), 0) from by simp [longZ, hz'.out]]
    rfl
  by_cases h113 : op = 113
  · subst h113
    by_cases hz : b = 0
    · subst hz
      go_enter Try.func15, Try.ntmps15
      go_wp2_with (fail)
      refine (arWork 113 108 w).mono ?_
      rintro e w1 ⟨rfl, hww⟩
      have HO1 := Lib.hid hww
      clear hww
      rw [show cutZ 108 (nameK 113) = ⟨#[114, 101, 109]⟩ from by kernel_rfl]
      go_wp2_with (fail)
      refine (ari64_rem0 a _).mono ?_
      rintro e w3 ⟨rfl, rfl⟩
      go_wp2
      go_ret2
      refine ⟨?_, HO1.out⟩
      rw [show longZ 113 a 0 = (0, 6) from by simp [longZ]]
      rfl
    have hz' := Lib.hid hz
    clear hz
    go_enter Try.func15, Try.ntmps15
    go_wp2_with (fail)
    refine (arWork 113 108 w).mono ?_
    rintro e w1 ⟨rfl, hww⟩
    have HO1 := Lib.hid hww
    clear hww
    rw [show cutZ 108 (nameK 113) = ⟨#[114, 101, 109]⟩ from by kernel_rfl]
    go_wp2_with (fail)
    refine (ari64_rem a b hz'.out _).mono ?_
    rintro e w3 ⟨rfl, rfl⟩
    go_wp2
    go_ret2
    refine ⟨?_, HO1.out⟩
    rw [show longZ 113 a b = (a.tmod b, 0) from by simp [longZ, hz'.out]]
    rfl
  by_cases h117 : op = 117
  · subst h117
    go_enter Try.func15, Try.ntmps15
    go_wp2_with (fail)
    refine (arWork 117 108 w).mono ?_
    rintro e w1 ⟨rfl, hww⟩
    have HO1 := Lib.hid hww
    clear hww
    rw [show cutZ 108 (nameK 117) = ⟨#[110, 101, 103]⟩ from by kernel_rfl]
    go_wp2_with (fail)
    refine (ari64_neg a b _).mono ?_
    rintro e w3 ⟨rfl, rfl⟩
    go_wp2
    go_ret2
    refine ⟨?_, HO1.out⟩
    rw [show longZ 117 a b = (wrap64 (-a), 0) from by simp [longZ]]
    rfl
  by_cases h127 : op = 127
  · subst h127
    go_enter Try.func15, Try.ntmps15
    go_wp2_with (fail)
    refine (arWork 127 108 w).mono ?_
    rintro e w1 ⟨rfl, hww⟩
    have HO1 := Lib.hid hww
    clear hww
    rw [show cutZ 108 (nameK 127) = ⟨#[97, 110, 100]⟩ from by kernel_rfl]
    go_wp2_with (fail)
    refine (ari64_and a b _).mono ?_
    rintro e w3 ⟨rfl, rfl⟩
    go_wp2
    go_ret2
    refine ⟨?_, HO1.out⟩
    rw [show longZ 127 a b = (bits .and .i64 a b, 0) from by simp [longZ]]
    rfl
  by_cases h129 : op = 129
  · subst h129
    go_enter Try.func15, Try.ntmps15
    go_wp2_with (fail)
    refine (arWork 129 108 w).mono ?_
    rintro e w1 ⟨rfl, hww⟩
    have HO1 := Lib.hid hww
    clear hww
    rw [show cutZ 108 (nameK 129) = ⟨#[111, 114]⟩ from by kernel_rfl]
    go_wp2_with (fail)
    refine (ari64_or a b _).mono ?_
    rintro e w3 ⟨rfl, rfl⟩
    go_wp2
    go_ret2
    refine ⟨?_, HO1.out⟩
    rw [show longZ 129 a b = (bits .or .i64 a b, 0) from by simp [longZ]]
    rfl
  by_cases h131 : op = 131
  · subst h131
    go_enter Try.func15, Try.ntmps15
    go_wp2_with (fail)
    refine (arWork 131 108 w).mono ?_
    rintro e w1 ⟨rfl, hww⟩
    have HO1 := Lib.hid hww
    clear hww
    rw [show cutZ 108 (nameK 131) = ⟨#[120, 111, 114]⟩ from by kernel_rfl]
    go_wp2_with (fail)
    refine (ari64_xor a b _).mono ?_
    rintro e w3 ⟨rfl, rfl⟩
    go_wp2
    go_ret2
    refine ⟨?_, HO1.out⟩
    rw [show longZ 131 a b = (bits .xor .i64 a b, 0) from by simp [longZ]]
    rfl
  have N := Lib.hid (work_no (cutZ 108) _ _ noL_0 noL_1 op (by simp only [List.mem_cons, List.not_mem_nil, or_false]; rintro c (rfl | rfl | rfl | rfl | rfl | rfl | rfl | rfl | rfl) <;> assumption))
  have ev : longZ op a b = (0, 60) := by simp [longZ, h97, h101, h105, h109, h113, h117, h127, h129, h131]
  have EV := Lib.hid ev
  clear ev h97 h101 h105 h109 h113 h117 h127 h129 h131
  go_enter Try.func15, Try.ntmps15
  go_wp2_with (fail)
  refine (arWork op 108 w).mono ?_
  rintro e w1 ⟨rfl, hww⟩
  have HO1 := Lib.hid hww
  clear hww
  generalize cutZ 108 (nameK op) = s at *
  go_wp2_with (fail)
  refine (ari64_no s a b (N.out _ (by simp)) (N.out _ (by simp)) (N.out _ (by simp)) (N.out _ (by simp)) (N.out _ (by simp)) (N.out _ (by simp)) (N.out _ (by simp)) (N.out _ (by simp)) (N.out _ (by simp)) _).mono ?_
  rintro e w3 ⟨rfl, rfl⟩
  go_wp2
  go_ret2
  refine ⟨?_, HO1.out⟩
  rw [EV.out]
  rfl
set_option maxHeartbeats 4000000 in
set_option maxRecDepth 100000 in
theorem progShift (op a b : Int) (w : World) : Calls Try.prog 17 #[.int .i64 op, .int .i64 a, .int .i32 b] w fun e w' => e = .returned (.tuple #[.int .i64 (shiftZ op a b).1, .int .i64 (shiftZ op a b).2]) ∧ Only (fun _ => False) w w' := by
  by_cases h121 : op = 121
  · subst h121
    go_enter Try.func17, Try.ntmps17
    go_wp2_with (fail)
    refine (arWork 121 108 w).mono ?_
    rintro e w1 ⟨rfl, hww⟩
    have HO1 := Lib.hid hww
    clear hww
    rw [show cutZ 108 (nameK 121) = ⟨#[115, 104, 108]⟩ from by kernel_rfl]
    go_wp2_with (fail)
    refine (ari64_shl a b _).mono ?_
    rintro e w2 ⟨rfl, rfl⟩
    go_wp2
    go_ret2
    refine ⟨?_, HO1.out⟩
    rw [show shiftZ 121 a b = (wrap64 (a * 2 ^ sh6 b), 0) from by simp [shiftZ]]
    rfl
  by_cases h123 : op = 123
  · subst h123
    go_enter Try.func17, Try.ntmps17
    go_wp2_with (fail)
    refine (arWork 123 108 w).mono ?_
    rintro e w1 ⟨rfl, hww⟩
    have HO1 := Lib.hid hww
    clear hww
    rw [show cutZ 108 (nameK 123) = ⟨#[115, 104, 114]⟩ from by kernel_rfl]
    go_wp2_with (fail)
    refine (ari64_shr a b _).mono ?_
    rintro e w2 ⟨rfl, rfl⟩
    go_wp2
    go_ret2
    refine ⟨?_, HO1.out⟩
    rw [show shiftZ 123 a b = (a / 2 ^ sh6 b, 0) from by simp [shiftZ]]
    rfl
  by_cases h125 : op = 125
  · subst h125
    go_enter Try.func17, Try.ntmps17
    go_wp2_with (fail)
    refine (arWork 125 108 w).mono ?_
    rintro e w1 ⟨rfl, hww⟩
    have HO1 := Lib.hid hww
    clear hww
    rw [show cutZ 108 (nameK 125) = ⟨#[117, 115, 104, 114]⟩ from by kernel_rfl]
    go_wp2_with (fail)
    refine (ari64_ushr a b _).mono ?_
    rintro e w2 ⟨rfl, rfl⟩
    go_wp2
    go_ret2
    refine ⟨?_, HO1.out⟩
    rw [show shiftZ 125 a b = (wrap64 (IntKind.u64.wrap a / 2 ^ sh6 b), 0) from by simp [shiftZ]]
    rfl
  have N := Lib.hid (work_no (cutZ 108) _ _ noS_0 noS_1 op (by simp only [List.mem_cons, List.not_mem_nil, or_false]; rintro c (rfl | rfl | rfl) <;> assumption))
  have ev : shiftZ op a b = (0, 60) := by simp [shiftZ, h121, h123, h125]
  have EV := Lib.hid ev
  clear ev h121 h123 h125
  go_enter Try.func17, Try.ntmps17
  go_wp2_with (fail)
  refine (arWork op 108 w).mono ?_
  rintro e w1 ⟨rfl, hww⟩
  have HO1 := Lib.hid hww
  clear hww
  generalize cutZ 108 (nameK op) = s at *
  go_wp2_with (fail)
  refine (ari64_nos s a b (N.out _ (by simp)) (N.out _ (by simp)) (N.out _ (by simp)) _).mono ?_
  rintro e w2 ⟨rfl, rfl⟩
  go_wp2
  go_ret2
  refine ⟨?_, HO1.out⟩
  rw [EV.out]
  rfl
set_option maxHeartbeats 4000000 in
set_option maxRecDepth 100000 in
theorem progIf (op a b : Int) (w : World) : Calls Try.prog 19 #[.int .i64 op, .int .i32 a, .int .i32 b] w fun e w' => e = .returned (.tuple #[.bool (ifZ op a b).1, .int .i64 (ifZ op a b).2]) ∧ Only (fun _ => False) w w' := by
  by_cases h153 : op = 153
  · subst h153
    go_enter Try.func19, Try.ntmps19
    go_wp2_with (fail)
    refine (progOpName 153 w).mono ?_
    rintro e w1 ⟨rfl, hww⟩
    have HO1 := Lib.hid hww
    clear hww
    rw [show nameK 153 = ⟨#[105, 102, 101, 113]⟩ from by kernel_rfl]
    go_wp2
    go_ret2
    refine ⟨?_, HO1.out⟩
    rw [show ifZ 153 a b = (a == 0, 0) from by simp [ifZ] <;> rfl]
    rfl
  by_cases h159 : op = 159
  · subst h159
    go_enter Try.func19, Try.ntmps19
    go_wp2_with (fail)
    refine (progOpName 159 w).mono ?_
    rintro e w1 ⟨rfl, hww⟩
    have HO1 := Lib.hid hww
    clear hww
    rw [show nameK 159 = ⟨#[105, 102, 95, 105, 99, 109, 112, 101, 113]⟩ from by kernel_rfl]
    go_wp2
    go_ret2
    refine ⟨?_, HO1.out⟩
    rw [show ifZ 159 a b = (a == b, 0) from by simp [ifZ] <;> rfl]
    rfl
  by_cases h154 : op = 154
  · subst h154
    go_enter Try.func19, Try.ntmps19
    go_wp2_with (fail)
    refine (progOpName 154 w).mono ?_
    rintro e w1 ⟨rfl, hww⟩
    have HO1 := Lib.hid hww
    clear hww
    rw [show nameK 154 = ⟨#[105, 102, 110, 101]⟩ from by kernel_rfl]
    go_wp2
    go_ret2
    refine ⟨?_, HO1.out⟩
    rw [show ifZ 154 a b = (a != 0, 0) from by simp [ifZ] <;> rfl]
    rfl
  by_cases h160 : op = 160
  · subst h160
    go_enter Try.func19, Try.ntmps19
    go_wp2_with (fail)
    refine (progOpName 160 w).mono ?_
    rintro e w1 ⟨rfl, hww⟩
    have HO1 := Lib.hid hww
    clear hww
    rw [show nameK 160 = ⟨#[105, 102, 95, 105, 99, 109, 112, 110, 101]⟩ from by kernel_rfl]
    go_wp2
    go_ret2
    refine ⟨?_, HO1.out⟩
    rw [show ifZ 160 a b = (a != b, 0) from by simp [ifZ] <;> rfl]
    rfl
  by_cases h155 : op = 155
  · subst h155
    go_enter Try.func19, Try.ntmps19
    go_wp2_with (fail)
    refine (progOpName 155 w).mono ?_
    rintro e w1 ⟨rfl, hww⟩
    have HO1 := Lib.hid hww
    clear hww
    rw [show nameK 155 = ⟨#[105, 102, 108, 116]⟩ from by kernel_rfl]
    go_wp2
    go_ret2
    refine ⟨?_, HO1.out⟩
    rw [show ifZ 155 a b = (decide (a < 0), 0) from by simp [ifZ] <;> rfl]
    rfl
  by_cases h161 : op = 161
  · subst h161
    go_enter Try.func19, Try.ntmps19
    go_wp2_with (fail)
    refine (progOpName 161 w).mono ?_
    rintro e w1 ⟨rfl, hww⟩
    have HO1 := Lib.hid hww
    clear hww
    rw [show nameK 161 = ⟨#[105, 102, 95, 105, 99, 109, 112, 108, 116]⟩ from by kernel_rfl]
    go_wp2
    go_ret2
    refine ⟨?_, HO1.out⟩
    rw [show ifZ 161 a b = (decide (a < b), 0) from by simp [ifZ] <;> rfl]
    rfl
  by_cases h156 : op = 156
  · subst h156
    go_enter Try.func19, Try.ntmps19
    go_wp2_with (fail)
    refine (progOpName 156 w).mono ?_
    rintro e w1 ⟨rfl, hww⟩
    have HO1 := Lib.hid hww
    clear hww
    rw [show nameK 156 = ⟨#[105, 102, 103, 101]⟩ from by kernel_rfl]
    go_wp2
    go_ret2
    refine ⟨?_, HO1.out⟩
    rw [show ifZ 156 a b = (decide (0 ≤ a), 0) from by simp [ifZ] <;> rfl]
    rfl
  by_cases h162 : op = 162
  · subst h162
    go_enter Try.func19, Try.ntmps19
    go_wp2_with (fail)
    refine (progOpName 162 w).mono ?_
    rintro e w1 ⟨rfl, hww⟩
    have HO1 := Lib.hid hww
    clear hww
    rw [show nameK 162 = ⟨#[105, 102, 95, 105, 99, 109, 112, 103, 101]⟩ from by kernel_rfl]
    go_wp2
    go_ret2
    refine ⟨?_, HO1.out⟩
    rw [show ifZ 162 a b = (decide (b ≤ a), 0) from by simp [ifZ] <;> rfl]
    rfl
  by_cases h157 : op = 157
  · subst h157
    go_enter Try.func19, Try.ntmps19
    go_wp2_with (fail)
    refine (progOpName 157 w).mono ?_
    rintro e w1 ⟨rfl, hww⟩
    have HO1 := Lib.hid hww
    clear hww
    rw [show nameK 157 = ⟨#[105, 102, 103, 116]⟩ from by kernel_rfl]
    go_wp2
    go_ret2
    refine ⟨?_, HO1.out⟩
    rw [show ifZ 157 a b = (decide (0 < a), 0) from by simp [ifZ] <;> rfl]
    rfl
  by_cases h163 : op = 163
  · subst h163
    go_enter Try.func19, Try.ntmps19
    go_wp2_with (fail)
    refine (progOpName 163 w).mono ?_
    rintro e w1 ⟨rfl, hww⟩
    have HO1 := Lib.hid hww
    clear hww
    rw [show nameK 163 = ⟨#[105, 102, 95, 105, 99, 109, 112, 103, 116]⟩ from by kernel_rfl]
    go_wp2
    go_ret2
    refine ⟨?_, HO1.out⟩
    rw [show ifZ 163 a b = (decide (b < a), 0) from by simp [ifZ] <;> rfl]
    rfl
  by_cases h158 : op = 158
  · subst h158
    go_enter Try.func19, Try.ntmps19
    go_wp2_with (fail)
    refine (progOpName 158 w).mono ?_
    rintro e w1 ⟨rfl, hww⟩
    have HO1 := Lib.hid hww
    clear hww
    rw [show nameK 158 = ⟨#[105, 102, 108, 101]⟩ from by kernel_rfl]
    go_wp2
    go_ret2
    refine ⟨?_, HO1.out⟩
    rw [show ifZ 158 a b = (decide (a ≤ 0), 0) from by simp [ifZ] <;> rfl]
    rfl
  by_cases h164 : op = 164
  · subst h164
    go_enter Try.func19, Try.ntmps19
    go_wp2_with (fail)
    refine (progOpName 164 w).mono ?_
    rintro e w1 ⟨rfl, hww⟩
    have HO1 := Lib.hid hww
    clear hww
    rw [show nameK 164 = ⟨#[105, 102, 95, 105, 99, 109, 112, 108, 101]⟩ from by kernel_rfl]
    go_wp2
    go_ret2
    refine ⟨?_, HO1.out⟩
    rw [show ifZ 164 a b = (decide (a ≤ b), 0) from by simp [ifZ] <;> rfl]
    rfl
  have N := Lib.hid (work_no id _ _ noF_0 noF_1 op (by simp only [List.mem_cons, List.not_mem_nil, or_false]; rintro c (rfl | rfl | rfl | rfl | rfl | rfl | rfl | rfl | rfl | rfl | rfl | rfl) <;> assumption))
  have ev : ifZ op a b = (false, 60) := by
    have hg : ¬(153 ≤ op ∧ op ≤ 158) := by omega
    simp only [ifZ, hg, h159, h160, h161, h162, h163, h164, if_false]
  have EV := Lib.hid ev
  clear ev h153 h159 h154 h160 h155 h161 h156 h162 h157 h163 h158 h164
  go_enter Try.func19, Try.ntmps19
  go_wp2_with (fail)
  refine (progOpName op w).mono ?_
  rintro e w1 ⟨rfl, hww⟩
  have HO1 := Lib.hid hww
  clear hww
  generalize nameK op = s at *
  have n0 : (s.toList == [105, 102, 101, 113]) = false := N.out _ (by simp)
  have n1 : (s.toList == [105, 102, 95, 105, 99, 109, 112, 101, 113]) = false := N.out _ (by simp)
  have n2 : (s.toList == [105, 102, 110, 101]) = false := N.out _ (by simp)
  have n3 : (s.toList == [105, 102, 95, 105, 99, 109, 112, 110, 101]) = false := N.out _ (by simp)
  have n4 : (s.toList == [105, 102, 108, 116]) = false := N.out _ (by simp)
  have n5 : (s.toList == [105, 102, 95, 105, 99, 109, 112, 108, 116]) = false := N.out _ (by simp)
  have n6 : (s.toList == [105, 102, 103, 101]) = false := N.out _ (by simp)
  have n7 : (s.toList == [105, 102, 95, 105, 99, 109, 112, 103, 101]) = false := N.out _ (by simp)
  have n8 : (s.toList == [105, 102, 103, 116]) = false := N.out _ (by simp)
  have n9 : (s.toList == [105, 102, 95, 105, 99, 109, 112, 103, 116]) = false := N.out _ (by simp)
  have n10 : (s.toList == [105, 102, 108, 101]) = false := N.out _ (by simp)
  have n11 : (s.toList == [105, 102, 95, 105, 99, 109, 112, 108, 101]) = false := N.out _ (by simp)
  go_wp2
  go_ret2
  refine ⟨?_, HO1.out⟩
  rw [EV.out]
  rfl
set_option maxRecDepth 100000 in
theorem arCmp (a b : Int) (w : World) : Calls Try.prog 31 #[.int .i64 a, .int .i64 b] w fun e w' => e = .returned (.int .i64 (cmpZ a b)) ∧ w = w' := by
  unfold cmpZ
  by_cases h1 : a < b
  · have e1 : decide (a < b) = true := by simpa using h1
    go_enter Try.func31, Try.ntmps31
    go_wp2
    go_ret
    exact ⟨by simp [h1], rfl⟩
  have e1 : decide (a < b) = false := by simpa using h1
  by_cases h2 : b < a
  · have e2 : decide (b < a) = true := by simpa using h2
    go_enter Try.func31, Try.ntmps31
    go_wp2
    go_ret
    exact ⟨by simp [h1, h2], rfl⟩
  have e2 : decide (b < a) = false := by simpa using h2
  go_enter Try.func31, Try.ntmps31
  go_wp2
  go_ret
  exact ⟨by simp [h1, h2], rfl⟩
theorem cmp_wrap (a b : Int) : wrap32 (cmpZ a b) = cmpZ a b := by unfold cmpZ wrap32; split <;> (try split) <;> omega
set_option maxRecDepth 100000 in
theorem progCompare (a b : Int) (w : World) : Calls Try.prog 21 #[.int .i64 a, .int .i64 b] w fun e w' => e = .returned (.int .i32 (cmpZ a b)) ∧ Only (fun _ => False) w w' := by
  have C := Lib.hid (fun W => arCmp a b W)
  have hw := Lib.hid (cmp_wrap a b)
  have HO := Lib.hid (Only.refl (fun _ => False) w)
  generalize cmpZ a b = x at *
  go_enter Try.func21, Try.ntmps21
  go_wp2_with (fail)
  refine (C.out _).mono ?_
  rintro e w1 ⟨rfl, rfl⟩
  go_wp2
  go_ret
  refine ⟨?_, HO.out⟩
  show Ending.returned (.int .i32 (wrap32 x)) = _
  rw [hw.out]
set_option maxRecDepth 100000 in
theorem progNarrow (a : Int) (w : World) : Calls Try.prog 23 #[.int .i64 a] w fun e w' => e = .returned (.int .i32 (wrap32 a)) ∧ Only (fun _ => False) w w' := by
  have HO := Lib.hid (Only.refl (fun _ => False) w)
  go_enter Try.func23, Try.ntmps23
  go_wp2
  go_ret
  exact ⟨rfl, HO.out⟩
end Go.Proofs.Ytmgglicfhddmpaa
