/- PROVED: the law ArithShiftBack: what was shifted to the left and back are the bits that stayed; shifts go by their lowest bits alone. For every input. No condition. -/
import Derived.Test.YtmgglicfhddmpaaArAw
import Derived.Test.YtmgglicfhddmpaaArQ
import Derived.ProofKit
import Derived.ShutString
import Derived.ChangeOld
import Derived.Below
import Derived.PinnedBridge
namespace Go.Proofs.Ytmgglicfhddmpaa.arithShiftBack
open Go.ChangeShapes Go.WideShapes Go.ChangeAt Go.RowKit
set_option linter.unusedVariables false
set_option linter.unusedSimpArgs false

set_option maxHeartbeats 4000000 in
set_option maxRecDepth 100000 in
theorem walk (a0 a1 : Int) (w : World) (w0 : (Lit.int .i64 a0).wf = true) (w1 : (Lit.int .i32 a1).wf = true) :
    Calls Try.prog 10 #[.int .i64 a0, .int .i32 a1] w fun e w' => e = .returned (.bool true) ∧ Below w.heap.size w w' := by
  have b0 := bounds_i64 w0
  have b1 := bounds_i32 w1
  clear w0 w1
  obtain ⟨X, hX⟩ : ∃ x, x = wrap64 (a0 * 2 ^ sh6 a1) := ⟨_, rfl⟩
  obtain ⟨Y, hY⟩ : ∃ x, x = wrap64 (IntKind.u64.wrap X / 2 ^ sh6 a1) := ⟨_, rfl⟩
  obtain ⟨Z, hZ⟩ : ∃ x, x = a0 / 2 ^ sh6 a1 := ⟨_, rfl⟩
  have fM : IntKind.u64.wrap Y = bits .and .u64 (IntKind.u64.wrap a0) (18446744073709551615 / 2 ^ (a1 % 64).toNat) := by rw [hY, hX]; exact shift_back a0 a1
  have fZ : decide (Z < 0) = decide (a0 < 0) := by rw [hZ]; simp only [shr_sign]
  have ek : bits .and .u64 (IntKind.u64.wrap a1) 63 = a1 % 64 := by rw [and_u64_63, u64_eq]; omega
  have ea : 0 ≤ a1 % 64 := by omega
  have eb : a1 % 64 < 64 := by omega
  have c1 := fun W => progShift 121 a0 a1 W
  simp only [shiftZ_l, ← hX] at c1
  have C1 := Lib.hid c1
  clear c1
  have c2 := fun W => progShift 125 X a1 W
  simp only [shiftZ_u, ← hY] at c2
  have C2 := Lib.hid c2
  clear c2
  have c3 := fun W => progShift 121 a0 (bits .xor .i32 a1 64) W
  simp only [shiftZ_l, xor_low, ← hX] at c3
  have C3 := Lib.hid c3
  clear c3
  have c4 := fun W => progShift 123 a0 a1 W
  simp only [shiftZ_r, ← hZ] at c4
  have C4 := Lib.hid c4
  clear c4
  have e3 : ∀ W, (Op.shift .shr .u64 18446744073709551615 .u64 (a1 % 64)).run Try.prog W = .ok (.int .u64 (18446744073709551615 / 2 ^ (a1 % 64).toNat)) W := fun W => by rw [shift_shr _ _ _ _ ea (by show a1 % 64 ≤ 64; omega)]; rfl
  clear hX hY hZ b0 b1
  go_enter Try.func10, Try.ntmps10
  go_wp2_with (fail)
  refine (C1.out _).mono ?_
  rintro e w1' ⟨rfl, ho⟩
  have HO1 := Lib.hid (ho)
  clear ho
  go_wp2_with (fail)
  refine (C2.out _).mono ?_
  rintro e w2' ⟨rfl, ho⟩
  have HO2 := Lib.hid (HO1.out.trans ho (fun _ h _ => h))
  clear ho
  go_wp2_with (fail)
  refine (C3.out _).mono ?_
  rintro e w3' ⟨rfl, ho⟩
  have HO3 := Lib.hid (HO2.out.trans ho (fun _ h _ => h))
  clear ho
  go_wp2_with (fail)
  refine (C4.out _).mono ?_
  rintro e w4' ⟨rfl, ho⟩
  have HO4 := Lib.hid (HO3.out.trans ho (fun _ h _ => h))
  clear ho
  go_wp2_with (fail)
  refine (awake13 _).mono ?_
  rintro e w5' ⟨rfl, ho⟩
  have HO5 := Lib.hid (HO4.out.trans ho (fun _ h _ => h))
  clear ho
  go_wp2
  go_ret
  exact ⟨rfl, HO5.out.none⟩

theorem own : ownKnob Try.prog.godebug = none := by kernel_rfl
theorem laidOut : laidOutB Try.prog = true := by kernel_rfl

set_option maxRecDepth 100000 in
theorem lifted (os : Os) (started : os.Started) (H : Type) (enc : TypeId × Value → H) :
    ReturnsInHanded {} Try.checked os 10 .any (Rows.arithShiftBackSpec.pre6 enc Try.prog Try.f10 Rows.arithShiftBackRow.domain false) (Rows.arithShiftBackSpec.post enc Try.prog Try.f10 false true false false) := by
  refine returnsInHanded_of_change (C := Try.checked) own started (by kernel_rfl) Try.func10
    (ChangeSpec.witness6 (enc := enc) (C := Try.checked) false ⟨#[], #[.int .i64 0, .int .i32 0], []⟩ 8 (by kernel_rfl) (by kernel_rfl) (by kernel_rfl) (by kernel_rfl)) ?_
  intro W base args ds gs before hval0 hW hcnd _
  have hval : ∀ (j : Nat) t v, Try.f10.params[j]? = some t → args[j]? = some v → Value.okWide Try.prog W .any base t v := hval0
  have hW' := hW
  obtain ⟨p, q, hA0, hV, rfl, hfz, hnd⟩ := hW
  have hA : DataW.TrodAll enc Try.prog W 0 (fun _ => true) true Try.f10.params.toList args.toList ds p := hA0
  rw [Try.params10] at hA hval
  obtain ⟨v0, vs0, d0, ds0, p0, q0, hargs, rfl, rfl, h0, r0⟩ := trodAll_cons hA
  obtain ⟨v1, vs1, d1, ds1, p1, q1, rfl, rfl, rfl, h1, r1⟩ := trodAll_cons r0
  obtain ⟨rfl, rfl, rfl⟩ := trodAll_nil r1
  obtain rfl : args = #[v0, v1] := by cases args; simp_all
  obtain ⟨rfl, rfl⟩ := trodVars_none hV
  obtain ⟨a0, rfl, rfl, rfl, w0⟩ := open_int Try.underlying2 (hval 0 2 v0 rfl rfl) h0
  obtain ⟨a1, rfl, rfl, rfl, w1⟩ := open_int Try.underlying21 (hval 1 21 v1 rfl rfl) h1
  clear hA0 hval0
  refine (walk a0 a1 W w0 w1).mono fun e W' ⟨he, bel⟩ => ?_
  subst he
  exact ⟨_, rfl, _, _, _, [], _, [], hW', trodAll_mk1 (shut_bool Try.underlying4 _), (trodAll_cons_mk (shut_int Try.underlying2 w0) (trodAll_cons_mk (shut_int Try.underlying21 w1) trodAll_mk0)), rfl, bel.frame _, fun h => by cases h⟩

theorem over : Rows.arithShiftBackRow.holds Try.pinned (OpenSpec.ofChange Rows.arithShiftBackSpec) :=
  OpenClaim.holds_of_wide 10 Try.f10 rfl rfl rfl rfl rfl rfl rfl ⟨rfl, rfl, rfl, rfl, rfl⟩ rfl rfl rfl rfl rfl (by kernel_rfl) Try.func10 (by kernel_rfl)
    (of_decide_eq_true (by kernel_rfl)) (by unfold Func.isWrapper; first | (rw [if_pos (by decide +kernel)]; kernel_rfl) | (rw [if_neg (by decide +kernel)]; exact ⟨rfl, rfl⟩))
    (fun os started H enc _ => lifted os started H enc)

theorem proved : Rows.ArithShiftBackSaid := over
#print axioms proved
end Go.Proofs.Ytmgglicfhddmpaa.arithShiftBack
