/- PROVED: the law ArithOpposites: of two branches that are opposites just one goes; numbers are as they compare. For every input. No condition. -/
import Derived.Test.YtmgglicfhddmpaaArAw
import Derived.Test.YtmgglicfhddmpaaArQ
import Derived.ProofKit
import Derived.ShutString
import Derived.ChangeOld
import Derived.Below
import Derived.PinnedBridge
namespace Go.Proofs.Ytmgglicfhddmpaa.arithOpposites
open Go.ChangeShapes Go.WideShapes Go.ChangeAt Go.RowKit
set_option linter.unusedVariables false
set_option linter.unusedSimpArgs false

set_option maxHeartbeats 4000000 in
set_option maxRecDepth 100000 in
theorem walk (a0 a1 a2 : Int) (w : World) (w0 : (Lit.int .i32 a0).wf = true) (w1 : (Lit.int .i32 a1).wf = true) (w2 : (Lit.int .u8 a2).wf = true) :
    Calls Try.prog 9 #[.int .i32 a0, .int .i32 a1, .int .u8 a2] w fun e w' => e = .returned (.bool true) ∧ Below w.heap.size w w' := by
  have b0 := bounds_i32 w0
  have b1 := bounds_i32 w1
  have b2 := bounds_u8 w2
  clear w0 w1 w2
  have wa : wrap64 a0 = a0 := IntWalk.wrap64_in a0 (by omega)
  have wb : wrap64 a1 = a1 := IntWalk.wrap64_in a1 (by omega)
  have C5 := Lib.hid (fun W => progCompare a0 a1 W)
  have C6 := Lib.hid (fun W => progCompare a1 a0 W)
  have en : ∀ W, (Op.unary .neg (.int .i32 (cmpZ a1 a0))).run Try.prog W = .ok (.int .i32 (cmpZ a0 a1)) W := fun W => by rw [neg_run32, cmp_neg]
  have en2 : wrap32 (-cmpZ a1 a0) = cmpZ a0 a1 := cmp_neg a0 a1
  have q0 := cmp_eq a0 a1
  have q1 := cmp_lt a0 a1
  have q2 := cmp_gt a0 a1
  have hk : a2.tmod 3 = 0 ∨ a2.tmod 3 = 1 ∨ a2.tmod 3 = 2 := by rw [Int.tmod_eq_emod_of_nonneg (by omega)]; omega
  have hk2 : a2.tmod 3 = a2 % 3 := Int.tmod_eq_emod_of_nonneg (by omega)
  generalize cmpZ a0 a1 = c at *
  generalize cmpZ a1 a0 = c' at *
  rcases hk with hk | hk | hk
  · rw [hk] at hk2
    have hk3 := hk2.symm
    clear hk2
    obtain ⟨i1, i2, i3⟩ := ifZ_0 a0 a1
    have i4 := (ifZ_0 a0 0).1
    have c1 := fun W => progIf 159 a0 a1 W
    simp only [i1] at c1
    have c2 := fun W => progIf 160 a0 a1 W
    simp only [i2] at c2
    have c3 := fun W => progIf 153 a0 a1 W
    simp only [i3] at c3
    have c4 := fun W => progIf 159 a0 0 W
    simp only [i4] at c4
    generalize hp : (a0 == a1) = p at *
    generalize hz : (a0 == 0) = z at *
    have C1 := Lib.hid c1
    have C2 := Lib.hid c2
    have C3 := Lib.hid c3
    have C4 := Lib.hid c4
    clear c1 c2 c3 c4 i1 i2 i3 i4 b0 b1 b2 hp hz
    cases p
    · go_enter Try.func9, Try.ntmps9
      go_wp2_with (fail)
      refine (C1.out _).mono ?_
      rintro e w1' ⟨rfl, ho⟩
      have HO1 := Lib.hid (ho)
      clear ho
      go_wp2_with (fail)
      refine (C2.out _).mono ?_
      rintro e w2' ⟨rfl, ho⟩
      have HO2 := Lib.hid (HO1.out.trans ho (fun _ h _ => h))
      clear ho
      go_wp2_with (fail)
      refine (C3.out _).mono ?_
      rintro e w3' ⟨rfl, ho⟩
      have HO3 := Lib.hid (HO2.out.trans ho (fun _ h _ => h))
      clear ho
      go_wp2_with (fail)
      refine (C4.out _).mono ?_
      rintro e w4' ⟨rfl, ho⟩
      have HO4 := Lib.hid (HO3.out.trans ho (fun _ h _ => h))
      clear ho
      go_wp2_with (fail)
      refine (C5.out _).mono ?_
      rintro e w5' ⟨rfl, ho⟩
      have HO5 := Lib.hid (HO4.out.trans ho (fun _ h _ => h))
      clear ho
      go_wp2_with (fail)
      refine (C6.out _).mono ?_
      rintro e w6' ⟨rfl, ho⟩
      have HO6 := Lib.hid (HO5.out.trans ho (fun _ h _ => h))
      clear ho
      go_wp2_with (fail)
      refine (awake13 _).mono ?_
      rintro e w7' ⟨rfl, ho⟩
      have HO7 := Lib.hid (HO6.out.trans ho (fun _ h _ => h))
      clear ho
      go_wp2
      go_ret
      exact ⟨rfl, HO7.out.none⟩
    · go_enter Try.func9, Try.ntmps9
      go_wp2_with (fail)
      refine (C1.out _).mono ?_
      rintro e w1' ⟨rfl, ho⟩
      have HO1 := Lib.hid (ho)
      clear ho
      go_wp2_with (fail)
      refine (C2.out _).mono ?_
      rintro e w2' ⟨rfl, ho⟩
      have HO2 := Lib.hid (HO1.out.trans ho (fun _ h _ => h))
      clear ho
      go_wp2_with (fail)
      refine (C3.out _).mono ?_
      rintro e w3' ⟨rfl, ho⟩
      have HO3 := Lib.hid (HO2.out.trans ho (fun _ h _ => h))
      clear ho
      go_wp2_with (fail)
      refine (C4.out _).mono ?_
      rintro e w4' ⟨rfl, ho⟩
      have HO4 := Lib.hid (HO3.out.trans ho (fun _ h _ => h))
      clear ho
      go_wp2_with (fail)
      refine (C5.out _).mono ?_
      rintro e w5' ⟨rfl, ho⟩
      have HO5 := Lib.hid (HO4.out.trans ho (fun _ h _ => h))
      clear ho
      go_wp2_with (fail)
      refine (C6.out _).mono ?_
      rintro e w6' ⟨rfl, ho⟩
      have HO6 := Lib.hid (HO5.out.trans ho (fun _ h _ => h))
      clear ho
      go_wp2_with (fail)
      refine (awake13 _).mono ?_
      rintro e w7' ⟨rfl, ho⟩
      have HO7 := Lib.hid (HO6.out.trans ho (fun _ h _ => h))
      clear ho
      go_wp2
      go_ret
      exact ⟨rfl, HO7.out.none⟩
  · rw [hk] at hk2
    have hk3 := hk2.symm
    clear hk2
    obtain ⟨i1, i2, i3⟩ := ifZ_1 a0 a1
    have i4 := (ifZ_1 a0 0).1
    have c1 := fun W => progIf 161 a0 a1 W
    simp only [i1] at c1
    have c2 := fun W => progIf 162 a0 a1 W
    simp only [i2] at c2
    have c3 := fun W => progIf 155 a0 a1 W
    simp only [i3] at c3
    have c4 := fun W => progIf 161 a0 0 W
    simp only [i4] at c4
    generalize hp : (decide (a0 < a1)) = p at *
    generalize hz : (decide (a0 < 0)) = z at *
    have C1 := Lib.hid c1
    have C2 := Lib.hid c2
    have C3 := Lib.hid c3
    have C4 := Lib.hid c4
    clear c1 c2 c3 c4 i1 i2 i3 i4 b0 b1 b2 hp hz
    cases p
    · go_enter Try.func9, Try.ntmps9
      go_wp2_with (fail)
      refine (C1.out _).mono ?_
      rintro e w1' ⟨rfl, ho⟩
      have HO1 := Lib.hid (ho)
      clear ho
      go_wp2_with (fail)
      refine (C2.out _).mono ?_
      rintro e w2' ⟨rfl, ho⟩
      have HO2 := Lib.hid (HO1.out.trans ho (fun _ h _ => h))
      clear ho
      go_wp2_with (fail)
      refine (C3.out _).mono ?_
      rintro e w3' ⟨rfl, ho⟩
      have HO3 := Lib.hid (HO2.out.trans ho (fun _ h _ => h))
      clear ho
      go_wp2_with (fail)
      refine (C4.out _).mono ?_
      rintro e w4' ⟨rfl, ho⟩
      have HO4 := Lib.hid (HO3.out.trans ho (fun _ h _ => h))
      clear ho
      go_wp2_with (fail)
      refine (C5.out _).mono ?_
      rintro e w5' ⟨rfl, ho⟩
      have HO5 := Lib.hid (HO4.out.trans ho (fun _ h _ => h))
      clear ho
      go_wp2_with (fail)
      refine (C6.out _).mono ?_
      rintro e w6' ⟨rfl, ho⟩
      have HO6 := Lib.hid (HO5.out.trans ho (fun _ h _ => h))
      clear ho
      go_wp2_with (fail)
      refine (awake13 _).mono ?_
      rintro e w7' ⟨rfl, ho⟩
      have HO7 := Lib.hid (HO6.out.trans ho (fun _ h _ => h))
      clear ho
      go_wp2
      go_ret
      exact ⟨rfl, HO7.out.none⟩
    · go_enter Try.func9, Try.ntmps9
      go_wp2_with (fail)
      refine (C1.out _).mono ?_
      rintro e w1' ⟨rfl, ho⟩
      have HO1 := Lib.hid (ho)
      clear ho
      go_wp2_with (fail)
      refine (C2.out _).mono ?_
      rintro e w2' ⟨rfl, ho⟩
      have HO2 := Lib.hid (HO1.out.trans ho (fun _ h _ => h))
      clear ho
      go_wp2_with (fail)
      refine (C3.out _).mono ?_
      rintro e w3' ⟨rfl, ho⟩
      have HO3 := Lib.hid (HO2.out.trans ho (fun _ h _ => h))
      clear ho
      go_wp2_with (fail)
      refine (C4.out _).mono ?_
      rintro e w4' ⟨rfl, ho⟩
      have HO4 := Lib.hid (HO3.out.trans ho (fun _ h _ => h))
      clear ho
      go_wp2_with (fail)
      refine (C5.out _).mono ?_
      rintro e w5' ⟨rfl, ho⟩
      have HO5 := Lib.hid (HO4.out.trans ho (fun _ h _ => h))
      clear ho
      go_wp2_with (fail)
      refine (C6.out _).mono ?_
      rintro e w6' ⟨rfl, ho⟩
      have HO6 := Lib.hid (HO5.out.trans ho (fun _ h _ => h))
      clear ho
      go_wp2_with (fail)
      refine (awake13 _).mono ?_
      rintro e w7' ⟨rfl, ho⟩
      have HO7 := Lib.hid (HO6.out.trans ho (fun _ h _ => h))
      clear ho
      go_wp2
      go_ret
      exact ⟨rfl, HO7.out.none⟩
  · rw [hk] at hk2
    have hk3 := hk2.symm
    clear hk2
    obtain ⟨i1, i2, i3⟩ := ifZ_2 a0 a1
    have i4 := (ifZ_2 a0 0).1
    have c1 := fun W => progIf 163 a0 a1 W
    simp only [i1] at c1
    have c2 := fun W => progIf 164 a0 a1 W
    simp only [i2] at c2
    have c3 := fun W => progIf 157 a0 a1 W
    simp only [i3] at c3
    have c4 := fun W => progIf 163 a0 0 W
    simp only [i4] at c4
    generalize hp : (decide (a1 < a0)) = p at *
    generalize hz : (decide (0 < a0)) = z at *
    have C1 := Lib.hid c1
    have C2 := Lib.hid c2
    have C3 := Lib.hid c3
    have C4 := Lib.hid c4
    clear c1 c2 c3 c4 i1 i2 i3 i4 b0 b1 b2 hp hz
    cases p
    · go_enter Try.func9, Try.ntmps9
      go_wp2_with (fail)
      refine (C1.out _).mono ?_
      rintro e w1' ⟨rfl, ho⟩
      have HO1 := Lib.hid (ho)
      clear ho
      go_wp2_with (fail)
      refine (C2.out _).mono ?_
      rintro e w2' ⟨rfl, ho⟩
      have HO2 := Lib.hid (HO1.out.trans ho (fun _ h _ => h))
      clear ho
      go_wp2_with (fail)
      refine (C3.out _).mono ?_
      rintro e w3' ⟨rfl, ho⟩
      have HO3 := Lib.hid (HO2.out.trans ho (fun _ h _ => h))
      clear ho
      go_wp2_with (fail)
      refine (C4.out _).mono ?_
      rintro e w4' ⟨rfl, ho⟩
      have HO4 := Lib.hid (HO3.out.trans ho (fun _ h _ => h))
      clear ho
      go_wp2_with (fail)
      refine (C5.out _).mono ?_
      rintro e w5' ⟨rfl, ho⟩
      have HO5 := Lib.hid (HO4.out.trans ho (fun _ h _ => h))
      clear ho
      go_wp2_with (fail)
      refine (C6.out _).mono ?_
      rintro e w6' ⟨rfl, ho⟩
      have HO6 := Lib.hid (HO5.out.trans ho (fun _ h _ => h))
      clear ho
      go_wp2_with (fail)
      refine (awake13 _).mono ?_
      rintro e w7' ⟨rfl, ho⟩
      have HO7 := Lib.hid (HO6.out.trans ho (fun _ h _ => h))
      clear ho
      go_wp2
      go_ret
      exact ⟨rfl, HO7.out.none⟩
    · go_enter Try.func9, Try.ntmps9
      go_wp2_with (fail)
      refine (C1.out _).mono ?_
      rintro e w1' ⟨rfl, ho⟩
      have HO1 := Lib.hid (ho)
      clear ho
      go_wp2_with (fail)
      refine (C2.out _).mono ?_
      rintro e w2' ⟨rfl, ho⟩
      have HO2 := Lib.hid (HO1.out.trans ho (fun _ h _ => h))
      clear ho
      go_wp2_with (fail)
      refine (C3.out _).mono ?_
      rintro e w3' ⟨rfl, ho⟩
      have HO3 := Lib.hid (HO2.out.trans ho (fun _ h _ => h))
      clear ho
      go_wp2_with (fail)
      refine (C4.out _).mono ?_
      rintro e w4' ⟨rfl, ho⟩
      have HO4 := Lib.hid (HO3.out.trans ho (fun _ h _ => h))
      clear ho
      go_wp2_with (fail)
      refine (C5.out _).mono ?_
      rintro e w5' ⟨rfl, ho⟩
      have HO5 := Lib.hid (HO4.out.trans ho (fun _ h _ => h))
      clear ho
      go_wp2_with (fail)
      refine (C6.out _).mono ?_
      rintro e w6' ⟨rfl, ho⟩
      have HO6 := Lib.hid (HO5.out.trans ho (fun _ h _ => h))
      clear ho
      go_wp2_with (fail)
      refine (awake13 _).mono ?_
      rintro e w7' ⟨rfl, ho⟩
      have HO7 := Lib.hid (HO6.out.trans ho (fun _ h _ => h))
      clear ho
      go_wp2
      go_ret
      exact ⟨rfl, HO7.out.none⟩

theorem own : ownKnob Try.prog.godebug = none := by kernel_rfl
theorem laidOut : laidOutB Try.prog = true := by kernel_rfl

set_option maxRecDepth 100000 in
theorem lifted (os : Os) (started : os.Started) (H : Type) (enc : TypeId × Value → H) :
    ReturnsInHanded {} Try.checked os 9 .any (Rows.arithOppositesSpec.pre6 enc Try.prog Try.f9 Rows.arithOppositesRow.domain false) (Rows.arithOppositesSpec.post enc Try.prog Try.f9 false true false false) := by
  refine returnsInHanded_of_change (C := Try.checked) own started (by kernel_rfl) Try.func9
    (ChangeSpec.witness6 (enc := enc) (C := Try.checked) false ⟨#[], #[.int .i32 0, .int .i32 0, .int .u8 0], []⟩ 8 (by kernel_rfl) (by kernel_rfl) (by kernel_rfl) (by kernel_rfl)) ?_
  intro W base args ds gs before hval0 hW hcnd _
  have hval : ∀ (j : Nat) t v, Try.f9.params[j]? = some t → args[j]? = some v → Value.okWide Try.prog W .any base t v := hval0
  have hW' := hW
  obtain ⟨p, q, hA0, hV, rfl, hfz, hnd⟩ := hW
  have hA : DataW.TrodAll enc Try.prog W 0 (fun _ => true) true Try.f9.params.toList args.toList ds p := hA0
  rw [Try.params9] at hA hval
  obtain ⟨v0, vs0, d0, ds0, p0, q0, hargs, rfl, rfl, h0, r0⟩ := trodAll_cons hA
  obtain ⟨v1, vs1, d1, ds1, p1, q1, rfl, rfl, rfl, h1, r1⟩ := trodAll_cons r0
  obtain ⟨v2, vs2, d2, ds2, p2, q2, rfl, rfl, rfl, h2, r2⟩ := trodAll_cons r1
  obtain ⟨rfl, rfl, rfl⟩ := trodAll_nil r2
  obtain rfl : args = #[v0, v1, v2] := by cases args; simp_all
  obtain ⟨rfl, rfl⟩ := trodVars_none hV
  obtain ⟨a0, rfl, rfl, rfl, w0⟩ := open_int Try.underlying21 (hval 0 21 v0 rfl rfl) h0
  obtain ⟨a1, rfl, rfl, rfl, w1⟩ := open_int Try.underlying21 (hval 1 21 v1 rfl rfl) h1
  obtain ⟨a2, rfl, rfl, rfl, w2⟩ := open_int Try.underlying5 (hval 2 5 v2 rfl rfl) h2
  clear hA0 hval0
  refine (walk a0 a1 a2 W w0 w1 w2).mono fun e W' ⟨he, bel⟩ => ?_
  subst he
  exact ⟨_, rfl, _, _, _, [], _, [], hW', trodAll_mk1 (shut_bool Try.underlying4 _), (trodAll_cons_mk (shut_int Try.underlying21 w0) (trodAll_cons_mk (shut_int Try.underlying21 w1) (trodAll_cons_mk (shut_int Try.underlying5 w2) trodAll_mk0))), rfl, bel.frame _, fun h => by cases h⟩

theorem over : Rows.arithOppositesRow.holds Try.pinned (OpenSpec.ofChange Rows.arithOppositesSpec) :=
  OpenClaim.holds_of_wide 9 Try.f9 rfl rfl rfl rfl rfl rfl rfl ⟨rfl, rfl, rfl, rfl, rfl⟩ rfl rfl rfl rfl rfl (by kernel_rfl) Try.func9 (by kernel_rfl)
    (of_decide_eq_true (by kernel_rfl)) (by unfold Func.isWrapper; first | (rw [if_pos (by decide +kernel)]; kernel_rfl) | (rw [if_neg (by decide +kernel)]; exact ⟨rfl, rfl⟩))
    (fun os started H enc _ => lifted os started H enc)

theorem proved : Rows.ArithOppositesSaid := over
#print axioms proved
end Go.Proofs.Ytmgglicfhddmpaa.arithOpposites
