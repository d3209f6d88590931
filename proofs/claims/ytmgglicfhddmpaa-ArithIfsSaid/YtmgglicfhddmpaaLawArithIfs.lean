/- PROVED: the law ArithIfs: the program's If, Compare and Narrow are the document's own. For every input. No condition. -/
import Derived.Test.YtmgglicfhddmpaaArAw
import Derived.ProofKit
import Derived.ShutString
import Derived.ChangeOld
import Derived.Below
import Derived.PinnedBridge
namespace Go.Proofs.Ytmgglicfhddmpaa.arithIfs
open Go.ChangeShapes Go.WideShapes Go.ChangeAt Go.RowKit
set_option linter.unusedVariables false
set_option linter.unusedSimpArgs false

set_option maxHeartbeats 4000000 in
set_option maxRecDepth 100000 in
theorem walk (a0 a1 a2 a3 a4 : Int) (w : World) (w0 : (Lit.int .i64 a0).wf = true) (w1 : (Lit.int .i32 a1).wf = true) (w2 : (Lit.int .i32 a2).wf = true) (w3 : (Lit.int .i64 a3).wf = true) (w4 : (Lit.int .i64 a4).wf = true) :
    Calls Try.prog 6 #[.int .i64 a0, .int .i32 a1, .int .i32 a2, .int .i64 a3, .int .i64 a4] w fun e w' => e = .returned (.bool true) ∧ Below w.heap.size w w' := by
  have c1 := fun W => progIf a0 a1 a2 W
  have c2 := fun W => refIf a0 a1 a2 W
  have c3 := fun W => progCompare a3 a4 W
  have c4 := fun W => refCompare a3 a4 W
  have c5 := fun W => progNarrow a3 W
  have c6 := fun W => refNarrow a3 W
  generalize ifZ a0 a1 a2 = r at *
  generalize cmpZ a3 a4 = s at *
  generalize wrap32 a3 = t at *
  have C1 := Lib.hid c1
  have C2 := Lib.hid c2
  have C3 := Lib.hid c3
  have C4 := Lib.hid c4
  have C5 := Lib.hid c5
  have C6 := Lib.hid c6
  clear c1 c2 c3 c4 c5 c6 w0 w1 w2 w3 w4
  go_enter Try.func6, Try.ntmps6
  go_wp2_with (fail)
  refine (C1.out _).mono ?_
  rintro e w1' ⟨rfl, ho⟩
  have HO1 := Lib.hid (ho)
  clear ho
  go_wp2_with (fail)
  refine (C2.out _).mono ?_
  rintro e w2' ⟨rfl, ho⟩
  have HO2 := Lib.hid (HO1.out.trans ho (fun _ h _ => h))
  clear ho
  go_wp2_with (fail)
  refine (C3.out _).mono ?_
  rintro e w3' ⟨rfl, ho⟩
  have HO3 := Lib.hid (HO2.out.trans ho (fun _ h _ => h))
  clear ho
  go_wp2_with (fail)
  refine (C4.out _).mono ?_
  rintro e w4' ⟨rfl, ho⟩
  have HO4 := Lib.hid (HO3.out.trans ho (fun _ h _ => h))
  clear ho
  go_wp2_with (fail)
  refine (C5.out _).mono ?_
  rintro e w5' ⟨rfl, ho⟩
  have HO5 := Lib.hid (HO4.out.trans ho (fun _ h _ => h))
  clear ho
  go_wp2_with (fail)
  refine (C6.out _).mono ?_
  rintro e w6' ⟨rfl, ho⟩
  have HO6 := Lib.hid (HO5.out.trans ho (fun _ h _ => h))
  clear ho
  go_wp2_with (fail)
  refine (awake13 _).mono ?_
  rintro e w7' ⟨rfl, ho⟩
  have HO7 := Lib.hid (HO6.out.trans ho (fun _ h _ => h))
  clear ho
  go_wp2
  go_ret
  exact ⟨rfl, HO7.out.none⟩

theorem own : ownKnob Try.prog.godebug = none := by kernel_rfl
theorem laidOut : laidOutB Try.prog = true := by kernel_rfl

set_option maxRecDepth 100000 in
theorem lifted (os : Os) (started : os.Started) (H : Type) (enc : TypeId × Value → H) :
    ReturnsInHanded {} Try.checked os 6 .any (Rows.arithIfsSpec.pre6 enc Try.prog Try.f6 Rows.arithIfsRow.domain false) (Rows.arithIfsSpec.post enc Try.prog Try.f6 false true false false) := by
  refine returnsInHanded_of_change (C := Try.checked) own started (by kernel_rfl) Try.func6
    (ChangeSpec.witness6 (enc := enc) (C := Try.checked) false ⟨#[], #[.int .i64 0, .int .i32 0, .int .i32 0, .int .i64 0, .int .i64 0], []⟩ 8 (by kernel_rfl) (by kernel_rfl) (by kernel_rfl) (by kernel_rfl)) ?_
  intro W base args ds gs before hval0 hW hcnd _
  have hval : ∀ (j : Nat) t v, Try.f6.params[j]? = some t → args[j]? = some v → Value.okWide Try.prog W .any base t v := hval0
  have hW' := hW
  obtain ⟨p, q, hA0, hV, rfl, hfz, hnd⟩ := hW
  have hA : DataW.TrodAll enc Try.prog W 0 (fun _ => true) true Try.f6.params.toList args.toList ds p := hA0
  rw [Try.params6] at hA hval
  obtain ⟨v0, vs0, d0, ds0, p0, q0, hargs, rfl, rfl, h0, r0⟩ := trodAll_cons hA
  obtain ⟨v1, vs1, d1, ds1, p1, q1, rfl, rfl, rfl, h1, r1⟩ := trodAll_cons r0
  obtain ⟨v2, vs2, d2, ds2, p2, q2, rfl, rfl, rfl, h2, r2⟩ := trodAll_cons r1
  obtain ⟨v3, vs3, d3, ds3, p3, q3, rfl, rfl, rfl, h3, r3⟩ := trodAll_cons r2
  obtain ⟨v4, vs4, d4, ds4, p4, q4, rfl, rfl, rfl, h4, r4⟩ := trodAll_cons r3
  obtain ⟨rfl, rfl, rfl⟩ := trodAll_nil r4
  obtain rfl : args = #[v0, v1, v2, v3, v4] := by cases args; simp_all
  obtain ⟨rfl, rfl⟩ := trodVars_none hV
  obtain ⟨a0, rfl, rfl, rfl, w0⟩ := open_int Try.underlying3 (hval 0 3 v0 rfl rfl) h0
  obtain ⟨a1, rfl, rfl, rfl, w1⟩ := open_int Try.underlying21 (hval 1 21 v1 rfl rfl) h1
  obtain ⟨a2, rfl, rfl, rfl, w2⟩ := open_int Try.underlying21 (hval 2 21 v2 rfl rfl) h2
  obtain ⟨a3, rfl, rfl, rfl, w3⟩ := open_int Try.underlying2 (hval 3 2 v3 rfl rfl) h3
  obtain ⟨a4, rfl, rfl, rfl, w4⟩ := open_int Try.underlying2 (hval 4 2 v4 rfl rfl) h4
  clear hA0 hval0
  refine (walk a0 a1 a2 a3 a4 W w0 w1 w2 w3 w4).mono fun e W' ⟨he, bel⟩ => ?_
  subst he
  exact ⟨_, rfl, _, _, _, [], _, [], hW', trodAll_mk1 (shut_bool Try.underlying4 _), (trodAll_cons_mk (shut_int Try.underlying3 w0) (trodAll_cons_mk (shut_int Try.underlying21 w1) (trodAll_cons_mk (shut_int Try.underlying21 w2) (trodAll_cons_mk (shut_int Try.underlying2 w3) (trodAll_cons_mk (shut_int Try.underlying2 w4) trodAll_mk0))))), rfl, bel.frame _, fun h => by cases h⟩

theorem over : Rows.arithIfsRow.holds Try.pinned (OpenSpec.ofChange Rows.arithIfsSpec) :=
  OpenClaim.holds_of_wide 6 Try.f6 rfl rfl rfl rfl rfl rfl rfl ⟨rfl, rfl, rfl, rfl, rfl⟩ rfl rfl rfl rfl rfl (by kernel_rfl) Try.func6 (by kernel_rfl)
    (of_decide_eq_true (by kernel_rfl)) (by unfold Func.isWrapper; first | (rw [if_pos (by decide +kernel)]; kernel_rfl) | (rw [if_neg (by decide +kernel)]; exact ⟨rfl, rfl⟩))
    (fun os started H enc _ => lifted os started H enc)

theorem proved : Rows.ArithIfsSaid := over
#print axioms proved
end Go.Proofs.Ytmgglicfhddmpaa.arithIfs
