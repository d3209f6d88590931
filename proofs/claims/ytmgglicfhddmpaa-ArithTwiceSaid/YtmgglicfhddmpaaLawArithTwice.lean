/- PROVED: the law ArithTwice: a number turned about twice is itself, so is one that another was put into by exclusive or twice; what was added is taken away again. For every input. No condition. -/
import Derived.Test.YtmgglicfhddmpaaArAw
import Derived.Test.YtmgglicfhddmpaaArQ
import Derived.ProofKit
import Derived.ShutString
import Derived.ChangeOld
import Derived.Below
import Derived.PinnedBridge
namespace Go.Proofs.Ytmgglicfhddmpaa.arithTwice
open Go.ChangeShapes Go.WideShapes Go.ChangeAt Go.RowKit
set_option linter.unusedVariables false
set_option linter.unusedSimpArgs false

set_option maxHeartbeats 4000000 in
set_option maxRecDepth 100000 in
theorem walk (a0 a1 a2 a3 : Int) (w : World) (w0 : (Lit.int .i32 a0).wf = true) (w1 : (Lit.int .i32 a1).wf = true) (w2 : (Lit.int .i64 a2).wf = true) (w3 : (Lit.int .i64 a3).wf = true) :
    Calls Try.prog 11 #[.int .i32 a0, .int .i32 a1, .int .i64 a2, .int .i64 a3] w fun e w' => e = .returned (.bool true) ∧ Below w.heap.size w w' := by
  have b0 := bounds_i32 w0
  have b1 := bounds_i32 w1
  have b2 := bounds_i64 w2
  have b3 := bounds_i64 w3
  clear w0 w1 w2 w3
  obtain ⟨X, hX⟩ : ∃ x, x = wrap32 (wrap64 (-a0)) := ⟨_, rfl⟩
  obtain ⟨Y, hY⟩ : ∃ x, x = bits .xor .i32 a0 a1 := ⟨_, rfl⟩
  obtain ⟨Z, hZ⟩ : ∃ x, x = wrap32 (wrap64 (a0 + a1)) := ⟨_, rfl⟩
  obtain ⟨U, hU⟩ : ∃ x, x = bits .xor .i64 a2 a3 := ⟨_, rfl⟩
  obtain ⟨V, hV⟩ : ∃ x, x = wrap64 (a2 + a3) := ⟨_, rfl⟩
  have bX : -2147483648 ≤ X ∧ X ≤ 2147483647 := by rw [hX]; exact wrap32_in _
  have bY : -2147483648 ≤ Y ∧ Y ≤ 2147483647 := by rw [hY]; exact ⟨bits_lo_i32 _ _ _, bits_hi_i32 _ _ _⟩
  have bZ : -2147483648 ≤ Z ∧ Z ≤ 2147483647 := by rw [hZ]; exact wrap32_in _
  have fX : wrap32 (wrap64 (-X)) = a0 := by rw [hX]; have := neg_twice a0 b0; unfold wrap32 wrap64 at *; omega
  have fY : bits .xor .i32 Y a1 = a0 := by rw [hY]; exact xor_twice .i32 a0 a1 (.inl rfl) b0
  have fZ : wrap32 (wrap64 (Z - a1)) = a0 := by rw [hZ]; exact add_away32 a0 a1 b0 b1
  have fU : bits .xor .i64 U a3 = a2 := by rw [hU]; exact xor_twice .i64 a2 a3 (.inr rfl) b2
  have fV : wrap64 (V - a3) = a2 := by rw [hV]; exact add_away64 a2 a3 b2
  have c1 := fun W => progInt 116 a0 a1 b0 b1 W
  simp only [intZ_neg, ← hX] at c1
  have C1 := Lib.hid c1
  clear c1
  have c2 := fun W => progInt 116 X a1 bX b1 W
  simp only [intZ_neg, fX] at c2
  have C2 := Lib.hid c2
  clear c2
  have c3 := fun W => progInt 130 a0 a1 b0 b1 W
  simp only [intZ_xor, ← hY] at c3
  have C3 := Lib.hid c3
  clear c3
  have c4 := fun W => progInt 130 Y a1 bY b1 W
  simp only [intZ_xor, fY] at c4
  have C4 := Lib.hid c4
  clear c4
  have c5 := fun W => progInt 96 a0 a1 b0 b1 W
  simp only [intZ_add, ← hZ] at c5
  have C5 := Lib.hid c5
  clear c5
  have c6 := fun W => progInt 100 Z a1 bZ b1 W
  simp only [intZ_sub, fZ] at c6
  have C6 := Lib.hid c6
  clear c6
  have c7 := fun W => progLong 131 a2 a3 W
  simp only [longZ_xor, ← hU] at c7
  have C7 := Lib.hid c7
  clear c7
  have c8 := fun W => progLong 131 U a3 W
  simp only [longZ_xor, fU] at c8
  have C8 := Lib.hid c8
  clear c8
  have c9 := fun W => progLong 97 a2 a3 W
  simp only [longZ_add, ← hV] at c9
  have C9 := Lib.hid c9
  clear c9
  have c10 := fun W => progLong 101 V a3 W
  simp only [longZ_sub, fV] at c10
  have C10 := Lib.hid c10
  clear c10
  clear fX fY fZ fU fV hX hY hZ hU hV bX bY bZ b0 b1 b2 b3
  go_enter Try.func11, Try.ntmps11
  go_wp2_with (fail)
  refine (C1.out _).mono ?_
  rintro e w1' ⟨rfl, ho⟩
  have HO1 := Lib.hid (ho)
  clear ho
  go_wp2_with (fail)
  refine (C2.out _).mono ?_
  rintro e w2' ⟨rfl, ho⟩
  have HO2 := Lib.hid (HO1.out.trans ho (fun _ h _ => h))
  clear ho
  go_wp2_with (fail)
  refine (C3.out _).mono ?_
  rintro e w3' ⟨rfl, ho⟩
  have HO3 := Lib.hid (HO2.out.trans ho (fun _ h _ => h))
  clear ho
  go_wp2_with (fail)
  refine (C4.out _).mono ?_
  rintro e w4' ⟨rfl, ho⟩
  have HO4 := Lib.hid (HO3.out.trans ho (fun _ h _ => h))
  clear ho
  go_wp2_with (fail)
  refine (C5.out _).mono ?_
  rintro e w5' ⟨rfl, ho⟩
  have HO5 := Lib.hid (HO4.out.trans ho (fun _ h _ => h))
  clear ho
  go_wp2_with (fail)
  refine (C6.out _).mono ?_
  rintro e w6' ⟨rfl, ho⟩
  have HO6 := Lib.hid (HO5.out.trans ho (fun _ h _ => h))
  clear ho
  go_wp2_with (fail)
  refine (C7.out _).mono ?_
  rintro e w7' ⟨rfl, ho⟩
  have HO7 := Lib.hid (HO6.out.trans ho (fun _ h _ => h))
  clear ho
  go_wp2_with (fail)
  refine (C8.out _).mono ?_
  rintro e w8' ⟨rfl, ho⟩
  have HO8 := Lib.hid (HO7.out.trans ho (fun _ h _ => h))
  clear ho
  go_wp2_with (fail)
  refine (C9.out _).mono ?_
  rintro e w9' ⟨rfl, ho⟩
  have HO9 := Lib.hid (HO8.out.trans ho (fun _ h _ => h))
  clear ho
  go_wp2_with (fail)
  refine (C10.out _).mono ?_
  rintro e w10' ⟨rfl, ho⟩
  have HO10 := Lib.hid (HO9.out.trans ho (fun _ h _ => h))
  clear ho
  go_wp2_with (fail)
  refine (awake13 _).mono ?_
  rintro e w11' ⟨rfl, ho⟩
  have HO11 := Lib.hid (HO10.out.trans ho (fun _ h _ => h))
  clear ho
  go_wp2
  go_ret
  exact ⟨rfl, HO11.out.none⟩

theorem own : ownKnob Try.prog.godebug = none := by kernel_rfl
theorem laidOut : laidOutB Try.prog = true := by kernel_rfl

set_option maxRecDepth 100000 in
theorem lifted (os : Os) (started : os.Started) (H : Type) (enc : TypeId × Value → H) :
    ReturnsInHanded {} Try.checked os 11 .any (Rows.arithTwiceSpec.pre6 enc Try.prog Try.f11 Rows.arithTwiceRow.domain false) (Rows.arithTwiceSpec.post enc Try.prog Try.f11 false true false false) := by
  refine returnsInHanded_of_change (C := Try.checked) own started (by kernel_rfl) Try.func11
    (ChangeSpec.witness6 (enc := enc) (C := Try.checked) false ⟨#[], #[.int .i32 0, .int .i32 0, .int .i64 0, .int .i64 0], []⟩ 8 (by kernel_rfl) (by kernel_rfl) (by kernel_rfl) (by kernel_rfl)) ?_
  intro W base args ds gs before hval0 hW hcnd _
  have hval : ∀ (j : Nat) t v, Try.f11.params[j]? = some t → args[j]? = some v → Value.okWide Try.prog W .any base t v := hval0
  have hW' := hW
  obtain ⟨p, q, hA0, hV, rfl, hfz, hnd⟩ := hW
  have hA : DataW.TrodAll enc Try.prog W 0 (fun _ => true) true Try.f11.params.toList args.toList ds p := hA0
  rw [Try.params11] at hA hval
  obtain ⟨v0, vs0, d0, ds0, p0, q0, hargs, rfl, rfl, h0, r0⟩ := trodAll_cons hA
  obtain ⟨v1, vs1, d1, ds1, p1, q1, rfl, rfl, rfl, h1, r1⟩ := trodAll_cons r0
  obtain ⟨v2, vs2, d2, ds2, p2, q2, rfl, rfl, rfl, h2, r2⟩ := trodAll_cons r1
  obtain ⟨v3, vs3, d3, ds3, p3, q3, rfl, rfl, rfl, h3, r3⟩ := trodAll_cons r2
  obtain ⟨rfl, rfl, rfl⟩ := trodAll_nil r3
  obtain rfl : args = #[v0, v1, v2, v3] := by cases args; simp_all
  obtain ⟨rfl, rfl⟩ := trodVars_none hV
  obtain ⟨a0, rfl, rfl, rfl, w0⟩ := open_int Try.underlying21 (hval 0 21 v0 rfl rfl) h0
  obtain ⟨a1, rfl, rfl, rfl, w1⟩ := open_int Try.underlying21 (hval 1 21 v1 rfl rfl) h1
  obtain ⟨a2, rfl, rfl, rfl, w2⟩ := open_int Try.underlying2 (hval 2 2 v2 rfl rfl) h2
  obtain ⟨a3, rfl, rfl, rfl, w3⟩ := open_int Try.underlying2 (hval 3 2 v3 rfl rfl) h3
  clear hA0 hval0
  refine (walk a0 a1 a2 a3 W w0 w1 w2 w3).mono fun e W' ⟨he, bel⟩ => ?_
  subst he
  exact ⟨_, rfl, _, _, _, [], _, [], hW', trodAll_mk1 (shut_bool Try.underlying4 _), (trodAll_cons_mk (shut_int Try.underlying21 w0) (trodAll_cons_mk (shut_int Try.underlying21 w1) (trodAll_cons_mk (shut_int Try.underlying2 w2) (trodAll_cons_mk (shut_int Try.underlying2 w3) trodAll_mk0)))), rfl, bel.frame _, fun h => by cases h⟩

theorem over : Rows.arithTwiceRow.holds Try.pinned (OpenSpec.ofChange Rows.arithTwiceSpec) :=
  OpenClaim.holds_of_wide 11 Try.f11 rfl rfl rfl rfl rfl rfl rfl ⟨rfl, rfl, rfl, rfl, rfl⟩ rfl rfl rfl rfl rfl (by kernel_rfl) Try.func11 (by kernel_rfl)
    (of_decide_eq_true (by kernel_rfl)) (by unfold Func.isWrapper; first | (rw [if_pos (by decide +kernel)]; kernel_rfl) | (rw [if_neg (by decide +kernel)]; exact ⟨rfl, rfl⟩))
    (fun os started H enc _ => lifted os started H enc)

theorem proved : Rows.ArithTwiceSaid := over
#print axioms proved
end Go.Proofs.Ytmgglicfhddmpaa.arithTwice
