/- PROVED: the law ArithParts: the quotient times the divisor, and the rest, are the number; the rest is nearer to 0 than the divisor and has the number's sign, or is 0. For every input. No condition. -/
import Derived.Test.YtmgglicfhddmpaaArAw
import Derived.Test.YtmgglicfhddmpaaArQ
import Derived.ProofKit
import Derived.ShutString
import Derived.ChangeOld
import Derived.Below
import Derived.PinnedBridge
namespace Go.Proofs.Ytmgglicfhddmpaa.arithParts
open Go.ChangeShapes Go.WideShapes Go.ChangeAt Go.RowKit
set_option linter.unusedVariables false
set_option linter.unusedSimpArgs false

set_option maxHeartbeats 4000000 in
set_option maxRecDepth 100000 in
theorem walk (a0 a1 a2 a3 : Int) (w : World) (w0 : (Lit.int .i32 a0).wf = true) (w1 : (Lit.int .i32 a1).wf = true) (w2 : (Lit.int .i64 a2).wf = true) (w3 : (Lit.int .i64 a3).wf = true) :
    Calls Try.prog 7 #[.int .i32 a0, .int .i32 a1, .int .i64 a2, .int .i64 a3] w fun e w' => e = .returned (.bool true) ∧ Below w.heap.size w w' := by
  have b0 := bounds_i32 w0
  have b1 := bounds_i32 w1
  have b2 := bounds_i64 w2
  have b3 := bounds_i64 w3
  clear w0 w1 w2 w3
  by_cases hb : a1 = 0
  · subst hb
    have c1 := fun W => progInt 108 a0 0 b0 b1 W
    simp only [intZ_quo0] at c1
    have C1 := Lib.hid c1
    have c2 := fun W => progInt 112 a0 0 b0 b1 W
    simp only [intZ_rem0] at c2
    have C2 := Lib.hid c2
    clear c1 c2 b0 b1 b2 b3
    go_enter Try.func7, Try.ntmps7
    go_wp2_with (fail)
    refine (C1.out _).mono ?_
    rintro e w1' ⟨rfl, ho⟩
    have HO1 := Lib.hid (ho)
    clear ho
    go_wp2_with (fail)
    refine (C2.out _).mono ?_
    rintro e w2' ⟨rfl, ho⟩
    have HO2 := Lib.hid (HO1.out.trans ho (fun _ h _ => h))
    clear ho
    go_wp2
    go_ret
    exact ⟨rfl, HO2.out.none⟩
  have hb0 : (a1 == 0) = false := by rw [beq_eq_false_iff_ne]; exact hb
  obtain ⟨p1, p2, p3, p4⟩ := parts32 a0 a1 b0 b1 hb
  obtain ⟨Q, hQ⟩ : ∃ x, x = wrap32 (wrap64 (a0.tdiv a1)) := ⟨_, rfl⟩
  have c1 := fun W => progInt 108 a0 a1 b0 b1 W
  have c2 := fun W => progInt 112 a0 a1 b0 b1 W
  simp only [intZ_quo hb, ← hQ] at c1
  simp only [intZ_rem hb, p1] at c2
  rw [← hQ] at p2
  generalize a0.tmod a1 = R at *
  have bR : -2147483648 ≤ R ∧ R ≤ 2147483647 := by rw [← p1]; exact wrap32_in _
  have e1 : wrap64 R = R := IntWalk.wrap64_in R (by omega)
  have e2 : wrap64 a1 = a1 := IntWalk.wrap64_in a1 (by omega)
  have e3 := sq_wrap bR
  have e4 := sq_wrap b1
  have e5 : decide (a1 * a1 ≤ R * R) = false := by simp only [decide_eq_false_iff_not]; omega
  have C1 := Lib.hid c1
  have C2 := Lib.hid c2
  clear c1 c2 hQ p1 p3 bR
  have hR : R = 0 ∨ (¬R = 0 ∧ (R == 0) = false ∧ (R != 0) = true ∧ ((decide (R < 0) = true ∧ decide (a0 < 0) = true) ∨ (decide (R < 0) = false ∧ decide (a0 < 0) = false))) := by
    by_cases h : R = 0
    · exact .inl h
    · refine .inr ⟨h, by simp [h], by simp [h], ?_⟩
      have := p4 h
      by_cases h2 : a0 < 0
      · exact .inl ⟨by simpa using this.mpr h2, by simpa using h2⟩
      · exact .inr ⟨by simp only [decide_eq_false_iff_not]; omega, by simp only [decide_eq_false_iff_not]; omega⟩
  clear p4
  have hD : a3 = 0 ∨ a3 ≠ 0 := by omega
  rcases hD with hd | hd
  · subst hd
    have c3 := fun W => progLong 109 a2 0 W
    simp only [longZ_quo0] at c3
    have C3 := Lib.hid c3
    have c4 := fun W => progLong 113 a2 0 W
    simp only [longZ_rem0] at c4
    have C4 := Lib.hid c4
    clear c3 c4 b0 b1 b2 b3 hb
    rcases hR with rfl | ⟨hR, hR1, hR2, ⟨hR3, hR4⟩ | ⟨hR3, hR4⟩⟩
    all_goals try (have p5 : wrap32 (wrap32 (Q * a1)) = a0 := (by simpa using p2))
    all_goals try (have p7 : ¬ a1 * a1 ≤ 0 := (by simpa using e5))
    all_goals
      go_enter Try.func7, Try.ntmps7
      go_wp2_with (fail)
      refine (C1.out _).mono ?_
      rintro e w1' ⟨rfl, ho⟩
      have HO1 := Lib.hid (ho)
      clear ho
      go_wp2_with (fail)
      refine (C2.out _).mono ?_
      rintro e w2' ⟨rfl, ho⟩
      have HO2 := Lib.hid (HO1.out.trans ho (fun _ h _ => h))
      clear ho
      go_wp2_with (fail)
      refine (C3.out _).mono ?_
      rintro e w3' ⟨rfl, ho⟩
      have HO3 := Lib.hid (HO2.out.trans ho (fun _ h _ => h))
      clear ho
      go_wp2_with (fail)
      refine (C4.out _).mono ?_
      rintro e w4' ⟨rfl, ho⟩
      have HO4 := Lib.hid (HO3.out.trans ho (fun _ h _ => h))
      clear ho
      go_wp2
      go_ret
      exact ⟨rfl, HO4.out.none⟩
  · have hd0 : (a3 == 0) = false := by rw [beq_eq_false_iff_ne]; exact hd
    obtain ⟨g1, g2⟩ := parts64 a2 a3 b2 b3 hd
    obtain ⟨S, hS⟩ : ∃ x, x = wrap64 (a2.tdiv a3) := ⟨_, rfl⟩
    rw [← hS] at g1
    have c3 := fun W => progLong 109 a2 a3 W
    simp only [longZ_quo hd, ← hS] at c3
    have C3 := Lib.hid c3
    have c4 := fun W => progLong 113 a2 a3 W
    simp only [longZ_rem hd] at c4
    have C4 := Lib.hid c4
    clear C4
    generalize a2.tmod a3 = T at *
    have C4 := Lib.hid c4
    clear c3 c4 hS b0 b1 b2 b3 hb hd
    have hT : T = 0 ∨ (¬T = 0 ∧ (T == 0) = false ∧ (T != 0) = true ∧ ((decide (T < 0) = true ∧ decide (a2 < 0) = true) ∨ (decide (T < 0) = false ∧ decide (a2 < 0) = false))) := by
      by_cases h : T = 0
      · exact .inl h
      · refine .inr ⟨h, by simp [h], by simp [h], ?_⟩
        have := g2 h
        by_cases h2 : a2 < 0
        · exact .inl ⟨by simpa using this.mpr h2, by simpa using h2⟩
        · exact .inr ⟨by simp only [decide_eq_false_iff_not]; omega, by simp only [decide_eq_false_iff_not]; omega⟩
    clear g2
    rcases hR with rfl | ⟨hR, hR1, hR2, ⟨hR3, hR4⟩ | ⟨hR3, hR4⟩⟩
    all_goals try (have p5 : wrap32 (wrap32 (Q * a1)) = a0 := (by simpa using p2))
    all_goals try (have p7 : ¬ a1 * a1 ≤ 0 := (by simpa using e5))
    all_goals rcases hT with rfl | ⟨hT, hT1, hT2, ⟨hT3, hT4⟩ | ⟨hT3, hT4⟩⟩
    all_goals try (have g5 : wrap64 (wrap64 (S * a3)) = a2 := by simpa using g1)
    all_goals
      go_enter Try.func7, Try.ntmps7
      go_wp2_with (fail)
      refine (C1.out _).mono ?_
      rintro e w1' ⟨rfl, ho⟩
      have HO1 := Lib.hid (ho)
      clear ho
      go_wp2_with (fail)
      refine (C2.out _).mono ?_
      rintro e w2' ⟨rfl, ho⟩
      have HO2 := Lib.hid (HO1.out.trans ho (fun _ h _ => h))
      clear ho
      go_wp2_with (fail)
      refine (C3.out _).mono ?_
      rintro e w3' ⟨rfl, ho⟩
      have HO3 := Lib.hid (HO2.out.trans ho (fun _ h _ => h))
      clear ho
      go_wp2_with (fail)
      refine (C4.out _).mono ?_
      rintro e w4' ⟨rfl, ho⟩
      have HO4 := Lib.hid (HO3.out.trans ho (fun _ h _ => h))
      clear ho
      go_wp2_with (fail)
      refine (awake13 _).mono ?_
      rintro e w5' ⟨rfl, ho⟩
      have HO5 := Lib.hid (HO4.out.trans ho (fun _ h _ => h))
      clear ho
      go_wp2
      go_ret
      exact ⟨rfl, HO5.out.none⟩

theorem own : ownKnob Try.prog.godebug = none := by kernel_rfl
theorem laidOut : laidOutB Try.prog = true := by kernel_rfl

set_option maxRecDepth 100000 in
theorem lifted (os : Os) (started : os.Started) (H : Type) (enc : TypeId × Value → H) :
    ReturnsInHanded {} Try.checked os 7 .any (Rows.arithPartsSpec.pre6 enc Try.prog Try.f7 Rows.arithPartsRow.domain false) (Rows.arithPartsSpec.post enc Try.prog Try.f7 false true false false) := by
  refine returnsInHanded_of_change (C := Try.checked) own started (by kernel_rfl) Try.func7
    (ChangeSpec.witness6 (enc := enc) (C := Try.checked) false ⟨#[], #[.int .i32 0, .int .i32 0, .int .i64 0, .int .i64 0], []⟩ 8 (by kernel_rfl) (by kernel_rfl) (by kernel_rfl) (by kernel_rfl)) ?_
  intro W base args ds gs before hval0 hW hcnd _
  have hval : ∀ (j : Nat) t v, Try.f7.params[j]? = some t → args[j]? = some v → Value.okWide Try.prog W .any base t v := hval0
  have hW' := hW
  obtain ⟨p, q, hA0, hV, rfl, hfz, hnd⟩ := hW
  have hA : DataW.TrodAll enc Try.prog W 0 (fun _ => true) true Try.f7.params.toList args.toList ds p := hA0
  rw [Try.params7] at hA hval
  obtain ⟨v0, vs0, d0, ds0, p0, q0, hargs, rfl, rfl, h0, r0⟩ := trodAll_cons hA
  obtain ⟨v1, vs1, d1, ds1, p1, q1, rfl, rfl, rfl, h1, r1⟩ := trodAll_cons r0
  obtain ⟨v2, vs2, d2, ds2, p2, q2, rfl, rfl, rfl, h2, r2⟩ := trodAll_cons r1
  obtain ⟨v3, vs3, d3, ds3, p3, q3, rfl, rfl, rfl, h3, r3⟩ := trodAll_cons r2
  obtain ⟨rfl, rfl, rfl⟩ := trodAll_nil r3
  obtain rfl : args = #[v0, v1, v2, v3] := by cases args; simp_all
  obtain ⟨rfl, rfl⟩ := trodVars_none hV
  obtain ⟨a0, rfl, rfl, rfl, w0⟩ := open_int Try.underlying21 (hval 0 21 v0 rfl rfl) h0
  obtain ⟨a1, rfl, rfl, rfl, w1⟩ := open_int Try.underlying21 (hval 1 21 v1 rfl rfl) h1
  obtain ⟨a2, rfl, rfl, rfl, w2⟩ := open_int Try.underlying2 (hval 2 2 v2 rfl rfl) h2
  obtain ⟨a3, rfl, rfl, rfl, w3⟩ := open_int Try.underlying2 (hval 3 2 v3 rfl rfl) h3
  clear hA0 hval0
  refine (walk a0 a1 a2 a3 W w0 w1 w2 w3).mono fun e W' ⟨he, bel⟩ => ?_
  subst he
  exact ⟨_, rfl, _, _, _, [], _, [], hW', trodAll_mk1 (shut_bool Try.underlying4 _), (trodAll_cons_mk (shut_int Try.underlying21 w0) (trodAll_cons_mk (shut_int Try.underlying21 w1) (trodAll_cons_mk (shut_int Try.underlying2 w2) (trodAll_cons_mk (shut_int Try.underlying2 w3) trodAll_mk0)))), rfl, bel.frame _, fun h => by cases h⟩

theorem over : Rows.arithPartsRow.holds Try.pinned (OpenSpec.ofChange Rows.arithPartsSpec) :=
  OpenClaim.holds_of_wide 7 Try.f7 rfl rfl rfl rfl rfl rfl rfl ⟨rfl, rfl, rfl, rfl, rfl⟩ rfl rfl rfl rfl rfl (by kernel_rfl) Try.func7 (by kernel_rfl)
    (of_decide_eq_true (by kernel_rfl)) (by unfold Func.isWrapper; first | (rw [if_pos (by decide +kernel)]; kernel_rfl) | (rw [if_neg (by decide +kernel)]; exact ⟨rfl, rfl⟩))
    (fun os started H enc _ => lifted os started H enc)

theorem proved : Rows.ArithPartsSaid := over
#print axioms proved
end Go.Proofs.Ytmgglicfhddmpaa.arithParts
