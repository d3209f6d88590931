/- PROVED: the law KindTexts: any type's descriptor, and what it holds, the program answers as the document; the argument reads as before. For every input. No condition. -/
import Derived.Test.YtcmceabkadgfiaaKndX
import Derived.Test.YtcmceabkadgfiaaKndN
import Derived.Test.YtcmceabkadgfiaaKndK
import Derived.Test.YtcmceabkadgfiaaKndY
import Derived.ProofKit
import Derived.ShutString
import Derived.ChangeOld
import Derived.Below
import Derived.SizedLaws
import Derived.PinnedBridge
import Derived.Deep.CondSized
import Derived.Deep.RegionHeld3
namespace Go.Proofs.Ytcmceabkadgfiaa.kindTexts
open Go.ChangeShapes Go.WideShapes Go.ChangeAt Go.RowKit
set_option linter.unusedVariables false
set_option linter.unusedSimpArgs false

set_option maxHeartbeats 8000000 in
set_option maxRecDepth 100000 in
theorem walk (va : Value) (w : World) (ha : ∃ t, va = valT t ∧ TypeR t) :
    Calls Try.prog 5 #[va] w fun e w' => e = .returned (.bool true) ∧ Below w.heap.size w w' := by
  obtain ⟨a, rfl, ha⟩ := ha
  have hoa := (Only.refl (fun _ => False) w).alloc (.cells #[.int .i64 a.k, .string a.name, .int .i64 a.dims, .int .i64 a.elem, .int .i64 a.at_] 23)
  have hba := heap_alloc_new w (.cells #[.int .i64 a.k, .string a.name, .int .i64 a.dims, .int .i64 a.elem, .int .i64 a.at_] 23)
  have c1 := fun w => progHolds a w ha
  have c2 := fun w => refHolds a w ha
  have c3 := fun w => progText a w ha.2.2.2.2
  have c4 := fun w => refKText a w ha
  obtain ⟨h, hf⟩ : ∃ h, holdsZ8 a = h := ⟨_, rfl⟩
  rw [hf] at c1 c2
  obtain ⟨t, f⟩ := h
  generalize textZ8 a = s at *
  have hss : (s.toList == s.toList) = true := by simp
  have hff : (f == f) = true := by simp
  have eq1 := fun w => eql_type t t w
  rw [eqT_self] at eq1
  unfold valT at c1 c2 c3 c4 eq1 ⊢
  simp only at c1 c2 eq1
  have g1 := guard_type
  have C1 := Lib.hid c1
  have C2 := Lib.hid c2
  have C3 := Lib.hid c3
  have C4 := Lib.hid c4
  have CA := Lib.hid awake8
  have HOA := Lib.hid hoa
  have HBA := Lib.hid hba
  clear c1 c2 c3 c4 ha hoa hba hf
  go_enter Try.func5, Try.ntmps5
  go_wp2_with (fail)
  refine (C1.out _).mono ?_
  rintro e w1 ⟨rfl, ho1⟩
  have hal1 := (Only.refl (fun _ => False) w1).alloc (.cells #[.int .i64 t.k, .string t.name, .int .i64 t.dims, .int .i64 t.elem, .int .i64 t.at_] 23)
  have hb1 := heap_alloc_new w1 (.cells #[.int .i64 t.k, .string t.name, .int .i64 t.dims, .int .i64 t.elem, .int .i64 t.at_] 23)
  have hba1 := hal1.heap (ho1.heap HBA.out (fun h => h)) (fun h => h)
  obtain ⟨q0, q1, q2, q3, q4⟩ := cells5T hba1
  have HO1 := Lib.hid ((HOA.out.trans ho1 (fun _ h _ => h)).trans hal1 (fun _ h _ => h))
  have HB1 := Lib.hid hb1
  have HBA1 := Lib.hid hba1
  clear ho1 hal1 hb1 hba1
  go_wp2_with (fail)
  refine (C2.out _).mono ?_
  rintro e w2 ⟨rfl, ho2⟩
  have hal2 := (Only.refl (fun _ => False) w2).alloc (.cells #[.int .i64 t.k, .string t.name, .int .i64 t.dims, .int .i64 t.elem, .int .i64 t.at_] 23)
  have hb2 := heap_alloc_new w2 (.cells #[.int .i64 t.k, .string t.name, .int .i64 t.dims, .int .i64 t.elem, .int .i64 t.at_] 23)
  have hb12 := hal2.heap (ho2.heap HB1.out (fun h => h)) (fun h => h)
  have hba2 := hal2.heap (ho2.heap HBA1.out (fun h => h)) (fun h => h)
  clear q0 q1 q2 q3 q4
  obtain ⟨q0, q1, q2, q3, q4⟩ := cells5T hba2
  obtain ⟨r0, r1, r2, r3, r4⟩ := cells5T hb12
  obtain ⟨s0, s1, s2, s3, s4⟩ := cells5T hb2
  have hO2 := (HO1.out.trans ho2 (fun _ h _ => h)).trans hal2 (fun _ h _ => h)
  clear ho2 hal2 hb12 hba2 hb2
  go_wp2
  go_region_held3 (fun W => (W.cell? ⟨w.heap.size, 0, none⟩ = some (.int .i64 a.k) ∧ W.cell? ⟨w.heap.size, 1, none⟩ = some (.string a.name) ∧ W.cell? ⟨w.heap.size, 2, none⟩ = some (.int .i64 a.dims) ∧ W.cell? ⟨w.heap.size, 3, none⟩ = some (.int .i64 a.elem) ∧ W.cell? ⟨w.heap.size, 4, none⟩ = some (.int .i64 a.at_) ∧ W.cell? ⟨w1.heap.size, 0, none⟩ = some (.int .i64 t.k) ∧ W.cell? ⟨w1.heap.size, 1, none⟩ = some (.string t.name) ∧ W.cell? ⟨w1.heap.size, 2, none⟩ = some (.int .i64 t.dims) ∧ W.cell? ⟨w1.heap.size, 3, none⟩ = some (.int .i64 t.elem) ∧ W.cell? ⟨w1.heap.size, 4, none⟩ = some (.int .i64 t.at_) ∧ W.cell? ⟨w2.heap.size, 0, none⟩ = some (.int .i64 t.k) ∧ W.cell? ⟨w2.heap.size, 1, none⟩ = some (.string t.name) ∧ W.cell? ⟨w2.heap.size, 2, none⟩ = some (.int .i64 t.dims) ∧ W.cell? ⟨w2.heap.size, 3, none⟩ = some (.int .i64 t.elem) ∧ W.cell? ⟨w2.heap.size, 4, none⟩ = some (.int .i64 t.at_)) ∧ Only (fun _ => False) w W)
    (first | exact ⟨⟨q0, q1, q2, q3, q4, r0, r1, r2, r3, r4, s0, s1, s2, s3, s4⟩, hO2⟩ | exact ⟨⟨q0, q1, q2, q3, q4, r0, r1, r2, r3, r4, s0, s1, s2, s3, s4⟩, hO2.drew⟩ | exact hkp)
    (first
      | (go_at_call 19; refine (C3.out _).mono ?_; rintro e w3 ⟨rfl, hop⟩; have hkp := keepS15 hop (by assumption))
      | (go_at_call 20; refine (C4.out _).mono ?_; rintro e w3 ⟨rfl, hor⟩; have hkp := keepS15 hor (by assumption))
      | (go_at_call 13; refine (CA.out _).mono ?_; rintro e w4 ⟨rfl, hoa⟩; have hkp := keepS15 hoa (by assumption)))
  all_goals
    go_wp2
    go_ret
    exact ⟨rfl, Only.none (onlyS15 (by assumption))⟩

theorem own : ownKnob Try.prog.godebug = none := by kernel_rfl
theorem laidOut : laidOutB Try.prog = true := by kernel_rfl

set_option maxRecDepth 100000 in
theorem lifted (os : Os) (started : os.Started) (H : Type) (enc : TypeId × Value → H) :
    ReturnsInHanded {} Try.checked os 5 .any (Rows.kindTextsSpec.pre6 enc Try.prog Try.f5 Rows.kindTextsRow.domain false) (Rows.kindTextsSpec.post enc Try.prog Try.f5 false true false false) := by
  refine returnsInHanded_of_change_sized (C := Try.checked) own started (by kernel_rfl) Try.func5
    (ChangeSpec.witness6 (enc := enc) (C := Try.checked) false ⟨#[], #[.agg #[.int .i64 0, .string ⟨#[]⟩, .int .i64 0, .int .i64 0, .int .i64 0]], []⟩ 8 (by kernel_rfl) (by kernel_rfl) (by kernel_rfl) (by kernel_rfl)) ?_
  intro W base args ds gs before hval0 hW hcnd hsz0 _
  have hsz : (DataW.weightsEach Try.prog (Try.f5.params.toList ++ Rows.kindTextsSpec.plain.varTypes Try.prog) (ds ++ gs)).all (· ≤ reachBytes) = true := hsz0
  clear hsz0
  have hval : ∀ (j : Nat) t v, Try.f5.params[j]? = some t → args[j]? = some v → Value.okWide Try.prog W .any base t v := hval0
  have hW' := hW
  obtain ⟨p, q, hA0, hV, rfl, hfz, hnd⟩ := hW
  have hA : DataW.TrodAll enc Try.prog W 0 (fun _ => true) true Try.f5.params.toList args.toList ds p := hA0
  rw [Try.params5] at hA hval hsz
  obtain ⟨v0, vs0, d0, ds0, p0, q0, hargs, rfl, rfl, h0, r0⟩ := trodAll_cons hA
  obtain ⟨rfl, rfl, rfl⟩ := trodAll_nil r0
  obtain rfl : args = #[v0] := by cases args; simp_all
  obtain ⟨rfl, rfl⟩ := trodVars_none hV
  have k0 := h0
  have lt0 : ∀ x ∈ p0, x.block < W.heap.size := by obtain ⟨m, hm⟩ := k0; exact DataW.trod_lt m _ _ _ hm
  have w0 := arg_type8 (hval 0 23 v0 rfl rfl) h0 (light_arg (j := 0) hsz rfl rfl)
  clear hA0 hval0
  refine (walk v0 W w0).mono fun e W' ⟨he, bel⟩ => ?_
  subst he
  exact ⟨_, rfl, _, _, _, [], _, [], hW', trodAll_mk1 (shut_bool Try.underlying4 _), (trodAll_cons_mk (Below.trod laidOut (by kernel_rfl) (of_decide_eq_true (by kernel_rfl)) k0 bel lt0) trodAll_mk0), rfl, bel.frame _, fun h => by cases h⟩

theorem over : Rows.kindTextsRow.holds Try.pinned (OpenSpec.ofChange Rows.kindTextsSpec) :=
  OpenClaim.holds_of_wide 5 Try.f5 rfl rfl rfl rfl rfl rfl rfl ⟨rfl, rfl, rfl, rfl, rfl⟩ rfl rfl rfl rfl rfl (by kernel_rfl) Try.func5 (by kernel_rfl)
    (of_decide_eq_true (by kernel_rfl)) (by unfold Func.isWrapper; first | (rw [if_pos (by decide +kernel)]; kernel_rfl) | (rw [if_neg (by decide +kernel)]; exact ⟨rfl, rfl⟩))
    (fun os started H enc _ => lifted os started H enc)

theorem proved : Rows.KindTextsSaid := over
#print axioms proved
end Go.Proofs.Ytcmceabkadgfiaa.kindTexts
