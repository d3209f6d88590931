/- PROVED: the law KindFields: the type of any field's descriptor, the program answers as the document; the argument reads as before. For every input. No condition. -/
import Derived.Test.YtcmceabkadgfiaaKndU
import Derived.Test.YtcmceabkadgfiaaKndN
import Derived.Test.YtcmceabkadgfiaaKndK
import Derived.Test.YtcmceabkadgfiaaKndY
import Derived.ProofKit
import Derived.ShutString
import Derived.ChangeOld
import Derived.Below
import Derived.SizedLaws
import Derived.PinnedBridge
import Derived.Deep.CondSized
import Derived.Deep.RegionHeld3
namespace Go.Proofs.Ytcmceabkadgfiaa.kindFields
open Go.ChangeShapes Go.WideShapes Go.ChangeAt Go.RowKit
set_option linter.unusedVariables false
set_option linter.unusedSimpArgs false

set_option maxHeartbeats 4000000 in
set_option maxRecDepth 100000 in
theorem walk (s : ByteArray) (w : World) (hs : s.size ≤ 140737488351232) :
    Calls Try.prog 3 #[.string s] w fun e w' => e = .returned (.bool true) ∧ Below w.heap.size w w' := by
  have c1 := progField s w (by omega)
  have c2 := fun w => refField s w (by omega)
  unfold OneTo at c1
  generalize oneZ8 (nums s) = o at *
  have eq1 := fun w => eql_type (typO o) (typO o) w
  rw [eqT_self] at eq1
  have g1 := guard_type
  generalize typO o = t at *
  generalize errO o = er at *
  unfold valT at c1 c2 eq1
  have C1 := Lib.hid c1
  have C2 := Lib.hid c2
  have CA := Lib.hid awake8
  clear c1 c2
  go_enter Try.func3, Try.ntmps3
  go_wp2_with (fail)
  refine C1.out.mono ?_
  rintro e w1 ⟨rfl, ho1⟩
  have hal1 := (Only.refl (fun _ => False) w1).alloc (.cells #[.int .i64 t.k, .string t.name, .int .i64 t.dims, .int .i64 t.elem, .int .i64 t.at_] 23)
  have hb1 := heap_alloc_new w1 (.cells #[.int .i64 t.k, .string t.name, .int .i64 t.dims, .int .i64 t.elem, .int .i64 t.at_] 23)
  have HO1 := Lib.hid (ho1.trans hal1 (fun _ h _ => h))
  have HB1 := Lib.hid hb1
  clear ho1 hal1 hb1 C1
  go_wp2_with (fail)
  refine (C2.out _).mono ?_
  rintro e w2 ⟨rfl, ho2⟩
  have hal2 := (Only.refl (fun _ => False) w2).alloc (.cells #[.int .i64 t.k, .string t.name, .int .i64 t.dims, .int .i64 t.elem, .int .i64 t.at_] 23)
  have hb2 := heap_alloc_new w2 (.cells #[.int .i64 t.k, .string t.name, .int .i64 t.dims, .int .i64 t.elem, .int .i64 t.at_] 23)
  have hb1 := hal2.heap (ho2.heap HB1.out (fun h => h)) (fun h => h)
  obtain ⟨q0, q1, q2, q3, q4⟩ := cells5T hb1
  obtain ⟨p0, p1, p2, p3, p4⟩ := cells5T hb2
  have HO2 := Lib.hid ((HO1.out.trans ho2 (fun _ h _ => h)).trans hal2 (fun _ h _ => h))
  clear ho2 hal2 hb1 hb2 C2
  go_wp2_with (fail)
  refine (CA.out _).mono ?_
  rintro e w3 ⟨rfl, ho3⟩
  have HO3 := Lib.hid (HO2.out.trans ho3 (fun _ h _ => h))
  clear ho3
  go_wp2
  go_ret
  exact ⟨rfl, HO3.out.none⟩

theorem own : ownKnob Try.prog.godebug = none := by kernel_rfl
theorem laidOut : laidOutB Try.prog = true := by kernel_rfl

set_option maxRecDepth 100000 in
theorem lifted (os : Os) (started : os.Started) (H : Type) (enc : TypeId × Value → H) :
    ReturnsInHanded {} Try.checked os 3 .any (Rows.kindFieldsSpec.pre6 enc Try.prog Try.f3 Rows.kindFieldsRow.domain false) (Rows.kindFieldsSpec.post enc Try.prog Try.f3 false true false false) := by
  refine returnsInHanded_of_change_sized (C := Try.checked) own started (by kernel_rfl) Try.func3
    (ChangeSpec.witness6 (enc := enc) (C := Try.checked) false ⟨#[], #[.string ⟨#[]⟩], []⟩ 8 (by kernel_rfl) (by kernel_rfl) (by kernel_rfl) (by kernel_rfl)) ?_
  intro W base args ds gs before hval0 hW hcnd hsz0 _
  have hsz : (DataW.weightsEach Try.prog (Try.f3.params.toList ++ Rows.kindFieldsSpec.plain.varTypes Try.prog) (ds ++ gs)).all (· ≤ reachBytes) = true := hsz0
  clear hsz0
  have hval : ∀ (j : Nat) t v, Try.f3.params[j]? = some t → args[j]? = some v → Value.okWide Try.prog W .any base t v := hval0
  have hW' := hW
  obtain ⟨p, q, hA0, hV, rfl, hfz, hnd⟩ := hW
  have hA : DataW.TrodAll enc Try.prog W 0 (fun _ => true) true Try.f3.params.toList args.toList ds p := hA0
  rw [Try.params3] at hA hval hsz
  obtain ⟨v0, vs0, d0, ds0, p0, q0, hargs, rfl, rfl, h0, r0⟩ := trodAll_cons hA
  obtain ⟨rfl, rfl, rfl⟩ := trodAll_nil r0
  obtain rfl : args = #[v0] := by cases args; simp_all
  obtain ⟨rfl, rfl⟩ := trodVars_none hV
  obtain ⟨a0, rfl, rfl, rfl, w0⟩ := ChangeMaps.open_string Try.underlying9 (hval 0 9 v0 rfl rfl) h0
  have z0 : a0.size ≤ 140737488351232 := by have := sized_string hsz (j := 0) rfl rfl; unfold reachBytes at this; rw [Lib.size_eq]; omega
  clear hA0 hval0
  refine (walk a0 W z0).mono fun e W' ⟨he, bel⟩ => ?_
  subst he
  exact ⟨_, rfl, _, _, _, [], _, [], hW', trodAll_mk1 (shut_bool Try.underlying4 _), (trodAll_cons_mk (ChangeMaps.shut_string Try.underlying9 w0) trodAll_mk0), rfl, bel.frame _, fun h => by cases h⟩

theorem over : Rows.kindFieldsRow.holds Try.pinned (OpenSpec.ofChange Rows.kindFieldsSpec) :=
  OpenClaim.holds_of_wide 3 Try.f3 rfl rfl rfl rfl rfl rfl rfl ⟨rfl, rfl, rfl, rfl, rfl⟩ rfl rfl rfl rfl rfl (by kernel_rfl) Try.func3 (by kernel_rfl)
    (of_decide_eq_true (by kernel_rfl)) (by unfold Func.isWrapper; first | (rw [if_pos (by decide +kernel)]; kernel_rfl) | (rw [if_neg (by decide +kernel)]; exact ⟨rfl, rfl⟩))
    (fun os started H enc _ => lifted os started H enc)

theorem proved : Rows.KindFieldsSaid := over
#print axioms proved
end Go.Proofs.Ytcmceabkadgfiaa.kindFields
