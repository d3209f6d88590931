/- PROVED: the law OpsEncodes: the program's Encode of any instruction answers the document's own bytes and error; the argument reads as before. For every input. No condition. -/
import Derived.Test.YtcfnikngapngkaaOpsK
import Derived.Test.YtcfnikngapngkaaOpsP
import Derived.Test.YtcfnikngapngkaaOpsD
import Derived.Test.YtcfnikngapngkaaOpsV
import Derived.Test.YtcfnikngapngkaaArg
import Derived.Test.YtcfnikngapngkaaBig
import Derived.ProofKit
import Derived.ShutString
import Derived.ChangeOld
import Derived.Below
import Derived.PinnedBridge
namespace Go.Proofs.Ytcfnikngapngkaa.opsEncodes
open Go.ChangeShapes Go.WideShapes Go.ChangeAt Go.RowKit
set_option linter.unusedVariables false
set_option linter.unusedSimpArgs false

set_option maxHeartbeats 4000000 in
set_option maxRecDepth 100000 in
theorem walk (v0 : Value) (w : World) (w0 : ∃ i, v0 = valI i ∧ InstrR i) :
    Calls Try.prog 5 #[v0] w fun e w' => e = .returned (.bool true) ∧ Below w.heap.size w w' := by
  obtain ⟨i, rfl, hir⟩ := w0
  have hb0 := heap_alloc_new w (.cells #[.int .i64 i.at_, .int .i64 i.op, .int .i64 i.a, .int .i64 i.b, .int .i64 i.size] 29)
  have ho0 := (Only.refl (fun _ => False) w).alloc (.cells #[.int .i64 i.at_, .int .i64 i.op, .int .i64 i.a, .int .i64 i.b, .int .i64 i.size] 29)
  have c1 := fun w' => progEncode i w' hir
  have c2 := fun w' => refEncode i w' hir
  generalize encZ i = r at *
  unfold valI at c1 c2 ⊢
  have C1 := Lib.hid c1
  have C2 := Lib.hid c2
  have HB0 := Lib.hid hb0
  have HO0 := Lib.hid ho0
  clear c1 c2 hb0 ho0 hir
  go_enter Try.func5, Try.ntmps5
  go_wp2_with (fail)
  refine (C1.out _).mono ?_
  rintro e w1 ⟨v1, rfl, hb1, ho1⟩
  have hx1 := ho1.heap HB0.out (fun h => h)
  have hon1 := HO0.out.trans ho1 (fun _ h _ => h)
  obtain ⟨q0, q1, q2, q3, q4⟩ := cells5 hx1
  have HON1 := Lib.hid hon1
  have Hb1 := Lib.hid hb1
  clear ho1 hx1 hon1 hb1 C1 HB0 HO0
  go_wp2_with (fail)
  refine (C2.out _).mono ?_
  rintro e w2 ⟨v2, rfl, hb2, ho2⟩
  have hon2 := HON1.out.trans ho2 (fun _ h _ => h)
  have e1 := conv8 (Hb1.out.only ho2 (fun _ _ _ h => h))
  have e2 := conv8 hb2
  have HON2 := Lib.hid hon2
  clear ho2 hon2 hb2 C2 HON1 Hb1 q0 q1 q2 q3 q4
  go_wp2_with (fail)
  refine (progAwake _).mono ?_
  rintro e w3 ⟨rfl, ho3⟩
  have HO3 := Lib.hid (HON2.out.trans ho3 (fun _ h _ => h))
  clear ho3
  go_wp2
  go_ret
  exact ⟨rfl, HO3.out.none⟩

theorem own : ownKnob Try.prog.godebug = none := by kernel_rfl
theorem laidOut : laidOutB Try.prog = true := by kernel_rfl

set_option maxRecDepth 100000 in
theorem lifted (os : Os) (started : os.Started) (H : Type) (enc : TypeId × Value → H) :
    ReturnsInHanded {} Try.checked os 5 .any (Rows.opsEncodesSpec.pre6 enc Try.prog Try.f5 Rows.opsEncodesRow.domain false) (Rows.opsEncodesSpec.post enc Try.prog Try.f5 false true false false) := by
  refine returnsInHanded_of_change_sized (C := Try.checked) own started (by kernel_rfl) Try.func5
    (ChangeSpec.witness6 (enc := enc) (C := Try.checked) false ⟨#[], #[.agg #[.int .i64 0, .int .i64 0, .int .i64 0, .int .i64 0, .int .i64 0]], []⟩ 8 (by kernel_rfl) (by kernel_rfl) (by kernel_rfl) (by kernel_rfl)) ?_
  intro W base args ds gs before hval0 hW hcnd hsz0 _
  have hsz : (DataW.weightsEach Try.prog (Try.f5.params.toList ++ Rows.opsEncodesSpec.plain.varTypes Try.prog) (ds ++ gs)).all (· ≤ reachBytes) = true := hsz0
  clear hsz0
  have hval : ∀ (j : Nat) t v, Try.f5.params[j]? = some t → args[j]? = some v → Value.okWide Try.prog W .any base t v := hval0
  have hW' := hW
  obtain ⟨p, q, hA0, hV, rfl, hfz, hnd⟩ := hW
  have hA : DataW.TrodAll enc Try.prog W 0 (fun _ => true) true Try.f5.params.toList args.toList ds p := hA0
  rw [Try.params5] at hA hval hsz
  obtain ⟨v0, vs0, d0, ds0, p0, q0, hargs, rfl, rfl, h0, r0⟩ := trodAll_cons hA
  obtain ⟨rfl, rfl, rfl⟩ := trodAll_nil r0
  obtain rfl : args = #[v0] := by cases args; simp_all
  obtain ⟨rfl, rfl⟩ := trodVars_none hV
  have k0 := h0
  have lt0 : ∀ x ∈ p0, x.block < W.heap.size := by obtain ⟨m, hm⟩ := k0; exact DataW.trod_lt m _ _ _ hm
  have w0 := arg_instr (hval 0 29 v0 rfl rfl) h0 (light_arg (j := 0) hsz rfl rfl)
  clear hA0 hval0
  refine (walk v0 W w0).mono fun e W' ⟨he, bel⟩ => ?_
  subst he
  exact ⟨_, rfl, _, _, _, [], _, [], hW', trodAll_mk1 (shut_bool Try.underlying4 _), (trodAll_cons_mk (Below.trod laidOut (by kernel_rfl) (of_decide_eq_true (by kernel_rfl)) k0 bel lt0) trodAll_mk0), rfl, bel.frame _, fun h => by cases h⟩

theorem over : Rows.opsEncodesRow.holds Try.pinned (OpenSpec.ofChange Rows.opsEncodesSpec) :=
  OpenClaim.holds_of_wide 5 Try.f5 rfl rfl rfl rfl rfl rfl rfl ⟨rfl, rfl, rfl, rfl, rfl⟩ rfl rfl rfl rfl rfl (by kernel_rfl) Try.func5 (by kernel_rfl)
    (of_decide_eq_true (by kernel_rfl)) (by unfold Func.isWrapper; first | (rw [if_pos (by decide +kernel)]; kernel_rfl) | (rw [if_neg (by decide +kernel)]; exact ⟨rfl, rfl⟩))
    (fun os started H enc _ => lifted os started H enc)

theorem proved : Rows.OpsEncodesSaid := over
#print axioms proved
end Go.Proofs.Ytcfnikngapngkaa.opsEncodes
