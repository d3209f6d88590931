/- PROVED: the law FlowChecks: the program's Check of any method answers the document's own instructions and error; the argument reads as before. For every input of at most 1048576 values and letters in all (the second form). -/
import Derived.Test.YtngoajhnnlnphaaFloT
import Derived.Test.YtngoajhnnlnphaaFloC
import Derived.Test.YtngoajhnnlnphaaFloS
import Derived.Test.YtngoajhnnlnphaaFloAw
import Derived.Test.YtngoajhnnlnphaaFloV
import Derived.ProofKit
import Derived.ShutString
import Derived.ChangeOld
import Derived.Below
import Derived.PinnedBridge
import Derived.Deep.CondSized
namespace Go.Proofs.Ytngoajhnnlnphaa.flowChecks
open Go.ChangeShapes Go.WideShapes Go.ChangeAt Go.RowKit
set_option linter.unusedVariables false
set_option linter.unusedSimpArgs false

set_option maxHeartbeats 4000000 in
set_option maxRecDepth 100000 in
theorem walk (v0 : Value) (w : World) (w0 : ∃ (m : MethodV) (vc vt vm : Value), v0 = .agg #[.int .i64 m.flags, .int .i64 m.name, .int .i64 m.desc, .int .i64 m.stack, .int .i64 m.locals, vc, vt, vm] ∧ Inside w m vc vt vm ∧ m.code.length ≤ 1048576 ∧ m.traps.length ≤ 1048576) :
    Calls Try.prog 4 #[v0] w fun e w' => e = .returned (.bool true) ∧ Below w.heap.size w w' := by
  obtain ⟨m, vc, vt, vm, rfl, hm, hl, ht⟩ := w0
  obtain ⟨ac, cc, rfl, -⟩ := id hm.1
  obtain ⟨at_, ct, rfl, -⟩ := id hm.2.1.1
  obtain ⟨am, cm, rfl, -⟩ := id hm.2.2
  have hb0 := heap_alloc_new w (.cells #[.int .i64 m.flags, .int .i64 m.name, .int .i64 m.desc, .int .i64 m.stack, .int .i64 m.locals, .slice ac m.code.length cc, .slice at_ m.traps.length ct, .slice am m.maps.length cm] 34)
  have ho0 := (Only.refl (fun _ => False) w).alloc (.cells #[.int .i64 m.flags, .int .i64 m.name, .int .i64 m.desc, .int .i64 m.stack, .int .i64 m.locals, .slice ac m.code.length cc, .slice at_ m.traps.length ct, .slice am m.maps.length cm] 34)
  have C1 := Lib.hid (fun w' hm => progCheck7 m (.slice ac m.code.length cc) (.slice at_ m.traps.length ct) (.slice am m.maps.length cm) w' hm (by omega) (by omega))
  have C2 := Lib.hid (fun w' hm => refCheck7 m (.slice ac m.code.length cc) (.slice at_ m.traps.length ct) (.slice am m.maps.length cm) w' hm (by omega))
  have HM := Lib.hid hm
  have HB0 := Lib.hid hb0
  have HO0 := Lib.hid ho0
  clear hm hb0 ho0
  go_enter Try.func4, Try.ntmps4
  go_wp2_with (fail)
  refine (C1.out _ (HM.out.only HO0.out)).mono ?_
  rintro e w3 ⟨v, l, e0, rfl, hls, ho4, hrow⟩
  have hon3 := HO0.out.trans ho4 (fun _ h _ => h)
  have hb3 := ho4.heap HB0.out (fun h => h)
  have q0 := cell_blk hb3 0
  have q1 := cell_blk hb3 1
  have q2 := cell_blk hb3 2
  have q3 := cell_blk hb3 3
  have q4 := cell_blk hb3 4
  have q5 := cell_blk hb3 5
  have q6 := cell_blk hb3 6
  have q7 := cell_blk hb3 7
  simp only [List.getElem?_toArray, List.getElem?_cons_succ, List.getElem?_cons_zero] at q0 q1 q2 q3 q4 q5 q6 q7
  obtain ⟨a1, k1, rfl, g1, g2, g3, -⟩ := id hrow
  have HI1 := Lib.hid hrow
  have HLS := Lib.hid hls
  have HON3 := Lib.hid hon3
  clear ho4 hon3 C1 hrow hls g3 hb3
  go_wp2_with (fail)
  refine (C2.out _ (HM.out.only HON3.out)).mono ?_
  rintro e w5 ⟨v', l', e0', rfl, hls', ho5, hrow'⟩
  obtain ⟨rfl, rfl⟩ := HLS.out.unique hls'
  obtain ⟨a2, k2, rfl, s1, s2, s3, -⟩ := id hrow'
  have hln : l.length ≤ 1048576 := by
    obtain ⟨l0, e1, h0, h1⟩ := hls'
    have := h0.short
    rcases h1 with ⟨_, rfl, _⟩ | ⟨_, ⟨_, rfl, _⟩ | ⟨_, rfl, _⟩⟩
    · simp
    · simp
    · omega
  have c3 := sameI _ _ l w5 (HI1.out.only ho5) hrow' (by omega)
  have HON5 := Lib.hid (HON3.out.trans ho5 (fun _ h _ => h))
  have C3 := Lib.hid c3
  clear hls' ho5 hrow' c3 s3 C2 q0 q1 q2 q3 q4 q5 q6 q7
  go_wp2_with (fail)
  refine C3.out.mono ?_
  rintro e w6 ⟨rfl, ho6⟩
  have HON6 := Lib.hid (HON5.out.trans ho6 (fun _ h _ => h))
  clear ho6 C3
  go_wp2_with (fail)
  refine (awake7 _).mono ?_
  rintro e w7 ⟨rfl, ho7⟩
  have HO7 := Lib.hid (HON6.out.trans ho7 (fun _ h _ => h))
  clear ho7
  go_wp2
  go_ret
  exact ⟨rfl, HO7.out.none⟩

theorem own : ownKnob Try.prog.godebug = none := by kernel_rfl
theorem laidOut : laidOutB Try.prog = true := by kernel_rfl

set_option maxRecDepth 100000 in
theorem lifted (os : Os) (started : os.Started) (H : Type) (enc : TypeId × Value → H) (FF : Stop.Interp) :
    ReturnsInHanded {} Try.checked os 4 .any ((Rows.OpenSpec.upto Rows.flowChecksSpec).pre6 enc Try.prog Try.f4 Rows.flowChecksUptoRow.domain false) (((Rows.OpenSpec.upto Rows.flowChecksSpec).at FF).post enc Try.prog Try.f4 false true false false) := by
  refine returnsInHanded_of_cond_sized (C := Try.checked) (s := Rows.OpenSpec.upto Rows.flowChecksSpec) (k := Rows.uptoSmall) rfl own started (by kernel_rfl) Try.func4
    (OpenSpec.witness (enc := enc) (C := Try.checked) (s := Rows.OpenSpec.upto Rows.flowChecksSpec) (k := Rows.uptoSmall) rfl false ⟨#[], #[.agg #[.int .i64 0, .int .i64 0, .int .i64 0, .int .i64 0, .int .i64 0, .slice none 0 0, .slice none 0 0, .slice none 0 0]], []⟩ 8 (by kernel_rfl) (by kernel_rfl) (by kernel_rfl)
      (x := ([.agg [.lit (.int .i64 0), .lit (.int .i64 0), .lit (.int .i64 0), .lit (.int .i64 0), .lit (.int .i64 0), .nil, .nil, .nil]], [], [])) (by kernel_rfl) rfl (by kernel_rfl)) ?_
  intro W base args ds gs before hval0 hW _ hk hsz0 _
  have hsz : (DataW.weightsEach Try.prog (Try.f4.params.toList ++ Rows.flowChecksSpec.plain.varTypes Try.prog) (ds ++ gs)).all (· ≤ reachBytes) = true := hsz0
  clear hsz0
  have hval : ∀ (j : Nat) t v, Try.f4.params[j]? = some t → args[j]? = some v → Value.okWide Try.prog W .any base t v := hval0
  have hW' := hW
  obtain ⟨p, q, hA0, hV, rfl, hfz, hnd⟩ := hW
  have hA : DataW.TrodAll enc Try.prog W 0 (fun _ => true) true Try.f4.params.toList args.toList ds p := hA0
  rw [Try.params4] at hA hval hsz
  obtain ⟨v0, vs0, d0, ds0, p0, q0, hargs, rfl, rfl, h0, r0⟩ := trodAll_cons hA
  obtain ⟨rfl, rfl, rfl⟩ := trodAll_nil r0
  obtain rfl : args = #[v0] := by cases args; simp_all
  obtain ⟨rfl, rfl⟩ := trodVars_none hV
  have hb := of_decide_eq_true hk
  simp only [List.cons_append, List.nil_append, Rows.uptoBulkAll] at hb
  have k0 := h0
  have lt0 : ∀ x ∈ p0, x.block < W.heap.size := by obtain ⟨m, hm⟩ := k0; exact DataW.trod_lt m _ _ _ hm
  have w0 := arg_methodB (hval 0 34 v0 rfl rfl) h0 (light_arg (j := 0) hsz rfl rfl) (by omega)
  clear hA0 hval0
  refine (walk v0 W w0).mono fun e W' ⟨he, bel⟩ => ?_
  subst he
  exact ⟨_, rfl, _, _, _, [], _, [], hW', trodAll_mk1 (shut_bool Try.underlying4 _), (trodAll_cons_mk (Below.trod laidOut (by kernel_rfl) (of_decide_eq_true (by kernel_rfl)) k0 bel lt0) trodAll_mk0), rfl, bel.frame _, fun h => by cases h⟩

theorem over : Rows.FlowChecksUptoSaid :=
  OpenClaim.holds_of_cond 4 Try.f4 rfl rfl rfl rfl rfl rfl rfl ⟨rfl, rfl, rfl, rfl, rfl⟩ rfl rfl rfl rfl rfl (by kernel_rfl) Try.func4 (by kernel_rfl)
    (of_decide_eq_true (by kernel_rfl)) (by unfold Func.isWrapper; first | (rw [if_pos (by decide +kernel)]; kernel_rfl) | (rw [if_neg (by decide +kernel)]; exact ⟨rfl, rfl⟩))
    (fun os started H enc _ F => lifted os started H enc F)

theorem proved : Rows.FlowChecksUptoSaid := over
#print axioms proved
end Go.Proofs.Ytngoajhnnlnphaa.flowChecks
