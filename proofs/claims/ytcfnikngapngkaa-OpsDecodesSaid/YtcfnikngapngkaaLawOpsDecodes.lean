/- PROVED: the law OpsDecodes: the program's Decode at any place of any bytes answers the document's own instruction and error; the argument reads as before. For every input. No condition. -/
import Derived.Test.YtcfnikngapngkaaOpsI
import Derived.Test.YtcfnikngapngkaaOpsN
import Derived.Test.YtcfnikngapngkaaOpsE
import Derived.Test.YtcfnikngapngkaaArg
import Derived.Test.YtcfnikngapngkaaBig
import Derived.ProofKit
import Derived.ShutString
import Derived.ChangeOld
import Derived.Below
import Derived.PinnedBridge
namespace Go.Proofs.Ytcfnikngapngkaa.opsDecodes
open Go.ChangeShapes Go.WideShapes Go.ChangeAt Go.RowKit
set_option linter.unusedVariables false
set_option linter.unusedSimpArgs false

set_option maxHeartbeats 4000000 in
set_option maxRecDepth 100000 in
theorem walk (v0 : Value) (a1 : Int) (w : World) (w0 : ∃ zs, Bytes w v0 zs ∧ zs.length ≤ 140737488351232) (w1 : (Lit.int .i64 a1).wf = true) :
    Calls Try.prog 4 #[v0, .int .i64 a1] w fun e w' => e = .returned (.bool true) ∧ Below w.heap.size w w' := by
  obtain ⟨zs, hb, hl⟩ := w0
  obtain ⟨i0, hi, hz0, hz1, hz2⟩ := info_parts info_u8
  obtain ⟨ao, cap, rfl, hq1, hq2, hq3, hbz, hcells⟩ := id hb
  unfold maxLen at hq2
  obtain ⟨k, hk⟩ : ∃ k, k = (decZ zs a1).1 := ⟨_, rfl⟩
  obtain ⟨n, hn⟩ : ∃ n, n = (decZ zs a1).2 := ⟨_, rfl⟩
  have c1 := fun w' v hb => progDecode v zs a1 w' hb (by omega)
  have c2 := fun w' v hb => refDecode v zs a1 w' hb (by omega)
  rw [← hk, ← hn] at c1 c2
  unfold valI at c1 c2
  have eq1 : ∀ w : World, (binOp .eql 29 (.agg #[.int .i64 k.at_, .int .i64 k.op, .int .i64 k.a, .int .i64 k.b, .int .i64 k.size]) (.agg #[.int .i64 k.at_, .int .i64 k.op, .int .i64 k.a, .int .i64 k.b, .int .i64 k.size])).run Try.prog w = .ok (.bool true) w := fun w => by
    have := eql_instr k k w
    rw [beq_self_eq_true] at this
    exact this
  have C1 := Lib.hid c1
  have C2 := Lib.hid c2
  have Hb := Lib.hid hb
  have EQ1 := Lib.hid eq1
  clear c1 c2 hb hcells hq3 w1 hk hn eq1
  go_enter Try.func4, Try.ntmps4
  go_wp2_with (at_builtin; go_loud (refine wpList_append_src rfl (.tmp 10) (.tmp 11) 27 rfl 5 i0 (.int .u8 0) 1 1 Try.underlying27 hi hz0 hz1 hz2 rfl (by decide) w.heap.size (.slice (some ⟨w.heap.size, 0, none⟩) 0 0) 0 [] rfl (by exact made0 w) (by simp) (.slice ao zs.length cap) zs.length (zs.map (Value.int .u8)) rfl (by exact (Src.of_bytes Hb.out).alloc _) (by unfold maxLen; omega) (by omega) ?_); intro v3 w2 hown hgrow hnew; obtain ⟨hr3, ho3⟩ := Row.copied hown hgrow hnew; clear hown hgrow hnew)
  refine (C1.out w2 v3 (hr3.bytes hbz)).mono ?_
  rintro e w3 ⟨rfl, ho4⟩
  have hon3 := ho3.trans ho4 (fun _ h _ => h)
  have hal := (Only.refl (fun _ => False) w3).alloc (.cells #[.int .i64 k.at_, .int .i64 k.op, .int .i64 k.a, .int .i64 k.b, .int .i64 k.size] 29)
  have hx4 := heap_alloc_new w3 (.cells #[.int .i64 k.at_, .int .i64 k.op, .int .i64 k.a, .int .i64 k.b, .int .i64 k.size] 29)
  have hon4 := hon3.trans hal (fun _ h _ => h)
  have HON4 := Lib.hid hon4
  have HX4 := Lib.hid hx4
  clear hr3 ho3 ho4 hon3 hal hx4 hon4 C1
  go_wp2_with (fail)
  refine (C2.out _ _ (Hb.out.only HON4.out (fun _ _ _ h => h))).mono ?_
  rintro e w5 ⟨rfl, ho5⟩
  have hal := (Only.refl (fun _ => False) w5).alloc (.cells #[.int .i64 k.at_, .int .i64 k.op, .int .i64 k.a, .int .i64 k.b, .int .i64 k.size] 29)
  have hy6 := heap_alloc_new w5 (.cells #[.int .i64 k.at_, .int .i64 k.op, .int .i64 k.a, .int .i64 k.b, .int .i64 k.size] 29)
  have hx6 := hal.heap (ho5.heap HX4.out (fun h => h)) (fun h => h)
  have hon6 := (HON4.out.trans ho5 (fun _ h _ => h)).trans hal (fun _ h _ => h)
  obtain ⟨q0, q1, q2, q3, q4⟩ := cells5 hx6
  obtain ⟨p0, p1, p2, p3, p4⟩ := cells5 hy6
  have HON6 := Lib.hid hon6
  have eq1 := EQ1.out
  have g1 := guard_instr
  clear ho5 hal hy6 hx6 hon6 HX4 HON4 C2 EQ1
  go_wp2_with (fail)
  refine (progAwake _).mono ?_
  rintro e w7 ⟨rfl, ho7⟩
  have HO7 := Lib.hid (HON6.out.trans ho7 (fun _ h _ => h))
  clear ho7
  go_wp2
  go_ret
  exact ⟨rfl, HO7.out.none⟩

theorem own : ownKnob Try.prog.godebug = none := by kernel_rfl
theorem laidOut : laidOutB Try.prog = true := by kernel_rfl

set_option maxRecDepth 100000 in
theorem lifted (os : Os) (started : os.Started) (H : Type) (enc : TypeId × Value → H) :
    ReturnsInHanded {} Try.checked os 4 .any (Rows.opsDecodesSpec.pre6 enc Try.prog Try.f4 Rows.opsDecodesRow.domain false) (Rows.opsDecodesSpec.post enc Try.prog Try.f4 false true false false) := by
  refine returnsInHanded_of_change_sized (C := Try.checked) own started (by kernel_rfl) Try.func4
    (ChangeSpec.witness6 (enc := enc) (C := Try.checked) false ⟨#[], #[.slice none 0 0, .int .i64 0], []⟩ 8 (by kernel_rfl) (by kernel_rfl) (by kernel_rfl) (by kernel_rfl)) ?_
  intro W base args ds gs before hval0 hW hcnd hsz0 _
  have hsz : (DataW.weightsEach Try.prog (Try.f4.params.toList ++ Rows.opsDecodesSpec.plain.varTypes Try.prog) (ds ++ gs)).all (· ≤ reachBytes) = true := hsz0
  clear hsz0
  have hval : ∀ (j : Nat) t v, Try.f4.params[j]? = some t → args[j]? = some v → Value.okWide Try.prog W .any base t v := hval0
  have hW' := hW
  obtain ⟨p, q, hA0, hV, rfl, hfz, hnd⟩ := hW
  have hA : DataW.TrodAll enc Try.prog W 0 (fun _ => true) true Try.f4.params.toList args.toList ds p := hA0
  rw [Try.params4] at hA hval hsz
  obtain ⟨v0, vs0, d0, ds0, p0, q0, hargs, rfl, rfl, h0, r0⟩ := trodAll_cons hA
  obtain ⟨v1, vs1, d1, ds1, p1, q1, rfl, rfl, rfl, h1, r1⟩ := trodAll_cons r0
  obtain ⟨rfl, rfl, rfl⟩ := trodAll_nil r1
  obtain rfl : args = #[v0, v1] := by cases args; simp_all
  obtain ⟨rfl, rfl⟩ := trodVars_none hV
  have k0 := h0
  have lt0 : ∀ x ∈ p0, x.block < W.heap.size := by obtain ⟨m, hm⟩ := k0; exact DataW.trod_lt m _ _ _ hm
  have w0 := arg_bytes (hval 0 27 v0 rfl rfl) h0 (light_arg (j := 0) hsz rfl rfl)
  obtain ⟨a1, rfl, rfl, rfl, w1⟩ := open_int Try.underlying3 (hval 1 3 v1 rfl rfl) h1
  clear hA0 hval0
  refine (walk v0 a1 W w0 w1).mono fun e W' ⟨he, bel⟩ => ?_
  subst he
  exact ⟨_, rfl, _, _, _, [], _, [], hW', trodAll_mk1 (shut_bool Try.underlying4 _), (trodAll_cons_mk (Below.trod laidOut (by kernel_rfl) (of_decide_eq_true (by kernel_rfl)) k0 bel lt0) (trodAll_cons_mk (shut_int Try.underlying3 w1) trodAll_mk0)), rfl, bel.frame _, fun h => by cases h⟩

theorem over : Rows.opsDecodesRow.holds Try.pinned (OpenSpec.ofChange Rows.opsDecodesSpec) :=
  OpenClaim.holds_of_wide 4 Try.f4 rfl rfl rfl rfl rfl rfl rfl ⟨rfl, rfl, rfl, rfl, rfl⟩ rfl rfl rfl rfl rfl (by kernel_rfl) Try.func4 (by kernel_rfl)
    (of_decide_eq_true (by kernel_rfl)) (by unfold Func.isWrapper; first | (rw [if_pos (by decide +kernel)]; kernel_rfl) | (rw [if_neg (by decide +kernel)]; exact ⟨rfl, rfl⟩))
    (fun os started H enc _ => lifted os started H enc)

theorem proved : Rows.OpsDecodesSaid := over
#print axioms proved
end Go.Proofs.Ytcfnikngapngkaa.opsDecodes
