/- PROVED: the law FlowLists: the program's List of any code answers the document's own instructions and error; the argument reads as before. For every input of at most 1048576 values and letters in all (the second form). -/
import Derived.Test.YtngoajhnnlnphaaFloM
import Derived.Test.YtngoajhnnlnphaaFloL
import Derived.Test.YtngoajhnnlnphaaFloS
import Derived.Test.YtngoajhnnlnphaaFloAw
import Derived.Test.YtngoajhnnlnphaaFloV
import Derived.ProofKit
import Derived.ShutString
import Derived.ChangeOld
import Derived.Below
import Derived.PinnedBridge
import Derived.Deep.CondSized
namespace Go.Proofs.Ytngoajhnnlnphaa.flowLists
open Go.ChangeShapes Go.WideShapes Go.ChangeAt Go.RowKit
set_option linter.unusedVariables false
set_option linter.unusedSimpArgs false

set_option maxHeartbeats 4000000 in
set_option maxRecDepth 100000 in
theorem walk (v0 : Value) (w : World) (w0 : ∃ zs, Bytes w v0 zs ∧ zs.length ≤ 1048576) :
    Calls Try.prog 3 #[v0] w fun e w' => e = .returned (.bool true) ∧ Below w.heap.size w w' := by
  obtain ⟨zs, hb, hl⟩ := w0
  obtain ⟨i0, hi, hz0, hz1, hz2⟩ := info_parts info_u8
  obtain ⟨ao, cap, rfl, hq1, hq2, hq3, hbz, hcells⟩ := id hb
  unfold maxLen at hq2
  have C1 := Lib.hid (fun w' v hb => progList v zs w' hb (by omega))
  have C2 := Lib.hid (fun w' v hb => refList v zs w' hb (by omega))
  have Hb := Lib.hid hb
  clear hb hcells hq3
  go_enter Try.func3, Try.ntmps3
  go_wp2_with (at_builtin; go_loud (refine wpList_append_src rfl (.tmp 8) (.tmp 9) 22 rfl 5 i0 (.int .u8 0) 1 1 Try.underlying22 hi hz0 hz1 hz2 rfl (by decide) w.heap.size (.slice (some ⟨w.heap.size, 0, none⟩) 0 0) 0 [] rfl (by exact made0 w) (by simp) (.slice ao zs.length cap) zs.length (zs.map (Value.int .u8)) rfl (by exact (Src.of_bytes Hb.out).alloc _) (by unfold maxLen; omega) (by omega) ?_); intro v3 w2 hown hgrow hnew; obtain ⟨hr3, ho3⟩ := Row.copied hown hgrow hnew; clear hown hgrow hnew)
  refine (C1.out w2 v3 (hr3.bytes hbz)).mono ?_
  rintro e w3 ⟨v, l, e0, rfl, hls, ho4, hrow⟩
  have hon3 := ho3.trans ho4 (fun _ h _ => h)
  obtain ⟨a1, k1, rfl, g1, g2, g3, -⟩ := id hrow.instrs
  have HI1 := Lib.hid hrow.instrs
  have HLS := Lib.hid hls
  have HON3 := Lib.hid hon3
  clear hr3 ho3 ho4 hon3 C1 hrow hls g3
  go_wp2_with (fail)
  refine (C2.out _ _ (Hb.out.only HON3.out (fun _ _ _ h => h))).mono ?_
  rintro e w5 ⟨v', l', e0', rfl, hls', ho5, hrow'⟩
  obtain ⟨rfl, rfl⟩ := HLS.out.unique hls'
  have hln := hls'.short
  obtain ⟨a2, k2, rfl, s1, s2, s3, -⟩ := id hrow'.instrs
  have c3 := sameI _ _ l w5 (HI1.out.only ho5) hrow'.instrs (by omega)
  have HON5 := Lib.hid (HON3.out.trans ho5 (fun _ h _ => h))
  have C3 := Lib.hid c3
  clear hls' ho5 hrow' c3 s3 C2
  go_wp2_with (fail)
  refine C3.out.mono ?_
  rintro e w6 ⟨rfl, ho6⟩
  have HON6 := Lib.hid (HON5.out.trans ho6 (fun _ h _ => h))
  clear ho6 C3
  go_wp2_with (fail)
  refine (awake7 _).mono ?_
  rintro e w7 ⟨rfl, ho7⟩
  have HO7 := Lib.hid (HON6.out.trans ho7 (fun _ h _ => h))
  clear ho7
  go_wp2
  go_ret
  exact ⟨rfl, HO7.out.none⟩

theorem own : ownKnob Try.prog.godebug = none := by kernel_rfl
theorem laidOut : laidOutB Try.prog = true := by kernel_rfl

set_option maxRecDepth 100000 in
theorem lifted (os : Os) (started : os.Started) (H : Type) (enc : TypeId × Value → H) (FF : Stop.Interp) :
    ReturnsInHanded {} Try.checked os 3 .any ((Rows.OpenSpec.upto Rows.flowListsSpec).pre6 enc Try.prog Try.f3 Rows.flowListsUptoRow.domain false) (((Rows.OpenSpec.upto Rows.flowListsSpec).at FF).post enc Try.prog Try.f3 false true false false) := by
  refine returnsInHanded_of_cond_sized (C := Try.checked) (s := Rows.OpenSpec.upto Rows.flowListsSpec) (k := Rows.uptoSmall) rfl own started (by kernel_rfl) Try.func3
    (OpenSpec.witness (enc := enc) (C := Try.checked) (s := Rows.OpenSpec.upto Rows.flowListsSpec) (k := Rows.uptoSmall) rfl false ⟨#[], #[.slice none 0 0], []⟩ 8 (by kernel_rfl) (by kernel_rfl) (by kernel_rfl)
      (x := ([.nil], [], [])) (by kernel_rfl) rfl (by kernel_rfl)) ?_
  intro W base args ds gs before hval0 hW _ hk hsz0 _
  have hsz : (DataW.weightsEach Try.prog (Try.f3.params.toList ++ Rows.flowListsSpec.plain.varTypes Try.prog) (ds ++ gs)).all (· ≤ reachBytes) = true := hsz0
  clear hsz0
  have hval : ∀ (j : Nat) t v, Try.f3.params[j]? = some t → args[j]? = some v → Value.okWide Try.prog W .any base t v := hval0
  have hW' := hW
  obtain ⟨p, q, hA0, hV, rfl, hfz, hnd⟩ := hW
  have hA : DataW.TrodAll enc Try.prog W 0 (fun _ => true) true Try.f3.params.toList args.toList ds p := hA0
  rw [Try.params3] at hA hval hsz
  obtain ⟨v0, vs0, d0, ds0, p0, q0, hargs, rfl, rfl, h0, r0⟩ := trodAll_cons hA
  obtain ⟨rfl, rfl, rfl⟩ := trodAll_nil r0
  obtain rfl : args = #[v0] := by cases args; simp_all
  obtain ⟨rfl, rfl⟩ := trodVars_none hV
  have hb := of_decide_eq_true hk
  simp only [List.cons_append, List.nil_append, Rows.uptoBulkAll] at hb
  have k0 := h0
  have lt0 : ∀ x ∈ p0, x.block < W.heap.size := by obtain ⟨m, hm⟩ := k0; exact DataW.trod_lt m _ _ _ hm
  have w0 := arg_bytesB (hval 0 22 v0 rfl rfl) h0 (light_arg (j := 0) hsz rfl rfl) (by omega)
  clear hA0 hval0
  refine (walk v0 W w0).mono fun e W' ⟨he, bel⟩ => ?_
  subst he
  exact ⟨_, rfl, _, _, _, [], _, [], hW', trodAll_mk1 (shut_bool Try.underlying4 _), (trodAll_cons_mk (Below.trod laidOut (by kernel_rfl) (of_decide_eq_true (by kernel_rfl)) k0 bel lt0) trodAll_mk0), rfl, bel.frame _, fun h => by cases h⟩

theorem over : Rows.FlowListsUptoSaid :=
  OpenClaim.holds_of_cond 3 Try.f3 rfl rfl rfl rfl rfl rfl rfl ⟨rfl, rfl, rfl, rfl, rfl⟩ rfl rfl rfl rfl rfl (by kernel_rfl) Try.func3 (by kernel_rfl)
    (of_decide_eq_true (by kernel_rfl)) (by unfold Func.isWrapper; first | (rw [if_pos (by decide +kernel)]; kernel_rfl) | (rw [if_neg (by decide +kernel)]; exact ⟨rfl, rfl⟩))
    (fun os started H enc _ F => lifted os started H enc F)

theorem proved : Rows.FlowListsUptoSaid := over
#print axioms proved
end Go.Proofs.Ytngoajhnnlnphaa.flowLists
