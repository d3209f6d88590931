/- PROVED: the law SumWraps: the program's Wrap of any bytes answers the document's own frame, or ErrLong where it does; the argument reads as before. For every input. No condition. -/
import Derived.Test.YtfbkmgjgklkjiaaSumI
import Derived.Test.YtfbkmgjgklkjiaaSumJ
import Derived.Test.YtfbkmgjgklkjiaaArg
import Derived.ProofKit
import Derived.ShutString
import Derived.ChangeOld
import Derived.Below
import Derived.PinnedBridge
namespace Go.Proofs.Ytfbkmgjgklkjiaa.sumWraps
open Go.ChangeShapes Go.WideShapes Go.ChangeAt Go.RowKit
set_option linter.unusedVariables false
set_option linter.unusedSimpArgs false

set_option maxHeartbeats 2000000 in
set_option maxRecDepth 100000 in
theorem walk (v0 : Value) (w : World) (w0 : ∃ zs, Bytes w v0 zs ∧ zs.length ≤ 140737488351232) :
    Calls Try.prog 4 #[v0] w fun e w' => e = .returned (.bool true) ∧ Below w.heap.size w w' := by
  obtain ⟨zs, hb, hl⟩ := w0
  obtain ⟨i0, hi, hz0, hz1, hz2⟩ := info_parts info_u8
  have Hb := Lib.hid hb
  obtain ⟨ao, cap, rfl, hq1, hq2, hq3, hbz, hcells⟩ := id hb
  clear hb hcells hq3
  go_enter Try.func4, Try.ntmps4
  go_wp2_with (at_builtin; go_loud (refine wpList_append_src rfl (.tmp 8) (.tmp 9) 22 rfl 5 i0 (.int .u8 0) 1 1 Try.underlying22 hi hz0 hz1 hz2 rfl (by decide) w.heap.size (.slice (some ⟨w.heap.size, 0, none⟩) 0 0) 0 [] rfl (by exact made0 w) (by simp) (.slice ao zs.length cap) zs.length (zs.map (Value.int .u8)) rfl (by exact (Src.of_bytes Hb.out).alloc _) (by unfold maxLen; omega) (by omega) ?_); intro v1 w1 hown hgrow hnew)
  obtain ⟨hr1, ho1⟩ := Row.copied hown hgrow hnew
  have hb1 := hr1.bytes hbz
  clear hown hgrow hnew
  by_cases hlong : zs.length ≤ 1048576
  · refine (wrapOk v1 zs w1 hb1 hlong).mono ?_
    rintro e w2 ⟨v2, rfl, ho2, hr2⟩
    have hon2 := ho1.trans ho2 (fun _ h => h.elim)
    clear hb1 hr1
    go_wp2_with (fail)
    refine (refWrap _ zs w2 ((Hb.out).only hon2 (fun _ _ _ h => h)) hl).mono ?_
    rintro e w3 ⟨v3, k, rfl, ho3, ⟨_, rfl, hr3⟩ | ⟨hbad, _⟩⟩
    · have hon3 := hon2.trans ho3 (fun _ h => h.elim)
      have c2 := conv8 ((hr2.bytes (frame_byte hbz)).only ho3 (fun _ _ _ h => h))
      have c3 := conv8 (hr3.bytes (frame_byte hbz))
      clear hr2 hr3
      go_wp2_with (first | (go_at_call 11; refine (awake _).mono ?_; rintro e w4 ⟨rfl, ho4⟩))
      go_ret
      exact ⟨rfl, (hon3.trans ho4 (fun _ h => h.elim)).none⟩
    · omega
  · refine (wrapLong v1 zs w1 hb1 (by omega) (by omega)).mono ?_
    rintro e w2 ⟨rfl, ho2⟩
    have hon2 := ho1.trans ho2 (fun _ h => h.elim)
    clear hb1 hr1
    go_wp2_with (fail)
    refine (refWrap _ zs w2 ((Hb.out).only hon2 (fun _ _ _ h => h)) hl).mono ?_
    rintro e w3 ⟨v3, k, rfl, ho3, ⟨hbad, _⟩ | ⟨_, rfl, rfl⟩⟩
    · omega
    · have hon3 := hon2.trans ho3 (fun _ h => h.elim)
      have c2 := conv8 (w := w3) (v := .slice none 0 0) (ys := []) ⟨none, 0, rfl, Nat.le_refl _, Nat.zero_le _, fun _ => rfl, Bytish.nil, fun x hx => by cases hx⟩
      go_wp2_with (first | (go_at_call 11; refine (awake _).mono ?_; rintro e w4 ⟨rfl, ho4⟩))
      go_ret
      exact ⟨rfl, (hon3.trans ho4 (fun _ h => h.elim)).none⟩

theorem own : ownKnob Try.prog.godebug = none := by kernel_rfl
theorem laidOut : laidOutB Try.prog = true := by kernel_rfl

set_option maxRecDepth 100000 in
theorem lifted (os : Os) (started : os.Started) (H : Type) (enc : TypeId × Value → H) :
    ReturnsInHanded {} Try.checked os 4 .any (Rows.sumWrapsSpec.pre6 enc Try.prog Try.f4 Rows.sumWrapsRow.domain false) (Rows.sumWrapsSpec.post enc Try.prog Try.f4 false true false false) := by
  refine returnsInHanded_of_change_sized (C := Try.checked) own started (by kernel_rfl) Try.func4
    (ChangeSpec.witness6 (enc := enc) (C := Try.checked) false ⟨#[], #[.slice none 0 0], []⟩ 8 (by kernel_rfl) (by kernel_rfl) (by kernel_rfl) (by kernel_rfl)) ?_
  intro W base args ds gs before hval0 hW hcnd hsz0 _
  have hsz : (DataW.weightsEach Try.prog (Try.f4.params.toList ++ Rows.sumWrapsSpec.plain.varTypes Try.prog) (ds ++ gs)).all (· ≤ reachBytes) = true := hsz0
  clear hsz0
  have hval : ∀ (j : Nat) t v, Try.f4.params[j]? = some t → args[j]? = some v → Value.okWide Try.prog W .any base t v := hval0
  have hW' := hW
  obtain ⟨p, q, hA0, hV, rfl, hfz, hnd⟩ := hW
  have hA : DataW.TrodAll enc Try.prog W 0 (fun _ => true) true Try.f4.params.toList args.toList ds p := hA0
  rw [Try.params4] at hA hval hsz
  obtain ⟨v0, vs0, d0, ds0, p0, q0, hargs, rfl, rfl, h0, r0⟩ := trodAll_cons hA
  obtain ⟨rfl, rfl, rfl⟩ := trodAll_nil r0
  obtain rfl : args = #[v0] := by cases args; simp_all
  obtain ⟨rfl, rfl⟩ := trodVars_none hV
  have k0 := h0
  have lt0 : ∀ x ∈ p0, x.block < W.heap.size := by obtain ⟨m, hm⟩ := k0; exact DataW.trod_lt m _ _ _ hm
  have w0 := arg_bytes (hval 0 22 v0 rfl rfl) h0 (light_arg (j := 0) hsz rfl rfl)
  clear hA0 hval0
  refine (walk v0 W w0).mono fun e W' ⟨he, bel⟩ => ?_
  subst he
  exact ⟨_, rfl, _, _, _, [], _, [], hW', trodAll_mk1 (shut_bool Try.underlying4 _), (trodAll_cons_mk (Below.trod laidOut (by kernel_rfl) (of_decide_eq_true (by kernel_rfl)) k0 bel lt0) trodAll_mk0), rfl, bel.frame _, fun h => by cases h⟩

theorem over : Rows.sumWrapsRow.holds Try.pinned (OpenSpec.ofChange Rows.sumWrapsSpec) :=
  OpenClaim.holds_of_wide 4 Try.f4 rfl rfl rfl rfl rfl rfl rfl ⟨rfl, rfl, rfl, rfl, rfl⟩ rfl rfl rfl rfl rfl (by kernel_rfl) Try.func4 (by kernel_rfl)
    (of_decide_eq_true (by kernel_rfl)) (by unfold Func.isWrapper; first | (rw [if_pos (by decide +kernel)]; kernel_rfl) | (rw [if_neg (by decide +kernel)]; exact ⟨rfl, rfl⟩))
    (fun os started H enc _ => lifted os started H enc)

theorem proved : Rows.SumWrapsSaid := over
#print axioms proved
end Go.Proofs.Ytfbkmgjgklkjiaa.sumWraps
