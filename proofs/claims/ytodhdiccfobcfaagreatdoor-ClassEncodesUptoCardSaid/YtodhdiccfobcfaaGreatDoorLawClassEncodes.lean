/- PROVED: the law ClassEncodes: the program's Encode of any class answers as the document's own, byte for byte, or with the same fault. For every class of at most 1048575 places and letters in all (the second form's bound on the input's bulk). -/
import Derived.Test.YtodhdiccfobcfaaGreatDoorLaid3
import Derived.Deep.RegionHeld3
import Derived.Test.YtodhdiccfobcfaaGreatDoorGClsY
import Derived.Test.YtodhdiccfobcfaaGreatDoorClsAw
import Derived.Test.YtodhdiccfobcfaaGreatDoorClsD
namespace Go.Proofs.YtodhdiccfobcfaaGreatDoor.classEncodes
open Go.ChangeShapes Go.WideShapes Go.ChangeAt Go.RowKit
set_option linter.unusedVariables false
set_option linter.unusedSimpArgs false

set_option maxHeartbeats 4000000 in
set_option maxRecDepth 100000 in
theorem walkEncodes (vp vf vm : Value) (c : ClassV) (w : World) (hc : ClassM w vp vf vm c) (ht : Texts c.pool) (hT : Tabs w) (hg : ErrV w) :
    Calls Tryz.prog 3 #[.agg #[vp, .int .i64 c.this, .int .i64 c.super, vf, vm]] w fun e w' => e = .returned (.bool true) ∧ Only (fun _ => False) w w' := by
  have ho0 := (Only.refl (fun _ => False) w).alloc (.cells #[vp, .int .i64 c.this, .int .i64 c.super, vf, vm] 26)
  have hbx := heap_alloc_new w (.cells #[vp, .int .i64 c.this, .int .i64 c.super, vf, vm] 26)
  have cE := progClsEncode vp vf vm c _ (hc.only ho0) (hT.only ho0 (fun h => h) (fun h => h)) (hg.only ho0 (fun h => h))
  have cR := fun w' (ho : Only (fun _ => False) w w') => refClsEncode vp vf vm c w' (hc.only ho) ht
  have cA := fun w' (ho : Only (fun _ => False) w w') => awake w' (hT.only ho (fun h => h) (fun h => h)) (hg.only ho (fun h => h))
  obtain ⟨hp, hf, hm, r1, r2⟩ := id hc
  obtain ⟨ap, cp, rfl, _, _, _, _, _⟩ := id hp
  obtain ⟨af, cf, rfl, hf1, hf2⟩ := hf.1.slice
  obtain ⟨fm, hm1, hm2, hm3⟩ := id hm
  obtain ⟨am, cm, rfl, hm4, hm5⟩ := hm1.slice
  have HO := Lib.hid ho0
  have HBX := Lib.hid hbx
  have CE := Lib.hid cE
  have CR := Lib.hid cR
  have CA := Lib.hid cA
  clear hc hp hf hm hm1 hm2 hm3 cE cR cA hT hg ht ho0 hbx
  go_enter Tryz.func3, Tryz.ntmps3
  go_wp2_with (fail)
  refine CE.out.mono ?_
  rintro e w5 ⟨va, k, rfl, ho5, hres⟩
  have HON5 := Lib.hid (HO.out.trans ho5 (fun _ h => h.elim))
  have hb5 := ho5.heap HBX.out (fun h => h)
  have q0 := cell_blk hb5 0
  have q1 := cell_blk hb5 1
  have q2 := cell_blk hb5 2
  have q3 := cell_blk hb5 3
  have q4 := cell_blk hb5 4
  simp at q0 q1 q2 q3 q4
  have HRES := Lib.hid hres
  clear ho5 hres CE hb5
  go_wp2_with (fail)
  refine (CR.out _ HON5.out).mono ?_
  rintro e w6 ⟨vb, k2, rfl, ho6, hres2⟩
  have HON6 := Lib.hid (HON5.out.trans ho6 (fun _ h => h.elim))
  clear CR q0 q1 q2 q3 q4
  rcases HRES.out with ⟨hz, hk, bs, hbs, hrow, hby⟩ | ⟨hz, hk, hv⟩
  · rcases hres2 with ⟨_, hk2, bs2, hbs2, hrow2⟩ | ⟨hz2, _⟩
    · obtain rfl := ConstsB.unique rfl hbs hbs2
      subst hk hk2
      have hb1 := (hrow.only ho6 (fun _ _ h => h)).bytes hby
      have hb2 := hrow2.bytes hby
      have hcv1 := conv8 hb1
      have hcv2 := conv8 hb2
      obtain ⟨a1, c1, rfl, _, _⟩ := slice_of_owns hrow
      obtain ⟨a2, c2, rfl, _, _⟩ := slice_of_owns hrow2
      clear hb1 hb2 hby hbs hbs2 hrow hrow2 ho6 HRES hz
      generalize fileB c bs = zs at *
      go_wp2_with (go_at_call 10; refine (CA.out _ HON6.out).mono ?_; rintro e w7 ⟨rfl, ho7⟩)
      go_ret
      exact ⟨rfl, HON6.out.trans ho7 (fun _ h => h.elim)⟩
    · exact absurd hz hz2
  · rcases hres2 with ⟨hz2, _⟩ | ⟨_, hk2, hv2⟩
    · exact absurd hz2 hz
    · subst hk hk2 hv hv2
      have hcv := conv8 (w := w6) (v := .slice none 0 0) (ys := []) (Bytes.of_owns (World.ownsRow_nil w6 0 5 1) Bytish.nil)
      generalize clsZ c = k at *
      clear HRES hz ho6
      go_wp2_with (go_at_call 10; refine (CA.out _ HON6.out).mono ?_; rintro e w7 ⟨rfl, ho7⟩)
      go_ret
      exact ⟨rfl, HON6.out.trans ho7 (fun _ h => h.elim)⟩

theorem reads (os : Os) {H : Type} (enc : TypeId × Value → H) : ∃ places, DataW.whole enc Tryz.prog ((laidWorld os).forCall (fun _ _ => 0) ⟨#[], #[.agg #[.slice none 0 0, .int .i64 0, .int .i64 0, .slice none 0 0, .slice none 0 0]], []⟩).memory Tryz.f3.params.toList Rows.classEncodesSpec.vars false #[.agg #[.slice none 0 0, .int .i64 0, .int .i64 0, .slice none 0 0, .slice none 0 0]].toList 8 = some ([.agg [.nil, .lit (.int .i64 0), .lit (.int .i64 0), .nil, .nil]], [], places) :=
  ⟨[], by kernel_rfl⟩

theorem laid_metW (os : Os) : laidMetH Tryz.prog L3 ((laidWorld os).forCall (fun _ _ => 0) ⟨#[], #[.agg #[.slice none 0 0, .int .i64 0, .int .i64 0, .slice none 0 0, .slice none 0 0]], []⟩).memory :=
  laid_met os _ (LaidIn.of_run [1, 2] 8 (by kernel_rfl) (by kernel_rfl) (by kernel_rfl) (by kernel_rfl)).met (by kernel_rfl)

set_option maxRecDepth 100000 in
theorem contract (H : Type) (enc : TypeId × Value → H) (W : World) (base : Nat) (args : Array Value) (ds gs : List (DataW H)) (before : List MemPlace)
    (hval0 : ∀ (j : Nat) t v, Tryz.f3.params[j]? = some t → args[j]? = some v → Value.okWide Tryz.prog W .any base t v)
    (hW : DataW.Whole enc Tryz.prog Tryz.f3.params.toList Rows.classEncodesSpec.vars false W args.toList ds gs before) (hL : laidMetH Tryz.prog L3 W)
    (hsz0 : (DataW.weightsEach Tryz.prog (Tryz.f3.params.toList ++ Rows.classEncodesSpec.plain.varTypes Tryz.prog) (ds ++ gs)).all (· ≤ reachBytes) = true)
    (hk : Rows.uptoSmall H (ds ++ gs) = true)
    : Calls Tryz.prog 3 args W fun e W' => ∃ v, e = .returned v ∧ Rows.classEncodesSpec.post enc Tryz.prog Tryz.f3 false true false false W args v W' := by
  have hT := tabs hL
  have hE := errv hL
  have hsz := hsz0
  have hval : ∀ (j : Nat) t v, Tryz.f3.params[j]? = some t → args[j]? = some v → Value.okWide Tryz.prog W .any base t v := hval0
  have hW' := hW
  obtain ⟨p, q, hA0, hV, rfl, hfz, hnd⟩ := hW
  have hA : DataW.TrodAll enc Tryz.prog W 0 (fun _ => true) true Tryz.f3.params.toList args.toList ds p := hA0
  rw [Tryz.params3] at hA hval hsz
  obtain ⟨v0, vs0, d0, ds0, p0, q0, hargs, rfl, rfl, h0, r0⟩ := trodAll_cons hA
  obtain ⟨rfl, rfl, rfl⟩ := trodAll_nil r0
  obtain rfl : args = #[v0] := by cases args; simp_all
  obtain ⟨rfl, rfl⟩ := trodVars_none hV
  have k0 := h0
  have lt0 : ∀ x ∈ p0, x.block < W.heap.size := by obtain ⟨m, hm⟩ := k0; exact DataW.trod_lt m _ _ _ hm
  obtain ⟨vp0, vf0, vm0, z0, rfl, b0, l0, n0⟩ := arg_class (hval 0 26 v0 rfl rfl) h0 (light_arg (j := 0) hsz rfl rfl)
  have hb := of_decide_eq_true hk
  simp only [List.cons_append, List.nil_append, Rows.uptoBulkAll, Rows.uptoBulk] at hb
  have e0 : ∀ c ∈ z0.pool, c.text.size ≤ 1048576 := fun c hc => by have := n0 c hc; omega
  clear hA0 hval0
  refine (walkEncodes vp0 vf0 vm0 z0 W b0 (fun c hc => Nat.le_trans (e0 c hc) (by decide)) hT hE).mono fun e W' ⟨he, on⟩ => ?_
  have bel := on.none
  subst he
  exact ⟨_, rfl, _, _, _, [], _, [], hW', trodAll_mk1 (shut_bool Tryz.underlying4 _), (trodAll_cons_mk (Below.trod laidOut (by kernel_rfl) (of_decide_eq_true (by kernel_rfl)) k0 bel lt0) trodAll_mk0), rfl, bel.frame _, fun h => by cases h⟩

set_option maxRecDepth 100000 in
theorem lifted (os : Os) (started : os.Started) (H : Type) (enc : TypeId × Value → H) (F : Stop.Interp) :
    ReturnsInHanded {} Tryz.checked os 3 .any ((Rows.OpenSpec.upto Rows.classEncodesSpec).preRow enc Tryz.prog Tryz.f3 Rows.classEncodesUptoRow.domain false Rows.classEncodesUptoRow.laid) (((Rows.OpenSpec.upto Rows.classEncodesSpec).at F).post enc Tryz.prog Tryz.f3 false true false false) := by
  obtain ⟨places, hx⟩ := reads os enc
  refine returnsInHanded_of_row (C := Tryz.checked) (s := (Rows.OpenSpec.upto Rows.classEncodesSpec)) own started (by kernel_rfl) Tryz.func3
    (witness_row_at (enc := enc) (C := Tryz.checked) false (laidWorld os) #[.agg #[.slice none 0 0, .int .i64 0, .int .i64 0, .slice none 0 0, .slice none 0 0]] rfl (by kernel_rfl) (by kernel_rfl) (by kernel_rfl)
      (OpenSpec.preRow_of_cond 8 hx (by kernel_rfl) (fun k hk => by cases hk; kernel_rfl) (by kernel_rfl) (laid_metW os))) ?_
  intro W base args ds gs before hval hW _ hcond hsz hL _ _
  exact contract H enc W base args ds gs before hval hW hL hsz (hcond _ rfl)

theorem over : Rows.ClassEncodesUptoSaid :=
  OpenClaim.holds_of_cond 3 Tryz.f3 rfl rfl rfl rfl rfl rfl rfl ⟨rfl, rfl, rfl, rfl, rfl⟩ rfl rfl rfl rfl rfl (by kernel_rfl) Tryz.func3 (by kernel_rfl)
    (of_decide_eq_true (by kernel_rfl)) (by unfold Func.isWrapper; first | (rw [if_pos (by decide +kernel)]; kernel_rfl) | (rw [if_neg (by decide +kernel)]; exact ⟨rfl, rfl⟩))
    (fun os started H enc _ F => by rw [OpenClaim.pre_eq_preRow]; exact lifted os started H enc F)

/-- No parameter wants a stand-in; the program looks (errors.As reads the types). -/
theorem plain (f : FuncId) (fn : Func) (hf : Tryz.pinned.checked.prog.funcNamed Rows.classEncodesUptoRow.func = some f) (hfn : Tryz.pinned.checked.prog.funcs[f]? = some fn) :
    true = Tryz.pinned.checked.prog.looks [] ∧ ∀ (j : Nat) t, fn.params[j]? = some t → Tryz.pinned.checked.prog.wantsStandIn t = false := by
  obtain rfl : f = 3 := Option.some.inj ((show Tryz.prog.funcNamed Rows.classEncodesUptoRow.func = some 3 by kernel_rfl).symm.trans hf) |>.symm
  obtain rfl : fn = Tryz.f3 := (Option.some.inj (Tryz.func3.symm.trans hfn)).symm
  refine ⟨by kernel_rfl, fun j t ht => ?_⟩
  rw [Tryz.params3] at ht
  obtain rfl : t = 26 := by simpa using Array.mem_of_getElem? ht
  exact (show Tryz.prog.wantsStandIn 26 = false by kernel_rfl)

theorem proved : Rows.ClassEncodesUptoCardSaid :=
  Claim7.holds_tied_plain_at .later [] _ _ _ _ over (fun _ h => by cases h) (by kernel_rfl) (fun _ h => by cases h) classEncodesUpto_row_tie rfl ⟨rfl, rfl⟩ (by kernel_rfl) rfl plain (by kernel_rfl)
#print axioms proved
end Go.Proofs.YtodhdiccfobcfaaGreatDoor.classEncodes
