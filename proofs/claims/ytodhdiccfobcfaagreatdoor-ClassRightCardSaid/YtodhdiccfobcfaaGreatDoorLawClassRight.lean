/- PROVED: the law ClassRight: what is read of any bytes is a class that may be, and is written as bytes that are read as it again. Any bytes. -/
import Derived.Test.YtodhdiccfobcfaaGreatDoorLaid3
import Derived.Deep.RegionHeld3
import Derived.Test.YtodhdiccfobcfaaGreatDoorClsNa
import Derived.Test.YtodhdiccfobcfaaGreatDoorClsSa
import Derived.Test.YtodhdiccfobcfaaGreatDoorGClsO
import Derived.Test.YtodhdiccfobcfaaGreatDoorGClsP
import Derived.Test.YtodhdiccfobcfaaGreatDoorPolCe
import Derived.Test.YtodhdiccfobcfaaGreatDoorClsMk
import Derived.Test.YtodhdiccfobcfaaGreatDoorClsAw
import Derived.Test.YtodhdiccfobcfaaGreatDoorClsD
namespace Go.Proofs.YtodhdiccfobcfaaGreatDoor.classRight
open Go.ChangeShapes Go.WideShapes Go.ChangeAt Go.RowKit
set_option linter.unusedVariables false
set_option linter.unusedSimpArgs false

set_option maxHeartbeats 8000000 in
set_option maxRecDepth 100000 in
theorem walkRight (v : Value) (zs : List Int) (w : World) (hb : Bytes w v zs) (hl : zs.length ≤ 281474976710656) (hT : Tabs w) (hg : ErrV w) :
    Calls Tryz.prog 7 #[v] w fun e w' => e = .returned (.bool true) ∧ Only (fun _ => False) w w' := by
  have cD := progClsDecode v zs w hb hl hT hg
  have HTT := Lib.hid hT
  have HGG := Lib.hid hg
  have cA := fun w' (ho : Only (fun _ => False) w w') => awake w' (hT.only ho (fun h => h) (fun h => h)) (hg.only ho (fun h => h))
  obtain ⟨ao, cap, rfl, _, _, _, _, _⟩ := id hb
  have CD := Lib.hid cD
  have CA := Lib.hid cA
  clear hb cD cA hT hg
  go_enter Tryz.func7, Tryz.ntmps7
  go_wp2_with (fail)
  refine CD.out.mono ?_
  rintro e w1 ⟨vp, vf, vm, c, e0, rfl, ho1, hcm, hres⟩
  clear CD
  rcases hres with ⟨rfl, _, hz⟩ | ⟨h0, _, rfl, rfl, rfl, rfl⟩
  rotate_left
  · have hne : (e0 == 0) = false := by simpa using h0
    have ho7 := (Only.refl (fun _ => False) w1).alloc (.cells #[.slice none 0 0, .int .i64 0, .int .i64 0, .slice none 0 0, .slice none 0 0] 26)
    have hx7 := heap_alloc_new w1 (.cells #[.slice none 0 0, .int .i64 0, .int .i64 0, .slice none 0 0, .slice none 0 0] 26)
    have HON7 := Lib.hid (ho1.trans ho7 (fun _ h _ => h))
    have x0 := cell_blk hx7 0
    have x1 := cell_blk hx7 1
    have x2 := cell_blk hx7 2
    have x3 := cell_blk hx7 3
    have x4 := cell_blk hx7 4
    simp only [List.getElem?_toArray, List.getElem?_cons_succ, List.getElem?_cons_zero] at x0 x1 x2 x3 x4
    have cS := sameC _ _ _ _ _ _ ⟨[], 0, 0, [], []⟩ (w1.alloc (.cells #[.slice none 0 0, .int .i64 0, .int .i64 0, .slice none 0 0, .slice none 0 0] 26)) (ClassM.nil _) (ClassM.nil _)
    have CS := Lib.hid cS
    clear cS ho1 hcm ho7 hx7 h0
    go_wp2_with (fail)
    refine CS.out.mono ?_
    rintro e w8 ⟨rfl, ho8⟩
    have HON8 := Lib.hid (HON7.out.trans ho8 (fun _ h _ => h))
    clear ho8 CS x0 x1 x2 x3 x4
    go_wp2_with (go_at_call 10; refine (CA.out _ HON8.out).mono ?_; rintro e w9 ⟨rfl, ho9⟩)
    go_ret
    exact ⟨rfl, HON8.out.trans ho9 (fun _ h => h.elim)⟩
  obtain ⟨ap, cp, rfl, _, _, _, hr, _⟩ := id hcm.1
  obtain ⟨af, cf, rfl, _, _⟩ := hcm.2.1.1.slice
  obtain ⟨fm, hmm, _, _⟩ := id hcm.2.2.1
  obtain ⟨am, cm, rfl, _, _⟩ := hmm.slice
  have HN := Lib.hid (show ∀ k ∈ c.pool, I64 k.n from fun k hk => (hr k hk).r2)
  have ho2 := (Only.refl (fun _ => False) w1).alloc (.cells #[.slice ap c.pool.length cp, .int .i64 c.this, .int .i64 c.super, .slice af c.fields.length cf, .slice am c.methods.length cm] 26)
  have hx2 := heap_alloc_new w1 (.cells #[.slice ap c.pool.length cp, .int .i64 c.this, .int .i64 c.super, .slice af c.fields.length cf, .slice am c.methods.length cm] 26)
  have hon2 := ho1.trans ho2 (fun _ h _ => h)
  have cE := progClsEncode _ _ _ c (w1.alloc (.cells #[.slice ap c.pool.length cp, .int .i64 c.this, .int .i64 c.super, .slice af c.fields.length cf, .slice am c.methods.length cm] 26)) (hcm.only ho2) (HTT.out.only hon2 (fun h => h) (fun h => h)) (HGG.out.only hon2 (fun h => h))
  have q0 := cell_blk hx2 0
  have q1 := cell_blk hx2 1
  have q2 := cell_blk hx2 2
  have q3 := cell_blk hx2 3
  have q4 := cell_blk hx2 4
  simp only [List.getElem?_toArray, List.getElem?_cons_succ, List.getElem?_cons_zero] at q0 q1 q2 q3 q4
  have CE := Lib.hid cE
  have HX2 := Lib.hid hx2
  have HO2 := Lib.hid ho2
  have HON2 := Lib.hid hon2
  have HCM := Lib.hid hcm
  have HZ := Lib.hid hz
  clear cE hx2 ho2 hon2 hcm hz ho1 hr hmm
  go_wp2_with (fail)
  clear q0 q1 q2 q3 q4
  generalize w1.alloc (.cells #[.slice ap c.pool.length cp, .int .i64 c.this, .int .i64 c.super, .slice af c.fields.length cf, .slice am c.methods.length cm] 26) = w2 at *
  generalize w1.heap.size = xb at *
  refine CE.out.mono ?_
  rintro e w3 ⟨va, k, rfl, ho3, hres⟩
  rcases hres with ⟨_, rfl, bs, hbs, hrow, hby⟩ | ⟨hz, _⟩
  rotate_left
  · exact absurd HZ.out hz
  have hback := class_back HZ.out HN.out hbs
  obtain ⟨hfl, _, _⟩ := fileB_len HZ.out hbs
  have hfp : 0 < (fileB c bs).length := by unfold fileB headB; simp [be4]
  obtain ⟨fs, hfs⟩ : ∃ fs, fileB c bs = fs := ⟨_, rfl⟩
  rw [hfs] at hrow hby hback hfl hfp
  obtain ⟨g, capf, rfl, hgf, hc1, hc2⟩ := row_at hrow hfp
  have hon3 := HON2.out.trans ho3 (fun _ h _ => h)
  have cD := progClsDecode _ fs w3 (hrow.bytes hby) (by omega) (HTT.out.only hon3 (fun h => h) (fun h => h)) (HGG.out.only hon3 (fun h => h))
  have CD := Lib.hid cD
  have HBK := Lib.hid hback
  have HON3 := Lib.hid hon3
  have HX3 := Lib.hid (ho3.heap HX2.out (fun h => h))
  have HC3 := Lib.hid ((HCM.out.only HO2.out).only ho3)
  clear cD hrow hby hback hbs hfs hfl hfp hgf hc1 hc2 hon3 ho3 CE HX2 HON2 HCM HO2
  go_wp2_with (fail)
  refine CD.out.mono ?_
  rintro e w4 ⟨vp2, vf2, vm2, c2, e0, rfl, ho4, hcm2, hres2⟩
  have hcc : e0 = 0 ∧ c2 = c := by
    rcases hres2 with ⟨h0, hd, _⟩ | ⟨h0, hd, _⟩
    · have := hd.unique HBK.out
      injection this with this
      exact ⟨h0, this⟩
    · have := hd.unique HBK.out
      cases this
  obtain ⟨rfl, rfl⟩ := hcc
  obtain ⟨ap2, cp2, rfl, _, _, _, _, _⟩ := id hcm2.1
  obtain ⟨af2, cf2, rfl, _, _⟩ := hcm2.2.1.1.slice
  obtain ⟨fm2, hmm2, _, _⟩ := id hcm2.2.2.1
  obtain ⟨am2, cm2, rfl, _, _⟩ := hmm2.slice
  have ho5 := (Only.refl (fun _ => False) w4).alloc (.cells #[.slice ap2 c2.pool.length cp2, .int .i64 c2.this, .int .i64 c2.super, .slice af2 c2.fields.length cf2, .slice am2 c2.methods.length cm2] 26)
  have hy5 := heap_alloc_new w4 (.cells #[.slice ap2 c2.pool.length cp2, .int .i64 c2.this, .int .i64 c2.super, .slice af2 c2.fields.length cf2, .slice am2 c2.methods.length cm2] 26)
  have hx5 := ho5.heap (ho4.heap HX3.out (fun h => h)) (fun h => h)
  have hon5 := (HON3.out.trans ho4 (fun _ h _ => h)).trans ho5 (fun _ h _ => h)
  have hc5 := (HC3.out.only ho4).only ho5
  have hd5 := hcm2.only ho5
  have cK := progClsCheck _ _ _ c2 (w4.alloc (.cells #[.slice ap2 c2.pool.length cp2, .int .i64 c2.this, .int .i64 c2.super, .slice af2 c2.fields.length cf2, .slice am2 c2.methods.length cm2] 26)) hc5 (HTT.out.only hon5 (fun h => h) (fun h => h)) (HGG.out.only hon5 (fun h => h))
  rw [HZ.out] at cK
  have q0 := cell_blk hx5 0
  have q1 := cell_blk hx5 1
  have q2 := cell_blk hx5 2
  have q3 := cell_blk hx5 3
  have q4 := cell_blk hx5 4
  simp only [List.getElem?_toArray, List.getElem?_cons_succ, List.getElem?_cons_zero] at q0 q1 q2 q3 q4
  have CK := Lib.hid cK
  have HX5 := Lib.hid hx5
  have HY5 := Lib.hid hy5
  have HON5 := Lib.hid hon5
  have HC5 := Lib.hid hc5
  have HD5 := Lib.hid hd5
  clear cK hx5 hy5 hon5 hc5 hd5 ho5 ho4 hcm2 hres2 hmm2 CD HX3 HON3 HC3
  go_wp2_with (fail)
  clear q0 q1 q2 q3 q4
  generalize w4.alloc (.cells #[.slice ap2 c2.pool.length cp2, .int .i64 c2.this, .int .i64 c2.super, .slice af2 c2.fields.length cf2, .slice am2 c2.methods.length cm2] 26) = w5 at *
  generalize w4.heap.size = yb at *
  refine CK.out.mono ?_
  rintro e w6 ⟨rfl, ho6⟩
  have cS := sameC _ _ _ _ _ _ c2 w6 (HC5.out.only ho6) (HD5.out.only ho6)
  have hx6 := ho6.heap HX5.out (fun h => h)
  have hy6 := ho6.heap HY5.out (fun h => h)
  have q0 := cell_blk hx6 0
  have q1 := cell_blk hx6 1
  have q2 := cell_blk hx6 2
  have q3 := cell_blk hx6 3
  have q4 := cell_blk hx6 4
  have p0 := cell_blk hy6 0
  have p1 := cell_blk hy6 1
  have p2 := cell_blk hy6 2
  have p3 := cell_blk hy6 3
  have p4 := cell_blk hy6 4
  simp at q0 q1 q2 q3 q4 p0 p1 p2 p3 p4
  have CS := Lib.hid cS
  have HON6 := Lib.hid (HON5.out.trans ho6 (fun _ h _ => h))
  clear cS hx6 hy6 ho6 CK HX5 HY5 HC5 HD5 HON5
  go_wp2_with (fail)
  refine CS.out.mono ?_
  rintro e w7 ⟨rfl, ho7⟩
  have HON7 := Lib.hid (HON6.out.trans ho7 (fun _ h _ => h))
  clear ho7 CS q0 q1 q2 q3 q4 p0 p1 p2 p3 p4
  go_wp2_with (go_at_call 10; refine (CA.out _ HON7.out).mono ?_; rintro e w9 ⟨rfl, ho9⟩)
  go_ret
  exact ⟨rfl, HON7.out.trans ho9 (fun _ h => h.elim)⟩

theorem reads (os : Os) {H : Type} (enc : TypeId × Value → H) : ∃ places, DataW.whole enc Tryz.prog ((laidWorld os).forCall (fun _ _ => 0) ⟨#[], #[.slice none 0 0], []⟩).memory Tryz.f7.params.toList Rows.classRightSpec.vars false #[.slice none 0 0].toList 8 = some ([.nil], [], places) :=
  ⟨[], by kernel_rfl⟩

theorem laid_metW (os : Os) : laidMetH Tryz.prog L3 ((laidWorld os).forCall (fun _ _ => 0) ⟨#[], #[.slice none 0 0], []⟩).memory :=
  laid_met os _ (LaidIn.of_run [1, 2] 8 (by kernel_rfl) (by kernel_rfl) (by kernel_rfl) (by kernel_rfl)).met (by kernel_rfl)

set_option maxRecDepth 100000 in
theorem contract (H : Type) (enc : TypeId × Value → H) (W : World) (base : Nat) (args : Array Value) (ds gs : List (DataW H)) (before : List MemPlace)
    (hval0 : ∀ (j : Nat) t v, Tryz.f7.params[j]? = some t → args[j]? = some v → Value.okWide Tryz.prog W .any base t v)
    (hW : DataW.Whole enc Tryz.prog Tryz.f7.params.toList Rows.classRightSpec.vars false W args.toList ds gs before) (hL : laidMetH Tryz.prog L3 W)
    (hsz0 : (DataW.weightsEach Tryz.prog (Tryz.f7.params.toList ++ Rows.classRightSpec.plain.varTypes Tryz.prog) (ds ++ gs)).all (· ≤ reachBytes) = true)
    : Calls Tryz.prog 7 args W fun e W' => ∃ v, e = .returned v ∧ Rows.classRightSpec.post enc Tryz.prog Tryz.f7 false true false false W args v W' := by
  have hT := tabs hL
  have hE := errv hL
  have hsz := hsz0
  have hval : ∀ (j : Nat) t v, Tryz.f7.params[j]? = some t → args[j]? = some v → Value.okWide Tryz.prog W .any base t v := hval0
  have hW' := hW
  obtain ⟨p, q, hA0, hV, rfl, hfz, hnd⟩ := hW
  have hA : DataW.TrodAll enc Tryz.prog W 0 (fun _ => true) true Tryz.f7.params.toList args.toList ds p := hA0
  rw [Tryz.params7] at hA hval hsz
  obtain ⟨v0, vs0, d0, ds0, p0, q0, hargs, rfl, rfl, h0, r0⟩ := trodAll_cons hA
  obtain ⟨rfl, rfl, rfl⟩ := trodAll_nil r0
  obtain rfl : args = #[v0] := by cases args; simp_all
  obtain ⟨rfl, rfl⟩ := trodVars_none hV
  have k0 := h0
  have lt0 : ∀ x ∈ p0, x.block < W.heap.size := by obtain ⟨m, hm⟩ := k0; exact DataW.trod_lt m _ _ _ hm
  obtain ⟨z0, b0, l0⟩ := arg_bytes (hval 0 27 v0 rfl rfl) h0 (light_arg (j := 0) hsz rfl rfl)
  clear hA0 hval0
  refine (walkRight v0 z0 W b0 (Nat.le_trans l0 (by decide)) hT hE).mono fun e W' ⟨he, on⟩ => ?_
  have bel := on.none
  subst he
  exact ⟨_, rfl, _, _, _, [], _, [], hW', trodAll_mk1 (shut_bool Tryz.underlying4 _), (trodAll_cons_mk (Below.trod laidOut (by kernel_rfl) (of_decide_eq_true (by kernel_rfl)) k0 bel lt0) trodAll_mk0), rfl, bel.frame _, fun h => by cases h⟩

set_option maxRecDepth 100000 in
theorem lifted (os : Os) (started : os.Started) (H : Type) (enc : TypeId × Value → H) (F : Stop.Interp) :
    ReturnsInHanded {} Tryz.checked os 7 .any ((OpenSpec.ofChange Rows.classRightSpec).preRow enc Tryz.prog Tryz.f7 Rows.classRightRow.domain false Rows.classRightRow.laid) (((OpenSpec.ofChange Rows.classRightSpec).at F).post enc Tryz.prog Tryz.f7 false true false false) := by
  obtain ⟨places, hx⟩ := reads os enc
  refine returnsInHanded_of_row (C := Tryz.checked) (s := (OpenSpec.ofChange Rows.classRightSpec)) own started (by kernel_rfl) Tryz.func7
    (witness_row_at (enc := enc) (C := Tryz.checked) false (laidWorld os) #[.slice none 0 0] rfl (by kernel_rfl) (by kernel_rfl) (by kernel_rfl)
      (OpenSpec.preRow_of_cond 8 hx (by kernel_rfl) (fun k hk => by cases hk) (by kernel_rfl) (laid_metW os))) ?_
  intro W base args ds gs before hval hW _ hcond hsz hL _ _
  exact contract H enc W base args ds gs before hval hW hL hsz

theorem over : Rows.ClassRightSaid :=
  OpenClaim.holds_of_cond 7 Tryz.f7 rfl rfl rfl rfl rfl rfl rfl ⟨rfl, rfl, rfl, rfl, rfl⟩ rfl rfl rfl rfl rfl (by kernel_rfl) Tryz.func7 (by kernel_rfl)
    (of_decide_eq_true (by kernel_rfl)) (by unfold Func.isWrapper; first | (rw [if_pos (by decide +kernel)]; kernel_rfl) | (rw [if_neg (by decide +kernel)]; exact ⟨rfl, rfl⟩))
    (fun os started H enc _ F => by rw [OpenClaim.pre_eq_preRow]; exact lifted os started H enc F)

/-- No parameter wants a stand-in; the program looks (errors.As reads the types). -/
theorem plain (f : FuncId) (fn : Func) (hf : Tryz.pinned.checked.prog.funcNamed Rows.classRightRow.func = some f) (hfn : Tryz.pinned.checked.prog.funcs[f]? = some fn) :
    true = Tryz.pinned.checked.prog.looks [] ∧ ∀ (j : Nat) t, fn.params[j]? = some t → Tryz.pinned.checked.prog.wantsStandIn t = false := by
  obtain rfl : f = 7 := Option.some.inj ((show Tryz.prog.funcNamed Rows.classRightRow.func = some 7 by kernel_rfl).symm.trans hf) |>.symm
  obtain rfl : fn = Tryz.f7 := (Option.some.inj (Tryz.func7.symm.trans hfn)).symm
  refine ⟨by kernel_rfl, fun j t ht => ?_⟩
  rw [Tryz.params7] at ht
  obtain rfl : t = 27 := by simpa using Array.mem_of_getElem? ht
  exact (show Tryz.prog.wantsStandIn 27 = false by kernel_rfl)

theorem proved : Rows.ClassRightCardSaid :=
  Claim7.holds_tied_plain_at .later [] _ _ _ _ over (fun _ h => by cases h) (by kernel_rfl) (fun _ h => by cases h) classRight_row_tie rfl ⟨rfl, rfl⟩ (by kernel_rfl) rfl plain (by kernel_rfl)
#print axioms proved
end Go.Proofs.YtodhdiccfobcfaaGreatDoor.classRight
