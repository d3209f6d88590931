/- PROVED: the law ClassBack: a class that may be, as bytes, is read as itself, and with any byte more it is none; one that may not be is refused with Check's own error and no bytes. Every class, every byte. -/
import Derived.Test.YtodhdiccfobcfaaGreatDoorLaid3
import Derived.Deep.RegionHeld3
import Derived.Test.YtodhdiccfobcfaaGreatDoorClsNa
import Derived.Test.YtodhdiccfobcfaaGreatDoorClsSa
import Derived.Test.YtodhdiccfobcfaaGreatDoorGClsO
import Derived.Test.YtodhdiccfobcfaaGreatDoorGClsP
import Derived.Test.YtodhdiccfobcfaaGreatDoorPolCe
import Derived.Test.YtodhdiccfobcfaaGreatDoorClsMk
import Derived.Test.YtodhdiccfobcfaaGreatDoorClsAw
import Derived.Test.YtodhdiccfobcfaaGreatDoorClsD
namespace Go.Proofs.YtodhdiccfobcfaaGreatDoor.classBack
open Go.ChangeShapes Go.WideShapes Go.ChangeAt Go.RowKit
set_option linter.unusedVariables false
set_option linter.unusedSimpArgs false

set_option maxHeartbeats 8000000 in
set_option maxRecDepth 100000 in
theorem walkBack (vp vf vm : Value) (c : ClassV) (m : Int) (w : World) (hc : ClassM w vp vf vm c) (hm : 0 ≤ m ∧ m ≤ 255) (hT : Tabs w) (hg : ErrV w) :
    Calls Tryz.prog 5 #[.agg #[vp, .int .i64 c.this, .int .i64 c.super, vf, vm], .int .u8 m] w fun e w' => e = .returned (.bool true) ∧ Only (fun _ => False) w w' := by
  obtain ⟨i0, hi, hz0, hz1, hz2⟩ := info_parts info_u8
  have ho0 := (Only.refl (fun _ => False) w).alloc (.cells #[vp, .int .i64 c.this, .int .i64 c.super, vf, vm] 26)
  have hbx := heap_alloc_new w (.cells #[vp, .int .i64 c.this, .int .i64 c.super, vf, vm] 26)
  have cE := progClsEncode vp vf vm c _ (hc.only ho0) (hT.only ho0 (fun h => h) (fun h => h)) (hg.only ho0 (fun h => h))
  have HCM := Lib.hid hc
  have HTT := Lib.hid hT
  have HGG := Lib.hid hg
  have HN := Lib.hid (show ∀ k ∈ c.pool, I64 k.n from fun k hk => by obtain ⟨_, _, _, _, _, _, hr, _⟩ := hc.1; exact (hr k hk).r2)
  have cA := fun w' (ho : Only (fun _ => False) w w') => awake w' (hT.only ho (fun h => h) (fun h => h)) (hg.only ho (fun h => h))
  obtain ⟨hp, hf, hmm, r1, r2⟩ := id hc
  obtain ⟨ap, cp, rfl, _, _, _, _, _⟩ := id hp
  obtain ⟨af, cf, rfl, hf1, hf2⟩ := hf.1.slice
  obtain ⟨fm, hm1, hm2, hm3⟩ := id hmm
  obtain ⟨am, cm, rfl, hm4, hm5⟩ := hm1.slice
  have HM := Lib.hid hm
  have HO := Lib.hid ho0
  have HBX := Lib.hid hbx
  have CE := Lib.hid cE
  have CA := Lib.hid cA
  clear hc hp hf hmm hm1 hm2 hm3 cE cA hT hg ho0 hbx hm
  go_enter Tryz.func5, Tryz.ntmps5
  go_wp2_with (fail)
  refine CE.out.mono ?_
  rintro e w5 ⟨va, k, rfl, ho5, hres⟩
  have HON5 := Lib.hid (HO.out.trans ho5 (fun _ h => h.elim))
  have hb5 := ho5.heap HBX.out (fun h => h)
  have HB5 := Lib.hid hb5
  clear ho5 CE
  rcases hres with ⟨hz, rfl, bs, hbs, hrow, hby⟩ | ⟨hz, rfl, rfl⟩
  rotate_left
  · have q0 := cell_blk hb5 0
    have q1 := cell_blk hb5 1
    have q2 := cell_blk hb5 2
    have q3 := cell_blk hb5 3
    have q4 := cell_blk hb5 4
    simp at q0 q1 q2 q3 q4
    have cK := progClsCheck _ _ _ c w5 (HCM.out.only HON5.out) (HTT.out.only HON5.out (fun h => h) (fun h => h)) (HGG.out.only HON5.out (fun h => h))
    generalize clsZ c = k at *
    have hkc : (k != 0) = true := by simpa using hz
    have CK := Lib.hid cK
    clear cK hb5 hz
    go_wp2_with (fail)
    refine CK.out.mono ?_
    rintro e w6 ⟨rfl, ho6⟩
    have HON6 := Lib.hid (HON5.out.trans ho6 (fun _ h => h.elim))
    clear ho6 CK q0 q1 q2 q3 q4
    go_wp2_with (go_at_call 10; refine (CA.out _ HON6.out).mono ?_; rintro e w7 ⟨rfl, ho7⟩)
    go_ret
    exact ⟨rfl, HON6.out.trans ho7 (fun _ h => h.elim)⟩
  have hback := class_back hz HN.out hbs
  have hmore := class_more hz HN.out hbs m
  obtain ⟨hfl, _, _⟩ := fileB_len hz hbs
  have hfp : 0 < (fileB c bs).length := by unfold fileB headB; simp [be4]
  obtain ⟨fs, hfs⟩ : ∃ fs, fileB c bs = fs := ⟨_, rfl⟩
  rw [hfs] at hrow hby hback hmore hfl hfp
  obtain ⟨g, capf, rfl, hgf, hc1, hc2⟩ := row_at hrow hfp
  unfold maxLen at hc2
  have cD := progClsDecode _ fs w5 (hrow.bytes hby) (by omega) (HTT.out.only HON5.out (fun h => h) (fun h => h)) (HGG.out.only HON5.out (fun h => h))
  have CD := Lib.hid cD
  have HROW := Lib.hid hrow
  have HBY := Lib.hid hby
  have HBK := Lib.hid hback
  have HMORE := Lib.hid hmore
  have hflz : (fs.length : Int) ≤ 824597 := by omega
  have HFP := Lib.hid hfp
  clear cD hrow hby hback hmore hbs hfs hz hb5 hfp hgf
  go_wp2_with (fail)
  refine CD.out.mono ?_
  rintro e w6 ⟨vp2, vf2, vm2, c2, e0, rfl, ho6, hcm2, hres2⟩
  have hcc : e0 = 0 ∧ c2 = c := by
    rcases hres2 with ⟨h0, hd, _⟩ | ⟨h0, hd, _⟩
    · have := hd.unique HBK.out
      injection this with this
      exact ⟨h0, this⟩
    · have := hd.unique HBK.out
      cases this
  obtain ⟨rfl, rfl⟩ := hcc
  obtain ⟨ap2, cp2, rfl, _, _, _, _, _⟩ := id hcm2.1
  obtain ⟨af2, cf2, rfl, _, _⟩ := hcm2.2.1.1.slice
  obtain ⟨fm2, hmm2, _, _⟩ := id hcm2.2.2.1
  obtain ⟨am2, cm2, rfl, _, _⟩ := hmm2.slice
  have HON6 := Lib.hid (HON5.out.trans ho6 (fun _ h => h.elim))
  have HB6 := Lib.hid (ho6.heap HB5.out (fun h => h))
  have HCM2 := Lib.hid hcm2
  have HSRC := Lib.hid (Src.of_bytes ((HROW.out.bytes HBY.out).only ho6 (fun _ _ _ h => h)))
  clear ho6 hcm2 hres2 hmm2 CD HROW HB5
  have hxb := heap_alloc_new w6 (.cells #[.slice ap2 c2.pool.length cp2, .int .i64 c2.this, .int .i64 c2.super, .slice af2 c2.fields.length cf2, .slice am2 c2.methods.length cm2] 26)
  have hxo := (Only.refl (fun _ => False) w6).alloc (.cells #[.slice ap2 c2.pool.length cp2, .int .i64 c2.this, .int .i64 c2.super, .slice af2 c2.fields.length cf2, .slice am2 c2.methods.length cm2] 26)
  have HX := Lib.hid hxb
  have HXO := Lib.hid hxo
  have HS7 := Lib.hid (HSRC.out.alloc (.cells #[.slice ap2 c2.pool.length cp2, .int .i64 c2.this, .int .i64 c2.super, .slice af2 c2.fields.length cf2, .slice am2 c2.methods.length cm2] 26))
  clear hxb hxo HSRC
  have hs7 : (w6.alloc (.cells #[.slice ap2 c2.pool.length cp2, .int .i64 c2.this, .int .i64 c2.super, .slice af2 c2.fields.length cf2, .slice am2 c2.methods.length cm2] 26)).heap.size = w6.heap.size + 1 := by simp
  go_wp2_with (first | (at_builtin; (refine wpList_append_src rfl (.tmp 36) (.tmp 37) 27 rfl 5 i0 (.int .u8 0) 1 1 Tryz.underlying27 hi hz0 hz1 hz2 rfl (by decide) (w6.heap.size + 1) (.slice (some ⟨w6.heap.size + 1, 0, none⟩) 0 0) 0 [] rfl (by exact made0n hs7) (by simp) (.slice (some ⟨g, 0, none⟩) fs.length capf) fs.length (fs.map (Value.int .u8)) rfl (by exact HS7.out.alloc _) (by unfold maxLen; omega) (by omega) ?_); intro v3 w8 hown hgrow hnew; obtain ⟨hr3, ho3⟩ := copied_n hs7 hown hgrow hnew; clear hown hgrow hnew; obtain ⟨g3, cap3, rfl, hg3, hc31, hc32⟩ := row_at hr3 HFP.out) | (at_builtin; (refine wpList_append_src rfl (.tmp 38) (.tmp 40) 27 rfl 5 i0 (.int .u8 0) 1 1 Tryz.underlying27 hi hz0 hz1 hz2 rfl (by decide) (w6.heap.size + 1) (.slice (some ⟨g3, 0, none⟩) fs.length cap3) fs.length (fs.map (Value.int .u8)) rfl (by exact hr3.only ((Only.refl (fun _ => False) w8).alloc _) (fun _ _ h => h)) (by have := ho3.size; simp at this ⊢; omega) (.slice (some ⟨w8.heap.size, 0, none⟩) 1 1) 1 [.int .u8 m] rfl (by exact Src.one (w := w8) (.int .u8 m) rfl) (by unfold maxLen; omega) (by omega) ?_); intro v4 w9 hown hgrow hnew; have hto := RowTo.of (zs := [m]) ((Only.refl (fun _ => False) w8).alloc _) hown hgrow hnew; clear hown hgrow hnew))
  have ho9 : Only (fun _ => False) w6 w9 := (HXO.out.trans ho3 (fun _ h _ => h)).trans hto.2.1 (fun i hi hl => by have h1 := (hr3.ge i hi).1; omega)
  have hon9 := HON6.out.trans ho9 (fun _ h _ => h)
  have cD2 := progClsDecode v4 (fs ++ [m]) w9 (hto.1.bytes (HBY.out.append (fun z hz => by simp at hz; subst hz; exact HM.out))) (by simp; omega) (HTT.out.only hon9 (fun h => h) (fun h => h)) (HGG.out.only hon9 (fun h => h))
  have HB9 := Lib.hid (ho9.heap HB6.out (fun h => h))
  have hx9 := (ho3.trans hto.2.1 (fun i hi hl => by have h1 := (hr3.ge i hi).1; rw [hs7] at hl; omega)).heap HX.out (fun h => h)
  have HX9 := Lib.hid hx9
  have HO9 := Lib.hid ho9
  have HON9 := Lib.hid hon9
  have CD2 := Lib.hid cD2
  clear ho9 hon9 cD2 hx9 hto hr3 ho3 hs7 HS7 HXO HX HB6 hg3 hc31 hc32
  refine CD2.out.mono ?_
  rintro e w10 ⟨vp3, vf3, vm3, c3, e3, rfl, ho10, hcm3, hres3⟩
  have hcc : e3 = 50 ∧ c3 = ⟨[], 0, 0, [], []⟩ ∧ vp3 = .slice none 0 0 ∧ vf3 = .slice none 0 0 ∧ vm3 = .slice none 0 0 := by
    rcases hres3 with ⟨h0, hd, _⟩ | ⟨h0, hd, h1, h2, h3, h4⟩
    · have := hd.unique HMORE.out
      cases this
    · have := hd.unique HMORE.out
      injection this with this
      exact ⟨this, h1, h2, h3, h4⟩
  obtain ⟨rfl, rfl, rfl, rfl, rfl⟩ := hcc
  have ho11 := (Only.refl (fun _ => False) w10).alloc (.cells #[.slice none 0 0, .int .i64 0, .int .i64 0, .slice none 0 0, .slice none 0 0] 26)
  have hon11 := (HON9.out.trans ho10 (fun _ h _ => h)).trans ho11 (fun _ h _ => h)
  have hb11 := ho11.heap (ho10.heap HB9.out (fun h => h)) (fun h => h)
  have hx11 := ho11.heap (ho10.heap HX9.out (fun h => h)) (fun h => h)
  have cS := sameC _ _ _ _ _ _ c2 (w10.alloc (.cells #[.slice none 0 0, .int .i64 0, .int .i64 0, .slice none 0 0, .slice none 0 0] 26)) (HCM2.out.only ((HO9.out.trans ho10 (fun _ h _ => h)).trans ho11 (fun _ h _ => h))) (HCM.out.only hon11)
  have q0 := cell_blk hb11 0
  have q1 := cell_blk hb11 1
  have q2 := cell_blk hb11 2
  have q3 := cell_blk hb11 3
  have q4 := cell_blk hb11 4
  have x0 := cell_blk hx11 0
  have x1 := cell_blk hx11 1
  have x2 := cell_blk hx11 2
  have x3 := cell_blk hx11 3
  have x4 := cell_blk hx11 4
  simp only [List.getElem?_toArray, List.getElem?_cons_succ, List.getElem?_cons_zero] at q0 q1 q2 q3 q4 x0 x1 x2 x3 x4
  have CS := Lib.hid cS
  have HON11 := Lib.hid hon11
  clear cS hb11 hx11 hon11 ho11 ho10 hcm3 hres3 CD2 HB9 HX9 HO9
  go_wp2_with (fail)
  refine CS.out.mono ?_
  rintro e w12 ⟨rfl, ho12⟩
  have HON12 := Lib.hid (HON11.out.trans ho12 (fun _ h _ => h))
  clear ho12 CS q0 q1 q2 q3 q4 x0 x1 x2 x3 x4
  go_wp2_with (go_at_call 10; refine (CA.out _ HON12.out).mono ?_; rintro e w13 ⟨rfl, ho13⟩)
  go_ret
  exact ⟨rfl, HON12.out.trans ho13 (fun _ h => h.elim)⟩

theorem reads (os : Os) {H : Type} (enc : TypeId × Value → H) : ∃ places, DataW.whole enc Tryz.prog ((laidWorld os).forCall (fun _ _ => 0) ⟨#[], #[.agg #[.slice none 0 0, .int .i64 0, .int .i64 0, .slice none 0 0, .slice none 0 0], .int .u8 0], []⟩).memory Tryz.f5.params.toList Rows.classBackSpec.vars false #[.agg #[.slice none 0 0, .int .i64 0, .int .i64 0, .slice none 0 0, .slice none 0 0], .int .u8 0].toList 8 = some ([.agg [.nil, .lit (.int .i64 0), .lit (.int .i64 0), .nil, .nil], .lit (.int .u8 0)], [], places) :=
  ⟨[], by kernel_rfl⟩

theorem laid_metW (os : Os) : laidMetH Tryz.prog L3 ((laidWorld os).forCall (fun _ _ => 0) ⟨#[], #[.agg #[.slice none 0 0, .int .i64 0, .int .i64 0, .slice none 0 0, .slice none 0 0], .int .u8 0], []⟩).memory :=
  laid_met os _ (LaidIn.of_run [1, 2] 8 (by kernel_rfl) (by kernel_rfl) (by kernel_rfl) (by kernel_rfl)).met (by kernel_rfl)

set_option maxRecDepth 100000 in
theorem contract (H : Type) (enc : TypeId × Value → H) (W : World) (base : Nat) (args : Array Value) (ds gs : List (DataW H)) (before : List MemPlace)
    (hval0 : ∀ (j : Nat) t v, Tryz.f5.params[j]? = some t → args[j]? = some v → Value.okWide Tryz.prog W .any base t v)
    (hW : DataW.Whole enc Tryz.prog Tryz.f5.params.toList Rows.classBackSpec.vars false W args.toList ds gs before) (hL : laidMetH Tryz.prog L3 W)
    (hsz0 : (DataW.weightsEach Tryz.prog (Tryz.f5.params.toList ++ Rows.classBackSpec.plain.varTypes Tryz.prog) (ds ++ gs)).all (· ≤ reachBytes) = true)
    : Calls Tryz.prog 5 args W fun e W' => ∃ v, e = .returned v ∧ Rows.classBackSpec.post enc Tryz.prog Tryz.f5 false true false false W args v W' := by
  have hT := tabs hL
  have hE := errv hL
  have hsz := hsz0
  have hval : ∀ (j : Nat) t v, Tryz.f5.params[j]? = some t → args[j]? = some v → Value.okWide Tryz.prog W .any base t v := hval0
  have hW' := hW
  obtain ⟨p, q, hA0, hV, rfl, hfz, hnd⟩ := hW
  have hA : DataW.TrodAll enc Tryz.prog W 0 (fun _ => true) true Tryz.f5.params.toList args.toList ds p := hA0
  rw [Tryz.params5] at hA hval hsz
  obtain ⟨v0, vs0, d0, ds0, p0, q0, hargs, rfl, rfl, h0, r0⟩ := trodAll_cons hA
  obtain ⟨v1, vs1, d1, ds1, p1, q1, rfl, rfl, rfl, h1, r1⟩ := trodAll_cons r0
  obtain ⟨rfl, rfl, rfl⟩ := trodAll_nil r1
  obtain rfl : args = #[v0, v1] := by cases args; simp_all
  obtain ⟨rfl, rfl⟩ := trodVars_none hV
  have k0 := h0
  have lt0 : ∀ x ∈ p0, x.block < W.heap.size := by obtain ⟨m, hm⟩ := k0; exact DataW.trod_lt m _ _ _ hm
  obtain ⟨vp0, vf0, vm0, z0, rfl, b0, l0, n0⟩ := arg_class (hval 0 26 v0 rfl rfl) h0 (light_arg (j := 0) hsz rfl rfl)
  obtain ⟨a1, rfl, rfl, rfl, ws1⟩ := open_int Tryz.underlying5 (hval 1 5 v1 rfl rfl) h1
  clear hA0 hval0
  refine (walkBack vp0 vf0 vm0 z0 a1 W b0 (by have := bounds_u8 ws1; omega) hT hE).mono fun e W' ⟨he, on⟩ => ?_
  have bel := on.none
  subst he
  exact ⟨_, rfl, _, _, _, [], _, [], hW', trodAll_mk1 (shut_bool Tryz.underlying4 _), (trodAll_cons_mk (Below.trod laidOut (by kernel_rfl) (of_decide_eq_true (by kernel_rfl)) k0 bel lt0) (trodAll_cons_mk (shut_int Tryz.underlying5 ws1) trodAll_mk0)), rfl, bel.frame _, fun h => by cases h⟩

set_option maxRecDepth 100000 in
theorem lifted (os : Os) (started : os.Started) (H : Type) (enc : TypeId × Value → H) (F : Stop.Interp) :
    ReturnsInHanded {} Tryz.checked os 5 .any ((OpenSpec.ofChange Rows.classBackSpec).preRow enc Tryz.prog Tryz.f5 Rows.classBackRow.domain false Rows.classBackRow.laid) (((OpenSpec.ofChange Rows.classBackSpec).at F).post enc Tryz.prog Tryz.f5 false true false false) := by
  obtain ⟨places, hx⟩ := reads os enc
  refine returnsInHanded_of_row (C := Tryz.checked) (s := (OpenSpec.ofChange Rows.classBackSpec)) own started (by kernel_rfl) Tryz.func5
    (witness_row_at (enc := enc) (C := Tryz.checked) false (laidWorld os) #[.agg #[.slice none 0 0, .int .i64 0, .int .i64 0, .slice none 0 0, .slice none 0 0], .int .u8 0] rfl (by kernel_rfl) (by kernel_rfl) (by kernel_rfl)
      (OpenSpec.preRow_of_cond 8 hx (by kernel_rfl) (fun k hk => by cases hk) (by kernel_rfl) (laid_metW os))) ?_
  intro W base args ds gs before hval hW _ hcond hsz hL _ _
  exact contract H enc W base args ds gs before hval hW hL hsz

theorem over : Rows.ClassBackSaid :=
  OpenClaim.holds_of_cond 5 Tryz.f5 rfl rfl rfl rfl rfl rfl rfl ⟨rfl, rfl, rfl, rfl, rfl⟩ rfl rfl rfl rfl rfl (by kernel_rfl) Tryz.func5 (by kernel_rfl)
    (of_decide_eq_true (by kernel_rfl)) (by unfold Func.isWrapper; first | (rw [if_pos (by decide +kernel)]; kernel_rfl) | (rw [if_neg (by decide +kernel)]; exact ⟨rfl, rfl⟩))
    (fun os started H enc _ F => by rw [OpenClaim.pre_eq_preRow]; exact lifted os started H enc F)

/-- No parameter wants a stand-in; the program looks (errors.As reads the types). -/
theorem plain (f : FuncId) (fn : Func) (hf : Tryz.pinned.checked.prog.funcNamed Rows.classBackRow.func = some f) (hfn : Tryz.pinned.checked.prog.funcs[f]? = some fn) :
    true = Tryz.pinned.checked.prog.looks [] ∧ ∀ (j : Nat) t, fn.params[j]? = some t → Tryz.pinned.checked.prog.wantsStandIn t = false := by
  obtain rfl : f = 5 := Option.some.inj ((show Tryz.prog.funcNamed Rows.classBackRow.func = some 5 by kernel_rfl).symm.trans hf) |>.symm
  obtain rfl : fn = Tryz.f5 := (Option.some.inj (Tryz.func5.symm.trans hfn)).symm
  refine ⟨by kernel_rfl, fun j t ht => ?_⟩
  rw [Tryz.params5] at ht
  have hm : t = 26 ∨ t = 5 := by simpa using Array.mem_of_getElem? ht
  rcases hm with rfl | rfl
  · exact (show Tryz.prog.wantsStandIn 26 = false by kernel_rfl)
  · exact (show Tryz.prog.wantsStandIn 5 = false by kernel_rfl)

theorem proved : Rows.ClassBackCardSaid :=
  Claim7.holds_tied_plain_at .later [] _ _ _ _ over (fun _ h => by cases h) (by kernel_rfl) (fun _ h => by cases h) classBack_row_tie rfl ⟨rfl, rfl⟩ (by kernel_rfl) rfl plain (by kernel_rfl)
#print axioms proved
end Go.Proofs.YtodhdiccfobcfaaGreatDoor.classBack
