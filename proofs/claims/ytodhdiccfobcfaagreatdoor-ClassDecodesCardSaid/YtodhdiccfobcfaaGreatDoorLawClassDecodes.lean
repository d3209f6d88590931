/- PROVED: the law ClassDecodes: the program's Decode of any bytes answers as the document's own: the same class, or the same fault. Any bytes. -/
import Derived.Test.YtodhdiccfobcfaaGreatDoorLaid3
import Derived.Deep.RegionHeld3
import Derived.Test.YtodhdiccfobcfaaGreatDoorClsNa
import Derived.Test.YtodhdiccfobcfaaGreatDoorClsSa
import Derived.Test.YtodhdiccfobcfaaGreatDoorClsMk
import Derived.Test.YtodhdiccfobcfaaGreatDoorClsAw
import Derived.Test.YtodhdiccfobcfaaGreatDoorClsD
import Derived.Test.YtodhdiccfobcfaaGreatDoorClsRd
namespace Go.Proofs.YtodhdiccfobcfaaGreatDoor.classDecodes
open Go.ChangeShapes Go.WideShapes Go.ChangeAt Go.RowKit
set_option linter.unusedVariables false
set_option linter.unusedSimpArgs false

set_option maxHeartbeats 8000000 in
set_option maxRecDepth 100000 in
theorem walkDecodes (v : Value) (zs : List Int) (w : World) (hb : Bytes w v zs) (hl : zs.length ≤ 140737488351232) (hT : Tabs w) (hg : ErrV w) :
    Calls Tryz.prog 4 #[v] w fun e w' => e = .returned (.bool true) ∧ Only (fun _ => False) w w' := by
  obtain ⟨i0, hi, hz0, hz1, hz2⟩ := info_parts info_u8
  obtain ⟨bo, bcap, rfl, hb1, hb2, hb3, hbz, hbc⟩ := id hb
  have Hb := Lib.hid hb
  have HTT := Lib.hid hT
  have HGG := Lib.hid hg
  have cA := fun w' (ho : Only (fun _ => False) w w') => awake w' (hT.only ho (fun h => h) (fun h => h)) (hg.only ho (fun h => h))
  have CA := Lib.hid cA
  clear hb hbc hT hg hb3 cA
  go_enter Tryz.func4, Tryz.ntmps4
  go_wp2_with (first | (at_builtin; refine wpList_append_src rfl (.tmp 8) (.tmp 9) 27 rfl 5 i0 (.int .u8 0) 1 1 Tryz.underlying27 hi hz0 hz1 hz2 rfl (by decide) w.heap.size (.slice (some ⟨w.heap.size, 0, none⟩) 0 0) 0 [] rfl (by exact World.ownsRow_made _ #[] 0 (Nat.le_refl _) (Nat.zero_le _) rfl) (by simp) (.slice bo zs.length bcap) zs.length (zs.map (Value.int .u8)) rfl (by exact (Src.of_bytes Hb.out).alloc _) (by unfold maxLen; omega) (by omega) ?_; intro v' w1 hown1 hgrow1 hnew1))
  have hbel1 : Below w.heap.size w w1 := Below.grown (B := w.heap.size) ((Below.refl _ _).alloc (Nat.le_refl _) _) hgrow1 (by simp) (fun k hk => by simp [Value.ownBlock] at hk; omega)
  have hon1 : Only (fun _ => False) w w1 := Only.of_below hbel1 _
  have hbv : Bytes w1 v' zs := Bytes.of_owns (by simpa using hown1) hbz
  have cD := progClsDecode v' zs w1 hbv (by omega) (HTT.out.only hon1 (fun h => h) (fun h => h)) (HGG.out.only hon1 (fun h => h))
  have CD := Lib.hid cD
  have HON1 := Lib.hid hon1
  clear hown1 hgrow1 hnew1 hbel1 hon1 hbv cD
  refine CD.out.mono ?_
  rintro e w2 ⟨vp, vf, vm, c, e0, rfl, ho2, hcm, hres⟩
  have HRES := Lib.hid hres
  have hcp := hcm.1
  obtain ⟨ap, cp, rfl, _, _, _, _, _⟩ := id hcm.1
  obtain ⟨af, cf, rfl, _, _⟩ := hcm.2.1.1.slice
  obtain ⟨fm, hmm, _, _⟩ := id hcm.2.2.1
  obtain ⟨am, cm, rfl, _, _⟩ := hmm.slice
  have ho3 := (Only.refl (fun _ => False) w2).alloc (.cells #[.slice ap c.pool.length cp, .int .i64 c.this, .int .i64 c.super, .slice af c.fields.length cf, .slice am c.methods.length cm] 26)
  have hx3 := heap_alloc_new w2 (.cells #[.slice ap c.pool.length cp, .int .i64 c.this, .int .i64 c.super, .slice af c.fields.length cf, .slice am c.methods.length cm] 26)
  have hon3 := (HON1.out.trans ho2 (fun _ h _ => h)).trans ho3 (fun _ h _ => h)
  have cR := refClsDecode _ zs _ (Hb.out.only hon3 (fun _ _ _ h => h)) hl
  have CR := Lib.hid cR
  have HX3 := Lib.hid hx3
  have HON3 := Lib.hid hon3
  have HCM := Lib.hid (hcm.only ho3)
  clear cR hx3 hon3 ho3 ho2 hcm hcp hres hmm CD HON1
  go_wp2_with (fail)
  generalize w2.alloc (.cells #[.slice ap c.pool.length cp, .int .i64 c.this, .int .i64 c.super, .slice af c.fields.length cf, .slice am c.methods.length cm] 26) = w3 at *
  generalize w2.heap.size = xb at *
  refine CR.out.mono ?_
  rintro e w4 ⟨vq, vg, vn, c2, e2, rfl, ho4, hcm2, hres2⟩
  have hcc : e0 = e2 ∧ c = c2 := by
    rcases HRES.out with ⟨h0, hd, _⟩ | ⟨h0, hd, hc, _⟩ <;> rcases hres2 with ⟨h0', hd', _⟩ | ⟨h0', hd', hc', _⟩
    · have := hd.unique hd'
      injection this with this
      exact ⟨h0.trans h0'.symm, this⟩
    · have := hd.unique hd'
      cases this
    · have := hd.unique hd'
      cases this
    · have := hd.unique hd'
      injection this with this
      exact ⟨this, hc.trans hc'.symm⟩
  obtain ⟨rfl, rfl⟩ := hcc
  obtain ⟨ap2, cp2, rfl, _, _, _, _, _⟩ := id hcm2.1
  obtain ⟨af2, cf2, rfl, _, _⟩ := hcm2.2.1.1.slice
  obtain ⟨fm2, hmm2, _, _⟩ := id hcm2.2.2.1
  obtain ⟨am2, cm2, rfl, _, _⟩ := hmm2.slice
  have ho5 := (Only.refl (fun _ => False) w4).alloc (.cells #[.slice ap2 c.pool.length cp2, .int .i64 c.this, .int .i64 c.super, .slice af2 c.fields.length cf2, .slice am2 c.methods.length cm2] 26)
  have hy5 := heap_alloc_new w4 (.cells #[.slice ap2 c.pool.length cp2, .int .i64 c.this, .int .i64 c.super, .slice af2 c.fields.length cf2, .slice am2 c.methods.length cm2] 26)
  have hx5 := ho5.heap (ho4.heap HX3.out (fun h => h)) (fun h => h)
  have hon5 := (HON3.out.trans ho4 (fun _ h _ => h)).trans ho5 (fun _ h _ => h)
  have cS := sameC _ _ _ _ _ _ c _ ((HCM.out.only ho4).only ho5) (hcm2.only ho5)
  have q0 := cell_blk hx5 0
  have q1 := cell_blk hx5 1
  have q2 := cell_blk hx5 2
  have q3 := cell_blk hx5 3
  have q4 := cell_blk hx5 4
  have p0 := cell_blk hy5 0
  have p1 := cell_blk hy5 1
  have p2 := cell_blk hy5 2
  have p3 := cell_blk hy5 3
  have p4 := cell_blk hy5 4
  simp only [List.getElem?_toArray, List.getElem?_cons_succ, List.getElem?_cons_zero] at q0 q1 q2 q3 q4 p0 p1 p2 p3 p4
  have CS := Lib.hid cS
  have HON5 := Lib.hid hon5
  clear cS hx5 hy5 hon5 ho5 ho4 hcm2 hres2 hmm2 CR HX3 HON3 HCM HRES
  go_wp2_with (fail)
  refine CS.out.mono ?_
  rintro e w7 ⟨rfl, ho7⟩
  have HON7 := Lib.hid (HON5.out.trans ho7 (fun _ h _ => h))
  clear ho7 CS q0 q1 q2 q3 q4 p0 p1 p2 p3 p4
  go_wp2_with (go_at_call 10; refine (CA.out _ HON7.out).mono ?_; rintro e w9 ⟨rfl, ho9⟩)
  go_ret
  exact ⟨rfl, HON7.out.trans ho9 (fun _ h => h.elim)⟩

theorem reads (os : Os) {H : Type} (enc : TypeId × Value → H) : ∃ places, DataW.whole enc Tryz.prog ((laidWorld os).forCall (fun _ _ => 0) ⟨#[], #[.slice none 0 0], []⟩).memory Tryz.f4.params.toList Rows.classDecodesSpec.vars false #[.slice none 0 0].toList 8 = some ([.nil], [], places) :=
  ⟨[], by kernel_rfl⟩

theorem laid_metW (os : Os) : laidMetH Tryz.prog L3 ((laidWorld os).forCall (fun _ _ => 0) ⟨#[], #[.slice none 0 0], []⟩).memory :=
  laid_met os _ (LaidIn.of_run [1, 2] 8 (by kernel_rfl) (by kernel_rfl) (by kernel_rfl) (by kernel_rfl)).met (by kernel_rfl)

set_option maxRecDepth 100000 in
theorem contract (H : Type) (enc : TypeId × Value → H) (W : World) (base : Nat) (args : Array Value) (ds gs : List (DataW H)) (before : List MemPlace)
    (hval0 : ∀ (j : Nat) t v, Tryz.f4.params[j]? = some t → args[j]? = some v → Value.okWide Tryz.prog W .any base t v)
    (hW : DataW.Whole enc Tryz.prog Tryz.f4.params.toList Rows.classDecodesSpec.vars false W args.toList ds gs before) (hL : laidMetH Tryz.prog L3 W)
    (hsz0 : (DataW.weightsEach Tryz.prog (Tryz.f4.params.toList ++ Rows.classDecodesSpec.plain.varTypes Tryz.prog) (ds ++ gs)).all (· ≤ reachBytes) = true)
    : Calls Tryz.prog 4 args W fun e W' => ∃ v, e = .returned v ∧ Rows.classDecodesSpec.post enc Tryz.prog Tryz.f4 false true false false W args v W' := by
  have hT := tabs hL
  have hE := errv hL
  have hsz := hsz0
  have hval : ∀ (j : Nat) t v, Tryz.f4.params[j]? = some t → args[j]? = some v → Value.okWide Tryz.prog W .any base t v := hval0
  have hW' := hW
  obtain ⟨p, q, hA0, hV, rfl, hfz, hnd⟩ := hW
  have hA : DataW.TrodAll enc Tryz.prog W 0 (fun _ => true) true Tryz.f4.params.toList args.toList ds p := hA0
  rw [Tryz.params4] at hA hval hsz
  obtain ⟨v0, vs0, d0, ds0, p0, q0, hargs, rfl, rfl, h0, r0⟩ := trodAll_cons hA
  obtain ⟨rfl, rfl, rfl⟩ := trodAll_nil r0
  obtain rfl : args = #[v0] := by cases args; simp_all
  obtain ⟨rfl, rfl⟩ := trodVars_none hV
  have k0 := h0
  have lt0 : ∀ x ∈ p0, x.block < W.heap.size := by obtain ⟨m, hm⟩ := k0; exact DataW.trod_lt m _ _ _ hm
  obtain ⟨z0, b0, l0⟩ := arg_bytes (hval 0 27 v0 rfl rfl) h0 (light_arg (j := 0) hsz rfl rfl)
  clear hA0 hval0
  refine (walkDecodes v0 z0 W b0 l0 hT hE).mono fun e W' ⟨he, on⟩ => ?_
  have bel := on.none
  subst he
  exact ⟨_, rfl, _, _, _, [], _, [], hW', trodAll_mk1 (shut_bool Tryz.underlying4 _), (trodAll_cons_mk (Below.trod laidOut (by kernel_rfl) (of_decide_eq_true (by kernel_rfl)) k0 bel lt0) trodAll_mk0), rfl, bel.frame _, fun h => by cases h⟩

set_option maxRecDepth 100000 in
theorem lifted (os : Os) (started : os.Started) (H : Type) (enc : TypeId × Value → H) (F : Stop.Interp) :
    ReturnsInHanded {} Tryz.checked os 4 .any ((OpenSpec.ofChange Rows.classDecodesSpec).preRow enc Tryz.prog Tryz.f4 Rows.classDecodesRow.domain false Rows.classDecodesRow.laid) (((OpenSpec.ofChange Rows.classDecodesSpec).at F).post enc Tryz.prog Tryz.f4 false true false false) := by
  obtain ⟨places, hx⟩ := reads os enc
  refine returnsInHanded_of_row (C := Tryz.checked) (s := (OpenSpec.ofChange Rows.classDecodesSpec)) own started (by kernel_rfl) Tryz.func4
    (witness_row_at (enc := enc) (C := Tryz.checked) false (laidWorld os) #[.slice none 0 0] rfl (by kernel_rfl) (by kernel_rfl) (by kernel_rfl)
      (OpenSpec.preRow_of_cond 8 hx (by kernel_rfl) (fun k hk => by cases hk) (by kernel_rfl) (laid_metW os))) ?_
  intro W base args ds gs before hval hW _ hcond hsz hL _ _
  exact contract H enc W base args ds gs before hval hW hL hsz

theorem over : Rows.ClassDecodesSaid :=
  OpenClaim.holds_of_cond 4 Tryz.f4 rfl rfl rfl rfl rfl rfl rfl ⟨rfl, rfl, rfl, rfl, rfl⟩ rfl rfl rfl rfl rfl (by kernel_rfl) Tryz.func4 (by kernel_rfl)
    (of_decide_eq_true (by kernel_rfl)) (by unfold Func.isWrapper; first | (rw [if_pos (by decide +kernel)]; kernel_rfl) | (rw [if_neg (by decide +kernel)]; exact ⟨rfl, rfl⟩))
    (fun os started H enc _ F => by rw [OpenClaim.pre_eq_preRow]; exact lifted os started H enc F)

/-- No parameter wants a stand-in; the program looks (errors.As reads the types). -/
theorem plain (f : FuncId) (fn : Func) (hf : Tryz.pinned.checked.prog.funcNamed Rows.classDecodesRow.func = some f) (hfn : Tryz.pinned.checked.prog.funcs[f]? = some fn) :
    true = Tryz.pinned.checked.prog.looks [] ∧ ∀ (j : Nat) t, fn.params[j]? = some t → Tryz.pinned.checked.prog.wantsStandIn t = false := by
  obtain rfl : f = 4 := Option.some.inj ((show Tryz.prog.funcNamed Rows.classDecodesRow.func = some 4 by kernel_rfl).symm.trans hf) |>.symm
  obtain rfl : fn = Tryz.f4 := (Option.some.inj (Tryz.func4.symm.trans hfn)).symm
  refine ⟨by kernel_rfl, fun j t ht => ?_⟩
  rw [Tryz.params4] at ht
  obtain rfl : t = 27 := by simpa using Array.mem_of_getElem? ht
  exact (show Tryz.prog.wantsStandIn 27 = false by kernel_rfl)

theorem proved : Rows.ClassDecodesCardSaid :=
  Claim7.holds_tied_plain_at .later [] _ _ _ _ over (fun _ h => by cases h) (by kernel_rfl) (fun _ h => by cases h) classDecodes_row_tie rfl ⟨rfl, rfl⟩ (by kernel_rfl) rfl plain (by kernel_rfl)
#print axioms proved
end Go.Proofs.YtodhdiccfobcfaaGreatDoor.classDecodes
