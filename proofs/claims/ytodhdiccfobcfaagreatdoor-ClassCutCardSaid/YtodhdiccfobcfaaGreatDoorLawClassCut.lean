/- PROVED: the law ClassCut: a class file that is cut short anywhere is none. Every class, every number of 16 bits. -/
import Derived.Test.YtodhdiccfobcfaaGreatDoorLaid3
import Derived.Deep.RegionHeld3
import Derived.Test.YtodhdiccfobcfaaGreatDoorClsNa
import Derived.Test.YtodhdiccfobcfaaGreatDoorClsSa
import Derived.Test.YtodhdiccfobcfaaGreatDoorGClsO
import Derived.Test.YtodhdiccfobcfaaGreatDoorGClsP
import Derived.Test.YtodhdiccfobcfaaGreatDoorPolCe
import Derived.Test.YtodhdiccfobcfaaGreatDoorClsMk
import Derived.Test.YtodhdiccfobcfaaGreatDoorClsAw
import Derived.Test.YtodhdiccfobcfaaGreatDoorClsD
namespace Go.Proofs.YtodhdiccfobcfaaGreatDoor.classCut
open Go.ChangeShapes Go.WideShapes Go.ChangeAt Go.RowKit
set_option linter.unusedVariables false
set_option linter.unusedSimpArgs false

set_option maxHeartbeats 8000000 in
set_option maxRecDepth 100000 in
theorem walkCut (vp vf vm : Value) (c : ClassV) (m : Int) (w : World) (hc : ClassM w vp vf vm c) (hm : 0 ≤ m ∧ m ≤ 65535) (hT : Tabs w) (hg : ErrV w) :
    Calls Tryz.prog 6 #[.agg #[vp, .int .i64 c.this, .int .i64 c.super, vf, vm], .int .u16 m] w fun e w' => e = .returned (.bool true) ∧ Only (fun _ => False) w w' := by
  have ho0 := (Only.refl (fun _ => False) w).alloc (.cells #[vp, .int .i64 c.this, .int .i64 c.super, vf, vm] 26)
  have cE := progClsEncode vp vf vm c _ (hc.only ho0) (hT.only ho0 (fun h => h) (fun h => h)) (hg.only ho0 (fun h => h))
  have HTT := Lib.hid hT
  have HGG := Lib.hid hg
  have HN := Lib.hid (show ∀ k ∈ c.pool, I64 k.n from fun k hk => by obtain ⟨_, _, _, _, _, _, hr, _⟩ := hc.1; exact (hr k hk).r2)
  have cA := fun w' (ho : Only (fun _ => False) w w') => awake w' (hT.only ho (fun h => h) (fun h => h)) (hg.only ho (fun h => h))
  obtain ⟨hp, hf, hmm, r1, r2⟩ := id hc
  obtain ⟨ap, cp, rfl, _, _, _, _, _⟩ := id hp
  obtain ⟨af, cf, rfl, hf1, hf2⟩ := hf.1.slice
  obtain ⟨fm, hm1, hm2, hm3⟩ := id hmm
  obtain ⟨am, cm, rfl, hm4, hm5⟩ := hm1.slice
  obtain ⟨at0, hat⟩ : ∃ at0 : Nat, m = at0 := ⟨m.toNat, by omega⟩
  subst hat
  have hmz : (at0 : Int) ≤ 65535 := hm.2
  have HO := Lib.hid ho0
  have CE := Lib.hid cE
  have CA := Lib.hid cA
  clear hc hp hf hmm hm1 hm2 hm3 cE cA hT hg ho0 hm
  go_enter Tryz.func6, Tryz.ntmps6
  go_wp2_with (fail)
  refine CE.out.mono ?_
  rintro e w5 ⟨va, k, rfl, ho5, hres⟩
  have HON5 := Lib.hid (HO.out.trans ho5 (fun _ h => h.elim))
  clear ho5 CE
  rcases hres with ⟨hz, rfl, bs, hbs, hrow, hby⟩ | ⟨hz, rfl, rfl⟩
  rotate_left
  · generalize clsZ c = k at *
    have hkc : (k != 0) = true := by simpa using hz
    clear hz
    go_wp2_with (go_at_call 10; refine (CA.out _ HON5.out).mono ?_; rintro e w7 ⟨rfl, ho7⟩)
    go_ret
    exact ⟨rfl, HON5.out.trans ho7 (fun _ h => h.elim)⟩
  obtain ⟨hfl, _, _⟩ := fileB_len hz hbs
  have hfp : 0 < (fileB c bs).length := by unfold fileB headB; simp [be4]
  have hcut : ∀ n, n < (fileB c bs).length → ∀ r, DecC ((fileB c bs).take n) r → ∃ e, e ≠ 0 ∧ r = .error e := fun n hn r hd => class_cut hz HN.out hbs hn hd
  obtain ⟨fs, hfs⟩ : ∃ fs, fileB c bs = fs := ⟨_, rfl⟩
  rw [hfs] at hrow hby hcut hfl hfp
  obtain ⟨g, capf, rfl, hgf, hc1, hc2⟩ := row_at hrow hfp
  unfold maxLen at hc2
  obtain ⟨q, hq⟩ : ∃ q, at0 % fs.length = q := ⟨_, rfl⟩
  have hql : q < fs.length := by rw [← hq]; exact Nat.mod_lt _ hfp
  have hrem : (at0 : Int).tmod (fs.length : Int) = (q : Int) := by rw [← hq]; rfl
  have hb1 := Bytes.first (hrow.bytes hby) q (by omega)
  have cD := progClsDecode _ (fs.take q) w5 hb1 (by rw [List.length_take]; omega) (HTT.out.only HON5.out (fun h => h) (fun h => h)) (HGG.out.only HON5.out (fun h => h))
  have CD := Lib.hid cD
  have HCUT := Lib.hid (hcut q hql)
  have hflz : (fs.length : Int) ≤ 824597 := by omega
  have hfz : (0 : Int) < (fs.length : Int) := by omega
  have hfne : ((fs.length : Int) == 0) = false := by simp only [beq_eq_false_iff_ne]; omega
  have hqz : (q : Int) ≤ (capf : Int) := by omega
  have hq0 : (0 : Int) ≤ (q : Int) := by omega
  clear cD hrow hby hcut hbs hfs hz hb1 hgf hq
  go_wp2_with (fail)
  refine CD.out.mono ?_
  rintro e w6 ⟨vp2, vf2, vm2, c2, e0, rfl, ho6, hcm2, hres2⟩
  have hcc : e0 ≠ 0 ∧ c2 = ⟨[], 0, 0, [], []⟩ ∧ vp2 = .slice none 0 0 ∧ vf2 = .slice none 0 0 ∧ vm2 = .slice none 0 0 := by
    rcases hres2 with ⟨h0, hd, _⟩ | ⟨h0, hd, h1, h2, h3, h4⟩
    · obtain ⟨e, _, he⟩ := HCUT.out _ hd
      cases he
    · exact ⟨h0, h1, h2, h3, h4⟩
  obtain ⟨h0, rfl, rfl, rfl, rfl⟩ := hcc
  have hne : (e0 == 0) = false := by simpa using h0
  have hne2 : (e0 != 0) = true := by simpa using h0
  have ho7 := (Only.refl (fun _ => False) w6).alloc (.cells #[.slice none 0 0, .int .i64 0, .int .i64 0, .slice none 0 0, .slice none 0 0] 26)
  have hx7 := heap_alloc_new w6 (.cells #[.slice none 0 0, .int .i64 0, .int .i64 0, .slice none 0 0, .slice none 0 0] 26)
  have HON7 := Lib.hid ((HON5.out.trans ho6 (fun _ h _ => h)).trans ho7 (fun _ h _ => h))
  have x0 := cell_blk hx7 0
  have x1 := cell_blk hx7 1
  have x2 := cell_blk hx7 2
  have x3 := cell_blk hx7 3
  have x4 := cell_blk hx7 4
  simp only [List.getElem?_toArray, List.getElem?_cons_succ, List.getElem?_cons_zero] at x0 x1 x2 x3 x4
  have cS := sameC _ _ _ _ _ _ ⟨[], 0, 0, [], []⟩ (w6.alloc (.cells #[.slice none 0 0, .int .i64 0, .int .i64 0, .slice none 0 0, .slice none 0 0] 26)) (ClassM.nil _) (ClassM.nil _)
  have CS := Lib.hid cS
  clear cS ho6 hcm2 hres2 CD ho7 hx7 h0
  go_wp2_with (fail)
  refine CS.out.mono ?_
  rintro e w8 ⟨rfl, ho8⟩
  have HON8 := Lib.hid (HON7.out.trans ho8 (fun _ h _ => h))
  clear ho8 CS
  go_wp2
  go_ret
  exact ⟨rfl, HON8.out⟩

theorem reads (os : Os) {H : Type} (enc : TypeId × Value → H) : ∃ places, DataW.whole enc Tryz.prog ((laidWorld os).forCall (fun _ _ => 0) ⟨#[], #[.agg #[.slice none 0 0, .int .i64 0, .int .i64 0, .slice none 0 0, .slice none 0 0], .int .u16 0], []⟩).memory Tryz.f6.params.toList Rows.classCutSpec.vars false #[.agg #[.slice none 0 0, .int .i64 0, .int .i64 0, .slice none 0 0, .slice none 0 0], .int .u16 0].toList 8 = some ([.agg [.nil, .lit (.int .i64 0), .lit (.int .i64 0), .nil, .nil], .lit (.int .u16 0)], [], places) :=
  ⟨[], by kernel_rfl⟩

theorem laid_metW (os : Os) : laidMetH Tryz.prog L3 ((laidWorld os).forCall (fun _ _ => 0) ⟨#[], #[.agg #[.slice none 0 0, .int .i64 0, .int .i64 0, .slice none 0 0, .slice none 0 0], .int .u16 0], []⟩).memory :=
  laid_met os _ (LaidIn.of_run [1, 2] 8 (by kernel_rfl) (by kernel_rfl) (by kernel_rfl) (by kernel_rfl)).met (by kernel_rfl)

set_option maxRecDepth 100000 in
theorem contract (H : Type) (enc : TypeId × Value → H) (W : World) (base : Nat) (args : Array Value) (ds gs : List (DataW H)) (before : List MemPlace)
    (hval0 : ∀ (j : Nat) t v, Tryz.f6.params[j]? = some t → args[j]? = some v → Value.okWide Tryz.prog W .any base t v)
    (hW : DataW.Whole enc Tryz.prog Tryz.f6.params.toList Rows.classCutSpec.vars false W args.toList ds gs before) (hL : laidMetH Tryz.prog L3 W)
    (hsz0 : (DataW.weightsEach Tryz.prog (Tryz.f6.params.toList ++ Rows.classCutSpec.plain.varTypes Tryz.prog) (ds ++ gs)).all (· ≤ reachBytes) = true)
    : Calls Tryz.prog 6 args W fun e W' => ∃ v, e = .returned v ∧ Rows.classCutSpec.post enc Tryz.prog Tryz.f6 false true false false W args v W' := by
  have hT := tabs hL
  have hE := errv hL
  have hsz := hsz0
  have hval : ∀ (j : Nat) t v, Tryz.f6.params[j]? = some t → args[j]? = some v → Value.okWide Tryz.prog W .any base t v := hval0
  have hW' := hW
  obtain ⟨p, q, hA0, hV, rfl, hfz, hnd⟩ := hW
  have hA : DataW.TrodAll enc Tryz.prog W 0 (fun _ => true) true Tryz.f6.params.toList args.toList ds p := hA0
  rw [Tryz.params6] at hA hval hsz
  obtain ⟨v0, vs0, d0, ds0, p0, q0, hargs, rfl, rfl, h0, r0⟩ := trodAll_cons hA
  obtain ⟨v1, vs1, d1, ds1, p1, q1, rfl, rfl, rfl, h1, r1⟩ := trodAll_cons r0
  obtain ⟨rfl, rfl, rfl⟩ := trodAll_nil r1
  obtain rfl : args = #[v0, v1] := by cases args; simp_all
  obtain ⟨rfl, rfl⟩ := trodVars_none hV
  have k0 := h0
  have lt0 : ∀ x ∈ p0, x.block < W.heap.size := by obtain ⟨m, hm⟩ := k0; exact DataW.trod_lt m _ _ _ hm
  obtain ⟨vp0, vf0, vm0, z0, rfl, b0, l0, n0⟩ := arg_class (hval 0 26 v0 rfl rfl) h0 (light_arg (j := 0) hsz rfl rfl)
  obtain ⟨a1, rfl, rfl, rfl, ws1⟩ := open_int Tryz.underlying43 (hval 1 43 v1 rfl rfl) h1
  clear hA0 hval0
  refine (walkCut vp0 vf0 vm0 z0 a1 W b0 (by have := bounds_u16 ws1; omega) hT hE).mono fun e W' ⟨he, on⟩ => ?_
  have bel := on.none
  subst he
  exact ⟨_, rfl, _, _, _, [], _, [], hW', trodAll_mk1 (shut_bool Tryz.underlying4 _), (trodAll_cons_mk (Below.trod laidOut (by kernel_rfl) (of_decide_eq_true (by kernel_rfl)) k0 bel lt0) (trodAll_cons_mk (shut_int Tryz.underlying43 ws1) trodAll_mk0)), rfl, bel.frame _, fun h => by cases h⟩

set_option maxRecDepth 100000 in
theorem lifted (os : Os) (started : os.Started) (H : Type) (enc : TypeId × Value → H) (F : Stop.Interp) :
    ReturnsInHanded {} Tryz.checked os 6 .any ((OpenSpec.ofChange Rows.classCutSpec).preRow enc Tryz.prog Tryz.f6 Rows.classCutRow.domain false Rows.classCutRow.laid) (((OpenSpec.ofChange Rows.classCutSpec).at F).post enc Tryz.prog Tryz.f6 false true false false) := by
  obtain ⟨places, hx⟩ := reads os enc
  refine returnsInHanded_of_row (C := Tryz.checked) (s := (OpenSpec.ofChange Rows.classCutSpec)) own started (by kernel_rfl) Tryz.func6
    (witness_row_at (enc := enc) (C := Tryz.checked) false (laidWorld os) #[.agg #[.slice none 0 0, .int .i64 0, .int .i64 0, .slice none 0 0, .slice none 0 0], .int .u16 0] rfl (by kernel_rfl) (by kernel_rfl) (by kernel_rfl)
      (OpenSpec.preRow_of_cond 8 hx (by kernel_rfl) (fun k hk => by cases hk) (by kernel_rfl) (laid_metW os))) ?_
  intro W base args ds gs before hval hW _ hcond hsz hL _ _
  exact contract H enc W base args ds gs before hval hW hL hsz

theorem over : Rows.ClassCutSaid :=
  OpenClaim.holds_of_cond 6 Tryz.f6 rfl rfl rfl rfl rfl rfl rfl ⟨rfl, rfl, rfl, rfl, rfl⟩ rfl rfl rfl rfl rfl (by kernel_rfl) Tryz.func6 (by kernel_rfl)
    (of_decide_eq_true (by kernel_rfl)) (by unfold Func.isWrapper; first | (rw [if_pos (by decide +kernel)]; kernel_rfl) | (rw [if_neg (by decide +kernel)]; exact ⟨rfl, rfl⟩))
    (fun os started H enc _ F => by rw [OpenClaim.pre_eq_preRow]; exact lifted os started H enc F)

/-- No parameter wants a stand-in; the program looks (errors.As reads the types). -/
theorem plain (f : FuncId) (fn : Func) (hf : Tryz.pinned.checked.prog.funcNamed Rows.classCutRow.func = some f) (hfn : Tryz.pinned.checked.prog.funcs[f]? = some fn) :
    true = Tryz.pinned.checked.prog.looks [] ∧ ∀ (j : Nat) t, fn.params[j]? = some t → Tryz.pinned.checked.prog.wantsStandIn t = false := by
  obtain rfl : f = 6 := Option.some.inj ((show Tryz.prog.funcNamed Rows.classCutRow.func = some 6 by kernel_rfl).symm.trans hf) |>.symm
  obtain rfl : fn = Tryz.f6 := (Option.some.inj (Tryz.func6.symm.trans hfn)).symm
  refine ⟨by kernel_rfl, fun j t ht => ?_⟩
  rw [Tryz.params6] at ht
  have hm : t = 26 ∨ t = 43 := by simpa using Array.mem_of_getElem? ht
  rcases hm with rfl | rfl
  · exact (show Tryz.prog.wantsStandIn 26 = false by kernel_rfl)
  · exact (show Tryz.prog.wantsStandIn 43 = false by kernel_rfl)

theorem proved : Rows.ClassCutCardSaid :=
  Claim7.holds_tied_plain_at .later [] _ _ _ _ over (fun _ h => by cases h) (by kernel_rfl) (fun _ h => by cases h) classCut_row_tie rfl ⟨rfl, rfl⟩ (by kernel_rfl) rfl plain (by kernel_rfl)
#print axioms proved
end Go.Proofs.YtodhdiccfobcfaaGreatDoor.classCut
