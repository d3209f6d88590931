/- PROVED: the law PoolBack: a pool that may be, as bytes, with anything behind, is read as itself; the arguments read as before. For every input. No condition beyond what the row lists of the library's own tables. -/
import Derived.Test.YtpiandkiijienaaDoorLaid3
import Derived.Test.YtpiandkiijienaaDoorPolDc
import Derived.Test.YtpiandkiijienaaDoorPolQ
import Derived.Test.YtpiandkiijienaaDoorPolI
import Derived.Test.YtpiandkiijienaaDoorPolCe
import Derived.Test.YtpiandkiijienaaDoorPolCd
import Derived.Test.YtpiandkiijienaaDoorPolL
import Derived.Test.YtpiandkiijienaaDoorBig
import Derived.Test.YtpiandkiijienaaDoorArg
namespace Go.Proofs.YtpiandkiijienaaDoor.poolBack
open Go.ChangeShapes Go.WideShapes Go.ChangeAt Go.RowKit
set_option linter.unusedVariables false
set_option linter.unusedSimpArgs false

set_option maxHeartbeats 4000000 in
set_option maxRecDepth 100000 in
theorem walkBack (v v1 : Value) (cs : List ConstV) (ys : List Int) (w : World) (hp : Pool w v cs) (hb : Bytes w v1 ys) (hl : ys.length ≤ 140737488351232) (hT : Tabs w) (hg : ErrV w) :
    Calls Tryd.prog 6 #[v, v1] w fun e w' => e = .returned (.bool true) ∧ Only (fun _ => False) w w' := by
  obtain ⟨i0, hi, hz0, hz1, hz2⟩ := info_parts info_u8
  have cE := progEncode v cs w hp hT hg
  obtain ⟨ao, cap, rfl, _, _, _, hr, _⟩ := id hp
  obtain ⟨ao1, cap1, rfl, hq1, hq2, _, hby, _⟩ := id hb
  unfold maxLen at hq2
  have HP := Lib.hid hp
  have HB := Lib.hid hb
  have HT := Lib.hid hT
  have HG := Lib.hid hg
  have HR := Lib.hid hr
  have HBY := Lib.hid hby
  have CE := Lib.hid cE
  clear hp hb hT hg hr hby cE
  go_enter Tryd.func6, Tryd.ntmps6
  go_wp2_with (fail)
  refine CE.out.mono ?_
  rintro e w1 ⟨vb, k, rfl, ho1, hres⟩
  have HON1 := Lib.hid ho1
  clear ho1 CE
  rcases hres with ⟨hz, rfl, bs, hbs, hrow⟩ | ⟨hz, rfl, rfl⟩
  · obtain ⟨c1, c2, _, _⟩ := checkZ_zero hz
    have hbl := hbs.len
    rw [List.length_drop] at hbl
    have hfy : Bytish (be2 cs.length ++ bs) := (be2_byte _).append (consts_byte hbs)
    have hback := fun post => pool_back hz (fun c hc => (HR.out c hc).r2) hbs post
    have hfl : (be2 (cs.length : Int) ++ bs).length ≤ 264959 := by rw [List.length_append]; have : (be2 (cs.length : Int)).length = 2 := rfl; omega
    have hfp : 0 < (be2 (cs.length : Int) ++ bs).length := by rw [List.length_append]; have : (be2 (cs.length : Int)).length = 2 := rfl; omega
    generalize be2 (cs.length : Int) ++ bs = fs at *
    obtain ⟨g, capf, rfl, hgf, hc1, hc2⟩ := row_at hrow hfp
    unfold maxLen at hc2
    have HROW := Lib.hid hrow
    have HFY := Lib.hid hfy
    have HBK := Lib.hid hback
    have hflz : (fs.length : Int) ≤ 264959 := by omega
    clear hrow hfy hback hbs hz
    go_wp2_with (first | (at_builtin; (refine wpList_append_src rfl (.tmp 30) (.tmp 31) 28 rfl 5 i0 (.int .u8 0) 1 1 Tryd.underlying28 hi hz0 hz1 hz2 rfl (by decide) w1.heap.size (.slice (some ⟨w1.heap.size, 0, none⟩) 0 0) 0 [] rfl (by exact made0 w1) (by simp) (.slice (some ⟨g, 0, none⟩) fs.length capf) fs.length (fs.map (Value.int .u8)) rfl (by exact (Src.of_bytes (HROW.out.bytes HFY.out)).alloc _) (by unfold maxLen; omega) (by omega) ?_); intro v3 w2 hown hgrow hnew; obtain ⟨hr3, ho3⟩ := Row.copied hown hgrow hnew; clear hown hgrow hnew; obtain ⟨g3, cap3, rfl, hg3, hc31, hc32⟩ := row_at hr3 hfp) | (at_builtin; go_loud (refine wpList_append_big rfl (.tmp 32) (.tmp 33) 28 rfl 5 i0 (.int .u8 0) Tryd.underlying28 hi hz0 hz1 hz2 rfl w1.heap.size g3 fs.length cap3 (fs.map (Value.int .u8)) rfl (by exact hr3) (by exact ho3.size) (.slice ao1 ys.length cap1) ys.length (ys.map (Value.int .u8)) rfl (by exact Src.of_bytes (HB.out.only (HON1.out.trans ho3 (fun _ h => h.elim)) (fun _ _ _ h => h))) (by unfold maxLen; omega) (by omega) ?_); intro v4 w3 hown hgrow hnew; obtain ⟨hr4, ho4⟩ := Row.push hr3 ho3 hown hgrow (fun k hk => (hnew k hk).imp (fun e => congrArg some e.symm) id); clear hown hgrow hnew))
    have hz4 : Bytish (fs ++ ys) := HFY.out.append HBY.out
    have HON3 := Lib.hid (HON1.out.trans ho4 (fun _ h => h.elim))
    have cD := progDecode v4 (fs ++ ys) w3 (hr4.bytes hz4) (by simp; omega) (HT.out.only HON3.out (fun h => h) (fun h => h)) (HG.out.only HON3.out (fun h => h))
    have CD := Lib.hid cD
    clear hr3 ho3 hr4 ho4 hz4 cD
    refine CD.out.mono ?_
    rintro e w4 ⟨vq, cs2, n, e0, rfl, hdec, ho5, hq, _⟩
    obtain ⟨rfl, rfl, rfl⟩ := DecP.unique hdec (HBK.out ys)
    have HON4 := Lib.hid (HON3.out.trans ho5 (fun _ h => h.elim))
    have cS := sameT _ vq _ w4 (HP.out.only HON4.out (fun _ _ h => h)) hq
    obtain ⟨aq, cq, rfl, _, _, _, _, _⟩ := id hq
    have CS := Lib.hid cS
    clear hdec ho5 hq cS CD
    go_wp2_with (fail)
    refine CS.out.mono ?_
    rintro e w5 ⟨rfl, ho6⟩
    have HON5 := Lib.hid (HON4.out.trans ho6 (fun _ h => h.elim))
    clear ho6 CS
    go_wp2_with (go_at_call 10; refine (awake _).mono ?_; rintro e w7 ⟨rfl, ho7⟩)
    go_ret
    exact ⟨rfl, HON5.out.trans ho7 (fun _ h => h.elim)⟩
  · have cC := progCheck _ cs w1 (HP.out.only HON1.out (fun _ _ h => h)) (HT.out.only HON1.out (fun h => h) (fun h => h)) (HG.out.only HON1.out (fun h => h))
    generalize checkZ cs = k at *
    have hkb : (k == 0) = false := by simpa using hz
    have hkc : (k != 0) = true := by simpa using hz
    have CC := Lib.hid cC
    clear cC hz
    go_wp2_with (fail)
    refine CC.out.mono ?_
    rintro e w2 ⟨rfl, ho2⟩
    have HON2 := Lib.hid (HON1.out.trans ho2 (fun _ h => h.elim))
    clear ho2 CC
    go_wp2_with (go_at_call 10; refine (awake _).mono ?_; rintro e w7 ⟨rfl, ho7⟩)
    go_ret
    exact ⟨rfl, HON2.out.trans ho7 (fun _ h => h.elim)⟩

theorem reads (os : Os) {H : Type} (enc : TypeId × Value → H) : ∃ places, DataW.whole enc Tryd.prog ((laidWorld os).forCall (fun _ _ => 0) ⟨#[], #[.slice none 0 0, .slice none 0 0], []⟩).memory Tryd.f6.params.toList Rows.poolBackSpec.vars false #[.slice none 0 0, .slice none 0 0].toList 8 = some ([.nil, .nil], [], places) :=
  ⟨[], by kernel_rfl⟩

set_option maxRecDepth 100000 in
theorem contract (H : Type) (enc : TypeId × Value → H) (W : World) (base : Nat) (args : Array Value) (ds gs : List (DataW H)) (before : List MemPlace)
    (hval0 : ∀ (j : Nat) t v, Tryd.f6.params[j]? = some t → args[j]? = some v → Value.okWide Tryd.prog W .any base t v)
    (hW : DataW.Whole enc Tryd.prog Tryd.f6.params.toList Rows.poolBackSpec.vars false W args.toList ds gs before) (hL : laidMetH Tryd.prog L3 W)
    (hsz0 : (DataW.weightsEach Tryd.prog (Tryd.f6.params.toList ++ Rows.poolBackSpec.plain.varTypes Tryd.prog) (ds ++ gs)).all (· ≤ reachBytes) = true)
    : Calls Tryd.prog 6 args W fun e W' => ∃ v, e = .returned v ∧ Rows.poolBackSpec.post enc Tryd.prog Tryd.f6 false true false false W args v W' := by
  have hT := tabs hL
  have hE := errv hL
  have hsz := hsz0
  have hval : ∀ (j : Nat) t v, Tryd.f6.params[j]? = some t → args[j]? = some v → Value.okWide Tryd.prog W .any base t v := hval0
  have hW' := hW
  obtain ⟨p, q, hA0, hV, rfl, hfz, hnd⟩ := hW
  have hA : DataW.TrodAll enc Tryd.prog W 0 (fun _ => true) true Tryd.f6.params.toList args.toList ds p := hA0
  rw [Tryd.params6] at hA hval hsz
  obtain ⟨v0, vs0, d0, ds0, p0, q0, hargs, rfl, rfl, h0, r0⟩ := trodAll_cons hA
  obtain ⟨v1, vs1, d1, ds1, p1, q1, rfl, rfl, rfl, h1, r1⟩ := trodAll_cons r0
  obtain ⟨rfl, rfl, rfl⟩ := trodAll_nil r1
  obtain rfl : args = #[v0, v1] := by cases args; simp_all
  obtain ⟨rfl, rfl⟩ := trodVars_none hV
  have k0 := h0
  have lt0 : ∀ x ∈ p0, x.block < W.heap.size := by obtain ⟨m, hm⟩ := k0; exact DataW.trod_lt m _ _ _ hm
  obtain ⟨z0, b0, l0, n0⟩ := arg_pool (hval 0 22 v0 rfl rfl) h0 (light_arg (j := 0) hsz rfl rfl)
  have k1 := h1
  have lt1 : ∀ x ∈ p1, x.block < W.heap.size := by obtain ⟨m, hm⟩ := k1; exact DataW.trod_lt m _ _ _ hm
  obtain ⟨z1, b1, l1⟩ := arg_bytes (hval 1 28 v1 rfl rfl) h1 (light_arg (j := 1) hsz rfl rfl)
  clear hA0 hval0
  refine (walkBack v0 v1 z0 z1 W b0 b1 l1 hT hE).mono fun e W' ⟨he, on⟩ => ?_
  have bel := on.none
  subst he
  exact ⟨_, rfl, _, _, _, [], _, [], hW', trodAll_mk1 (shut_bool Tryd.underlying4 _), (trodAll_cons_mk (Below.trod laidOut (by kernel_rfl) (of_decide_eq_true (by kernel_rfl)) k0 bel lt0) (trodAll_cons_mk (Below.trod laidOut (by kernel_rfl) (of_decide_eq_true (by kernel_rfl)) k1 bel lt1) trodAll_mk0)), rfl, bel.frame _, fun h => by cases h⟩

set_option maxRecDepth 100000 in
theorem lifted (os : Os) (started : os.Started) (H : Type) (enc : TypeId × Value → H) (F : Stop.Interp) :
    ReturnsInHanded {} Tryd.checked os 6 .any ((OpenSpec.ofChange Rows.poolBackSpec).preRow enc Tryd.prog Tryd.f6 Rows.poolBackRow.domain false Rows.poolBackRow.laid) (((OpenSpec.ofChange Rows.poolBackSpec).at F).post enc Tryd.prog Tryd.f6 false true false false) := by
  obtain ⟨places, hx⟩ := reads os enc
  refine returnsInHanded_of_row (C := Tryd.checked) (s := (OpenSpec.ofChange Rows.poolBackSpec)) own started (by kernel_rfl) Tryd.func6
    (witness_row_at (enc := enc) (C := Tryd.checked) false (laidWorld os) #[.slice none 0 0, .slice none 0 0] rfl (by kernel_rfl) (by kernel_rfl) (by kernel_rfl)
      (OpenSpec.preRow_of_cond 8 hx (by kernel_rfl) (fun k hk => by cases hk) (by kernel_rfl) (laid_met2 os))) ?_
  intro W base args ds gs before hval hW _ hcond hsz hL _ _
  exact contract H enc W base args ds gs before hval hW hL hsz

theorem over : Rows.PoolBackSaid :=
  OpenClaim.holds_of_cond 6 Tryd.f6 rfl rfl rfl rfl rfl rfl rfl ⟨rfl, rfl, rfl, rfl, rfl⟩ rfl rfl rfl rfl rfl (by kernel_rfl) Tryd.func6 (by kernel_rfl)
    (of_decide_eq_true (by kernel_rfl)) (by unfold Func.isWrapper; first | (rw [if_pos (by decide +kernel)]; kernel_rfl) | (rw [if_neg (by decide +kernel)]; exact ⟨rfl, rfl⟩))
    (fun os started H enc _ F => by rw [OpenClaim.pre_eq_preRow]; exact lifted os started H enc F)

/-- No parameter wants a stand-in; the program looks (errors.As reads the types). -/
theorem plain (f : FuncId) (fn : Func) (hf : Tryd.pinned.checked.prog.funcNamed Rows.poolBackRow.func = some f) (hfn : Tryd.pinned.checked.prog.funcs[f]? = some fn) :
    true = Tryd.pinned.checked.prog.looks [] ∧ ∀ (j : Nat) t, fn.params[j]? = some t → Tryd.pinned.checked.prog.wantsStandIn t = false := by
  obtain rfl : f = 6 := Option.some.inj ((show Tryd.prog.funcNamed Rows.poolBackRow.func = some 6 by kernel_rfl).symm.trans hf) |>.symm
  obtain rfl : fn = Tryd.f6 := (Option.some.inj (Tryd.func6.symm.trans hfn)).symm
  refine ⟨by kernel_rfl, fun j t ht => ?_⟩
  rw [Tryd.params6] at ht
  have hm : t = 22 ∨ t = 28 := by simpa using Array.mem_of_getElem? ht
  rcases hm with rfl | rfl
  · exact (show Tryd.prog.wantsStandIn 22 = false by kernel_rfl)
  · exact (show Tryd.prog.wantsStandIn 28 = false by kernel_rfl)

theorem proved : Rows.PoolBackCardSaid :=
  Claim7.holds_tied_plain_at .later [] _ _ _ _ over (fun _ h => by cases h) (by kernel_rfl) (fun _ h => by cases h) poolBack_row_tie rfl ⟨rfl, rfl⟩ (by kernel_rfl) rfl plain (by kernel_rfl)
#print axioms proved
end Go.Proofs.YtpiandkiijienaaDoor.poolBack
