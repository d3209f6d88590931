/- PROVED: the law PoolDecodes: the program's Decode of any bytes answers the document's own pool, number and error; the argument reads as before. For every input. No condition beyond what the row lists of the library's own tables. -/
import Derived.Test.YtpiandkiijienaaDoorLaid3
import Derived.Test.YtpiandkiijienaaDoorPolDc
import Derived.Test.YtpiandkiijienaaDoorPolK
import Derived.Test.YtpiandkiijienaaDoorPolCd
import Derived.Test.YtpiandkiijienaaDoorArg
namespace Go.Proofs.YtpiandkiijienaaDoor.poolDecodes
open Go.ChangeShapes Go.WideShapes Go.ChangeAt Go.RowKit
set_option linter.unusedVariables false
set_option linter.unusedSimpArgs false

set_option maxHeartbeats 2000000 in
set_option maxRecDepth 100000 in
theorem walkDecodes (v : Value) (zs : List Int) (w : World) (hb : Bytes w v zs) (hl : zs.length ≤ 140737488351232) (hT : Tabs w) (hg : ErrV w) :
    Calls Tryd.prog 5 #[v] w fun e w' => e = .returned (.bool true) ∧ Only (fun _ => False) w w' := by
  obtain ⟨i0, hi, hz0, hz1, hz2⟩ := info_parts info_u8
  obtain ⟨bo, bcap, rfl, hb1, hb2, hb3, hbz, hbc⟩ := id hb
  have Hb := Lib.hid hb
  have HT := Lib.hid hT
  have HG := Lib.hid hg
  clear hb hbc hT hg hb3
  go_enter Tryd.func5, Tryd.ntmps5
  go_wp2_with (first | (at_builtin; refine wpList_append_src rfl (.tmp 10) (.tmp 11) 28 rfl 5 i0 (.int .u8 0) 1 1 Tryd.underlying28 hi hz0 hz1 hz2 rfl (by decide) w.heap.size (.slice (some ⟨w.heap.size, 0, none⟩) 0 0) 0 [] rfl (by exact World.ownsRow_made _ #[] 0 (Nat.le_refl _) (Nat.zero_le _) rfl) (by simp) (.slice bo zs.length bcap) zs.length (zs.map (Value.int .u8)) rfl (by exact (Src.of_bytes Hb.out).alloc _) (by unfold maxLen; omega) (by omega) ?_; intro v' w1 hown1 hgrow1 hnew1))
  have hbel1 : Below w.heap.size w w1 := Below.grown (B := w.heap.size) ((Below.refl _ _).alloc (Nat.le_refl _) _) hgrow1 (by simp) (fun k hk => by simp [Value.ownBlock] at hk; omega)
  have hon1 : Only (fun _ => False) w w1 := Only.of_below hbel1 _
  have hbv : Bytes w1 v' zs := Bytes.of_owns (by simpa using hown1) hbz
  have cD := progDecode v' zs w1 hbv (by omega) (HT.out.only hon1 (fun h => h) (fun h => h)) (HG.out.only hon1 (fun h => h))
  have CD := Lib.hid cD
  have HON1 := Lib.hid hon1
  clear hown1 hgrow1 hnew1 hbel1 hon1 hbv cD
  refine CD.out.mono ?_
  rintro e w2 ⟨vp, cs, n, e0, rfl, hdec, ho2, hp2, _⟩
  have HON2 := Lib.hid (HON1.out.trans ho2 (fun _ h => h.elim))
  have cR := refPoolDecode _ zs w2 (Hb.out.only HON2.out (fun _ _ _ h => h)) hl
  obtain ⟨ap, cp, rfl, _, _, _, _, _⟩ := id hp2
  have CR := Lib.hid cR
  have HP2 := Lib.hid hp2
  have HD := Lib.hid hdec
  clear ho2 hp2 hdec cR CD
  go_wp2_with (fail)
  refine CR.out.mono ?_
  rintro e w3 ⟨vq, cs2, n2, e02, rfl, hdec2, ho3, hrow, hfit⟩
  obtain ⟨rfl, rfl, rfl⟩ := DecP.unique hdec2 HD.out
  have hq := hrow.pool (fun c hc => (hfit c hc).1)
  have hp3 := HP2.out.only ho3 (fun _ _ h => h)
  have cS := sameT _ vq _ w3 hp3 hq
  obtain ⟨aq, cq, rfl, _, _, _, _, _⟩ := id hq
  have CS := Lib.hid cS
  have HON3 := Lib.hid (HON2.out.trans ho3 (fun _ h => h.elim))
  clear hdec2 ho3 hrow hfit hq hp3 cS CR
  go_wp2_with (fail)
  refine CS.out.mono ?_
  rintro e w4 ⟨rfl, ho4⟩
  have HON4 := Lib.hid (HON3.out.trans ho4 (fun _ h => h.elim))
  clear ho4 CS
  go_wp2_with (go_at_call 10; refine (awake _).mono ?_; rintro e w7 ⟨rfl, ho7⟩)
  go_ret
  exact ⟨rfl, HON4.out.trans ho7 (fun _ h => h.elim)⟩

theorem reads (os : Os) {H : Type} (enc : TypeId × Value → H) : ∃ places, DataW.whole enc Tryd.prog ((laidWorld os).forCall (fun _ _ => 0) ⟨#[], #[.slice none 0 0], []⟩).memory Tryd.f5.params.toList Rows.poolDecodesSpec.vars false #[.slice none 0 0].toList 8 = some ([.nil], [], places) :=
  ⟨[], by kernel_rfl⟩

set_option maxRecDepth 100000 in
theorem contract (H : Type) (enc : TypeId × Value → H) (W : World) (base : Nat) (args : Array Value) (ds gs : List (DataW H)) (before : List MemPlace)
    (hval0 : ∀ (j : Nat) t v, Tryd.f5.params[j]? = some t → args[j]? = some v → Value.okWide Tryd.prog W .any base t v)
    (hW : DataW.Whole enc Tryd.prog Tryd.f5.params.toList Rows.poolDecodesSpec.vars false W args.toList ds gs before) (hL : laidMetH Tryd.prog L3 W)
    (hsz0 : (DataW.weightsEach Tryd.prog (Tryd.f5.params.toList ++ Rows.poolDecodesSpec.plain.varTypes Tryd.prog) (ds ++ gs)).all (· ≤ reachBytes) = true)
    : Calls Tryd.prog 5 args W fun e W' => ∃ v, e = .returned v ∧ Rows.poolDecodesSpec.post enc Tryd.prog Tryd.f5 false true false false W args v W' := by
  have hT := tabs hL
  have hE := errv hL
  have hsz := hsz0
  have hval : ∀ (j : Nat) t v, Tryd.f5.params[j]? = some t → args[j]? = some v → Value.okWide Tryd.prog W .any base t v := hval0
  have hW' := hW
  obtain ⟨p, q, hA0, hV, rfl, hfz, hnd⟩ := hW
  have hA : DataW.TrodAll enc Tryd.prog W 0 (fun _ => true) true Tryd.f5.params.toList args.toList ds p := hA0
  rw [Tryd.params5] at hA hval hsz
  obtain ⟨v0, vs0, d0, ds0, p0, q0, hargs, rfl, rfl, h0, r0⟩ := trodAll_cons hA
  obtain ⟨rfl, rfl, rfl⟩ := trodAll_nil r0
  obtain rfl : args = #[v0] := by cases args; simp_all
  obtain ⟨rfl, rfl⟩ := trodVars_none hV
  have k0 := h0
  have lt0 : ∀ x ∈ p0, x.block < W.heap.size := by obtain ⟨m, hm⟩ := k0; exact DataW.trod_lt m _ _ _ hm
  obtain ⟨z0, b0, l0⟩ := arg_bytes (hval 0 28 v0 rfl rfl) h0 (light_arg (j := 0) hsz rfl rfl)
  clear hA0 hval0
  refine (walkDecodes v0 z0 W b0 l0 hT hE).mono fun e W' ⟨he, on⟩ => ?_
  have bel := on.none
  subst he
  exact ⟨_, rfl, _, _, _, [], _, [], hW', trodAll_mk1 (shut_bool Tryd.underlying4 _), (trodAll_cons_mk (Below.trod laidOut (by kernel_rfl) (of_decide_eq_true (by kernel_rfl)) k0 bel lt0) trodAll_mk0), rfl, bel.frame _, fun h => by cases h⟩

set_option maxRecDepth 100000 in
theorem lifted (os : Os) (started : os.Started) (H : Type) (enc : TypeId × Value → H) (F : Stop.Interp) :
    ReturnsInHanded {} Tryd.checked os 5 .any ((OpenSpec.ofChange Rows.poolDecodesSpec).preRow enc Tryd.prog Tryd.f5 Rows.poolDecodesRow.domain false Rows.poolDecodesRow.laid) (((OpenSpec.ofChange Rows.poolDecodesSpec).at F).post enc Tryd.prog Tryd.f5 false true false false) := by
  obtain ⟨places, hx⟩ := reads os enc
  refine returnsInHanded_of_row (C := Tryd.checked) (s := (OpenSpec.ofChange Rows.poolDecodesSpec)) own started (by kernel_rfl) Tryd.func5
    (witness_row_at (enc := enc) (C := Tryd.checked) false (laidWorld os) #[.slice none 0 0] rfl (by kernel_rfl) (by kernel_rfl) (by kernel_rfl)
      (OpenSpec.preRow_of_cond 8 hx (by kernel_rfl) (fun k hk => by cases hk) (by kernel_rfl) (laid_met1 os))) ?_
  intro W base args ds gs before hval hW _ hcond hsz hL _ _
  exact contract H enc W base args ds gs before hval hW hL hsz

theorem over : Rows.PoolDecodesSaid :=
  OpenClaim.holds_of_cond 5 Tryd.f5 rfl rfl rfl rfl rfl rfl rfl ⟨rfl, rfl, rfl, rfl, rfl⟩ rfl rfl rfl rfl rfl (by kernel_rfl) Tryd.func5 (by kernel_rfl)
    (of_decide_eq_true (by kernel_rfl)) (by unfold Func.isWrapper; first | (rw [if_pos (by decide +kernel)]; kernel_rfl) | (rw [if_neg (by decide +kernel)]; exact ⟨rfl, rfl⟩))
    (fun os started H enc _ F => by rw [OpenClaim.pre_eq_preRow]; exact lifted os started H enc F)

/-- No parameter wants a stand-in; the program looks (errors.As reads the types). -/
theorem plain (f : FuncId) (fn : Func) (hf : Tryd.pinned.checked.prog.funcNamed Rows.poolDecodesRow.func = some f) (hfn : Tryd.pinned.checked.prog.funcs[f]? = some fn) :
    true = Tryd.pinned.checked.prog.looks [] ∧ ∀ (j : Nat) t, fn.params[j]? = some t → Tryd.pinned.checked.prog.wantsStandIn t = false := by
  obtain rfl : f = 5 := Option.some.inj ((show Tryd.prog.funcNamed Rows.poolDecodesRow.func = some 5 by kernel_rfl).symm.trans hf) |>.symm
  obtain rfl : fn = Tryd.f5 := (Option.some.inj (Tryd.func5.symm.trans hfn)).symm
  refine ⟨by kernel_rfl, fun j t ht => ?_⟩
  rw [Tryd.params5] at ht
  obtain rfl : t = 28 := by simpa using Array.mem_of_getElem? ht
  exact (show Tryd.prog.wantsStandIn 28 = false by kernel_rfl)

theorem proved : Rows.PoolDecodesCardSaid :=
  Claim7.holds_tied_plain_at .later [] _ _ _ _ over (fun _ h => by cases h) (by kernel_rfl) (fun _ h => by cases h) poolDecodes_row_tie rfl ⟨rfl, rfl⟩ (by kernel_rfl) rfl plain (by kernel_rfl)
#print axioms proved
end Go.Proofs.YtpiandkiijienaaDoor.poolDecodes
