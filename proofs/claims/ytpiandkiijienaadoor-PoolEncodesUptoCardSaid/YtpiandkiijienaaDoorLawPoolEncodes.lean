/- PROVED: the law PoolEncodes: the program's Encode of any pool answers the document's own bytes and error; the argument reads as before. For every pool of at most 1048575 places and letters in all (the second form's bound on the input's bulk). -/
import Derived.Test.YtpiandkiijienaaDoorLaid3
import Derived.Test.YtpiandkiijienaaDoorPolQ
import Derived.Test.YtpiandkiijienaaDoorPolF
import Derived.Test.YtpiandkiijienaaDoorPolCe
import Derived.Test.YtpiandkiijienaaDoorPolCd
import Derived.Test.YtpiandkiijienaaDoorPolL
namespace Go.Proofs.YtpiandkiijienaaDoor.poolEncodes
open Go.ChangeShapes Go.WideShapes Go.ChangeAt Go.RowKit
set_option linter.unusedVariables false
set_option linter.unusedSimpArgs false

theorem consts_byte {cs : List ConstV} {bs : List Int} (h : ConstsB cs bs) : Bytish bs := by
  induction h with
  | nil => exact Bytish.nil
  | @snoc cs bs c b h1 h2 ih =>
    refine ih.append ?_
    have hm : ∀ z : Int, IsByte (z % 256) := fun z => by unfold IsByte; omega
    rcases h2 with ⟨_, ys, he, hl, rfl⟩ | ⟨_, rfl⟩ | ⟨_, rfl⟩ | ⟨_, rfl⟩ | ⟨ht, rfl⟩
    · intro z hz
      simp only [List.cons_append, List.mem_cons, List.mem_append] at hz
      rcases hz with rfl | hz | hz
      · unfold IsByte; omega
      · exact be2_byte _ z hz
      · exact he.byte z hz
    · intro z hz
      simp only [List.mem_cons, List.mem_nil_iff, or_false] at hz
      rcases hz with rfl | rfl | rfl | rfl | rfl
      · unfold IsByte; omega
      all_goals exact hm _
    · intro z hz
      simp only [List.mem_cons, List.mem_nil_iff, or_false] at hz
      rcases hz with rfl | rfl | rfl | rfl | rfl | rfl | rfl | rfl | rfl
      · unfold IsByte; omega
      all_goals exact hm _
    · intro z hz
      rcases List.mem_cons.1 hz with rfl | hz
      · unfold IsByte; omega
      · exact be2_byte _ z hz
    · intro z hz
      simp only [List.cons_append, List.mem_cons, List.mem_append] at hz
      rcases hz with rfl | hz | hz
      · unfold IsByte; omega
      · exact be2_byte _ z hz
      · exact be2_byte _ z hz

set_option maxHeartbeats 2000000 in
set_option maxRecDepth 100000 in
theorem walkEncodes (v : Value) (cs : List ConstV) (w : World) (hp : Pool w v cs) (ht : Texts cs) (hn : cs.length * 48 ≤ 140737488351232) (hT : Tabs w) (hg : ErrV w) :
    Calls Tryd.prog 4 #[v] w fun e w' => e = .returned (.bool true) ∧ Only (fun _ => False) w w' := by
  obtain ⟨i0, hi, hz0, hz1, hz2⟩ := info_parts info_const
  obtain ⟨ao, cap, rfl, h1, h2, h3, h4, h5⟩ := id hp
  have HP := Lib.hid hp
  have HTX := Lib.hid ht
  have HT := Lib.hid hT
  have HG := Lib.hid hg
  have HR := Lib.hid h4
  have hmax : cs.length ≤ 2932031007317 := by omega
  clear hp ht hT hg h3 h4 h5 hn
  go_enter Tryd.func4, Tryd.ntmps4
  go_wp2_with (at_builtin; go_loud (refine wpList_append_src rfl (.tmp 8) (.tmp 9) 22 rfl 45 i0 _ 5 48 Tryd.underlying22 hi hz0 hz1 hz2 rfl (by decide) w.heap.size (.slice (some ⟨w.heap.size, 0, none⟩) 0 0) 0 (([] : List ConstV).flatMap cellsC) rfl (by exact madeC w) (by simp) (.slice ao cs.length cap) cs.length (cs.flatMap cellsC) rfl (by exact Src.of_pool (HP.out.only ((Only.refl (fun _ => False) w).alloc _) (fun _ _ h => h))) (by unfold maxLen; omega) (by omega) ?_); intro v' w4 hown hgrow hnew)
  have hp4 := RowC.copied hown HR.out
  have hon4 : Only (fun _ => False) w w4 := ((Only.refl (fun _ => False) w).alloc (.cells #[] 45)).grown hgrow (fun k hk hl => (by cases hk; exact Nat.lt_irrefl _ hl))
  have cE := progEncode v' cs w4 hp4 (HT.out.only hon4 (fun h => h) (fun h => h)) (HG.out.only hon4 (fun h => h))
  obtain ⟨av, cv, rfl, _, _, _, _, _⟩ := id hp4
  have CE := Lib.hid cE
  have HON4 := Lib.hid hon4
  clear hown hgrow hnew hp4 hon4 cE
  refine CE.out.mono ?_
  rintro e w5 ⟨va, k, rfl, ho5, hres⟩
  have HON5 := Lib.hid (HON4.out.trans ho5 (fun _ h => h.elim))
  have cR := refPoolEnc _ cs w5 (HP.out.only HON5.out (fun _ _ h => h)) HTX.out
  have CR := Lib.hid cR
  have HRES := Lib.hid hres
  clear ho5 hres cR CE
  go_wp2_with (fail)
  refine CR.out.mono ?_
  rintro e w6 ⟨vb, k2, rfl, ho6, hres2⟩
  have HON6 := Lib.hid (HON5.out.trans ho6 (fun _ h => h.elim))
  clear CR
  rcases HRES.out with ⟨hz, hk, bs, hbs, hrow⟩ | ⟨hz, hk, hv⟩
  · rcases hres2 with ⟨_, hk2, bs2, hbs2, hrow2⟩ | ⟨hz2, _⟩
    · obtain rfl := ConstsB.unique rfl hbs hbs2
      subst hk hk2
      have hby : Bytish (be2 cs.length ++ bs) := (be2_byte _).append (consts_byte hbs)
      have hb1 := (hrow.only ho6 (fun _ _ h => h)).bytes hby
      have hb2 := hrow2.bytes hby
      have hcv1 := conv8 hb1
      have hcv2 := conv8 hb2
      obtain ⟨a1, c1, rfl, _, _⟩ := slice_of_owns hrow
      obtain ⟨a2, c2, rfl, _, _⟩ := slice_of_owns hrow2
      clear hb1 hb2 hby hbs hbs2 hrow hrow2 ho6 HRES hz
      generalize be2 (cs.length : Int) ++ bs = zs at *
      go_wp2_with (go_at_call 10; refine (awake _).mono ?_; rintro e w7 ⟨rfl, ho7⟩)
      go_ret
      exact ⟨rfl, HON6.out.trans ho7 (fun _ h => h.elim)⟩
    · exact absurd hz hz2
  · rcases hres2 with ⟨hz2, _⟩ | ⟨_, hk2, hv2⟩
    · exact absurd hz2 hz
    · subst hk hk2 hv hv2
      have hcv := conv8 (w := w6) (v := .slice none 0 0) (ys := []) (Bytes.of_owns (World.ownsRow_nil w6 0 5 1) Bytish.nil)
      generalize checkZ cs = k at *
      clear HRES hz ho6
      go_wp2_with (go_at_call 10; refine (awake _).mono ?_; rintro e w7 ⟨rfl, ho7⟩)
      go_ret
      exact ⟨rfl, HON6.out.trans ho7 (fun _ h => h.elim)⟩

theorem reads (os : Os) {H : Type} (enc : TypeId × Value → H) : ∃ places, DataW.whole enc Tryd.prog ((laidWorld os).forCall (fun _ _ => 0) ⟨#[], #[.slice none 0 0], []⟩).memory Tryd.f4.params.toList Rows.poolEncodesSpec.vars false #[.slice none 0 0].toList 8 = some ([.nil], [], places) :=
  ⟨[], by kernel_rfl⟩

set_option maxRecDepth 100000 in
theorem contract (H : Type) (enc : TypeId × Value → H) (W : World) (base : Nat) (args : Array Value) (ds gs : List (DataW H)) (before : List MemPlace)
    (hval0 : ∀ (j : Nat) t v, Tryd.f4.params[j]? = some t → args[j]? = some v → Value.okWide Tryd.prog W .any base t v)
    (hW : DataW.Whole enc Tryd.prog Tryd.f4.params.toList Rows.poolEncodesSpec.vars false W args.toList ds gs before) (hL : laidMetH Tryd.prog L3 W)
    (hsz0 : (DataW.weightsEach Tryd.prog (Tryd.f4.params.toList ++ Rows.poolEncodesSpec.plain.varTypes Tryd.prog) (ds ++ gs)).all (· ≤ reachBytes) = true)
    (hk : Rows.uptoSmall H (ds ++ gs) = true)
    : Calls Tryd.prog 4 args W fun e W' => ∃ v, e = .returned v ∧ Rows.poolEncodesSpec.post enc Tryd.prog Tryd.f4 false true false false W args v W' := by
  have hT := tabs hL
  have hE := errv hL
  have hsz := hsz0
  have hval : ∀ (j : Nat) t v, Tryd.f4.params[j]? = some t → args[j]? = some v → Value.okWide Tryd.prog W .any base t v := hval0
  have hW' := hW
  obtain ⟨p, q, hA0, hV, rfl, hfz, hnd⟩ := hW
  have hA : DataW.TrodAll enc Tryd.prog W 0 (fun _ => true) true Tryd.f4.params.toList args.toList ds p := hA0
  rw [Tryd.params4] at hA hval hsz
  obtain ⟨v0, vs0, d0, ds0, p0, q0, hargs, rfl, rfl, h0, r0⟩ := trodAll_cons hA
  obtain ⟨rfl, rfl, rfl⟩ := trodAll_nil r0
  obtain rfl : args = #[v0] := by cases args; simp_all
  obtain ⟨rfl, rfl⟩ := trodVars_none hV
  have k0 := h0
  have lt0 : ∀ x ∈ p0, x.block < W.heap.size := by obtain ⟨m, hm⟩ := k0; exact DataW.trod_lt m _ _ _ hm
  obtain ⟨z0, b0, l0, n0⟩ := arg_pool (hval 0 22 v0 rfl rfl) h0 (light_arg (j := 0) hsz rfl rfl)
  have hb := of_decide_eq_true hk
  simp only [List.cons_append, List.nil_append, Rows.uptoBulkAll, Rows.uptoBulk] at hb
  have e0 : ∀ c ∈ z0, c.text.size ≤ 1048576 := fun c hc => by have := l0 c hc; omega
  clear hA0 hval0
  refine (walkEncodes v0 z0 W b0 (fun c hc => Nat.le_trans (e0 c hc) (by decide)) n0 hT hE).mono fun e W' ⟨he, on⟩ => ?_
  have bel := on.none
  subst he
  exact ⟨_, rfl, _, _, _, [], _, [], hW', trodAll_mk1 (shut_bool Tryd.underlying4 _), (trodAll_cons_mk (Below.trod laidOut (by kernel_rfl) (of_decide_eq_true (by kernel_rfl)) k0 bel lt0) trodAll_mk0), rfl, bel.frame _, fun h => by cases h⟩

set_option maxRecDepth 100000 in
theorem lifted (os : Os) (started : os.Started) (H : Type) (enc : TypeId × Value → H) (F : Stop.Interp) :
    ReturnsInHanded {} Tryd.checked os 4 .any ((Rows.OpenSpec.upto Rows.poolEncodesSpec).preRow enc Tryd.prog Tryd.f4 Rows.poolEncodesUptoRow.domain false Rows.poolEncodesUptoRow.laid) (((Rows.OpenSpec.upto Rows.poolEncodesSpec).at F).post enc Tryd.prog Tryd.f4 false true false false) := by
  obtain ⟨places, hx⟩ := reads os enc
  refine returnsInHanded_of_row (C := Tryd.checked) (s := (Rows.OpenSpec.upto Rows.poolEncodesSpec)) own started (by kernel_rfl) Tryd.func4
    (witness_row_at (enc := enc) (C := Tryd.checked) false (laidWorld os) #[.slice none 0 0] rfl (by kernel_rfl) (by kernel_rfl) (by kernel_rfl)
      (OpenSpec.preRow_of_cond 8 hx (by kernel_rfl) (fun k hk => by cases hk; kernel_rfl) (by kernel_rfl) (laid_met1 os))) ?_
  intro W base args ds gs before hval hW _ hcond hsz hL _ _
  exact contract H enc W base args ds gs before hval hW hL hsz (hcond _ rfl)

theorem over : Rows.PoolEncodesUptoSaid :=
  OpenClaim.holds_of_cond 4 Tryd.f4 rfl rfl rfl rfl rfl rfl rfl ⟨rfl, rfl, rfl, rfl, rfl⟩ rfl rfl rfl rfl rfl (by kernel_rfl) Tryd.func4 (by kernel_rfl)
    (of_decide_eq_true (by kernel_rfl)) (by unfold Func.isWrapper; first | (rw [if_pos (by decide +kernel)]; kernel_rfl) | (rw [if_neg (by decide +kernel)]; exact ⟨rfl, rfl⟩))
    (fun os started H enc _ F => by rw [OpenClaim.pre_eq_preRow]; exact lifted os started H enc F)

/-- No parameter wants a stand-in; the program looks (errors.As reads the types). -/
theorem plain (f : FuncId) (fn : Func) (hf : Tryd.pinned.checked.prog.funcNamed Rows.poolEncodesUptoRow.func = some f) (hfn : Tryd.pinned.checked.prog.funcs[f]? = some fn) :
    true = Tryd.pinned.checked.prog.looks [] ∧ ∀ (j : Nat) t, fn.params[j]? = some t → Tryd.pinned.checked.prog.wantsStandIn t = false := by
  obtain rfl : f = 4 := Option.some.inj ((show Tryd.prog.funcNamed Rows.poolEncodesUptoRow.func = some 4 by kernel_rfl).symm.trans hf) |>.symm
  obtain rfl : fn = Tryd.f4 := (Option.some.inj (Tryd.func4.symm.trans hfn)).symm
  refine ⟨by kernel_rfl, fun j t ht => ?_⟩
  rw [Tryd.params4] at ht
  obtain rfl : t = 22 := by simpa using Array.mem_of_getElem? ht
  exact (show Tryd.prog.wantsStandIn 22 = false by kernel_rfl)

theorem proved : Rows.PoolEncodesUptoCardSaid :=
  Claim7.holds_tied_plain_at .later [] _ _ _ _ over (fun _ h => by cases h) (by kernel_rfl) (fun _ h => by cases h) poolEncodesUpto_row_tie rfl ⟨rfl, rfl⟩ (by kernel_rfl) rfl plain (by kernel_rfl)
#print axioms proved
end Go.Proofs.YtpiandkiijienaaDoor.poolEncodes
