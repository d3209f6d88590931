/- PROVED: the law MapsDecodes: the program's Decode of any bytes, with any pool, answers as the document's own: the same maps, or the same fault. Any pool, any bytes. No condition. -/
import Derived.Test.YtadgbkjjeigpjaaDoorMapX
import Derived.Test.YtadgbkjjeigpjaaDoorMapB
import Derived.Test.YtadgbkjjeigpjaaDoorPolL
import Derived.Test.YtadgbkjjeigpjaaDoorArg
import Derived.Test.YtadgbkjjeigpjaaDoorMapM
import Derived.Test.YtadgbkjjeigpjaaDoorCards
import Derived.Test.YtadgbkjjeigpjaaDoorTie
import Derived.ProofKit
import Derived.ShutString
import Derived.ChangeOld
import Derived.Below
import Derived.Deep.DeepHandedRow
import Derived.Deep.RegionHeld3
import Derived.Lib.LaidIn
import Derived.Lib.LaidTab
import Derived.LaidLaws
namespace Go.Proofs.YtadgbkjjeigpjaaDoor.mapsDecodes
open Go.ChangeShapes Go.WideShapes Go.ChangeAt Go.RowKit
set_option linter.unusedVariables false
set_option linter.unusedSimpArgs false

set_option maxHeartbeats 8000000 in
set_option maxRecDepth 100000 in
theorem walkDecodes (vp vb : Value) (cs : List ConstV) (zs : List Int) (w : World) (hp : Pool w vp cs) (hb : Bytes w vb zs) (hl : zs.length ≤ 140737488351232) (hT : Tags w) :
    Calls Tryd.prog 3 #[vp, vb] w fun e w' => e = .returned (.bool true) ∧ Only (fun _ => False) w w' := by
  obtain ⟨i0, hi, hz0, hz1, hz2⟩ := info_parts info_u8
  obtain ⟨ap, cp, rfl, -⟩ := id hp
  obtain ⟨ab, cb, rfl, hb1, hb2, hb3, hbz, hbc⟩ := id hb
  have HP := Lib.hid hp
  have HB := Lib.hid hb
  have HT := Lib.hid hT
  have HZ := Lib.hid hbz
  clear hp hb hT hb3 hbc hbz
  go_enter Tryd.func3, Tryd.ntmps3
  go_wp2_with (first | (at_builtin; refine wpList_append_src rfl (.tmp 11) (.tmp 12) 23 rfl 5 i0 (.int .u8 0) 1 1 Tryd.underlying23 hi hz0 hz1 hz2 rfl (by decide) w.heap.size (.slice (some ⟨w.heap.size, 0, none⟩) 0 0) 0 [] rfl (by exact World.ownsRow_made _ #[] 0 (Nat.le_refl _) (Nat.zero_le _) rfl) (by simp) (.slice ab zs.length cb) zs.length (zs.map (Value.int .u8)) rfl (by exact (Src.of_bytes HB.out).alloc _) (by unfold maxLen; omega) (by omega) ?_; intro v' w1 hown1 hgrow1 hnew1))
  have hbel1 : Below w.heap.size w w1 := Below.grown (B := w.heap.size) ((Below.refl _ _).alloc (Nat.le_refl _) _) hgrow1 (by simp) (fun k hk => by simp [Value.ownBlock] at hk; omega)
  have hon1 : Only (fun _ => False) w w1 := Only.of_below hbel1 _
  have hbv : Bytes w1 v' zs := Bytes.of_owns (by simpa using hown1) HZ.out
  have hT1 := HT.out.only hon1 (fun h => h)
  have cD := progMDecode _ v' cs zs w1 hT1 hT1.lt (HP.out.only hon1 (fun _ _ h => h)) hbv (by omega)
  have CD := Lib.hid cD
  have HON1 := Lib.hid hon1
  clear hown1 hgrow1 hnew1 hbel1 hon1 hbv cD hT1
  refine CD.out.mono ?_
  rintro e w2 ⟨(⟨xs, v, hd, rfl, hmx, hln⟩ | ⟨x, hd, rfl⟩), ho2⟩
  · obtain ⟨av, cv, rfl, -, -⟩ := slice_of_owns hmx.rg
    have hon2 := HON1.out.trans ho2 (fun _ h _ => h)
    have cR := refMDecode _ _ cs zs w2 (HP.out.only hon2 (fun _ _ h => h)) (HB.out.only hon2 (fun _ _ _ h => h)) (by omega)
    have CR := Lib.hid cR
    have HON2 := Lib.hid hon2
    have HD := Lib.hid hd
    have HMX := Lib.hid hmx
    have HLN := Lib.hid hln
    clear ho2 hd hmx hln hon2 cR CD HON1 hi hz0 hz1 hz2
    go_wp2_with (fail)
    refine CR.out.mono ?_
    rintro e w3 ⟨(⟨ys, v, hd, rfl, hmy, -⟩ | ⟨x, hd, rfl⟩), ho3⟩
    rotate_left
    · rw [HD.out] at hd; cases hd
    obtain ⟨av2, cv2, rfl, -, -⟩ := slice_of_owns hmy.rg
    have he : xs.map (·.1) = ys.map (·.1) := by rw [HD.out] at hd; injection hd
    have hsz := dec_sizes HZ.out HD.out
    have cS := sameMp _ _ xs ys w3 (MapsX.only HMX.out.maps ho3) hmy.maps he (by have := HLN.out; omega) (fun x hx => hsz x.1 (List.mem_map.2 ⟨x, hx, rfl⟩))
    have CS := Lib.hid cS
    have HON3 := Lib.hid (HON2.out.trans ho3 (fun _ h _ => h))
    clear hd hmy ho3 he hsz cS CR HON2
    go_wp2_with (fail)
    refine CS.out.mono ?_
    rintro e w4 ⟨rfl, ho4⟩
    have HON4 := Lib.hid (HON3.out.trans ho4 (fun _ h _ => h))
    clear ho4 CS
    go_wp2_with (fail)
    refine (awake10 w4).mono ?_
    rintro e w5 ⟨rfl, ho5⟩
    have HON5 := Lib.hid (HON4.out.trans ho5 (fun _ h _ => h))
    clear ho5
    go_wp2
    go_ret
    exact ⟨rfl, HON5.out⟩
  · have hon2 := HON1.out.trans ho2 (fun _ h _ => h)
    have cR := refMDecode _ _ cs zs w2 (HP.out.only hon2 (fun _ _ h => h)) (HB.out.only hon2 (fun _ _ _ h => h)) (by omega)
    have CR := Lib.hid cR
    have HON2 := Lib.hid hon2
    have HD := Lib.hid hd
    clear ho2 hd hon2 cR CD HON1 hi hz0 hz1 hz2
    go_wp2_with (fail)
    refine CR.out.mono ?_
    rintro e w3 ⟨(⟨ys, v, hd, rfl, hmy, -⟩ | ⟨y, hd, rfl⟩), ho3⟩
    · rw [HD.out] at hd; cases hd
    obtain rfl : x = y := by rw [HD.out] at hd; injection hd
    have cS := sameMp (.slice none 0 0) (.slice none 0 0) [] [] w3 (MapsX.nil _) (MapsX.nil _) rfl (by simp) (fun x hx => by cases hx)
    have CS := Lib.hid cS
    have HON3 := Lib.hid (HON2.out.trans ho3 (fun _ h _ => h))
    clear hd ho3 cS CR HON2
    go_wp2_with (fail)
    refine CS.out.mono ?_
    rintro e w4 ⟨rfl, ho4⟩
    have HON4 := Lib.hid (HON3.out.trans ho4 (fun _ h _ => h))
    clear ho4 CS
    go_wp2_with (fail)
    refine (awake10 w4).mono ?_
    rintro e w5 ⟨rfl, ho5⟩
    have HON5 := Lib.hid (HON4.out.trans ho5 (fun _ h _ => h))
    clear ho5
    go_wp2
    go_ret
    exact ⟨rfl, HON5.out⟩

theorem own : ownKnob Tryd.prog.godebug = none := by kernel_rfl
theorem laidOut : laidOutB Tryd.prog = true := by kernel_rfl
/-- What the row's list gives: the table holds what its text lays. -/
theorem tabs {W : World} (hL : laidMetH Tryd.prog Rows.mapsDecodesRow.laid W) : Tags W := by
  have hg0 : Tryd.prog.globalNamed "understudy/maps.tags" = some 0 := by kernel_rfl
  have hy0 : (Tryd.prog.globals[0]?).map (·.type) = some 107 := by kernel_rfl
  obtain ⟨te, hte, rfl⟩ := arr_tags
  have hI := Lib.tabIs_of_head (n := 8) (zs := [0, 1, 4, 5, 7, 7, 8, 6]) hg0 hy0 hte Tryd.underlying81 (by kernel_rfl) (by kernel_rfl) hL
  intro i hi
  rw [Lib.TabIs.cell hI hg0 i hi]
  rcases (show i = 0 ∨ i = 1 ∨ i = 2 ∨ i = 3 ∨ i = 4 ∨ i = 5 ∨ i = 6 ∨ i = 7 by omega) with rfl | rfl | rfl | rfl | rfl | rfl | rfl | rfl <;> rfl

/-- A world for the witness: the settled one, the table holding what its text lays. -/
noncomputable def laidWorld (os : Os) : World :=
  let w0 := World.holding Tryd.prog os ⟨#[], #[], []⟩
  let put (h : Array Obj) (g : Nat) (cs : Array Value) : Array Obj := h.modify g fun
    | .cells _ t frozen => .cells cs t frozen
    | o => o
  { w0 with heap := put w0.heap 0 tagL }
theorem laid_met (os : Os) : laidMet Tryd.prog Rows.mapsDecodesRow.laid ((laidWorld os).forCall (fun _ _ => 0) ⟨#[], #[.slice none 0 0, .slice none 0 0], []⟩).memory :=
  (LaidIn.of_run [0] 8 (by kernel_rfl) (by kernel_rfl) (by kernel_rfl) (by kernel_rfl)).met
theorem reads (os : Os) {H : Type} (enc : TypeId × Value → H) : ∃ places, DataW.whole enc Tryd.prog ((laidWorld os).forCall (fun _ _ => 0) ⟨#[], #[.slice none 0 0, .slice none 0 0], []⟩).memory Tryd.f3.params.toList Rows.mapsDecodesSpec.vars false #[.slice none 0 0, .slice none 0 0].toList 8 = some ([.nil, .nil], [], places) :=
  ⟨[], by kernel_rfl⟩

set_option maxRecDepth 100000 in
theorem contract (H : Type) (enc : TypeId × Value → H) (W : World) (base : Nat) (args : Array Value) (ds gs : List (DataW H)) (before : List MemPlace)
    (hval0 : ∀ (j : Nat) t v, Tryd.f3.params[j]? = some t → args[j]? = some v → Value.okWide Tryd.prog W .any base t v)
    (hW : DataW.Whole enc Tryd.prog Tryd.f3.params.toList Rows.mapsDecodesSpec.vars false W args.toList ds gs before) (hL : laidMetH Tryd.prog Rows.mapsDecodesRow.laid W)
    (hsz0 : (DataW.weightsEach Tryd.prog (Tryd.f3.params.toList ++ Rows.mapsDecodesSpec.plain.varTypes Tryd.prog) (ds ++ gs)).all (· ≤ reachBytes) = true)
    : Calls Tryd.prog 3 args W fun e W' => ∃ v, e = .returned v ∧ Rows.mapsDecodesSpec.post enc Tryd.prog Tryd.f3 false true false false W args v W' := by
  have hT := tabs hL
  have hsz := hsz0
  have hval : ∀ (j : Nat) t v, Tryd.f3.params[j]? = some t → args[j]? = some v → Value.okWide Tryd.prog W .any base t v := hval0
  have hW' := hW
  obtain ⟨p, q, hA0, hV, rfl, hfz, hnd⟩ := hW
  have hA : DataW.TrodAll enc Tryd.prog W 0 (fun _ => true) true Tryd.f3.params.toList args.toList ds p := hA0
  rw [Tryd.params3] at hA hval hsz
  obtain ⟨v0, vs0, d0, ds0, p0, q0, hargs, rfl, rfl, h0, r0⟩ := trodAll_cons hA
  obtain ⟨v1, vs1, d1, ds1, p1, q1, rfl, rfl, rfl, h1, r1⟩ := trodAll_cons r0
  obtain ⟨rfl, rfl, rfl⟩ := trodAll_nil r1
  obtain rfl : args = #[v0, v1] := by cases args; simp_all
  obtain ⟨rfl, rfl⟩ := trodVars_none hV
  have k0 := h0
  have lt0 : ∀ x ∈ p0, x.block < W.heap.size := by obtain ⟨m, hm⟩ := k0; exact DataW.trod_lt m _ _ _ hm
  obtain ⟨z0, b0, l0, n0⟩ := arg_pool (hval 0 22 v0 rfl rfl) h0 (light_arg (j := 0) hsz rfl rfl)
  have k1 := h1
  have lt1 : ∀ x ∈ p1, x.block < W.heap.size := by obtain ⟨m, hm⟩ := k1; exact DataW.trod_lt m _ _ _ hm
  obtain ⟨z1, b1, l1⟩ := arg_bytes (hval 1 23 v1 rfl rfl) h1 (light_arg (j := 1) hsz rfl rfl)
  clear hA0 hval0
  refine (walkDecodes v0 v1 z0 z1 W b0 b1 l1 hT).mono fun e W' ⟨he, on⟩ => ?_
  have bel := on.none
  subst he
  exact ⟨_, rfl, _, _, _, [], _, [], hW', trodAll_mk1 (shut_bool Tryd.underlying4 _), (trodAll_cons_mk (Below.trod laidOut (by kernel_rfl) (of_decide_eq_true (by kernel_rfl)) k0 bel lt0) (trodAll_cons_mk (Below.trod laidOut (by kernel_rfl) (of_decide_eq_true (by kernel_rfl)) k1 bel lt1) trodAll_mk0)), rfl, bel.frame _, fun h => by cases h⟩

set_option maxRecDepth 100000 in
theorem lifted (os : Os) (started : os.Started) (H : Type) (enc : TypeId × Value → H) (F : Stop.Interp) :
    ReturnsInHanded {} Tryd.checked os 3 .any ((OpenSpec.ofChange Rows.mapsDecodesSpec).preRow enc Tryd.prog Tryd.f3 Rows.mapsDecodesRow.domain false Rows.mapsDecodesRow.laid) (((OpenSpec.ofChange Rows.mapsDecodesSpec).at F).post enc Tryd.prog Tryd.f3 false true false false) := by
  obtain ⟨places, hx⟩ := reads os enc
  refine returnsInHanded_of_row (C := Tryd.checked) (s := (OpenSpec.ofChange Rows.mapsDecodesSpec)) own started (by kernel_rfl) Tryd.func3
    (witness_row_at (enc := enc) (C := Tryd.checked) false (laidWorld os) #[.slice none 0 0, .slice none 0 0] rfl (by kernel_rfl) (by kernel_rfl) (by kernel_rfl)
      (OpenSpec.preRow_of_cond 8 hx (by kernel_rfl) (fun k hk => by cases hk) (by kernel_rfl) (laid_met os))) ?_
  intro W base args ds gs before hval hW _ hcond hsz hL _ _
  exact contract H enc W base args ds gs before hval hW hL hsz

theorem over : Rows.MapsDecodesSaid :=
  OpenClaim.holds_of_cond 3 Tryd.f3 rfl rfl rfl rfl rfl rfl rfl ⟨rfl, rfl, rfl, rfl, rfl⟩ rfl rfl rfl rfl rfl (by kernel_rfl) Tryd.func3 (by kernel_rfl)
    (of_decide_eq_true (by kernel_rfl)) (by unfold Func.isWrapper; first | (rw [if_pos (by decide +kernel)]; kernel_rfl) | (rw [if_neg (by decide +kernel)]; exact ⟨rfl, rfl⟩))
    (fun os started H enc _ F => by rw [OpenClaim.pre_eq_preRow]; exact lifted os started H enc F)

/-- No parameter wants a stand-in; the program looks. -/
theorem plain (f : FuncId) (fn : Func) (hf : Tryd.pinned.checked.prog.funcNamed Rows.mapsDecodesRow.func = some f) (hfn : Tryd.pinned.checked.prog.funcs[f]? = some fn) :
    true = Tryd.pinned.checked.prog.looks [] ∧ ∀ (j : Nat) t, fn.params[j]? = some t → Tryd.pinned.checked.prog.wantsStandIn t = false := by
  obtain rfl : f = 3 := Option.some.inj ((show Tryd.prog.funcNamed Rows.mapsDecodesRow.func = some 3 by kernel_rfl).symm.trans hf) |>.symm
  obtain rfl : fn = Tryd.f3 := (Option.some.inj (Tryd.func3.symm.trans hfn)).symm
  refine ⟨by kernel_rfl, fun j t ht => ?_⟩
  rw [Tryd.params3] at ht
  have hm : t = 22 ∨ t = 23 := by simpa using Array.mem_of_getElem? ht
  rcases hm with rfl | rfl
  · exact (show Tryd.prog.wantsStandIn 22 = false by kernel_rfl)
  · exact (show Tryd.prog.wantsStandIn 23 = false by kernel_rfl)

theorem proved : Rows.MapsDecodesCardSaid :=
  Claim7.holds_tied_plain_at .later [] _ _ _ _ over (fun _ h => by cases h) (by kernel_rfl) (fun _ h => by cases h) mapsDecodes_row_tie rfl ⟨rfl, rfl⟩ (by kernel_rfl) rfl plain (by kernel_rfl)
#print axioms proved
end Go.Proofs.YtadgbkjjeigpjaaDoor.mapsDecodes
