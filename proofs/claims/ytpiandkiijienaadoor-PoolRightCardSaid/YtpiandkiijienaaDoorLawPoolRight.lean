/- PROVED: the law PoolRight: in a pool that may be each class has a name, each field and method a class, a name and a descriptor; the argument reads as before. For every input. No condition beyond what the row lists of the library's own tables. -/
import Derived.Test.YtpiandkiijienaaDoorLaid3
import Derived.Test.YtpiandkiijienaaDoorPolN
import Derived.Test.YtpiandkiijienaaDoorPolE
import Derived.Test.YtpiandkiijienaaDoorPolMb
import Derived.Test.YtpiandkiijienaaDoorPolCd
import Derived.Test.YtpiandkiijienaaDoorPolL
namespace Go.Proofs.YtpiandkiijienaaDoor.poolRight
open Go.ChangeShapes Go.WideShapes Go.ChangeAt Go.RowKit
set_option linter.unusedVariables false
set_option linter.unusedSimpArgs false

theorem text_right {cs : List ConstV} {i : Int} : (textZ cs i).2 = isZ cs i 1 := by
  unfold textZ
  cases h : isZ cs i 1 <;> simp
theorem class_right {cs : List ConstV} (hl : cs.length ≤ 1024) (hz : ∀ i, 1 ≤ i → i < cs.length → oneZ cs (cs.getD i default) = 0) {i : Int} : (classZ cs i).2 = isZ cs i 7 := by
  unfold classZ
  cases h : isZ cs i 7 with
  | false => simp
  | true =>
    obtain ⟨j, rfl, hj1, hj2, ht⟩ := isZ_lt h
    rw [if_pos rfl, Int.toNat_natCast, text_right]
    have h0 := hz j hj1 hj2
    unfold oneZ at h0
    by_cases hb : bareZ (cs.getD j default) = false
    · rw [if_pos hb] at h0; simp at h0
    rw [if_neg hb, if_neg (by omega), if_neg (by omega), if_neg (by omega), if_pos ht] at h0
    by_cases hi : isZ cs (cs.getD j default).a 1 = true
    · exact hi
    · rw [if_neg hi] at h0; simp at h0
theorem ref_right {cs : List ConstV} (hl : cs.length ≤ 1024) (hz : ∀ i, 1 ≤ i → i < cs.length → oneZ cs (cs.getD i default) = 0) {i : Int} : (refZ cs i).2.2.2 = (isZ cs i 9 || isZ cs i 10) := by
  by_cases h : isZ cs i 9 = false ∧ isZ cs i 10 = false
  · unfold refZ; rw [if_pos h, h.1, h.2]; rfl
  · have hj : ∃ j : Nat, i = (j : Int) ∧ 1 ≤ j ∧ j < cs.length ∧ ((cs.getD j default).tag = 9 ∨ (cs.getD j default).tag = 10) ∧ (isZ cs i 9 || isZ cs i 10) = true := by
      cases h9 : isZ cs i 9 with
      | true => obtain ⟨j, e, h1, h2, h3⟩ := isZ_lt h9; exact ⟨j, e, h1, h2, .inl h3, rfl⟩
      | false =>
        cases h10 : isZ cs i 10 with
        | true => obtain ⟨j, e, h1, h2, h3⟩ := isZ_lt h10; exact ⟨j, e, h1, h2, .inr h3, rfl⟩
        | false => exact absurd ⟨h9, h10⟩ h
    obtain ⟨j, rfl, hj1, hj2, ht, hor⟩ := hj
    rw [hor]
    unfold refZ
    rw [if_neg h, Int.toNat_natCast]
    have h0 := hz j hj1 hj2
    unfold oneZ at h0
    by_cases hb : bareZ (cs.getD j default) = false
    · rw [if_pos hb] at h0; simp at h0
    rw [if_neg hb, if_neg (by omega), if_neg (by omega), if_neg (by omega), if_neg (by omega), if_neg (by omega), if_pos ht] at h0
    by_cases hab : isZ cs (cs.getD j default).a 7 = true ∧ isZ cs (cs.getD j default).b 12 = true
    · obtain ⟨ha, hbb⟩ := hab
      rw [if_neg (by rw [class_right hl hz, ha, hbb]; simp)]
      obtain ⟨m, hm, hm1, hm2, htm⟩ := isZ_lt hbb
      rw [hm, Int.toNat_natCast]
      have h1 := hz m hm1 hm2
      unfold oneZ at h1
      by_cases hb1 : bareZ (cs.getD m default) = false
      · rw [if_pos hb1] at h1; simp at h1
      rw [if_neg hb1, if_neg (by omega), if_neg (by omega), if_neg (by omega), if_neg (by omega), if_pos htm] at h1
      by_cases hcd : isZ cs (cs.getD m default).a 1 = true ∧ isZ cs (cs.getD m default).b 1 = true
      · rw [if_neg (by rw [text_right, text_right, hcd.1, hcd.2]; simp)]
      · rw [if_neg hcd] at h1; simp at h1
    · rw [if_neg hab] at h0; simp at h0
theorem isZ_in {cs : List ConstV} {j : Nat} (h1 : 1 ≤ j) (h2 : j < cs.length) (tag : Int) : isZ cs (j : Int) tag = decide ((cs.getD j default).tag = tag) := by
  unfold isZ
  rw [decide_eq_true (by omega : (1 : Int) ≤ j), decide_eq_true (by omega : (j : Int) < cs.length), Int.toNat_natCast]
  rfl

set_option maxHeartbeats 8000000 in
set_option maxRecDepth 100000 in
theorem walkRight (v : Value) (cs : List ConstV) (w : World) (hp : Pool w v cs) (hT : Tabs w) (hg : ErrV w) :
    Calls Tryd.prog 7 #[v] w fun e w' => e = .returned (.bool true) ∧ Only (fun _ => False) w w' := by
  have cC := progCheck v cs w hp hT hg
  obtain ⟨ao, cap, rfl, _, _, _, _, _⟩ := id hp
  have HP := Lib.hid hp
  clear hp hT hg
  by_cases hz : checkZ cs = 0
  · rw [hz] at cC
    obtain ⟨c1, c2, _, c4⟩ := checkZ_zero hz
    have HC4 := Lib.hid c4
    have CC := Lib.hid cC
    clear cC c4 hz
    go_enter Tryd.func7, Tryd.ntmps7
    go_wp2_with (fail)
    refine CC.out.mono ?_
    rintro e w1 ⟨rfl, ho1⟩
    have HO1 := Lib.hid ho1
    clear ho1 CC
    go_wp2
    go_loopw [3] (fun i wr => ∃ j : Nat, 1 ≤ j ∧ j ≤ cs.length ∧ i = .int .i64 j ∧ Only (fun _ => False) w wr) (fun i _ => cs.length - (intOf i).toNat)
    case atStart => exact ⟨1, Nat.le_refl _, c2, rfl, HO1.out⟩
    case round =>
      obtain ⟨j, hj1, hj, rfl, hon⟩ := hrel
      have HON := Lib.hid hon
      clear hon
      by_cases hlt : j < cs.length
      · have hjz : (j : Int) < (cs.length : Int) := by omega
        have hj0 : (0 : Int) ≤ (j : Int) := by omega
        have cT := fun w' (ho : Only (fun _ => False) w w') => progText _ cs (j : Int) w' (HP.out.only ho (fun _ _ h => h))
        have cK := fun w' (ho : Only (fun _ => False) w w') => progClass _ cs (j : Int) w' (HP.out.only ho (fun _ _ h => h))
        have cR := fun w' (ho : Only (fun _ => False) w w') => progRef _ cs (j : Int) w' (HP.out.only ho (fun _ _ h => h))
        have eT := text_right (cs := cs) (i := (j : Int))
        have eK := class_right c1 HC4.out (i := (j : Int))
        have eR := ref_right c1 HC4.out (i := (j : Int))
        rw [isZ_in hj1 hlt] at eT eK
        rw [isZ_in hj1 hlt, isZ_in hj1 hlt] at eR
        obtain ⟨b, o, rfl, hc⟩ := Pool.at HP.out hlt
        have k0 := fun w' (ho : Only (fun _ => False) w w') => (hc.only ho (fun h => h)).c0
        have hr0 := (HP.out.range hlt).r0
        generalize (cs.getD j default).tag = t at *
        obtain ⟨⟨xt, bt⟩, hxt⟩ : ∃ q, textZ cs (j : Int) = q := ⟨_, rfl⟩
        obtain ⟨⟨xk, bk⟩, hxk⟩ : ∃ q, classZ cs (j : Int) = q := ⟨_, rfl⟩
        obtain ⟨⟨y1, y2, y3, br⟩, hxr⟩ : ∃ q, refZ cs (j : Int) = q := ⟨_, rfl⟩
        rw [hxt] at cT eT
        rw [hxk] at cK eK
        rw [hxr] at cR eR
        simp only at cT cK cR eT eK eR
        have K0 := Lib.hid k0
        clear k0 hc hxt hxk hxr
        unfold I64 at hr0
        by_cases h1 : t = 1
        · subst h1
          obtain rfl : bt = true := by simpa using eT
          obtain rfl : bk = false := by simpa using eK
          obtain rfl : br = false := by simpa using eR
          clear eT eK eR
          have CT := Lib.hid cT
          have CK := Lib.hid cK
          have CR := Lib.hid cR
          clear cT cK cR
          go_wp2_with (fail)
          refine (CT.out _ HON.out).mono ?_
          rintro e wa ⟨rfl, ho2⟩
          have HA := Lib.hid (HON.out.trans ho2 (fun _ h => h.elim))
          clear ho2
          go_wp2_with (fail)
          refine (CK.out _ HA.out).mono ?_
          rintro e wb ⟨rfl, ho3⟩
          have HB := Lib.hid (HA.out.trans ho3 (fun _ h => h.elim))
          clear ho3
          go_wp2_with (fail)
          refine (CR.out _ HB.out).mono ?_
          rintro e wc ⟨rfl, ho4⟩
          have HC := Lib.hid (HB.out.trans ho4 (fun _ h => h.elim))
          have q0 := K0.out _ HC.out
          clear ho4 K0 CT CK CR
          go_wp2
          go_roundw
          case rel => exact ⟨j + 1, by omega, by omega, by go_num, HC.out⟩
          case measure => simp [intOf]; omega
        by_cases h7 : t = 7
        · subst h7
          obtain rfl : bt = false := by simpa using eT
          obtain rfl : bk = true := by simpa using eK
          obtain rfl : br = false := by simpa using eR
          clear eT eK eR
          have CT := Lib.hid cT
          have CK := Lib.hid cK
          have CR := Lib.hid cR
          clear cT cK cR
          go_wp2_with (fail)
          refine (CT.out _ HON.out).mono ?_
          rintro e wa ⟨rfl, ho2⟩
          have HA := Lib.hid (HON.out.trans ho2 (fun _ h => h.elim))
          clear ho2
          go_wp2_with (fail)
          refine (CK.out _ HA.out).mono ?_
          rintro e wb ⟨rfl, ho3⟩
          have HB := Lib.hid (HA.out.trans ho3 (fun _ h => h.elim))
          clear ho3
          go_wp2_with (fail)
          refine (CR.out _ HB.out).mono ?_
          rintro e wc ⟨rfl, ho4⟩
          have HC := Lib.hid (HB.out.trans ho4 (fun _ h => h.elim))
          have q0 := K0.out _ HC.out
          clear ho4 K0 CT CK CR
          go_wp2
          go_roundw
          case rel => exact ⟨j + 1, by omega, by omega, by go_num, HC.out⟩
          case measure => simp [intOf]; omega
        by_cases h9 : t = 9
        · subst h9
          obtain rfl : bt = false := by simpa using eT
          obtain rfl : bk = false := by simpa using eK
          obtain rfl : br = true := by simpa using eR
          clear eT eK eR
          have CT := Lib.hid cT
          have CK := Lib.hid cK
          have CR := Lib.hid cR
          clear cT cK cR
          go_wp2_with (fail)
          refine (CT.out _ HON.out).mono ?_
          rintro e wa ⟨rfl, ho2⟩
          have HA := Lib.hid (HON.out.trans ho2 (fun _ h => h.elim))
          clear ho2
          go_wp2_with (fail)
          refine (CK.out _ HA.out).mono ?_
          rintro e wb ⟨rfl, ho3⟩
          have HB := Lib.hid (HA.out.trans ho3 (fun _ h => h.elim))
          clear ho3
          go_wp2_with (fail)
          refine (CR.out _ HB.out).mono ?_
          rintro e wc ⟨rfl, ho4⟩
          have HC := Lib.hid (HB.out.trans ho4 (fun _ h => h.elim))
          have q0 := K0.out _ HC.out
          clear ho4 K0 CT CK CR
          go_wp2
          go_roundw
          case rel => exact ⟨j + 1, by omega, by omega, by go_num, HC.out⟩
          case measure => simp [intOf]; omega
        by_cases h10 : t = 10
        · subst h10
          obtain rfl : bt = false := by simpa using eT
          obtain rfl : bk = false := by simpa using eK
          obtain rfl : br = true := by simpa using eR
          clear eT eK eR
          have CT := Lib.hid cT
          have CK := Lib.hid cK
          have CR := Lib.hid cR
          clear cT cK cR
          go_wp2_with (fail)
          refine (CT.out _ HON.out).mono ?_
          rintro e wa ⟨rfl, ho2⟩
          have HA := Lib.hid (HON.out.trans ho2 (fun _ h => h.elim))
          clear ho2
          go_wp2_with (fail)
          refine (CK.out _ HA.out).mono ?_
          rintro e wb ⟨rfl, ho3⟩
          have HB := Lib.hid (HA.out.trans ho3 (fun _ h => h.elim))
          clear ho3
          go_wp2_with (fail)
          refine (CR.out _ HB.out).mono ?_
          rintro e wc ⟨rfl, ho4⟩
          have HC := Lib.hid (HB.out.trans ho4 (fun _ h => h.elim))
          have q0 := K0.out _ HC.out
          clear ho4 K0 CT CK CR
          go_wp2
          go_roundw
          case rel => exact ⟨j + 1, by omega, by omega, by go_num, HC.out⟩
          case measure => simp [intOf]; omega
        obtain rfl : bt = false := by simpa [h1] using eT
        obtain rfl : bk = false := by simpa [h7] using eK
        obtain rfl : br = false := by simpa [h9, h10] using eR
        have b1 : (t == 1) = false := by simpa using h1
        have b7 : (t == 7) = false := by simpa using h7
        have b9 : (t == 9) = false := by simpa using h9
        have b10 : (t == 10) = false := by simpa using h10
        clear eT eK eR h1 h7 h9 h10
        have CT := Lib.hid cT
        have CK := Lib.hid cK
        have CR := Lib.hid cR
        clear cT cK cR
        go_wp2_with (fail)
        refine (CT.out _ HON.out).mono ?_
        rintro e wa ⟨rfl, ho2⟩
        have HA := Lib.hid (HON.out.trans ho2 (fun _ h => h.elim))
        clear ho2
        go_wp2_with (fail)
        refine (CK.out _ HA.out).mono ?_
        rintro e wb ⟨rfl, ho3⟩
        have HB := Lib.hid (HA.out.trans ho3 (fun _ h => h.elim))
        clear ho3
        go_wp2_with (fail)
        refine (CR.out _ HB.out).mono ?_
        rintro e wc ⟨rfl, ho4⟩
        have HC := Lib.hid (HB.out.trans ho4 (fun _ h => h.elim))
        have q0 := K0.out _ HC.out
        clear ho4 K0 CT CK CR
        go_wp2
        go_roundw
        case rel => exact ⟨j + 1, by omega, by omega, by go_num, HC.out⟩
        case measure => simp [intOf]; omega
      · have hjn : j = cs.length := by omega
        have hnz : (cs.length : Int) ≤ (j : Int) := by omega
        clear hlt hjn
        go_wp2_with (go_at_call 10; refine (awake _).mono ?_; rintro e w7 ⟨rfl, ho7⟩)
        go_ret
        exact ⟨rfl, HON.out.trans ho7 (fun _ h => h.elim)⟩
  · generalize checkZ cs = k at *
    have hkb : (k == 0) = false := by simpa using hz
    have hkc : (k != 0) = true := by simpa using hz
    clear hz
    go_enter Tryd.func7, Tryd.ntmps7
    go_wp2_with (fail)
    refine cC.mono ?_
    rintro e w1 ⟨rfl, ho1⟩
    have HO1 := Lib.hid ho1
    clear ho1 cC
    go_wp2_with (go_at_call 10; refine (awake _).mono ?_; rintro e w7 ⟨rfl, ho7⟩)
    go_ret
    exact ⟨rfl, HO1.out.trans ho7 (fun _ h => h.elim)⟩

theorem reads (os : Os) {H : Type} (enc : TypeId × Value → H) : ∃ places, DataW.whole enc Tryd.prog ((laidWorld os).forCall (fun _ _ => 0) ⟨#[], #[.slice none 0 0], []⟩).memory Tryd.f7.params.toList Rows.poolRightSpec.vars false #[.slice none 0 0].toList 8 = some ([.nil], [], places) :=
  ⟨[], by kernel_rfl⟩

set_option maxRecDepth 100000 in
theorem contract (H : Type) (enc : TypeId × Value → H) (W : World) (base : Nat) (args : Array Value) (ds gs : List (DataW H)) (before : List MemPlace)
    (hval0 : ∀ (j : Nat) t v, Tryd.f7.params[j]? = some t → args[j]? = some v → Value.okWide Tryd.prog W .any base t v)
    (hW : DataW.Whole enc Tryd.prog Tryd.f7.params.toList Rows.poolRightSpec.vars false W args.toList ds gs before) (hL : laidMetH Tryd.prog L3 W)
    (hsz0 : (DataW.weightsEach Tryd.prog (Tryd.f7.params.toList ++ Rows.poolRightSpec.plain.varTypes Tryd.prog) (ds ++ gs)).all (· ≤ reachBytes) = true)
    : Calls Tryd.prog 7 args W fun e W' => ∃ v, e = .returned v ∧ Rows.poolRightSpec.post enc Tryd.prog Tryd.f7 false true false false W args v W' := by
  have hT := tabs hL
  have hE := errv hL
  have hsz := hsz0
  have hval : ∀ (j : Nat) t v, Tryd.f7.params[j]? = some t → args[j]? = some v → Value.okWide Tryd.prog W .any base t v := hval0
  have hW' := hW
  obtain ⟨p, q, hA0, hV, rfl, hfz, hnd⟩ := hW
  have hA : DataW.TrodAll enc Tryd.prog W 0 (fun _ => true) true Tryd.f7.params.toList args.toList ds p := hA0
  rw [Tryd.params7] at hA hval hsz
  obtain ⟨v0, vs0, d0, ds0, p0, q0, hargs, rfl, rfl, h0, r0⟩ := trodAll_cons hA
  obtain ⟨rfl, rfl, rfl⟩ := trodAll_nil r0
  obtain rfl : args = #[v0] := by cases args; simp_all
  obtain ⟨rfl, rfl⟩ := trodVars_none hV
  have k0 := h0
  have lt0 : ∀ x ∈ p0, x.block < W.heap.size := by obtain ⟨m, hm⟩ := k0; exact DataW.trod_lt m _ _ _ hm
  obtain ⟨z0, b0, l0, n0⟩ := arg_pool (hval 0 22 v0 rfl rfl) h0 (light_arg (j := 0) hsz rfl rfl)
  clear hA0 hval0
  refine (walkRight v0 z0 W b0 hT hE).mono fun e W' ⟨he, on⟩ => ?_
  have bel := on.none
  subst he
  exact ⟨_, rfl, _, _, _, [], _, [], hW', trodAll_mk1 (shut_bool Tryd.underlying4 _), (trodAll_cons_mk (Below.trod laidOut (by kernel_rfl) (of_decide_eq_true (by kernel_rfl)) k0 bel lt0) trodAll_mk0), rfl, bel.frame _, fun h => by cases h⟩

set_option maxRecDepth 100000 in
theorem lifted (os : Os) (started : os.Started) (H : Type) (enc : TypeId × Value → H) (F : Stop.Interp) :
    ReturnsInHanded {} Tryd.checked os 7 .any ((OpenSpec.ofChange Rows.poolRightSpec).preRow enc Tryd.prog Tryd.f7 Rows.poolRightRow.domain false Rows.poolRightRow.laid) (((OpenSpec.ofChange Rows.poolRightSpec).at F).post enc Tryd.prog Tryd.f7 false true false false) := by
  obtain ⟨places, hx⟩ := reads os enc
  refine returnsInHanded_of_row (C := Tryd.checked) (s := (OpenSpec.ofChange Rows.poolRightSpec)) own started (by kernel_rfl) Tryd.func7
    (witness_row_at (enc := enc) (C := Tryd.checked) false (laidWorld os) #[.slice none 0 0] rfl (by kernel_rfl) (by kernel_rfl) (by kernel_rfl)
      (OpenSpec.preRow_of_cond 8 hx (by kernel_rfl) (fun k hk => by cases hk) (by kernel_rfl) (laid_met1 os))) ?_
  intro W base args ds gs before hval hW _ hcond hsz hL _ _
  exact contract H enc W base args ds gs before hval hW hL hsz

theorem over : Rows.PoolRightSaid :=
  OpenClaim.holds_of_cond 7 Tryd.f7 rfl rfl rfl rfl rfl rfl rfl ⟨rfl, rfl, rfl, rfl, rfl⟩ rfl rfl rfl rfl rfl (by kernel_rfl) Tryd.func7 (by kernel_rfl)
    (of_decide_eq_true (by kernel_rfl)) (by unfold Func.isWrapper; first | (rw [if_pos (by decide +kernel)]; kernel_rfl) | (rw [if_neg (by decide +kernel)]; exact ⟨rfl, rfl⟩))
    (fun os started H enc _ F => by rw [OpenClaim.pre_eq_preRow]; exact lifted os started H enc F)

/-- No parameter wants a stand-in; the program looks (errors.As reads the types). -/
theorem plain (f : FuncId) (fn : Func) (hf : Tryd.pinned.checked.prog.funcNamed Rows.poolRightRow.func = some f) (hfn : Tryd.pinned.checked.prog.funcs[f]? = some fn) :
    true = Tryd.pinned.checked.prog.looks [] ∧ ∀ (j : Nat) t, fn.params[j]? = some t → Tryd.pinned.checked.prog.wantsStandIn t = false := by
  obtain rfl : f = 7 := Option.some.inj ((show Tryd.prog.funcNamed Rows.poolRightRow.func = some 7 by kernel_rfl).symm.trans hf) |>.symm
  obtain rfl : fn = Tryd.f7 := (Option.some.inj (Tryd.func7.symm.trans hfn)).symm
  refine ⟨by kernel_rfl, fun j t ht => ?_⟩
  rw [Tryd.params7] at ht
  obtain rfl : t = 22 := by simpa using Array.mem_of_getElem? ht
  exact (show Tryd.prog.wantsStandIn 22 = false by kernel_rfl)

theorem proved : Rows.PoolRightCardSaid :=
  Claim7.holds_tied_plain_at .later [] _ _ _ _ over (fun _ h => by cases h) (by kernel_rfl) (fun _ h => by cases h) poolRight_row_tie rfl ⟨rfl, rfl⟩ (by kernel_rfl) rfl plain (by kernel_rfl)
#print axioms proved
end Go.Proofs.YtpiandkiijienaaDoor.poolRight
