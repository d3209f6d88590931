/- PROVED: the law FlowJoins: the instructions of two codes, one behind the other, are those of the first, and those of the second as far behind; the arguments read as before. For every input of at most 1048576 values and letters in all (the second form). -/
import Derived.Test.YtngoajhnnlnphaaFloM
import Derived.Test.YtngoajhnnlnphaaFloP
import Derived.Test.YtngoajhnnlnphaaFloY
import Derived.Test.YtngoajhnnlnphaaFloS
import Derived.Test.YtngoajhnnlnphaaPart
import Derived.Test.YtngoajhnnlnphaaFloAw
import Derived.Test.YtngoajhnnlnphaaFloV
import Derived.ProofKit
import Derived.ShutString
import Derived.ChangeOld
import Derived.Below
import Derived.PinnedBridge
import Derived.Deep.CondSized
namespace Go.Proofs.Ytngoajhnnlnphaa.flowJoins
open Go.ChangeShapes Go.WideShapes Go.ChangeAt Go.RowKit
set_option linter.unusedVariables false
set_option linter.unusedSimpArgs false

theorem Instrs.first {w : World} {ao : Option Addr} {cap : Nat} {l : List InstrV} (h : Instrs w (.slice ao l.length cap) l) (n : Nat) (hn : n ≤ l.length) : Instrs w (.slice ao n cap) (l.take n) := by
  obtain ⟨ao', cap', e, h1, h2, h3, h4⟩ := h
  injection e with e1 _ e3
  subst e1 e3
  have hl : (l.take n).length = n := by simp; omega
  refine ⟨ao, cap, by rw [hl], by omega, h2, h3, fun x hx h0 => ?_⟩
  rw [hl] at h0
  obtain ⟨b, o, rfl, hc⟩ := h4 x hx (by omega)
  refine ⟨b, o, rfl, fun i hi => ?_⟩
  rw [hl] at hi
  have := hc i (by omega)
  rw [show (l.take n).getD i default = l.getD i default by simp [List.getD, hi]]
  exact this
theorem lead_bounds {zs : List Int} {l : List InstrV} {p : Nat} (h : Run zs l p) (hb : Bytish zs) {j : Nat} (hj : j < l.length) : (isLead (l.getD j default) = true → -32768 ≤ (l.getD j default).a ∧ (l.getD j default).a ≤ 65536 + zs.length) ∧ 0 ≤ (l.getD j default).at_ ∧ (l.getD j default).at_ ≤ zs.length := by
  obtain ⟨q, h1, h2, h3⟩ := Run.at_ h j hj
  have hf := dec_fits h2 h3
  refine ⟨fun hld => ?_, by omega, by omega⟩
  obtain ⟨op, rest, c, hz, hc, hle, hk⟩ := dec_ok h3
  have hrest : Bytish rest := fun z hz' => hb z (List.mem_of_mem_drop (i := q) (by rw [hz]; exact List.mem_cons_of_mem _ hz'))
  have hs : c.shape = 116 := by
    rw [hk] at hld
    unfold isLead at hld
    rw [(shape_of hc).1] at hld
    simpa using hld
  rw [hk]
  unfold aZ numZ
  rw [hs] at hle ⊢
  have hlen : (rest.take 2).length = 2 := by
    rw [List.length_take]
    have : extraZ 116 = 2 := by decide
    omega
  have hv := valB_lt 2 (rest.take 2) hlen (fun z hz' => hrest z (List.mem_of_mem_take hz'))
  have e1 : lenA 116 = 2 := by decide
  have e2 : sgA 116 = true := by decide
  have e3 : leadsZ 116 = true := by decide
  rw [e1, e2, e3, if_neg (by decide), if_pos rfl, if_pos rfl, sgn2]
  simp only
  split <;> omega
theorem join_at {X Y : List InstrV} {n : Int} {j : Nat} (hj : j < Y.length) : (X ++ Y.map (shiftI n)).getD (X.length + j) default = shiftI n (Y.getD j default) := by
  simp [List.getD, hj]
set_option maxHeartbeats 16000000 in
set_option maxRecDepth 100000 in
theorem walk (v0 v1 : Value) (w : World) (w0 : ∃ zs, Bytes w v0 zs ∧ zs.length ≤ 1048576) (w1 : ∃ zs, Bytes w v1 zs ∧ zs.length ≤ 1048576) :
    Calls Try.prog 8 #[v0, v1] w fun e w' => e = .returned (.bool true) ∧ Below w.heap.size w w' := by
  obtain ⟨zs, hb, hl⟩ := w0
  obtain ⟨ys, hb1, hl1⟩ := w1
  obtain ⟨i0, hi, hz0, hz1, hz2⟩ := info_parts info_u8
  obtain ⟨ao, cap, rfl, hq1, hq2, hq3, hbz, hcells⟩ := id hb
  obtain ⟨ao1, cap1, rfl, hp1, hp2, hp3, hby, hcells1⟩ := id hb1
  unfold maxLen at hq2 hp2
  have C1 := Lib.hid (progList _ zs w hb (by omega))
  have C2 := Lib.hid (fun w' hb => progList (.slice ao1 ys.length cap1) ys w' hb (by omega))
  have C3 := Lib.hid (fun w' v hb => progList v (zs ++ ys) w' hb (by simp; omega))
  have Hb := Lib.hid hb
  have Hb1 := Lib.hid hb1
  have HBZ := Lib.hid hbz
  have HBY := Lib.hid hby
  clear hb hb1 hcells hcells1 hq3 hp3 hbz hby
  go_enter Try.func8, Try.ntmps8
  go_wp2_with (fail)
  refine C1.out.mono ?_
  rintro e w2 ⟨vx, X, e0, rfl, hlx, ho2, hrx⟩
  obtain ⟨ax, cx, rfl, g1, g2, g3, -⟩ := id hrx.instrs
  have HX2 := Lib.hid hrx.instrs
  have HLX := Lib.hid hlx
  have hxs := hlx.short
  have HO2 := Lib.hid ho2
  clear hrx hlx ho2 C1 g3
  go_wp2_with (fail)
  refine (C2.out _ (Hb1.out.only HO2.out (fun _ _ _ h => h))).mono ?_
  rintro e w3 ⟨vy, Y, f0, rfl, hly, ho3, hry⟩
  obtain ⟨ay, cy, rfl, k1, k2, k3, -⟩ := id hry.instrs
  have HX3 := Lib.hid (HX2.out.only ho3)
  have HY3 := Lib.hid hry.instrs
  have HLY := Lib.hid hly
  have hys := hly.short
  have HO3 := Lib.hid (HO2.out.trans ho3 (fun _ h _ => h))
  clear hry hly ho3 C2 k3 HX2 HO2
  by_cases hbad : e0 ≠ 0 ∨ f0 ≠ 0
  · have hq : ((e0 != 0) || (f0 != 0)) = true := by
      rcases hbad with h | h
      · rw [bne_iff_ne.2 h]; rfl
      · rw [bne_iff_ne.2 h, Bool.or_true]
    have hcase : (e0 != 0) = true ∨ ((e0 != 0) = false ∧ (f0 != 0) = true) := by
      cases h : (e0 != 0)
      · rw [h, Bool.false_or] at hq; exact .inr ⟨rfl, hq⟩
      · exact .inl rfl
    clear hbad hq
    rcases hcase with he | ⟨he, hf⟩
    all_goals
      go_wp2_with (fail)
      refine (awake7 _).mono ?_
      rintro e w7 ⟨rfl, ho7⟩
      have HO7 := Lib.hid (HO3.out.trans ho7 (fun _ h _ => h))
      clear ho7
      go_wp2
      go_ret
      exact ⟨rfl, HO7.out.none⟩
  · obtain ⟨rfl, rfl⟩ : e0 = 0 ∧ f0 = 0 := by
      refine ⟨?_, ?_⟩
      · by_cases h : e0 = 0
        · exact h
        · exact absurd (.inl h) hbad
      · by_cases h : f0 = 0
        · exact h
        · exact absurd (.inr h) hbad
    have hrx := HLX.out.ok
    have hry := HLY.out.ok
    have HJ := Lib.hid (hrx.join hry)
    have HBD := Lib.hid (fun j hj => lead_bounds hry HBY.out (j := j) hj)
    clear hbad hrx hry HLX HLY
    have hb3 := Hb.out.only HO3.out (fun _ _ _ h => h)
    have hb4 := Hb1.out.only HO3.out (fun _ _ _ h => h)
    have HB3 := Lib.hid hb3
    have HB4 := Lib.hid hb4
    clear hb3 hb4
    go_wp2_with (first
      | (at_builtin; refine wpList_append_src rfl (.tmp 34) (.tmp 35) 22 rfl 5 i0 (.int .u8 0) 1 1 Try.underlying22 hi hz0 hz1 hz2 rfl (by decide) w3.heap.size (.slice (some ⟨w3.heap.size, 0, none⟩) 0 0) 0 [] rfl (by exact made0 w3) (by simp) (.slice ao zs.length cap) zs.length (zs.map (Value.int .u8)) rfl (by exact (Src.of_bytes HB3.out).alloc _) (by unfold maxLen; omega) (by omega) ?_; intro v4 w4 hown hgrow hnew; obtain ⟨hr4, ho4⟩ := Row.copied hown hgrow hnew; have HR4 := Lib.hid hr4; have HO4 := Lib.hid ho4; have hsz4 := ho4.size; clear hown hgrow hnew hr4 ho4)
      | (at_builtin; refine wpList_append_src rfl (.tmp 36) (.tmp 37) 22 rfl 5 i0 (.int .u8 0) 1 1 Try.underlying22 hi hz0 hz1 hz2 rfl (by decide) w3.heap.size v4 zs.length (zs.map (Value.int .u8)) rfl (by exact HR4.out) (by exact hsz4) (.slice ao1 ys.length cap1) ys.length (ys.map (Value.int .u8)) rfl (by exact Src.of_bytes (HB4.out.only HO4.out (fun _ _ _ h => h))) (by unfold maxLen; omega) (by omega) ?_; intro v5 w5 hown hgrow hnew; obtain ⟨hr5, ho5⟩ := Row.push HR4.out HO4.out hown hgrow hnew; have HR5 := Lib.hid hr5; have HO5 := Lib.hid ho5; clear hown hgrow hnew hr5 ho5))
    refine (C3.out _ _ (HR5.out.bytes (HBZ.out.append HBY.out))).mono ?_
    rintro e w6 ⟨vz, Z, e0, rfl, hlz, ho6, hrz⟩
    obtain ⟨rfl, rfl⟩ := hlz.unique (.inl ⟨rfl, HJ.out⟩)
    obtain ⟨az, cz, hvz, z1, z2, -⟩ := id hrz.instrs
    subst hvz
    have hiz := hrz.instrs
    have hzl : (X ++ Y.map (shiftI (zs.length : Int))).length = X.length + Y.length := by simp
    have htk : (X ++ Y.map (shiftI (zs.length : Int))).take X.length = X := by simp
    have HAT := Lib.hid (fun j (hj : j < Y.length) => join_at (X := X) (n := (zs.length : Int)) hj)
    have HO6 := Lib.hid ((HO3.out.trans HO5.out (fun _ h _ => h)).trans ho6 (fun _ h _ => h))
    have HX6 := Lib.hid ((HX3.out.only HO5.out).only ho6)
    have HY6 := Lib.hid ((HY3.out.only HO5.out).only ho6)
    generalize X ++ Y.map (shiftI (zs.length : Int)) = Z at *
    have hxz : X.length ≤ Z.length := by omega
    have hne : ((Z.length : Int) != (X.length : Int) + (Y.length : Int)) = false := by rw [bne_eq_false_iff_eq]; omega
    have hsame := sameI _ _ X w6 (by have := Instrs.first hiz X.length hxz; rwa [htk] at this) HX6.out (by omega)
    have HS := Lib.hid hsame
    have HZ6 := Lib.hid hiz
    have HZL := Lib.hid hzl
    clear hsame hiz htk hzl hrz ho6 HJ HR5 HR4 HO4 HO5 HB3 HB4 hsz4 hlz C3
    go_wp2_with (fail)
    refine HS.out.mono ?_
    rintro e w7 ⟨rfl, ho7⟩
    have HX7 := Lib.hid (HX6.out.only ho7)
    have HY7 := Lib.hid (HY6.out.only ho7)
    have HZ7 := Lib.hid (HZ6.out.only ho7)
    have HO7 := Lib.hid (HO6.out.trans ho7 (fun _ h _ => h))
    clear ho7 HX6 HY6 HZ6 HO6 HS HX3 HY3 HO3
    go_wp2
    go_loopw [11] (fun i wr => ∃ j : Nat, i = .int .i64 j ∧ j ≤ Y.length ∧ Hid (Only (fun _ => False) w7 wr)) (fun i _ => Y.length - (intOf i).toNat)
    case atStart => exact ⟨0, rfl, Nat.zero_le _, Lib.hid (Only.refl _ _)⟩
    case round =>
      obtain ⟨j, rfl, hj, HONR⟩ := hrel
      by_cases hlt : j < Y.length
      · have hjz : (j : Int) < (Y.length : Int) := by omega
        have hzat := HAT.out j hlt
        have hbd := HBD.out j hlt
        have HYR := Lib.hid (HY7.out.only HONR.out)
        have hsz : X.length + j < Z.length := by have := HZL.out; omega
        obtain ⟨bz, oz, rfl, x⟩ := Sl.at (HZ7.out.only HONR.out) hsz
        rw [hzat] at x
        obtain ⟨b2, o2, rfl, y⟩ := Sl.at HYR.out hlt
        have cl := progLeads (shiftI (zs.length : Int) (Y.getD j default))
        generalize Y.getD j default = q at *
        obtain ⟨yt, yo, ya, yb, ysz⟩ := q
        obtain ⟨hb1, hb2, hb3⟩ := hbd
        obtain ⟨x0, x1, x2, x3, x4⟩ := x
        obtain ⟨y0, y1, y2, y3, y4⟩ := y
        unfold shiftI at x0 x1 x2 x3 x4 cl
        simp only at x0 x1 x2 x3 x4 y0 y1 y2 y3 y4 hb1 hb2 hb3 cl
        obtain ⟨sx, hsx⟩ : ∃ sx : Nat, sx = X.length + j := ⟨_, rfl⟩
        rw [← hsx] at x0 x1 x2 x3 x4 hsz
        have hsi : (X.length : Int) + (j : Int) = (sx : Int) := by omega
        have hwi : wrap64 (sx : Int) = (sx : Int) := IntWalk.wrap64_in _ ⟨by omega, by omega⟩
        have hszi : (sx : Int) < (Z.length : Int) := Int.ofNat_lt.2 hsz
        obtain ⟨T, hT⟩ : ∃ T, T = yt + (zs.length : Int) := ⟨_, rfl⟩
        rw [← hT] at x0 cl
        have hTe : yt + (zs.length : Int) = T := hT.symm
        have hwT : wrap64 T = T := IntWalk.wrap64_in _ ⟨by omega, by omega⟩
        have hTT : (T != T) = false := by simp
        have hoo : (yo != yo) = false := by simp
        have hbb : (yb != yb) = false := by simp
        have hss : (ysz != ysz) = false := by simp
        cases hld : isLead ⟨yt, yo, ya, yb, ysz⟩
        · rw [hld] at x2 cl
          simp only [Bool.false_eq_true, if_false, Int.add_zero] at x2 cl
          have hl2 : isLead (⟨T, yo, ya, yb, ysz⟩ : InstrV) = false := hld
          have hl3 : leadZ (⟨T, yo, ya, yb, ysz⟩ : InstrV) = 0 := by unfold leadZ; rw [hl2]; rfl
          have haa : (ya != ya) = false := by simp
          have CL := Lib.hid (cl (wr.alloc (.cells #[.int .i64 T, .int .i64 yo, .int .i64 ya, .int .i64 yb, .int .i64 ysz] 39)))
          rw [hl2, hl3] at CL
          unfold valI at CL
          have HAL := Lib.hid ((Only.refl (fun _ => False) wr).alloc (.cells #[.int .i64 T, .int .i64 yo, .int .i64 ya, .int .i64 yb, .int .i64 ysz] 39))
          have HNW := Lib.hid (heap_alloc_new wr (.cells #[.int .i64 T, .int .i64 yo, .int .i64 ya, .int .i64 yb, .int .i64 ysz] 39))
          clear cl hld hl2 hl3 hb1 hb2 hb3 hzat hT hsx
          go_wp2_with (fail)
          refine CL.out.mono ?_
          rintro e w8 ⟨rfl, ho8⟩
          obtain ⟨p0, p1, p2, p3, p4⟩ := cells5 (ho8.heap HNW.out (fun h => h))
          have ho9 := HAL.out.trans ho8 (fun _ h _ => h)
          have v0 := ho9.cell y0 (fun h => h)
          have v1 := ho9.cell y1 (fun h => h)
          have v2 := ho9.cell y2 (fun h => h)
          have v3 := ho9.cell y3 (fun h => h)
          have v4 := ho9.cell y4 (fun h => h)
          have HO9 := Lib.hid (HONR.out.trans ho9 (fun _ h _ => h))
          clear ho8 ho9 CL x0 x1 x2 x3 x4 y0 y1 y2 y3 y4 hwi hsi hszi
          go_wp2
          go_quiet (fail)
          go_wp2
          go_roundw
          case rel => exact ⟨j + 1, by go_num, by omega, Lib.hid (HO9.out.drewN _)⟩
          case measure => simp [intOf]; omega
        · rw [hld] at x2 cl
          simp only [if_true] at x2 cl
          obtain ⟨A, hA⟩ : ∃ A, A = ya + (zs.length : Int) := ⟨_, rfl⟩
          rw [← hA] at x2 cl
          have hbd := hb1 hld
          have hAe : ya + (zs.length : Int) = A := hA.symm
          have hwA : wrap64 A = A := IntWalk.wrap64_in _ ⟨by omega, by omega⟩
          have hl2 : isLead (⟨T, yo, A, yb, ysz⟩ : InstrV) = true := hld
          have hl3 : leadZ (⟨T, yo, A, yb, ysz⟩ : InstrV) = A := by unfold leadZ; rw [hl2]; rfl
          have haa : (A != A) = false := by simp
          have CL := Lib.hid (cl (wr.alloc (.cells #[.int .i64 T, .int .i64 yo, .int .i64 A, .int .i64 yb, .int .i64 ysz] 39)))
          rw [hl2, hl3] at CL
          unfold valI at CL
          have HAL := Lib.hid ((Only.refl (fun _ => False) wr).alloc (.cells #[.int .i64 T, .int .i64 yo, .int .i64 A, .int .i64 yb, .int .i64 ysz] 39))
          have HNW := Lib.hid (heap_alloc_new wr (.cells #[.int .i64 T, .int .i64 yo, .int .i64 A, .int .i64 yb, .int .i64 ysz] 39))
          clear cl hld hl2 hl3 hb1 hb2 hb3 hzat hT hsx hA hbd
          go_wp2_with (fail)
          refine CL.out.mono ?_
          rintro e w8 ⟨rfl, ho8⟩
          obtain ⟨p0, p1, p2, p3, p4⟩ := cells5 (ho8.heap HNW.out (fun h => h))
          have ho9 := HAL.out.trans ho8 (fun _ h _ => h)
          have v0 := ho9.cell y0 (fun h => h)
          have v1 := ho9.cell y1 (fun h => h)
          have v2 := ho9.cell y2 (fun h => h)
          have v3 := ho9.cell y3 (fun h => h)
          have v4 := ho9.cell y4 (fun h => h)
          have HO9 := Lib.hid (HONR.out.trans ho9 (fun _ h _ => h))
          clear ho8 ho9 CL x0 x1 x2 x3 x4 y0 y1 y2 y3 y4 hwi hsi hszi
          go_wp2
          go_quiet (fail)
          go_wp2
          go_roundw
          case rel => exact ⟨j + 1, by go_num, by omega, Lib.hid (HO9.out.drewN _)⟩
          case measure => simp [intOf]; omega
      · obtain rfl : j = Y.length := by omega
        clear hlt hj
        go_wp2_with (fail)
        refine (awake7 _).mono ?_
        rintro e w8 ⟨rfl, ho8⟩
        have HO8 := Lib.hid ((HO7.out.trans HONR.out (fun _ h _ => h)).trans ho8 (fun _ h _ => h))
        clear ho8
        go_wp2
        go_ret
        exact ⟨rfl, HO8.out.none⟩

theorem own : ownKnob Try.prog.godebug = none := by kernel_rfl
theorem laidOut : laidOutB Try.prog = true := by kernel_rfl

set_option maxRecDepth 100000 in
theorem lifted (os : Os) (started : os.Started) (H : Type) (enc : TypeId × Value → H) (FF : Stop.Interp) :
    ReturnsInHanded {} Try.checked os 8 .any ((Rows.OpenSpec.upto Rows.flowJoinsSpec).pre6 enc Try.prog Try.f8 Rows.flowJoinsUptoRow.domain false) (((Rows.OpenSpec.upto Rows.flowJoinsSpec).at FF).post enc Try.prog Try.f8 false true false false) := by
  refine returnsInHanded_of_cond_sized (C := Try.checked) (s := Rows.OpenSpec.upto Rows.flowJoinsSpec) (k := Rows.uptoSmall) rfl own started (by kernel_rfl) Try.func8
    (OpenSpec.witness (enc := enc) (C := Try.checked) (s := Rows.OpenSpec.upto Rows.flowJoinsSpec) (k := Rows.uptoSmall) rfl false ⟨#[], #[.slice none 0 0, .slice none 0 0], []⟩ 8 (by kernel_rfl) (by kernel_rfl) (by kernel_rfl)
      (x := ([.nil, .nil], [], [])) (by kernel_rfl) rfl (by kernel_rfl)) ?_
  intro W base args ds gs before hval0 hW _ hk hsz0 _
  have hsz : (DataW.weightsEach Try.prog (Try.f8.params.toList ++ Rows.flowJoinsSpec.plain.varTypes Try.prog) (ds ++ gs)).all (· ≤ reachBytes) = true := hsz0
  clear hsz0
  have hval : ∀ (j : Nat) t v, Try.f8.params[j]? = some t → args[j]? = some v → Value.okWide Try.prog W .any base t v := hval0
  have hW' := hW
  obtain ⟨p, q, hA0, hV, rfl, hfz, hnd⟩ := hW
  have hA : DataW.TrodAll enc Try.prog W 0 (fun _ => true) true Try.f8.params.toList args.toList ds p := hA0
  rw [Try.params8] at hA hval hsz
  obtain ⟨v0, vs0, d0, ds0, p0, q0, hargs, rfl, rfl, h0, r0⟩ := trodAll_cons hA
  obtain ⟨v1, vs1, d1, ds1, p1, q1, rfl, rfl, rfl, h1, r1⟩ := trodAll_cons r0
  obtain ⟨rfl, rfl, rfl⟩ := trodAll_nil r1
  obtain rfl : args = #[v0, v1] := by cases args; simp_all
  obtain ⟨rfl, rfl⟩ := trodVars_none hV
  have hb := of_decide_eq_true hk
  simp only [List.cons_append, List.nil_append, Rows.uptoBulkAll] at hb
  have k0 := h0
  have lt0 : ∀ x ∈ p0, x.block < W.heap.size := by obtain ⟨m, hm⟩ := k0; exact DataW.trod_lt m _ _ _ hm
  have w0 := arg_bytesB (hval 0 22 v0 rfl rfl) h0 (light_arg (j := 0) hsz rfl rfl) (by omega)
  have k1 := h1
  have lt1 : ∀ x ∈ p1, x.block < W.heap.size := by obtain ⟨m, hm⟩ := k1; exact DataW.trod_lt m _ _ _ hm
  have w1 := arg_bytesB (hval 1 22 v1 rfl rfl) h1 (light_arg (j := 1) hsz rfl rfl) (by omega)
  clear hA0 hval0
  refine (walk v0 v1 W w0 w1).mono fun e W' ⟨he, bel⟩ => ?_
  subst he
  exact ⟨_, rfl, _, _, _, [], _, [], hW', trodAll_mk1 (shut_bool Try.underlying4 _), (trodAll_cons_mk (Below.trod laidOut (by kernel_rfl) (of_decide_eq_true (by kernel_rfl)) k0 bel lt0) (trodAll_cons_mk (Below.trod laidOut (by kernel_rfl) (of_decide_eq_true (by kernel_rfl)) k1 bel lt1) trodAll_mk0)), rfl, bel.frame _, fun h => by cases h⟩

theorem over : Rows.FlowJoinsUptoSaid :=
  OpenClaim.holds_of_cond 8 Try.f8 rfl rfl rfl rfl rfl rfl rfl ⟨rfl, rfl, rfl, rfl, rfl⟩ rfl rfl rfl rfl rfl (by kernel_rfl) Try.func8 (by kernel_rfl)
    (of_decide_eq_true (by kernel_rfl)) (by unfold Func.isWrapper; first | (rw [if_pos (by decide +kernel)]; kernel_rfl) | (rw [if_neg (by decide +kernel)]; exact ⟨rfl, rfl⟩))
    (fun os started H enc _ F => lifted os started H enc F)

theorem proved : Rows.FlowJoinsUptoSaid := over
#print axioms proved
end Go.Proofs.Ytngoajhnnlnphaa.flowJoins
