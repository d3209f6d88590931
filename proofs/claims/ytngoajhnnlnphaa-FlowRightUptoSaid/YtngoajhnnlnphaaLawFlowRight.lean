/- PROVED: the law FlowRight: in a method that is right all leads to an instruction, and the last does not fall; the argument reads as before. For every input of at most 1048576 values and letters in all (the second form). -/
import Derived.Test.YtngoajhnnlnphaaFloT
import Derived.Test.YtngoajhnnlnphaaFloP
import Derived.Test.YtngoajhnnlnphaaFloY
import Derived.Test.YtngoajhnnlnphaaFloAw
import Derived.Test.YtngoajhnnlnphaaFloV
import Derived.ProofKit
import Derived.ShutString
import Derived.ChangeOld
import Derived.Below
import Derived.PinnedBridge
import Derived.Deep.CondSized
namespace Go.Proofs.Ytngoajhnnlnphaa.flowRight
open Go.ChangeShapes Go.WideShapes Go.ChangeAt Go.RowKit
set_option linter.unusedVariables false
set_option linter.unusedSimpArgs false

set_option maxHeartbeats 16000000 in
set_option maxRecDepth 100000 in
theorem walk (v0 : Value) (w : World) (w0 : ∃ (m : MethodV) (vc vt vm : Value), v0 = .agg #[.int .i64 m.flags, .int .i64 m.name, .int .i64 m.desc, .int .i64 m.stack, .int .i64 m.locals, vc, vt, vm] ∧ Inside w m vc vt vm ∧ m.code.length ≤ 1048576 ∧ m.traps.length ≤ 1048576) :
    Calls Try.prog 7 #[v0] w fun e w' => e = .returned (.bool true) ∧ Below w.heap.size w w' := by
  obtain ⟨m, vc, vt, vm, rfl, hm, hl, htl⟩ := w0
  obtain ⟨ac, cc, rfl, p1, p2, -⟩ := id hm.1
  obtain ⟨at_, ct, rfl, s1, s2, -⟩ := id hm.2.1.1
  obtain ⟨am, cm, rfl, -⟩ := id hm.2.2
  unfold maxLen at p2
  have hb0 := heap_alloc_new w (.cells #[.int .i64 m.flags, .int .i64 m.name, .int .i64 m.desc, .int .i64 m.stack, .int .i64 m.locals, .slice ac m.code.length cc, .slice at_ m.traps.length ct, .slice am m.maps.length cm] 34)
  have ho0 := (Only.refl (fun _ => False) w).alloc (.cells #[.int .i64 m.flags, .int .i64 m.name, .int .i64 m.desc, .int .i64 m.stack, .int .i64 m.locals, .slice ac m.code.length cc, .slice at_ m.traps.length ct, .slice am m.maps.length cm] 34)
  have c1 := progCheck7 m (.slice ac m.code.length cc) (.slice at_ m.traps.length ct) (.slice am m.maps.length cm) _ (hm.only ho0) (by omega) (by omega)
  have C1 := Lib.hid c1
  have HT := Lib.hid hm.2.1
  have HB0 := Lib.hid hb0
  have HO0 := Lib.hid ho0
  clear hm hb0 ho0 c1
  go_enter Try.func7, Try.ntmps7
  go_wp2_with (fail)
  refine C1.out.mono ?_
  rintro e w1 ⟨v, l, e0, rfl, hls, ho1, hi1⟩
  have HON1 := Lib.hid (HO0.out.trans ho1 (fun _ h _ => h))
  have HB1 := Lib.hid (ho1.heap HB0.out (fun h => h))
  have HI1 := Lib.hid hi1
  obtain ⟨av, cv, rfl, g1, g2, g3, -⟩ := id hi1
  clear ho1 hi1 C1 HB0 HO0 g3
  by_cases he : e0 = 0
  · subst he
    obtain ⟨hrun, hright⟩ := hls.right
    obtain ⟨hpos, hlast, hleads, htraps⟩ := rightL_parts hright
    have hln := hrun.length
    have HLEADS := Lib.hid hleads
    have HTRAPS := Lib.hid htraps
    have HLAST := Lib.hid hlast
    clear hls hrun hright hlast hleads htraps
    go_wp2
    go_loopw [5] (fun i wr => ∃ j : Nat, i = .int .i64 j ∧ j ≤ l.length ∧ Hid (Only (fun _ => False) w1 wr)) (fun i _ => l.length - (intOf i).toNat)
    case atStart => exact ⟨0, rfl, Nat.zero_le _, Lib.hid (Only.refl _ _)⟩
    case round =>
      obtain ⟨j, rfl, hj, HONR⟩ := hrel
      have HIR := Lib.hid (HI1.out.only HONR.out)
      by_cases hlt : j < l.length
      · have hjz : (j : Int) < (l.length : Int) := by omega
        obtain ⟨b, o, rfl, x⟩ := Sl.at HIR.out hlt
        obtain ⟨x0, x1, x2, x3, x4⟩ := x
        have hb := HLEADS.out j hlt
        have cl := progLeads (l.getD j default) wr
        generalize l.getD j default = k at *
        cases hld : isLead k
        · have hlz : leadZ k = 0 := by unfold leadZ; rw [hld]; rfl
          rw [hld, hlz] at cl
          unfold valI at cl
          have CL := Lib.hid cl
          clear cl hld hlz hb
          go_wp2_with (fail)
          refine CL.out.mono ?_
          rintro e w3 ⟨rfl, ho3⟩
          have HON3 := Lib.hid (HONR.out.trans ho3 (fun _ h _ => h))
          clear ho3 CL
          go_wp2
          go_roundw
          case rel => exact ⟨j + 1, by go_num, by omega, HON3⟩
          case measure => simp [intOf]; omega
        · have hz : ¬ atZ l k.a < 0 := by
            unfold badLead at hb
            rw [hld, Bool.true_and] at hb
            simpa using hb
          rw [hld, leadZ_yes hld] at cl
          unfold valI at cl
          have cA := fun w' (h : Instrs w' (.slice (some ⟨b, o, none⟩) l.length cv) l) => progAt _ l k.a w' h (by omega)
          generalize atZ l k.a = z at *
          have CL := Lib.hid cl
          have CA := Lib.hid cA
          clear cl cA hld hb
          go_wp2_with (fail)
          refine CL.out.mono ?_
          rintro e w3 ⟨rfl, ho3⟩
          have HON3 := Lib.hid (HONR.out.trans ho3 (fun _ h _ => h))
          have HI3 := Lib.hid (HIR.out.only ho3)
          clear ho3 CL
          go_wp2_with (fail)
          refine (CA.out _ HI3.out).mono ?_
          rintro e w4 ⟨rfl, ho4⟩
          have HON4 := Lib.hid (HON3.out.trans ho4 (fun _ h _ => h))
          clear ho4 CA
          go_wp2
          go_roundw
          case rel => exact ⟨j + 1, by go_num, by omega, HON4⟩
          case measure => simp [intOf]; omega
      · obtain rfl : j = l.length := by omega
        have HONA := Lib.hid (HON1.out.trans HONR.out (fun _ h _ => h))
        have HBA := Lib.hid (HONR.out.heap HB1.out (fun h => h))
        clear hlt hj
        go_wp2
        generalize hwA : wr = wA at *
        clear hwA
        go_loopw [8] (fun i wr => ∃ j : Nat, i = .int .i64 j ∧ j ≤ m.traps.length ∧ Hid (Only (fun _ => False) wA wr)) (fun i _ => m.traps.length - (intOf i).toNat)
        case atStart => exact ⟨0, rfl, Nat.zero_le _, Lib.hid (Only.refl _ _)⟩
        case round =>
          obtain ⟨j, rfl, hj, HONT⟩ := hrel
          have HBB := Lib.hid (HONT.out.heap HBA.out (fun h => h))
          have HIT := Lib.hid (HIR.out.only HONT.out)
          have HOW := Lib.hid (HONA.out.trans HONT.out (fun _ h _ => h))
          have HTT := Lib.hid (HT.out.1.imp (fun _ _ _ _ _ h => h.only HOW.out))
          obtain ⟨q5, q6⟩ := cells8 HBB.out
          by_cases hlt : j < m.traps.length
          · obtain ⟨bt, ot, rfl, y⟩ := Sl.at HTT.out hlt
            obtain ⟨y0, y1, y2, y3⟩ := y
            have hjz : (j : Int) < (m.traps.length : Int) := by omega
            have hb := HTRAPS.out j hlt
            generalize m.traps.getD j default = t at *
            obtain ⟨tf, tt, th, ty⟩ := t
            simp only at y0 y1 y2 y3
            have hal := (Only.refl (fun _ => False) wr).alloc (.cells #[.int .i64 tf, .int .i64 tt, .int .i64 th, .int .i64 ty] 48)
            have hnw := heap_alloc_new wr (.cells #[.int .i64 tf, .int .i64 tt, .int .i64 th, .int .i64 ty] 48)
            have HBN := Lib.hid (hal.heap HBB.out (fun h => h))
            have HNW := Lib.hid hnw
            have HIA := Lib.hid (HIT.out.only hal)
            have HAL := Lib.hid hal
            have hz1 : ¬ atZ l tf < 0 := by
              intro h
              unfold badTrap at hb
              simp [h] at hb
            have hz3 : ¬ atZ l th < 0 := by
              intro h
              unfold badTrap at hb
              simp [h] at hb
            have hz2 : tt = (m.code.length : Int) ∨ ¬ atZ l tt < 0 := by
              by_cases h : tt = (m.code.length : Int)
              · exact .inl h
              · refine .inr (fun h2 => ?_)
                unfold badTrap at hb
                simp [h2, h] at hb
            have cA := fun x w' (h : Instrs w' (.slice av l.length cv) l) => progAt _ l x w' h (by omega)
            have K1 := Lib.hid (cA tf)
            have K2 := Lib.hid (cA tt)
            have K3 := Lib.hid (cA th)
            have HZ2 := Lib.hid hz2
            generalize atZ l tf = z1 at *
            generalize atZ l tt = z2 at *
            generalize atZ l th = z3 at *
            clear hal hnw hb cA hz2
            go_wp2_with (fail)
            refine (K1.out _ HIA.out).mono ?_
            rintro e w4 ⟨rfl, ho4⟩
            have HI4 := Lib.hid (HIA.out.only ho4)
            have HN4 := Lib.hid (ho4.heap HNW.out (fun h => h))
            have HB4 := Lib.hid (ho4.heap HBN.out (fun h => h))
            have HO4 := Lib.hid (HAL.out.trans ho4 (fun _ h _ => h))
            have t2 := cell_blk HN4.out 2
            simp only [List.getElem?_toArray, List.getElem?_cons_succ, List.getElem?_cons_zero] at t2
            clear ho4 K1 q5 q6
            go_wp2_with (fail)
            refine (K3.out _ HI4.out).mono ?_
            rintro e w5 ⟨rfl, ho5⟩
            have HI5 := Lib.hid (HI4.out.only ho5)
            have hN5 := ho5.heap HN4.out (fun h => h)
            have t1 := cell_blk hN5 1
            obtain ⟨q5, q6⟩ := cells8 (ho5.heap HB4.out (fun h => h))
            simp only [List.getElem?_toArray, List.getElem?_cons_succ, List.getElem?_cons_zero] at t1
            have HO5 := Lib.hid (HO4.out.trans ho5 (fun _ h _ => h))
            clear ho5 K3 hN5 t2
            by_cases htc : tt = (m.code.length : Int)
            · subst htc
              have hne : ((m.code.length : Int) != (m.code.length : Int)) = false := by simp
              go_wp2
              go_roundw
              case rel => exact ⟨j + 1, by go_num, by omega, Lib.hid (HONT.out.trans HO5.out (fun _ h _ => h))⟩
              case measure => simp [intOf]; omega
            · have hne : (tt != (m.code.length : Int)) = true := by rw [bne_iff_ne]; exact htc
              have hz2 : 0 ≤ z2 := by have := HZ2.out.resolve_left htc; omega
              clear htc
              go_wp2_with (fail)
              refine (K2.out _ HI5.out).mono ?_
              rintro e w6 ⟨rfl, ho6⟩
              have HO6 := Lib.hid (HO5.out.trans ho6 (fun _ h _ => h))
              clear ho6 K2
              go_wp2
              go_roundw
              case rel => exact ⟨j + 1, by go_num, by omega, Lib.hid (HONT.out.trans HO6.out (fun _ h _ => h))⟩
              case measure => simp [intOf]; omega
          · obtain rfl : j = m.traps.length := by omega
            have hl1 : (0 : Int) ≤ (l.length : Int) - 1 := by omega
            have hl2 : ((l.length : Int) - 1).toNat = l.length - 1 := by omega
            have hl3 : (l.length : Int) - 1 < (l.length : Int) := by omega
            have hl0 : (0 : Int) < (l.length : Int) := by omega
            obtain ⟨b, o, rfl, x⟩ := Sl.at HIT.out (show l.length - 1 < l.length by omega)
            obtain ⟨x0, x1, x2, x3, x4⟩ := x
            have cf := progFalls (l.getD (l.length - 1) default) wr
            rw [show fallsZ (l.getD (l.length - 1) default).op = false from HLAST.out] at cf
            unfold valI at cf
            generalize l.getD (l.length - 1) default = kl at *
            have CF := Lib.hid cf
            clear hlt hj cf
            go_wp2_with (fail)
            refine CF.out.mono ?_
            rintro e w4 ⟨rfl, ho4⟩
            have HO4 := Lib.hid (HOW.out.trans ho4 (fun _ h _ => h))
            clear ho4 CF
            go_wp2
            go_ret
            exact ⟨rfl, HO4.out.none⟩
  · have he1 : (e0 != 0) = true := by rw [bne_iff_ne]; exact he
    have hz : l.length = 0 := by rw [hls.err he]; rfl
    clear hls
    rw [hz] at *
    go_wp2_with (fail)
    refine (awake7 _).mono ?_
    rintro e w7 ⟨rfl, ho7⟩
    have HO7 := Lib.hid (HON1.out.trans ho7 (fun _ h _ => h))
    clear ho7
    go_wp2
    go_ret
    exact ⟨rfl, HO7.out.none⟩

theorem own : ownKnob Try.prog.godebug = none := by kernel_rfl
theorem laidOut : laidOutB Try.prog = true := by kernel_rfl

set_option maxRecDepth 100000 in
theorem lifted (os : Os) (started : os.Started) (H : Type) (enc : TypeId × Value → H) (FF : Stop.Interp) :
    ReturnsInHanded {} Try.checked os 7 .any ((Rows.OpenSpec.upto Rows.flowRightSpec).pre6 enc Try.prog Try.f7 Rows.flowRightUptoRow.domain false) (((Rows.OpenSpec.upto Rows.flowRightSpec).at FF).post enc Try.prog Try.f7 false true false false) := by
  refine returnsInHanded_of_cond_sized (C := Try.checked) (s := Rows.OpenSpec.upto Rows.flowRightSpec) (k := Rows.uptoSmall) rfl own started (by kernel_rfl) Try.func7
    (OpenSpec.witness (enc := enc) (C := Try.checked) (s := Rows.OpenSpec.upto Rows.flowRightSpec) (k := Rows.uptoSmall) rfl false ⟨#[], #[.agg #[.int .i64 0, .int .i64 0, .int .i64 0, .int .i64 0, .int .i64 0, .slice none 0 0, .slice none 0 0, .slice none 0 0]], []⟩ 8 (by kernel_rfl) (by kernel_rfl) (by kernel_rfl)
      (x := ([.agg [.lit (.int .i64 0), .lit (.int .i64 0), .lit (.int .i64 0), .lit (.int .i64 0), .lit (.int .i64 0), .nil, .nil, .nil]], [], [])) (by kernel_rfl) rfl (by kernel_rfl)) ?_
  intro W base args ds gs before hval0 hW _ hk hsz0 _
  have hsz : (DataW.weightsEach Try.prog (Try.f7.params.toList ++ Rows.flowRightSpec.plain.varTypes Try.prog) (ds ++ gs)).all (· ≤ reachBytes) = true := hsz0
  clear hsz0
  have hval : ∀ (j : Nat) t v, Try.f7.params[j]? = some t → args[j]? = some v → Value.okWide Try.prog W .any base t v := hval0
  have hW' := hW
  obtain ⟨p, q, hA0, hV, rfl, hfz, hnd⟩ := hW
  have hA : DataW.TrodAll enc Try.prog W 0 (fun _ => true) true Try.f7.params.toList args.toList ds p := hA0
  rw [Try.params7] at hA hval hsz
  obtain ⟨v0, vs0, d0, ds0, p0, q0, hargs, rfl, rfl, h0, r0⟩ := trodAll_cons hA
  obtain ⟨rfl, rfl, rfl⟩ := trodAll_nil r0
  obtain rfl : args = #[v0] := by cases args; simp_all
  obtain ⟨rfl, rfl⟩ := trodVars_none hV
  have hb := of_decide_eq_true hk
  simp only [List.cons_append, List.nil_append, Rows.uptoBulkAll] at hb
  have k0 := h0
  have lt0 : ∀ x ∈ p0, x.block < W.heap.size := by obtain ⟨m, hm⟩ := k0; exact DataW.trod_lt m _ _ _ hm
  have w0 := arg_methodB (hval 0 34 v0 rfl rfl) h0 (light_arg (j := 0) hsz rfl rfl) (by omega)
  clear hA0 hval0
  refine (walk v0 W w0).mono fun e W' ⟨he, bel⟩ => ?_
  subst he
  exact ⟨_, rfl, _, _, _, [], _, [], hW', trodAll_mk1 (shut_bool Try.underlying4 _), (trodAll_cons_mk (Below.trod laidOut (by kernel_rfl) (of_decide_eq_true (by kernel_rfl)) k0 bel lt0) trodAll_mk0), rfl, bel.frame _, fun h => by cases h⟩

theorem over : Rows.FlowRightUptoSaid :=
  OpenClaim.holds_of_cond 7 Try.f7 rfl rfl rfl rfl rfl rfl rfl ⟨rfl, rfl, rfl, rfl, rfl⟩ rfl rfl rfl rfl rfl (by kernel_rfl) Try.func7 (by kernel_rfl)
    (of_decide_eq_true (by kernel_rfl)) (by unfold Func.isWrapper; first | (rw [if_pos (by decide +kernel)]; kernel_rfl) | (rw [if_neg (by decide +kernel)]; exact ⟨rfl, rfl⟩))
    (fun os started H enc _ F => lifted os started H enc F)

theorem proved : Rows.FlowRightUptoSaid := over
#print axioms proved
end Go.Proofs.Ytngoajhnnlnphaa.flowRight
