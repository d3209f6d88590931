/- PROVED: the law FlowRow: the instructions of a code stand one behind the other, each is found where it begins, and nothing where none does; the arguments read as before. For every input of at most 1048576 values and letters in all (the second form). -/
import Derived.Test.YtngoajhnnlnphaaFloM
import Derived.Test.YtngoajhnnlnphaaFloP
import Derived.Test.YtngoajhnnlnphaaFloY
import Derived.Test.YtngoajhnnlnphaaFloAw
import Derived.Test.YtngoajhnnlnphaaFloV
import Derived.ProofKit
import Derived.ShutString
import Derived.ChangeOld
import Derived.Below
import Derived.PinnedBridge
import Derived.Deep.CondSized
namespace Go.Proofs.Ytngoajhnnlnphaa.flowRow
open Go.ChangeShapes Go.WideShapes Go.ChangeAt Go.RowKit
set_option linter.unusedVariables false
set_option linter.unusedSimpArgs false

set_option maxHeartbeats 8000000 in
set_option maxRecDepth 100000 in
theorem walk (v0 : Value) (a1 : Int) (w : World) (w0 : ∃ zs, Bytes w v0 zs ∧ zs.length ≤ 1048576) (w1 : (Lit.int .u16 a1).wf = true) :
    Calls Try.prog 6 #[v0, .int .u16 a1] w fun e w' => e = .returned (.bool true) ∧ Below w.heap.size w w' := by
  obtain ⟨zs, hb, hl⟩ := w0
  have hu := bounds_u16 w1
  have c1 := progList v0 zs w hb (by omega)
  obtain ⟨ao, cap, rfl, hq1, hq2, hq3, hbz, hcells⟩ := id hb
  unfold maxLen at hq2
  have C1 := Lib.hid c1
  clear hb hcells hq3 c1 w1
  go_enter Try.func6, Try.ntmps6
  go_wp2_with (fail)
  refine C1.out.mono ?_
  rintro e w2 ⟨v, l, e0, rfl, hls, ho1, hrow⟩
  have hln := hls.short
  have HI := Lib.hid hrow.instrs
  have HON := Lib.hid ho1
  obtain ⟨av, cv, rfl, g1, g2, g3, -⟩ := id hrow.instrs
  clear hrow ho1 C1 g3
  by_cases he : e0 = 0
  · subst he
    have hrun := hls.ok
    have HRUN := Lib.hid hrun
    have hend := hrun.end_
    have HEND := Lib.hid hend
    clear hls hrun hend
    go_wp2
    go_loopw [7, 8] (fun nx i wr => ∃ j : Nat, i = .int .i64 j ∧ nx = .int .i64 (placeZ zs j : Nat) ∧ j ≤ l.length ∧ Hid (Only (fun _ => False) w wr) ∧ Hid (Instrs wr (.slice av l.length cv) l)) (fun _ i _ => l.length - (intOf i).toNat)
    case atStart => exact ⟨0, rfl, rfl, Nat.zero_le _, HON, HI⟩
    case round =>
      obtain ⟨j, rfl, rfl, hj, HONR, HIR⟩ := hrel
      by_cases hlt : j < l.length
      · have hjz : (j : Int) < (l.length : Int) := by omega
        obtain ⟨b, o, rfl, x⟩ := Sl.at HIR.out hlt
        obtain ⟨x0, x1, x2, x3, x4⟩ := x
        obtain ⟨r0, r1, r2, r3, r4⟩ := HRUN.out.row hlt
        have cA := progAt _ l (placeZ zs j : Nat) wr HIR.out (by omega)
        rw [HRUN.out.found hlt] at cA
        have CA := Lib.hid cA
        obtain ⟨pl, hpl⟩ : ∃ pl, pl = placeZ zs j := ⟨_, rfl⟩
        rw [← hpl] at r0 r3 r4 CA ⊢
        obtain ⟨sz, hsz⟩ : ∃ sz, sz = (l.getD j default).size := ⟨_, rfl⟩
        rw [← hsz] at x4 r1 r2 r3
        rw [r0] at x0
        have HR3 := Lib.hid r3
        generalize l.getD j default = k at *
        clear r0 hpl hsz cA r3
        have hnb : ((pl : Int) != (pl : Int)) = false := by simp
        have hs1 : ¬ sz < 1 := by omega
        have hs3 : ¬ 3 < sz := by omega
        have hjj : ((j : Int) != (j : Int)) = false := by simp
        go_wp2_with (fail)
        refine CA.out.mono ?_
        rintro e w3 ⟨rfl, ho3⟩
        have hi3 := HIR.out.only ho3
        have HI3 := Lib.hid hi3
        have HON3 := Lib.hid (HONR.out.trans ho3 (fun _ h _ => h))
        have y4 := ho3.cell x4 (fun h => h)
        clear ho3 CA hi3 x0 x1 x2 x3 x4
        go_wp2
        go_roundw
        case rel => exact ⟨j + 1, by go_num, by rw [HR3.out], by omega, HON3, HI3⟩
        case measure => simp [intOf]; omega
      · obtain rfl : j = l.length := by omega
        rw [HEND.out] at *
        have hnlt : ¬ (l.length : Int) < (l.length : Int) := by omega
        obtain ⟨h1, h2, h3⟩ := atZ_range l a1
        have cA := progAt _ l a1 wr HIR.out (by omega)
        obtain ⟨z, hz⟩ : ∃ z, z = atZ l a1 := ⟨_, rfl⟩
        rw [← hz] at h1 h2 h3 cA
        have CA := Lib.hid cA
        clear hz cA hlt hj
        by_cases hneg : z < 0
        · have HN := Lib.hid hneg
          clear h3
          go_wp2_with (fail)
          refine CA.out.mono ?_
          rintro e w3 ⟨rfl, ho3⟩
          have HON3 := Lib.hid (HONR.out.trans ho3 (fun _ h _ => h))
          clear ho3 CA
          go_wp2_with (fail)
          refine (awake7 _).mono ?_
          rintro e w7 ⟨rfl, ho7⟩
          have HO7 := Lib.hid (HON3.out.trans ho7 (fun _ h _ => h))
          clear ho7
          go_wp2
          go_ret
          exact ⟨rfl, HO7.out.none⟩
        · obtain ⟨q, rfl⟩ : ∃ q : Nat, z = q := ⟨z.toNat, by omega⟩
          have hq : q < l.length := by omega
          obtain ⟨b, o, rfl, x⟩ := Sl.at HIR.out hq
          have x0 := x.c0
          rw [show (l.getD q default).at_ = a1 by have := h3 (by omega); simpa using this] at x0
          clear h3 x h1
          go_wp2_with (fail)
          refine CA.out.mono ?_
          rintro e w3 ⟨rfl, ho3⟩
          have y0 := ho3.cell x0 (fun h => h)
          have HON3 := Lib.hid (HONR.out.trans ho3 (fun _ h _ => h))
          clear ho3 CA x0
          go_wp2_with (fail)
          refine (awake7 _).mono ?_
          rintro e w7 ⟨rfl, ho7⟩
          have HO7 := Lib.hid (HON3.out.trans ho7 (fun _ h _ => h))
          clear ho7
          go_wp2
          go_ret
          exact ⟨rfl, HO7.out.none⟩
  · have he1 : (e0 != 0) = true := by rw [bne_iff_ne]; exact he
    have hz : l.length = 0 := by rw [hls.err he]; rfl
    clear hls
    rw [hz] at *
    go_wp2_with (fail)
    refine (awake7 _).mono ?_
    rintro e w7 ⟨rfl, ho7⟩
    have HO7 := Lib.hid (HON.out.trans ho7 (fun _ h _ => h))
    clear ho7
    go_wp2
    go_ret
    exact ⟨rfl, HO7.out.none⟩

theorem own : ownKnob Try.prog.godebug = none := by kernel_rfl
theorem laidOut : laidOutB Try.prog = true := by kernel_rfl

set_option maxRecDepth 100000 in
theorem lifted (os : Os) (started : os.Started) (H : Type) (enc : TypeId × Value → H) (FF : Stop.Interp) :
    ReturnsInHanded {} Try.checked os 6 .any ((Rows.OpenSpec.upto Rows.flowRowSpec).pre6 enc Try.prog Try.f6 Rows.flowRowUptoRow.domain false) (((Rows.OpenSpec.upto Rows.flowRowSpec).at FF).post enc Try.prog Try.f6 false true false false) := by
  refine returnsInHanded_of_cond_sized (C := Try.checked) (s := Rows.OpenSpec.upto Rows.flowRowSpec) (k := Rows.uptoSmall) rfl own started (by kernel_rfl) Try.func6
    (OpenSpec.witness (enc := enc) (C := Try.checked) (s := Rows.OpenSpec.upto Rows.flowRowSpec) (k := Rows.uptoSmall) rfl false ⟨#[], #[.slice none 0 0, .int .u16 0], []⟩ 8 (by kernel_rfl) (by kernel_rfl) (by kernel_rfl)
      (x := ([.nil, .lit (.int .u16 0)], [], [])) (by kernel_rfl) rfl (by kernel_rfl)) ?_
  intro W base args ds gs before hval0 hW _ hk hsz0 _
  have hsz : (DataW.weightsEach Try.prog (Try.f6.params.toList ++ Rows.flowRowSpec.plain.varTypes Try.prog) (ds ++ gs)).all (· ≤ reachBytes) = true := hsz0
  clear hsz0
  have hval : ∀ (j : Nat) t v, Try.f6.params[j]? = some t → args[j]? = some v → Value.okWide Try.prog W .any base t v := hval0
  have hW' := hW
  obtain ⟨p, q, hA0, hV, rfl, hfz, hnd⟩ := hW
  have hA : DataW.TrodAll enc Try.prog W 0 (fun _ => true) true Try.f6.params.toList args.toList ds p := hA0
  rw [Try.params6] at hA hval hsz
  obtain ⟨v0, vs0, d0, ds0, p0, q0, hargs, rfl, rfl, h0, r0⟩ := trodAll_cons hA
  obtain ⟨v1, vs1, d1, ds1, p1, q1, rfl, rfl, rfl, h1, r1⟩ := trodAll_cons r0
  obtain ⟨rfl, rfl, rfl⟩ := trodAll_nil r1
  obtain rfl : args = #[v0, v1] := by cases args; simp_all
  obtain ⟨rfl, rfl⟩ := trodVars_none hV
  have hb := of_decide_eq_true hk
  simp only [List.cons_append, List.nil_append, Rows.uptoBulkAll] at hb
  have k0 := h0
  have lt0 : ∀ x ∈ p0, x.block < W.heap.size := by obtain ⟨m, hm⟩ := k0; exact DataW.trod_lt m _ _ _ hm
  have w0 := arg_bytesB (hval 0 22 v0 rfl rfl) h0 (light_arg (j := 0) hsz rfl rfl) (by omega)
  obtain ⟨a1, rfl, rfl, rfl, w1⟩ := open_int Try.underlying45 (hval 1 45 v1 rfl rfl) h1
  clear hA0 hval0
  refine (walk v0 a1 W w0 w1).mono fun e W' ⟨he, bel⟩ => ?_
  subst he
  exact ⟨_, rfl, _, _, _, [], _, [], hW', trodAll_mk1 (shut_bool Try.underlying4 _), (trodAll_cons_mk (Below.trod laidOut (by kernel_rfl) (of_decide_eq_true (by kernel_rfl)) k0 bel lt0) (trodAll_cons_mk (shut_int Try.underlying45 w1) trodAll_mk0)), rfl, bel.frame _, fun h => by cases h⟩

theorem over : Rows.FlowRowUptoSaid :=
  OpenClaim.holds_of_cond 6 Try.f6 rfl rfl rfl rfl rfl rfl rfl ⟨rfl, rfl, rfl, rfl, rfl⟩ rfl rfl rfl rfl rfl (by kernel_rfl) Try.func6 (by kernel_rfl)
    (of_decide_eq_true (by kernel_rfl)) (by unfold Func.isWrapper; first | (rw [if_pos (by decide +kernel)]; kernel_rfl) | (rw [if_neg (by decide +kernel)]; exact ⟨rfl, rfl⟩))
    (fun os started H enc _ F => lifted os started H enc F)

theorem proved : Rows.FlowRowUptoSaid := over
#print axioms proved
end Go.Proofs.Ytngoajhnnlnphaa.flowRow
