/- PROVED: the law SumBack: what is wrapped of any bytes opens, whatever stands behind; cut short anywhere it does not; the arguments read as before. For every input. No condition. -/
import Derived.Test.YtfbkmgjgklkjiaaSumI
import Derived.Test.YtfbkmgjgklkjiaaBig
import Derived.Test.YtfbkmgjgklkjiaaArg
import Derived.ProofKit
import Derived.ShutString
import Derived.ChangeOld
import Derived.Below
import Derived.PinnedBridge
namespace Go.Proofs.Ytfbkmgjgklkjiaa.sumBack
open Go.ChangeShapes Go.WideShapes Go.ChangeAt Go.RowKit
set_option linter.unusedVariables false
set_option linter.unusedSimpArgs false

/-- A list of bytes in at most so many. -/
theorem Bytes.cut {w : World} {ao : Option Addr} {cap : Nat} {zs : List Int} (hb : Bytes w (.slice ao zs.length cap) zs) (k : Nat) (hk : k ≤ zs.length) : ∃ cs, cs.length = k ∧ Bytes w (.slice ao cs.length cap) cs := by
  have h := Bytes.first hb k hk
  have hl : (zs.take k).length = k := by simp; omega
  exact ⟨zs.take k, hl, by rw [hl]; exact h⟩
/-- An owned row that holds something, opened. -/
theorem row_at {w : World} {B : Nat} {v : Value} {ys : List Int} (h : Row w B v ys) (h0 : 0 < ys.length) : ∃ g cap, v = .slice (some ⟨g, 0, none⟩) ys.length cap ∧ B ≤ g ∧ ys.length ≤ cap ∧ cap ≤ maxLen := by
  rcases h.2 with ⟨_, hn⟩ | ⟨g, cap, cur, rfl, hb, _, hnc, hcm, _, _⟩
  · omega
  · exact ⟨g, cap, rfl, hb, hnc, hcm⟩
/-- What is wrapped of a list of so many bytes. -/
theorem wrapped (v : Value) (cs : List Int) (N : Nat) (w : World) (hb : Bytes w v cs) (hz : Bytish cs) (hN : cs.length + 8 = N) (hl : N ≤ 1048576) :
    Calls Try.prog 12 #[v] w fun e w' => ∃ g cap fs, e = .returned (.tuple #[.slice (some ⟨g, 0, none⟩) N cap, .int .i64 0]) ∧ Only (fun _ => False) w w' ∧ Row w' w.heap.size (.slice (some ⟨g, 0, none⟩) N cap) fs ∧ Hid (fs = frame cs ∧ fs.length = N ∧ Bytish fs) ∧ w.heap.size ≤ g ∧ N ≤ cap ∧ cap ≤ 9223372036854775807 := by
  refine (wrapOk v cs w hb (by omega)).mono ?_
  rintro e w1 ⟨v2, rfl, ho1, hr1⟩
  have hfl := frame_len cs
  obtain ⟨g, cap, rfl, hg, h1, h2⟩ := row_at hr1 (by omega)
  have hfN : (frame cs).length = N := by omega
  rw [hfN] at h1 hr1
  rw [hfN]
  unfold maxLen at h2
  exact ⟨g, cap, frame cs, rfl, ho1, hr1, ⟨rfl, hfN, frame_byte hz⟩, hg, h1, h2⟩
/-- Open, where what it answers is known. -/
theorem openAt (v : Value) (fs cs : List Int) (n k : Int) (w : World) (hb : Bytes w v fs) (hl : fs.length ≤ 281474976710656) (ho : openZ fs = (cs, n, k)) :
    Calls Try.prog 14 #[v] w fun e w' => ∃ v', e = .returned (.tuple #[v', .int .i64 n, .int .i64 k]) ∧ Only (fun _ => False) w w' ∧ Row w' w.heap.size v' cs := by
  refine (openOf v fs w hb hl).mono ?_
  rintro e w' ⟨v', rfl, ho1, hr⟩
  rw [ho] at hr ⊢
  exact ⟨v', rfl, ho1, hr⟩

set_option maxHeartbeats 4000000 in
set_option maxRecDepth 100000 in
theorem walk (v0 v1 : Value) (a2 : Int) (w : World) (w0 : ∃ zs, Bytes w v0 zs ∧ zs.length ≤ 140737488351232) (w1 : ∃ zs, Bytes w v1 zs ∧ zs.length ≤ 140737488351232) (w2 : (Lit.int .u8 a2).wf = true) :
    Calls Try.prog 6 #[v0, v1, .int .u8 a2] w fun e w' => e = .returned (.bool true) ∧ Below w.heap.size w w' := by
  obtain ⟨zs, hb, hl⟩ := w0
  obtain ⟨ys, hb1, hl1⟩ := w1
  obtain ⟨i0, hi, hz0, hz1, hz2⟩ := info_parts info_u8
  have ha := bounds_u8 w2
  obtain ⟨ao, cap, rfl, hq1, hq2, hq3, hbz, hcells⟩ := id hb
  obtain ⟨ao1, cap1, rfl, hp1, hp2, hp3, hby, hcells1⟩ := id hb1
  unfold maxLen at hq2 hp2
  have Hb1 := Lib.hid hb1
  obtain ⟨a, rfl⟩ := Int.eq_ofNat_of_zero_le ha.1
  clear hcells hcells1 hq3 hp3 w2 hb1
  by_cases hs : zs.length ≤ 10000
  · have hsz : (zs.length : Int) ≤ 10000 := by omega
    have Hb := Lib.hid hb
    clear hb
    go_enter Try.func6, Try.ntmps6
    go_wp2_with (fail)
    refine (wrapped _ zs (zs.length + 8) w Hb.out hbz rfl (by omega)).mono ?_
    rintro e w1 ⟨g, capf, fs, rfl, ho1, hr1, Hfs, hg, hc1, hc2⟩
    have HsF := Lib.hid (Src.of_bytes (hr1.bytes Hfs.out.2.2))
    go_wp2_with (first | (at_builtin; (refine wpList_append_src rfl (.tmp 36) (.tmp 37) 22 rfl 5 i0 (.int .u8 0) 1 1 Try.underlying22 hi hz0 hz1 hz2 rfl (by decide) w1.heap.size (.slice (some ⟨w1.heap.size, 0, none⟩) 0 0) 0 [] rfl (by exact made0 w1) (by simp) (.slice (some ⟨g, 0, none⟩) (zs.length + 8) capf) fs.length (fs.map (Value.int .u8)) rfl (by exact (HsF.out).alloc _) (by have := Hfs.out.2.1; unfold maxLen; omega) (by have := Hfs.out.2.1; omega) ?_); intro v3 w2 hown hgrow hnew; obtain ⟨hr3, ho3⟩ := Row.copied hown hgrow hnew; clear hown hgrow hnew; obtain ⟨g3, cap3, rfl, hg3, hc31, hc32⟩ := row_at hr3 (by have := Hfs.out.2.1; omega)) | (at_builtin; go_loud (refine wpList_append_big rfl (.tmp 38) (.tmp 39) 22 rfl 5 i0 (.int .u8 0) Try.underlying22 hi hz0 hz1 hz2 rfl w1.heap.size g3 fs.length cap3 (fs.map (Value.int .u8)) rfl (by exact hr3) (by exact ho3.size) (.slice ao1 ys.length cap1) ys.length (ys.map (Value.int .u8)) rfl (by exact Src.of_bytes ((Hb1.out).only (ho1.trans ho3 (fun _ h => h.elim)) (fun _ _ _ h => h))) (by have := Hfs.out.2.1; unfold maxLen; omega) (by have := Hfs.out.2.1; omega) ?_); intro v4 w3 hown hgrow hnew; obtain ⟨hr4, ho4⟩ := Row.push hr3 ho3 hown hgrow (fun k hk => (hnew k hk).imp (fun e => congrArg some e.symm) id); clear hown hgrow hnew))
    have hz4 : Bytish (fs ++ ys) := Hfs.out.2.2.append hby
    have hoz : openZ (fs ++ ys) = (zs, ((zs.length : Int) + 8), 0) := by rw [Hfs.out.1, open_frame (by omega)]
    refine (openAt v4 (fs ++ ys) zs ((zs.length : Int) + 8) 0 w3 (hr4.bytes hz4) (by have := Hfs.out.2.1; simp; omega) hoz).mono ?_
    rintro e w4 ⟨v5, rfl, ho5, hr5⟩
    have hon4 := (ho1.trans ho4 (fun _ h => h.elim)).trans ho5 (fun _ h => h.elim)
    have c5 := conv8 (hr5.bytes hbz)
    have c0 := conv8 ((Hb.out).only hon4 (fun _ _ _ h => h))
    clear hoz hz4 hr5
    have hm := Nat.mod_lt a (show 0 < (zs.length + 8) by omega)
    have hmc : a % (zs.length + 8) ≤ capf := by omega
    have hmz : (a : Int) % ((zs.length : Int) + 8) ≤ (capf : Int) := by have := Int.emod_lt_of_pos (a : Int) (show 0 < ((zs.length : Int) + 8) by omega); omega
    have hm0 : (0 : Int) ≤ (a : Int) % ((zs.length : Int) + 8) := Int.emod_nonneg _ (by omega)
    have hbF : Bytes w4 (.slice (some ⟨g, 0, none⟩) fs.length capf) fs := by
      have h1 := (hr1.bytes Hfs.out.2.2).only (ho4.trans ho5 (fun _ h => h.elim)) (fun _ _ _ h => h)
      have h2 := Hfs.out.2.1
      rw [← h2] at h1
      exact h1
    have hbC := Bytes.first hbF (a % (zs.length + 8)) (by have := Hfs.out.2.1; omega)
    have hoc : openZ (fs.take (a % (zs.length + 8))) = ([], 0, 3) := by rw [Hfs.out.1]; exact open_cut (by omega) _ (by rw [frame_len]; omega)
    have hct := openAt _ (fs.take (a % (zs.length + 8))) [] 0 3 w4 hbC (by have := Hfs.out.2.1; simp; omega) hoc
    clear hbF hbC hoc hr4 hr1 hr3
    go_wp2_with (go_at_call 14; refine hct.mono ?_; rintro e w5 ⟨v6, rfl, ho6, hr6⟩)
    go_ret
    exact ⟨rfl, (hon4.trans ho6 (fun _ h => h.elim)).none⟩
  · obtain ⟨cs, hcl, hbc⟩ := Bytes.cut hb 10000 (by omega)
    have hbz2 : Bytish cs := by obtain ⟨_, _, _, _, _, _, h, _⟩ := hbc; exact h
    have hsz : (10000 : Int) < (zs.length : Int) := by omega
    have hcapz : (10000 : Int) ≤ (cap : Int) := by omega
    rw [hcl] at hbc
    have Hb := Lib.hid hbc
    have Hcl := Lib.hid hcl
    clear hb hbc hcl
    go_enter Try.func6, Try.ntmps6
    go_wp2_with (fail)
    refine (wrapped _ cs 10008 w Hb.out hbz2 (by rw [Hcl.out]) (by omega)).mono ?_
    rintro e w1 ⟨g, capf, fs, rfl, ho1, hr1, Hfs, hg, hc1, hc2⟩
    have HsF := Lib.hid (Src.of_bytes (hr1.bytes Hfs.out.2.2))
    go_wp2_with (first | (at_builtin; (refine wpList_append_src rfl (.tmp 36) (.tmp 37) 22 rfl 5 i0 (.int .u8 0) 1 1 Try.underlying22 hi hz0 hz1 hz2 rfl (by decide) w1.heap.size (.slice (some ⟨w1.heap.size, 0, none⟩) 0 0) 0 [] rfl (by exact made0 w1) (by simp) (.slice (some ⟨g, 0, none⟩) 10008 capf) fs.length (fs.map (Value.int .u8)) rfl (by exact (HsF.out).alloc _) (by have := Hfs.out.2.1; unfold maxLen; omega) (by have := Hfs.out.2.1; omega) ?_); intro v3 w2 hown hgrow hnew; obtain ⟨hr3, ho3⟩ := Row.copied hown hgrow hnew; clear hown hgrow hnew; obtain ⟨g3, cap3, rfl, hg3, hc31, hc32⟩ := row_at hr3 (by have := Hfs.out.2.1; omega)) | (at_builtin; go_loud (refine wpList_append_big rfl (.tmp 38) (.tmp 39) 22 rfl 5 i0 (.int .u8 0) Try.underlying22 hi hz0 hz1 hz2 rfl w1.heap.size g3 fs.length cap3 (fs.map (Value.int .u8)) rfl (by exact hr3) (by exact ho3.size) (.slice ao1 ys.length cap1) ys.length (ys.map (Value.int .u8)) rfl (by exact Src.of_bytes ((Hb1.out).only (ho1.trans ho3 (fun _ h => h.elim)) (fun _ _ _ h => h))) (by have := Hfs.out.2.1; unfold maxLen; omega) (by have := Hfs.out.2.1; omega) ?_); intro v4 w3 hown hgrow hnew; obtain ⟨hr4, ho4⟩ := Row.push hr3 ho3 hown hgrow (fun k hk => (hnew k hk).imp (fun e => congrArg some e.symm) id); clear hown hgrow hnew))
    have hz4 : Bytish (fs ++ ys) := Hfs.out.2.2.append hby
    have hoz : openZ (fs ++ ys) = (cs, 10008, 0) := by rw [Hfs.out.1, open_frame (by rw [Hcl.out]; decide), Hcl.out]; rfl
    refine (openAt v4 (fs ++ ys) cs 10008 0 w3 (hr4.bytes hz4) (by have := Hfs.out.2.1; simp; omega) hoz).mono ?_
    rintro e w4 ⟨v5, rfl, ho5, hr5⟩
    have hon4 := (ho1.trans ho4 (fun _ h => h.elim)).trans ho5 (fun _ h => h.elim)
    have c5 := conv8 (hr5.bytes hbz2)
    have c0 := conv8 ((Hb.out).only hon4 (fun _ _ _ h => h))
    clear hoz hz4 hr5
    have hm := Nat.mod_lt a (show 0 < 10008 by omega)
    have hmc : a % 10008 ≤ capf := by omega
    have hmz : (a : Int) % 10008 ≤ (capf : Int) := by have := Int.emod_lt_of_pos (a : Int) (show 0 < 10008 by omega); omega
    have hm0 : (0 : Int) ≤ (a : Int) % 10008 := Int.emod_nonneg _ (by omega)
    have hbF : Bytes w4 (.slice (some ⟨g, 0, none⟩) fs.length capf) fs := by
      have h1 := (hr1.bytes Hfs.out.2.2).only (ho4.trans ho5 (fun _ h => h.elim)) (fun _ _ _ h => h)
      have h2 := Hfs.out.2.1
      rw [← h2] at h1
      exact h1
    have hbC := Bytes.first hbF (a % 10008) (by have := Hfs.out.2.1; omega)
    have hoc : openZ (fs.take (a % 10008)) = ([], 0, 3) := by rw [Hfs.out.1]; exact open_cut (by rw [Hcl.out]; decide) _ (by rw [frame_len, Hcl.out]; omega)
    have hct := openAt _ (fs.take (a % 10008)) [] 0 3 w4 hbC (by have := Hfs.out.2.1; simp; omega) hoc
    clear hbF hbC hoc hr4 hr1 hr3
    go_wp2_with (go_at_call 14; refine hct.mono ?_; rintro e w5 ⟨v6, rfl, ho6, hr6⟩)
    go_ret
    exact ⟨rfl, (hon4.trans ho6 (fun _ h => h.elim)).none⟩


theorem own : ownKnob Try.prog.godebug = none := by kernel_rfl
theorem laidOut : laidOutB Try.prog = true := by kernel_rfl

set_option maxRecDepth 100000 in
theorem lifted (os : Os) (started : os.Started) (H : Type) (enc : TypeId × Value → H) :
    ReturnsInHanded {} Try.checked os 6 .any (Rows.sumBackSpec.pre6 enc Try.prog Try.f6 Rows.sumBackRow.domain false) (Rows.sumBackSpec.post enc Try.prog Try.f6 false true false false) := by
  refine returnsInHanded_of_change_sized (C := Try.checked) own started (by kernel_rfl) Try.func6
    (ChangeSpec.witness6 (enc := enc) (C := Try.checked) false ⟨#[], #[.slice none 0 0, .slice none 0 0, .int .u8 0], []⟩ 8 (by kernel_rfl) (by kernel_rfl) (by kernel_rfl) (by kernel_rfl)) ?_
  intro W base args ds gs before hval0 hW hcnd hsz0 _
  have hsz : (DataW.weightsEach Try.prog (Try.f6.params.toList ++ Rows.sumBackSpec.plain.varTypes Try.prog) (ds ++ gs)).all (· ≤ reachBytes) = true := hsz0
  clear hsz0
  have hval : ∀ (j : Nat) t v, Try.f6.params[j]? = some t → args[j]? = some v → Value.okWide Try.prog W .any base t v := hval0
  have hW' := hW
  obtain ⟨p, q, hA0, hV, rfl, hfz, hnd⟩ := hW
  have hA : DataW.TrodAll enc Try.prog W 0 (fun _ => true) true Try.f6.params.toList args.toList ds p := hA0
  rw [Try.params6] at hA hval hsz
  obtain ⟨v0, vs0, d0, ds0, p0, q0, hargs, rfl, rfl, h0, r0⟩ := trodAll_cons hA
  obtain ⟨v1, vs1, d1, ds1, p1, q1, rfl, rfl, rfl, h1, r1⟩ := trodAll_cons r0
  obtain ⟨v2, vs2, d2, ds2, p2, q2, rfl, rfl, rfl, h2, r2⟩ := trodAll_cons r1
  obtain ⟨rfl, rfl, rfl⟩ := trodAll_nil r2
  obtain rfl : args = #[v0, v1, v2] := by cases args; simp_all
  obtain ⟨rfl, rfl⟩ := trodVars_none hV
  have k0 := h0
  have lt0 : ∀ x ∈ p0, x.block < W.heap.size := by obtain ⟨m, hm⟩ := k0; exact DataW.trod_lt m _ _ _ hm
  have w0 := arg_bytes (hval 0 22 v0 rfl rfl) h0 (light_arg (j := 0) hsz rfl rfl)
  have k1 := h1
  have lt1 : ∀ x ∈ p1, x.block < W.heap.size := by obtain ⟨m, hm⟩ := k1; exact DataW.trod_lt m _ _ _ hm
  have w1 := arg_bytes (hval 1 22 v1 rfl rfl) h1 (light_arg (j := 1) hsz rfl rfl)
  obtain ⟨a2, rfl, rfl, rfl, w2⟩ := open_int Try.underlying5 (hval 2 5 v2 rfl rfl) h2
  clear hA0 hval0
  refine (walk v0 v1 a2 W w0 w1 w2).mono fun e W' ⟨he, bel⟩ => ?_
  subst he
  exact ⟨_, rfl, _, _, _, [], _, [], hW', trodAll_mk1 (shut_bool Try.underlying4 _), (trodAll_cons_mk (Below.trod laidOut (by kernel_rfl) (of_decide_eq_true (by kernel_rfl)) k0 bel lt0) (trodAll_cons_mk (Below.trod laidOut (by kernel_rfl) (of_decide_eq_true (by kernel_rfl)) k1 bel lt1) (trodAll_cons_mk (shut_int Try.underlying5 w2) trodAll_mk0))), rfl, bel.frame _, fun h => by cases h⟩

theorem over : Rows.sumBackRow.holds Try.pinned (OpenSpec.ofChange Rows.sumBackSpec) :=
  OpenClaim.holds_of_wide 6 Try.f6 rfl rfl rfl rfl rfl rfl rfl ⟨rfl, rfl, rfl, rfl, rfl⟩ rfl rfl rfl rfl rfl (by kernel_rfl) Try.func6 (by kernel_rfl)
    (of_decide_eq_true (by kernel_rfl)) (by unfold Func.isWrapper; first | (rw [if_pos (by decide +kernel)]; kernel_rfl) | (rw [if_neg (by decide +kernel)]; exact ⟨rfl, rfl⟩))
    (fun os started H enc _ => lifted os started H enc)

theorem proved : Rows.SumBackSaid := over
#print axioms proved
end Go.Proofs.Ytfbkmgjgklkjiaa.sumBack
