/- PROVED: the law HeapFull: there are at most as many objects as may be; they are numbered as they come. For every input. No condition. -/
import Derived.Test.YtebeoganblcblaaHpV
import Derived.Test.YtebeoganblcblaaHpU
import Derived.ProofKit
import Derived.ShutString
import Derived.ChangeOld
import Derived.Below
import Derived.SizedLaws
import Derived.PinnedBridge
import Derived.Deep.CondSized
import Derived.Deep.RegionHeld3
namespace Go.Proofs.Ytebeoganblcblaa.heapFull
open Go.ChangeShapes Go.WideShapes Go.ChangeAt Go.RowKit
set_option linter.unusedVariables false
set_option linter.unusedSimpArgs false

set_option maxHeartbeats 16000000 in
set_option maxRecDepth 100000 in
theorem walk (a0 a1 : Int) (w : World) (w0 : (Lit.int .u8 a0).wf = true) (w1 : (Lit.int .u16 a1).wf = true) :
    Calls Try.prog 7 #[.int .u8 a0, .int .u16 a1] w fun e w' => e = .returned (.bool true) ∧ Below w.heap.size w w' := by
  have b0 := bounds_u8 w0
  have b1 := bounds_u16 w1
  have AW := Lib.hid awake14
  have hm : a0 ≤ 1024 := by omega
  have C1 := Lib.hid (fun W => progNew14 a0 b0.1 hm W)
  have hw0 : wrap64 a0 = a0 := IntWalk.wrap64_in _ (by omega)
  obtain ⟨N, hN⟩ : ∃ N : Nat, (N : Int) = a1 % 600 := ⟨(a1 % 600).toNat, by omega⟩
  have hN2 : N < 600 := by omega
  have ht : a1.tmod 600 = (N : Int) := by rw [Int.tmod_eq_emod_of_nonneg (by omega), hN]
  have hwN : wrap64 (N : Int) = (N : Int) := IntWalk.wrap64_in _ (by omega)
  obtain ⟨m, hmm⟩ : ∃ m : Nat, (m : Int) = a0 := ⟨a0.toNat, by omega⟩
  have HM := Lib.hid hmm
  have HB0 := Lib.hid b0
  have HN2 := Lib.hid hN2
  clear w0 w1 b0 b1 hm hN hmm hN2
  go_enter Try.func7, Try.ntmps7
  go_wp2_with (fail)
  try rw [hw0]
  refine (C1.out _).mono ?_
  rintro e w1 ⟨p, G, rfl, hp1, ho1, hg1⟩
  have H1 := Lib.hid hp1
  have HO1 := Lib.hid ho1
  have HG1 := Lib.hid hg1
  clear hp1 ho1 hg1 C1
  go_wp2
  go_loopw [7] (fun iv wr => ∃ (j : Nat) (G : Nat → Prop) (os : List ObjV), iv = .int .i64 ((j : Int) + 1) ∧ j ≤ N ∧ Hid (os.length = min j m) ∧ Hid (HeapP wr G p os a0) ∧ Hid (∀ k, G k → w.heap.size ≤ k) ∧ Hid (Only (fun _ => False) w wr)) (fun iv _ => N + 1 - (intOf iv).toNat)
  case atStart => exact ⟨0, _, _, rfl, Nat.zero_le _, Lib.hid (by simp), H1, HG1, HO1⟩
  case round =>
    clear G H1 HO1 HG1
    obtain ⟨j, G, os, rfl, hj, HL, HP, HK, HON⟩ := hrel
    have hn8 := HN2.out
    by_cases hlt : j < N
    · by_cases hlm : j < m
      · as_aux_lemma =>
          have CM := Lib.hid (progMakeR HP.out ⟨4, ⟨#[65]⟩, 0, 0, 0⟩ (.slice none 0 0) [] (Types.nil _) (fun _ _ h => absurd rfl h))
          have hmk : makeZ os a0 ⟨4, ⟨#[65]⟩, 0, 0, 0⟩ [] = (os ++ [⟨⟨4, ⟨#[65]⟩, 0, 0, 0⟩, []⟩], (j : Int) + 1, 0) := by
            have q1 := HL.out
            have q2 := HM.out
            unfold makeZ
            rw [if_neg (by simp), if_neg (by omega), show ((os.length : Int)) = (j : Int) from by omega]
            all_goals rfl
          rw [hmk] at CM
          simp only [valT] at CM
          obtain ⟨os2, hos2⟩ : ∃ os2, os ++ [⟨⟨4, ⟨#[65]⟩, 0, 0, 0⟩, []⟩] = os2 := ⟨_, rfl⟩
          rw [hos2] at CM
          have HL2 := Lib.hid (show os2.length = min (j + 1) m from by have q1 := HL.out; have q2 := HM.out; rw [← hos2]; rw [List.length_append, List.length_singleton]; omega)
          have CA := Lib.hid (fun (W : World) (G2 : Nat → Prop) (hq : HeapP W G2 p os2 a0) => progArrayR hq ⟨5, ⟨#[]⟩, 0, 0, 0⟩ ⟨0, ⟨#[]⟩, 0, 0, 0⟩ 1025)
          simp only [show arrayZ os2 a0 ⟨5, ⟨#[]⟩, 0, 0, 0⟩ ⟨0, ⟨#[]⟩, 0, 0, 0⟩ 1025 = (os2, 0, 140) from by unfold arrayZ; rw [if_neg (by decide), if_pos (.inl (by decide))], valT] at CA
          have CC := Lib.hid (fun (W : World) (G2 : Nat → Prop) (hq : HeapP W G2 p os2 a0) => progCountR hq)
          simp only [show (os2.length : Int) = min ((j : Int) + 1) a0 from by have q1 := HL2.out; have q2 := HM.out; rw [q1]; omega] at CC
          have d1 : decide ((j : Int) + 1 ≤ a0) = true := by have q2 := HM.out; simp only [decide_eq_true_eq]; omega
          have d2 : decide (a0 < (j : Int) + 1) = false := by have q2 := HM.out; simp only [decide_eq_false_iff_not]; omega
          have hjN : (j : Int) + 1 ≤ (N : Int) := by omega
          clear hmk hos2 hlm
          go_wp2_with (fail)
          refine CM.out.mono ?_
          rintro e w2 ⟨rfl, G2, hp2, ho2, hg2⟩
          have HP2 := Lib.hid hp2
          have HO2 := Lib.hid (Only.trans HON.out ho2 (fun k hk hl => by have := HK.out k hk; omega))
          have HG2 := Lib.hid (show ∀ k, G2 k → w.heap.size ≤ k from fun k hk => by rcases hg2 k hk with e | e; exact HK.out k e; have := HON.out.size; omega)
          clear hp2 ho2 hg2
          go_wp2_with (fail)
          refine (CA.out _ _ HP2.out).mono ?_
          rintro e w3 ⟨rfl, G3, hp3, ho3, hg3⟩
          have HP3 := Lib.hid hp3
          have HO3 := Lib.hid (Only.trans HO2.out ho3 (fun k hk hl => by have := HG2.out k hk; omega))
          have HG3 := Lib.hid (show ∀ k, G3 k → w.heap.size ≤ k from fun k hk => by rcases hg3 k hk with e | e; exact HG2.out k e; have := HO2.out.size; omega)
          clear hp3 ho3 hg3
          go_wp2_with (fail)
          refine (CC.out _ _ HP3.out).mono ?_
          rintro e w4 ⟨rfl, ho4⟩
          have HP4 := Lib.hid (HeapP.only HP3.out ho4 (fun _ _ h => h))
          have HO4 := Lib.hid (HO3.out.trans ho4 (fun _ h _ => h))
          clear ho4
          have hn9 := HN2.out
          go_wp2
          go_roundw
          case rel => exact ⟨j + 1, G3, os2, by go_num, by omega, HL2, HP4, HG3, HO4⟩
          case measure => simp [intOf]; omega
      · as_aux_lemma =>
          have CM := Lib.hid (progMakeR HP.out ⟨4, ⟨#[65]⟩, 0, 0, 0⟩ (.slice none 0 0) [] (Types.nil _) (fun _ _ h => absurd rfl h))
          have hmk : makeZ os a0 ⟨4, ⟨#[65]⟩, 0, 0, 0⟩ [] = (os, 0, 140) := by
            have q1 := HL.out
            have q2 := HM.out
            unfold makeZ
            rw [if_neg (by simp), if_pos (by omega)]
            all_goals rfl
          rw [hmk] at CM
          simp only [valT] at CM
          obtain ⟨os2, hos2⟩ : ∃ os2, os = os2 := ⟨_, rfl⟩
          rw [hos2] at CM
          have HL2 := Lib.hid (show os2.length = min (j + 1) m from by have q1 := HL.out; have q2 := HM.out; rw [← hos2]; omega)
          have CA := Lib.hid (fun (W : World) (G2 : Nat → Prop) (hq : HeapP W G2 p os2 a0) => progArrayR hq ⟨5, ⟨#[]⟩, 0, 0, 0⟩ ⟨0, ⟨#[]⟩, 0, 0, 0⟩ 1025)
          simp only [show arrayZ os2 a0 ⟨5, ⟨#[]⟩, 0, 0, 0⟩ ⟨0, ⟨#[]⟩, 0, 0, 0⟩ 1025 = (os2, 0, 140) from by unfold arrayZ; rw [if_neg (by decide), if_pos (.inl (by decide))], valT] at CA
          have CC := Lib.hid (fun (W : World) (G2 : Nat → Prop) (hq : HeapP W G2 p os2 a0) => progCountR hq)
          simp only [show (os2.length : Int) = min ((j : Int) + 1) a0 from by have q1 := HL2.out; have q2 := HM.out; rw [q1]; omega] at CC
          have d1 : decide ((j : Int) + 1 ≤ a0) = false := by have q2 := HM.out; simp only [decide_eq_false_iff_not]; omega
          have d2 : decide (a0 < (j : Int) + 1) = true := by have q2 := HM.out; simp only [decide_eq_true_eq]; omega
          have hjN : (j : Int) + 1 ≤ (N : Int) := by omega
          clear hmk hos2 hlm
          go_wp2_with (fail)
          refine CM.out.mono ?_
          rintro e w2 ⟨rfl, G2, hp2, ho2, hg2⟩
          have HP2 := Lib.hid hp2
          have HO2 := Lib.hid (Only.trans HON.out ho2 (fun k hk hl => by have := HK.out k hk; omega))
          have HG2 := Lib.hid (show ∀ k, G2 k → w.heap.size ≤ k from fun k hk => by rcases hg2 k hk with e | e; exact HK.out k e; have := HON.out.size; omega)
          clear hp2 ho2 hg2
          go_wp2_with (fail)
          refine (CA.out _ _ HP2.out).mono ?_
          rintro e w3 ⟨rfl, G3, hp3, ho3, hg3⟩
          have HP3 := Lib.hid hp3
          have HO3 := Lib.hid (Only.trans HO2.out ho3 (fun k hk hl => by have := HG2.out k hk; omega))
          have HG3 := Lib.hid (show ∀ k, G3 k → w.heap.size ≤ k from fun k hk => by rcases hg3 k hk with e | e; exact HG2.out k e; have := HO2.out.size; omega)
          clear hp3 ho3 hg3
          go_wp2_with (fail)
          refine (CC.out _ _ HP3.out).mono ?_
          rintro e w4 ⟨rfl, ho4⟩
          have HP4 := Lib.hid (HeapP.only HP3.out ho4 (fun _ _ h => h))
          have HO4 := Lib.hid (HO3.out.trans ho4 (fun _ h _ => h))
          clear ho4
          have hn9 := HN2.out
          go_wp2
          go_roundw
          case rel => exact ⟨j + 1, G3, os2, by go_num, by omega, HL2, HP4, HG3, HO4⟩
          case measure => simp [intOf]; omega
    · have hnj : ¬ ((j : Int) + 1 ≤ (N : Int)) := by omega
      clear hlt
      go_wp2_with (fail)
      refine (AW.out _).mono ?_
      rintro e w3 ⟨rfl, h3⟩
      have HO3 := Lib.hid h3
      clear h3
      go_wp2
      go_ret
      exact ⟨rfl, (HON.out.trans HO3.out (fun _ h _ => h)).none⟩

theorem own : ownKnob Try.prog.godebug = none := by kernel_rfl
theorem laidOut : laidOutB Try.prog = true := by kernel_rfl

set_option maxRecDepth 100000 in
theorem lifted (os : Os) (started : os.Started) (H : Type) (enc : TypeId × Value → H) :
    ReturnsInHanded {} Try.checked os 7 .any (Rows.heapFullSpec.pre6 enc Try.prog Try.f7 Rows.heapFullRow.domain false) (Rows.heapFullSpec.post enc Try.prog Try.f7 false true false false) := by
  refine returnsInHanded_of_change_sized (C := Try.checked) own started (by kernel_rfl) Try.func7
    (ChangeSpec.witness6 (enc := enc) (C := Try.checked) false ⟨#[], #[.int .u8 0, .int .u16 0], []⟩ 8 (by kernel_rfl) (by kernel_rfl) (by kernel_rfl) (by kernel_rfl)) ?_
  intro W base args ds gs before hval0 hW hcnd hsz0 _
  have hsz : (DataW.weightsEach Try.prog (Try.f7.params.toList ++ Rows.heapFullSpec.plain.varTypes Try.prog) (ds ++ gs)).all (· ≤ reachBytes) = true := hsz0
  clear hsz0
  have hval : ∀ (j : Nat) t v, Try.f7.params[j]? = some t → args[j]? = some v → Value.okWide Try.prog W .any base t v := hval0
  have hW' := hW
  obtain ⟨p, q, hA0, hV, rfl, hfz, hnd⟩ := hW
  have hA : DataW.TrodAll enc Try.prog W 0 (fun _ => true) true Try.f7.params.toList args.toList ds p := hA0
  rw [Try.params7] at hA hval hsz
  obtain ⟨v0, vs0, d0, ds0, p0, q0, hargs, rfl, rfl, h0, r0⟩ := trodAll_cons hA
  obtain ⟨v1, vs1, d1, ds1, p1, q1, rfl, rfl, rfl, h1, r1⟩ := trodAll_cons r0
  obtain ⟨rfl, rfl, rfl⟩ := trodAll_nil r1
  obtain rfl : args = #[v0, v1] := by cases args; simp_all
  obtain ⟨rfl, rfl⟩ := trodVars_none hV
  obtain ⟨a0, rfl, rfl, rfl, w0⟩ := open_int Try.underlying5 (hval 0 5 v0 rfl rfl) h0
  obtain ⟨a1, rfl, rfl, rfl, w1⟩ := open_int Try.underlying60 (hval 1 60 v1 rfl rfl) h1
  clear hA0 hval0
  refine (walk a0 a1 W w0 w1).mono fun e W' ⟨he, bel⟩ => ?_
  subst he
  exact ⟨_, rfl, _, _, _, [], _, [], hW', trodAll_mk1 (shut_bool Try.underlying4 _), (trodAll_cons_mk (shut_int Try.underlying5 w0) (trodAll_cons_mk (shut_int Try.underlying60 w1) trodAll_mk0)), rfl, bel.frame _, fun h => by cases h⟩

theorem over : Rows.heapFullRow.holds Try.pinned (OpenSpec.ofChange Rows.heapFullSpec) :=
  OpenClaim.holds_of_wide 7 Try.f7 rfl rfl rfl rfl rfl rfl rfl ⟨rfl, rfl, rfl, rfl, rfl⟩ rfl rfl rfl rfl rfl (by kernel_rfl) Try.func7 (by kernel_rfl)
    (of_decide_eq_true (by kernel_rfl)) (by unfold Func.isWrapper; first | (rw [if_pos (by decide +kernel)]; kernel_rfl) | (rw [if_neg (by decide +kernel)]; exact ⟨rfl, rfl⟩))
    (fun os started H enc _ => lifted os started H enc)

theorem proved : Rows.HeapFullSaid := over
#print axioms proved
end Go.Proofs.Ytebeoganblcblaa.heapFull
