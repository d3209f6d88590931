/- The program's Check of a class: what the document says. No condition but the form's own reach. -/
import Derived.Test.YtodhdiccfobcfaaDoorClsG
import Derived.Test.YtodhdiccfobcfaaDoorPolN
namespace Go.Proofs.YtodhdiccfobcfaaDoor
open Go.RowKit
set_option linter.unusedVariables false
set_option linter.unusedSimpArgs false

set_option maxHeartbeats 8000000 in
set_option maxRecDepth 100000 in
theorem checkMethodP (v : Value) (cs : List ConstV) (m : MethodV) (vc vt vm : Value) (w : World) (hp : Pool w v cs) (hbare : Bare cs) (hi : Inside w m vc vt vm) :
    Calls Tryd.prog 27 #[v, .agg #[.int .i64 m.flags, .int .i64 m.name, .int .i64 m.desc, .int .i64 m.stack, .int .i64 m.locals, vc, vt, vm]] w (GoIf (MethodP cs m) 50 w) := by
  obtain ⟨ao, cap, rfl, _, _, _, _, _⟩ := id hp
  obtain ⟨hc, ht, hm⟩ := hi
  obtain ⟨ac, cc, rfl, hc1, hc2, _, _, _⟩ := id hc
  obtain ⟨am, cm, rfl, hm1, hm2, _, _, _⟩ := id hm
  obtain ⟨at_, ct, rfl, ht1, ht2⟩ := ht.1.slice
  have cM := fun fl nm ds w' (ho : Only (fun _ => False) w w') => checkMemberP _ cs fl nm ds w' (hp.only ho (fun _ _ h => h))
  have cT := fun t n hn w' (ho : Only (fun _ => False) w w') => checkTrapP _ cs t n hn w' (hp.only ho (fun _ _ h => h))
  have cP := fun s w' (ho : Only (fun _ => False) w w') => progPlace _ cs s w' (hp.only ho (fun _ _ h => h)) hbare
  have HT := Lib.hid ht
  have CM := Lib.hid cM
  have CT := Lib.hid cT
  have CP := Lib.hid cP
  have I1 := Lib.hid (idxZ_pos cs codeT)
  have I2 := Lib.hid (idxZ_pos cs mapsT)
  obtain ⟨fl, nm, ds, st, lo, code, traps, maps⟩ := m
  simp only at *
  unfold maxLen at hc2 hm2
  have hQ : MethodP cs ⟨fl, nm, ds, st, lo, code, traps, maps⟩ = (HeadP cs ⟨fl, nm, ds, st, lo, code, traps, maps⟩ ∧ BodyP cs ⟨fl, nm, ds, st, lo, code, traps, maps⟩ ∧ ∀ t ∈ traps, TrapP cs code.length t) := rfl
  have HQ := Lib.hid hQ
  have hbx := heap_alloc_new w (.cells #[.int .i64 fl, .int .i64 nm, .int .i64 ds, .int .i64 st, .int .i64 lo, .slice ac code.length cc, .slice at_ traps.length ct, .slice am maps.length cm] 39)
  have HBX := Lib.hid hbx
  have HON := Lib.hid ((Only.refl (fun _ => False) w).alloc (.cells #[.int .i64 fl, .int .i64 nm, .int .i64 ds, .int .i64 st, .int .i64 lo, .slice ac code.length cc, .slice at_ traps.length ct, .slice am maps.length cm] 39))
  clear hQ hp hc hm ht cM cT cP hbx hbare
  go_enter Tryd.func27, Tryd.ntmps27
  go_wp2_with (fail)
  refine (CM.out _ _ _ _ HON.out).mono ?_
  rintro e w1 ⟨⟨hmem, rfl⟩ | ⟨hmem, rfl⟩, ho1⟩
  rotate_left
  · refine ⟨rfl, GoIf.no (fun h => hmem ?_) (HON.out.trans ho1 (fun _ h => h.elim))⟩
    rw [HQ.out] at h
    exact ⟨h.1.1, h.1.2.1, h.1.2.2.1⟩
  have hb1 := ho1.heap HBX.out (fun h => h)
  have q3 := cell_blk hb1 3
  have q4 := cell_blk hb1 4
  have q5 := cell_blk hb1 5
  have q6 := cell_blk hb1 6
  simp at q3 q4 q5 q6
  have HB1 := Lib.hid hb1
  have HMEM := Lib.hid hmem
  have HON1 := Lib.hid (HON.out.trans ho1 (fun _ h => h.elim))
  clear ho1 hb1 hmem
  by_cases hgood : (0 ≤ st ∧ st ≤ 64) ∧ (0 ≤ lo ∧ lo ≤ 64) ∧ 1 ≤ (code.length : Int) ∧ (code.length : Int) ≤ 4096
  rotate_left
  · have HG := Lib.hid hgood
    clear hgood
    go_wp2_with (first | (go_at_call 24; refine (mustB _ _).mono ?_; rintro e w' ⟨⟨h, rfl⟩ | ⟨h, rfl⟩, rfl⟩) | (go_at_call 38; refine (isSlotsP _ _).mono ?_; rintro e w' ⟨rfl, rfl⟩))
    all_goals first
      | (refine ⟨rfl, GoIf.no (fun hq => ?_) HON1.out⟩
         rw [HQ.out] at hq
         obtain ⟨⟨_, _, _, h3, h4, h5, h6⟩, ⟨h7, h8, _⟩, _⟩ := hq
         exact HG.out ⟨⟨h3, h4⟩, ⟨h5, h6⟩, by simp only at h7; omega, by simp only at h8; omega⟩)
      | (exfalso
         apply HG.out
         clear HG HQ HON1 HON HMEM CM CT CP I1 I2 HB1 HBX HT
         try simp only [Bool.and_eq_true, decide_eq_true_eq] at *
         first
           | (simp_all; done)
           | (simp_all; omega)
           | omega)
  obtain ⟨⟨s1, s2⟩, ⟨l1, l2⟩, n1, n2⟩ := hgood
  have cS1 := isSlotsP st w1
  have cS2 := isSlotsP lo w1
  rw [decide_eq_true s1, decide_eq_true s2] at cS1
  rw [decide_eq_true l1, decide_eq_true l2] at cS2
  have CS1 := Lib.hid cS1
  have CS2 := Lib.hid cS2
  have HS := Lib.hid (And.intro s1 s2)
  have HL := Lib.hid (And.intro l1 l2)
  clear s1 s2 l1 l2 cS1 cS2
  go_wp2_with (first | (go_at_call 24; refine (mustT _).mono ?_; rintro e w' ⟨rfl, rfl⟩) | (go_at_call 38; first | (refine CS1.out.mono ?_; rintro e w' ⟨rfl, rfl⟩) | (refine CS2.out.mono ?_; rintro e w' ⟨rfl, rfl⟩)))
  go_loopw [37] (fun i wr => ∃ j : Nat, j ≤ traps.length ∧ i = .int .i64 j ∧ (∀ t ∈ traps.take j, TrapP cs code.length t) ∧ Only (fun _ => False) w1 wr) (fun i _ => traps.length - (intOf i).toNat)
  case atStart => exact ⟨0, Nat.zero_le _, rfl, (fun t ht => by simp at ht), Only.refl _ _⟩
  case round =>
    obtain ⟨j, hj, rfl, hall, hwr⟩ := hrel
    have hbr := hwr.heap HB1.out (fun h => h)
    have HBR := Lib.hid hbr
    have q3 := cell_blk hbr 3
    have q4 := cell_blk hbr 4
    have q5 := cell_blk hbr 5
    have q6 := cell_blk hbr 6
    have q7 := cell_blk hbr 7
    simp at q3 q4 q5 q6 q7
    have HALL := Lib.hid hall
    have hon := HON1.out.trans hwr (fun _ h => h.elim)
    have HWR := Lib.hid hwr
    clear hwr hbr hall HB1 HBX
    by_cases hlt : j < traps.length
    · have hjz : (j : Int) < (traps.length : Int) := by omega
      obtain ⟨b, o, e2, hc⟩ := (Traps.only hon HT.out).1.at hlt
      subst e2
      have htr := HT.out.2 _ (getD_mem hlt)
      have HMEM2 := Lib.hid (getD_mem hlt)
      have HTK := Lib.hid (take_snoc hlt)
      obtain ⟨k0, k1, k2, k3⟩ := hc
      obtain ⟨t, ht⟩ : ∃ t, traps.getD j default = t := ⟨_, rfl⟩
      rw [ht] at k0 k1 k2 k3 HMEM2 HTK
      clear ht htr
      obtain ⟨tf, tt, th, ty⟩ := t
      simp only at k0 k1 k2 k3
      have HON := Lib.hid hon
      have q5a : (wr.alloc (.cells #[.int .i64 tf, .int .i64 tt, .int .i64 th, .int .i64 ty] 56)).cell? ⟨w.heap.size, 5, none⟩ = some (.slice ac code.length cc) := ((Only.refl (fun _ => False) wr).alloc _).cell q5 (fun h => h)
      clear hon
      go_wp2_with (fail)
      refine (CT.out ⟨tf, tt, th, ty⟩ code.length (by omega) _ (HON.out.alloc _)).mono ?_
      rintro e w2 ⟨⟨htp, rfl⟩ | ⟨htp, rfl⟩, ho2⟩
      rotate_left
      · refine ⟨rfl, GoIf.no (fun hq => htp ?_) ((HON.out.alloc _).trans ho2 (fun _ h => h.elim))⟩
        rw [HQ.out] at hq
        exact hq.2.2 _ HMEM2.out
      have HTP := Lib.hid htp
      have HO2 := Lib.hid ((HWR.out.alloc _).trans ho2 (fun _ h => h.elim))
      clear ho2 htp
      go_wp2
      go_roundw
      case rel =>
        refine ⟨j + 1, by omega, by go_num, fun t ht => ?_, HO2.out⟩
        rw [HTK.out] at ht
        rcases List.mem_append.1 ht with ht | ht
        · exact HALL.out t ht
        · simp only [List.mem_cons, List.mem_nil_iff, or_false] at ht
          subst ht
          exact HTP.out
      case measure => simp [intOf]; omega
    · have hjn : j = traps.length := by omega
      have hnz : (traps.length : Int) ≤ (j : Int) := by omega
      have HTR := Lib.hid (show ∀ t ∈ traps, TrapP cs code.length t from fun t ht => HALL.out t (by rw [hjn, List.take_of_length_le (Nat.le_refl _)]; exact ht))
      have HON := Lib.hid hon
      clear hlt hjn hon
      have cI1 := CP.out codeT wr HON.out
      have CI1 := Lib.hid cI1
      clear cI1
      by_cases hm : (maps.length : Int) ≤ 4096
      rotate_left
      · have hmz : decide ((maps.length : Int) ≤ 4096) = false := decide_eq_false hm
        go_wp2_with (go_at_call 24; refine (mustF _).mono ?_; rintro e w' ⟨rfl, rfl⟩)
        refine ⟨rfl, GoIf.no (fun hq => ?_) HON.out⟩
        rw [HQ.out] at hq
        have := hq.2.1.2.2.1
        simp only at this
        omega
      go_wp2_with (go_at_call 24; refine (mustT _).mono ?_; rintro e w' ⟨rfl, rfl⟩)
      refine CI1.out.mono ?_
      rintro e w3 ⟨rfl, ho3⟩
      have hb3 := ho3.heap HBR.out (fun h => h)
      have r7 := cell_blk hb3 7
      simp at r7
      have HON3 := Lib.hid (HON.out.trans ho3 (fun _ h => h.elim))
      clear ho3 hb3 CI1
      by_cases hp1 : 0 < idxZ cs codeT
      rotate_left
      · have hpz : decide (0 < idxZ cs codeT) = false := decide_eq_false hp1
        have HP1 := Lib.hid hp1
        clear hp1
        go_wp2_with (go_at_call 24; refine (mustF _).mono ?_; rintro e w' ⟨rfl, rfl⟩)
        refine ⟨rfl, GoIf.no (fun hq => absurd (I1.out.2 ?_) (Int.not_lt.2 HP1.out)) HON3.out⟩
        rw [HQ.out] at hq
        exact hq.2.1.2.2.2.1
      have HP1 := Lib.hid (I1.out.1 hp1)
      have HYES := Lib.hid (fun (h : 0 < maps.length → placeOf cs mapsT ≠ 0) => show MethodP cs ⟨fl, nm, ds, st, lo, code, traps, maps⟩ from
        ⟨⟨HMEM.out.1, HMEM.out.2.1, HMEM.out.2.2, HS.out.1, HS.out.2, HL.out.1, HL.out.2⟩, ⟨show 1 ≤ code.length by omega, show code.length ≤ 4096 by omega, show maps.length ≤ 4096 by omega, HP1.out, h⟩, HTR.out⟩)
      by_cases hm0 : maps = []
      · subst hm0
        go_wp2_with (go_at_call 24; refine (mustT _).mono ?_; rintro e w' ⟨rfl, rfl⟩)
        go_end0
        exact GoIf.yes (HYES.out (fun h => absurd h (by simp))) HON3.out
      have hlp : 0 < maps.length := List.length_pos_iff.2 hm0
      have hmb : ((maps.length : Int) == 0) = false := by simpa using hm0
      have cI2 := CP.out mapsT w3 HON3.out
      have CI2 := Lib.hid cI2
      clear cI2
      go_wp2_with (go_at_call 24; refine (mustT _).mono ?_; rintro e w' ⟨rfl, rfl⟩)
      refine CI2.out.mono ?_
      rintro e w4 ⟨rfl, ho4⟩
      have HON4 := Lib.hid (HON3.out.trans ho4 (fun _ h => h.elim))
      clear ho4 CI2
      by_cases hp2 : 0 < idxZ cs mapsT
      · have HP2 := Lib.hid (I2.out.1 hp2)
        go_wp2_with (go_at_call 24; refine (mustT _).mono ?_; rintro e w' ⟨rfl, rfl⟩)
        go_end0
        exact GoIf.yes (HYES.out (fun _ => HP2.out)) HON4.out
      · have hpz : decide (0 < idxZ cs mapsT) = false := decide_eq_false hp2
        have HP2 := Lib.hid hp2
        clear hp2
        go_wp2_with (go_at_call 24; refine (mustF _).mono ?_; rintro e w' ⟨rfl, rfl⟩)
        refine ⟨rfl, GoIf.no (fun hq => absurd (I2.out.2 ?_) (Int.not_lt.2 HP2.out)) HON4.out⟩
        rw [HQ.out] at hq
        exact hq.2.1.2.2.2.2 hlp
end Go.Proofs.YtodhdiccfobcfaaDoor
