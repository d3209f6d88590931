import Derived.Test.YtemplkpcckmcoaaGreatDoorMkPolXClsB
import Derived.Test.YtemplkpcckmcoaaGreatDoorMkLpUPolZ
import Derived.Test.YtemplkpcckmcoaaGreatDoorMkPrsClsG
namespace Go.Proofs.YtemplkpcckmcoaaGreatDoor
set_option maxHeartbeats 8000000
open Lib (hid)
open Go.RowKit Go.Shelf
set_option linter.unusedVariables false
set_option linter.unusedSimpArgs false
def ErrOf (k : Int) (v : Value) : Prop := (k = 0 ∧ v = .nilIface) ∨ (k ≠ 0 ∧ ∃ p : Int, v = .iface 183 (.agg #[.int .i64 p, .int .i64 k]))
theorem ErrOf.some {k p : Int} (h : k ≠ 0) : ErrOf k (.iface 183 (.agg #[.int .i64 p, .int .i64 k])) := .inr ⟨h, p, rfl⟩
theorem ErrOf.none : ErrOf 0 .nilIface := .inl ⟨rfl, rfl⟩
theorem whichOf (k : Int) (v : Value) (w : World) (h : ErrOf k v) (hg : ErrV w) :
    Calls Tryz.prog 98 #[v] w fun e w' => e = .returned (.int .i64 k) ∧ Only (fun _ => False) w w' := by
  rcases h with ⟨rfl, rfl⟩ | ⟨_, p, rfl⟩
  · exact whichNil w
  · exact whichFault p k w hg
theorem countLong (n : Int) (w : World) (h : 1024 < n) :
    Calls Tryz.prog 121 #[.int .i64 n] w fun e w' => e = .returned (.iface 183 (.agg #[.int .i64 1024, .int .i64 2])) ∧ w = w' := by
  go_enter Tryz.func121, Tryz.ntmps121
  go_wp2
  go_ret
  exact ⟨rfl, rfl⟩
theorem countZero (w : World) :
    Calls Tryz.prog 121 #[.int .i64 0] w fun e w' => e = .returned (.iface 183 (.agg #[.int .i64 0, .int .i64 40])) ∧ w = w' := by
  go_enter Tryz.func121, Tryz.ntmps121
  go_wp2
  go_ret
  exact ⟨rfl, rfl⟩
theorem countOk (n : Int) (w : World) (h1 : n ≤ 1024) (h0 : 1 ≤ n) :
    Calls Tryz.prog 121 #[.int .i64 n] w fun e w' => e = .returned .nilIface ∧ w = w' := by
  have hb : (n == 0) = false := by simp only [beq_eq_false_iff_ne]; omega
  go_enter Tryz.func121, Tryz.ntmps121
  go_wp2
  go_ret
  exact ⟨rfl, rfl⟩
def LookTo (w : World) (k : Int) (e : Ending) (w' : World) : Prop := ∃ v, e = .returned v ∧ ErrOf k v ∧ Only (fun _ => False) w w'
theorem progPool (v : Value) (cs : List ConstV) (w : World) (hp : Pool w v cs) (hT : Tabs w) :
    Calls Tryz.prog 99 #[v] w (LookTo w (checkZ cs)) := by
  obtain ⟨ao, cap, rfl, h1, h2, h3, h4, h5⟩ := id hp
  have Hp := hid hp
  have HT := hid hT
  clear h3 h4 h5 hp hT
  by_cases hl : 1024 < cs.length
  · have hc : checkZ cs = 2 := by unfold checkZ; rw [if_pos hl]
    rw [hc]
    clear hc
    go_enter Tryz.func99, Tryz.ntmps99
    go_wp2_with (go_at_call 121; refine (countLong _ _ (by omega)).mono ?_; rintro e w' ⟨rfl, rfl⟩)
    go_ret
    exact ⟨_, rfl, ErrOf.some (by decide), Only.refl _ _⟩
  by_cases hz : cs = []
  · have hc : checkZ cs = 40 := by unfold checkZ; rw [if_neg hl, if_pos (.inl hz)]
    have h0 : cs.length = 0 := by rw [hz]; rfl
    rw [hc]
    clear hz hc
    go_enter Tryz.func99, Tryz.ntmps99
    go_wp2_with (go_at_call 121; refine (countZero _).mono ?_; rintro e w' ⟨rfl, rfl⟩)
    go_ret
    exact ⟨_, rfl, ErrOf.some (by decide), Only.refl _ _⟩
  have h0 : 0 < cs.length := List.length_pos_iff.2 hz
  obtain ⟨b, o, rfl, hc⟩ := Pool.at Hp.out h0
  obtain ⟨g0, g1, g2, g3, g4⟩ := hc
  simp only [Nat.zero_mul, Nat.add_zero] at g0 g1 g2 g3 g4
  have h0z : (0 : Int) < (cs.length : Int) := by omega
  obtain ⟨c, hc⟩ : ∃ c, cs.getD 0 default = c := ⟨_, rfl⟩
  rw [hc] at g0 g1 g2 g3 g4
  obtain ⟨t, x, n, a, bb⟩ := c
  simp only at g0 g1 g2 g3 g4
  have Hc0 := hid hc
  have Hz := hid hz
  have cC := fun w => countOk (cs.length : Int) w (by omega) (by omega)
  clear hc hz
  by_cases hzero : t = 0 ∧ x.toList = [] ∧ n = 0 ∧ a = 0 ∧ bb = 0
  · obtain ⟨rfl, hx, rfl, rfl, rfl⟩ := hzero
    have hx' : x = ⟨#[]⟩ := by rw [empty_text]; exact hx
    subst hx'
    have hR : checkZ cs = errs cs (cs.drop 1) := by
      unfold checkZ
      rw [if_neg hl, if_neg (fun h => h.elim Hz.out (fun h => h (Hc0.out)))]
    obtain ⟨R, hRR⟩ : ∃ R, errs cs (cs.drop 1) = R := ⟨_, rfl⟩
    rw [hRR] at hR
    rw [hR]
    have HRR := hid hRR
    clear hR hRR hx hl
    go_enter Tryz.func99, Tryz.ntmps99
    go_wp2_with (go_at_call 121; refine (cC _).mono ?_; rintro e w' ⟨rfl, rfl⟩)
    go_loopw [4] (fun i wr => ∃ j : Nat, 1 ≤ j ∧ j ≤ cs.length ∧ i = .int .i64 j ∧ errs cs (cs.drop j) = R ∧ Only (fun _ => False) w wr) (fun i _ => cs.length - (intOf i).toNat)
    case atStart => exact ⟨1, Nat.le_refl _, h0, rfl, HRR.out, Only.refl _ _⟩
    case round =>
      obtain ⟨j, hj1, hj, rfl, he, hon⟩ := hrel
      clear g0 g1 g2 g3 g4 cC
      by_cases hlt : j < cs.length
      · have hstep : errs cs (cs.drop j) = errs cs (cs.getD j default :: cs.drop (j + 1)) := by
          rw [List.drop_eq_getElem_cons hlt]
          simp [List.getD, hlt]
        have hjz : (j : Int) < (cs.length : Int) := by omega
        have hpw := (Hp.out).only hon (fun _ _ h => h)
        have htw := (HT.out).only hon (fun h => h) (fun h => h)
        have hr := hpw.range hlt
        obtain ⟨b', o', e2, hc⟩ := Pool.at hpw hlt
        injection e2 with e2
        injection e2 with e2 e3
        subst e2 e3
        obtain ⟨k0, k1, k2, k3, k4⟩ := hc
        rw [hstep] at he
        have He := hid he
        have cK := progConst _ cs (cs.getD j default) wr hpw hr htw
        have hr0 := hr.r0
        clear hstep he hpw htw hr
        generalize cs.getD j default = c at *
        obtain ⟨t, x, n, a, bb⟩ := c
        simp only at *
        go_wp2_with (fail)
        refine cK.mono ?_
        rintro e w2 ⟨rfl, ho2⟩
        have hon2 := hon.trans ho2 (fun _ h => h.elim)
        clear ho2 hon cK
        obtain ⟨q, hq⟩ : ∃ q, oneZ cs ⟨t, x, n, a, bb⟩ = q := ⟨_, rfl⟩
        rw [hq]
        have he2 := He.out
        unfold errs at he2
        rw [hq] at he2
        clear hq
        by_cases hq0 : q = 0
        · subst hq0
          rw [if_neg (by simp)] at he2
          have He2 := hid he2
          clear he2
          go_wp2
          go_roundw
          case rel => exact ⟨j + 1, by omega, by omega, by go_num, He2.out, hon2⟩
          case measure => simp [intOf]; omega
        · rw [if_pos hq0] at he2
          have He2 := hid he2
          have hqb : (q == 0) = false := by simpa using hq0
          have hqc : (q != 0) = true := by simpa using hq0
          clear he2
          go_wp2
          go_ret
          exact ⟨_, rfl, by rw [← He2.out]; exact ErrOf.some hq0, hon2⟩
      · have hjn : j = cs.length := by omega
        subst hjn
        rw [List.drop_length] at he
        have he2 : (0 : Int) = R := he
        have He := hid he2
        clear he he2
        go_wp2
        go_ret
        exact ⟨_, rfl, by rw [← He.out]; exact ErrOf.none, hon⟩
  · have hR : checkZ cs = 40 := by
      unfold checkZ
      rw [if_neg hl, if_pos (.inr (fun h => hzero (by rw [Hc0.out] at h; injection h with e1 e2 e3 e4 e5; exact ⟨e1, by rw [← empty_text]; exact e2, e3, e4, e5⟩)))]
    rw [hR]
    clear hR
    go_enter Tryz.func99, Tryz.ntmps99
    go_wp2_with (go_at_call 121; refine (cC _).mono ?_; rintro e w' ⟨rfl, rfl⟩)
    all_goals first | go_ret | skip
    all_goals first | exact ⟨_, rfl, ErrOf.some (by decide), Only.refl _ _⟩ | (exfalso; apply hzero; simp_all; done)
theorem progCheck (v : Value) (cs : List ConstV) (w : World) (hp : Pool w v cs) (hT : Tabs w) (hg : ErrV w) :
    Calls Tryz.prog 68 #[v] w fun e w' => e = .returned (.int .i64 (checkZ cs)) ∧ Only (fun _ => False) w w' := by
  have cP := progPool v cs w hp hT
  obtain ⟨ao, cap, rfl, _, _, _, _, _⟩ := id hp
  have HG := hid hg
  clear hp hT hg
  generalize checkZ cs = k at *
  go_enter Tryz.func68, Tryz.ntmps68
  go_wp2_with (fail)
  refine cP.mono ?_
  rintro e w1 ⟨ve, rfl, hve, ho1⟩
  have cW := whichOf k ve w1 hve (HG.out.only ho1 (fun h => h))
  have Ho1 := hid ho1
  clear hve ho1 cP
  go_wp2_with (fail)
  refine cW.mono ?_
  rintro e w2 ⟨rfl, ho2⟩
  clear cW
  go_wp2
  go_ret
  exact ⟨rfl, Ho1.out.trans ho2 (fun _ h => h.elim)⟩
end Go.Proofs.YtemplkpcckmcoaaGreatDoor
namespace Go.Proofs.YtemplkpcckmcoaaGreatDoor
set_option maxHeartbeats 8000000
open Lib (hid)
open Go.RowKit
set_option linter.unusedVariables false
set_option linter.unusedSimpArgs false
set_option maxRecDepth 100000 in
theorem checkMethodP (v : Value) (cs : List ConstV) (m : MethodV) (vc vt vm : Value) (w : World) (hp : Pool w v cs) (hbare : Bare cs) (hi : Inside w m vc vt vm) :
    Calls Tryz.prog 73 #[v, .agg #[.int .i64 m.flags, .int .i64 m.name, .int .i64 m.desc, .int .i64 m.stack, .int .i64 m.locals, vc, vt, vm]] w (GoIf (MethodP cs m) 50 w) := by
  obtain ⟨ao, cap, rfl, _, _, _, _, _⟩ := id hp
  obtain ⟨hc, ht, hm⟩ := hi
  obtain ⟨ac, cc, rfl, hc1, hc2, _, _, _⟩ := id hc
  obtain ⟨am, cm, rfl, hm1, hm2, _, _, _⟩ := id hm
  obtain ⟨at_, ct, rfl, ht1, ht2⟩ := ht.1.slice
  have cM := fun fl nm ds w' (ho : Only (fun _ => False) w w') => checkMemberP _ cs fl nm ds w' (hp.only ho (fun _ _ h => h))
  have cT := fun t n hn w' (ho : Only (fun _ => False) w w') => checkTrapP _ cs t n hn w' (hp.only ho (fun _ _ h => h))
  have cP := fun s w' (ho : Only (fun _ => False) w w') => progPlace _ cs s w' (hp.only ho (fun _ _ h => h)) hbare
  have HT := hid ht
  have CM := hid cM
  have CT := hid cT
  have CP := hid cP
  have I1 := hid (idxZ_pos cs codeT)
  have I2 := hid (idxZ_pos cs mapsT)
  obtain ⟨fl, nm, ds, st, lo, code, traps, maps⟩ := m
  simp only at *
  unfold maxLen at hc2 hm2
  have hQ : MethodP cs ⟨fl, nm, ds, st, lo, code, traps, maps⟩ = (HeadP cs ⟨fl, nm, ds, st, lo, code, traps, maps⟩ ∧ BodyP cs ⟨fl, nm, ds, st, lo, code, traps, maps⟩ ∧ ∀ t ∈ traps, TrapP cs code.length t) := rfl
  have HQ := hid hQ
  have hbx := heap_alloc_new w (.cells #[.int .i64 fl, .int .i64 nm, .int .i64 ds, .int .i64 st, .int .i64 lo, .slice ac code.length cc, .slice at_ traps.length ct, .slice am maps.length cm] 79)
  have HBX := hid hbx
  have HON := hid ((Only.refl (fun _ => False) w).alloc (.cells #[.int .i64 fl, .int .i64 nm, .int .i64 ds, .int .i64 st, .int .i64 lo, .slice ac code.length cc, .slice at_ traps.length ct, .slice am maps.length cm] 79))
  clear hQ hp hc hm ht cM cT cP hbx hbare
  go_enter Tryz.func73, Tryz.ntmps73
  go_wp2_with (fail)
  refine (CM.out _ _ _ _ HON.out).mono ?_
  rintro e w1 ⟨⟨hmem, rfl⟩ | ⟨hmem, rfl⟩, ho1⟩
  rotate_left
  · refine ⟨rfl, GoIf.no (fun h => hmem ?_) (HON.out.trans ho1 (fun _ h => h.elim))⟩
    rw [HQ.out] at h
    exact ⟨h.1.1, h.1.2.1, h.1.2.2.1⟩
  have hb1 := ho1.heap HBX.out (fun h => h)
  have q3 := cell_blk hb1 3
  have q4 := cell_blk hb1 4
  have q5 := cell_blk hb1 5
  have q6 := cell_blk hb1 6
  simp at q3 q4 q5 q6
  have HB1 := hid hb1
  have HMEM := hid hmem
  have HON1 := hid (HON.out.trans ho1 (fun _ h => h.elim))
  clear ho1 hb1 hmem
  by_cases hgood : (0 ≤ st ∧ st ≤ 64) ∧ (0 ≤ lo ∧ lo ≤ 64) ∧ 1 ≤ (code.length : Int) ∧ (code.length : Int) ≤ 4096
  rotate_left
  · have HG := hid hgood
    clear hgood
    go_wp2_with (first | (go_at_call 70; refine (mustB _ _).mono ?_; rintro e w' ⟨⟨h, rfl⟩ | ⟨h, rfl⟩, rfl⟩) | (go_at_call 102; refine (isSlotsP _ _).mono ?_; rintro e w' ⟨rfl, rfl⟩))
    all_goals first
      | (refine ⟨rfl, GoIf.no (fun hq => ?_) HON1.out⟩
         rw [HQ.out] at hq
         obtain ⟨⟨_, _, _, h3, h4, h5, h6⟩, ⟨h7, h8, _⟩, _⟩ := hq
         exact HG.out ⟨⟨h3, h4⟩, ⟨h5, h6⟩, by simp only at h7; omega, by simp only at h8; omega⟩)
      | (exfalso
         apply HG.out
         clear HG HQ HON1 HON HMEM CM CT CP I1 I2 HB1 HBX HT
         try simp only [Bool.and_eq_true, decide_eq_true_eq] at *
         first
           | (simp_all; done)
           | (simp_all; omega)
           | omega)
  obtain ⟨⟨s1, s2⟩, ⟨l1, l2⟩, n1, n2⟩ := hgood
  have cS1 := isSlotsP st w1
  have cS2 := isSlotsP lo w1
  rw [decide_eq_true s1, decide_eq_true s2] at cS1
  rw [decide_eq_true l1, decide_eq_true l2] at cS2
  have CS1 := hid cS1
  have CS2 := hid cS2
  have HS := hid (And.intro s1 s2)
  have HL := hid (And.intro l1 l2)
  clear s1 s2 l1 l2 cS1 cS2
  go_wp2_with (first | (go_at_call 70; refine (mustT _).mono ?_; rintro e w' ⟨rfl, rfl⟩) | (go_at_call 102; first | (refine CS1.out.mono ?_; rintro e w' ⟨rfl, rfl⟩) | (refine CS2.out.mono ?_; rintro e w' ⟨rfl, rfl⟩)))
  go_loopw [37] (fun i wr => ∃ j : Nat, j ≤ traps.length ∧ i = .int .i64 j ∧ (∀ t ∈ traps.take j, TrapP cs code.length t) ∧ Only (fun _ => False) w1 wr) (fun i _ => traps.length - (intOf i).toNat)
  case atStart => exact ⟨0, Nat.zero_le _, rfl, (fun t ht => by simp at ht), Only.refl _ _⟩
  case round =>
    obtain ⟨j, hj, rfl, hall, hwr⟩ := hrel
    have hbr := hwr.heap HB1.out (fun h => h)
    have HBR := hid hbr
    have q3 := cell_blk hbr 3
    have q4 := cell_blk hbr 4
    have q5 := cell_blk hbr 5
    have q6 := cell_blk hbr 6
    have q7 := cell_blk hbr 7
    simp at q3 q4 q5 q6 q7
    have HALL := hid hall
    have hon := HON1.out.trans hwr (fun _ h => h.elim)
    have HWR := hid hwr
    clear hwr hbr hall HB1 HBX
    by_cases hlt : j < traps.length
    · have hjz : (j : Int) < (traps.length : Int) := by omega
      obtain ⟨b, o, e2, hc⟩ := (Traps.only hon HT.out).1.at hlt
      subst e2
      have htr := HT.out.2 _ (getD_mem hlt)
      have HMEM2 := hid (getD_mem hlt)
      have HTK := hid (take_snoc hlt)
      obtain ⟨k0, k1, k2, k3⟩ := hc
      obtain ⟨t, ht⟩ : ∃ t, traps.getD j default = t := ⟨_, rfl⟩
      rw [ht] at k0 k1 k2 k3 HMEM2 HTK
      clear ht htr
      obtain ⟨tf, tt, th, ty⟩ := t
      simp only at k0 k1 k2 k3
      have HON := hid hon
      have q5a : (wr.alloc (.cells #[.int .i64 tf, .int .i64 tt, .int .i64 th, .int .i64 ty] 149)).cell? ⟨w.heap.size, 5, none⟩ = some (.slice ac code.length cc) := ((Only.refl (fun _ => False) wr).alloc _).cell q5 (fun h => h)
      clear hon
      go_wp2_with (fail)
      refine (CT.out ⟨tf, tt, th, ty⟩ code.length (by omega) _ (HON.out.alloc _)).mono ?_
      rintro e w2 ⟨⟨htp, rfl⟩ | ⟨htp, rfl⟩, ho2⟩
      rotate_left
      · refine ⟨rfl, GoIf.no (fun hq => htp ?_) ((HON.out.alloc _).trans ho2 (fun _ h => h.elim))⟩
        rw [HQ.out] at hq
        exact hq.2.2 _ HMEM2.out
      have HTP := hid htp
      have HO2 := hid ((HWR.out.alloc _).trans ho2 (fun _ h => h.elim))
      clear ho2 htp
      go_wp2
      go_roundw
      case rel =>
        refine ⟨j + 1, by omega, by go_num, fun t ht => ?_, HO2.out⟩
        rw [HTK.out] at ht
        rcases List.mem_append.1 ht with ht | ht
        · exact HALL.out t ht
        · simp only [List.mem_cons, List.mem_nil_iff, or_false] at ht
          subst ht
          exact HTP.out
      case measure => simp [intOf]; omega
    · have hjn : j = traps.length := by omega
      have hnz : (traps.length : Int) ≤ (j : Int) := by omega
      have HTR := hid (show ∀ t ∈ traps, TrapP cs code.length t from fun t ht => HALL.out t (by rw [hjn, List.take_of_length_le (Nat.le_refl _)]; exact ht))
      have HON := hid hon
      clear hlt hjn hon
      have cI1 := CP.out codeT wr HON.out
      have CI1 := hid cI1
      clear cI1
      by_cases hm : (maps.length : Int) ≤ 4096
      rotate_left
      · have hmz : decide ((maps.length : Int) ≤ 4096) = false := decide_eq_false hm
        go_wp2_with (go_at_call 70; refine (mustF _).mono ?_; rintro e w' ⟨rfl, rfl⟩)
        refine ⟨rfl, GoIf.no (fun hq => ?_) HON.out⟩
        rw [HQ.out] at hq
        have := hq.2.1.2.2.1
        simp only at this
        omega
      go_wp2_with (go_at_call 70; refine (mustT _).mono ?_; rintro e w' ⟨rfl, rfl⟩)
      refine CI1.out.mono ?_
      rintro e w3 ⟨rfl, ho3⟩
      have hb3 := ho3.heap HBR.out (fun h => h)
      have r7 := cell_blk hb3 7
      simp at r7
      have HON3 := hid (HON.out.trans ho3 (fun _ h => h.elim))
      clear ho3 hb3 CI1
      by_cases hp1 : 0 < idxZ cs codeT
      rotate_left
      · have hpz : decide (0 < idxZ cs codeT) = false := decide_eq_false hp1
        have HP1 := hid hp1
        clear hp1
        go_wp2_with (go_at_call 70; refine (mustF _).mono ?_; rintro e w' ⟨rfl, rfl⟩)
        refine ⟨rfl, GoIf.no (fun hq => absurd (I1.out.2 ?_) (Int.not_lt.2 HP1.out)) HON3.out⟩
        rw [HQ.out] at hq
        exact hq.2.1.2.2.2.1
      have HP1 := hid (I1.out.1 hp1)
      have HYES := hid (fun (h : 0 < maps.length → placeOf cs mapsT ≠ 0) => show MethodP cs ⟨fl, nm, ds, st, lo, code, traps, maps⟩ from
        ⟨⟨HMEM.out.1, HMEM.out.2.1, HMEM.out.2.2, HS.out.1, HS.out.2, HL.out.1, HL.out.2⟩, ⟨show 1 ≤ code.length by omega, show code.length ≤ 4096 by omega, show maps.length ≤ 4096 by omega, HP1.out, h⟩, HTR.out⟩)
      by_cases hm0 : maps = []
      · subst hm0
        go_wp2_with (go_at_call 70; refine (mustT _).mono ?_; rintro e w' ⟨rfl, rfl⟩)
        go_end0
        exact GoIf.yes (HYES.out (fun h => absurd h (by simp))) HON3.out
      have hlp : 0 < maps.length := List.length_pos_iff.2 hm0
      have hmb : ((maps.length : Int) == 0) = false := by simpa using hm0
      have cI2 := CP.out mapsT w3 HON3.out
      have CI2 := hid cI2
      clear cI2
      go_wp2_with (go_at_call 70; refine (mustT _).mono ?_; rintro e w' ⟨rfl, rfl⟩)
      refine CI2.out.mono ?_
      rintro e w4 ⟨rfl, ho4⟩
      have HON4 := hid (HON3.out.trans ho4 (fun _ h => h.elim))
      clear ho4 CI2
      by_cases hp2 : 0 < idxZ cs mapsT
      · have HP2 := hid (I2.out.1 hp2)
        go_wp2_with (go_at_call 70; refine (mustT _).mono ?_; rintro e w' ⟨rfl, rfl⟩)
        go_end0
        exact GoIf.yes (HYES.out (fun _ => HP2.out)) HON4.out
      · have hpz : decide (0 < idxZ cs mapsT) = false := decide_eq_false hp2
        have HP2 := hid hp2
        clear hp2
        go_wp2_with (go_at_call 70; refine (mustF _).mono ?_; rintro e w' ⟨rfl, rfl⟩)
        refine ⟨rfl, GoIf.no (fun hq => absurd (I2.out.2 ?_) (Int.not_lt.2 HP2.out)) HON4.out⟩
        rw [HQ.out] at hq
        exact hq.2.1.2.2.2.2 hlp
set_option maxRecDepth 100000 in
theorem catch_idle (p : Addr) (w : World) :
    CallsD Tryz.prog 66 #[.pointer (some p)] .returning w fun e u' w' => e = .returned (.tuple #[]) ∧ u' = .returning ∧ w' = w := by
  refine callsD_of_wpS Tryz.func66 rfl fun c₀ cs hu => ?_
  apply wpS_seq
  apply wpS_region
  simp [wpOpsS, go_sem, recoverD, hu, Tryz.ntmps66, Exit.thenS]
  refine wpS_of_wp ?_
  go_wp2
  cases c₀
  simp_all [bodyPostS, results, Tryz.results66]
theorem run_assert_errno (xT : TypeId) (z : Int) (w : World) : (Instr.typeAssert (.iface 24 (.int .i64 z)) xT 24 true).run Tryz.prog w = .ok (.tuple #[.int .i64 z, .bool true]) w := by
  simp [Instr.typeAssert, run_underlying Tryz.underlying24, go_sem, Result.andThen]
set_option maxRecDepth 100000 in
theorem catch_pan (p : Addr) (z : Int) (x : Value) (w : World) (hc : w.cell? p = some x) (hz : w.frozen? p = false) :
    CallsD Tryz.prog 66 #[.pointer (some p)] (.panicking [{ v := .iface 24 (.int .i64 z), recovered := false }]) w fun e u' w' =>
      e = .returned (.tuple #[]) ∧ u' = .panicking [{ v := .iface 24 (.int .i64 z), recovered := true }] ∧ w' = w.setCell p (.int .i64 z) := by
  refine callsD_of_wpS Tryz.func66 rfl fun c₀ cs hu => ?_
  apply wpS_seq
  apply wpS_region
  simp [wpOpsS, go_sem, recoverD, hu, Tryz.ntmps66, Exit.thenS]
  refine wpS_of_wp ?_
  have hta := fun xT w => run_assert_errno xT z w
  go_wp2
  cases c₀
  simp_all [bodyPostS, results, Tryz.results66]
def EndsC (z : Int) (e : Ending) : Prop := (z = 0 ∧ e = .returned (.tuple #[])) ∨ (z ≠ 0 ∧ e = pan z)
set_option maxRecDepth 100000 in
theorem refusal (n : FuncId) (hn : Enters Tryz.prog n) (first cap : Array Value) (w : World) (Q : Int → World → Prop)
    (h : Calls Tryz.prog n (first ++ cap) (w.alloc (.cells #[.int .i64 0] 24)) fun e w1 => ∃ z, EndsC z e ∧ Q z w1)
    (hq : ∀ z w1, Q z w1 → w1.heap[w.heap.size]? = some (.cells #[.int .i64 0] 24 (0, 0))) :
    Calls Tryz.prog 40 #[.func (.func n) first cap] w fun e w' => ∃ z w1, e = .returned (.int .i64 z) ∧ Q z w1 ∧ w' = w1.setCell ⟨w.heap.size, 0, none⟩ (.int .i64 z) := by
  have hmf : ∀ (fn : Fn) (first cap : Array Value) (w : World), (Instr.makeFunc fn first cap).run Tryz.prog w = .ok (.func fn first cap) w := fun _ _ _ _ => rfl
  have hen : ∀ args w, (callFunc n args).run Tryz.prog w = .ok (.enter n args) w := hn
  have H := hid h
  have HQ := hid hq
  clear h hq
  go_enter_defers Tryz.func40, Tryz.ntmps40
  go_wp2_with (fail)
  refine H.out.mono ?_
  rintro e w1 ⟨z, ⟨rfl, rfl⟩ | ⟨hz, rfl⟩, hq⟩
  · have hb := HQ.out _ _ hq
    have q0 := cell_blk hb 0
    have f0 := frozen_blk hb 0
    simp at q0
    go_wp2
    refine leaves_cons (f := 66) (args := #[.pointer (some ⟨w.heap.size, 0, none⟩)]) (by simp) (by simp [go_sem]) ?_
    refine (catch_idle ⟨w.heap.size, 0, none⟩ _).mono ?_
    rintro e u' w'' ⟨rfl, rfl, rfl⟩
    show Leaves _ _ _ _ [] .returning _
    refine ⟨.int .i64 0, ?_, 0, w1, rfl, hq, rfl⟩
    simp [results, Tryz.results40, go_sem, q0, f0]
  · have hb := HQ.out _ _ hq
    have q0 := cell_blk hb 0
    have f0 := frozen_blk hb 0
    simp at q0
    show Leaves _ _ _ _ [_] (.panicking _) _
    refine leaves_cons (f := 66) (args := #[.pointer (some ⟨w.heap.size, 0, none⟩)]) (by simp) (by simp [go_sem]) ?_
    refine (catch_pan ⟨w.heap.size, 0, none⟩ z _ _ q0 f0).mono ?_
    rintro e u' w'' ⟨rfl, rfl, rfl⟩
    show Leaves _ _ _ _ [] .returning _
    refine ⟨.int .i64 z, ?_, z, w1, rfl, hq, rfl⟩
    simp [results, Tryz.results40, go_sem, q0, f0]
theorem EndsC.of {Q : Prop} {z : Int} {w w' : World} {e : Ending} (h : GoIf Q z w e w') (hz : z ≠ 0) : EndsC (open Classical in if Q then 0 else z) e := by
  rcases h.1 with ⟨hq, rfl⟩ | ⟨hq, rfl⟩
  · rw [if_pos hq]; exact .inl ⟨rfl, rfl⟩
  · rw [if_neg hq]; exact .inr ⟨hz, rfl⟩
def LessP (c : ClassV) : Prop := (c.fields.length : Int) ≤ 64 ∧ (c.methods.length : Int) ≤ 64 ∧ ∀ m ∈ c.methods, m.traps.length ≤ 64
theorem LessP.iff (c : ClassV) : LessP c ↔ ¬ LongP c := by
  unfold LessP LongP
  constructor
  · rintro ⟨h1, h2, h3⟩ (h | h | ⟨m, hm, h⟩)
    · omega
    · omega
    · have := h3 m hm; omega
  · intro h
    refine ⟨?_, ?_, fun m hm => ?_⟩
    · apply Classical.byContradiction; intro h'; exact h (.inl (by omega))
    · apply Classical.byContradiction; intro h'; exact h (.inr (.inl (by omega)))
    · apply Classical.byContradiction; intro h'; exact h (.inr (.inr ⟨m, hm, by omega⟩))
set_option maxRecDepth 100000 in
theorem checkCountsP (vp vf vm : Value) (c : ClassV) (w : World) (hc : ClassM w vp vf vm c) :
    Calls Tryz.prog 69 #[.agg #[vp, .int .i64 c.this, .int .i64 c.super, vf, vm]] w (GoIf (LessP c) 2 w) := by
  obtain ⟨pool, this, super, fields, methods⟩ := c
  have hbx := heap_alloc_new w (.cells #[vp, .int .i64 this, .int .i64 super, vf, vm] 37)
  have HON := hid ((Only.refl (fun _ => False) w).alloc (.cells #[vp, .int .i64 this, .int .i64 super, vf, vm] 37))
  obtain ⟨hp, hf, hm, r1, r2⟩ := id hc
  simp only at *
  obtain ⟨af, cf, rfl, hf1, hf2⟩ := hf.1.slice
  obtain ⟨fm, hm1, hm2, hm3⟩ := id hm
  obtain ⟨am, cm, rfl, hm4, hm5⟩ := hm1.slice
  obtain ⟨ap, cp, rfl, _, _, _, _, _⟩ := id hp
  have HBX := hid hbx
  have HM1 := hid hm1
  have HM2 := hid hm2
  clear hc hp hf hm hbx hm1 hm2 hm3
  have HC := hid checkCountP
  go_enter Tryz.func69, Tryz.ntmps69
  go_wp2_with (fail)
  refine (checkCountP _ _).mono ?_
  rintro e w1 ⟨⟨g1, rfl⟩ | ⟨g1, rfl⟩, ho1⟩
  rotate_left
  · exact ⟨rfl, GoIf.no (fun h => g1 h.1) (HON.out.trans ho1 (fun _ h => h.elim))⟩
  have hb1 := ho1.heap HBX.out (fun h => h)
  have q4 := cell_blk hb1 4
  simp at q4
  have HON1 := hid (HON.out.trans ho1 (fun _ h => h.elim))
  have HB1 := hid hb1
  have G1 := hid g1
  clear ho1 hb1 g1
  go_wp2_with (fail)
  refine (checkCountP _ _).mono ?_
  rintro e w2 ⟨⟨g2, rfl⟩ | ⟨g2, rfl⟩, ho2⟩
  rotate_left
  · exact ⟨rfl, GoIf.no (fun h => g2 h.2.1) (HON1.out.trans ho2 (fun _ h => h.elim))⟩
  have hb2 := ho2.heap HB1.out (fun h => h)
  have q42 := cell_blk hb2 4
  simp at q42
  have HON2 := hid (HON1.out.trans ho2 (fun _ h => h.elim))
  have G2 := hid g2
  clear ho2 hb2 g2 HB1 HBX q4
  go_wp2
  go_loopw [15] (fun i wr => ∃ j : Nat, j ≤ methods.length ∧ i = .int .i64 j ∧ (∀ m ∈ methods.take j, m.traps.length ≤ 64) ∧ Only (fun _ => False) w2 wr) (fun i _ => methods.length - (intOf i).toNat)
  case atStart => exact ⟨0, Nat.zero_le _, rfl, (fun m hm => by simp at hm), Only.refl _ _⟩
  case round =>
    obtain ⟨j, hj, rfl, hall, hwr⟩ := hrel
    have HALL := hid hall
    have HWR := hid hwr
    have hon := HON2.out.trans hwr (fun _ h => h.elim)
    clear hall hwr
    by_cases hlt : j < methods.length
    · have hjz : (j : Int) < (methods.length : Int) := by omega
      obtain ⟨b, o, e2, hat⟩ := HM1.out.at hlt
      subst e2
      obtain ⟨k0, k1, k2, k3, k4, k5, k6, k7⟩ := hat.only hon
      have hin := HM2.out j hlt
      have HMEM := hid (getD_mem hlt)
      have HTK := hid (take_snoc hlt)
      obtain ⟨m, hm⟩ : ∃ m, methods.getD j default = m := ⟨_, rfl⟩
      rw [hm] at hin HMEM HTK k0 k1 k2 k3 k4
      obtain ⟨at_, ct, e3, hs1, hs2⟩ := hin.2.1.1.slice
      rw [e3] at k6
      have HON := hid hon
      obtain ⟨ac, cc, e5, _⟩ := hin.1
      obtain ⟨ax, cx, e7, _⟩ := hin.2.2
      rw [e5] at k5
      rw [e7] at k7
      clear hat hin e3 e5 e7 hm hon
      go_wp2_with (fail)
      refine (checkCountP _ _).mono ?_
      rintro e w3 ⟨⟨g3, rfl⟩ | ⟨g3, rfl⟩, ho3⟩
      rotate_left
      · exact ⟨rfl, GoIf.no (fun h => g3 (by have := h.2.2 m HMEM.out; omega)) ((HON.out.alloc _).trans ho3 (fun _ h => h.elim))⟩
      have G3 := hid g3
      have HO3 := hid ((HWR.out.alloc _).trans ho3 (fun _ h => h.elim))
      clear g3 ho3
      go_wp2
      go_roundw
      case rel => exact ⟨j + 1, by omega, by go_num, (fun x hx => by
        rw [HTK.out] at hx
        rcases List.mem_append.1 hx with hx | hx
        · exact HALL.out x hx
        · simp only [List.mem_cons, List.mem_nil_iff, or_false] at hx; subst hx; have := G3.out; omega), HO3.out⟩
      case measure => simp [intOf]; omega
    · have hjn : j = methods.length := by omega
      have hjz : (methods.length : Int) ≤ (j : Int) := by omega
      have HL := hid (show LessP ⟨pool, this, super, fields, methods⟩ from ⟨G1.out, G2.out, fun m hm => HALL.out m (by rw [hjn, List.take_of_length_le (Nat.le_refl _)]; exact hm)⟩)
      have HON := hid hon
      clear hlt hjn HALL hon
      go_wp2
      go_end0
      exact GoIf.yes HL.out HON.out
def CheckTo (c : ClassV) (w : World) (e : Ending) (w' : World) : Prop := EndsC (clsZ c) e ∧ Only (fun _ => False) w w'
theorem CheckTo.no {c : ClassV} {z : Int} {w w' : World} (h : clsZ c = z) (hz : z ≠ 0) (ho : Only (fun _ => False) w w') : CheckTo c w (pan z) w' := ⟨.inr ⟨by rw [h]; exact hz, by rw [h]⟩, ho⟩
set_option maxRecDepth 100000 in
theorem clsCheck (vp vf vm : Value) (c : ClassV) (w : World) (hc : ClassM w vp vf vm c) (hT : Tabs w) (hg : ErrV w) :
    Calls Tryz.prog 42 #[.agg #[vp, .int .i64 c.this, .int .i64 c.super, vf, vm]] w (CheckTo c w) := by
  obtain ⟨pool, this, super, fields, methods⟩ := c
  have hbx := heap_alloc_new w (.cells #[vp, .int .i64 this, .int .i64 super, vf, vm] 37)
  have ho0 := (Only.refl (fun _ => False) w).alloc (.cells #[vp, .int .i64 this, .int .i64 super, vf, vm] 37)
  obtain ⟨hp, hf, hm, r1, r2⟩ := id hc
  simp only at *
  have cK := progCheck _ pool _ (hp.only ho0 (fun _ _ h => h)) (hT.only ho0 (fun h => h) (fun h => h)) (hg.only ho0 (fun h => h))
  have cN := fun w' (ho : Only (fun _ => False) w w') => checkCountsP vp vf vm ⟨pool, this, super, fields, methods⟩ w' (hc.only ho)
  obtain ⟨ap, cp, rfl, _, _, _, _, _⟩ := id hp
  obtain ⟨af, cf, rfl, hf1, hf2⟩ := hf.1.slice
  obtain ⟨fm, hm1, hm2, hm3⟩ := id hm
  obtain ⟨am, cm, rfl, hm4, hm5⟩ := hm1.slice
  unfold I64 at r1 r2
  have cC := fun i w' (ho : Only (fun _ => False) w w') => isClass _ pool i w' (hp.only ho (fun _ _ h => h))
  have cF := fun fl nm ds w' (ho : Only (fun _ => False) w w') => checkMemberP _ pool fl nm ds w' (hp.only ho (fun _ _ h => h))
  have cM := fun hb m vc vt vm w' (hi : Inside w m vc vt vm) (ho : Only (fun _ => False) w w') => checkMethodP _ pool m vc vt vm w' (hp.only ho (fun _ _ h => h)) hb (hi.only ho)
  have HC := hid hc
  have HO := hid ho0
  have HBX := hid hbx
  have HM1 := hid hm1
  have HM2 := hid hm2
  have CK := hid cK
  have CN := hid cN
  have CC := hid cC
  have CF := hid cF
  have CM := hid cM
  clear hc ho0 hbx hp hf hm hm1 hm2 hm3 cK cN cC cF cM hT hg
  obtain ⟨z, hz⟩ : ∃ z, checkZ pool = z := ⟨_, rfl⟩
  rw [hz] at CK
  have HZ := hid hz
  clear hz
  go_enter Tryz.func42, Tryz.ntmps42
  go_wp2_with (fail)
  refine CK.out.mono ?_
  rintro e w1 ⟨rfl, ho1⟩
  have hb1 := ho1.heap HBX.out (fun h => h)
  have HB1 := hid hb1
  have HO1 := hid (HO.out.trans ho1 (fun _ h => h.elim))
  clear ho1 CK
  by_cases h0 : z = 0
  rotate_left
  · have HR := hid (show clsZ ⟨pool, this, super, fields, methods⟩ = z by rw [clsZ_pool (by show checkZ pool ≠ 0; rw [HZ.out]; exact h0)]; exact HZ.out)
    go_wp2_with (go_at_call 67; refine (refuseN z h0 _).mono ?_; rintro e w' ⟨rfl, rfl⟩)
    exact ⟨rfl, CheckTo.no HR.out h0 HO1.out⟩
  subst h0
  have q0 := cell_blk hb1 0
  have q1 := cell_blk hb1 1
  have q2 := cell_blk hb1 2
  have q3 := cell_blk hb1 3
  have q4 := cell_blk hb1 4
  simp at q0 q1 q2 q3 q4
  clear hb1
  go_wp2_with (go_at_call 67; refine (refuse0 _).mono ?_; rintro e w' ⟨rfl, rfl⟩)
  refine (CN.out _ HO1.out).mono ?_
  rintro e w2 ⟨⟨g1, rfl⟩ | ⟨g1, rfl⟩, ho2⟩
  rotate_left
  · have HR := clsZ_long (c := ⟨pool, this, super, fields, methods⟩) HZ.out (Classical.byContradiction fun h => g1 ((LessP.iff _).2 h))
    exact ⟨rfl, CheckTo.no HR (by decide) (HO1.out.trans ho2 (fun _ h => h.elim))⟩
  have HNL := hid ((LessP.iff _).1 g1)
  have wrong : ¬ RightP ⟨pool, this, super, fields, methods⟩ → clsZ ⟨pool, this, super, fields, methods⟩ = 50 := clsZ_wrong HZ.out HNL.out
  have WRONG := hid wrong
  have hb2 := ho2.heap HB1.out (fun h => h)
  have HB2 := hid hb2
  have HO2 := hid (HO1.out.trans ho2 (fun _ h => h.elim))
  clear q0 q1 q2 q3 q4
  have q0 := cell_blk hb2 0
  have q1 := cell_blk hb2 1
  simp at q0 q1
  clear wrong g1 ho2 hb2 CN HB1
  go_wp2_with (fail)
  refine (CC.out _ _ HO2.out).mono ?_
  rintro e w3 ⟨rfl, ho3⟩
  have hb3 := ho3.heap HB2.out (fun h => h)
  have HB3 := hid hb3
  have HO3 := hid (HO2.out.trans ho3 (fun _ h => h.elim))
  clear q0 q1
  have q0 := cell_blk hb3 0
  have q2 := cell_blk hb3 2
  simp at q0 q2
  clear hb3 ho3 HB2
  obtain ⟨b, hb⟩ : ∃ b, (classZ pool this).2 = b := ⟨_, rfl⟩
  rw [hb]
  have HBT := hid hb
  clear hb
  cases b
  · go_wp2_with (go_at_call 70; refine (mustF _).mono ?_; rintro e w' ⟨rfl, rfl⟩)
    exact ⟨rfl, CheckTo.no (WRONG.out (fun h => by rw [h.1] at HBT; exact absurd HBT.out (by decide))) (by decide) HO3.out⟩
  go_wp2_with (go_at_call 70; refine (mustT _).mono ?_; rintro e w' ⟨rfl, rfl⟩)
  refine (CC.out _ _ HO3.out).mono ?_
  rintro e w4 ⟨rfl, ho4⟩
  have hb4 := ho4.heap HB3.out (fun h => h)
  have HB4 := hid hb4
  have HO4 := hid (HO3.out.trans ho4 (fun _ h => h.elim))
  clear q0 q2
  have q0 := cell_blk hb4 0
  have q3 := cell_blk hb4 3
  simp at q0 q3
  clear hb4 ho4 HB3
  obtain ⟨b, hb⟩ : ∃ b, (classZ pool super).2 = b := ⟨_, rfl⟩
  rw [hb]
  have HBS := hid hb
  clear hb
  cases b
  · go_wp2_with (go_at_call 70; refine (mustF _).mono ?_; rintro e w' ⟨rfl, rfl⟩)
    exact ⟨rfl, CheckTo.no (WRONG.out (fun h => by have := h.2.1; rw [this] at HBS; exact absurd HBS.out (by decide))) (by decide) HO4.out⟩
  go_wp2_with (go_at_call 70; refine (mustT _).mono ?_; rintro e w' ⟨rfl, rfl⟩)
  go_loopw [27] (fun i wr => ∃ j : Nat, j ≤ fields.length ∧ i = .int .i64 j ∧ (∀ f ∈ fields.take j, FieldP pool f) ∧ Only (fun _ => False) w4 wr) (fun i _ => fields.length - (intOf i).toNat)
  case atStart => exact ⟨0, Nat.zero_le _, rfl, (fun m hm => by simp at hm), Only.refl _ _⟩
  case round =>
    obtain ⟨j, hj, rfl, hall, hwr⟩ := hrel
    have hbr := hwr.heap HB4.out (fun h => h)
    have HBR := hid hbr
    clear q0 q3
    have q0 := cell_blk hbr 0
    have q4 := cell_blk hbr 4
    simp at q0 q4
    have HALL := hid hall
    have HWR := hid hwr
    have hon := HO4.out.trans hwr (fun _ h => h.elim)
    have HON := hid hon
    clear hall hwr hbr
    by_cases hlt : j < fields.length
    · have hjz : (j : Int) < (fields.length : Int) := by omega
      have HFF := hid HC.out.2.1
      obtain ⟨b, o, e2, hat⟩ := HFF.out.1.at hlt
      subst e2
      obtain ⟨k0, k1, k2⟩ := hat.only hon
      have HMEM := hid (getD_mem hlt)
      have HTK := hid (take_snoc hlt)
      obtain ⟨f, hf⟩ : ∃ f, fields.getD j default = f := ⟨_, rfl⟩
      rw [hf] at HMEM HTK k0 k1 k2
      obtain ⟨fl, nm, ds⟩ := f
      simp only at k0 k1 k2
      have hoa := (Only.refl (fun _ => False) wr).alloc (.cells #[.int .i64 fl, .int .i64 nm, .int .i64 ds] 112)
      have q0a := hoa.cell q0 (fun h => h)
      have HOA := hid (HWR.out.trans hoa (fun _ h => h.elim))
      have HONA := hid (hon.trans hoa (fun _ h => h.elim))
      clear hat hf hon hoa
      go_wp2_with (fail)
      refine (CF.out _ _ _ _ HONA.out).mono ?_
      rintro e w5 ⟨⟨g5, rfl⟩ | ⟨g5, rfl⟩, ho5⟩
      rotate_left
      · exact ⟨rfl, CheckTo.no (WRONG.out (fun h => g5 (h.2.2.1 _ HMEM.out))) (by decide) (HONA.out.trans ho5 (fun _ h => h.elim))⟩
      have FIN := hid (show ∀ x ∈ fields.take (j + 1), FieldP pool x from fun x hx => by
        rw [HTK.out] at hx
        rcases List.mem_append.1 hx with hx | hx
        · exact HALL.out x hx
        · simp only [List.mem_cons, List.mem_nil_iff, or_false] at hx; subst hx; exact g5)
      have HO5 := hid (HOA.out.trans ho5 (fun _ h => h.elim))
      clear g5 ho5 HALL HTK
      go_wp2
      go_roundw
      case rel => exact ⟨j + 1, by omega, by go_num, FIN.out, HO5.out⟩
      case measure => simp [intOf]; omega
    · have hjn : j = fields.length := by omega
      have hjz : (fields.length : Int) ≤ (j : Int) := by omega
      have HFS := hid (show ∀ f ∈ fields, FieldP pool f from fun f hf => HALL.out f (by rw [hjn, List.take_of_length_le (Nat.le_refl _)]; exact hf))
      have HBB := hid (bare_of_right HZ.out)
      clear hjn HALL hon
      go_wp2
      go_loopw [44] (fun i wr2 => ∃ j : Nat, j ≤ methods.length ∧ i = .int .i64 j ∧ (∀ m ∈ methods.take j, MethodP pool m) ∧ Only (fun _ => False) wr wr2) (fun i _ => methods.length - (intOf i).toNat)
      case atStart => exact ⟨0, Nat.zero_le _, rfl, (fun m hm => by simp at hm), Only.refl _ _⟩
      case round =>
        obtain ⟨j, hj, rfl, hall, hwr⟩ := hrel
        have hbr := hwr.heap HBR.out (fun h => h)
        clear q0 q4
        have q0 := cell_blk hbr 0
        simp at q0
        have HALL := hid hall
        have HWR2 := hid hwr
        have hon := HON.out.trans hwr (fun _ h => h.elim)
        have HON2 := hid hon
        clear hall hwr hbr
        by_cases hlt : j < methods.length
        · have hjz : (j : Int) < (methods.length : Int) := by omega
          obtain ⟨b, o, e2, hat⟩ := HM1.out.at hlt
          subst e2
          obtain ⟨k0, k1, k2, k3, k4, k5, k6, k7⟩ := hat.only hon
          have hin := HM2.out j hlt
          have HMEM := hid (getD_mem hlt)
          have HTK := hid (take_snoc hlt)
          obtain ⟨m, hm⟩ : ∃ m, methods.getD j default = m := ⟨_, rfl⟩
          rw [hm] at hin HMEM HTK k0 k1 k2 k3 k4
          have hcall := fun w' ho => CM.out HBB.out m _ _ _ w' hin ho
          obtain ⟨ac, cc, e5, _⟩ := hin.1
          obtain ⟨at_, ct, e6, _, _⟩ := hin.2.1.1.slice
          obtain ⟨ax, cx, e7, _⟩ := hin.2.2
          rw [e5, e6, e7] at hcall
          rw [e5] at k5
          rw [e6] at k6
          rw [e7] at k7
          have HCALL := hid hcall
          have hoa := (Only.refl (fun _ => False) wr).alloc (.cells #[.int .i64 m.flags, .int .i64 m.name, .int .i64 m.desc, .int .i64 m.stack, .int .i64 m.locals, .slice ac m.code.length cc, .slice at_ m.traps.length ct, .slice ax m.maps.length cx] 79)
          have q0a := hoa.cell q0 (fun h => h)
          have HOA := hid (HWR2.out.trans hoa (fun _ h => h.elim))
          have HONA := hid (hon.trans hoa (fun _ h => h.elim))
          clear hat hin e5 e6 e7 hm hon hcall hoa
          go_wp2_with (fail)
          refine (HCALL.out _ HONA.out).mono ?_
          rintro e w5 ⟨⟨g5, rfl⟩ | ⟨g5, rfl⟩, ho5⟩
          rotate_left
          · exact ⟨rfl, CheckTo.no (WRONG.out (fun h => g5 (h.2.2.2 _ HMEM.out))) (by decide) (HONA.out.trans ho5 (fun _ h => h.elim))⟩
          have FIN := hid (show ∀ x ∈ methods.take (j + 1), MethodP pool x from fun x hx => by
            rw [HTK.out] at hx
            rcases List.mem_append.1 hx with hx | hx
            · exact HALL.out x hx
            · simp only [List.mem_cons, List.mem_nil_iff, or_false] at hx; subst hx; exact g5)
          have HO5 := hid (HOA.out.trans ho5 (fun _ h => h.elim))
          clear g5 ho5 HALL HTK
          go_wp2
          go_roundw
          case rel => exact ⟨j + 1, by omega, by go_num, FIN.out, HO5.out⟩
          case measure => simp [intOf]; omega
        · have hjn : j = methods.length := by omega
          have hjz : (methods.length : Int) ≤ (j : Int) := by omega
          have HR := hid (clsZ_ok HZ.out HNL.out (show RightP ⟨pool, this, super, fields, methods⟩ from ⟨HBT.out, HBS.out, HFS.out, fun m hm => HALL.out m (by rw [hjn, List.take_of_length_le (Nat.le_refl _)]; exact hm)⟩))
          clear hlt hjn HALL hon
          go_wp2
          go_end0
          exact ⟨.inl ⟨HR.out, rfl⟩, HON2.out⟩
set_option maxRecDepth 100000 in
theorem progClsCheck (vp vf vm : Value) (c : ClassV) (w : World) (hc : ClassM w vp vf vm c) (hT : Tabs w) (hg : ErrV w) :
    Calls Tryz.prog 8 #[.agg #[vp, .int .i64 c.this, .int .i64 c.super, vf, vm]] w fun e w' => e = .returned (.int .i64 (clsZ c)) ∧ Only (fun _ => False) w w' := by
  have hmf : ∀ (fn : Fn) (first cap : Array Value) (w : World), (Instr.makeFunc fn first cap).run Tryz.prog w = .ok (.func fn first cap) w := fun _ _ _ _ => rfl
  have hen : Enters Tryz.prog 41 := enters_of Tryz.func41 (by kernel_rfl) rfl
  have ho0 := (Only.refl (fun _ => False) w).alloc (.cells #[vp, .int .i64 c.this, .int .i64 c.super, vf, vm] 37)
  have ho1 := ho0.alloc (.cells #[.int .i64 0] 24)
  have hbx := heap_alloc_new w (.cells #[vp, .int .i64 c.this, .int .i64 c.super, vf, vm] 37)
  have hb1 := ((Only.refl (fun _ => False) _).alloc (.cells #[.int .i64 0] 24)).heap hbx (fun h => h)
  have he1 := heap_alloc_new (w.alloc (.cells #[vp, .int .i64 c.this, .int .i64 c.super, vf, vm] 37)) (.cells #[.int .i64 0] 24)
  have cK := clsCheck vp vf vm c _ (hc.only ho1) (hT.only ho1 (fun h => h) (fun h => h)) (hg.only ho1 (fun h => h))
  obtain ⟨hp, hf, hm, r1, r2⟩ := id hc
  obtain ⟨ap, cp, rfl, _, _, _, _, _⟩ := id hp
  obtain ⟨af, cf, rfl, hf1, hf2⟩ := hf.1.slice
  obtain ⟨fm, hm1, hm2, hm3⟩ := id hm
  obtain ⟨am, cm, rfl, hm4, hm5⟩ := hm1.slice
  obtain ⟨pool, this, super, fields, methods⟩ := c
  simp only at *
  have cL : Calls Tryz.prog 41 #[.pointer (some ⟨w.heap.size, 0, none⟩)] ((w.alloc (.cells #[.slice ap pool.length cp, .int .i64 this, .int .i64 super, .slice af fields.length cf, .slice am methods.length cm] 37)).alloc (.cells #[.int .i64 0] 24))
      fun e w1 => ∃ z, EndsC z e ∧ (z = clsZ ⟨pool, this, super, fields, methods⟩ ∧ Only (fun _ => False) ((w.alloc (.cells #[.slice ap pool.length cp, .int .i64 this, .int .i64 super, .slice af fields.length cf, .slice am methods.length cm] 37)).alloc (.cells #[.int .i64 0] 24)) w1) := by
    have q0 := cell_blk hb1 0
    have q1 := cell_blk hb1 1
    have q2 := cell_blk hb1 2
    have q3 := cell_blk hb1 3
    have q4 := cell_blk hb1 4
    have CK := hid cK
    clear cK hc hp hf hm hm1 hm2 hm3 hT hg ho0 ho1 hb1 he1 hbx
    generalize hW : ((w.alloc (.cells #[.slice ap pool.length cp, .int .i64 this, .int .i64 super, .slice af fields.length cf, .slice am methods.length cm] 37)).alloc (.cells #[.int .i64 0] 24)) = W at *
    simp at q0 q1 q2 q3 q4
    clear hW
    go_enter Tryz.func41, Tryz.ntmps41
    go_wp2_with (fail)
    refine CK.out.mono ?_
    rintro e w1 ⟨⟨hz, rfl⟩ | ⟨hz, rfl⟩, ho⟩
    · have HO := hid ho
      have HZ := hid hz
      clear ho hz
      go_wp2
      go_end0
      exact ⟨0, .inl ⟨rfl, rfl⟩, HZ.out.symm, HO.out⟩
    · exact ⟨rfl, _, .inr ⟨hz, rfl⟩, rfl, ho⟩
  have cR := refusal 41 hen #[] #[.pointer (some ⟨w.heap.size, 0, none⟩)] (w.alloc (.cells #[.slice ap pool.length cp, .int .i64 this, .int .i64 super, .slice af fields.length cf, .slice am methods.length cm] 37)) (fun z w1 => z = clsZ ⟨pool, this, super, fields, methods⟩ ∧ Only (fun _ => False) ((w.alloc (.cells #[.slice ap pool.length cp, .int .i64 this, .int .i64 super, .slice af fields.length cf, .slice am methods.length cm] 37)).alloc (.cells #[.int .i64 0] 24)) w1) (by simpa using cL) (fun z w1 h => h.2.heap he1 (fun h => h))
  have CR := hid cR
  have HO := hid ho1
  clear cL cR cK hc hp hf hm hm1 hm2 hm3 hT hg ho0 ho1 hb1 he1 hbx hen
  go_enter Tryz.func8, Tryz.ntmps8
  go_wp2_with (fail)
  refine CR.out.mono ?_
  rintro e w' ⟨z, w1, rfl, ⟨rfl, ho⟩, rfl⟩
  have HO1 := hid (HO.out.trans ho (fun _ h => h.elim))
  clear ho
  go_wp2
  go_ret
  exact ⟨rfl, HO1.out.setCell (fun hl => by simp at hl; omega) _⟩
end Go.Proofs.YtemplkpcckmcoaaGreatDoor
