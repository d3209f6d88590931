import Derived.Test.YtinbelghhfodiaaGreatDoorMaClsAKndL
import Derived.Test.YtinbelghhfodiaaGreatDoorMaPrsBig
import Derived.Test.YtinbelghhfodiaaGreatDoorMaPolMPolV
import Derived.Test.YtinbelghhfodiaaGreatDoorMaTillPolI
import Derived.WalkLawsBesides
import Derived.Defers
import Derived.Recover
import Derived.Handy
import Derived.Test.YtinbelghhfodiaaGreatDoorMaKndOLpO
import Derived.Test.YtinbelghhfodiaaGreatDoorMaKndBRulN
import Derived.RangeFuncNested
import Derived.RangeFuncBound
import Derived.RangeFuncCalls
import Derived.RangeFuncLeaves
import Derived.Deep.RegionHeld3
import Derived.OwnWalkIn
import Derived.TacticsInMore
import Derived.LoopNIn
import Derived.LoopIn
namespace Go.Proofs.YtinbelghhfodiaaGreatDoor
set_option maxHeartbeats 4000000
open Lib (hid)
open Go.RowKit
set_option linter.unusedVariables false
set_option linter.unusedSimpArgs false
def GoIf (Q : Prop) (z : Int) (w : World) (e : Ending) (w' : World) : Prop := ((Q ∧ e = .returned (.tuple #[])) ∨ (¬ Q ∧ e = pan z)) ∧ Only (fun _ => False) w w'
theorem GoIf.yes {Q : Prop} {z : Int} {w w' : World} (h : Q) (ho : Only (fun _ => False) w w') : GoIf Q z w (.returned (.tuple #[])) w' := ⟨.inl ⟨h, rfl⟩, ho⟩
theorem GoIf.no {Q : Prop} {z : Int} {w w' : World} (h : ¬ Q) (ho : Only (fun _ => False) w w') : GoIf Q z w (pan z) w' := ⟨.inr ⟨h, rfl⟩, ho⟩
theorem refuse0 (w : World) : Calls Tryz.prog 93 #[.int .i64 0] w fun e w' => e = .returned (.tuple #[]) ∧ w = w' := by
  go_enter Tryz.func93, Tryz.ntmps93
  go_wp2
  go_end0
  exact ⟨rfl, rfl⟩
theorem refuseN (z : Int) (hz : z ≠ 0) (w : World) : Calls Tryz.prog 93 #[.int .i64 z] w fun e w' => e = pan z ∧ w = w' := by
  have hb : (z != 0) = true := by simpa using hz
  go_enter Tryz.func93, Tryz.ntmps93
  go_wp2
  exact ⟨rfl, rfl, rfl⟩
theorem mustT (w : World) : Calls Tryz.prog 96 #[.bool true] w fun e w' => e = .returned (.tuple #[]) ∧ w = w' := by
  go_enter Tryz.func96, Tryz.ntmps96
  go_wp2
  go_end0
  exact ⟨rfl, rfl⟩
theorem mustF (w : World) : Calls Tryz.prog 96 #[.bool false] w fun e w' => e = pan 50 ∧ w = w' := by
  have c := refuseN 50 (by decide) w
  go_enter Tryz.func96, Tryz.ntmps96
  go_wp2_with (go_at_call 93; refine c.mono ?_; rintro e w' ⟨rfl, rfl⟩)
  exact ⟨rfl, rfl, rfl⟩
theorem mustB (b : Bool) (w : World) : Calls Tryz.prog 96 #[.bool b] w fun e w' => ((b = true ∧ e = .returned (.tuple #[])) ∨ (b = false ∧ e = pan 50)) ∧ w = w' := by
  cases b
  · exact (mustF w).mono fun e w' h => ⟨.inr ⟨rfl, h.1⟩, h.2⟩
  · exact (mustT w).mono fun e w' h => ⟨.inl ⟨rfl, h.1⟩, h.2⟩
theorem isText (v : Value) (cs : List ConstV) (i : Int) (w : World) (hp : Pool w v cs) :
    Calls Tryz.prog 128 #[v, .int .i64 i] w fun e w' => e = .returned (.bool (textZ cs i).2) ∧ Only (fun _ => False) w w' := by
  have c := progText v cs i w hp
  go_enter Tryz.func128, Tryz.ntmps128
  go_wp2_with (go_at_call 89; refine c.mono ?_; rintro e w' ⟨rfl, ho⟩)
  go_ret
  exact ⟨rfl, ho⟩
theorem isClass (v : Value) (cs : List ConstV) (i : Int) (w : World) (hp : Pool w v cs) :
    Calls Tryz.prog 97 #[v, .int .i64 i] w fun e w' => e = .returned (.bool (classZ cs i).2) ∧ Only (fun _ => False) w w' := by
  have c := progClass v cs i w hp
  go_enter Tryz.func97, Tryz.ntmps97
  go_wp2_with (go_at_call 53; refine c.mono ?_; rintro e w' ⟨rfl, ho⟩)
  go_ret
  exact ⟨rfl, ho⟩
theorem clsName (vp vf vm : Value) (cs : List ConstV) (this super : Int) (w : World) (hp : Pool w vp cs) :
    Calls Tryz.prog 157 #[.agg #[vp, .int .i64 this, .int .i64 super, vf, vm]] w fun e w' => e = .returned (.string (classZ cs this).1) ∧ Only (fun _ => False) w w' := by
  obtain ⟨ao, cap, rfl, _⟩ := id hp
  have ho0 : ∀ o, Only (fun _ => False) w (w.alloc o) := fun o => (Only.refl _ _).alloc o
  have c := fun o => progClass _ cs this _ (hp.only (ho0 o) (fun _ _ h => h))
  go_enter Tryz.func157, Tryz.ntmps157
  go_wp2_with (go_at_call 53; refine (c _).mono ?_; rintro e w' ⟨rfl, ho⟩)
  go_ret
  exact ⟨rfl, (ho0 _).trans ho (fun _ h => h.elim)⟩
set_option maxRecDepth 100000 in
theorem checkTrapP (v : Value) (cs : List ConstV) (t : TrapV) (n : Nat) (hn : n ≤ 9223372036854775807) (w : World) (hp : Pool w v cs) :
    Calls Tryz.prog 130 #[v, .agg #[.int .i64 t.from_, .int .i64 t.to_, .int .i64 t.hand, .int .i64 t.type], .int .i64 n] w (GoIf (TrapP cs n t) 50 w) := by
  obtain ⟨ao, cap, rfl, _⟩ := id hp
  have ho0 : ∀ o, Only (fun _ => False) w (w.alloc o) := fun o => (Only.refl _ _).alloc o
  have cC := fun i w' (ho : Only (fun _ => False) w w') => isClass _ cs i w' (hp.only ho (fun _ _ h => h))
  have CC := hid cC
  have HO := hid ho0
  clear cC ho0 hp
  obtain ⟨a, b, c, d⟩ := t
  simp only
  go_enter Tryz.func130, Tryz.ntmps130
  go_wp2_with (first | (go_at_call 96; refine (mustB _ _).mono ?_; rintro e w' ⟨⟨h, rfl⟩ | ⟨h, rfl⟩, rfl⟩) | (go_at_call 97; refine (CC.out _ _ (HO.out _)).mono ?_; rintro e w' ⟨rfl, ho⟩; have HOC := hid ho))
  all_goals try (exfalso; (first | exact absurd (by assumption : true = false) (by decide) | exact absurd (by assumption : false = true) (by decide)); done)
  all_goals first
    | (go_end0
       refine GoIf.yes (Q := TrapP cs n ⟨a, b, c, _⟩) ⟨?_, ?_, ?_, ?_, ?_, ?_⟩ (by first | exact HO.out _ | exact (HO.out _).trans HOC.out (fun _ h => h.elim))
       all_goals
         clear CC HO
         simp only [decide_eq_true_eq, Bool.or_eq_true, beq_iff_eq] at *
         first
           | omega
           | assumption
           | (left; omega))
    | (refine ⟨rfl, GoIf.no (fun hq => ?_) (by first | exact HO.out _ | exact (HO.out _).trans HOC.out (fun _ h => h.elim))⟩
       obtain ⟨q1, q2, q3, q4, q5, q6⟩ := hq
       clear CC HO
       try simp only at q1 q2 q3 q4 q5 q6
       try simp only [decide_eq_true_eq, decide_eq_false_iff_not, Bool.or_eq_false_iff, beq_eq_false_iff_ne, ne_eq] at *
       first
         | omega
         | (rcases q6 with q6 | q6
            · omega
            · simp_all; done))
theorem isSlotsP (n : Int) (w : World) :
    Calls Tryz.prog 129 #[.int .i64 n] w fun e w' => e = .returned (.bool (decide (0 ≤ n) && decide (n ≤ 64))) ∧ w = w' := by
  by_cases h : 0 ≤ n
  · go_enter Tryz.func129, Tryz.ntmps129
    go_wp2
    go_ret
    exact ⟨by simp [h], rfl⟩
  · go_enter Tryz.func129, Tryz.ntmps129
    go_wp2
    go_ret
    exact ⟨by rw [decide_eq_false (Int.not_le.2 h)]; rfl, rfl⟩
theorem checkCountP (n : Int) (w : World) :
    Calls Tryz.prog 127 #[.int .i64 n] w (GoIf (n ≤ 64) 2 w) := by
  by_cases h : 64 < n
  · go_enter Tryz.func127, Tryz.ntmps127
    go_wp2_with (go_at_call 93; refine (refuseN 2 (by decide) _).mono ?_; rintro e w' ⟨rfl, rfl⟩)
    exact ⟨rfl, GoIf.no (Int.not_le.2 h) (Only.refl _ _)⟩
  · go_enter Tryz.func127, Tryz.ntmps127
    go_wp2
    go_end0
    exact GoIf.yes (by first | trivial | assumption) (Only.refl _ _)
set_option maxRecDepth 100000 in
theorem checkMemberP (v : Value) (cs : List ConstV) (fl nm ds : Int) (w : World) (hp : Pool w v cs) :
    Calls Tryz.prog 98 #[v, .int .i64 fl, .int .i64 nm, .int .i64 ds] w (GoIf (FlagsP fl ∧ (textZ cs nm).2 = true ∧ (textZ cs ds).2 = true) 50 w) := by
  obtain ⟨ao, cap, rfl, _⟩ := id hp
  have cT := fun i w' (ho : Only (fun _ => False) w w') => isText _ cs i w' (hp.only ho (fun _ _ h => h))
  have CT := hid cT
  have HON := hid (Only.refl (fun _ => False) w)
  clear cT hp
  go_enter Tryz.func98, Tryz.ntmps98
  go_wp2_with (first | (go_at_call 96; refine (mustB _ _).mono ?_; rintro e w' ⟨⟨h, rfl⟩ | ⟨h, rfl⟩, rfl⟩) | (go_at_call 128; refine (CT.out _ _ HON.out).mono ?_; rintro e w' ⟨rfl, ho⟩; have HON := hid (HON.out.trans ho (fun _ h => h.elim)); clear ho))
  all_goals try (exfalso; (first | exact absurd (by assumption : true = false) (by decide) | exact absurd (by assumption : false = true) (by decide)); done)
  all_goals first
    | (go_end0
       refine GoIf.yes ⟨?_, ?_, ?_⟩ HON.out
       · clear HON CT
         show _ ∨ _
         first
           | (left; assumption)
           | (left; rfl)
           | (simp_all; done)
           | omega
       · assumption
       · assumption)
    | (refine ⟨rfl, GoIf.no (fun hq => ?_) HON.out⟩
       obtain ⟨q1, q2, q3⟩ := hq
       all_goals
         clear HON CT
         unfold FlagsP at q1
         try simp only [decide_eq_true_eq, decide_eq_false_iff_not, Bool.or_eq_false_iff, beq_eq_false_iff_ne, ne_eq] at *
         all_goals first
           | omega
           | (simp_all; done)
           | (simp_all; omega))
def Bare (cs : List ConstV) : Prop := (∀ c ∈ cs, c.tag = 1 → c.n = 0 ∧ c.a = 0 ∧ c.b = 0) ∧ (cs.getD 0 default).tag ≠ 1
theorem bare_of_right {cs : List ConstV} (h : checkZ cs = 0) : Bare cs := by
  obtain ⟨h1, h2, h3, h4⟩ := checkZ_zero h
  refine ⟨fun c hc ht => ?_, by rw [h3]; decide⟩
  obtain ⟨i, hi, rfl⟩ := List.mem_iff_getElem.1 hc
  have e : cs.getD i default = cs[i] := by simp [List.getD, hi]
  by_cases h0 : i = 0
  · subst h0; rw [← e, h3] at ht; exact absurd ht (by decide)
  · have hb := bare_of_one (h4 i (by omega) hi)
    rw [e] at hb
    unfold bareZ at hb
    rw [if_pos ht] at hb
    simpa using hb
noncomputable def idxZ (cs : List ConstV) (s : ByteArray) : Int := if placeOf cs s = 0 then -1 else placeOf cs s
theorem findFrom_pos {s : ByteArray} : ∀ {l : List ConstV} {i : Nat}, 1 ≤ i → findFrom s i l = 0 ∨ (i : Int) ≤ findFrom s i l
  | [], i, _ => .inl rfl
  | c :: r, i, hi => by
    by_cases hc : c.tag = 1 ∧ c.text = s
    · rw [findFrom_here rfl hc]; exact .inr (Int.le_refl _)
    · rw [findFrom_skip rfl hc]
      rcases findFrom_pos (s := s) (l := r) (i := i + 1) (by omega) with h | h
      · exact .inl h
      · exact .inr (by omega)
theorem idxZ_pos (cs : List ConstV) (s : ByteArray) : 0 < idxZ cs s ↔ placeOf cs s ≠ 0 := by
  unfold idxZ
  rcases findFrom_pos (s := s) (l := cs.drop 1) (i := 1) (by decide) with h | h
  · rw [if_pos (show placeOf cs s = 0 from h)]; exact ⟨fun h => absurd h (by decide), fun h' => absurd h h'⟩
  · have hne : placeOf cs s ≠ 0 := by unfold placeOf; omega
    rw [if_neg hne]
    refine ⟨fun _ => hne, fun _ => ?_⟩
    unfold placeOf
    omega
theorem indexP (v : Value) (cs : List ConstV) (s : ByteArray) (w : World) (hp : Pool w v cs) (hb : Bare cs) :
    Calls Tryz.prog 155 #[v, .agg #[.int .i64 1, .string s, .int .i64 0, .int .i64 0, .int .i64 0]] w fun e w' => e = .returned (.int .i64 (idxZ cs s)) ∧ Only (fun _ => False) w w' := by
  obtain ⟨ao, cap, rfl, h1, h2, h3, h4, h5⟩ := id hp
  have ho0 : ∀ o, Only (fun _ => False) w (w.alloc o) := fun o => (Only.refl _ _).alloc o
  have Hp := hid (hp.only (ho0 (.cells #[.int .i64 1, .string s, .int .i64 0, .int .i64 0, .int .i64 0] 113)) (fun _ _ h => h))
  have HO := hid ho0
  have HB := hid hb
  have hbx := heap_alloc_new w (.cells #[.int .i64 1, .string s, .int .i64 0, .int .i64 0, .int .i64 0] 113)
  have HBX := hid hbx
  clear h3 h4 h5 hp hb ho0 hbx
  go_enter Tryz.func155, Tryz.ntmps155
  go_wp2
  go_loopw [8] (fun i wr => ∃ j : Nat, j ≤ cs.length ∧ i = .int .i64 j ∧ (j = 0 ∨ (1 ≤ j ∧ placeOf cs s = findFrom s j (cs.drop j))) ∧ Only (fun _ => False) (w.alloc (.cells #[.int .i64 1, .string s, .int .i64 0, .int .i64 0, .int .i64 0] 113)) wr) (fun i _ => cs.length - (intOf i).toNat)
  case atStart => exact ⟨0, Nat.zero_le _, rfl, .inl rfl, Only.refl _ _⟩
  case round =>
    obtain ⟨j, hj, rfl, hpl, hwr⟩ := hrel
    have hbr := hwr.heap HBX.out (fun h => h)
    have q0 := cell_blk hbr 0
    have q1 := cell_blk hbr 1
    have q2 := cell_blk hbr 2
    have q3 := cell_blk hbr 3
    have q4 := cell_blk hbr 4
    simp at q0 q1 q2 q3 q4
    have hpr := Hp.out.only hwr (fun _ _ h => h)
    have HWR := hid hwr
    clear hwr hbr
    by_cases hlt : j < cs.length
    · obtain ⟨b, o, rfl, hc⟩ := Pool.at hpr hlt
      obtain ⟨g0, g1, g2, g3, g4⟩ := hc
      have hjz : (j : Int) < (cs.length : Int) := by omega
      have hdr : cs.drop j = cs.getD j default :: cs.drop (j + 1) := by rw [List.drop_eq_getElem_cons hlt]; simp [List.getD, hlt]
      have hz1 : j = 0 → (cs.getD j default).tag ≠ 1 := fun e => by subst e; exact HB.out.2
      have hbare := HB.out.1 _ (show cs.getD j default ∈ cs by simp [List.getD, hlt])
      by_cases hh : (cs.getD j default).tag = 1 ∧ (cs.getD j default).text = s
      · have hv : placeOf cs s = (j : Int) := by
          rcases hpl with e | ⟨_, hpl⟩
          · exact absurd hh.1 (hz1 e)
          · exact hpl.trans (findFrom_here hdr hh)
        have hj1 : 1 ≤ j := by rcases hpl with e | ⟨h, _⟩; exact absurd hh.1 (hz1 e); exact h
        have Hv := hid (show idxZ cs s = (j : Int) by unfold idxZ; rw [if_neg (by omega), hv])
        obtain ⟨ht, hx⟩ := hh
        obtain ⟨b1, b2, b3⟩ := hbare ht
        rw [ht] at g0
        rw [hx] at g1
        rw [b1] at g2
        rw [b2] at g3
        rw [b3] at g4
        clear hpr hdr hpl hv ht hx hz1 hbare b1 b2 b3
        go_wp2
        go_region
        go_wp2
        go_ret
        exact ⟨by rw [Hv.out]; rfl, (HO.out _).trans ((HWR.out.drew)) (fun _ h => h.elim)⟩
      · have hv : placeOf cs s = findFrom s (j + 1) (cs.drop (j + 1)) := by
          rcases hpl with e | ⟨_, hpl⟩
          · subst e; rfl
          · exact hpl.trans (findFrom_skip hdr hh)
        have Hv := hid hv
        by_cases ht : (cs.getD j default).tag = 1
        · have hx : s ≠ (cs.getD j default).text := fun e => hh ⟨ht, e.symm⟩
          have hne := text_ne hx
          rw [ht] at g0
          generalize (cs.getD j default) = c at *
          obtain ⟨_, x, n, a, bb⟩ := c
          simp only at *
          clear hpr hdr hpl hv ht hx hh hz1 hbare
          go_wp2
          go_region
          go_wp2
          go_roundw
          case rel => exact ⟨j + 1, by omega, by go_num, .inr ⟨by omega, Hv.out⟩, HWR.out.drew⟩
          case measure => simp [intOf]; omega
        · have hne : ((1 : Int) == (cs.getD j default).tag) = false := by simpa using fun e => ht e.symm
          generalize (cs.getD j default) = c at *
          obtain ⟨t, x, n, a, bb⟩ := c
          simp only at *
          clear hpr hdr hpl hv ht hh hz1 hbare
          go_wp2
          go_region
          go_wp2
          go_roundw
          case rel => exact ⟨j + 1, by omega, by go_num, .inr ⟨by omega, Hv.out⟩, HWR.out.drew⟩
          case measure => simp [intOf]; omega
    · have hz : idxZ cs s = -1 := by
        have hp0 : placeOf cs s = 0 := by
          rcases hpl with e | ⟨_, hpl⟩
          · have : cs = [] := List.eq_nil_of_length_eq_zero (by omega)
            subst this
            rfl
          · rw [hpl, List.drop_eq_nil_of_le (by omega)]; rfl
        unfold idxZ
        rw [if_pos hp0]
      have Hz := hid hz
      have hjz : (cs.length : Int) ≤ (j : Int) := by omega
      clear hz hpl hpr
      go_wp2
      go_ret
      exact ⟨by rw [Hz.out]; rfl, (HO.out _).trans HWR.out (fun _ h => h.elim)⟩
theorem progPlace (v : Value) (cs : List ConstV) (s : ByteArray) (w : World) (hp : Pool w v cs) (hb : Bare cs) :
    Calls Tryz.prog 131 #[v, .string s] w fun e w' => e = .returned (.int .i64 (idxZ cs s)) ∧ Only (fun _ => False) w w' := by
  have c := indexP v cs s w hp hb
  obtain ⟨ao, cap, rfl, _⟩ := id hp
  go_enter Tryz.func131, Tryz.ntmps131
  go_wp2_with (go_at_call 155; refine c.mono ?_; rintro e w' ⟨rfl, ho⟩)
  go_ret
  exact ⟨rfl, ho⟩
theorem clsSuper (vp vf vm : Value) (cs : List ConstV) (this super : Int) (w : World) (hp : Pool w vp cs) :
    Calls Tryz.prog 158 #[.agg #[vp, .int .i64 this, .int .i64 super, vf, vm]] w fun e w' => e = .returned (.string (classZ cs super).1) ∧ Only (fun _ => False) w w' := by
  obtain ⟨ao, cap, rfl, _⟩ := id hp
  have ho0 : ∀ o, Only (fun _ => False) w (w.alloc o) := fun o => (Only.refl _ _).alloc o
  have c := fun o => progClass _ cs super _ (hp.only (ho0 o) (fun _ _ h => h))
  go_enter Tryz.func158, Tryz.ntmps158
  go_wp2_with (go_at_call 53; refine (c _).mono ?_; rintro e w' ⟨rfl, ho⟩)
  go_ret
  exact ⟨rfl, (ho0 _).trans ho (fun _ h => h.elim)⟩
theorem refClsName (vp vf vm : Value) (cs : List ConstV) (this super : Int) (w : World) (hp : Pool w vp cs) :
    Calls Tryz.prog 77 #[.agg #[vp, .int .i64 this, .int .i64 super, vf, vm]] w fun e w' => e = .returned (.string (classZ cs this).1) ∧ Only (fun _ => False) w w' := by
  obtain ⟨ao, cap, rfl, _⟩ := id hp
  have ho0 : ∀ o, Only (fun _ => False) w (w.alloc o) := fun o => (Only.refl _ _).alloc o
  have c := fun o => refClass _ cs this _ (hp.only (ho0 o) (fun _ _ h => h))
  go_enter Tryz.func77, Tryz.ntmps77
  go_wp2_with (go_at_call 24; refine (c _).mono ?_; rintro e w' ⟨rfl, rfl⟩)
  go_ret
  exact ⟨rfl, ho0 _⟩
theorem refClsSuper (vp vf vm : Value) (cs : List ConstV) (this super : Int) (w : World) (hp : Pool w vp cs) :
    Calls Tryz.prog 78 #[.agg #[vp, .int .i64 this, .int .i64 super, vf, vm]] w fun e w' => e = .returned (.string (classZ cs super).1) ∧ Only (fun _ => False) w w' := by
  obtain ⟨ao, cap, rfl, _⟩ := id hp
  have ho0 : ∀ o, Only (fun _ => False) w (w.alloc o) := fun o => (Only.refl _ _).alloc o
  have c := fun o => refClass _ cs super _ (hp.only (ho0 o) (fun _ _ h => h))
  go_enter Tryz.func78, Tryz.ntmps78
  go_wp2_with (go_at_call 24; refine (c _).mono ?_; rintro e w' ⟨rfl, rfl⟩)
  go_ret
  exact ⟨rfl, ho0 _⟩
end Go.Proofs.YtinbelghhfodiaaGreatDoor
namespace Go.Proofs.YtinbelghhfodiaaGreatDoor
set_option maxHeartbeats 4000000
open Lib (hid)
open Go.RowKit Go.Maps
set_option linter.unusedVariables false
set_option linter.unusedSimpArgs false
theorem mName_b (n : Nat) (v : Value) (w : World) : (method (n + 1) 126 v "understudy/link.name").run Tryz.prog w = .ok (225, v) w := by kernel_rfl
theorem mSuper_b (n : Nat) (v : Value) (w : World) : (method (n + 1) 126 v "understudy/link.super").run Tryz.prog w = .ok (226, v) w := by kernel_rfl
theorem mFields_b (n : Nat) (v : Value) (w : World) : (method (n + 1) 126 v "understudy/link.fields").run Tryz.prog w = .ok (222, v) w := by kernel_rfl
theorem mMethods_b (n : Nat) (v : Value) (w : World) : (method (n + 1) 126 v "understudy/link.methods").run Tryz.prog w = .ok (224, v) w := by kernel_rfl
theorem mMethod_b (n : Nat) (v : Value) (w : World) : (method (n + 1) 126 v "understudy/link.method").run Tryz.prog w = .ok (223, v) w := by kernel_rfl
theorem mName_l (n : Nat) (v : Value) (w : World) : (method (n + 1) 128 v "understudy/link.name").run Tryz.prog w = .ok (133, v) w := by kernel_rfl
theorem mSuper_l (n : Nat) (v : Value) (w : World) : (method (n + 1) 128 v "understudy/link.super").run Tryz.prog w = .ok (134, v) w := by kernel_rfl
theorem mFields_l (n : Nat) (v : Value) (w : World) : (method (n + 1) 128 v "understudy/link.fields").run Tryz.prog w = .ok (227, v) w := by kernel_rfl
theorem mMethods_l (n : Nat) (v : Value) (w : World) : (method (n + 1) 128 v "understudy/link.methods").run Tryz.prog w = .ok (137, v) w := by kernel_rfl
theorem mMethod_l (n : Nat) (v : Value) (w : World) : (method (n + 1) 128 v "understudy/link.method").run Tryz.prog w = .ok (228, v) w := by kernel_rfl
theorem cells8L {w : World} {b : Nat} {c0 c1 c2 c3 c4 c5 c6 c7 : Value} {t : TypeId} {f : Nat × Nat} (h : w.heap[b]? = some (.cells #[c0, c1, c2, c3, c4, c5, c6, c7] t f)) :
    w.cell? ⟨b, 0, none⟩ = some c0 ∧ w.cell? ⟨b, 1, none⟩ = some c1 ∧ w.cell? ⟨b, 2, none⟩ = some c2 ∧ w.cell? ⟨b, 3, none⟩ = some c3 ∧ w.cell? ⟨b, 4, none⟩ = some c4 ∧ w.cell? ⟨b, 5, none⟩ = some c5 ∧ w.cell? ⟨b, 6, none⟩ = some c6 ∧ w.cell? ⟨b, 7, none⟩ = some c7 :=
  ⟨cell_blk h 0, cell_blk h 1, cell_blk h 2, cell_blk h 3, cell_blk h 4, cell_blk h 5, cell_blk h 6, cell_blk h 7⟩
theorem bName (a b c : Value) (w : World) : Calls Tryz.prog 225 #[.agg #[a, b, c]] w fun e w' => e = .returned a ∧ Only (fun _ => False) w w' := by
  have ho := (Only.refl (fun _ => False) w).alloc (.cells #[a, b, c] 126)
  have HO := hid ho
  clear ho
  go_enter Tryz.func225, Tryz.ntmps225
  go_wp2
  go_ret
  exact ⟨rfl, HO.out⟩
theorem bSuper (a b c : Value) (w : World) : Calls Tryz.prog 226 #[.agg #[a, b, c]] w fun e w' => e = .returned b ∧ Only (fun _ => False) w w' := by
  have ho := (Only.refl (fun _ => False) w).alloc (.cells #[a, b, c] 126)
  have HO := hid ho
  clear ho
  go_enter Tryz.func226, Tryz.ntmps226
  go_wp2
  go_ret
  exact ⟨rfl, HO.out⟩
theorem bFields (a b c : Value) (w : World) : Calls Tryz.prog 222 #[.agg #[a, b, c]] w fun e w' => e = .returned (.slice none 0 0) ∧ Only (fun _ => False) w w' := by
  have ho := (Only.refl (fun _ => False) w).alloc (.cells #[a, b, c] 126)
  have HO := hid ho
  clear ho
  go_enter Tryz.func222, Tryz.ntmps222
  go_wp2
  go_ret
  exact ⟨rfl, HO.out⟩
theorem bMethods (a b c : Value) (w : World) : Calls Tryz.prog 224 #[.agg #[a, b, c]] w fun e w' => e = .returned c ∧ Only (fun _ => False) w w' := by
  have ho := (Only.refl (fun _ => False) w).alloc (.cells #[a, b, c] 126)
  have HO := hid ho
  clear ho
  go_enter Tryz.func224, Tryz.ntmps224
  go_wp2
  go_ret
  exact ⟨rfl, HO.out⟩
section
variable {w : World} {lb i : Nat} {c : ClassV} {vp vf vm vof vom : Value} (hl : w.heap[lb]? = some (listedO i c vp vf vm vof vom))
include hl
theorem lName (hp : Pool w vp c.pool) : Calls Tryz.prog 133 #[.pointer (some ⟨lb, 0, none⟩)] w fun e w' => e = .returned (.string (classZ c.pool c.this).1) ∧ Only (fun _ => False) w w' := by
  obtain ⟨q0, q1, q2, q3, q4, q5, q6, q7⟩ := cells8L hl
  have C1 := hid (clsName vp vf vm c.pool c.this c.super w hp)
  clear hl hp
  go_enter Tryz.func133, Tryz.ntmps133
  go_wp2_with (fail)
  refine C1.out.mono ?_
  rintro e w1 ⟨rfl, ho⟩
  have HO := hid ho
  clear ho
  go_wp2
  go_ret
  exact ⟨rfl, HO.out⟩
theorem lSuper (hp : Pool w vp c.pool) : Calls Tryz.prog 134 #[.pointer (some ⟨lb, 0, none⟩)] w fun e w' => e = .returned (.string (classZ c.pool c.super).1) ∧ Only (fun _ => False) w w' := by
  obtain ⟨q0, q1, q2, q3, q4, q5, q6, q7⟩ := cells8L hl
  have C1 := hid (clsSuper vp vf vm c.pool c.this c.super w hp)
  clear hl hp
  go_enter Tryz.func134, Tryz.ntmps134
  go_wp2_with (fail)
  refine C1.out.mono ?_
  rintro e w1 ⟨rfl, ho⟩
  have HO := hid ho
  clear ho
  go_wp2
  go_ret
  exact ⟨rfl, HO.out⟩
theorem lFields : Calls Tryz.prog 227 #[.pointer (some ⟨lb, 0, none⟩)] w fun e w' => e = .returned vof ∧ Only (fun _ => False) w w' := by
  obtain ⟨q0, q1, q2, q3, q4, q5, q6, q7⟩ := cells8L hl
  clear hl
  go_enter Tryz.func227, Tryz.ntmps227
  go_wp2
  go_ret
  exact ⟨rfl, Only.refl _ _⟩
theorem lMethods : Calls Tryz.prog 137 #[.pointer (some ⟨lb, 0, none⟩)] w fun e w' => e = .returned vom ∧ Only (fun _ => False) w w' := by
  obtain ⟨q0, q1, q2, q3, q4, q5, q6, q7⟩ := cells8L hl
  clear hl
  go_enter Tryz.func137, Tryz.ntmps137
  go_wp2
  go_ret
  exact ⟨rfl, Only.refl _ _⟩
end
structure Asks (w : World) (T : TypeId) (v : Value) (name : String) (r : Value) (n : FuncId) : Prop where
  look : ∀ W, (method 417 T v name).run Tryz.prog W = .ok (n, v) W
  enters : ∀ args W, (callFunc n args).run Tryz.prog W = .ok (.enter n args) W
  calls : ∀ W, Only (fun _ => False) w W → Calls Tryz.prog n #[v] W fun e w' => e = .returned r ∧ Only (fun _ => False) W w'
structure Told (w : World) (iv : Value) (k : KindV) (vof : Value) (T : TypeId) (v vom : Value) : Prop where
  eq : iv = .iface T v
  name : ∃ n, Asks w T v "understudy/link.name" (.string k.name) n
  super : ∃ n, Asks w T v "understudy/link.super" (.string k.super) n
  fields : ∃ n, Asks w T v "understudy/link.fields" vof n
  meths : ∃ n, Asks w T v "understudy/link.methods" vom n
  mem : MemS w vom k.meths (fun _ => 0)
theorem KnownG.told {G : Nat → Prop} {w : World} {i : Nat} {iv : Value} {k : KindV} {c : ClassV} {vof : Value} (h : KnownG G w i iv k c vof) : ∃ T v vom, Told w iv k vof T v vom := by
  rcases h with ⟨h1, h2, h3, vom, h4, h5⟩ | ⟨h1, h2, lb, vp, vf, vm, vom, h3, h4, h5, h6, h7⟩
  · subst h3
    refine ⟨_, _, vom, h4, ⟨_, fun W => mName_b 416 _ W, enters_of Tryz.func225 (by kernel_rfl) rfl, fun W _ => bName _ _ _ W⟩, ⟨_, fun W => mSuper_b 416 _ W, enters_of Tryz.func226 (by kernel_rfl) rfl, fun W _ => bSuper _ _ _ W⟩, ⟨_, fun W => mFields_b 416 _ W, enters_of Tryz.func222 (by kernel_rfl) rfl, fun W _ => bFields _ _ _ W⟩, ⟨_, fun W => mMethods_b 416 _ W, enters_of Tryz.func224 (by kernel_rfl) rfl, fun W _ => bMethods _ _ _ W⟩, h5.mem⟩
  · subst h2
    refine ⟨_, _, vom, h3, ⟨_, fun W => mName_l 416 _ W, enters_of Tryz.func133 (by kernel_rfl) rfl, fun W hW => lName (hW.heap h5 (fun h => h)) (h6.pool.only hW (fun _ _ h => h))⟩, ⟨_, fun W => mSuper_l 416 _ W, enters_of Tryz.func134 (by kernel_rfl) rfl, fun W hW => lSuper (hW.heap h5 (fun h => h)) (h6.pool.only hW (fun _ _ h => h))⟩, ⟨_, fun W => mFields_l 416 _ W, enters_of Tryz.func227 (by kernel_rfl) rfl, fun W hW => lFields (hW.heap h5 (fun h => h))⟩, ⟨_, fun W => mMethods_l 416 _ W, enters_of Tryz.func137 (by kernel_rfl) rfl, fun W hW => lMethods (hW.heap h5 (fun h => h))⟩, h7.mem⟩
section
variable {G : Nat → Prop} {fv : Nat → Value} {w : World} {pb : Nat} {ks : List KindV} {cl : Nat → ClassV} {sl : Nat → Nat → Int} (h : ProgG G fv w pb ks cl sl) (hn : 0 < ks.length)
include h hn
theorem pIsMade : Calls Tryz.prog 80 #[.pointer (some ⟨pb, 0, none⟩)] w fun e w' => e = .returned (.bool true) ∧ w = w' := by
  obtain ⟨b, o, cap, mb, q0, q1, p1, p2, hm, hk⟩ := h.open hn
  have hz : (0 : Int) < (ks.length : Int) := by omega
  clear h hm hk
  go_enter Tryz.func80, Tryz.ntmps80
  go_wp2
  go_ret
  exact ⟨rfl, rfl⟩
theorem pLen : Calls Tryz.prog 41 #[.pointer (some ⟨pb, 0, none⟩)] w fun e w' => e = .returned (.int .i64 ks.length) ∧ w = w' := by
  have C1 := hid (pIsMade h hn)
  obtain ⟨b, o, cap, mb, q0, q1, p1, p2, hm, hk⟩ := h.open hn
  clear h hm hk
  go_enter Tryz.func41, Tryz.ntmps41
  go_wp2_with (fail)
  refine C1.out.mono ?_
  rintro e w1 ⟨rfl, rfl⟩
  go_wp2
  go_ret
  exact ⟨rfl, rfl⟩
theorem pHas (n : Int) : Calls Tryz.prog 82 #[.pointer (some ⟨pb, 0, none⟩), .int .i64 n] w fun e w' => e = .returned (.bool (decide (0 ≤ n) && decide (n < ks.length))) ∧ w = w' := by
  have C1 := hid (pLen h hn)
  clear h
  by_cases h0 : 0 ≤ n
  · have hd : decide (0 ≤ n) = true := by simpa using h0
    rw [hd]
    clear hd
    go_enter Tryz.func82, Tryz.ntmps82
    go_wp2_with (fail)
    refine C1.out.mono ?_
    rintro e w1 ⟨rfl, rfl⟩
    go_wp2
    go_ret
    exact ⟨by simp, rfl⟩
  · have hd : decide (0 ≤ n) = false := by simpa using h0
    rw [hd]
    clear hd
    go_enter Tryz.func82, Tryz.ntmps82
    go_wp2
    go_ret
    exact ⟨rfl, rfl⟩
end
section
variable {G : Nat → Prop} {fv : Nat → Value} {w : World} {pb : Nat} {ks : List KindV} {cl : Nat → ClassV} {sl : Nat → Nat → Int} (h : ProgG G fv w pb ks cl sl) (hn : 0 < ks.length)
include h hn
set_option maxRecDepth 100000 in
theorem pFind (x : ByteArray) (hx : x.size ≤ maxLen) : Calls Tryz.prog 56 #[.pointer (some ⟨pb, 0, none⟩), .string x] w fun e w' => e = .returned (.int .i64 (findZ ks x)) ∧ w = w' := by
  have C1 := hid (pIsMade h hn)
  obtain ⟨b, o, cap, mb, q0, q1, p1, p2, ⟨n, D, hm1, hm2, hm3, hm4⟩, hk⟩ := h.open hn
  have HM := hid hm2
  have HX := hid hx
  obtain ⟨hh, ha⟩ := hm4 x
  clear h hm2 hm4 hk hx hn
  by_cases hneg : findZ ks x < 0
  · rw [show decide (findZ ks x < 0) = true by simpa using hneg, Bool.not_true] at hh
    have HH := hid hh
    have HP : Hid (findZ ks x = -1) := by
      refine hid ?_
      rcases findZ_cases ks x with h | ⟨j, _, h⟩
      · exact h
      · omega
    clear hh ha hneg
    go_enter Tryz.func56, Tryz.ntmps56
    go_wp2_with (fail)
    refine C1.out.mono ?_
    rintro e w1 ⟨rfl, rfl⟩
    go_wp2_with (at_lookup; go_loud (refine wpList_lookup_own_ok_int _ rfl _ _ 118 rfl 9 3 .i64 (Maps.string_keyed Tryz.underlying9) Tryz.underlying118 Tryz.underlying3 (zero_int8 _) mb n D rfl (by exact HM.out) _ _ rfl (Go.WideMaps.keyOf_string_mk Tryz.underlying9 HX.out) ?_); intro c hat hwc; rw [show Maps.has D (.string x.data.toList) = _ from HH.out]; clear hat hwc)
    go_ret
    rw [HP.out]
    exact ⟨rfl, rfl⟩
  · rw [show decide (findZ ks x < 0) = false by simpa using hneg, Bool.not_false] at hh
    have HH := hid hh
    have HA := hid (ha hneg)
    clear hh ha hneg
    go_enter Tryz.func56, Tryz.ntmps56
    go_wp2_with (fail)
    refine C1.out.mono ?_
    rintro e w1 ⟨rfl, rfl⟩
    go_wp2_with (at_lookup; go_loud (refine wpList_lookup_own_ok_int _ rfl _ _ 118 rfl 9 3 .i64 (Maps.string_keyed Tryz.underlying9) Tryz.underlying118 Tryz.underlying3 (zero_int8 _) mb n D rfl (by exact HM.out) _ _ rfl (Go.WideMaps.keyOf_string_mk Tryz.underlying9 HX.out) ?_); intro c hat hwc; rw [show Maps.has D (.string x.data.toList) = _ from HH.out]; have hc := lit_eq (hat.symm.trans HA.out); have HC := hid hc; clear hat hwc hc)
    go_ret
    rw [HC.out]
    exact ⟨rfl, rfl⟩
def nameZ (ks : List KindV) (n : Int) : ByteArray := if n < 0 then ⟨#[]⟩ else (ks.getD n.toNat default).name
omit h hn in
theorem nameZ_out {n : Int} (hi : (ks.length : Int) ≤ n) : nameZ ks n = ⟨#[]⟩ := by
  unfold nameZ
  split
  · rfl
  · have : (ks.getD n.toNat default) = default := by simp [List.getD, List.getElem?_eq_none (show ks.length ≤ n.toNat by omega)]
    rw [this]; rfl
set_option maxRecDepth 100000 in
theorem pName (n : Int) : Calls Tryz.prog 111 #[.pointer (some ⟨pb, 0, none⟩), .int .i64 n] w fun e w' => e = .returned (.string (nameZ ks n)) ∧ Only (fun _ => False) w w' := by
  have c1 := pHas h hn n
  by_cases h0 : n < 0
  · have HR := hid (show nameZ ks n = ⟨#[]⟩ from if_pos h0)
    rw [show (decide (0 ≤ n) && decide (n < (ks.length : Int))) = false by simp; omega] at c1
    have C1 := hid c1
    clear h hn h0 c1
    go_enter Tryz.func111, Tryz.ntmps111
    go_wp2_with (fail)
    refine C1.out.mono ?_
    rintro e w1 ⟨rfl, rfl⟩
    go_wp2
    go_ret
    rw [HR.out]
    exact ⟨rfl, Only.refl _ _⟩
  by_cases h1 : (ks.length : Int) ≤ n
  · have HR := hid (nameZ_out h1)
    rw [show (decide (0 ≤ n) && decide (n < (ks.length : Int))) = false by simp; omega] at c1
    have C1 := hid c1
    clear h hn h0 h1 c1
    go_enter Tryz.func111, Tryz.ntmps111
    go_wp2_with (fail)
    refine C1.out.mono ?_
    rintro e w1 ⟨rfl, rfl⟩
    go_wp2
    go_ret
    rw [HR.out]
    exact ⟨rfl, Only.refl _ _⟩
  · obtain ⟨j, rfl⟩ := Int.eq_ofNat_of_zero_le (show 0 ≤ n by omega)
    have hj : j < ks.length := by omega
    have HR := hid (show nameZ ks (j : Int) = (ks.getD j default).name by unfold nameZ; rw [if_neg (by omega)]; rfl)
    rw [show (decide (0 ≤ (j : Int)) && decide ((j : Int) < (ks.length : Int))) = true by simp; omega] at c1
    obtain ⟨b, o, cap, mb, q0, q1, p1, p2, hm, hk⟩ := h.open hn
    obtain ⟨iv, q2, hkn⟩ := hk j hj
    obtain ⟨T, v, vom, ht⟩ := hkn.told
    obtain ⟨rfl, ⟨nn, hq, hen, hcalls⟩, -, -, -, -⟩ := ht
    have hjz : (j : Int) < (ks.length : Int) := by omega
    have hj0 : (0 : Int) ≤ (j : Int) := by omega
    have C1 := hid c1
    have C2 := hid (hcalls w (Only.refl _ _))
    generalize ks.getD j default = p at *
    clear h hn hk hkn hm c1 h0 h1 hcalls
    go_enter Tryz.func111, Tryz.ntmps111
    go_wp2_with (fail)
    refine C1.out.mono ?_
    rintro e w1 ⟨rfl, rfl⟩
    go_wp2_with (fail)
    refine C2.out.mono ?_
    rintro e w2 ⟨rfl, ho2⟩
    have HO2 := hid ho2
    clear ho2
    go_wp2
    go_ret
    rw [HR.out]
    exact ⟨rfl, HO2.out⟩
set_option maxRecDepth 100000 in
theorem pSuper (hroot : findZ ks (ks.getD 0 default).super = -1) (hf : ∀ k ∈ ks, FineK k) (n : Int) : Calls Tryz.prog 71 #[.pointer (some ⟨pb, 0, none⟩), .int .i64 n] w fun e w' => e = .returned (.int .i64 (superZ ks n)) ∧ Only (fun _ => False) w w' := by
  have c1 := pHas h hn n
  by_cases h0 : 0 ≤ n ∧ n < (ks.length : Int)
  · obtain ⟨j, rfl⟩ := Int.eq_ofNat_of_zero_le h0.1
    have hj : j < ks.length := by omega
    have HR := hid (show superZ ks (j : Int) = findZ ks (ks.getD j default).super by
      by_cases hj0 : j = 0
      · subst hj0; rw [hroot]; exact super_zero ks
      · exact super_list (by omega) hj)
    rw [show (decide (0 ≤ (j : Int)) && decide ((j : Int) < (ks.length : Int))) = true by simp; omega] at c1
    have hsz := (hf _ (getD_mem hj)).super
    have CF := hid (fun W (hW : ProgG G fv W pb ks cl sl) => pFind hW hn (ks.getD j default).super (by unfold maxLen; omega))
    have H := hid h
    obtain ⟨b, o, cap, mb, q0, q1, p1, p2, hm, hk⟩ := h.open hn
    obtain ⟨iv, q2, hkn⟩ := hk j hj
    obtain ⟨T, v, vom, ht⟩ := hkn.told
    obtain ⟨rfl, -, ⟨nn, hq, hen, hcalls⟩, -, -, -⟩ := ht
    have hjz : (j : Int) < (ks.length : Int) := by omega
    have hj0 : (0 : Int) ≤ (j : Int) := by omega
    have C1 := hid c1
    have C2 := hid (hcalls w (Only.refl _ _))
    generalize ks.getD j default = p at *
    clear h hn hk hkn hm c1 h0 hcalls hroot hf hsz
    go_enter Tryz.func71, Tryz.ntmps71
    go_wp2_with (fail)
    refine C1.out.mono ?_
    rintro e w1 ⟨rfl, rfl⟩
    go_wp2_with (fail)
    refine C2.out.mono ?_
    rintro e w2 ⟨rfl, ho2⟩
    have HO2 := hid ho2
    go_wp2_with (fail)
    refine (CF.out _ (H.out.only ho2)).mono ?_
    rintro e w3 ⟨rfl, rfl⟩
    clear ho2
    go_wp2
    go_ret
    rw [HR.out]
    exact ⟨rfl, HO2.out⟩
  · have HR := hid (show superZ ks n = -1 by
      by_cases h1 : n < 1
      · exact if_pos h1
      · unfold superZ; rw [if_neg h1, if_pos (by omega)])
    rw [show (decide (0 ≤ n) && decide (n < (ks.length : Int))) = false by simp; omega] at c1
    have C1 := hid c1
    clear h hn h0 c1 hroot hf
    go_enter Tryz.func71, Tryz.ntmps71
    go_wp2_with (fail)
    refine C1.out.mono ?_
    rintro e w1 ⟨rfl, rfl⟩
    go_wp2
    go_ret
    rw [HR.out]
    exact ⟨rfl, Only.refl _ _⟩
end
end Go.Proofs.YtinbelghhfodiaaGreatDoor
namespace Go.Proofs.YtinbelghhfodiaaGreatDoor
set_option maxHeartbeats 4000000
open Lib (hid)
open Go.RowKit
set_option linter.unusedVariables false
set_option linter.unusedSimpArgs false
theorem pStatic (m : MethN) (s : Int) (w : World) : Calls Tryz.prog 72 #[.agg #[.string m.name, .string m.desc, .int .i64 m.flags, .int .i64 s]] w fun e w' => e = .returned (.bool (m.flags == 8)) ∧ Only (fun _ => False) w w' := by
  have ho := (Only.refl (fun _ => False) w).alloc (.cells #[.string m.name, .string m.desc, .int .i64 m.flags, .int .i64 s] 146)
  have HO := hid ho
  clear ho
  go_enter Tryz.func72, Tryz.ntmps72
  go_wp2
  go_ret
  exact ⟨rfl, HO.out⟩
end Go.Proofs.YtinbelghhfodiaaGreatDoor
namespace Go.Proofs.YtinbelghhfodiaaGreatDoor
set_option maxHeartbeats 4000000
open Lib (hid)
open Go.RowKit Go.Maps
set_option linter.unusedVariables false
set_option linter.unusedSimpArgs false
theorem cells4L {w : World} {b : Nat} {c0 c1 c2 c3 : Value} {t : TypeId} {f : Nat × Nat} (h : w.heap[b]? = some (.cells #[c0, c1, c2, c3] t f)) :
    w.cell? ⟨b, 0, none⟩ = some c0 ∧ w.cell? ⟨b, 1, none⟩ = some c1 ∧ w.cell? ⟨b, 2, none⟩ = some c2 ∧ w.cell? ⟨b, 3, none⟩ = some c3 := ⟨cell_blk h 0, cell_blk h 1, cell_blk h 2, cell_blk h 3⟩
def memV (m : MethN) (s : Int) : Value := .agg #[.string m.name, .string m.desc, .int .i64 m.flags, .int .i64 s]
set_option maxRecDepth 100000 in
theorem pNamed (m : MethN) (s : Int) (n d : ByteArray) (b1 b2 : Nat) (w : World) (h1 : w.cell? ⟨b1, 0, none⟩ = some (.string n)) (h2 : w.cell? ⟨b2, 0, none⟩ = some (.string d)) :
    Calls Tryz.prog 160 #[.agg #[.string m.name, .string m.desc, .int .i64 m.flags, .int .i64 s], .pointer (some ⟨b1, 0, none⟩), .pointer (some ⟨b2, 0, none⟩)] w fun e w' => e = .returned (.bool (decide (m.name = n ∧ m.desc = d))) ∧ Only (fun _ => False) w w' := by
  have ho := (Only.refl (fun _ => False) w).alloc (.cells #[.string m.name, .string m.desc, .int .i64 m.flags, .int .i64 s] 146)
  have hb := heap_alloc_new w (.cells #[.string m.name, .string m.desc, .int .i64 m.flags, .int .i64 s] 146)
  obtain ⟨r0, r1, r2, r3⟩ := cells4L hb
  have q1 := ho.cell h1 (fun h => h)
  have q2 := ho.cell h2 (fun h => h)
  have HO := hid ho
  clear ho h1 h2 hb
  by_cases e1 : m.name = n
  · subst e1
    by_cases e2 : m.desc = d
    · subst e2
      have hd : decide (m.name = m.name ∧ m.desc = m.desc) = true := by simp
      rw [hd]
      clear hd
      go_enter Tryz.func160, Tryz.ntmps160
      go_wp2
      go_ret
      exact ⟨by simp, HO.out⟩
    · have hd : decide (m.name = m.name ∧ m.desc = d) = false := by simp [e2]
      rw [hd]
      obtain ⟨n1, n2⟩ := toList_beq e2
      clear hd e2
      go_enter Tryz.func160, Tryz.ntmps160
      go_wp2
      go_ret
      exact ⟨rfl, HO.out⟩
  · have hd : decide (m.name = n ∧ m.desc = d) = false := by simp [e1]
    rw [hd]
    obtain ⟨n1, n2⟩ := toList_beq e1
    clear hd e1
    go_enter Tryz.func160, Tryz.ntmps160
    go_wp2
    go_ret
    exact ⟨rfl, HO.out⟩
set_option maxRecDepth 100000 in
theorem indexMs (v : Value) (l : List MethN) (sl : Nat → Int) (n d : ByteArray) (b1 b2 : Nat) (w : World) (hl : MemS w v l sl) (h1 : w.cell? ⟨b1, 0, none⟩ = some (.string n)) (h2 : w.cell? ⟨b2, 0, none⟩ = some (.string d)) (hn : l.length ≤ 9223372036854775806) :
    Calls Tryz.prog 159 #[v, .func (.func 160) #[] #[.pointer (some ⟨b1, 0, none⟩), .pointer (some ⟨b2, 0, none⟩)]] w fun e w' => e = .returned (.int .i64 (hasZ l n d)) ∧ Only (fun _ => False) w w' := by
  obtain ⟨ao, cap, rfl, p1, p2, p3, p4⟩ := id hl
  have HL := hid hl
  have H1 := hid h1
  have H2 := hid h2
  have hen : ∀ args w, (callFunc 160 args).run Tryz.prog w = .ok (.enter 160 args) w := enters_of Tryz.func160 (by kernel_rfl) rfl
  clear hl p3 p4 h1 h2
  go_enter Tryz.func159, Tryz.ntmps159
  go_wp2
  go_loopw [8] (fun i wr => ∃ j : Nat, i = .int .i64 j ∧ j ≤ l.length ∧ hasZ l n d = hasFrom n d j (l.drop j) ∧ Only (fun _ => False) w wr) (fun i _ => l.length - (intOf i).toNat)
  case atStart => exact ⟨0, rfl, Nat.zero_le _, rfl, Only.refl _ _⟩
  case round =>
    obtain ⟨j, rfl, hj, hat, hon⟩ := hrel
    have HON := hid hon
    by_cases hlt : j < l.length
    · obtain ⟨bb, o, rfl, c⟩ := Sl.at (MemS.only HL.out hon) hlt
      have hpf := hasFrom_at (n := n) (d := d) hlt
      have hjz : (j : Int) < (l.length : Int) := by omega
      have c1 := pNamed (l.getD j default) (sl j) n d b1 b2 wr (hon.cell H1.out (fun h => h)) (hon.cell H2.out (fun h => h))
      obtain ⟨q0, q1, q2, q3⟩ := c
      by_cases hx : (l.getD j default).name = n ∧ (l.getD j default).desc = d
      · have HR := hid (show hasZ l n d = j by rw [hat, hpf, if_pos hx])
        rw [show decide ((l.getD j default).name = n ∧ (l.getD j default).desc = d) = true by simpa using hx] at c1
        have C1 := hid c1
        generalize l.getD j default = k at *
        generalize sl j = s at *
        clear hat hpf hx hon c1
        go_wp2_with (fail)
        refine C1.out.mono ?_
        rintro e w1 ⟨rfl, ho1⟩
        have HON1 := hid (HON.out.trans ho1 (fun _ h _ => h))
        clear ho1 C1
        go_wp2
        go_ret
        rw [HR.out]
        exact ⟨rfl, HON1.out⟩
      · have HR := hid (show hasZ l n d = hasFrom n d (j + 1) (l.drop (j + 1)) by rw [hat, hpf, if_neg hx])
        rw [show decide ((l.getD j default).name = n ∧ (l.getD j default).desc = d) = false by simpa using hx] at c1
        have C1 := hid c1
        generalize l.getD j default = k at *
        generalize sl j = s at *
        clear hat hpf hx hon c1
        go_wp2_with (fail)
        refine C1.out.mono ?_
        rintro e w1 ⟨rfl, ho1⟩
        have HON1 := hid (HON.out.trans ho1 (fun _ h _ => h))
        clear ho1 C1
        go_wp2
        go_roundw
        case rel => exact ⟨j + 1, by go_num, by omega, HR.out, HON1.out⟩
        case measure => simp [intOf]; omega
    · have HR := hid (show hasZ l n d = -1 by rw [hat, List.drop_of_length_le (by omega)]; rfl)
      obtain rfl : j = l.length := by omega
      clear hat hj hlt hon
      go_wp2
      go_ret
      rw [HR.out]
      exact ⟨rfl, HON.out⟩
set_option maxRecDepth 100000 in
theorem pPlaceOf (v : Value) (l : List MethN) (sl : Nat → Int) (n d : ByteArray) (w : World) (hl : MemS w v l sl) (hn : l.length ≤ 9223372036854775806) :
    Calls Tryz.prog 136 #[v, .string n, .string d] w fun e w' => e = .returned (.int .i64 (hasZ l n d)) ∧ Only (fun _ => False) w w' := by
  have ho := (Only.refl (fun _ => False) w).alloc (.cells #[.string n] 9)
  have hb0 := heap_alloc_new w (.cells #[.string n] 9)
  have ho2 := ho.alloc (.cells #[.string d] 9)
  have hb2 := heap_alloc_new (w.alloc (.cells #[.string n] 9)) (.cells #[.string d] 9)
  have hb1 := ((Only.refl (fun _ => False) (w.alloc (.cells #[.string n] 9))).alloc (.cells #[.string d] 9)).heap hb0 (fun h => h)
  have c1 := indexMs v l sl n d w.heap.size (w.heap.size + 1) _ (hl.only ho2) (cell_blk hb1 0) (by rw [show w.heap.size + 1 = (w.alloc (.cells #[.string n] 9)).heap.size by simp]; exact cell_blk hb2 0) hn
  obtain ⟨ao, cap, rfl, p1, p2, p3, p4⟩ := id hl
  have HO := hid ho2
  have C1 := hid c1
  clear ho ho2 hb0 hb1 hb2 c1 hl p3 p4
  go_enter Tryz.func136, Tryz.ntmps136
  go_wp2_with (fail)
  refine C1.out.mono ?_
  rintro e w1 ⟨rfl, ho1⟩
  have HO1 := hid (HO.out.trans ho1 (fun _ h _ => h))
  clear ho1 C1
  go_wp2
  go_ret
  exact ⟨rfl, HO1.out⟩
attribute [local go_sem] Oper.semAt_some
section
variable {P : Program} {ops : Array Oper} {Q : Exit → Act → World → Prop} {md : Region.Mode} {l n : Nat}
theorem rows_round {row : String} {args : Array Value} {w : World} {R : Value → World → Prop} (h : Rows P row args w R) : RowsIn (Fence.wide.inRound l) n P row args w R := fun c cs _ => by
  obtain ⟨v, w', r, s⟩ := h c cs
  exact ⟨v, w', r, stepsIn_wide.2 s⟩
theorem upon_round {o : Oper} {a : Act} {K : Act → World → Prop} : ∀ {r : Result Next}, o.upon P a K Q r → o.uponIn (Fence.wide.inRound l) n P a K Q r
  | .ok (.value v) w', h => h
  | .ok .skip w', h => h
  | .ok (.defer d) w', h => h
  | .ok (.enter f args) w', h => ⟨(fun hd => by cases hd), CallsIn.inRound l (callsIn_wide.2 h)⟩
  | .ok (.row row args) w', h => ⟨(fun hd => by cases hd), rows_round h⟩
  | .halt (.panic v) w', h => h
theorem wp_round {o : Oper} (ho : ∀ c, o.op ≠ .defer c) {a : Act} {w : World} {K : Act → World → Prop} (h : o.wp P a w K Q) : o.wpIn (Fence.wide.inRound l) n P a w K Q := by
  refine ⟨fun _ _ => trivial, ?_⟩
  rw [Oper.semAt_eq _ _ _ ho]
  exact upon_round h
def NoDefer (ops : Array Oper) : Prop := ∀ (i : Nat) (o : Oper), ops[i]? = some o → ∀ c, o.op ≠ .defer c
theorem wpOp_round (hp : NoDefer ops) (hq : ¬ LetsOut Q) {i : Nat} {a : Act} {w : World} {K : Act → World → Prop} (h : wpOp P ops Q i K a w) : wpOpIn (Fence.wide.inRound l) n P ops Q i K a w := by
  unfold wpOp at h
  unfold wpOpIn
  cases ho : ops[i]? with
  | none => simp only [ho] at h ⊢; exact h
  | some o =>
    simp only [ho] at h ⊢
    by_cases hw : Region.wanted o (yielded ops a.tmps) = true
    · rw [if_pos hw] at h ⊢
      rcases h with h | ⟨_, h⟩
      · exact wp_round (hp i o ho) h
      · exact absurd h hq
    · rw [if_neg hw] at h ⊢
      exact ⟨fun _ _ => trivial, h⟩
theorem wpAny_round (hp : NoDefer ops) (hq : ¬ LetsOut Q) : ∀ (fuel : Nat) (listed : Array Bool) (a : Act) (w : World), wpAny P md ops Q fuel listed a w → wpAnyIn (Fence.wide.inRound l) n P md ops Q fuel listed a w
  | 0, _, _, _, h => h
  | fuel + 1, listed, a, w, h => ⟨h.1, fun i hi => wpOp_round hp hq (wpOp_mono (fun a w hk => wpAny_round hp hq fuel _ a w hk) (h.2 i hi))⟩
theorem wpIn_held_round {S : World → Prop} {id : Nat} {a : Act} {w : World} (hm : P.follows .mixedOrders = true) (hp : NoDefer ops) (hq : ¬ LetsOut Q) (hS : S w.drew)
    (h : S w.drew → wpAnyH P .any ops Q S ops.size (Array.replicate ops.size false) a w.drew) : (Code.region id ops true).wpIn (Fence.wide.inRound l) n P Q a w :=
  wpIn_region_any hm (wpAny_round hp hq _ _ _ _ (wpAny_of_held _ _ _ _ (h hS)))
end
end Go.Proofs.YtinbelghhfodiaaGreatDoor
