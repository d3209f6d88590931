import Derived.Test.YtgdgffnaknkbcaaGreatDoorMlPolDPolE
import Derived.Test.YtgdgffnaknkbcaaGreatDoorMlPrsPolI
import Derived.Test.YtgdgffnaknkbcaaGreatDoorMlMemPolV
import Derived.WalkLawsBesides
import Derived.Defers
import Derived.Recover
import Derived.Handy
import Derived.Test.YtgdgffnaknkbcaaGreatDoorMlKndONum
import Derived.Test.YtgdgffnaknkbcaaGreatDoorMlKndCLnkB
namespace Go.Proofs.YtgdgffnaknkbcaaGreatDoor
open Go.RowKit
set_option linter.unusedVariables false
set_option linter.unusedSimpArgs false
def GoIf (Q : Prop) (z : Int) (w : World) (e : Ending) (w' : World) : Prop := ((Q ∧ e = .returned (.tuple #[])) ∨ (¬ Q ∧ e = pan z)) ∧ Only (fun _ => False) w w'
theorem GoIf.yes {Q : Prop} {z : Int} {w w' : World} (h : Q) (ho : Only (fun _ => False) w w') : GoIf Q z w (.returned (.tuple #[])) w' := ⟨.inl ⟨h, rfl⟩, ho⟩
theorem GoIf.no {Q : Prop} {z : Int} {w w' : World} (h : ¬ Q) (ho : Only (fun _ => False) w w') : GoIf Q z w (pan z) w' := ⟨.inr ⟨h, rfl⟩, ho⟩
theorem refuse0 (w : World) : Calls Tryz.prog 103 #[.int .i64 0] w fun e w' => e = .returned (.tuple #[]) ∧ w = w' := by
  go_enter Tryz.func103, Tryz.ntmps103
  go_wp2
  go_end0
  exact ⟨rfl, rfl⟩
theorem refuseN (z : Int) (hz : z ≠ 0) (w : World) : Calls Tryz.prog 103 #[.int .i64 z] w fun e w' => e = pan z ∧ w = w' := by
  have hb : (z != 0) = true := by simpa using hz
  go_enter Tryz.func103, Tryz.ntmps103
  go_wp2
  exact ⟨rfl, rfl, rfl⟩
theorem mustT (w : World) : Calls Tryz.prog 106 #[.bool true] w fun e w' => e = .returned (.tuple #[]) ∧ w = w' := by
  go_enter Tryz.func106, Tryz.ntmps106
  go_wp2
  go_end0
  exact ⟨rfl, rfl⟩
theorem mustF (w : World) : Calls Tryz.prog 106 #[.bool false] w fun e w' => e = pan 50 ∧ w = w' := by
  have c := refuseN 50 (by decide) w
  go_enter Tryz.func106, Tryz.ntmps106
  go_wp2_with (go_at_call 103; refine c.mono ?_; rintro e w' ⟨rfl, rfl⟩)
  exact ⟨rfl, rfl, rfl⟩
theorem mustB (b : Bool) (w : World) : Calls Tryz.prog 106 #[.bool b] w fun e w' => ((b = true ∧ e = .returned (.tuple #[])) ∨ (b = false ∧ e = pan 50)) ∧ w = w' := by
  cases b
  · exact (mustF w).mono fun e w' h => ⟨.inr ⟨rfl, h.1⟩, h.2⟩
  · exact (mustT w).mono fun e w' h => ⟨.inl ⟨rfl, h.1⟩, h.2⟩
theorem isText (v : Value) (cs : List ConstV) (i : Int) (w : World) (hp : Pool w v cs) :
    Calls Tryz.prog 137 #[v, .int .i64 i] w fun e w' => e = .returned (.bool (textZ cs i).2) ∧ Only (fun _ => False) w w' := by
  have c := progText v cs i w hp
  go_enter Tryz.func137, Tryz.ntmps137
  go_wp2_with (go_at_call 101; refine c.mono ?_; rintro e w' ⟨rfl, ho⟩)
  go_ret
  exact ⟨rfl, ho⟩
theorem isClass (v : Value) (cs : List ConstV) (i : Int) (w : World) (hp : Pool w v cs) :
    Calls Tryz.prog 107 #[v, .int .i64 i] w fun e w' => e = .returned (.bool (classZ cs i).2) ∧ Only (fun _ => False) w w' := by
  have c := progClass v cs i w hp
  go_enter Tryz.func107, Tryz.ntmps107
  go_wp2_with (go_at_call 71; refine c.mono ?_; rintro e w' ⟨rfl, ho⟩)
  go_ret
  exact ⟨rfl, ho⟩
theorem clsName (vp vf vm : Value) (cs : List ConstV) (this super : Int) (w : World) (hp : Pool w vp cs) :
    Calls Tryz.prog 35 #[.agg #[vp, .int .i64 this, .int .i64 super, vf, vm]] w fun e w' => e = .returned (.string (classZ cs this).1) ∧ Only (fun _ => False) w w' := by
  obtain ⟨ao, cap, rfl, _⟩ := id hp
  have ho0 : ∀ o, Only (fun _ => False) w (w.alloc o) := fun o => (Only.refl _ _).alloc o
  have c := fun o => progClass _ cs this _ (hp.only (ho0 o) (fun _ _ h => h))
  go_enter Tryz.func35, Tryz.ntmps35
  go_wp2_with (go_at_call 71; refine (c _).mono ?_; rintro e w' ⟨rfl, ho⟩)
  go_ret
  exact ⟨rfl, (ho0 _).trans ho (fun _ h => h.elim)⟩
set_option maxHeartbeats 4000000 in
set_option maxRecDepth 100000 in
theorem checkTrapP (v : Value) (cs : List ConstV) (t : TrapV) (n : Nat) (hn : n ≤ 9223372036854775807) (w : World) (hp : Pool w v cs) :
    Calls Tryz.prog 139 #[v, .agg #[.int .i64 t.from_, .int .i64 t.to_, .int .i64 t.hand, .int .i64 t.type], .int .i64 n] w (GoIf (TrapP cs n t) 50 w) := by
  obtain ⟨ao, cap, rfl, _⟩ := id hp
  have ho0 : ∀ o, Only (fun _ => False) w (w.alloc o) := fun o => (Only.refl _ _).alloc o
  have cC := fun i w' (ho : Only (fun _ => False) w w') => isClass _ cs i w' (hp.only ho (fun _ _ h => h))
  have CC := Lib.hid cC
  have HO := Lib.hid ho0
  clear cC ho0 hp
  obtain ⟨a, b, c, d⟩ := t
  simp only
  go_enter Tryz.func139, Tryz.ntmps139
  go_wp2_with (first | (go_at_call 106; refine (mustB _ _).mono ?_; rintro e w' ⟨⟨h, rfl⟩ | ⟨h, rfl⟩, rfl⟩) | (go_at_call 107; refine (CC.out _ _ (HO.out _)).mono ?_; rintro e w' ⟨rfl, ho⟩; have HOC := Lib.hid ho))
  all_goals try (exfalso; (first | exact absurd (by assumption : true = false) (by decide) | exact absurd (by assumption : false = true) (by decide)); done)
  all_goals first
    | (go_end0
       refine GoIf.yes (Q := TrapP cs n ⟨a, b, c, _⟩) ⟨?_, ?_, ?_, ?_, ?_, ?_⟩ (by first | exact HO.out _ | exact (HO.out _).trans HOC.out (fun _ h => h.elim))
       all_goals
         clear CC HO
         simp only [decide_eq_true_eq, Bool.or_eq_true, beq_iff_eq] at *
         first
           | omega
           | assumption
           | (left; omega))
    | (refine ⟨rfl, GoIf.no (fun hq => ?_) (by first | exact HO.out _ | exact (HO.out _).trans HOC.out (fun _ h => h.elim))⟩
       obtain ⟨q1, q2, q3, q4, q5, q6⟩ := hq
       clear CC HO
       try simp only at q1 q2 q3 q4 q5 q6
       try simp only [decide_eq_true_eq, decide_eq_false_iff_not, Bool.or_eq_false_iff, beq_eq_false_iff_ne, ne_eq] at *
       first
         | omega
         | (rcases q6 with q6 | q6
            · omega
            · simp_all; done))
theorem isSlotsP (n : Int) (w : World) :
    Calls Tryz.prog 138 #[.int .i64 n] w fun e w' => e = .returned (.bool (decide (0 ≤ n) && decide (n ≤ 64))) ∧ w = w' := by
  by_cases h : 0 ≤ n
  · go_enter Tryz.func138, Tryz.ntmps138
    go_wp2
    go_ret
    exact ⟨by simp [h], rfl⟩
  · go_enter Tryz.func138, Tryz.ntmps138
    go_wp2
    go_ret
    exact ⟨by rw [decide_eq_false (Int.not_le.2 h)]; rfl, rfl⟩
theorem checkCountP (n : Int) (w : World) :
    Calls Tryz.prog 136 #[.int .i64 n] w (GoIf (n ≤ 64) 2 w) := by
  by_cases h : 64 < n
  · go_enter Tryz.func136, Tryz.ntmps136
    go_wp2_with (go_at_call 103; refine (refuseN 2 (by decide) _).mono ?_; rintro e w' ⟨rfl, rfl⟩)
    exact ⟨rfl, GoIf.no (Int.not_le.2 h) (Only.refl _ _)⟩
  · go_enter Tryz.func136, Tryz.ntmps136
    go_wp2
    go_end0
    exact GoIf.yes (by first | trivial | assumption) (Only.refl _ _)
set_option maxHeartbeats 4000000 in
set_option maxRecDepth 100000 in
theorem checkMemberP (v : Value) (cs : List ConstV) (fl nm ds : Int) (w : World) (hp : Pool w v cs) :
    Calls Tryz.prog 108 #[v, .int .i64 fl, .int .i64 nm, .int .i64 ds] w (GoIf (FlagsP fl ∧ (textZ cs nm).2 = true ∧ (textZ cs ds).2 = true) 50 w) := by
  obtain ⟨ao, cap, rfl, _⟩ := id hp
  have cT := fun i w' (ho : Only (fun _ => False) w w') => isText _ cs i w' (hp.only ho (fun _ _ h => h))
  have CT := Lib.hid cT
  have HON := Lib.hid (Only.refl (fun _ => False) w)
  clear cT hp
  go_enter Tryz.func108, Tryz.ntmps108
  go_wp2_with (first | (go_at_call 106; refine (mustB _ _).mono ?_; rintro e w' ⟨⟨h, rfl⟩ | ⟨h, rfl⟩, rfl⟩) | (go_at_call 137; refine (CT.out _ _ HON.out).mono ?_; rintro e w' ⟨rfl, ho⟩; have HON := Lib.hid (HON.out.trans ho (fun _ h => h.elim)); clear ho))
  all_goals try (exfalso; (first | exact absurd (by assumption : true = false) (by decide) | exact absurd (by assumption : false = true) (by decide)); done)
  all_goals first
    | (go_end0
       refine GoIf.yes ⟨?_, ?_, ?_⟩ HON.out
       · clear HON CT
         show _ ∨ _
         first
           | (left; assumption)
           | (left; rfl)
           | (simp_all; done)
           | omega
       · assumption
       · assumption)
    | (refine ⟨rfl, GoIf.no (fun hq => ?_) HON.out⟩
       obtain ⟨q1, q2, q3⟩ := hq
       all_goals
         clear HON CT
         unfold FlagsP at q1
         try simp only [decide_eq_true_eq, decide_eq_false_iff_not, Bool.or_eq_false_iff, beq_eq_false_iff_ne, ne_eq] at *
         all_goals first
           | omega
           | (simp_all; done)
           | (simp_all; omega))
def Bare (cs : List ConstV) : Prop := (∀ c ∈ cs, c.tag = 1 → c.n = 0 ∧ c.a = 0 ∧ c.b = 0) ∧ (cs.getD 0 default).tag ≠ 1
theorem bare_of_right {cs : List ConstV} (h : checkZ cs = 0) : Bare cs := by
  obtain ⟨h1, h2, h3, h4⟩ := checkZ_zero h
  refine ⟨fun c hc ht => ?_, by rw [h3]; decide⟩
  obtain ⟨i, hi, rfl⟩ := List.mem_iff_getElem.1 hc
  have e : cs.getD i default = cs[i] := by simp [List.getD, hi]
  by_cases h0 : i = 0
  · subst h0; rw [← e, h3] at ht; exact absurd ht (by decide)
  · have hb := bare_of_one (h4 i (by omega) hi)
    rw [e] at hb
    unfold bareZ at hb
    rw [if_pos ht] at hb
    simpa using hb
noncomputable def idxZ (cs : List ConstV) (s : ByteArray) : Int := if placeOf cs s = 0 then -1 else placeOf cs s
theorem findFrom_pos {s : ByteArray} : ∀ {l : List ConstV} {i : Nat}, 1 ≤ i → findFrom s i l = 0 ∨ (i : Int) ≤ findFrom s i l
  | [], i, _ => .inl rfl
  | c :: r, i, hi => by
    by_cases hc : c.tag = 1 ∧ c.text = s
    · rw [findFrom_here rfl hc]; exact .inr (Int.le_refl _)
    · rw [findFrom_skip rfl hc]
      rcases findFrom_pos (s := s) (l := r) (i := i + 1) (by omega) with h | h
      · exact .inl h
      · exact .inr (by omega)
theorem idxZ_pos (cs : List ConstV) (s : ByteArray) : 0 < idxZ cs s ↔ placeOf cs s ≠ 0 := by
  unfold idxZ
  rcases findFrom_pos (s := s) (l := cs.drop 1) (i := 1) (by decide) with h | h
  · rw [if_pos (show placeOf cs s = 0 from h)]; exact ⟨fun h => absurd h (by decide), fun h' => absurd h h'⟩
  · have hne : placeOf cs s ≠ 0 := by unfold placeOf; omega
    rw [if_neg hne]
    refine ⟨fun _ => hne, fun _ => ?_⟩
    unfold placeOf
    omega
set_option maxHeartbeats 2000000 in
theorem indexP (v : Value) (cs : List ConstV) (s : ByteArray) (w : World) (hp : Pool w v cs) (hb : Bare cs) :
    Calls Tryz.prog 154 #[v, .agg #[.int .i64 1, .string s, .int .i64 0, .int .i64 0, .int .i64 0]] w fun e w' => e = .returned (.int .i64 (idxZ cs s)) ∧ Only (fun _ => False) w w' := by
  obtain ⟨ao, cap, rfl, h1, h2, h3, h4, h5⟩ := id hp
  have ho0 : ∀ o, Only (fun _ => False) w (w.alloc o) := fun o => (Only.refl _ _).alloc o
  have Hp := Lib.hid (hp.only (ho0 (.cells #[.int .i64 1, .string s, .int .i64 0, .int .i64 0, .int .i64 0] 156)) (fun _ _ h => h))
  have HO := Lib.hid ho0
  have HB := Lib.hid hb
  have hbx := heap_alloc_new w (.cells #[.int .i64 1, .string s, .int .i64 0, .int .i64 0, .int .i64 0] 156)
  have HBX := Lib.hid hbx
  clear h3 h4 h5 hp hb ho0 hbx
  go_enter Tryz.func154, Tryz.ntmps154
  go_wp2
  go_loopw [8] (fun i wr => ∃ j : Nat, j ≤ cs.length ∧ i = .int .i64 j ∧ (j = 0 ∨ (1 ≤ j ∧ placeOf cs s = findFrom s j (cs.drop j))) ∧ Only (fun _ => False) (w.alloc (.cells #[.int .i64 1, .string s, .int .i64 0, .int .i64 0, .int .i64 0] 156)) wr) (fun i _ => cs.length - (intOf i).toNat)
  case atStart => exact ⟨0, Nat.zero_le _, rfl, .inl rfl, Only.refl _ _⟩
  case round =>
    obtain ⟨j, hj, rfl, hpl, hwr⟩ := hrel
    have hbr := hwr.heap HBX.out (fun h => h)
    have q0 := cell_blk hbr 0
    have q1 := cell_blk hbr 1
    have q2 := cell_blk hbr 2
    have q3 := cell_blk hbr 3
    have q4 := cell_blk hbr 4
    simp at q0 q1 q2 q3 q4
    have hpr := Hp.out.only hwr (fun _ _ h => h)
    have HWR := Lib.hid hwr
    clear hwr hbr
    by_cases hlt : j < cs.length
    · obtain ⟨b, o, rfl, hc⟩ := Pool.at hpr hlt
      obtain ⟨g0, g1, g2, g3, g4⟩ := hc
      have hjz : (j : Int) < (cs.length : Int) := by omega
      have hdr : cs.drop j = cs.getD j default :: cs.drop (j + 1) := by rw [List.drop_eq_getElem_cons hlt]; simp [List.getD, hlt]
      have hz1 : j = 0 → (cs.getD j default).tag ≠ 1 := fun e => by subst e; exact HB.out.2
      have hbare := HB.out.1 _ (show cs.getD j default ∈ cs by simp [List.getD, hlt])
      by_cases hh : (cs.getD j default).tag = 1 ∧ (cs.getD j default).text = s
      · have hv : placeOf cs s = (j : Int) := by
          rcases hpl with e | ⟨_, hpl⟩
          · exact absurd hh.1 (hz1 e)
          · exact hpl.trans (findFrom_here hdr hh)
        have hj1 : 1 ≤ j := by rcases hpl with e | ⟨h, _⟩; exact absurd hh.1 (hz1 e); exact h
        have Hv := Lib.hid (show idxZ cs s = (j : Int) by unfold idxZ; rw [if_neg (by omega), hv])
        obtain ⟨ht, hx⟩ := hh
        obtain ⟨b1, b2, b3⟩ := hbare ht
        rw [ht] at g0
        rw [hx] at g1
        rw [b1] at g2
        rw [b2] at g3
        rw [b3] at g4
        clear hpr hdr hpl hv ht hx hz1 hbare b1 b2 b3
        go_wp2
        go_region
        go_wp2
        go_ret
        exact ⟨by rw [Hv.out]; rfl, (HO.out _).trans ((HWR.out.drew)) (fun _ h => h.elim)⟩
      · have hv : placeOf cs s = findFrom s (j + 1) (cs.drop (j + 1)) := by
          rcases hpl with e | ⟨_, hpl⟩
          · subst e; rfl
          · exact hpl.trans (findFrom_skip hdr hh)
        have Hv := Lib.hid hv
        by_cases ht : (cs.getD j default).tag = 1
        · have hx : s ≠ (cs.getD j default).text := fun e => hh ⟨ht, e.symm⟩
          have hne := text_ne hx
          rw [ht] at g0
          generalize (cs.getD j default) = c at *
          obtain ⟨_, x, n, a, bb⟩ := c
          simp only at *
          clear hpr hdr hpl hv ht hx hh hz1 hbare
          go_wp2
          go_region
          go_wp2
          go_roundw
          case rel => exact ⟨j + 1, by omega, by go_num, .inr ⟨by omega, Hv.out⟩, HWR.out.drew⟩
          case measure => simp [intOf]; omega
        · have hne : ((1 : Int) == (cs.getD j default).tag) = false := by simpa using fun e => ht e.symm
          generalize (cs.getD j default) = c at *
          obtain ⟨t, x, n, a, bb⟩ := c
          simp only at *
          clear hpr hdr hpl hv ht hh hz1 hbare
          go_wp2
          go_region
          go_wp2
          go_roundw
          case rel => exact ⟨j + 1, by omega, by go_num, .inr ⟨by omega, Hv.out⟩, HWR.out.drew⟩
          case measure => simp [intOf]; omega
    · have hz : idxZ cs s = -1 := by
        have hp0 : placeOf cs s = 0 := by
          rcases hpl with e | ⟨_, hpl⟩
          · have : cs = [] := List.eq_nil_of_length_eq_zero (by omega)
            subst this
            rfl
          · rw [hpl, List.drop_eq_nil_of_le (by omega)]; rfl
        unfold idxZ
        rw [if_pos hp0]
      have Hz := Lib.hid hz
      have hjz : (cs.length : Int) ≤ (j : Int) := by omega
      clear hz hpl hpr
      go_wp2
      go_ret
      exact ⟨by rw [Hz.out]; rfl, (HO.out _).trans HWR.out (fun _ h => h.elim)⟩
theorem progPlace (v : Value) (cs : List ConstV) (s : ByteArray) (w : World) (hp : Pool w v cs) (hb : Bare cs) :
    Calls Tryz.prog 140 #[v, .string s] w fun e w' => e = .returned (.int .i64 (idxZ cs s)) ∧ Only (fun _ => False) w w' := by
  have c := indexP v cs s w hp hb
  obtain ⟨ao, cap, rfl, _⟩ := id hp
  go_enter Tryz.func140, Tryz.ntmps140
  go_wp2_with (go_at_call 154; refine c.mono ?_; rintro e w' ⟨rfl, ho⟩)
  go_ret
  exact ⟨rfl, ho⟩
theorem clsSuper (vp vf vm : Value) (cs : List ConstV) (this super : Int) (w : World) (hp : Pool w vp cs) :
    Calls Tryz.prog 156 #[.agg #[vp, .int .i64 this, .int .i64 super, vf, vm]] w fun e w' => e = .returned (.string (classZ cs super).1) ∧ Only (fun _ => False) w w' := by
  obtain ⟨ao, cap, rfl, _⟩ := id hp
  have ho0 : ∀ o, Only (fun _ => False) w (w.alloc o) := fun o => (Only.refl _ _).alloc o
  have c := fun o => progClass _ cs super _ (hp.only (ho0 o) (fun _ _ h => h))
  go_enter Tryz.func156, Tryz.ntmps156
  go_wp2_with (go_at_call 71; refine (c _).mono ?_; rintro e w' ⟨rfl, ho⟩)
  go_ret
  exact ⟨rfl, (ho0 _).trans ho (fun _ h => h.elim)⟩
theorem refClsName (vp vf vm : Value) (cs : List ConstV) (this super : Int) (w : World) (hp : Pool w vp cs) :
    Calls Tryz.prog 84 #[.agg #[vp, .int .i64 this, .int .i64 super, vf, vm]] w fun e w' => e = .returned (.string (classZ cs this).1) ∧ Only (fun _ => False) w w' := by
  obtain ⟨ao, cap, rfl, _⟩ := id hp
  have ho0 : ∀ o, Only (fun _ => False) w (w.alloc o) := fun o => (Only.refl _ _).alloc o
  have c := fun o => refClass _ cs this _ (hp.only (ho0 o) (fun _ _ h => h))
  go_enter Tryz.func84, Tryz.ntmps84
  go_wp2_with (go_at_call 119; refine (c _).mono ?_; rintro e w' ⟨rfl, rfl⟩)
  go_ret
  exact ⟨rfl, ho0 _⟩
theorem refClsSuper (vp vf vm : Value) (cs : List ConstV) (this super : Int) (w : World) (hp : Pool w vp cs) :
    Calls Tryz.prog 85 #[.agg #[vp, .int .i64 this, .int .i64 super, vf, vm]] w fun e w' => e = .returned (.string (classZ cs super).1) ∧ Only (fun _ => False) w w' := by
  obtain ⟨ao, cap, rfl, _⟩ := id hp
  have ho0 : ∀ o, Only (fun _ => False) w (w.alloc o) := fun o => (Only.refl _ _).alloc o
  have c := fun o => refClass _ cs super _ (hp.only (ho0 o) (fun _ _ h => h))
  go_enter Tryz.func85, Tryz.ntmps85
  go_wp2_with (go_at_call 119; refine (c _).mono ?_; rintro e w' ⟨rfl, rfl⟩)
  go_ret
  exact ⟨rfl, ho0 _⟩
end Go.Proofs.YtgdgffnaknkbcaaGreatDoor
namespace Go.Proofs.YtgdgffnaknkbcaaGreatDoor
open Go.RowKit Go.Maps
set_option linter.unusedVariables false
set_option linter.unusedSimpArgs false
theorem mName_b (n : Nat) (v : Value) (w : World) : (method (n + 1) 136 v "understudy/link.name").run Tryz.prog w = .ok (219, v) w := by kernel_rfl
theorem mSuper_b (n : Nat) (v : Value) (w : World) : (method (n + 1) 136 v "understudy/link.super").run Tryz.prog w = .ok (220, v) w := by kernel_rfl
theorem mFields_b (n : Nat) (v : Value) (w : World) : (method (n + 1) 136 v "understudy/link.fields").run Tryz.prog w = .ok (216, v) w := by kernel_rfl
theorem mMethods_b (n : Nat) (v : Value) (w : World) : (method (n + 1) 136 v "understudy/link.methods").run Tryz.prog w = .ok (218, v) w := by kernel_rfl
theorem mName_l (n : Nat) (v : Value) (w : World) : (method (n + 1) 124 v "understudy/link.name").run Tryz.prog w = .ok (142, v) w := by kernel_rfl
theorem mSuper_l (n : Nat) (v : Value) (w : World) : (method (n + 1) 124 v "understudy/link.super").run Tryz.prog w = .ok (143, v) w := by kernel_rfl
theorem mFields_l (n : Nat) (v : Value) (w : World) : (method (n + 1) 124 v "understudy/link.fields").run Tryz.prog w = .ok (214, v) w := by kernel_rfl
theorem mMethods_l (n : Nat) (v : Value) (w : World) : (method (n + 1) 124 v "understudy/link.methods").run Tryz.prog w = .ok (146, v) w := by kernel_rfl
theorem cells8L {w : World} {b : Nat} {c0 c1 c2 c3 c4 c5 c6 c7 : Value} {t : TypeId} {f : Nat × Nat} (h : w.heap[b]? = some (.cells #[c0, c1, c2, c3, c4, c5, c6, c7] t f)) :
    w.cell? ⟨b, 0, none⟩ = some c0 ∧ w.cell? ⟨b, 1, none⟩ = some c1 ∧ w.cell? ⟨b, 2, none⟩ = some c2 ∧ w.cell? ⟨b, 3, none⟩ = some c3 ∧ w.cell? ⟨b, 4, none⟩ = some c4 ∧ w.cell? ⟨b, 5, none⟩ = some c5 ∧ w.cell? ⟨b, 6, none⟩ = some c6 ∧ w.cell? ⟨b, 7, none⟩ = some c7 :=
  ⟨cell_blk h 0, cell_blk h 1, cell_blk h 2, cell_blk h 3, cell_blk h 4, cell_blk h 5, cell_blk h 6, cell_blk h 7⟩
theorem bName (a b c : Value) (w : World) : Calls Tryz.prog 219 #[.agg #[a, b, c]] w fun e w' => e = .returned a ∧ Only (fun _ => False) w w' := by
  have ho := (Only.refl (fun _ => False) w).alloc (.cells #[a, b, c] 136)
  have HO := Lib.hid ho
  clear ho
  go_enter Tryz.func219, Tryz.ntmps219
  go_wp2
  go_ret
  exact ⟨rfl, HO.out⟩
theorem bSuper (a b c : Value) (w : World) : Calls Tryz.prog 220 #[.agg #[a, b, c]] w fun e w' => e = .returned b ∧ Only (fun _ => False) w w' := by
  have ho := (Only.refl (fun _ => False) w).alloc (.cells #[a, b, c] 136)
  have HO := Lib.hid ho
  clear ho
  go_enter Tryz.func220, Tryz.ntmps220
  go_wp2
  go_ret
  exact ⟨rfl, HO.out⟩
theorem bFields (a b c : Value) (w : World) : Calls Tryz.prog 216 #[.agg #[a, b, c]] w fun e w' => e = .returned (.slice none 0 0) ∧ Only (fun _ => False) w w' := by
  have ho := (Only.refl (fun _ => False) w).alloc (.cells #[a, b, c] 136)
  have HO := Lib.hid ho
  clear ho
  go_enter Tryz.func216, Tryz.ntmps216
  go_wp2
  go_ret
  exact ⟨rfl, HO.out⟩
theorem bMethods (a b c : Value) (w : World) : Calls Tryz.prog 218 #[.agg #[a, b, c]] w fun e w' => e = .returned c ∧ Only (fun _ => False) w w' := by
  have ho := (Only.refl (fun _ => False) w).alloc (.cells #[a, b, c] 136)
  have HO := Lib.hid ho
  clear ho
  go_enter Tryz.func218, Tryz.ntmps218
  go_wp2
  go_ret
  exact ⟨rfl, HO.out⟩
section
variable {w : World} {lb i : Nat} {c : ClassV} {vp vf vm vof vom : Value} (hl : w.heap[lb]? = some (listedO i c vp vf vm vof vom))
include hl
theorem lName (hp : Pool w vp c.pool) : Calls Tryz.prog 142 #[.pointer (some ⟨lb, 0, none⟩)] w fun e w' => e = .returned (.string (classZ c.pool c.this).1) ∧ Only (fun _ => False) w w' := by
  obtain ⟨q0, q1, q2, q3, q4, q5, q6, q7⟩ := cells8L hl
  have C1 := Lib.hid (clsName vp vf vm c.pool c.this c.super w hp)
  clear hl hp
  go_enter Tryz.func142, Tryz.ntmps142
  go_wp2_with (fail)
  refine C1.out.mono ?_
  rintro e w1 ⟨rfl, ho⟩
  have HO := Lib.hid ho
  clear ho
  go_wp2
  go_ret
  exact ⟨rfl, HO.out⟩
theorem lSuper (hp : Pool w vp c.pool) : Calls Tryz.prog 143 #[.pointer (some ⟨lb, 0, none⟩)] w fun e w' => e = .returned (.string (classZ c.pool c.super).1) ∧ Only (fun _ => False) w w' := by
  obtain ⟨q0, q1, q2, q3, q4, q5, q6, q7⟩ := cells8L hl
  have C1 := Lib.hid (clsSuper vp vf vm c.pool c.this c.super w hp)
  clear hl hp
  go_enter Tryz.func143, Tryz.ntmps143
  go_wp2_with (fail)
  refine C1.out.mono ?_
  rintro e w1 ⟨rfl, ho⟩
  have HO := Lib.hid ho
  clear ho
  go_wp2
  go_ret
  exact ⟨rfl, HO.out⟩
theorem lFields : Calls Tryz.prog 214 #[.pointer (some ⟨lb, 0, none⟩)] w fun e w' => e = .returned vof ∧ Only (fun _ => False) w w' := by
  obtain ⟨q0, q1, q2, q3, q4, q5, q6, q7⟩ := cells8L hl
  clear hl
  go_enter Tryz.func214, Tryz.ntmps214
  go_wp2
  go_ret
  exact ⟨rfl, Only.refl _ _⟩
theorem lMethods : Calls Tryz.prog 146 #[.pointer (some ⟨lb, 0, none⟩)] w fun e w' => e = .returned vom ∧ Only (fun _ => False) w w' := by
  obtain ⟨q0, q1, q2, q3, q4, q5, q6, q7⟩ := cells8L hl
  clear hl
  go_enter Tryz.func146, Tryz.ntmps146
  go_wp2
  go_ret
  exact ⟨rfl, Only.refl _ _⟩
end
structure Asks (w : World) (T : TypeId) (v : Value) (name : String) (r : Value) (n : FuncId) : Prop where
  look : ∀ W, (method 396 T v name).run Tryz.prog W = .ok (n, v) W
  enters : ∀ args W, (callFunc n args).run Tryz.prog W = .ok (.enter n args) W
  calls : ∀ W, Only (fun _ => False) w W → Calls Tryz.prog n #[v] W fun e w' => e = .returned r ∧ Only (fun _ => False) W w'
structure Told (w : World) (iv : Value) (k : KindV) (vof : Value) (T : TypeId) (v vom : Value) : Prop where
  eq : iv = .iface T v
  name : ∃ n, Asks w T v "understudy/link.name" (.string k.name) n
  super : ∃ n, Asks w T v "understudy/link.super" (.string k.super) n
  fields : ∃ n, Asks w T v "understudy/link.fields" vof n
  meths : ∃ n, Asks w T v "understudy/link.methods" vom n
  mem : MemS w vom k.meths (fun _ => 0)
theorem KnownG.told {G : Nat → Prop} {w : World} {i : Nat} {iv : Value} {k : KindV} {c : ClassV} {vof : Value} (h : KnownG G w i iv k c vof) : ∃ T v vom, Told w iv k vof T v vom := by
  rcases h with ⟨h1, h2, h3, vom, h4, h5⟩ | ⟨h1, h2, lb, vp, vf, vm, vom, h3, h4, h5, h6, h7⟩
  · subst h3
    refine ⟨_, _, vom, h4, ⟨_, fun W => mName_b 395 _ W, enters_of Tryz.func219 (by kernel_rfl) rfl, fun W _ => bName _ _ _ W⟩, ⟨_, fun W => mSuper_b 395 _ W, enters_of Tryz.func220 (by kernel_rfl) rfl, fun W _ => bSuper _ _ _ W⟩, ⟨_, fun W => mFields_b 395 _ W, enters_of Tryz.func216 (by kernel_rfl) rfl, fun W _ => bFields _ _ _ W⟩, ⟨_, fun W => mMethods_b 395 _ W, enters_of Tryz.func218 (by kernel_rfl) rfl, fun W _ => bMethods _ _ _ W⟩, h5.mem⟩
  · subst h2
    refine ⟨_, _, vom, h3, ⟨_, fun W => mName_l 395 _ W, enters_of Tryz.func142 (by kernel_rfl) rfl, fun W hW => lName (hW.heap h5 (fun h => h)) (h6.pool.only hW (fun _ _ h => h))⟩, ⟨_, fun W => mSuper_l 395 _ W, enters_of Tryz.func143 (by kernel_rfl) rfl, fun W hW => lSuper (hW.heap h5 (fun h => h)) (h6.pool.only hW (fun _ _ h => h))⟩, ⟨_, fun W => mFields_l 395 _ W, enters_of Tryz.func214 (by kernel_rfl) rfl, fun W hW => lFields (hW.heap h5 (fun h => h))⟩, ⟨_, fun W => mMethods_l 395 _ W, enters_of Tryz.func146 (by kernel_rfl) rfl, fun W hW => lMethods (hW.heap h5 (fun h => h))⟩, h7.mem⟩
section
variable {G : Nat → Prop} {fv : Nat → Value} {w : World} {pb : Nat} {ks : List KindV} {cl : Nat → ClassV} {sl : Nat → Nat → Int} (h : ProgG G fv w pb ks cl sl) (hn : 0 < ks.length)
include h hn
theorem pIsMade : Calls Tryz.prog 63 #[.pointer (some ⟨pb, 0, none⟩)] w fun e w' => e = .returned (.bool true) ∧ w = w' := by
  obtain ⟨b, o, cap, mb, q0, q1, p1, p2, hm, hk⟩ := h.open hn
  have hz : (0 : Int) < (ks.length : Int) := by omega
  clear h hm hk
  go_enter Tryz.func63, Tryz.ntmps63
  go_wp2
  go_ret
  exact ⟨rfl, rfl⟩
theorem pLen : Calls Tryz.prog 24 #[.pointer (some ⟨pb, 0, none⟩)] w fun e w' => e = .returned (.int .i64 ks.length) ∧ w = w' := by
  have C1 := Lib.hid (pIsMade h hn)
  obtain ⟨b, o, cap, mb, q0, q1, p1, p2, hm, hk⟩ := h.open hn
  clear h hm hk
  go_enter Tryz.func24, Tryz.ntmps24
  go_wp2_with (fail)
  refine C1.out.mono ?_
  rintro e w1 ⟨rfl, rfl⟩
  go_wp2
  go_ret
  exact ⟨rfl, rfl⟩
theorem pHas (n : Int) : Calls Tryz.prog 64 #[.pointer (some ⟨pb, 0, none⟩), .int .i64 n] w fun e w' => e = .returned (.bool (decide (0 ≤ n) && decide (n < ks.length))) ∧ w = w' := by
  have C1 := Lib.hid (pLen h hn)
  clear h
  by_cases h0 : 0 ≤ n
  · have hd : decide (0 ≤ n) = true := by simpa using h0
    rw [hd]
    clear hd
    go_enter Tryz.func64, Tryz.ntmps64
    go_wp2_with (fail)
    refine C1.out.mono ?_
    rintro e w1 ⟨rfl, rfl⟩
    go_wp2
    go_ret
    exact ⟨by simp, rfl⟩
  · have hd : decide (0 ≤ n) = false := by simpa using h0
    rw [hd]
    clear hd
    go_enter Tryz.func64, Tryz.ntmps64
    go_wp2
    go_ret
    exact ⟨rfl, rfl⟩
end
section
variable {G : Nat → Prop} {fv : Nat → Value} {w : World} {pb : Nat} {ks : List KindV} {cl : Nat → ClassV} {sl : Nat → Nat → Int} (h : ProgG G fv w pb ks cl sl) (hn : 0 < ks.length)
include h hn
set_option maxHeartbeats 2000000 in
set_option maxRecDepth 100000 in
theorem pFind (x : ByteArray) (hx : x.size ≤ maxLen) : Calls Tryz.prog 19 #[.pointer (some ⟨pb, 0, none⟩), .string x] w fun e w' => e = .returned (.int .i64 (findZ ks x)) ∧ w = w' := by
  have C1 := Lib.hid (pIsMade h hn)
  obtain ⟨b, o, cap, mb, q0, q1, p1, p2, ⟨n, D, hm1, hm2, hm3, hm4⟩, hk⟩ := h.open hn
  have HM := Lib.hid hm2
  have HX := Lib.hid hx
  obtain ⟨hh, ha⟩ := hm4 x
  clear h hm2 hm4 hk hx hn
  by_cases hneg : findZ ks x < 0
  · rw [show decide (findZ ks x < 0) = true by simpa using hneg, Bool.not_true] at hh
    have HH := Lib.hid hh
    have HP : Hid (findZ ks x = -1) := by
      refine Lib.hid ?_
      rcases findZ_cases ks x with h | ⟨j, _, h⟩
      · exact h
      · omega
    clear hh ha hneg
    go_enter Tryz.func19, Tryz.ntmps19
    go_wp2_with (fail)
    refine C1.out.mono ?_
    rintro e w1 ⟨rfl, rfl⟩
    go_wp2_with (at_lookup; go_loud (refine wpList_lookup_own_ok_int _ rfl _ _ 106 rfl 9 3 .i64 (Maps.string_keyed Tryz.underlying9) Tryz.underlying106 Tryz.underlying3 (zero_int8 _) mb n D rfl (by exact HM.out) _ _ rfl (Go.WideMaps.keyOf_string_mk Tryz.underlying9 HX.out) ?_); intro c hat hwc; rw [show Maps.has D (.string x.data.toList) = _ from HH.out]; clear hat hwc)
    go_ret
    rw [HP.out]
    exact ⟨rfl, rfl⟩
  · rw [show decide (findZ ks x < 0) = false by simpa using hneg, Bool.not_false] at hh
    have HH := Lib.hid hh
    have HA := Lib.hid (ha hneg)
    clear hh ha hneg
    go_enter Tryz.func19, Tryz.ntmps19
    go_wp2_with (fail)
    refine C1.out.mono ?_
    rintro e w1 ⟨rfl, rfl⟩
    go_wp2_with (at_lookup; go_loud (refine wpList_lookup_own_ok_int _ rfl _ _ 106 rfl 9 3 .i64 (Maps.string_keyed Tryz.underlying9) Tryz.underlying106 Tryz.underlying3 (zero_int8 _) mb n D rfl (by exact HM.out) _ _ rfl (Go.WideMaps.keyOf_string_mk Tryz.underlying9 HX.out) ?_); intro c hat hwc; rw [show Maps.has D (.string x.data.toList) = _ from HH.out]; have hc := lit_eq (hat.symm.trans HA.out); have HC := Lib.hid hc; clear hat hwc hc)
    go_ret
    rw [HC.out]
    exact ⟨rfl, rfl⟩
def nameZ (ks : List KindV) (n : Int) : ByteArray := if n < 0 then ⟨#[]⟩ else (ks.getD n.toNat default).name
omit h hn in
theorem nameZ_out {n : Int} (hi : (ks.length : Int) ≤ n) : nameZ ks n = ⟨#[]⟩ := by
  unfold nameZ
  split
  · rfl
  · have : (ks.getD n.toNat default) = default := by simp [List.getD, List.getElem?_eq_none (show ks.length ≤ n.toNat by omega)]
    rw [this]; rfl
set_option maxHeartbeats 2000000 in
set_option maxRecDepth 100000 in
theorem pName (n : Int) : Calls Tryz.prog 29 #[.pointer (some ⟨pb, 0, none⟩), .int .i64 n] w fun e w' => e = .returned (.string (nameZ ks n)) ∧ Only (fun _ => False) w w' := by
  have c1 := pHas h hn n
  by_cases h0 : n < 0
  · have HR := Lib.hid (show nameZ ks n = ⟨#[]⟩ from if_pos h0)
    rw [show (decide (0 ≤ n) && decide (n < (ks.length : Int))) = false by simp; omega] at c1
    have C1 := Lib.hid c1
    clear h hn h0 c1
    go_enter Tryz.func29, Tryz.ntmps29
    go_wp2_with (fail)
    refine C1.out.mono ?_
    rintro e w1 ⟨rfl, rfl⟩
    go_wp2
    go_ret
    rw [HR.out]
    exact ⟨rfl, Only.refl _ _⟩
  by_cases h1 : (ks.length : Int) ≤ n
  · have HR := Lib.hid (nameZ_out h1)
    rw [show (decide (0 ≤ n) && decide (n < (ks.length : Int))) = false by simp; omega] at c1
    have C1 := Lib.hid c1
    clear h hn h0 h1 c1
    go_enter Tryz.func29, Tryz.ntmps29
    go_wp2_with (fail)
    refine C1.out.mono ?_
    rintro e w1 ⟨rfl, rfl⟩
    go_wp2
    go_ret
    rw [HR.out]
    exact ⟨rfl, Only.refl _ _⟩
  · obtain ⟨j, rfl⟩ := Int.eq_ofNat_of_zero_le (show 0 ≤ n by omega)
    have hj : j < ks.length := by omega
    have HR := Lib.hid (show nameZ ks (j : Int) = (ks.getD j default).name by unfold nameZ; rw [if_neg (by omega)]; rfl)
    rw [show (decide (0 ≤ (j : Int)) && decide ((j : Int) < (ks.length : Int))) = true by simp; omega] at c1
    obtain ⟨b, o, cap, mb, q0, q1, p1, p2, hm, hk⟩ := h.open hn
    obtain ⟨iv, q2, hkn⟩ := hk j hj
    obtain ⟨T, v, vom, ht⟩ := hkn.told
    obtain ⟨rfl, ⟨nn, hq, hen, hcalls⟩, -, -, -, -⟩ := ht
    have hjz : (j : Int) < (ks.length : Int) := by omega
    have hj0 : (0 : Int) ≤ (j : Int) := by omega
    have C1 := Lib.hid c1
    have C2 := Lib.hid (hcalls w (Only.refl _ _))
    generalize ks.getD j default = p at *
    clear h hn hk hkn hm c1 h0 h1 hcalls
    go_enter Tryz.func29, Tryz.ntmps29
    go_wp2_with (fail)
    refine C1.out.mono ?_
    rintro e w1 ⟨rfl, rfl⟩
    go_wp2_with (fail)
    refine C2.out.mono ?_
    rintro e w2 ⟨rfl, ho2⟩
    have HO2 := Lib.hid ho2
    clear ho2
    go_wp2
    go_ret
    rw [HR.out]
    exact ⟨rfl, HO2.out⟩
set_option maxHeartbeats 2000000 in
set_option maxRecDepth 100000 in
theorem pSuper (hroot : findZ ks (ks.getD 0 default).super = -1) (hf : ∀ k ∈ ks, FineK k) (n : Int) : Calls Tryz.prog 25 #[.pointer (some ⟨pb, 0, none⟩), .int .i64 n] w fun e w' => e = .returned (.int .i64 (superZ ks n)) ∧ Only (fun _ => False) w w' := by
  have c1 := pHas h hn n
  by_cases h0 : 0 ≤ n ∧ n < (ks.length : Int)
  · obtain ⟨j, rfl⟩ := Int.eq_ofNat_of_zero_le h0.1
    have hj : j < ks.length := by omega
    have HR := Lib.hid (show superZ ks (j : Int) = findZ ks (ks.getD j default).super by
      by_cases hj0 : j = 0
      · subst hj0; rw [hroot]; exact super_zero ks
      · exact super_list (by omega) hj)
    rw [show (decide (0 ≤ (j : Int)) && decide ((j : Int) < (ks.length : Int))) = true by simp; omega] at c1
    have hsz := (hf _ (getD_mem hj)).super
    have CF := Lib.hid (fun W (hW : ProgG G fv W pb ks cl sl) => pFind hW hn (ks.getD j default).super (by unfold maxLen; omega))
    have H := Lib.hid h
    obtain ⟨b, o, cap, mb, q0, q1, p1, p2, hm, hk⟩ := h.open hn
    obtain ⟨iv, q2, hkn⟩ := hk j hj
    obtain ⟨T, v, vom, ht⟩ := hkn.told
    obtain ⟨rfl, -, ⟨nn, hq, hen, hcalls⟩, -, -, -⟩ := ht
    have hjz : (j : Int) < (ks.length : Int) := by omega
    have hj0 : (0 : Int) ≤ (j : Int) := by omega
    have C1 := Lib.hid c1
    have C2 := Lib.hid (hcalls w (Only.refl _ _))
    generalize ks.getD j default = p at *
    clear h hn hk hkn hm c1 h0 hcalls hroot hf hsz
    go_enter Tryz.func25, Tryz.ntmps25
    go_wp2_with (fail)
    refine C1.out.mono ?_
    rintro e w1 ⟨rfl, rfl⟩
    go_wp2_with (fail)
    refine C2.out.mono ?_
    rintro e w2 ⟨rfl, ho2⟩
    have HO2 := Lib.hid ho2
    go_wp2_with (fail)
    refine (CF.out _ (H.out.only ho2)).mono ?_
    rintro e w3 ⟨rfl, rfl⟩
    clear ho2
    go_wp2
    go_ret
    rw [HR.out]
    exact ⟨rfl, HO2.out⟩
  · have HR := Lib.hid (show superZ ks n = -1 by
      by_cases h1 : n < 1
      · exact if_pos h1
      · unfold superZ; rw [if_neg h1, if_pos (by omega)])
    rw [show (decide (0 ≤ n) && decide (n < (ks.length : Int))) = false by simp; omega] at c1
    have C1 := Lib.hid c1
    clear h hn h0 c1 hroot hf
    go_enter Tryz.func25, Tryz.ntmps25
    go_wp2_with (fail)
    refine C1.out.mono ?_
    rintro e w1 ⟨rfl, rfl⟩
    go_wp2
    go_ret
    rw [HR.out]
    exact ⟨rfl, Only.refl _ _⟩
end
end Go.Proofs.YtgdgffnaknkbcaaGreatDoor
namespace Go.Proofs.YtgdgffnaknkbcaaGreatDoor
open Go.RowKit
set_option linter.unusedVariables false
set_option linter.unusedSimpArgs false
theorem pStatic (m : MethN) (s : Int) (w : World) : Calls Tryz.prog 79 #[.agg #[.string m.name, .string m.desc, .int .i64 m.flags, .int .i64 s]] w fun e w' => e = .returned (.bool (m.flags == 8)) ∧ Only (fun _ => False) w w' := by
  have ho := (Only.refl (fun _ => False) w).alloc (.cells #[.string m.name, .string m.desc, .int .i64 m.flags, .int .i64 s] 123)
  have HO := Lib.hid ho
  clear ho
  go_enter Tryz.func79, Tryz.ntmps79
  go_wp2
  go_ret
  exact ⟨rfl, HO.out⟩
end Go.Proofs.YtgdgffnaknkbcaaGreatDoor
