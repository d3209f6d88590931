/- The program's refusals: what leaves by a panic, what is taken up. No condition. The program's Check of a class: what the document says. No condition but the form's own reach. What takes up a refusal (refusalOf), and the program's Check of a class: what the document says. No condition but the form's own reach. The program's Check of a class: what the document says. No condition but the form's own reach. -/
import Derived.Test.YtodhdiccfobcfaaGreatDoorGClsR
import Derived.Test.YtodhdiccfobcfaaGreatDoorPolM
import Derived.Test.YtodhdiccfobcfaaGreatDoorGPolR
import Derived.WalkLawsBesides
import Derived.Defers
import Derived.Recover
import Derived.Test.YtodhdiccfobcfaaGreatDoorPolN
namespace Go.Proofs.YtodhdiccfobcfaaGreatDoor
open Go.RowKit
set_option linter.unusedVariables false
set_option linter.unusedSimpArgs false

/-- A refusal on its way. -/
abbrev pan (z : Int) : Ending := .panicked [{ v := .iface 28 (.int .i64 z), recovered := false }]
/-- Goes on where Q holds, else refused by z. -/
def GoIf (Q : Prop) (z : Int) (w : World) (e : Ending) (w' : World) : Prop := ((Q ∧ e = .returned (.tuple #[])) ∨ (¬ Q ∧ e = pan z)) ∧ Only (fun _ => False) w w'
theorem GoIf.yes {Q : Prop} {z : Int} {w w' : World} (h : Q) (ho : Only (fun _ => False) w w') : GoIf Q z w (.returned (.tuple #[])) w' := ⟨.inl ⟨h, rfl⟩, ho⟩
theorem GoIf.no {Q : Prop} {z : Int} {w w' : World} (h : ¬ Q) (ho : Only (fun _ => False) w w') : GoIf Q z w (pan z) w' := ⟨.inr ⟨h, rfl⟩, ho⟩

theorem refuse0 (w : World) : Calls Tryz.prog 67 #[.int .i64 0] w fun e w' => e = .returned (.tuple #[]) ∧ w = w' := by
  go_enter Tryz.func67, Tryz.ntmps67
  go_wp2
  go_end0
  exact ⟨rfl, rfl⟩
theorem refuseN (z : Int) (hz : z ≠ 0) (w : World) : Calls Tryz.prog 67 #[.int .i64 z] w fun e w' => e = pan z ∧ w = w' := by
  have hb : (z != 0) = true := by simpa using hz
  go_enter Tryz.func67, Tryz.ntmps67
  go_wp2
  exact ⟨rfl, rfl, rfl⟩
theorem mustT (w : World) : Calls Tryz.prog 70 #[.bool true] w fun e w' => e = .returned (.tuple #[]) ∧ w = w' := by
  go_enter Tryz.func70, Tryz.ntmps70
  go_wp2
  go_end0
  exact ⟨rfl, rfl⟩
theorem mustF (w : World) : Calls Tryz.prog 70 #[.bool false] w fun e w' => e = pan 50 ∧ w = w' := by
  have c := refuseN 50 (by decide) w
  go_enter Tryz.func70, Tryz.ntmps70
  go_wp2_with (go_at_call 67; refine c.mono ?_; rintro e w' ⟨rfl, rfl⟩)
  exact ⟨rfl, rfl, rfl⟩
theorem mustB (b : Bool) (w : World) : Calls Tryz.prog 70 #[.bool b] w fun e w' => ((b = true ∧ e = .returned (.tuple #[])) ∨ (b = false ∧ e = pan 50)) ∧ w = w' := by
  cases b
  · exact (mustF w).mono fun e w' h => ⟨.inr ⟨rfl, h.1⟩, h.2⟩
  · exact (mustT w).mono fun e w' h => ⟨.inl ⟨rfl, h.1⟩, h.2⟩
theorem isText (v : Value) (cs : List ConstV) (i : Int) (w : World) (hp : Pool w v cs) :
    Calls Tryz.prog 101 #[v, .int .i64 i] w fun e w' => e = .returned (.bool (textZ cs i).2) ∧ Only (fun _ => False) w w' := by
  have c := progText v cs i w hp
  go_enter Tryz.func101, Tryz.ntmps101
  go_wp2_with (go_at_call 84; refine c.mono ?_; rintro e w' ⟨rfl, ho⟩)
  go_ret
  exact ⟨rfl, ho⟩
theorem isClass (v : Value) (cs : List ConstV) (i : Int) (w : World) (hp : Pool w v cs) :
    Calls Tryz.prog 71 #[v, .int .i64 i] w fun e w' => e = .returned (.bool (classZ cs i).2) ∧ Only (fun _ => False) w w' := by
  have c := progClass v cs i w hp
  go_enter Tryz.func71, Tryz.ntmps71
  go_wp2_with (go_at_call 54; refine c.mono ?_; rintro e w' ⟨rfl, ho⟩)
  go_ret
  exact ⟨rfl, ho⟩
theorem clsName (vp vf vm : Value) (cs : List ConstV) (this super : Int) (w : World) (hp : Pool w vp cs) :
    Calls Tryz.prog 27 #[.agg #[vp, .int .i64 this, .int .i64 super, vf, vm]] w fun e w' => e = .returned (.string (classZ cs this).1) ∧ Only (fun _ => False) w w' := by
  obtain ⟨ao, cap, rfl, _⟩ := id hp
  have ho0 : ∀ o, Only (fun _ => False) w (w.alloc o) := fun o => (Only.refl _ _).alloc o
  have c := fun o => progClass _ cs this _ (hp.only (ho0 o) (fun _ _ h => h))
  go_enter Tryz.func27, Tryz.ntmps27
  go_wp2_with (go_at_call 54; refine (c _).mono ?_; rintro e w' ⟨rfl, ho⟩)
  go_ret
  exact ⟨rfl, (ho0 _).trans ho (fun _ h => h.elim)⟩
set_option maxHeartbeats 4000000 in
set_option maxRecDepth 100000 in
/-- A trap. -/
theorem checkTrapP (v : Value) (cs : List ConstV) (t : TrapV) (n : Nat) (hn : n ≤ 9223372036854775807) (w : World) (hp : Pool w v cs) :
    Calls Tryz.prog 103 #[v, .agg #[.int .i64 t.from_, .int .i64 t.to_, .int .i64 t.hand, .int .i64 t.type], .int .i64 n] w (GoIf (TrapP cs n t) 50 w) := by
  obtain ⟨ao, cap, rfl, _⟩ := id hp
  have ho0 : ∀ o, Only (fun _ => False) w (w.alloc o) := fun o => (Only.refl _ _).alloc o
  have cC := fun i w' (ho : Only (fun _ => False) w w') => isClass _ cs i w' (hp.only ho (fun _ _ h => h))
  have CC := Lib.hid cC
  have HO := Lib.hid ho0
  clear cC ho0 hp
  obtain ⟨a, b, c, d⟩ := t
  simp only
  go_enter Tryz.func103, Tryz.ntmps103
  go_wp2_with (first | (go_at_call 70; refine (mustB _ _).mono ?_; rintro e w' ⟨⟨h, rfl⟩ | ⟨h, rfl⟩, rfl⟩) | (go_at_call 71; refine (CC.out _ _ (HO.out _)).mono ?_; rintro e w' ⟨rfl, ho⟩; have HOC := Lib.hid ho))
  all_goals try (exfalso; (first | exact absurd (by assumption : true = false) (by decide) | exact absurd (by assumption : false = true) (by decide)); done)
  all_goals first
    | (go_end0
       refine GoIf.yes (Q := TrapP cs n ⟨a, b, c, _⟩) ⟨?_, ?_, ?_, ?_, ?_, ?_⟩ (by first | exact HO.out _ | exact (HO.out _).trans HOC.out (fun _ h => h.elim))
       all_goals
         clear CC HO
         simp only [decide_eq_true_eq, Bool.or_eq_true, beq_iff_eq] at *
         first
           | omega
           | assumption
           | (left; omega))
    | (refine ⟨rfl, GoIf.no (fun hq => ?_) (by first | exact HO.out _ | exact (HO.out _).trans HOC.out (fun _ h => h.elim))⟩
       obtain ⟨q1, q2, q3, q4, q5, q6⟩ := hq
       clear CC HO
       try simp only at q1 q2 q3 q4 q5 q6
       try simp only [decide_eq_true_eq, decide_eq_false_iff_not, Bool.or_eq_false_iff, beq_eq_false_iff_ne, ne_eq] at *
       first
         | omega
         | (rcases q6 with q6 | q6
            · omega
            · simp_all; done))
theorem isSlotsP (n : Int) (w : World) :
    Calls Tryz.prog 102 #[.int .i64 n] w fun e w' => e = .returned (.bool (decide (0 ≤ n) && decide (n ≤ 64))) ∧ w = w' := by
  by_cases h : 0 ≤ n
  · go_enter Tryz.func102, Tryz.ntmps102
    go_wp2
    go_ret
    exact ⟨by simp [h], rfl⟩
  · go_enter Tryz.func102, Tryz.ntmps102
    go_wp2
    go_ret
    exact ⟨by rw [decide_eq_false (Int.not_le.2 h)]; rfl, rfl⟩
theorem checkCountP (n : Int) (w : World) :
    Calls Tryz.prog 100 #[.int .i64 n] w (GoIf (n ≤ 64) 2 w) := by
  by_cases h : 64 < n
  · go_enter Tryz.func100, Tryz.ntmps100
    go_wp2_with (go_at_call 67; refine (refuseN 2 (by decide) _).mono ?_; rintro e w' ⟨rfl, rfl⟩)
    exact ⟨rfl, GoIf.no (Int.not_le.2 h) (Only.refl _ _)⟩
  · go_enter Tryz.func100, Tryz.ntmps100
    go_wp2
    go_end0
    exact GoIf.yes (by first | trivial | assumption) (Only.refl _ _)
set_option maxHeartbeats 4000000 in
set_option maxRecDepth 100000 in
theorem checkMemberP (v : Value) (cs : List ConstV) (fl nm ds : Int) (w : World) (hp : Pool w v cs) :
    Calls Tryz.prog 72 #[v, .int .i64 fl, .int .i64 nm, .int .i64 ds] w (GoIf (FlagsP fl ∧ (textZ cs nm).2 = true ∧ (textZ cs ds).2 = true) 50 w) := by
  obtain ⟨ao, cap, rfl, _⟩ := id hp
  have cT := fun i w' (ho : Only (fun _ => False) w w') => isText _ cs i w' (hp.only ho (fun _ _ h => h))
  have CT := Lib.hid cT
  have HON := Lib.hid (Only.refl (fun _ => False) w)
  clear cT hp
  go_enter Tryz.func72, Tryz.ntmps72
  go_wp2_with (first | (go_at_call 70; refine (mustB _ _).mono ?_; rintro e w' ⟨⟨h, rfl⟩ | ⟨h, rfl⟩, rfl⟩) | (go_at_call 101; refine (CT.out _ _ HON.out).mono ?_; rintro e w' ⟨rfl, ho⟩; have HON := Lib.hid (HON.out.trans ho (fun _ h => h.elim)); clear ho))
  all_goals try (exfalso; (first | exact absurd (by assumption : true = false) (by decide) | exact absurd (by assumption : false = true) (by decide)); done)
  all_goals first
    | (go_end0
       refine GoIf.yes ⟨?_, ?_, ?_⟩ HON.out
       · clear HON CT
         show _ ∨ _
         first
           | (left; assumption)
           | (left; rfl)
           | (simp_all; done)
           | omega
       · assumption
       · assumption)
    | (refine ⟨rfl, GoIf.no (fun hq => ?_) HON.out⟩
       obtain ⟨q1, q2, q3⟩ := hq
       all_goals
         clear HON CT
         unfold FlagsP at q1
         try simp only [decide_eq_true_eq, decide_eq_false_iff_not, Bool.or_eq_false_iff, beq_eq_false_iff_ne, ne_eq] at *
         all_goals first
           | omega
           | (simp_all; done)
           | (simp_all; omega))

/-- The texts of a right pool have nothing else, and none stands at its first place. -/
def Bare (cs : List ConstV) : Prop := (∀ c ∈ cs, c.tag = 1 → c.n = 0 ∧ c.a = 0 ∧ c.b = 0) ∧ (cs.getD 0 default).tag ≠ 1
theorem bare_of_right {cs : List ConstV} (h : checkZ cs = 0) : Bare cs := by
  obtain ⟨h1, h2, h3, h4⟩ := checkZ_zero h
  refine ⟨fun c hc ht => ?_, by rw [h3]; decide⟩
  obtain ⟨i, hi, rfl⟩ := List.mem_iff_getElem.1 hc
  have e : cs.getD i default = cs[i] := by simp [List.getD, hi]
  by_cases h0 : i = 0
  · subst h0; rw [← e, h3] at ht; exact absurd ht (by decide)
  · have hb := bare_of_one (h4 i (by omega) hi)
    rw [e] at hb
    unfold bareZ at hb
    rw [if_pos ht] at hb
    simpa using hb
/-- The earliest place that holds a text: -1: there is none. -/
noncomputable def idxZ (cs : List ConstV) (s : ByteArray) : Int := if placeOf cs s = 0 then -1 else placeOf cs s
theorem findFrom_pos {s : ByteArray} : ∀ {l : List ConstV} {i : Nat}, 1 ≤ i → findFrom s i l = 0 ∨ (i : Int) ≤ findFrom s i l
  | [], i, _ => .inl rfl
  | c :: r, i, hi => by
    by_cases hc : c.tag = 1 ∧ c.text = s
    · rw [findFrom_here rfl hc]; exact .inr (Int.le_refl _)
    · rw [findFrom_skip rfl hc]
      rcases findFrom_pos (s := s) (l := r) (i := i + 1) (by omega) with h | h
      · exact .inl h
      · exact .inr (by omega)
theorem idxZ_pos (cs : List ConstV) (s : ByteArray) : 0 < idxZ cs s ↔ placeOf cs s ≠ 0 := by
  unfold idxZ
  rcases findFrom_pos (s := s) (l := cs.drop 1) (i := 1) (by decide) with h | h
  · rw [if_pos (show placeOf cs s = 0 from h)]; exact ⟨fun h => absurd h (by decide), fun h' => absurd h h'⟩
  · have hne : placeOf cs s ≠ 0 := by unfold placeOf; omega
    rw [if_neg hne]
    refine ⟨fun _ => hne, fun _ => ?_⟩
    unfold placeOf
    omega

set_option maxHeartbeats 2000000 in
theorem indexP (v : Value) (cs : List ConstV) (s : ByteArray) (w : World) (hp : Pool w v cs) (hb : Bare cs) :
    Calls Tryz.prog 77 #[v, .agg #[.int .i64 1, .string s, .int .i64 0, .int .i64 0, .int .i64 0]] w fun e w' => e = .returned (.int .i64 (idxZ cs s)) ∧ Only (fun _ => False) w w' := by
  obtain ⟨ao, cap, rfl, h1, h2, h3, h4, h5⟩ := id hp
  have ho0 : ∀ o, Only (fun _ => False) w (w.alloc o) := fun o => (Only.refl _ _).alloc o
  have Hp := Lib.hid (hp.only (ho0 (.cells #[.int .i64 1, .string s, .int .i64 0, .int .i64 0, .int .i64 0] 67)) (fun _ _ h => h))
  have HO := Lib.hid ho0
  have HB := Lib.hid hb
  have hbx := heap_alloc_new w (.cells #[.int .i64 1, .string s, .int .i64 0, .int .i64 0, .int .i64 0] 67)
  have HBX := Lib.hid hbx
  clear h3 h4 h5 hp hb ho0 hbx
  go_enter Tryz.func77, Tryz.ntmps77
  go_wp2
  go_loopw [8] (fun i wr => ∃ j : Nat, j ≤ cs.length ∧ i = .int .i64 j ∧ (j = 0 ∨ (1 ≤ j ∧ placeOf cs s = findFrom s j (cs.drop j))) ∧ Only (fun _ => False) (w.alloc (.cells #[.int .i64 1, .string s, .int .i64 0, .int .i64 0, .int .i64 0] 67)) wr) (fun i _ => cs.length - (intOf i).toNat)
  case atStart => exact ⟨0, Nat.zero_le _, rfl, .inl rfl, Only.refl _ _⟩
  case round =>
    obtain ⟨j, hj, rfl, hpl, hwr⟩ := hrel
    have hbr := hwr.heap HBX.out (fun h => h)
    have q0 := cell_blk hbr 0
    have q1 := cell_blk hbr 1
    have q2 := cell_blk hbr 2
    have q3 := cell_blk hbr 3
    have q4 := cell_blk hbr 4
    simp at q0 q1 q2 q3 q4
    have hpr := Hp.out.only hwr (fun _ _ h => h)
    have HWR := Lib.hid hwr
    clear hwr hbr
    by_cases hlt : j < cs.length
    · obtain ⟨b, o, rfl, hc⟩ := Pool.at hpr hlt
      obtain ⟨g0, g1, g2, g3, g4⟩ := hc
      have hjz : (j : Int) < (cs.length : Int) := by omega
      have hdr : cs.drop j = cs.getD j default :: cs.drop (j + 1) := by rw [List.drop_eq_getElem_cons hlt]; simp [List.getD, hlt]
      have hz1 : j = 0 → (cs.getD j default).tag ≠ 1 := fun e => by subst e; exact HB.out.2
      have hbare := HB.out.1 _ (show cs.getD j default ∈ cs by simp [List.getD, hlt])
      by_cases hh : (cs.getD j default).tag = 1 ∧ (cs.getD j default).text = s
      · have hv : placeOf cs s = (j : Int) := by
          rcases hpl with e | ⟨_, hpl⟩
          · exact absurd hh.1 (hz1 e)
          · exact hpl.trans (findFrom_here hdr hh)
        have hj1 : 1 ≤ j := by rcases hpl with e | ⟨h, _⟩; exact absurd hh.1 (hz1 e); exact h
        have Hv := Lib.hid (show idxZ cs s = (j : Int) by unfold idxZ; rw [if_neg (by omega), hv])
        obtain ⟨ht, hx⟩ := hh
        obtain ⟨b1, b2, b3⟩ := hbare ht
        rw [ht] at g0
        rw [hx] at g1
        rw [b1] at g2
        rw [b2] at g3
        rw [b3] at g4
        clear hpr hdr hpl hv ht hx hz1 hbare b1 b2 b3
        go_wp2
        go_region
        go_wp2
        go_ret
        exact ⟨by rw [Hv.out]; rfl, (HO.out _).trans ((HWR.out.drew)) (fun _ h => h.elim)⟩
      · have hv : placeOf cs s = findFrom s (j + 1) (cs.drop (j + 1)) := by
          rcases hpl with e | ⟨_, hpl⟩
          · subst e; rfl
          · exact hpl.trans (findFrom_skip hdr hh)
        have Hv := Lib.hid hv
        by_cases ht : (cs.getD j default).tag = 1
        · have hx : s ≠ (cs.getD j default).text := fun e => hh ⟨ht, e.symm⟩
          have hne := text_ne hx
          rw [ht] at g0
          generalize (cs.getD j default) = c at *
          obtain ⟨_, x, n, a, bb⟩ := c
          simp only at *
          clear hpr hdr hpl hv ht hx hh hz1 hbare
          go_wp2
          go_region
          go_wp2
          go_roundw
          case rel => exact ⟨j + 1, by omega, by go_num, .inr ⟨by omega, Hv.out⟩, HWR.out.drew⟩
          case measure => simp [intOf]; omega
        · have hne : ((1 : Int) == (cs.getD j default).tag) = false := by simpa using fun e => ht e.symm
          generalize (cs.getD j default) = c at *
          obtain ⟨t, x, n, a, bb⟩ := c
          simp only at *
          clear hpr hdr hpl hv ht hh hz1 hbare
          go_wp2
          go_region
          go_wp2
          go_roundw
          case rel => exact ⟨j + 1, by omega, by go_num, .inr ⟨by omega, Hv.out⟩, HWR.out.drew⟩
          case measure => simp [intOf]; omega
    · have hz : idxZ cs s = -1 := by
        have hp0 : placeOf cs s = 0 := by
          rcases hpl with e | ⟨_, hpl⟩
          · have : cs = [] := List.eq_nil_of_length_eq_zero (by omega)
            subst this
            rfl
          · rw [hpl, List.drop_eq_nil_of_le (by omega)]; rfl
        unfold idxZ
        rw [if_pos hp0]
      have Hz := Lib.hid hz
      have hjz : (cs.length : Int) ≤ (j : Int) := by omega
      clear hz hpl hpr
      go_wp2
      go_ret
      exact ⟨by rw [Hz.out]; rfl, (HO.out _).trans HWR.out (fun _ h => h.elim)⟩
theorem progPlace (v : Value) (cs : List ConstV) (s : ByteArray) (w : World) (hp : Pool w v cs) (hb : Bare cs) :
    Calls Tryz.prog 43 #[v, .string s] w fun e w' => e = .returned (.int .i64 (idxZ cs s)) ∧ Only (fun _ => False) w w' := by
  have c := indexP v cs s w hp hb
  obtain ⟨ao, cap, rfl, _⟩ := id hp
  go_enter Tryz.func43, Tryz.ntmps43
  go_wp2_with (go_at_call 77; refine c.mono ?_; rintro e w' ⟨rfl, ho⟩)
  go_ret
  exact ⟨rfl, ho⟩
end Go.Proofs.YtodhdiccfobcfaaGreatDoor
namespace Go.Proofs.YtodhdiccfobcfaaGreatDoor
open Go.RowKit
set_option linter.unusedVariables false
set_option linter.unusedSimpArgs false

set_option maxHeartbeats 8000000 in
set_option maxRecDepth 100000 in
theorem checkMethodP (v : Value) (cs : List ConstV) (m : MethodV) (vc vt vm : Value) (w : World) (hp : Pool w v cs) (hbare : Bare cs) (hi : Inside w m vc vt vm) :
    Calls Tryz.prog 73 #[v, .agg #[.int .i64 m.flags, .int .i64 m.name, .int .i64 m.desc, .int .i64 m.stack, .int .i64 m.locals, vc, vt, vm]] w (GoIf (MethodP cs m) 50 w) := by
  obtain ⟨ao, cap, rfl, _, _, _, _, _⟩ := id hp
  obtain ⟨hc, ht, hm⟩ := hi
  obtain ⟨ac, cc, rfl, hc1, hc2, _, _, _⟩ := id hc
  obtain ⟨am, cm, rfl, hm1, hm2, _, _, _⟩ := id hm
  obtain ⟨at_, ct, rfl, ht1, ht2⟩ := ht.1.slice
  have cM := fun fl nm ds w' (ho : Only (fun _ => False) w w') => checkMemberP _ cs fl nm ds w' (hp.only ho (fun _ _ h => h))
  have cT := fun t n hn w' (ho : Only (fun _ => False) w w') => checkTrapP _ cs t n hn w' (hp.only ho (fun _ _ h => h))
  have cP := fun s w' (ho : Only (fun _ => False) w w') => progPlace _ cs s w' (hp.only ho (fun _ _ h => h)) hbare
  have HT := Lib.hid ht
  have CM := Lib.hid cM
  have CT := Lib.hid cT
  have CP := Lib.hid cP
  have I1 := Lib.hid (idxZ_pos cs codeT)
  have I2 := Lib.hid (idxZ_pos cs mapsT)
  obtain ⟨fl, nm, ds, st, lo, code, traps, maps⟩ := m
  simp only at *
  unfold maxLen at hc2 hm2
  have hQ : MethodP cs ⟨fl, nm, ds, st, lo, code, traps, maps⟩ = (HeadP cs ⟨fl, nm, ds, st, lo, code, traps, maps⟩ ∧ BodyP cs ⟨fl, nm, ds, st, lo, code, traps, maps⟩ ∧ ∀ t ∈ traps, TrapP cs code.length t) := rfl
  have HQ := Lib.hid hQ
  have hbx := heap_alloc_new w (.cells #[.int .i64 fl, .int .i64 nm, .int .i64 ds, .int .i64 st, .int .i64 lo, .slice ac code.length cc, .slice at_ traps.length ct, .slice am maps.length cm] 62)
  have HBX := Lib.hid hbx
  have HON := Lib.hid ((Only.refl (fun _ => False) w).alloc (.cells #[.int .i64 fl, .int .i64 nm, .int .i64 ds, .int .i64 st, .int .i64 lo, .slice ac code.length cc, .slice at_ traps.length ct, .slice am maps.length cm] 62))
  clear hQ hp hc hm ht cM cT cP hbx hbare
  go_enter Tryz.func73, Tryz.ntmps73
  go_wp2_with (fail)
  refine (CM.out _ _ _ _ HON.out).mono ?_
  rintro e w1 ⟨⟨hmem, rfl⟩ | ⟨hmem, rfl⟩, ho1⟩
  rotate_left
  · refine ⟨rfl, GoIf.no (fun h => hmem ?_) (HON.out.trans ho1 (fun _ h => h.elim))⟩
    rw [HQ.out] at h
    exact ⟨h.1.1, h.1.2.1, h.1.2.2.1⟩
  have hb1 := ho1.heap HBX.out (fun h => h)
  have q3 := cell_blk hb1 3
  have q4 := cell_blk hb1 4
  have q5 := cell_blk hb1 5
  have q6 := cell_blk hb1 6
  simp at q3 q4 q5 q6
  have HB1 := Lib.hid hb1
  have HMEM := Lib.hid hmem
  have HON1 := Lib.hid (HON.out.trans ho1 (fun _ h => h.elim))
  clear ho1 hb1 hmem
  by_cases hgood : (0 ≤ st ∧ st ≤ 64) ∧ (0 ≤ lo ∧ lo ≤ 64) ∧ 1 ≤ (code.length : Int) ∧ (code.length : Int) ≤ 4096
  rotate_left
  · have HG := Lib.hid hgood
    clear hgood
    go_wp2_with (first | (go_at_call 70; refine (mustB _ _).mono ?_; rintro e w' ⟨⟨h, rfl⟩ | ⟨h, rfl⟩, rfl⟩) | (go_at_call 102; refine (isSlotsP _ _).mono ?_; rintro e w' ⟨rfl, rfl⟩))
    all_goals first
      | (refine ⟨rfl, GoIf.no (fun hq => ?_) HON1.out⟩
         rw [HQ.out] at hq
         obtain ⟨⟨_, _, _, h3, h4, h5, h6⟩, ⟨h7, h8, _⟩, _⟩ := hq
         exact HG.out ⟨⟨h3, h4⟩, ⟨h5, h6⟩, by simp only at h7; omega, by simp only at h8; omega⟩)
      | (exfalso
         apply HG.out
         clear HG HQ HON1 HON HMEM CM CT CP I1 I2 HB1 HBX HT
         try simp only [Bool.and_eq_true, decide_eq_true_eq] at *
         first
           | (simp_all; done)
           | (simp_all; omega)
           | omega)
  obtain ⟨⟨s1, s2⟩, ⟨l1, l2⟩, n1, n2⟩ := hgood
  have cS1 := isSlotsP st w1
  have cS2 := isSlotsP lo w1
  rw [decide_eq_true s1, decide_eq_true s2] at cS1
  rw [decide_eq_true l1, decide_eq_true l2] at cS2
  have CS1 := Lib.hid cS1
  have CS2 := Lib.hid cS2
  have HS := Lib.hid (And.intro s1 s2)
  have HL := Lib.hid (And.intro l1 l2)
  clear s1 s2 l1 l2 cS1 cS2
  go_wp2_with (first | (go_at_call 70; refine (mustT _).mono ?_; rintro e w' ⟨rfl, rfl⟩) | (go_at_call 102; first | (refine CS1.out.mono ?_; rintro e w' ⟨rfl, rfl⟩) | (refine CS2.out.mono ?_; rintro e w' ⟨rfl, rfl⟩)))
  go_loopw [37] (fun i wr => ∃ j : Nat, j ≤ traps.length ∧ i = .int .i64 j ∧ (∀ t ∈ traps.take j, TrapP cs code.length t) ∧ Only (fun _ => False) w1 wr) (fun i _ => traps.length - (intOf i).toNat)
  case atStart => exact ⟨0, Nat.zero_le _, rfl, (fun t ht => by simp at ht), Only.refl _ _⟩
  case round =>
    obtain ⟨j, hj, rfl, hall, hwr⟩ := hrel
    have hbr := hwr.heap HB1.out (fun h => h)
    have HBR := Lib.hid hbr
    have q3 := cell_blk hbr 3
    have q4 := cell_blk hbr 4
    have q5 := cell_blk hbr 5
    have q6 := cell_blk hbr 6
    have q7 := cell_blk hbr 7
    simp at q3 q4 q5 q6 q7
    have HALL := Lib.hid hall
    have hon := HON1.out.trans hwr (fun _ h => h.elim)
    have HWR := Lib.hid hwr
    clear hwr hbr hall HB1 HBX
    by_cases hlt : j < traps.length
    · have hjz : (j : Int) < (traps.length : Int) := by omega
      obtain ⟨b, o, e2, hc⟩ := (Traps.only hon HT.out).1.at hlt
      subst e2
      have htr := HT.out.2 _ (getD_mem hlt)
      have HMEM2 := Lib.hid (getD_mem hlt)
      have HTK := Lib.hid (take_snoc hlt)
      obtain ⟨k0, k1, k2, k3⟩ := hc
      obtain ⟨t, ht⟩ : ∃ t, traps.getD j default = t := ⟨_, rfl⟩
      rw [ht] at k0 k1 k2 k3 HMEM2 HTK
      clear ht htr
      obtain ⟨tf, tt, th, ty⟩ := t
      simp only at k0 k1 k2 k3
      have HON := Lib.hid hon
      have q5a : (wr.alloc (.cells #[.int .i64 tf, .int .i64 tt, .int .i64 th, .int .i64 ty] 88)).cell? ⟨w.heap.size, 5, none⟩ = some (.slice ac code.length cc) := ((Only.refl (fun _ => False) wr).alloc _).cell q5 (fun h => h)
      clear hon
      go_wp2_with (fail)
      refine (CT.out ⟨tf, tt, th, ty⟩ code.length (by omega) _ (HON.out.alloc _)).mono ?_
      rintro e w2 ⟨⟨htp, rfl⟩ | ⟨htp, rfl⟩, ho2⟩
      rotate_left
      · refine ⟨rfl, GoIf.no (fun hq => htp ?_) ((HON.out.alloc _).trans ho2 (fun _ h => h.elim))⟩
        rw [HQ.out] at hq
        exact hq.2.2 _ HMEM2.out
      have HTP := Lib.hid htp
      have HO2 := Lib.hid ((HWR.out.alloc _).trans ho2 (fun _ h => h.elim))
      clear ho2 htp
      go_wp2
      go_roundw
      case rel =>
        refine ⟨j + 1, by omega, by go_num, fun t ht => ?_, HO2.out⟩
        rw [HTK.out] at ht
        rcases List.mem_append.1 ht with ht | ht
        · exact HALL.out t ht
        · simp only [List.mem_cons, List.mem_nil_iff, or_false] at ht
          subst ht
          exact HTP.out
      case measure => simp [intOf]; omega
    · have hjn : j = traps.length := by omega
      have hnz : (traps.length : Int) ≤ (j : Int) := by omega
      have HTR := Lib.hid (show ∀ t ∈ traps, TrapP cs code.length t from fun t ht => HALL.out t (by rw [hjn, List.take_of_length_le (Nat.le_refl _)]; exact ht))
      have HON := Lib.hid hon
      clear hlt hjn hon
      have cI1 := CP.out codeT wr HON.out
      have CI1 := Lib.hid cI1
      clear cI1
      by_cases hm : (maps.length : Int) ≤ 4096
      rotate_left
      · have hmz : decide ((maps.length : Int) ≤ 4096) = false := decide_eq_false hm
        go_wp2_with (go_at_call 70; refine (mustF _).mono ?_; rintro e w' ⟨rfl, rfl⟩)
        refine ⟨rfl, GoIf.no (fun hq => ?_) HON.out⟩
        rw [HQ.out] at hq
        have := hq.2.1.2.2.1
        simp only at this
        omega
      go_wp2_with (go_at_call 70; refine (mustT _).mono ?_; rintro e w' ⟨rfl, rfl⟩)
      refine CI1.out.mono ?_
      rintro e w3 ⟨rfl, ho3⟩
      have hb3 := ho3.heap HBR.out (fun h => h)
      have r7 := cell_blk hb3 7
      simp at r7
      have HON3 := Lib.hid (HON.out.trans ho3 (fun _ h => h.elim))
      clear ho3 hb3 CI1
      by_cases hp1 : 0 < idxZ cs codeT
      rotate_left
      · have hpz : decide (0 < idxZ cs codeT) = false := decide_eq_false hp1
        have HP1 := Lib.hid hp1
        clear hp1
        go_wp2_with (go_at_call 70; refine (mustF _).mono ?_; rintro e w' ⟨rfl, rfl⟩)
        refine ⟨rfl, GoIf.no (fun hq => absurd (I1.out.2 ?_) (Int.not_lt.2 HP1.out)) HON3.out⟩
        rw [HQ.out] at hq
        exact hq.2.1.2.2.2.1
      have HP1 := Lib.hid (I1.out.1 hp1)
      have HYES := Lib.hid (fun (h : 0 < maps.length → placeOf cs mapsT ≠ 0) => show MethodP cs ⟨fl, nm, ds, st, lo, code, traps, maps⟩ from
        ⟨⟨HMEM.out.1, HMEM.out.2.1, HMEM.out.2.2, HS.out.1, HS.out.2, HL.out.1, HL.out.2⟩, ⟨show 1 ≤ code.length by omega, show code.length ≤ 4096 by omega, show maps.length ≤ 4096 by omega, HP1.out, h⟩, HTR.out⟩)
      by_cases hm0 : maps = []
      · subst hm0
        go_wp2_with (go_at_call 70; refine (mustT _).mono ?_; rintro e w' ⟨rfl, rfl⟩)
        go_end0
        exact GoIf.yes (HYES.out (fun h => absurd h (by simp))) HON3.out
      have hlp : 0 < maps.length := List.length_pos_iff.2 hm0
      have hmb : ((maps.length : Int) == 0) = false := by simpa using hm0
      have cI2 := CP.out mapsT w3 HON3.out
      have CI2 := Lib.hid cI2
      clear cI2
      go_wp2_with (go_at_call 70; refine (mustT _).mono ?_; rintro e w' ⟨rfl, rfl⟩)
      refine CI2.out.mono ?_
      rintro e w4 ⟨rfl, ho4⟩
      have HON4 := Lib.hid (HON3.out.trans ho4 (fun _ h => h.elim))
      clear ho4 CI2
      by_cases hp2 : 0 < idxZ cs mapsT
      · have HP2 := Lib.hid (I2.out.1 hp2)
        go_wp2_with (go_at_call 70; refine (mustT _).mono ?_; rintro e w' ⟨rfl, rfl⟩)
        go_end0
        exact GoIf.yes (HYES.out (fun _ => HP2.out)) HON4.out
      · have hpz : decide (0 < idxZ cs mapsT) = false := decide_eq_false hp2
        have HP2 := Lib.hid hp2
        clear hp2
        go_wp2_with (go_at_call 70; refine (mustF _).mono ?_; rintro e w' ⟨rfl, rfl⟩)
        refine ⟨rfl, GoIf.no (fun hq => absurd (I2.out.2 ?_) (Int.not_lt.2 HP2.out)) HON4.out⟩
        rw [HQ.out] at hq
        exact hq.2.1.2.2.2.2 hlp
end Go.Proofs.YtodhdiccfobcfaaGreatDoor
namespace Go.Proofs.YtodhdiccfobcfaaGreatDoor
open Go.RowKit
set_option linter.unusedVariables false
set_option linter.unusedSimpArgs false

set_option maxHeartbeats 1000000 in
set_option maxRecDepth 100000 in
theorem catch_idle (p : Addr) (w : World) :
    CallsD Tryz.prog 56 #[.pointer (some p)] .returning w fun e u' w' => e = .returned (.tuple #[]) ∧ u' = .returning ∧ w' = w := by
  refine callsD_of_wpS Tryz.func56 rfl fun c₀ cs hu => ?_
  apply wpS_seq
  apply wpS_region
  simp [wpOpsS, go_sem, recoverD, hu, Tryz.ntmps56, Exit.thenS]
  refine wpS_of_wp ?_
  go_wp2
  cases c₀
  simp_all [bodyPostS, results, Tryz.results56]
theorem run_assert_errno (xT : TypeId) (z : Int) (w : World) : (Instr.typeAssert (.iface 28 (.int .i64 z)) xT 28 true).run Tryz.prog w = .ok (.tuple #[.int .i64 z, .bool true]) w := by
  simp [Instr.typeAssert, run_underlying Tryz.underlying28, go_sem, Result.andThen]
set_option maxHeartbeats 1000000 in
set_option maxRecDepth 100000 in
theorem catch_pan (p : Addr) (z : Int) (x : Value) (w : World) (hc : w.cell? p = some x) (hz : w.frozen? p = false) :
    CallsD Tryz.prog 56 #[.pointer (some p)] (.panicking [{ v := .iface 28 (.int .i64 z), recovered := false }]) w fun e u' w' =>
      e = .returned (.tuple #[]) ∧ u' = .panicking [{ v := .iface 28 (.int .i64 z), recovered := true }] ∧ w' = w.setCell p (.int .i64 z) := by
  refine callsD_of_wpS Tryz.func56 rfl fun c₀ cs hu => ?_
  apply wpS_seq
  apply wpS_region
  simp [wpOpsS, go_sem, recoverD, hu, Tryz.ntmps56, Exit.thenS]
  refine wpS_of_wp ?_
  have hta := fun xT w => run_assert_errno xT z w
  go_wp2
  cases c₀
  simp_all [bodyPostS, results, Tryz.results56]
/-- What goes on, or is refused by z. -/
def Ends (z : Int) (e : Ending) : Prop := (z = 0 ∧ e = .returned (.tuple #[])) ∨ (z ≠ 0 ∧ e = pan z)
set_option maxHeartbeats 1000000 in
set_option maxRecDepth 100000 in
theorem refusal (n : FuncId) (hn : Enters Tryz.prog n) (first cap : Array Value) (w : World) (Q : Int → World → Prop)
    (h : Calls Tryz.prog n (first ++ cap) (w.alloc (.cells #[.int .i64 0] 28)) fun e w1 => ∃ z, Ends z e ∧ Q z w1)
    (hq : ∀ z w1, Q z w1 → w1.heap[w.heap.size]? = some (.cells #[.int .i64 0] 28 (0, 0))) :
    Calls Tryz.prog 29 #[.func (.func n) first cap] w fun e w' => ∃ z w1, e = .returned (.int .i64 z) ∧ Q z w1 ∧ w' = w1.setCell ⟨w.heap.size, 0, none⟩ (.int .i64 z) := by
  have hmf : ∀ (fn : Fn) (first cap : Array Value) (w : World), (Instr.makeFunc fn first cap).run Tryz.prog w = .ok (.func fn first cap) w := fun _ _ _ _ => rfl
  have hen : ∀ args w, (callFunc n args).run Tryz.prog w = .ok (.enter n args) w := hn
  have H := Lib.hid h
  have HQ := Lib.hid hq
  clear h hq
  go_enter_defers Tryz.func29, Tryz.ntmps29
  go_wp2_with (fail)
  refine H.out.mono ?_
  rintro e w1 ⟨z, ⟨rfl, rfl⟩ | ⟨hz, rfl⟩, hq⟩
  · have hb := HQ.out _ _ hq
    have q0 := cell_blk hb 0
    have f0 := frozen_blk hb 0
    simp at q0
    go_wp2
    refine leaves_cons (f := 56) (args := #[.pointer (some ⟨w.heap.size, 0, none⟩)]) (by simp) (by simp [go_sem]) ?_
    refine (catch_idle ⟨w.heap.size, 0, none⟩ _).mono ?_
    rintro e u' w'' ⟨rfl, rfl, rfl⟩
    show Leaves _ _ _ _ [] .returning _
    refine ⟨.int .i64 0, ?_, 0, w1, rfl, hq, rfl⟩
    simp [results, Tryz.results29, go_sem, q0, f0]
  · have hb := HQ.out _ _ hq
    have q0 := cell_blk hb 0
    have f0 := frozen_blk hb 0
    simp at q0
    show Leaves _ _ _ _ [_] (.panicking _) _
    refine leaves_cons (f := 56) (args := #[.pointer (some ⟨w.heap.size, 0, none⟩)]) (by simp) (by simp [go_sem]) ?_
    refine (catch_pan ⟨w.heap.size, 0, none⟩ z _ _ q0 f0).mono ?_
    rintro e u' w'' ⟨rfl, rfl, rfl⟩
    show Leaves _ _ _ _ [] .returning _
    refine ⟨.int .i64 z, ?_, z, w1, rfl, hq, rfl⟩
    simp [results, Tryz.results29, go_sem, q0, f0]

theorem Ends.of {Q : Prop} {z : Int} {w w' : World} {e : Ending} (h : GoIf Q z w e w') (hz : z ≠ 0) : Ends (open Classical in if Q then 0 else z) e := by
  rcases h.1 with ⟨hq, rfl⟩ | ⟨hq, rfl⟩
  · rw [if_pos hq]; exact .inl ⟨rfl, rfl⟩
  · rw [if_neg hq]; exact .inr ⟨hz, rfl⟩
/-- The counts. -/
def LessP (c : ClassV) : Prop := (c.fields.length : Int) ≤ 64 ∧ (c.methods.length : Int) ≤ 64 ∧ ∀ m ∈ c.methods, m.traps.length ≤ 64
theorem LessP.iff (c : ClassV) : LessP c ↔ ¬ LongP c := by
  unfold LessP LongP
  constructor
  · rintro ⟨h1, h2, h3⟩ (h | h | ⟨m, hm, h⟩)
    · omega
    · omega
    · have := h3 m hm; omega
  · intro h
    refine ⟨?_, ?_, fun m hm => ?_⟩
    · apply Classical.byContradiction; intro h'; exact h (.inl (by omega))
    · apply Classical.byContradiction; intro h'; exact h (.inr (.inl (by omega)))
    · apply Classical.byContradiction; intro h'; exact h (.inr (.inr ⟨m, hm, by omega⟩))
set_option maxHeartbeats 4000000 in
set_option maxRecDepth 100000 in
theorem checkCountsP (vp vf vm : Value) (c : ClassV) (w : World) (hc : ClassM w vp vf vm c) :
    Calls Tryz.prog 69 #[.agg #[vp, .int .i64 c.this, .int .i64 c.super, vf, vm]] w (GoIf (LessP c) 2 w) := by
  obtain ⟨pool, this, super, fields, methods⟩ := c
  have hbx := heap_alloc_new w (.cells #[vp, .int .i64 this, .int .i64 super, vf, vm] 26)
  have HON := Lib.hid ((Only.refl (fun _ => False) w).alloc (.cells #[vp, .int .i64 this, .int .i64 super, vf, vm] 26))
  obtain ⟨hp, hf, hm, r1, r2⟩ := id hc
  simp only at *
  obtain ⟨af, cf, rfl, hf1, hf2⟩ := hf.1.slice
  obtain ⟨fm, hm1, hm2, hm3⟩ := id hm
  obtain ⟨am, cm, rfl, hm4, hm5⟩ := hm1.slice
  obtain ⟨ap, cp, rfl, _, _, _, _, _⟩ := id hp
  have HBX := Lib.hid hbx
  have HM1 := Lib.hid hm1
  have HM2 := Lib.hid hm2
  clear hc hp hf hm hbx hm1 hm2 hm3
  have HC := Lib.hid checkCountP
  go_enter Tryz.func69, Tryz.ntmps69
  go_wp2_with (fail)
  refine (checkCountP _ _).mono ?_
  rintro e w1 ⟨⟨g1, rfl⟩ | ⟨g1, rfl⟩, ho1⟩
  rotate_left
  · exact ⟨rfl, GoIf.no (fun h => g1 h.1) (HON.out.trans ho1 (fun _ h => h.elim))⟩
  have hb1 := ho1.heap HBX.out (fun h => h)
  have q4 := cell_blk hb1 4
  simp at q4
  have HON1 := Lib.hid (HON.out.trans ho1 (fun _ h => h.elim))
  have HB1 := Lib.hid hb1
  have G1 := Lib.hid g1
  clear ho1 hb1 g1
  go_wp2_with (fail)
  refine (checkCountP _ _).mono ?_
  rintro e w2 ⟨⟨g2, rfl⟩ | ⟨g2, rfl⟩, ho2⟩
  rotate_left
  · exact ⟨rfl, GoIf.no (fun h => g2 h.2.1) (HON1.out.trans ho2 (fun _ h => h.elim))⟩
  have hb2 := ho2.heap HB1.out (fun h => h)
  have q42 := cell_blk hb2 4
  simp at q42
  have HON2 := Lib.hid (HON1.out.trans ho2 (fun _ h => h.elim))
  have G2 := Lib.hid g2
  clear ho2 hb2 g2 HB1 HBX q4
  go_wp2
  go_loopw [15] (fun i wr => ∃ j : Nat, j ≤ methods.length ∧ i = .int .i64 j ∧ (∀ m ∈ methods.take j, m.traps.length ≤ 64) ∧ Only (fun _ => False) w2 wr) (fun i _ => methods.length - (intOf i).toNat)
  case atStart => exact ⟨0, Nat.zero_le _, rfl, (fun m hm => by simp at hm), Only.refl _ _⟩
  case round =>
    obtain ⟨j, hj, rfl, hall, hwr⟩ := hrel
    have HALL := Lib.hid hall
    have HWR := Lib.hid hwr
    have hon := HON2.out.trans hwr (fun _ h => h.elim)
    clear hall hwr
    by_cases hlt : j < methods.length
    · have hjz : (j : Int) < (methods.length : Int) := by omega
      obtain ⟨b, o, e2, hat⟩ := HM1.out.at hlt
      subst e2
      obtain ⟨k0, k1, k2, k3, k4, k5, k6, k7⟩ := hat.only hon
      have hin := HM2.out j hlt
      have HMEM := Lib.hid (getD_mem hlt)
      have HTK := Lib.hid (take_snoc hlt)
      obtain ⟨m, hm⟩ : ∃ m, methods.getD j default = m := ⟨_, rfl⟩
      rw [hm] at hin HMEM HTK k0 k1 k2 k3 k4
      obtain ⟨at_, ct, e3, hs1, hs2⟩ := hin.2.1.1.slice
      rw [e3] at k6
      have HON := Lib.hid hon
      obtain ⟨ac, cc, e5, _⟩ := hin.1
      obtain ⟨ax, cx, e7, _⟩ := hin.2.2
      rw [e5] at k5
      rw [e7] at k7
      clear hat hin e3 e5 e7 hm hon
      go_wp2_with (fail)
      refine (checkCountP _ _).mono ?_
      rintro e w3 ⟨⟨g3, rfl⟩ | ⟨g3, rfl⟩, ho3⟩
      rotate_left
      · exact ⟨rfl, GoIf.no (fun h => g3 (by have := h.2.2 m HMEM.out; omega)) ((HON.out.alloc _).trans ho3 (fun _ h => h.elim))⟩
      have G3 := Lib.hid g3
      have HO3 := Lib.hid ((HWR.out.alloc _).trans ho3 (fun _ h => h.elim))
      clear g3 ho3
      go_wp2
      go_roundw
      case rel => exact ⟨j + 1, by omega, by go_num, (fun x hx => by
        rw [HTK.out] at hx
        rcases List.mem_append.1 hx with hx | hx
        · exact HALL.out x hx
        · simp only [List.mem_cons, List.mem_nil_iff, or_false] at hx; subst hx; have := G3.out; omega), HO3.out⟩
      case measure => simp [intOf]; omega
    · have hjn : j = methods.length := by omega
      have hjz : (methods.length : Int) ≤ (j : Int) := by omega
      have HL := Lib.hid (show LessP ⟨pool, this, super, fields, methods⟩ from ⟨G1.out, G2.out, fun m hm => HALL.out m (by rw [hjn, List.take_of_length_le (Nat.le_refl _)]; exact hm)⟩)
      have HON := Lib.hid hon
      clear hlt hjn HALL hon
      go_wp2
      go_end0
      exact GoIf.yes HL.out HON.out
end Go.Proofs.YtodhdiccfobcfaaGreatDoor
namespace Go.Proofs.YtodhdiccfobcfaaGreatDoor
open Go.RowKit
set_option linter.unusedVariables false
set_option linter.unusedSimpArgs false

/-- What Check goes through: it goes on, or is refused. -/
def CheckTo (c : ClassV) (w : World) (e : Ending) (w' : World) : Prop := Ends (clsZ c) e ∧ Only (fun _ => False) w w'
theorem CheckTo.no {c : ClassV} {z : Int} {w w' : World} (h : clsZ c = z) (hz : z ≠ 0) (ho : Only (fun _ => False) w w') : CheckTo c w (pan z) w' := ⟨.inr ⟨by rw [h]; exact hz, by rw [h]⟩, ho⟩
set_option maxHeartbeats 8000000 in
set_option maxRecDepth 100000 in
theorem clsCheck (vp vf vm : Value) (c : ClassV) (w : World) (hc : ClassM w vp vf vm c) (hT : Tabs w) (hg : ErrV w) :
    Calls Tryz.prog 38 #[.agg #[vp, .int .i64 c.this, .int .i64 c.super, vf, vm]] w (CheckTo c w) := by
  obtain ⟨pool, this, super, fields, methods⟩ := c
  have hbx := heap_alloc_new w (.cells #[vp, .int .i64 this, .int .i64 super, vf, vm] 26)
  have ho0 := (Only.refl (fun _ => False) w).alloc (.cells #[vp, .int .i64 this, .int .i64 super, vf, vm] 26)
  obtain ⟨hp, hf, hm, r1, r2⟩ := id hc
  simp only at *
  have cK := progCheck _ pool _ (hp.only ho0 (fun _ _ h => h)) (hT.only ho0 (fun h => h) (fun h => h)) (hg.only ho0 (fun h => h))
  have cN := fun w' (ho : Only (fun _ => False) w w') => checkCountsP vp vf vm ⟨pool, this, super, fields, methods⟩ w' (hc.only ho)
  obtain ⟨ap, cp, rfl, _, _, _, _, _⟩ := id hp
  obtain ⟨af, cf, rfl, hf1, hf2⟩ := hf.1.slice
  obtain ⟨fm, hm1, hm2, hm3⟩ := id hm
  obtain ⟨am, cm, rfl, hm4, hm5⟩ := hm1.slice
  unfold I64 at r1 r2
  have cC := fun i w' (ho : Only (fun _ => False) w w') => isClass _ pool i w' (hp.only ho (fun _ _ h => h))
  have cF := fun fl nm ds w' (ho : Only (fun _ => False) w w') => checkMemberP _ pool fl nm ds w' (hp.only ho (fun _ _ h => h))
  have cM := fun hb m vc vt vm w' (hi : Inside w m vc vt vm) (ho : Only (fun _ => False) w w') => checkMethodP _ pool m vc vt vm w' (hp.only ho (fun _ _ h => h)) hb (hi.only ho)
  have HC := Lib.hid hc
  have HO := Lib.hid ho0
  have HBX := Lib.hid hbx
  have HM1 := Lib.hid hm1
  have HM2 := Lib.hid hm2
  have CK := Lib.hid cK
  have CN := Lib.hid cN
  have CC := Lib.hid cC
  have CF := Lib.hid cF
  have CM := Lib.hid cM
  clear hc ho0 hbx hp hf hm hm1 hm2 hm3 cK cN cC cF cM hT hg
  obtain ⟨z, hz⟩ : ∃ z, checkZ pool = z := ⟨_, rfl⟩
  rw [hz] at CK
  have HZ := Lib.hid hz
  clear hz
  go_enter Tryz.func38, Tryz.ntmps38
  go_wp2_with (fail)
  refine CK.out.mono ?_
  rintro e w1 ⟨rfl, ho1⟩
  have hb1 := ho1.heap HBX.out (fun h => h)
  have HB1 := Lib.hid hb1
  have HO1 := Lib.hid (HO.out.trans ho1 (fun _ h => h.elim))
  clear ho1 CK
  by_cases h0 : z = 0
  rotate_left
  · have HR := Lib.hid (show clsZ ⟨pool, this, super, fields, methods⟩ = z by rw [clsZ_pool (by show checkZ pool ≠ 0; rw [HZ.out]; exact h0)]; exact HZ.out)
    go_wp2_with (go_at_call 67; refine (refuseN z h0 _).mono ?_; rintro e w' ⟨rfl, rfl⟩)
    exact ⟨rfl, CheckTo.no HR.out h0 HO1.out⟩
  subst h0
  have q0 := cell_blk hb1 0
  have q1 := cell_blk hb1 1
  have q2 := cell_blk hb1 2
  have q3 := cell_blk hb1 3
  have q4 := cell_blk hb1 4
  simp at q0 q1 q2 q3 q4
  clear hb1
  go_wp2_with (go_at_call 67; refine (refuse0 _).mono ?_; rintro e w' ⟨rfl, rfl⟩)
  refine (CN.out _ HO1.out).mono ?_
  rintro e w2 ⟨⟨g1, rfl⟩ | ⟨g1, rfl⟩, ho2⟩
  rotate_left
  · have HR := clsZ_long (c := ⟨pool, this, super, fields, methods⟩) HZ.out (Classical.byContradiction fun h => g1 ((LessP.iff _).2 h))
    exact ⟨rfl, CheckTo.no HR (by decide) (HO1.out.trans ho2 (fun _ h => h.elim))⟩
  have HNL := Lib.hid ((LessP.iff _).1 g1)
  have wrong : ¬ RightP ⟨pool, this, super, fields, methods⟩ → clsZ ⟨pool, this, super, fields, methods⟩ = 50 := clsZ_wrong HZ.out HNL.out
  have WRONG := Lib.hid wrong
  have hb2 := ho2.heap HB1.out (fun h => h)
  have HB2 := Lib.hid hb2
  have HO2 := Lib.hid (HO1.out.trans ho2 (fun _ h => h.elim))
  clear q0 q1 q2 q3 q4
  have q0 := cell_blk hb2 0
  have q1 := cell_blk hb2 1
  simp at q0 q1
  clear wrong g1 ho2 hb2 CN HB1
  go_wp2_with (fail)
  refine (CC.out _ _ HO2.out).mono ?_
  rintro e w3 ⟨rfl, ho3⟩
  have hb3 := ho3.heap HB2.out (fun h => h)
  have HB3 := Lib.hid hb3
  have HO3 := Lib.hid (HO2.out.trans ho3 (fun _ h => h.elim))
  clear q0 q1
  have q0 := cell_blk hb3 0
  have q2 := cell_blk hb3 2
  simp at q0 q2
  clear hb3 ho3 HB2
  obtain ⟨b, hb⟩ : ∃ b, (classZ pool this).2 = b := ⟨_, rfl⟩
  rw [hb]
  have HBT := Lib.hid hb
  clear hb
  cases b
  · go_wp2_with (go_at_call 70; refine (mustF _).mono ?_; rintro e w' ⟨rfl, rfl⟩)
    exact ⟨rfl, CheckTo.no (WRONG.out (fun h => by rw [h.1] at HBT; exact absurd HBT.out (by decide))) (by decide) HO3.out⟩
  go_wp2_with (go_at_call 70; refine (mustT _).mono ?_; rintro e w' ⟨rfl, rfl⟩)
  refine (CC.out _ _ HO3.out).mono ?_
  rintro e w4 ⟨rfl, ho4⟩
  have hb4 := ho4.heap HB3.out (fun h => h)
  have HB4 := Lib.hid hb4
  have HO4 := Lib.hid (HO3.out.trans ho4 (fun _ h => h.elim))
  clear q0 q2
  have q0 := cell_blk hb4 0
  have q3 := cell_blk hb4 3
  simp at q0 q3
  clear hb4 ho4 HB3
  obtain ⟨b, hb⟩ : ∃ b, (classZ pool super).2 = b := ⟨_, rfl⟩
  rw [hb]
  have HBS := Lib.hid hb
  clear hb
  cases b
  · go_wp2_with (go_at_call 70; refine (mustF _).mono ?_; rintro e w' ⟨rfl, rfl⟩)
    exact ⟨rfl, CheckTo.no (WRONG.out (fun h => by have := h.2.1; rw [this] at HBS; exact absurd HBS.out (by decide))) (by decide) HO4.out⟩
  go_wp2_with (go_at_call 70; refine (mustT _).mono ?_; rintro e w' ⟨rfl, rfl⟩)
  go_loopw [27] (fun i wr => ∃ j : Nat, j ≤ fields.length ∧ i = .int .i64 j ∧ (∀ f ∈ fields.take j, FieldP pool f) ∧ Only (fun _ => False) w4 wr) (fun i _ => fields.length - (intOf i).toNat)
  case atStart => exact ⟨0, Nat.zero_le _, rfl, (fun m hm => by simp at hm), Only.refl _ _⟩
  case round =>
    obtain ⟨j, hj, rfl, hall, hwr⟩ := hrel
    have hbr := hwr.heap HB4.out (fun h => h)
    have HBR := Lib.hid hbr
    clear q0 q3
    have q0 := cell_blk hbr 0
    have q4 := cell_blk hbr 4
    simp at q0 q4
    have HALL := Lib.hid hall
    have HWR := Lib.hid hwr
    have hon := HO4.out.trans hwr (fun _ h => h.elim)
    have HON := Lib.hid hon
    clear hall hwr hbr
    by_cases hlt : j < fields.length
    · have hjz : (j : Int) < (fields.length : Int) := by omega
      have HFF := Lib.hid HC.out.2.1
      obtain ⟨b, o, e2, hat⟩ := HFF.out.1.at hlt
      subst e2
      obtain ⟨k0, k1, k2⟩ := hat.only hon
      have HMEM := Lib.hid (getD_mem hlt)
      have HTK := Lib.hid (take_snoc hlt)
      obtain ⟨f, hf⟩ : ∃ f, fields.getD j default = f := ⟨_, rfl⟩
      rw [hf] at HMEM HTK k0 k1 k2
      obtain ⟨fl, nm, ds⟩ := f
      simp only at k0 k1 k2
      have hoa := (Only.refl (fun _ => False) wr).alloc (.cells #[.int .i64 fl, .int .i64 nm, .int .i64 ds] 59)
      have q0a := hoa.cell q0 (fun h => h)
      have HOA := Lib.hid (HWR.out.trans hoa (fun _ h => h.elim))
      have HONA := Lib.hid (hon.trans hoa (fun _ h => h.elim))
      clear hat hf hon hoa
      go_wp2_with (fail)
      refine (CF.out _ _ _ _ HONA.out).mono ?_
      rintro e w5 ⟨⟨g5, rfl⟩ | ⟨g5, rfl⟩, ho5⟩
      rotate_left
      · exact ⟨rfl, CheckTo.no (WRONG.out (fun h => g5 (h.2.2.1 _ HMEM.out))) (by decide) (HONA.out.trans ho5 (fun _ h => h.elim))⟩
      have FIN := Lib.hid (show ∀ x ∈ fields.take (j + 1), FieldP pool x from fun x hx => by
        rw [HTK.out] at hx
        rcases List.mem_append.1 hx with hx | hx
        · exact HALL.out x hx
        · simp only [List.mem_cons, List.mem_nil_iff, or_false] at hx; subst hx; exact g5)
      have HO5 := Lib.hid (HOA.out.trans ho5 (fun _ h => h.elim))
      clear g5 ho5 HALL HTK
      go_wp2
      go_roundw
      case rel => exact ⟨j + 1, by omega, by go_num, FIN.out, HO5.out⟩
      case measure => simp [intOf]; omega
    · have hjn : j = fields.length := by omega
      have hjz : (fields.length : Int) ≤ (j : Int) := by omega
      have HFS := Lib.hid (show ∀ f ∈ fields, FieldP pool f from fun f hf => HALL.out f (by rw [hjn, List.take_of_length_le (Nat.le_refl _)]; exact hf))
      have HBB := Lib.hid (bare_of_right HZ.out)
      clear hjn HALL hon
      go_wp2
      go_loopw [44] (fun i wr2 => ∃ j : Nat, j ≤ methods.length ∧ i = .int .i64 j ∧ (∀ m ∈ methods.take j, MethodP pool m) ∧ Only (fun _ => False) wr wr2) (fun i _ => methods.length - (intOf i).toNat)
      case atStart => exact ⟨0, Nat.zero_le _, rfl, (fun m hm => by simp at hm), Only.refl _ _⟩
      case round =>
        obtain ⟨j, hj, rfl, hall, hwr⟩ := hrel
        have hbr := hwr.heap HBR.out (fun h => h)
        clear q0 q4
        have q0 := cell_blk hbr 0
        simp at q0
        have HALL := Lib.hid hall
        have HWR2 := Lib.hid hwr
        have hon := HON.out.trans hwr (fun _ h => h.elim)
        have HON2 := Lib.hid hon
        clear hall hwr hbr
        by_cases hlt : j < methods.length
        · have hjz : (j : Int) < (methods.length : Int) := by omega
          obtain ⟨b, o, e2, hat⟩ := HM1.out.at hlt
          subst e2
          obtain ⟨k0, k1, k2, k3, k4, k5, k6, k7⟩ := hat.only hon
          have hin := HM2.out j hlt
          have HMEM := Lib.hid (getD_mem hlt)
          have HTK := Lib.hid (take_snoc hlt)
          obtain ⟨m, hm⟩ : ∃ m, methods.getD j default = m := ⟨_, rfl⟩
          rw [hm] at hin HMEM HTK k0 k1 k2 k3 k4
          have hcall := fun w' ho => CM.out HBB.out m _ _ _ w' hin ho
          obtain ⟨ac, cc, e5, _⟩ := hin.1
          obtain ⟨at_, ct, e6, _, _⟩ := hin.2.1.1.slice
          obtain ⟨ax, cx, e7, _⟩ := hin.2.2
          rw [e5, e6, e7] at hcall
          rw [e5] at k5
          rw [e6] at k6
          rw [e7] at k7
          have HCALL := Lib.hid hcall
          have hoa := (Only.refl (fun _ => False) wr).alloc (.cells #[.int .i64 m.flags, .int .i64 m.name, .int .i64 m.desc, .int .i64 m.stack, .int .i64 m.locals, .slice ac m.code.length cc, .slice at_ m.traps.length ct, .slice ax m.maps.length cx] 62)
          have q0a := hoa.cell q0 (fun h => h)
          have HOA := Lib.hid (HWR2.out.trans hoa (fun _ h => h.elim))
          have HONA := Lib.hid (hon.trans hoa (fun _ h => h.elim))
          clear hat hin e5 e6 e7 hm hon hcall hoa
          go_wp2_with (fail)
          refine (HCALL.out _ HONA.out).mono ?_
          rintro e w5 ⟨⟨g5, rfl⟩ | ⟨g5, rfl⟩, ho5⟩
          rotate_left
          · exact ⟨rfl, CheckTo.no (WRONG.out (fun h => g5 (h.2.2.2 _ HMEM.out))) (by decide) (HONA.out.trans ho5 (fun _ h => h.elim))⟩
          have FIN := Lib.hid (show ∀ x ∈ methods.take (j + 1), MethodP pool x from fun x hx => by
            rw [HTK.out] at hx
            rcases List.mem_append.1 hx with hx | hx
            · exact HALL.out x hx
            · simp only [List.mem_cons, List.mem_nil_iff, or_false] at hx; subst hx; exact g5)
          have HO5 := Lib.hid (HOA.out.trans ho5 (fun _ h => h.elim))
          clear g5 ho5 HALL HTK
          go_wp2
          go_roundw
          case rel => exact ⟨j + 1, by omega, by go_num, FIN.out, HO5.out⟩
          case measure => simp [intOf]; omega
        · have hjn : j = methods.length := by omega
          have hjz : (methods.length : Int) ≤ (j : Int) := by omega
          have HR := Lib.hid (clsZ_ok HZ.out HNL.out (show RightP ⟨pool, this, super, fields, methods⟩ from ⟨HBT.out, HBS.out, HFS.out, fun m hm => HALL.out m (by rw [hjn, List.take_of_length_le (Nat.le_refl _)]; exact hm)⟩))
          clear hlt hjn HALL hon
          go_wp2
          go_end0
          exact ⟨.inl ⟨HR.out, rfl⟩, HON2.out⟩
/-- Where a look at a class begins, the place of the error that it will tell. -/
theorem ClassM.at0 {w w' : World} {vp vf vm : Value} {c : ClassV} (h : ClassM w vp vf vm c) (ho : Only (fun _ => False) w w') : ClassM w' vp vf vm c := h.only ho
set_option maxHeartbeats 4000000 in
set_option maxRecDepth 100000 in
theorem progClsCheck (vp vf vm : Value) (c : ClassV) (w : World) (hc : ClassM w vp vf vm c) (hT : Tabs w) (hg : ErrV w) :
    Calls Tryz.prog 14 #[.agg #[vp, .int .i64 c.this, .int .i64 c.super, vf, vm]] w fun e w' => e = .returned (.int .i64 (clsZ c)) ∧ Only (fun _ => False) w w' := by
  have hmf : ∀ (fn : Fn) (first cap : Array Value) (w : World), (Instr.makeFunc fn first cap).run Tryz.prog w = .ok (.func fn first cap) w := fun _ _ _ _ => rfl
  have hen : Enters Tryz.prog 37 := enters_of Tryz.func37 (by kernel_rfl) rfl
  have ho0 := (Only.refl (fun _ => False) w).alloc (.cells #[vp, .int .i64 c.this, .int .i64 c.super, vf, vm] 26)
  have ho1 := ho0.alloc (.cells #[.int .i64 0] 28)
  have hbx := heap_alloc_new w (.cells #[vp, .int .i64 c.this, .int .i64 c.super, vf, vm] 26)
  have hb1 := ((Only.refl (fun _ => False) _).alloc (.cells #[.int .i64 0] 28)).heap hbx (fun h => h)
  have he1 := heap_alloc_new (w.alloc (.cells #[vp, .int .i64 c.this, .int .i64 c.super, vf, vm] 26)) (.cells #[.int .i64 0] 28)
  have cK := clsCheck vp vf vm c _ (hc.only ho1) (hT.only ho1 (fun h => h) (fun h => h)) (hg.only ho1 (fun h => h))
  obtain ⟨hp, hf, hm, r1, r2⟩ := id hc
  obtain ⟨ap, cp, rfl, _, _, _, _, _⟩ := id hp
  obtain ⟨af, cf, rfl, hf1, hf2⟩ := hf.1.slice
  obtain ⟨fm, hm1, hm2, hm3⟩ := id hm
  obtain ⟨am, cm, rfl, hm4, hm5⟩ := hm1.slice
  obtain ⟨pool, this, super, fields, methods⟩ := c
  simp only at *
  have cL : Calls Tryz.prog 37 #[.pointer (some ⟨w.heap.size, 0, none⟩)] ((w.alloc (.cells #[.slice ap pool.length cp, .int .i64 this, .int .i64 super, .slice af fields.length cf, .slice am methods.length cm] 26)).alloc (.cells #[.int .i64 0] 28))
      fun e w1 => ∃ z, Ends z e ∧ (z = clsZ ⟨pool, this, super, fields, methods⟩ ∧ Only (fun _ => False) ((w.alloc (.cells #[.slice ap pool.length cp, .int .i64 this, .int .i64 super, .slice af fields.length cf, .slice am methods.length cm] 26)).alloc (.cells #[.int .i64 0] 28)) w1) := by
    have q0 := cell_blk hb1 0
    have q1 := cell_blk hb1 1
    have q2 := cell_blk hb1 2
    have q3 := cell_blk hb1 3
    have q4 := cell_blk hb1 4
    have CK := Lib.hid cK
    clear cK hc hp hf hm hm1 hm2 hm3 hT hg ho0 ho1 hb1 he1 hbx
    generalize hW : ((w.alloc (.cells #[.slice ap pool.length cp, .int .i64 this, .int .i64 super, .slice af fields.length cf, .slice am methods.length cm] 26)).alloc (.cells #[.int .i64 0] 28)) = W at *
    simp at q0 q1 q2 q3 q4
    clear hW
    go_enter Tryz.func37, Tryz.ntmps37
    go_wp2_with (fail)
    refine CK.out.mono ?_
    rintro e w1 ⟨⟨hz, rfl⟩ | ⟨hz, rfl⟩, ho⟩
    · have HO := Lib.hid ho
      have HZ := Lib.hid hz
      clear ho hz
      go_wp2
      go_end0
      exact ⟨0, .inl ⟨rfl, rfl⟩, HZ.out.symm, HO.out⟩
    · exact ⟨rfl, _, .inr ⟨hz, rfl⟩, rfl, ho⟩
  have cR := refusal 37 hen #[] #[.pointer (some ⟨w.heap.size, 0, none⟩)] (w.alloc (.cells #[.slice ap pool.length cp, .int .i64 this, .int .i64 super, .slice af fields.length cf, .slice am methods.length cm] 26)) (fun z w1 => z = clsZ ⟨pool, this, super, fields, methods⟩ ∧ Only (fun _ => False) ((w.alloc (.cells #[.slice ap pool.length cp, .int .i64 this, .int .i64 super, .slice af fields.length cf, .slice am methods.length cm] 26)).alloc (.cells #[.int .i64 0] 28)) w1) (by simpa using cL) (fun z w1 h => h.2.heap he1 (fun h => h))
  have CR := Lib.hid cR
  have HO := Lib.hid ho1
  clear cL cR cK hc hp hf hm hm1 hm2 hm3 hT hg ho0 ho1 hb1 he1 hbx hen
  go_enter Tryz.func14, Tryz.ntmps14
  go_wp2_with (fail)
  refine CR.out.mono ?_
  rintro e w' ⟨z, w1, rfl, ⟨rfl, ho⟩, rfl⟩
  have HO1 := Lib.hid (HO.out.trans ho (fun _ h => h.elim))
  clear ho
  go_wp2
  go_ret
  exact ⟨rfl, HO1.out.setCell (fun hl => by simp at hl; omega) _⟩
end Go.Proofs.YtodhdiccfobcfaaGreatDoor
