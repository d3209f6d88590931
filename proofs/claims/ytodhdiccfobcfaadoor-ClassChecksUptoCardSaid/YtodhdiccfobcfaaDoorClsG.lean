/- The program's refusals: what leaves by a panic, what is taken up. No condition. -/
import Derived.Test.YtodhdiccfobcfaaDoorClsW
import Derived.Test.YtodhdiccfobcfaaDoorPolM
import Derived.Test.YtodhdiccfobcfaaDoorPolI
import Derived.WalkLawsBesides
import Derived.Defers
import Derived.Recover
namespace Go.Proofs.YtodhdiccfobcfaaDoor
open Go.RowKit
set_option linter.unusedVariables false
set_option linter.unusedSimpArgs false

/-- A refusal on its way. -/
abbrev pan (z : Int) : Ending := .panicked [{ v := .iface 27 (.int .i64 z), recovered := false }]
/-- Goes on where Q holds, else refused by z. -/
def GoIf (Q : Prop) (z : Int) (w : World) (e : Ending) (w' : World) : Prop := ((Q ∧ e = .returned (.tuple #[])) ∨ (¬ Q ∧ e = pan z)) ∧ Only (fun _ => False) w w'
theorem GoIf.yes {Q : Prop} {z : Int} {w w' : World} (h : Q) (ho : Only (fun _ => False) w w') : GoIf Q z w (.returned (.tuple #[])) w' := ⟨.inl ⟨h, rfl⟩, ho⟩
theorem GoIf.no {Q : Prop} {z : Int} {w w' : World} (h : ¬ Q) (ho : Only (fun _ => False) w w') : GoIf Q z w (pan z) w' := ⟨.inr ⟨h, rfl⟩, ho⟩

theorem refuse0 (w : World) : Calls Tryd.prog 21 #[.int .i64 0] w fun e w' => e = .returned (.tuple #[]) ∧ w = w' := by
  go_enter Tryd.func21, Tryd.ntmps21
  go_wp2
  go_end0
  exact ⟨rfl, rfl⟩
theorem refuseN (z : Int) (hz : z ≠ 0) (w : World) : Calls Tryd.prog 21 #[.int .i64 z] w fun e w' => e = pan z ∧ w = w' := by
  have hb : (z != 0) = true := by simpa using hz
  go_enter Tryd.func21, Tryd.ntmps21
  go_wp2
  exact ⟨rfl, rfl, rfl⟩
theorem mustT (w : World) : Calls Tryd.prog 24 #[.bool true] w fun e w' => e = .returned (.tuple #[]) ∧ w = w' := by
  go_enter Tryd.func24, Tryd.ntmps24
  go_wp2
  go_end0
  exact ⟨rfl, rfl⟩
theorem mustF (w : World) : Calls Tryd.prog 24 #[.bool false] w fun e w' => e = pan 50 ∧ w = w' := by
  have c := refuseN 50 (by decide) w
  go_enter Tryd.func24, Tryd.ntmps24
  go_wp2_with (go_at_call 21; refine c.mono ?_; rintro e w' ⟨rfl, rfl⟩)
  exact ⟨rfl, rfl, rfl⟩
theorem mustB (b : Bool) (w : World) : Calls Tryd.prog 24 #[.bool b] w fun e w' => ((b = true ∧ e = .returned (.tuple #[])) ∨ (b = false ∧ e = pan 50)) ∧ w = w' := by
  cases b
  · exact (mustF w).mono fun e w' h => ⟨.inr ⟨rfl, h.1⟩, h.2⟩
  · exact (mustT w).mono fun e w' h => ⟨.inl ⟨rfl, h.1⟩, h.2⟩
theorem isText (v : Value) (cs : List ConstV) (i : Int) (w : World) (hp : Pool w v cs) :
    Calls Tryd.prog 37 #[v, .int .i64 i] w fun e w' => e = .returned (.bool (textZ cs i).2) ∧ Only (fun _ => False) w w' := by
  have c := progText v cs i w hp
  go_enter Tryd.func37, Tryd.ntmps37
  go_wp2_with (go_at_call 32; refine c.mono ?_; rintro e w' ⟨rfl, ho⟩)
  go_ret
  exact ⟨rfl, ho⟩
theorem isClass (v : Value) (cs : List ConstV) (i : Int) (w : World) (hp : Pool w v cs) :
    Calls Tryd.prog 25 #[v, .int .i64 i] w fun e w' => e = .returned (.bool (classZ cs i).2) ∧ Only (fun _ => False) w w' := by
  have c := progClass v cs i w hp
  go_enter Tryd.func25, Tryd.ntmps25
  go_wp2_with (go_at_call 18; refine c.mono ?_; rintro e w' ⟨rfl, ho⟩)
  go_ret
  exact ⟨rfl, ho⟩
theorem clsName (vp vf vm : Value) (cs : List ConstV) (this super : Int) (w : World) (hp : Pool w vp cs) :
    Calls Tryd.prog 6 #[.agg #[vp, .int .i64 this, .int .i64 super, vf, vm]] w fun e w' => e = .returned (.string (classZ cs this).1) ∧ Only (fun _ => False) w w' := by
  obtain ⟨ao, cap, rfl, _⟩ := id hp
  have ho0 : ∀ o, Only (fun _ => False) w (w.alloc o) := fun o => (Only.refl _ _).alloc o
  have c := fun o => progClass _ cs this _ (hp.only (ho0 o) (fun _ _ h => h))
  go_enter Tryd.func6, Tryd.ntmps6
  go_wp2_with (go_at_call 18; refine (c _).mono ?_; rintro e w' ⟨rfl, ho⟩)
  go_ret
  exact ⟨rfl, (ho0 _).trans ho (fun _ h => h.elim)⟩
set_option maxHeartbeats 4000000 in
set_option maxRecDepth 100000 in
/-- A trap. -/
theorem checkTrapP (v : Value) (cs : List ConstV) (t : TrapV) (n : Nat) (hn : n ≤ 9223372036854775807) (w : World) (hp : Pool w v cs) :
    Calls Tryd.prog 39 #[v, .agg #[.int .i64 t.from_, .int .i64 t.to_, .int .i64 t.hand, .int .i64 t.type], .int .i64 n] w (GoIf (TrapP cs n t) 50 w) := by
  obtain ⟨ao, cap, rfl, _⟩ := id hp
  have ho0 : ∀ o, Only (fun _ => False) w (w.alloc o) := fun o => (Only.refl _ _).alloc o
  have cC := fun i w' (ho : Only (fun _ => False) w w') => isClass _ cs i w' (hp.only ho (fun _ _ h => h))
  have CC := Lib.hid cC
  have HO := Lib.hid ho0
  clear cC ho0 hp
  obtain ⟨a, b, c, d⟩ := t
  simp only
  go_enter Tryd.func39, Tryd.ntmps39
  go_wp2_with (first | (go_at_call 24; refine (mustB _ _).mono ?_; rintro e w' ⟨⟨h, rfl⟩ | ⟨h, rfl⟩, rfl⟩) | (go_at_call 25; refine (CC.out _ _ (HO.out _)).mono ?_; rintro e w' ⟨rfl, ho⟩; have HOC := Lib.hid ho))
  all_goals try (exfalso; (first | exact absurd (by assumption : true = false) (by decide) | exact absurd (by assumption : false = true) (by decide)); done)
  all_goals first
    | (go_end0
       refine GoIf.yes (Q := TrapP cs n ⟨a, b, c, _⟩) ⟨?_, ?_, ?_, ?_, ?_, ?_⟩ (by first | exact HO.out _ | exact (HO.out _).trans HOC.out (fun _ h => h.elim))
       all_goals
         clear CC HO
         simp only [decide_eq_true_eq, Bool.or_eq_true, beq_iff_eq] at *
         first
           | omega
           | assumption
           | (left; omega))
    | (refine ⟨rfl, GoIf.no (fun hq => ?_) (by first | exact HO.out _ | exact (HO.out _).trans HOC.out (fun _ h => h.elim))⟩
       obtain ⟨q1, q2, q3, q4, q5, q6⟩ := hq
       clear CC HO
       try simp only at q1 q2 q3 q4 q5 q6
       try simp only [decide_eq_true_eq, decide_eq_false_iff_not, Bool.or_eq_false_iff, beq_eq_false_iff_ne, ne_eq] at *
       first
         | omega
         | (rcases q6 with q6 | q6
            · omega
            · simp_all; done))
theorem isSlotsP (n : Int) (w : World) :
    Calls Tryd.prog 38 #[.int .i64 n] w fun e w' => e = .returned (.bool (decide (0 ≤ n) && decide (n ≤ 64))) ∧ w = w' := by
  by_cases h : 0 ≤ n
  · go_enter Tryd.func38, Tryd.ntmps38
    go_wp2
    go_ret
    exact ⟨by simp [h], rfl⟩
  · go_enter Tryd.func38, Tryd.ntmps38
    go_wp2
    go_ret
    exact ⟨by rw [decide_eq_false (Int.not_le.2 h)]; rfl, rfl⟩
theorem checkCountP (n : Int) (w : World) :
    Calls Tryd.prog 36 #[.int .i64 n] w (GoIf (n ≤ 64) 2 w) := by
  by_cases h : 64 < n
  · go_enter Tryd.func36, Tryd.ntmps36
    go_wp2_with (go_at_call 21; refine (refuseN 2 (by decide) _).mono ?_; rintro e w' ⟨rfl, rfl⟩)
    exact ⟨rfl, GoIf.no (Int.not_le.2 h) (Only.refl _ _)⟩
  · go_enter Tryd.func36, Tryd.ntmps36
    go_wp2
    go_end0
    exact GoIf.yes (by first | trivial | assumption) (Only.refl _ _)
set_option maxHeartbeats 4000000 in
set_option maxRecDepth 100000 in
theorem checkMemberP (v : Value) (cs : List ConstV) (fl nm ds : Int) (w : World) (hp : Pool w v cs) :
    Calls Tryd.prog 26 #[v, .int .i64 fl, .int .i64 nm, .int .i64 ds] w (GoIf (FlagsP fl ∧ (textZ cs nm).2 = true ∧ (textZ cs ds).2 = true) 50 w) := by
  obtain ⟨ao, cap, rfl, _⟩ := id hp
  have cT := fun i w' (ho : Only (fun _ => False) w w') => isText _ cs i w' (hp.only ho (fun _ _ h => h))
  have CT := Lib.hid cT
  have HON := Lib.hid (Only.refl (fun _ => False) w)
  clear cT hp
  go_enter Tryd.func26, Tryd.ntmps26
  go_wp2_with (first | (go_at_call 24; refine (mustB _ _).mono ?_; rintro e w' ⟨⟨h, rfl⟩ | ⟨h, rfl⟩, rfl⟩) | (go_at_call 37; refine (CT.out _ _ HON.out).mono ?_; rintro e w' ⟨rfl, ho⟩; have HON := Lib.hid (HON.out.trans ho (fun _ h => h.elim)); clear ho))
  all_goals try (exfalso; (first | exact absurd (by assumption : true = false) (by decide) | exact absurd (by assumption : false = true) (by decide)); done)
  all_goals first
    | (go_end0
       refine GoIf.yes ⟨?_, ?_, ?_⟩ HON.out
       · clear HON CT
         show _ ∨ _
         first
           | (left; assumption)
           | (left; rfl)
           | (simp_all; done)
           | omega
       · assumption
       · assumption)
    | (refine ⟨rfl, GoIf.no (fun hq => ?_) HON.out⟩
       obtain ⟨q1, q2, q3⟩ := hq
       all_goals
         clear HON CT
         unfold FlagsP at q1
         try simp only [decide_eq_true_eq, decide_eq_false_iff_not, Bool.or_eq_false_iff, beq_eq_false_iff_ne, ne_eq] at *
         all_goals first
           | omega
           | (simp_all; done)
           | (simp_all; omega))

/-- The texts of a right pool have nothing else, and none stands at its first place. -/
def Bare (cs : List ConstV) : Prop := (∀ c ∈ cs, c.tag = 1 → c.n = 0 ∧ c.a = 0 ∧ c.b = 0) ∧ (cs.getD 0 default).tag ≠ 1
theorem bare_of_right {cs : List ConstV} (h : checkZ cs = 0) : Bare cs := by
  obtain ⟨h1, h2, h3, h4⟩ := checkZ_zero h
  refine ⟨fun c hc ht => ?_, by rw [h3]; decide⟩
  obtain ⟨i, hi, rfl⟩ := List.mem_iff_getElem.1 hc
  have e : cs.getD i default = cs[i] := by simp [List.getD, hi]
  by_cases h0 : i = 0
  · subst h0; rw [← e, h3] at ht; exact absurd ht (by decide)
  · have hb := bare_of_one (h4 i (by omega) hi)
    rw [e] at hb
    unfold bareZ at hb
    rw [if_pos ht] at hb
    simpa using hb
/-- The earliest place that holds a text: -1: there is none. -/
noncomputable def idxZ (cs : List ConstV) (s : ByteArray) : Int := if placeOf cs s = 0 then -1 else placeOf cs s
theorem findFrom_pos {s : ByteArray} : ∀ {l : List ConstV} {i : Nat}, 1 ≤ i → findFrom s i l = 0 ∨ (i : Int) ≤ findFrom s i l
  | [], i, _ => .inl rfl
  | c :: r, i, hi => by
    by_cases hc : c.tag = 1 ∧ c.text = s
    · rw [findFrom_here rfl hc]; exact .inr (Int.le_refl _)
    · rw [findFrom_skip rfl hc]
      rcases findFrom_pos (s := s) (l := r) (i := i + 1) (by omega) with h | h
      · exact .inl h
      · exact .inr (by omega)
theorem idxZ_pos (cs : List ConstV) (s : ByteArray) : 0 < idxZ cs s ↔ placeOf cs s ≠ 0 := by
  unfold idxZ
  rcases findFrom_pos (s := s) (l := cs.drop 1) (i := 1) (by decide) with h | h
  · rw [if_pos (show placeOf cs s = 0 from h)]; exact ⟨fun h => absurd h (by decide), fun h' => absurd h h'⟩
  · have hne : placeOf cs s ≠ 0 := by unfold placeOf; omega
    rw [if_neg hne]
    refine ⟨fun _ => hne, fun _ => ?_⟩
    unfold placeOf
    omega

set_option maxHeartbeats 2000000 in
theorem indexP (v : Value) (cs : List ConstV) (s : ByteArray) (w : World) (hp : Pool w v cs) (hb : Bare cs) :
    Calls Tryd.prog 46 #[v, .agg #[.int .i64 1, .string s, .int .i64 0, .int .i64 0, .int .i64 0]] w fun e w' => e = .returned (.int .i64 (idxZ cs s)) ∧ Only (fun _ => False) w w' := by
  obtain ⟨ao, cap, rfl, h1, h2, h3, h4, h5⟩ := id hp
  have ho0 : ∀ o, Only (fun _ => False) w (w.alloc o) := fun o => (Only.refl _ _).alloc o
  have Hp := Lib.hid (hp.only (ho0 (.cells #[.int .i64 1, .string s, .int .i64 0, .int .i64 0, .int .i64 0] 47)) (fun _ _ h => h))
  have HO := Lib.hid ho0
  have HB := Lib.hid hb
  have hbx := heap_alloc_new w (.cells #[.int .i64 1, .string s, .int .i64 0, .int .i64 0, .int .i64 0] 47)
  have HBX := Lib.hid hbx
  clear h3 h4 h5 hp hb ho0 hbx
  go_enter Tryd.func46, Tryd.ntmps46
  go_wp2
  go_loopw [8] (fun i wr => ∃ j : Nat, j ≤ cs.length ∧ i = .int .i64 j ∧ (j = 0 ∨ (1 ≤ j ∧ placeOf cs s = findFrom s j (cs.drop j))) ∧ Only (fun _ => False) (w.alloc (.cells #[.int .i64 1, .string s, .int .i64 0, .int .i64 0, .int .i64 0] 47)) wr) (fun i _ => cs.length - (intOf i).toNat)
  case atStart => exact ⟨0, Nat.zero_le _, rfl, .inl rfl, Only.refl _ _⟩
  case round =>
    obtain ⟨j, hj, rfl, hpl, hwr⟩ := hrel
    have hbr := hwr.heap HBX.out (fun h => h)
    have q0 := cell_blk hbr 0
    have q1 := cell_blk hbr 1
    have q2 := cell_blk hbr 2
    have q3 := cell_blk hbr 3
    have q4 := cell_blk hbr 4
    simp at q0 q1 q2 q3 q4
    have hpr := Hp.out.only hwr (fun _ _ h => h)
    have HWR := Lib.hid hwr
    clear hwr hbr
    by_cases hlt : j < cs.length
    · obtain ⟨b, o, rfl, hc⟩ := Pool.at hpr hlt
      obtain ⟨g0, g1, g2, g3, g4⟩ := hc
      have hjz : (j : Int) < (cs.length : Int) := by omega
      have hdr : cs.drop j = cs.getD j default :: cs.drop (j + 1) := by rw [List.drop_eq_getElem_cons hlt]; simp [List.getD, hlt]
      have hz1 : j = 0 → (cs.getD j default).tag ≠ 1 := fun e => by subst e; exact HB.out.2
      have hbare := HB.out.1 _ (show cs.getD j default ∈ cs by simp [List.getD, hlt])
      by_cases hh : (cs.getD j default).tag = 1 ∧ (cs.getD j default).text = s
      · have hv : placeOf cs s = (j : Int) := by
          rcases hpl with e | ⟨_, hpl⟩
          · exact absurd hh.1 (hz1 e)
          · exact hpl.trans (findFrom_here hdr hh)
        have hj1 : 1 ≤ j := by rcases hpl with e | ⟨h, _⟩; exact absurd hh.1 (hz1 e); exact h
        have Hv := Lib.hid (show idxZ cs s = (j : Int) by unfold idxZ; rw [if_neg (by omega), hv])
        obtain ⟨ht, hx⟩ := hh
        obtain ⟨b1, b2, b3⟩ := hbare ht
        rw [ht] at g0
        rw [hx] at g1
        rw [b1] at g2
        rw [b2] at g3
        rw [b3] at g4
        clear hpr hdr hpl hv ht hx hz1 hbare b1 b2 b3
        go_wp2
        go_region
        go_wp2
        go_ret
        exact ⟨by rw [Hv.out]; rfl, (HO.out _).trans ((HWR.out.drew)) (fun _ h => h.elim)⟩
      · have hv : placeOf cs s = findFrom s (j + 1) (cs.drop (j + 1)) := by
          rcases hpl with e | ⟨_, hpl⟩
          · subst e; rfl
          · exact hpl.trans (findFrom_skip hdr hh)
        have Hv := Lib.hid hv
        by_cases ht : (cs.getD j default).tag = 1
        · have hx : s ≠ (cs.getD j default).text := fun e => hh ⟨ht, e.symm⟩
          have hne := text_ne hx
          rw [ht] at g0
          generalize (cs.getD j default) = c at *
          obtain ⟨_, x, n, a, bb⟩ := c
          simp only at *
          clear hpr hdr hpl hv ht hx hh hz1 hbare
          go_wp2
          go_region
          go_wp2
          go_roundw
          case rel => exact ⟨j + 1, by omega, by go_num, .inr ⟨by omega, Hv.out⟩, HWR.out.drew⟩
          case measure => simp [intOf]; omega
        · have hne : ((1 : Int) == (cs.getD j default).tag) = false := by simpa using fun e => ht e.symm
          generalize (cs.getD j default) = c at *
          obtain ⟨t, x, n, a, bb⟩ := c
          simp only at *
          clear hpr hdr hpl hv ht hh hz1 hbare
          go_wp2
          go_region
          go_wp2
          go_roundw
          case rel => exact ⟨j + 1, by omega, by go_num, .inr ⟨by omega, Hv.out⟩, HWR.out.drew⟩
          case measure => simp [intOf]; omega
    · have hz : idxZ cs s = -1 := by
        have hp0 : placeOf cs s = 0 := by
          rcases hpl with e | ⟨_, hpl⟩
          · have : cs = [] := List.eq_nil_of_length_eq_zero (by omega)
            subst this
            rfl
          · rw [hpl, List.drop_eq_nil_of_le (by omega)]; rfl
        unfold idxZ
        rw [if_pos hp0]
      have Hz := Lib.hid hz
      have hjz : (cs.length : Int) ≤ (j : Int) := by omega
      clear hz hpl hpr
      go_wp2
      go_ret
      exact ⟨by rw [Hz.out]; rfl, (HO.out _).trans HWR.out (fun _ h => h.elim)⟩
theorem progPlace (v : Value) (cs : List ConstV) (s : ByteArray) (w : World) (hp : Pool w v cs) (hb : Bare cs) :
    Calls Tryd.prog 40 #[v, .string s] w fun e w' => e = .returned (.int .i64 (idxZ cs s)) ∧ Only (fun _ => False) w w' := by
  have c := indexP v cs s w hp hb
  obtain ⟨ao, cap, rfl, _⟩ := id hp
  go_enter Tryd.func40, Tryd.ntmps40
  go_wp2_with (go_at_call 46; refine c.mono ?_; rintro e w' ⟨rfl, ho⟩)
  go_ret
  exact ⟨rfl, ho⟩
end Go.Proofs.YtodhdiccfobcfaaDoor
