import Derived.Test.YtddjdlbmadlefaaGreatDoorMPolDLnkT
import Derived.Test.YtddjdlbmadlefaaGreatDoorMWireFPrs
import Derived.Test.YtddjdlbmadlefaaGreatDoorMPolMPolV
import Derived.Test.YtddjdlbmadlefaaGreatDoorMPolHPolI
import Derived.WalkLawsBesides
import Derived.Defers
import Derived.Recover
import Derived.Handy
import Derived.Test.YtddjdlbmadlefaaGreatDoorMKndOLpA
namespace Go.Proofs.YtddjdlbmadlefaaGreatDoor
open Go.RowKit
set_option linter.unusedVariables false
set_option linter.unusedSimpArgs false
def GoIf (Q : Prop) (z : Int) (w : World) (e : Ending) (w' : World) : Prop := ((Q ∧ e = .returned (.tuple #[])) ∨ (¬ Q ∧ e = pan z)) ∧ Only (fun _ => False) w w'
theorem GoIf.yes {Q : Prop} {z : Int} {w w' : World} (h : Q) (ho : Only (fun _ => False) w w') : GoIf Q z w (.returned (.tuple #[])) w' := ⟨.inl ⟨h, rfl⟩, ho⟩
theorem GoIf.no {Q : Prop} {z : Int} {w w' : World} (h : ¬ Q) (ho : Only (fun _ => False) w w') : GoIf Q z w (pan z) w' := ⟨.inr ⟨h, rfl⟩, ho⟩
theorem refuse0 (w : World) : Calls Tryz.prog 157 #[.int .i64 0] w fun e w' => e = .returned (.tuple #[]) ∧ w = w' := by
  go_enter Tryz.func157, Tryz.ntmps157
  go_wp2
  go_end0
  exact ⟨rfl, rfl⟩
theorem refuseN (z : Int) (hz : z ≠ 0) (w : World) : Calls Tryz.prog 157 #[.int .i64 z] w fun e w' => e = pan z ∧ w = w' := by
  have hb : (z != 0) = true := by simpa using hz
  go_enter Tryz.func157, Tryz.ntmps157
  go_wp2
  exact ⟨rfl, rfl, rfl⟩
theorem mustT (w : World) : Calls Tryz.prog 160 #[.bool true] w fun e w' => e = .returned (.tuple #[]) ∧ w = w' := by
  go_enter Tryz.func160, Tryz.ntmps160
  go_wp2
  go_end0
  exact ⟨rfl, rfl⟩
theorem mustF (w : World) : Calls Tryz.prog 160 #[.bool false] w fun e w' => e = pan 50 ∧ w = w' := by
  have c := refuseN 50 (by decide) w
  go_enter Tryz.func160, Tryz.ntmps160
  go_wp2_with (go_at_call 157; refine c.mono ?_; rintro e w' ⟨rfl, rfl⟩)
  exact ⟨rfl, rfl, rfl⟩
theorem mustB (b : Bool) (w : World) : Calls Tryz.prog 160 #[.bool b] w fun e w' => ((b = true ∧ e = .returned (.tuple #[])) ∨ (b = false ∧ e = pan 50)) ∧ w = w' := by
  cases b
  · exact (mustF w).mono fun e w' h => ⟨.inr ⟨rfl, h.1⟩, h.2⟩
  · exact (mustT w).mono fun e w' h => ⟨.inl ⟨rfl, h.1⟩, h.2⟩
theorem isText (v : Value) (cs : List ConstV) (i : Int) (w : World) (hp : Pool w v cs) :
    Calls Tryz.prog 226 #[v, .int .i64 i] w fun e w' => e = .returned (.bool (textZ cs i).2) ∧ Only (fun _ => False) w w' := by
  have c := progText v cs i w hp
  go_enter Tryz.func226, Tryz.ntmps226
  go_wp2_with (go_at_call 133; refine c.mono ?_; rintro e w' ⟨rfl, ho⟩)
  go_ret
  exact ⟨rfl, ho⟩
theorem isClass (v : Value) (cs : List ConstV) (i : Int) (w : World) (hp : Pool w v cs) :
    Calls Tryz.prog 161 #[v, .int .i64 i] w fun e w' => e = .returned (.bool (classZ cs i).2) ∧ Only (fun _ => False) w w' := by
  have c := progClass v cs i w hp
  go_enter Tryz.func161, Tryz.ntmps161
  go_wp2_with (go_at_call 86; refine c.mono ?_; rintro e w' ⟨rfl, ho⟩)
  go_ret
  exact ⟨rfl, ho⟩
theorem clsName (vp vf vm : Value) (cs : List ConstV) (this super : Int) (w : World) (hp : Pool w vp cs) :
    Calls Tryz.prog 40 #[.agg #[vp, .int .i64 this, .int .i64 super, vf, vm]] w fun e w' => e = .returned (.string (classZ cs this).1) ∧ Only (fun _ => False) w w' := by
  obtain ⟨ao, cap, rfl, _⟩ := id hp
  have ho0 : ∀ o, Only (fun _ => False) w (w.alloc o) := fun o => (Only.refl _ _).alloc o
  have c := fun o => progClass _ cs this _ (hp.only (ho0 o) (fun _ _ h => h))
  go_enter Tryz.func40, Tryz.ntmps40
  go_wp2_with (go_at_call 86; refine (c _).mono ?_; rintro e w' ⟨rfl, ho⟩)
  go_ret
  exact ⟨rfl, (ho0 _).trans ho (fun _ h => h.elim)⟩
set_option maxHeartbeats 4000000 in
set_option maxRecDepth 100000 in
theorem checkTrapP (v : Value) (cs : List ConstV) (t : TrapV) (n : Nat) (hn : n ≤ 9223372036854775807) (w : World) (hp : Pool w v cs) :
    Calls Tryz.prog 228 #[v, .agg #[.int .i64 t.from_, .int .i64 t.to_, .int .i64 t.hand, .int .i64 t.type], .int .i64 n] w (GoIf (TrapP cs n t) 50 w) := by
  obtain ⟨ao, cap, rfl, _⟩ := id hp
  have ho0 : ∀ o, Only (fun _ => False) w (w.alloc o) := fun o => (Only.refl _ _).alloc o
  have cC := fun i w' (ho : Only (fun _ => False) w w') => isClass _ cs i w' (hp.only ho (fun _ _ h => h))
  have CC := Lib.hid cC
  have HO := Lib.hid ho0
  clear cC ho0 hp
  obtain ⟨a, b, c, d⟩ := t
  simp only
  go_enter Tryz.func228, Tryz.ntmps228
  go_wp2_with (first | (go_at_call 160; refine (mustB _ _).mono ?_; rintro e w' ⟨⟨h, rfl⟩ | ⟨h, rfl⟩, rfl⟩) | (go_at_call 161; refine (CC.out _ _ (HO.out _)).mono ?_; rintro e w' ⟨rfl, ho⟩; have HOC := Lib.hid ho))
  all_goals try (exfalso; (first | exact absurd (by assumption : true = false) (by decide) | exact absurd (by assumption : false = true) (by decide)); done)
  all_goals first
    | (go_end0
       refine GoIf.yes (Q := TrapP cs n ⟨a, b, c, _⟩) ⟨?_, ?_, ?_, ?_, ?_, ?_⟩ (by first | exact HO.out _ | exact (HO.out _).trans HOC.out (fun _ h => h.elim))
       all_goals
         clear CC HO
         simp only [decide_eq_true_eq, Bool.or_eq_true, beq_iff_eq] at *
         first
           | omega
           | assumption
           | (left; omega))
    | (refine ⟨rfl, GoIf.no (fun hq => ?_) (by first | exact HO.out _ | exact (HO.out _).trans HOC.out (fun _ h => h.elim))⟩
       obtain ⟨q1, q2, q3, q4, q5, q6⟩ := hq
       clear CC HO
       try simp only at q1 q2 q3 q4 q5 q6
       try simp only [decide_eq_true_eq, decide_eq_false_iff_not, Bool.or_eq_false_iff, beq_eq_false_iff_ne, ne_eq] at *
       first
         | omega
         | (rcases q6 with q6 | q6
            · omega
            · simp_all; done))
theorem isSlotsP (n : Int) (w : World) :
    Calls Tryz.prog 227 #[.int .i64 n] w fun e w' => e = .returned (.bool (decide (0 ≤ n) && decide (n ≤ 64))) ∧ w = w' := by
  by_cases h : 0 ≤ n
  · go_enter Tryz.func227, Tryz.ntmps227
    go_wp2
    go_ret
    exact ⟨by simp [h], rfl⟩
  · go_enter Tryz.func227, Tryz.ntmps227
    go_wp2
    go_ret
    exact ⟨by rw [decide_eq_false (Int.not_le.2 h)]; rfl, rfl⟩
theorem checkCountP (n : Int) (w : World) :
    Calls Tryz.prog 225 #[.int .i64 n] w (GoIf (n ≤ 64) 2 w) := by
  by_cases h : 64 < n
  · go_enter Tryz.func225, Tryz.ntmps225
    go_wp2_with (go_at_call 157; refine (refuseN 2 (by decide) _).mono ?_; rintro e w' ⟨rfl, rfl⟩)
    exact ⟨rfl, GoIf.no (Int.not_le.2 h) (Only.refl _ _)⟩
  · go_enter Tryz.func225, Tryz.ntmps225
    go_wp2
    go_end0
    exact GoIf.yes (by first | trivial | assumption) (Only.refl _ _)
set_option maxHeartbeats 4000000 in
set_option maxRecDepth 100000 in
theorem checkMemberP (v : Value) (cs : List ConstV) (fl nm ds : Int) (w : World) (hp : Pool w v cs) :
    Calls Tryz.prog 162 #[v, .int .i64 fl, .int .i64 nm, .int .i64 ds] w (GoIf (FlagsP fl ∧ (textZ cs nm).2 = true ∧ (textZ cs ds).2 = true) 50 w) := by
  obtain ⟨ao, cap, rfl, _⟩ := id hp
  have cT := fun i w' (ho : Only (fun _ => False) w w') => isText _ cs i w' (hp.only ho (fun _ _ h => h))
  have CT := Lib.hid cT
  have HON := Lib.hid (Only.refl (fun _ => False) w)
  clear cT hp
  go_enter Tryz.func162, Tryz.ntmps162
  go_wp2_with (first | (go_at_call 160; refine (mustB _ _).mono ?_; rintro e w' ⟨⟨h, rfl⟩ | ⟨h, rfl⟩, rfl⟩) | (go_at_call 226; refine (CT.out _ _ HON.out).mono ?_; rintro e w' ⟨rfl, ho⟩; have HON := Lib.hid (HON.out.trans ho (fun _ h => h.elim)); clear ho))
  all_goals try (exfalso; (first | exact absurd (by assumption : true = false) (by decide) | exact absurd (by assumption : false = true) (by decide)); done)
  all_goals first
    | (go_end0
       refine GoIf.yes ⟨?_, ?_, ?_⟩ HON.out
       · clear HON CT
         show _ ∨ _
         first
           | (left; assumption)
           | (left; rfl)
           | (simp_all; done)
           | omega
       · assumption
       · assumption)
    | (refine ⟨rfl, GoIf.no (fun hq => ?_) HON.out⟩
       obtain ⟨q1, q2, q3⟩ := hq
       all_goals
         clear HON CT
         unfold FlagsP at q1
         try simp only [decide_eq_true_eq, decide_eq_false_iff_not, Bool.or_eq_false_iff, beq_eq_false_iff_ne, ne_eq] at *
         all_goals first
           | omega
           | (simp_all; done)
           | (simp_all; omega))
def Bare (cs : List ConstV) : Prop := (∀ c ∈ cs, c.tag = 1 → c.n = 0 ∧ c.a = 0 ∧ c.b = 0) ∧ (cs.getD 0 default).tag ≠ 1
theorem bare_of_right {cs : List ConstV} (h : checkZ cs = 0) : Bare cs := by
  obtain ⟨h1, h2, h3, h4⟩ := checkZ_zero h
  refine ⟨fun c hc ht => ?_, by rw [h3]; decide⟩
  obtain ⟨i, hi, rfl⟩ := List.mem_iff_getElem.1 hc
  have e : cs.getD i default = cs[i] := by simp [List.getD, hi]
  by_cases h0 : i = 0
  · subst h0; rw [← e, h3] at ht; exact absurd ht (by decide)
  · have hb := bare_of_one (h4 i (by omega) hi)
    rw [e] at hb
    unfold bareZ at hb
    rw [if_pos ht] at hb
    simpa using hb
noncomputable def idxZ (cs : List ConstV) (s : ByteArray) : Int := if placeOf cs s = 0 then -1 else placeOf cs s
theorem findFrom_pos {s : ByteArray} : ∀ {l : List ConstV} {i : Nat}, 1 ≤ i → findFrom s i l = 0 ∨ (i : Int) ≤ findFrom s i l
  | [], i, _ => .inl rfl
  | c :: r, i, hi => by
    by_cases hc : c.tag = 1 ∧ c.text = s
    · rw [findFrom_here rfl hc]; exact .inr (Int.le_refl _)
    · rw [findFrom_skip rfl hc]
      rcases findFrom_pos (s := s) (l := r) (i := i + 1) (by omega) with h | h
      · exact .inl h
      · exact .inr (by omega)
theorem idxZ_pos (cs : List ConstV) (s : ByteArray) : 0 < idxZ cs s ↔ placeOf cs s ≠ 0 := by
  unfold idxZ
  rcases findFrom_pos (s := s) (l := cs.drop 1) (i := 1) (by decide) with h | h
  · rw [if_pos (show placeOf cs s = 0 from h)]; exact ⟨fun h => absurd h (by decide), fun h' => absurd h h'⟩
  · have hne : placeOf cs s ≠ 0 := by unfold placeOf; omega
    rw [if_neg hne]
    refine ⟨fun _ => hne, fun _ => ?_⟩
    unfold placeOf
    omega
set_option maxHeartbeats 2000000 in
theorem indexP (v : Value) (cs : List ConstV) (s : ByteArray) (w : World) (hp : Pool w v cs) (hb : Bare cs) :
    Calls Tryz.prog 260 #[v, .agg #[.int .i64 1, .string s, .int .i64 0, .int .i64 0, .int .i64 0]] w fun e w' => e = .returned (.int .i64 (idxZ cs s)) ∧ Only (fun _ => False) w w' := by
  obtain ⟨ao, cap, rfl, h1, h2, h3, h4, h5⟩ := id hp
  have ho0 : ∀ o, Only (fun _ => False) w (w.alloc o) := fun o => (Only.refl _ _).alloc o
  have Hp := Lib.hid (hp.only (ho0 (.cells #[.int .i64 1, .string s, .int .i64 0, .int .i64 0, .int .i64 0] 197)) (fun _ _ h => h))
  have HO := Lib.hid ho0
  have HB := Lib.hid hb
  have hbx := heap_alloc_new w (.cells #[.int .i64 1, .string s, .int .i64 0, .int .i64 0, .int .i64 0] 197)
  have HBX := Lib.hid hbx
  clear h3 h4 h5 hp hb ho0 hbx
  go_enter Tryz.func260, Tryz.ntmps260
  go_wp2
  go_loopw [8] (fun i wr => ∃ j : Nat, j ≤ cs.length ∧ i = .int .i64 j ∧ (j = 0 ∨ (1 ≤ j ∧ placeOf cs s = findFrom s j (cs.drop j))) ∧ Only (fun _ => False) (w.alloc (.cells #[.int .i64 1, .string s, .int .i64 0, .int .i64 0, .int .i64 0] 197)) wr) (fun i _ => cs.length - (intOf i).toNat)
  case atStart => exact ⟨0, Nat.zero_le _, rfl, .inl rfl, Only.refl _ _⟩
  case round =>
    obtain ⟨j, hj, rfl, hpl, hwr⟩ := hrel
    have hbr := hwr.heap HBX.out (fun h => h)
    have q0 := cell_blk hbr 0
    have q1 := cell_blk hbr 1
    have q2 := cell_blk hbr 2
    have q3 := cell_blk hbr 3
    have q4 := cell_blk hbr 4
    simp at q0 q1 q2 q3 q4
    have hpr := Hp.out.only hwr (fun _ _ h => h)
    have HWR := Lib.hid hwr
    clear hwr hbr
    by_cases hlt : j < cs.length
    · obtain ⟨b, o, rfl, hc⟩ := Pool.at hpr hlt
      obtain ⟨g0, g1, g2, g3, g4⟩ := hc
      have hjz : (j : Int) < (cs.length : Int) := by omega
      have hdr : cs.drop j = cs.getD j default :: cs.drop (j + 1) := by rw [List.drop_eq_getElem_cons hlt]; simp [List.getD, hlt]
      have hz1 : j = 0 → (cs.getD j default).tag ≠ 1 := fun e => by subst e; exact HB.out.2
      have hbare := HB.out.1 _ (show cs.getD j default ∈ cs by simp [List.getD, hlt])
      by_cases hh : (cs.getD j default).tag = 1 ∧ (cs.getD j default).text = s
      · have hv : placeOf cs s = (j : Int) := by
          rcases hpl with e | ⟨_, hpl⟩
          · exact absurd hh.1 (hz1 e)
          · exact hpl.trans (findFrom_here hdr hh)
        have hj1 : 1 ≤ j := by rcases hpl with e | ⟨h, _⟩; exact absurd hh.1 (hz1 e); exact h
        have Hv := Lib.hid (show idxZ cs s = (j : Int) by unfold idxZ; rw [if_neg (by omega), hv])
        obtain ⟨ht, hx⟩ := hh
        obtain ⟨b1, b2, b3⟩ := hbare ht
        rw [ht] at g0
        rw [hx] at g1
        rw [b1] at g2
        rw [b2] at g3
        rw [b3] at g4
        clear hpr hdr hpl hv ht hx hz1 hbare b1 b2 b3
        go_wp2
        go_region
        go_wp2
        go_ret
        exact ⟨by rw [Hv.out]; rfl, (HO.out _).trans ((HWR.out.drew)) (fun _ h => h.elim)⟩
      · have hv : placeOf cs s = findFrom s (j + 1) (cs.drop (j + 1)) := by
          rcases hpl with e | ⟨_, hpl⟩
          · subst e; rfl
          · exact hpl.trans (findFrom_skip hdr hh)
        have Hv := Lib.hid hv
        by_cases ht : (cs.getD j default).tag = 1
        · have hx : s ≠ (cs.getD j default).text := fun e => hh ⟨ht, e.symm⟩
          have hne := text_ne hx
          rw [ht] at g0
          generalize (cs.getD j default) = c at *
          obtain ⟨_, x, n, a, bb⟩ := c
          simp only at *
          clear hpr hdr hpl hv ht hx hh hz1 hbare
          go_wp2
          go_region
          go_wp2
          go_roundw
          case rel => exact ⟨j + 1, by omega, by go_num, .inr ⟨by omega, Hv.out⟩, HWR.out.drew⟩
          case measure => simp [intOf]; omega
        · have hne : ((1 : Int) == (cs.getD j default).tag) = false := by simpa using fun e => ht e.symm
          generalize (cs.getD j default) = c at *
          obtain ⟨t, x, n, a, bb⟩ := c
          simp only at *
          clear hpr hdr hpl hv ht hh hz1 hbare
          go_wp2
          go_region
          go_wp2
          go_roundw
          case rel => exact ⟨j + 1, by omega, by go_num, .inr ⟨by omega, Hv.out⟩, HWR.out.drew⟩
          case measure => simp [intOf]; omega
    · have hz : idxZ cs s = -1 := by
        have hp0 : placeOf cs s = 0 := by
          rcases hpl with e | ⟨_, hpl⟩
          · have : cs = [] := List.eq_nil_of_length_eq_zero (by omega)
            subst this
            rfl
          · rw [hpl, List.drop_eq_nil_of_le (by omega)]; rfl
        unfold idxZ
        rw [if_pos hp0]
      have Hz := Lib.hid hz
      have hjz : (cs.length : Int) ≤ (j : Int) := by omega
      clear hz hpl hpr
      go_wp2
      go_ret
      exact ⟨by rw [Hz.out]; rfl, (HO.out _).trans HWR.out (fun _ h => h.elim)⟩
theorem progPlace (v : Value) (cs : List ConstV) (s : ByteArray) (w : World) (hp : Pool w v cs) (hb : Bare cs) :
    Calls Tryz.prog 229 #[v, .string s] w fun e w' => e = .returned (.int .i64 (idxZ cs s)) ∧ Only (fun _ => False) w w' := by
  have c := indexP v cs s w hp hb
  obtain ⟨ao, cap, rfl, _⟩ := id hp
  go_enter Tryz.func229, Tryz.ntmps229
  go_wp2_with (go_at_call 260; refine c.mono ?_; rintro e w' ⟨rfl, ho⟩)
  go_ret
  exact ⟨rfl, ho⟩
end Go.Proofs.YtddjdlbmadlefaaGreatDoor
namespace Go.Proofs.YtddjdlbmadlefaaGreatDoor
open Go.RowKit
set_option linter.unusedVariables false
set_option linter.unusedSimpArgs false
theorem clsSuper (vp vf vm : Value) (cs : List ConstV) (this super : Int) (w : World) (hp : Pool w vp cs) :
    Calls Tryz.prog 262 #[.agg #[vp, .int .i64 this, .int .i64 super, vf, vm]] w fun e w' => e = .returned (.string (classZ cs super).1) ∧ Only (fun _ => False) w w' := by
  obtain ⟨ao, cap, rfl, _⟩ := id hp
  have ho0 : ∀ o, Only (fun _ => False) w (w.alloc o) := fun o => (Only.refl _ _).alloc o
  have c := fun o => progClass _ cs super _ (hp.only (ho0 o) (fun _ _ h => h))
  go_enter Tryz.func262, Tryz.ntmps262
  go_wp2_with (go_at_call 86; refine (c _).mono ?_; rintro e w' ⟨rfl, ho⟩)
  go_ret
  exact ⟨rfl, (ho0 _).trans ho (fun _ h => h.elim)⟩
end Go.Proofs.YtddjdlbmadlefaaGreatDoor
namespace Go.Proofs.YtddjdlbmadlefaaGreatDoor
open Go.RowKit Go.Maps
set_option linter.unusedVariables false
set_option linter.unusedSimpArgs false
theorem mName_b (n : Nat) (v : Value) (w : World) : (method (n + 1) 177 v "understudy/link.name").run Tryz.prog w = .ok (342, v) w := by kernel_rfl
theorem mSuper_b (n : Nat) (v : Value) (w : World) : (method (n + 1) 177 v "understudy/link.super").run Tryz.prog w = .ok (343, v) w := by kernel_rfl
theorem mFields_b (n : Nat) (v : Value) (w : World) : (method (n + 1) 177 v "understudy/link.fields").run Tryz.prog w = .ok (339, v) w := by kernel_rfl
theorem mMethods_b (n : Nat) (v : Value) (w : World) : (method (n + 1) 177 v "understudy/link.methods").run Tryz.prog w = .ok (341, v) w := by kernel_rfl
theorem mName_l (n : Nat) (v : Value) (w : World) : (method (n + 1) 148 v "understudy/link.name").run Tryz.prog w = .ok (231, v) w := by kernel_rfl
theorem mSuper_l (n : Nat) (v : Value) (w : World) : (method (n + 1) 148 v "understudy/link.super").run Tryz.prog w = .ok (232, v) w := by kernel_rfl
theorem mFields_l (n : Nat) (v : Value) (w : World) : (method (n + 1) 148 v "understudy/link.fields").run Tryz.prog w = .ok (337, v) w := by kernel_rfl
theorem mMethods_l (n : Nat) (v : Value) (w : World) : (method (n + 1) 148 v "understudy/link.methods").run Tryz.prog w = .ok (234, v) w := by kernel_rfl
theorem cells8L {w : World} {b : Nat} {c0 c1 c2 c3 c4 c5 c6 c7 : Value} {t : TypeId} {f : Nat × Nat} (h : w.heap[b]? = some (.cells #[c0, c1, c2, c3, c4, c5, c6, c7] t f)) :
    w.cell? ⟨b, 0, none⟩ = some c0 ∧ w.cell? ⟨b, 1, none⟩ = some c1 ∧ w.cell? ⟨b, 2, none⟩ = some c2 ∧ w.cell? ⟨b, 3, none⟩ = some c3 ∧ w.cell? ⟨b, 4, none⟩ = some c4 ∧ w.cell? ⟨b, 5, none⟩ = some c5 ∧ w.cell? ⟨b, 6, none⟩ = some c6 ∧ w.cell? ⟨b, 7, none⟩ = some c7 :=
  ⟨cell_blk h 0, cell_blk h 1, cell_blk h 2, cell_blk h 3, cell_blk h 4, cell_blk h 5, cell_blk h 6, cell_blk h 7⟩
theorem bName (a b c : Value) (w : World) : Calls Tryz.prog 342 #[.agg #[a, b, c]] w fun e w' => e = .returned a ∧ Only (fun _ => False) w w' := by
  have ho := (Only.refl (fun _ => False) w).alloc (.cells #[a, b, c] 177)
  have HO := Lib.hid ho
  clear ho
  go_enter Tryz.func342, Tryz.ntmps342
  go_wp2
  go_ret
  exact ⟨rfl, HO.out⟩
theorem bSuper (a b c : Value) (w : World) : Calls Tryz.prog 343 #[.agg #[a, b, c]] w fun e w' => e = .returned b ∧ Only (fun _ => False) w w' := by
  have ho := (Only.refl (fun _ => False) w).alloc (.cells #[a, b, c] 177)
  have HO := Lib.hid ho
  clear ho
  go_enter Tryz.func343, Tryz.ntmps343
  go_wp2
  go_ret
  exact ⟨rfl, HO.out⟩
theorem bFields (a b c : Value) (w : World) : Calls Tryz.prog 339 #[.agg #[a, b, c]] w fun e w' => e = .returned (.slice none 0 0) ∧ Only (fun _ => False) w w' := by
  have ho := (Only.refl (fun _ => False) w).alloc (.cells #[a, b, c] 177)
  have HO := Lib.hid ho
  clear ho
  go_enter Tryz.func339, Tryz.ntmps339
  go_wp2
  go_ret
  exact ⟨rfl, HO.out⟩
theorem bMethods (a b c : Value) (w : World) : Calls Tryz.prog 341 #[.agg #[a, b, c]] w fun e w' => e = .returned c ∧ Only (fun _ => False) w w' := by
  have ho := (Only.refl (fun _ => False) w).alloc (.cells #[a, b, c] 177)
  have HO := Lib.hid ho
  clear ho
  go_enter Tryz.func341, Tryz.ntmps341
  go_wp2
  go_ret
  exact ⟨rfl, HO.out⟩
section
variable {w : World} {lb i : Nat} {c : ClassV} {vp vf vm vof vom : Value} (hl : w.heap[lb]? = some (listedO i c vp vf vm vof vom))
include hl
theorem lName (hp : Pool w vp c.pool) : Calls Tryz.prog 231 #[.pointer (some ⟨lb, 0, none⟩)] w fun e w' => e = .returned (.string (classZ c.pool c.this).1) ∧ Only (fun _ => False) w w' := by
  obtain ⟨q0, q1, q2, q3, q4, q5, q6, q7⟩ := cells8L hl
  have C1 := Lib.hid (clsName vp vf vm c.pool c.this c.super w hp)
  clear hl hp
  go_enter Tryz.func231, Tryz.ntmps231
  go_wp2_with (fail)
  refine C1.out.mono ?_
  rintro e w1 ⟨rfl, ho⟩
  have HO := Lib.hid ho
  clear ho
  go_wp2
  go_ret
  exact ⟨rfl, HO.out⟩
theorem lSuper (hp : Pool w vp c.pool) : Calls Tryz.prog 232 #[.pointer (some ⟨lb, 0, none⟩)] w fun e w' => e = .returned (.string (classZ c.pool c.super).1) ∧ Only (fun _ => False) w w' := by
  obtain ⟨q0, q1, q2, q3, q4, q5, q6, q7⟩ := cells8L hl
  have C1 := Lib.hid (clsSuper vp vf vm c.pool c.this c.super w hp)
  clear hl hp
  go_enter Tryz.func232, Tryz.ntmps232
  go_wp2_with (fail)
  refine C1.out.mono ?_
  rintro e w1 ⟨rfl, ho⟩
  have HO := Lib.hid ho
  clear ho
  go_wp2
  go_ret
  exact ⟨rfl, HO.out⟩
theorem lFields : Calls Tryz.prog 337 #[.pointer (some ⟨lb, 0, none⟩)] w fun e w' => e = .returned vof ∧ Only (fun _ => False) w w' := by
  obtain ⟨q0, q1, q2, q3, q4, q5, q6, q7⟩ := cells8L hl
  clear hl
  go_enter Tryz.func337, Tryz.ntmps337
  go_wp2
  go_ret
  exact ⟨rfl, Only.refl _ _⟩
theorem lMethods : Calls Tryz.prog 234 #[.pointer (some ⟨lb, 0, none⟩)] w fun e w' => e = .returned vom ∧ Only (fun _ => False) w w' := by
  obtain ⟨q0, q1, q2, q3, q4, q5, q6, q7⟩ := cells8L hl
  clear hl
  go_enter Tryz.func234, Tryz.ntmps234
  go_wp2
  go_ret
  exact ⟨rfl, Only.refl _ _⟩
end
structure Asks (w : World) (T : TypeId) (v : Value) (name : String) (r : Value) (n : FuncId) : Prop where
  look : ∀ W, (method 519 T v name).run Tryz.prog W = .ok (n, v) W
  enters : ∀ args W, (callFunc n args).run Tryz.prog W = .ok (.enter n args) W
  calls : ∀ W, Only (fun _ => False) w W → Calls Tryz.prog n #[v] W fun e w' => e = .returned r ∧ Only (fun _ => False) W w'
structure Told (w : World) (iv : Value) (k : KindV) (vof : Value) (T : TypeId) (v vom : Value) : Prop where
  eq : iv = .iface T v
  name : ∃ n, Asks w T v "understudy/link.name" (.string k.name) n
  super : ∃ n, Asks w T v "understudy/link.super" (.string k.super) n
  fields : ∃ n, Asks w T v "understudy/link.fields" vof n
  meths : ∃ n, Asks w T v "understudy/link.methods" vom n
  mem : MemS w vom k.meths (fun _ => 0)
theorem KnownG.told {G : Nat → Prop} {w : World} {i : Nat} {iv : Value} {k : KindV} {c : ClassV} {vof : Value} (h : KnownG G w i iv k c vof) : ∃ T v vom, Told w iv k vof T v vom := by
  rcases h with ⟨h1, h2, h3, vom, h4, h5⟩ | ⟨h1, h2, lb, vp, vf, vm, vom, h3, h4, h5, h6, h7⟩
  · subst h3
    refine ⟨_, _, vom, h4, ⟨_, fun W => mName_b 518 _ W, enters_of Tryz.func342 (by kernel_rfl) rfl, fun W _ => bName _ _ _ W⟩, ⟨_, fun W => mSuper_b 518 _ W, enters_of Tryz.func343 (by kernel_rfl) rfl, fun W _ => bSuper _ _ _ W⟩, ⟨_, fun W => mFields_b 518 _ W, enters_of Tryz.func339 (by kernel_rfl) rfl, fun W _ => bFields _ _ _ W⟩, ⟨_, fun W => mMethods_b 518 _ W, enters_of Tryz.func341 (by kernel_rfl) rfl, fun W _ => bMethods _ _ _ W⟩, h5.mem⟩
  · subst h2
    refine ⟨_, _, vom, h3, ⟨_, fun W => mName_l 518 _ W, enters_of Tryz.func231 (by kernel_rfl) rfl, fun W hW => lName (hW.heap h5 (fun h => h)) (h6.pool.only hW (fun _ _ h => h))⟩, ⟨_, fun W => mSuper_l 518 _ W, enters_of Tryz.func232 (by kernel_rfl) rfl, fun W hW => lSuper (hW.heap h5 (fun h => h)) (h6.pool.only hW (fun _ _ h => h))⟩, ⟨_, fun W => mFields_l 518 _ W, enters_of Tryz.func337 (by kernel_rfl) rfl, fun W hW => lFields (hW.heap h5 (fun h => h))⟩, ⟨_, fun W => mMethods_l 518 _ W, enters_of Tryz.func234 (by kernel_rfl) rfl, fun W hW => lMethods (hW.heap h5 (fun h => h))⟩, h7.mem⟩
section
variable {G : Nat → Prop} {fv : Nat → Value} {w : World} {pb : Nat} {ks : List KindV} {cl : Nat → ClassV} {sl : Nat → Nat → Int} (h : ProgG G fv w pb ks cl sl) (hn : 0 < ks.length)
include h hn
theorem pIsMade : Calls Tryz.prog 78 #[.pointer (some ⟨pb, 0, none⟩)] w fun e w' => e = .returned (.bool true) ∧ w = w' := by
  obtain ⟨b, o, cap, mb, q0, q1, p1, p2, hm, hk⟩ := h.open hn
  have hz : (0 : Int) < (ks.length : Int) := by omega
  clear h hm hk
  go_enter Tryz.func78, Tryz.ntmps78
  go_wp2
  go_ret
  exact ⟨rfl, rfl⟩
theorem pLen : Calls Tryz.prog 29 #[.pointer (some ⟨pb, 0, none⟩)] w fun e w' => e = .returned (.int .i64 ks.length) ∧ w = w' := by
  have C1 := Lib.hid (pIsMade h hn)
  obtain ⟨b, o, cap, mb, q0, q1, p1, p2, hm, hk⟩ := h.open hn
  clear h hm hk
  go_enter Tryz.func29, Tryz.ntmps29
  go_wp2_with (fail)
  refine C1.out.mono ?_
  rintro e w1 ⟨rfl, rfl⟩
  go_wp2
  go_ret
  exact ⟨rfl, rfl⟩
theorem pHas (n : Int) : Calls Tryz.prog 79 #[.pointer (some ⟨pb, 0, none⟩), .int .i64 n] w fun e w' => e = .returned (.bool (decide (0 ≤ n) && decide (n < ks.length))) ∧ w = w' := by
  have C1 := Lib.hid (pLen h hn)
  clear h
  by_cases h0 : 0 ≤ n
  · have hd : decide (0 ≤ n) = true := by simpa using h0
    rw [hd]
    clear hd
    go_enter Tryz.func79, Tryz.ntmps79
    go_wp2_with (fail)
    refine C1.out.mono ?_
    rintro e w1 ⟨rfl, rfl⟩
    go_wp2
    go_ret
    exact ⟨by simp, rfl⟩
  · have hd : decide (0 ≤ n) = false := by simpa using h0
    rw [hd]
    clear hd
    go_enter Tryz.func79, Tryz.ntmps79
    go_wp2
    go_ret
    exact ⟨rfl, rfl⟩
end
end Go.Proofs.YtddjdlbmadlefaaGreatDoor
