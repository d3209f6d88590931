/- The program's look at a pool: what the document says of it. No condition but the form's own reach. -/
import Derived.Test.YtodhdiccfobcfaaGreatDoorGPolP
import Derived.Test.YtodhdiccfobcfaaGreatDoorPolZ
namespace Go.Proofs.YtodhdiccfobcfaaGreatDoor
open Go.RowKit Go.Shelf
set_option linter.unusedVariables false
set_option linter.unusedSimpArgs false

/-- An error that wraps a number, or none. -/
def ErrOf (k : Int) (v : Value) : Prop := (k = 0 ∧ v = .nilIface) ∨ (k ≠ 0 ∧ ∃ p : Int, v = .iface 169 (.agg #[.int .i64 p, .int .i64 k]))
theorem ErrOf.some {k p : Int} (h : k ≠ 0) : ErrOf k (.iface 169 (.agg #[.int .i64 p, .int .i64 k])) := .inr ⟨h, p, rfl⟩
theorem ErrOf.none : ErrOf 0 .nilIface := .inl ⟨rfl, rfl⟩
theorem whichOf (k : Int) (v : Value) (w : World) (h : ErrOf k v) (hg : ErrV w) :
    Calls Tryz.prog 98 #[v] w fun e w' => e = .returned (.int .i64 k) ∧ Only (fun _ => False) w w' := by
  rcases h with ⟨rfl, rfl⟩ | ⟨_, p, rfl⟩
  · exact whichNil w
  · exact whichFault p k w hg

set_option maxHeartbeats 1000000 in
theorem countLong (n : Int) (w : World) (h : 1024 < n) :
    Calls Tryz.prog 118 #[.int .i64 n] w fun e w' => e = .returned (.iface 169 (.agg #[.int .i64 1024, .int .i64 2])) ∧ w = w' := by
  go_enter Tryz.func118, Tryz.ntmps118
  go_wp2
  go_ret
  exact ⟨rfl, rfl⟩
set_option maxHeartbeats 1000000 in
theorem countZero (w : World) :
    Calls Tryz.prog 118 #[.int .i64 0] w fun e w' => e = .returned (.iface 169 (.agg #[.int .i64 0, .int .i64 40])) ∧ w = w' := by
  go_enter Tryz.func118, Tryz.ntmps118
  go_wp2
  go_ret
  exact ⟨rfl, rfl⟩
set_option maxHeartbeats 1000000 in
theorem countOk (n : Int) (w : World) (h1 : n ≤ 1024) (h0 : 1 ≤ n) :
    Calls Tryz.prog 118 #[.int .i64 n] w fun e w' => e = .returned .nilIface ∧ w = w' := by
  have hb : (n == 0) = false := by simp only [beq_eq_false_iff_ne]; omega
  go_enter Tryz.func118, Tryz.ntmps118
  go_wp2
  go_ret
  exact ⟨rfl, rfl⟩

/-- What the look leaves. -/
def LookTo (w : World) (k : Int) (e : Ending) (w' : World) : Prop := ∃ v, e = .returned v ∧ ErrOf k v ∧ Only (fun _ => False) w w'

set_option maxHeartbeats 4000000 in
theorem progPool (v : Value) (cs : List ConstV) (w : World) (hp : Pool w v cs) (hT : Tabs w) :
    Calls Tryz.prog 99 #[v] w (LookTo w (checkZ cs)) := by
  obtain ⟨ao, cap, rfl, h1, h2, h3, h4, h5⟩ := id hp
  have Hp := Lib.hid hp
  have HT := Lib.hid hT
  clear h3 h4 h5 hp hT
  by_cases hl : 1024 < cs.length
  · have hc : checkZ cs = 2 := by unfold checkZ; rw [if_pos hl]
    rw [hc]
    clear hc
    go_enter Tryz.func99, Tryz.ntmps99
    go_wp2_with (go_at_call 118; refine (countLong _ _ (by omega)).mono ?_; rintro e w' ⟨rfl, rfl⟩)
    go_ret
    exact ⟨_, rfl, ErrOf.some (by decide), Only.refl _ _⟩
  by_cases hz : cs = []
  · have hc : checkZ cs = 40 := by unfold checkZ; rw [if_neg hl, if_pos (.inl hz)]
    have h0 : cs.length = 0 := by rw [hz]; rfl
    rw [hc]
    clear hz hc
    go_enter Tryz.func99, Tryz.ntmps99
    go_wp2_with (go_at_call 118; refine (countZero _).mono ?_; rintro e w' ⟨rfl, rfl⟩)
    go_ret
    exact ⟨_, rfl, ErrOf.some (by decide), Only.refl _ _⟩
  have h0 : 0 < cs.length := List.length_pos_iff.2 hz
  obtain ⟨b, o, rfl, hc⟩ := Pool.at Hp.out h0
  obtain ⟨g0, g1, g2, g3, g4⟩ := hc
  simp only [Nat.zero_mul, Nat.add_zero] at g0 g1 g2 g3 g4
  have h0z : (0 : Int) < (cs.length : Int) := by omega
  obtain ⟨c, hc⟩ : ∃ c, cs.getD 0 default = c := ⟨_, rfl⟩
  rw [hc] at g0 g1 g2 g3 g4
  obtain ⟨t, x, n, a, bb⟩ := c
  simp only at g0 g1 g2 g3 g4
  have Hc0 := Lib.hid hc
  have Hz := Lib.hid hz
  have cC := fun w => countOk (cs.length : Int) w (by omega) (by omega)
  clear hc hz
  by_cases hzero : t = 0 ∧ x.toList = [] ∧ n = 0 ∧ a = 0 ∧ bb = 0
  · obtain ⟨rfl, hx, rfl, rfl, rfl⟩ := hzero
    have hx' : x = ⟨#[]⟩ := by rw [empty_text]; exact hx
    subst hx'
    have hR : checkZ cs = errs cs (cs.drop 1) := by
      unfold checkZ
      rw [if_neg hl, if_neg (fun h => h.elim Hz.out (fun h => h (Hc0.out)))]
    obtain ⟨R, hRR⟩ : ∃ R, errs cs (cs.drop 1) = R := ⟨_, rfl⟩
    rw [hRR] at hR
    rw [hR]
    have HRR := Lib.hid hRR
    clear hR hRR hx hl
    go_enter Tryz.func99, Tryz.ntmps99
    go_wp2_with (go_at_call 118; refine (cC _).mono ?_; rintro e w' ⟨rfl, rfl⟩)
    go_loopw [4] (fun i wr => ∃ j : Nat, 1 ≤ j ∧ j ≤ cs.length ∧ i = .int .i64 j ∧ errs cs (cs.drop j) = R ∧ Only (fun _ => False) w wr) (fun i _ => cs.length - (intOf i).toNat)
    case atStart => exact ⟨1, Nat.le_refl _, h0, rfl, HRR.out, Only.refl _ _⟩
    case round =>
      obtain ⟨j, hj1, hj, rfl, he, hon⟩ := hrel
      clear g0 g1 g2 g3 g4 cC
      by_cases hlt : j < cs.length
      · have hstep : errs cs (cs.drop j) = errs cs (cs.getD j default :: cs.drop (j + 1)) := by
          rw [List.drop_eq_getElem_cons hlt]
          simp [List.getD, hlt]
        have hjz : (j : Int) < (cs.length : Int) := by omega
        have hpw := (Hp.out).only hon (fun _ _ h => h)
        have htw := (HT.out).only hon (fun h => h) (fun h => h)
        have hr := hpw.range hlt
        obtain ⟨b', o', e2, hc⟩ := Pool.at hpw hlt
        injection e2 with e2
        injection e2 with e2 e3
        subst e2 e3
        obtain ⟨k0, k1, k2, k3, k4⟩ := hc
        rw [hstep] at he
        have He := Lib.hid he
        have cK := progConst _ cs (cs.getD j default) wr hpw hr htw
        have hr0 := hr.r0
        clear hstep he hpw htw hr
        generalize cs.getD j default = c at *
        obtain ⟨t, x, n, a, bb⟩ := c
        simp only at *
        go_wp2_with (fail)
        refine cK.mono ?_
        rintro e w2 ⟨rfl, ho2⟩
        have hon2 := hon.trans ho2 (fun _ h => h.elim)
        clear ho2 hon cK
        obtain ⟨q, hq⟩ : ∃ q, oneZ cs ⟨t, x, n, a, bb⟩ = q := ⟨_, rfl⟩
        rw [hq]
        have he2 := He.out
        unfold errs at he2
        rw [hq] at he2
        clear hq
        by_cases hq0 : q = 0
        · subst hq0
          rw [if_neg (by simp)] at he2
          have He2 := Lib.hid he2
          clear he2
          go_wp2
          go_roundw
          case rel => exact ⟨j + 1, by omega, by omega, by go_num, He2.out, hon2⟩
          case measure => simp [intOf]; omega
        · rw [if_pos hq0] at he2
          have He2 := Lib.hid he2
          have hqb : (q == 0) = false := by simpa using hq0
          have hqc : (q != 0) = true := by simpa using hq0
          clear he2
          go_wp2
          go_ret
          exact ⟨_, rfl, by rw [← He2.out]; exact ErrOf.some hq0, hon2⟩
      · have hjn : j = cs.length := by omega
        subst hjn
        rw [List.drop_length] at he
        have he2 : (0 : Int) = R := he
        have He := Lib.hid he2
        clear he he2
        go_wp2
        go_ret
        exact ⟨_, rfl, by rw [← He.out]; exact ErrOf.none, hon⟩
  · have hR : checkZ cs = 40 := by
      unfold checkZ
      rw [if_neg hl, if_pos (.inr (fun h => hzero (by rw [Hc0.out] at h; injection h with e1 e2 e3 e4 e5; exact ⟨e1, by rw [← empty_text]; exact e2, e3, e4, e5⟩)))]
    rw [hR]
    clear hR
    go_enter Tryz.func99, Tryz.ntmps99
    go_wp2_with (go_at_call 118; refine (cC _).mono ?_; rintro e w' ⟨rfl, rfl⟩)
    all_goals first | go_ret | skip
    all_goals first | exact ⟨_, rfl, ErrOf.some (by decide), Only.refl _ _⟩ | (exfalso; apply hzero; simp_all; done)

set_option maxHeartbeats 1000000 in
theorem progCheck (v : Value) (cs : List ConstV) (w : World) (hp : Pool w v cs) (hT : Tabs w) (hg : ErrV w) :
    Calls Tryz.prog 68 #[v] w fun e w' => e = .returned (.int .i64 (checkZ cs)) ∧ Only (fun _ => False) w w' := by
  have cP := progPool v cs w hp hT
  obtain ⟨ao, cap, rfl, _, _, _, _, _⟩ := id hp
  have HG := Lib.hid hg
  clear hp hT hg
  generalize checkZ cs = k at *
  go_enter Tryz.func68, Tryz.ntmps68
  go_wp2_with (fail)
  refine cP.mono ?_
  rintro e w1 ⟨ve, rfl, hve, ho1⟩
  have cW := whichOf k ve w1 hve (HG.out.only ho1 (fun h => h))
  have Ho1 := Lib.hid ho1
  clear hve ho1 cP
  go_wp2_with (fail)
  refine cW.mono ?_
  rintro e w2 ⟨rfl, ho2⟩
  clear cW
  go_wp2
  go_ret
  exact ⟨rfl, Ho1.out.trans ho2 (fun _ h => h.elim)⟩
end Go.Proofs.YtodhdiccfobcfaaGreatDoor
