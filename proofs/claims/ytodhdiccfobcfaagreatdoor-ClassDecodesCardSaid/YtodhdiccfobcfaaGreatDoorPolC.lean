/- The document's own look at a pool; its texts, classes and members. Texts of at most 2^46 bytes where a pool is looked at. -/
import Derived.Test.YtodhdiccfobcfaaGreatDoorPolB
namespace Go.Proofs.YtodhdiccfobcfaaGreatDoor
open Go.RowKit Go.Shelf
set_option linter.unusedVariables false
set_option linter.unusedSimpArgs false

def zeroC : ConstV := ⟨0, ⟨#[]⟩, 0, 0, 0⟩
open Classical in
/-- The first that is wrong. -/
noncomputable def errs (cs : List ConstV) : List ConstV → Int
  | [] => 0
  | c :: r => if oneZ cs c ≠ 0 then oneZ cs c else errs cs r
open Classical in
noncomputable def checkZ (cs : List ConstV) : Int := if 1024 < cs.length then 2 else if cs = [] ∨ cs.getD 0 default ≠ zeroC then 40 else errs cs (cs.drop 1)

def Texts (cs : List ConstV) : Prop := ∀ c ∈ cs, c.text.size ≤ 70368744177664
theorem Texts.at {cs : List ConstV} (h : Texts cs) {i : Nat} (hi : i < cs.length) : (cs.getD i default).text.size ≤ 70368744177664 := by
  have e : cs.getD i default = cs[i] := by simp [List.getD, hi]
  rw [e]
  exact h _ (List.getElem_mem hi)

set_option maxHeartbeats 4000000 in
theorem refCheck (v : Value) (cs : List ConstV) (w : World) (hp : Pool w v cs) (ht : Texts cs) :
    Calls Tryz.prog 48 #[v] w fun e w' => e = .returned (.int .i64 (checkZ cs)) ∧ Only (fun _ => False) w w' := by
  obtain ⟨ao, cap, rfl, h1, h2, h3, h4, h5⟩ := id hp
  have Hp := Lib.hid hp
  have Ht := Lib.hid ht
  clear h3 h4 h5 hp ht
  by_cases hl : 1024 < cs.length
  · have hlz : (1024 : Int) < (cs.length : Int) := by omega
    go_enter Tryz.func48, Tryz.ntmps48
    go_wp2
    go_ret
    exact ⟨congrArg (fun z => Ending.returned (.int .i64 z)) (show _ = checkZ _ from by unfold checkZ; rw [if_pos hl]), Only.refl _ _⟩
  have hlz : (cs.length : Int) ≤ 1024 := by omega
  by_cases hz : cs = []
  · have hc : checkZ cs = 40 := by unfold checkZ; rw [if_neg hl, if_pos (.inl hz)]
    have h0 : cs.length = 0 := by rw [hz]; rfl
    have Hc := Lib.hid hc
    clear hz hc
    go_enter Tryz.func48, Tryz.ntmps48
    go_wp2
    go_ret
    exact ⟨congrArg (fun z => Ending.returned (.int .i64 z)) Hc.out.symm, Only.refl _ _⟩
  have h0 : 0 < cs.length := List.length_pos_iff.2 hz
  obtain ⟨b, o, rfl, hc⟩ := Pool.at Hp.out h0
  obtain ⟨g0, g1, g2, g3, g4⟩ := hc
  simp only [Nat.zero_mul, Nat.add_zero] at g0 g1 g2 g3 g4
  have h0z : (0 : Int) < (cs.length : Int) := by omega
  have h0b : ((cs.length : Int) == 0) = false := by simp; omega
  obtain ⟨c, hc⟩ : ∃ c, cs.getD 0 default = c := ⟨_, rfl⟩
  rw [hc] at g0 g1 g2 g3 g4
  obtain ⟨t, x, n, a, bb⟩ := c
  simp only at g0 g1 g2 g3 g4
  have Hc0 := Lib.hid hc
  have Hz := Lib.hid hz
  clear hc hz
  by_cases hzero : t = 0 ∧ x.toList = [] ∧ n = 0 ∧ a = 0 ∧ bb = 0
  · obtain ⟨rfl, hx, rfl, rfl, rfl⟩ := hzero
    have hx' : x = ⟨#[]⟩ := by rw [empty_text]; exact hx
    subst hx'
    have hR : checkZ cs = errs cs (cs.drop 1) := by
      unfold checkZ
      rw [if_neg hl, if_neg (fun h => h.elim Hz.out (fun h => h (Hc0.out)))]
    obtain ⟨R, hRR⟩ : ∃ R, errs cs (cs.drop 1) = R := ⟨_, rfl⟩
    rw [hRR] at hR
    have HR := Lib.hid hR
    have HRR := Lib.hid hRR
    clear hR hRR hx hl
    go_enter Tryz.func48, Tryz.ntmps48
    go_wp2
    go_loopw [3] (fun i wr => ∃ j : Nat, 1 ≤ j ∧ j ≤ cs.length ∧ i = .int .i64 j ∧ errs cs (cs.drop j) = R ∧ Only (fun _ => False) w wr) (fun i _ => cs.length - (intOf i).toNat)
    case atStart => exact ⟨1, Nat.le_refl _, h0, rfl, HRR.out, Only.refl _ _⟩
    case round =>
      obtain ⟨j, hj1, hj, rfl, he, hon⟩ := hrel
      clear g0 g1 g2 g3 g4
      by_cases hlt : j < cs.length
      · have hstep : errs cs (cs.drop j) = errs cs (cs.getD j default :: cs.drop (j + 1)) := by
          rw [List.drop_eq_getElem_cons hlt]
          simp [List.getD, hlt]
        have hjz : (j : Int) < (cs.length : Int) := by omega
        have hpw := (Hp.out).only hon (fun _ _ h => h)
        have htw := (Ht.out).at hlt
        rw [hstep] at he
        have He := Lib.hid he
        clear hstep he
        go_wp2_with (fail)
        refine (refOne _ cs j _ hpw hlt htw).mono ?_
        rintro e w2 ⟨rfl, ho2⟩
        have hon2 := hon.trans ho2 (fun _ h => h.elim)
        clear hpw htw ho2 hon
        obtain ⟨q, hq⟩ : ∃ q, oneZ cs (cs.getD j default) = q := ⟨_, rfl⟩
        rw [hq]
        have he2 := He.out
        unfold errs at he2
        rw [hq] at he2
        clear hq
        by_cases hq0 : q = 0
        · subst hq0
          rw [if_neg (by simp)] at he2
          have He2 := Lib.hid he2
          clear he2
          go_wp2
          go_roundw
          case rel => exact ⟨j + 1, by omega, by omega, by go_num, He2.out, hon2⟩
          case measure => simp [intOf]; omega
        · rw [if_pos hq0] at he2
          have He2 := Lib.hid he2
          clear he2
          go_wp2
          go_ret
          exact ⟨congrArg (fun z => Ending.returned (.int .i64 z)) (show q = _ from by rw [HR.out]; exact He2.out), hon2⟩
      · have hjn : j = cs.length := by omega
        subst hjn
        rw [List.drop_length] at he
        have he2 : (0 : Int) = R := he
        have He := Lib.hid he2
        clear he he2
        go_wp2
        go_ret
        exact ⟨congrArg (fun z => Ending.returned (.int .i64 z)) (show (0 : Int) = _ from by rw [HR.out]; exact He.out), hon⟩
  · have hR : checkZ cs = 40 := by
      unfold checkZ
      rw [if_neg hl, if_pos (.inr (fun h => hzero (by rw [Hc0.out] at h; injection h with e1 e2 e3 e4 e5; exact ⟨e1, by rw [← empty_text]; exact e2, e3, e4, e5⟩)))]
    have HR := Lib.hid hR
    clear hR
    go_enter Tryz.func48, Tryz.ntmps48
    go_wp2
    all_goals first | go_ret | skip
    all_goals first | exact ⟨congrArg (fun z => Ending.returned (.int .i64 z)) HR.out.symm, Only.refl _ _⟩ | (exfalso; apply hzero; simp_all; done)
end Go.Proofs.YtodhdiccfobcfaaGreatDoor
