/- The document's own look at one constant, and at a pool. Texts of at most 2^46 bytes. The document's own look at a pool; its texts, classes and members. Texts of at most 2^46 bytes where a pool is looked at. The program's look at one constant: what the document says of it. No condition but the form's own reach. -/
import Derived.Test.YtddjdlbmadlefaaGreatDoorMTxtPPolT
import Derived.Test.YtddjdlbmadlefaaGreatDoorMTxtDTxtF
import Derived.Test.YtddjdlbmadlefaaGreatDoorPolW
namespace Go.Proofs.YtddjdlbmadlefaaGreatDoor
open Go.RowKit Go.Shelf
set_option linter.unusedVariables false
set_option linter.unusedSimpArgs false

/-- A text that a pool may not hold. -/
def TextBad (x : ByteArray) : Prop := ∀ ys k, Enc (nums x) ys k → k ≠ 0 ∨ 256 < ys.length
open Classical in
/-- What is wrong with a constant. -/
noncomputable def oneZ (cs : List ConstV) (c : ConstV) : Int :=
  if bareZ c = false then 40
  else if c.tag = 1 then (if TextBad c.text then 20 else 0)
  else if c.tag = 3 then (if -2147483648 ≤ c.n ∧ c.n ≤ 2147483647 then 0 else 40)
  else if c.tag = 5 then 0
  else if c.tag = 7 then (if isZ cs c.a 1 = true then 0 else 40)
  else if c.tag = 12 then (if isZ cs c.a 1 = true ∧ isZ cs c.b 1 = true then 0 else 40)
  else if c.tag = 9 ∨ c.tag = 10 then (if isZ cs c.a 7 = true ∧ isZ cs c.b 12 = true then 0 else 40)
  else 40

set_option maxHeartbeats 4000000 in
theorem refOne (v : Value) (cs : List ConstV) (i : Nat) (w : World) (hp : Pool w v cs) (hi : i < cs.length) (ht : (cs.getD i default).text.size ≤ 70368744177664) :
    Calls Tryz.prog 172 #[v, .int .i64 i] w fun e w' => e = .returned (.int .i64 (oneZ cs (cs.getD i default))) ∧ Only (fun _ => False) w w' := by
  obtain ⟨ao, cap, rfl, h1, h2, h3, h4, h5⟩ := id hp
  obtain ⟨b, o, rfl, hc⟩ := Pool.at hp hi
  have hr := hp.range hi
  obtain ⟨r0, r2, r3, r4, _⟩ := hr
  obtain ⟨g0, g1, g2, g3, g4⟩ := hc
  have Hp := Lib.hid hp
  clear h3 h4 h5 hp
  generalize cs.getD i default = c at *
  obtain ⟨t, x, n, a, bb⟩ := c
  simp only at *
  have hiz : (i : Int) < (cs.length : Int) := by omega
  have cB := fun w => refBare ⟨t, x, n, a, bb⟩ w
  simp only at cB
  go_enter Tryz.func172, Tryz.ntmps172
  go_wp2_with (fail)
  refine (cB _).mono ?_
  rintro e w1 ⟨rfl, ho1⟩
  have hoW : Only (fun _ => False) w w1 := ((Only.refl (fun _ => False) w).alloc _).trans ho1 (fun _ h => h.elim)
  have hblk := ho1.heap (heap_alloc_new w _) (fun h => h)
  have q0 := cell_blk hblk 0
  have q1 := cell_blk hblk 1
  have q2 := cell_blk hblk 2
  have q3 := cell_blk hblk 3
  have q4 := cell_blk hblk 4
  simp at q0 q1 q2 q3 q4
  have hp1 := (Hp.out).only hoW (fun _ _ h => h)
  have Hp1 := Lib.hid hp1
  have HoW := Lib.hid hoW
  clear cB g0 g1 g2 g3 g4 ho1 hoW hblk hp1
  obtain ⟨B, hB⟩ : ∃ B, bareZ ⟨t, x, n, a, bb⟩ = B := ⟨_, rfl⟩
  rw [hB]
  cases B with
  | false =>
    have Hf := Lib.hid hB
    clear hB
    go_wp2
    go_ret
    exact ⟨congrArg (fun z => Ending.returned (.int .i64 z)) (show _ = oneZ _ _ from by unfold oneZ; dsimp only; rw [if_pos Hf.out]), HoW.out⟩
  | true =>
    have hB2 : ¬ bareZ ⟨t, x, n, a, bb⟩ = false := by rw [hB]; simp
    have Hb2 := Lib.hid hB2
    clear hB hB2
    by_cases t1 : t = 1
    · subst t1
      go_wp2_with (fail)
      refine (refEncode x _ ht).mono ?_
      rintro e w2 ⟨v2, ys, k, rfl, henc, hrow, hon⟩
      have hoW2 := (HoW.out).trans hon (fun _ h => h.elim)
      have q0 := hon.cell q0 (fun h => h)
      obtain ⟨ao2, cap2, rfl, hc1, hc2⟩ := slice_of_owns hrow
      have hu : ∀ ys' k', Enc (nums x) ys' k' → ys' = ys ∧ k' = k := fun ys' k' h => Enc.unique h henc
      have hk := henc
      have Hu := Lib.hid hu
      have Henc := Lib.hid henc
      have hcode : k = 0 ∨ k = 20 := by rcases henc with ⟨cs', ht', _, h⟩ | ⟨_, _, h⟩; exact .inl h; exact .inr h
      clear hu henc hrow hon hk
      by_cases hbad : k ≠ 0 ∨ 256 < ys.length
      · have hT : TextBad x := fun ys' k' h => by
          obtain ⟨rfl, rfl⟩ := Hu.out ys' k' h
          exact hbad
        have HT := Lib.hid hT
        clear hT
        rcases hcode with rfl | rfl
        · have hbl : (256 : Int) < (ys.length : Int) := by omega
          go_wp2
          go_ret
          exact ⟨congrArg (fun z => Ending.returned (.int .i64 z)) (show _ = oneZ _ _ from by unfold oneZ; dsimp only; rw [if_neg Hb2.out, if_pos rfl, if_pos HT.out]), hoW2⟩
        · go_wp2
          go_ret
          exact ⟨congrArg (fun z => Ending.returned (.int .i64 z)) (show _ = oneZ _ _ from by unfold oneZ; dsimp only; rw [if_neg Hb2.out, if_pos rfl, if_pos HT.out]), hoW2⟩
      · have hT : ¬ TextBad x := fun h => hbad (h _ _ Henc.out)
        have HT := Lib.hid hT
        have hk0 : k = 0 := by omega
        have hbl : (ys.length : Int) ≤ 256 := by omega
        subst hk0
        clear hT hbad
        go_wp2
        go_ret
        exact ⟨congrArg (fun z => Ending.returned (.int .i64 z)) (show _ = oneZ _ _ from by unfold oneZ; dsimp only; rw [if_neg Hb2.out, if_pos rfl, if_neg HT.out]), hoW2⟩
    by_cases t3 : t = 3
    · subst t3
      by_cases hr : -2147483648 ≤ n ∧ n ≤ 2147483647
      · have Hr := Lib.hid hr
        go_wp2
        all_goals first | go_ret | skip
        all_goals try simp only [Bool.not_eq_true', Bool.not_eq_false', decide_eq_true_eq, decide_eq_false_iff_not, beq_iff_eq] at *
        all_goals first | (exfalso; omega) | exact ⟨congrArg (fun z => Ending.returned (.int .i64 z)) (show _ = oneZ _ _ from by unfold oneZ; dsimp only; rw [if_neg Hb2.out, if_neg (by decide), if_pos rfl, if_pos Hr.out]), HoW.out⟩
      · have Hr := Lib.hid hr
        go_wp2
        all_goals first | go_ret | skip
        all_goals try simp only [Bool.not_eq_true', Bool.not_eq_false', decide_eq_true_eq, decide_eq_false_iff_not, beq_iff_eq] at *
        all_goals first | (exfalso; omega) | exact ⟨congrArg (fun z => Ending.returned (.int .i64 z)) (show _ = oneZ _ _ from by unfold oneZ; dsimp only; rw [if_neg Hb2.out, if_neg (by decide), if_pos rfl, if_neg Hr.out]), HoW.out⟩
    by_cases t5 : t = 5
    · subst t5
      go_wp2
      go_ret
      exact ⟨congrArg (fun z => Ending.returned (.int .i64 z)) (show _ = oneZ _ _ from by unfold oneZ; dsimp only; rw [if_neg Hb2.out, if_neg (by decide), if_neg (by decide), if_pos rfl]), HoW.out⟩
    by_cases t7 : t = 7
    · subst t7
      cases hA : isZ cs a 1 with
      | true =>
        have HA := Lib.hid hA
        go_wp2_with (go_at_call 137; refine (refIs _ cs _ _ _ (by exact Hp1.out)).mono ?_; rintro e w' ⟨rfl, rfl⟩)
        go_ret
        exact ⟨congrArg (fun z => Ending.returned (.int .i64 z)) (show _ = oneZ _ _ from by unfold oneZ; dsimp only; rw [if_neg Hb2.out, if_neg (by decide), if_neg (by decide), if_neg (by decide), if_pos rfl, if_pos HA.out]), HoW.out⟩
      | false =>
        have HA := Lib.hid hA
        go_wp2_with (go_at_call 137; refine (refIs _ cs _ _ _ (by exact Hp1.out)).mono ?_; rintro e w' ⟨rfl, rfl⟩)
        go_ret
        exact ⟨congrArg (fun z => Ending.returned (.int .i64 z)) (show _ = oneZ _ _ from by unfold oneZ; dsimp only; rw [if_neg Hb2.out, if_neg (by decide), if_neg (by decide), if_neg (by decide), if_pos rfl, if_neg (by rw [HA.out]; simp)]), HoW.out⟩
    by_cases t12 : t = 12
    · subst t12
      cases hA : isZ cs a 1 with
      | true =>
        have HA := Lib.hid hA
        cases hB2 : isZ cs bb 1 with
        | true =>
          have HB := Lib.hid hB2
          go_wp2_with (go_at_call 137; refine (refIs _ cs _ _ _ (by exact Hp1.out)).mono ?_; rintro e w' ⟨rfl, rfl⟩)
          go_ret
          exact ⟨congrArg (fun z => Ending.returned (.int .i64 z)) (show _ = oneZ _ _ from by unfold oneZ; dsimp only; rw [if_neg Hb2.out, if_neg (by decide), if_neg (by decide), if_neg (by decide), if_neg (by decide), if_pos rfl, if_pos ⟨HA.out, HB.out⟩]), HoW.out⟩
        | false =>
          have HB := Lib.hid hB2
          go_wp2_with (go_at_call 137; refine (refIs _ cs _ _ _ (by exact Hp1.out)).mono ?_; rintro e w' ⟨rfl, rfl⟩)
          go_ret
          exact ⟨congrArg (fun z => Ending.returned (.int .i64 z)) (show _ = oneZ _ _ from by unfold oneZ; dsimp only; rw [if_neg Hb2.out, if_neg (by decide), if_neg (by decide), if_neg (by decide), if_neg (by decide), if_pos rfl, if_neg (fun h => by have := h.2; rw [HB.out] at this; simp at this)]), HoW.out⟩
      | false =>
        have HA := Lib.hid hA
        go_wp2_with (go_at_call 137; refine (refIs _ cs _ _ _ (by exact Hp1.out)).mono ?_; rintro e w' ⟨rfl, rfl⟩)
        go_ret
        exact ⟨congrArg (fun z => Ending.returned (.int .i64 z)) (show _ = oneZ _ _ from by unfold oneZ; dsimp only; rw [if_neg Hb2.out, if_neg (by decide), if_neg (by decide), if_neg (by decide), if_neg (by decide), if_pos rfl, if_neg (fun h => by have := h.1; rw [HA.out] at this; simp at this)]), HoW.out⟩
    by_cases t9 : t = 9
    · subst t9
      cases hA : isZ cs a 7 with
      | true =>
        have HA := Lib.hid hA
        cases hB2 : isZ cs bb 12 with
        | true =>
          have HB := Lib.hid hB2
          go_wp2_with (go_at_call 137; refine (refIs _ cs _ _ _ (by exact Hp1.out)).mono ?_; rintro e w' ⟨rfl, rfl⟩)
          go_ret
          exact ⟨congrArg (fun z => Ending.returned (.int .i64 z)) (show _ = oneZ _ _ from by unfold oneZ; dsimp only; rw [if_neg Hb2.out, if_neg (by decide), if_neg (by decide), if_neg (by decide), if_neg (by decide), if_neg (by decide), if_pos (.inl rfl), if_pos ⟨HA.out, HB.out⟩]), HoW.out⟩
        | false =>
          have HB := Lib.hid hB2
          go_wp2_with (go_at_call 137; refine (refIs _ cs _ _ _ (by exact Hp1.out)).mono ?_; rintro e w' ⟨rfl, rfl⟩)
          go_ret
          exact ⟨congrArg (fun z => Ending.returned (.int .i64 z)) (show _ = oneZ _ _ from by unfold oneZ; dsimp only; rw [if_neg Hb2.out, if_neg (by decide), if_neg (by decide), if_neg (by decide), if_neg (by decide), if_neg (by decide), if_pos (.inl rfl), if_neg (fun h => by have := h.2; rw [HB.out] at this; simp at this)]), HoW.out⟩
      | false =>
        have HA := Lib.hid hA
        go_wp2_with (go_at_call 137; refine (refIs _ cs _ _ _ (by exact Hp1.out)).mono ?_; rintro e w' ⟨rfl, rfl⟩)
        go_ret
        exact ⟨congrArg (fun z => Ending.returned (.int .i64 z)) (show _ = oneZ _ _ from by unfold oneZ; dsimp only; rw [if_neg Hb2.out, if_neg (by decide), if_neg (by decide), if_neg (by decide), if_neg (by decide), if_neg (by decide), if_pos (.inl rfl), if_neg (fun h => by have := h.1; rw [HA.out] at this; simp at this)]), HoW.out⟩
    by_cases t10 : t = 10
    · subst t10
      cases hA : isZ cs a 7 with
      | true =>
        have HA := Lib.hid hA
        cases hB2 : isZ cs bb 12 with
        | true =>
          have HB := Lib.hid hB2
          go_wp2_with (go_at_call 137; refine (refIs _ cs _ _ _ (by exact Hp1.out)).mono ?_; rintro e w' ⟨rfl, rfl⟩)
          go_ret
          exact ⟨congrArg (fun z => Ending.returned (.int .i64 z)) (show _ = oneZ _ _ from by unfold oneZ; dsimp only; rw [if_neg Hb2.out, if_neg (by decide), if_neg (by decide), if_neg (by decide), if_neg (by decide), if_neg (by decide), if_pos (.inr rfl), if_pos ⟨HA.out, HB.out⟩]), HoW.out⟩
        | false =>
          have HB := Lib.hid hB2
          go_wp2_with (go_at_call 137; refine (refIs _ cs _ _ _ (by exact Hp1.out)).mono ?_; rintro e w' ⟨rfl, rfl⟩)
          go_ret
          exact ⟨congrArg (fun z => Ending.returned (.int .i64 z)) (show _ = oneZ _ _ from by unfold oneZ; dsimp only; rw [if_neg Hb2.out, if_neg (by decide), if_neg (by decide), if_neg (by decide), if_neg (by decide), if_neg (by decide), if_pos (.inr rfl), if_neg (fun h => by have := h.2; rw [HB.out] at this; simp at this)]), HoW.out⟩
      | false =>
        have HA := Lib.hid hA
        go_wp2_with (go_at_call 137; refine (refIs _ cs _ _ _ (by exact Hp1.out)).mono ?_; rintro e w' ⟨rfl, rfl⟩)
        go_ret
        exact ⟨congrArg (fun z => Ending.returned (.int .i64 z)) (show _ = oneZ _ _ from by unfold oneZ; dsimp only; rw [if_neg Hb2.out, if_neg (by decide), if_neg (by decide), if_neg (by decide), if_neg (by decide), if_neg (by decide), if_pos (.inr rfl), if_neg (fun h => by have := h.1; rw [HA.out] at this; simp at this)]), HoW.out⟩
    go_wp2
    all_goals first | go_ret | skip
    all_goals first | (exfalso; omega) | skip
    all_goals exact ⟨congrArg (fun z => Ending.returned (.int .i64 z)) (show _ = oneZ _ _ from by unfold oneZ; dsimp only; rw [if_neg Hb2.out, if_neg t1, if_neg t3, if_neg t5, if_neg t7, if_neg t12, if_neg (by omega)]), HoW.out⟩
end Go.Proofs.YtddjdlbmadlefaaGreatDoor
namespace Go.Proofs.YtddjdlbmadlefaaGreatDoor
open Go.RowKit Go.Shelf
set_option linter.unusedVariables false
set_option linter.unusedSimpArgs false

def zeroC : ConstV := ⟨0, ⟨#[]⟩, 0, 0, 0⟩
open Classical in
/-- The first that is wrong. -/
noncomputable def errs (cs : List ConstV) : List ConstV → Int
  | [] => 0
  | c :: r => if oneZ cs c ≠ 0 then oneZ cs c else errs cs r
open Classical in
noncomputable def checkZ (cs : List ConstV) : Int := if 1024 < cs.length then 2 else if cs = [] ∨ cs.getD 0 default ≠ zeroC then 40 else errs cs (cs.drop 1)

def Texts (cs : List ConstV) : Prop := ∀ c ∈ cs, c.text.size ≤ 70368744177664
theorem Texts.at {cs : List ConstV} (h : Texts cs) {i : Nat} (hi : i < cs.length) : (cs.getD i default).text.size ≤ 70368744177664 := by
  have e : cs.getD i default = cs[i] := by simp [List.getD, hi]
  rw [e]
  exact h _ (List.getElem_mem hi)

set_option maxHeartbeats 4000000 in
theorem refCheck (v : Value) (cs : List ConstV) (w : World) (hp : Pool w v cs) (ht : Texts cs) :
    Calls Tryz.prog 112 #[v] w fun e w' => e = .returned (.int .i64 (checkZ cs)) ∧ Only (fun _ => False) w w' := by
  obtain ⟨ao, cap, rfl, h1, h2, h3, h4, h5⟩ := id hp
  have Hp := Lib.hid hp
  have Ht := Lib.hid ht
  clear h3 h4 h5 hp ht
  by_cases hl : 1024 < cs.length
  · have hlz : (1024 : Int) < (cs.length : Int) := by omega
    go_enter Tryz.func112, Tryz.ntmps112
    go_wp2
    go_ret
    exact ⟨congrArg (fun z => Ending.returned (.int .i64 z)) (show _ = checkZ _ from by unfold checkZ; rw [if_pos hl]), Only.refl _ _⟩
  have hlz : (cs.length : Int) ≤ 1024 := by omega
  by_cases hz : cs = []
  · have hc : checkZ cs = 40 := by unfold checkZ; rw [if_neg hl, if_pos (.inl hz)]
    have h0 : cs.length = 0 := by rw [hz]; rfl
    have Hc := Lib.hid hc
    clear hz hc
    go_enter Tryz.func112, Tryz.ntmps112
    go_wp2
    go_ret
    exact ⟨congrArg (fun z => Ending.returned (.int .i64 z)) Hc.out.symm, Only.refl _ _⟩
  have h0 : 0 < cs.length := List.length_pos_iff.2 hz
  obtain ⟨b, o, rfl, hc⟩ := Pool.at Hp.out h0
  obtain ⟨g0, g1, g2, g3, g4⟩ := hc
  simp only [Nat.zero_mul, Nat.add_zero] at g0 g1 g2 g3 g4
  have h0z : (0 : Int) < (cs.length : Int) := by omega
  have h0b : ((cs.length : Int) == 0) = false := by simp; omega
  obtain ⟨c, hc⟩ : ∃ c, cs.getD 0 default = c := ⟨_, rfl⟩
  rw [hc] at g0 g1 g2 g3 g4
  obtain ⟨t, x, n, a, bb⟩ := c
  simp only at g0 g1 g2 g3 g4
  have Hc0 := Lib.hid hc
  have Hz := Lib.hid hz
  clear hc hz
  by_cases hzero : t = 0 ∧ x.toList = [] ∧ n = 0 ∧ a = 0 ∧ bb = 0
  · obtain ⟨rfl, hx, rfl, rfl, rfl⟩ := hzero
    have hx' : x = ⟨#[]⟩ := by rw [empty_text]; exact hx
    subst hx'
    have hR : checkZ cs = errs cs (cs.drop 1) := by
      unfold checkZ
      rw [if_neg hl, if_neg (fun h => h.elim Hz.out (fun h => h (Hc0.out)))]
    obtain ⟨R, hRR⟩ : ∃ R, errs cs (cs.drop 1) = R := ⟨_, rfl⟩
    rw [hRR] at hR
    have HR := Lib.hid hR
    have HRR := Lib.hid hRR
    clear hR hRR hx hl
    go_enter Tryz.func112, Tryz.ntmps112
    go_wp2
    go_loopw [3] (fun i wr => ∃ j : Nat, 1 ≤ j ∧ j ≤ cs.length ∧ i = .int .i64 j ∧ errs cs (cs.drop j) = R ∧ Only (fun _ => False) w wr) (fun i _ => cs.length - (intOf i).toNat)
    case atStart => exact ⟨1, Nat.le_refl _, h0, rfl, HRR.out, Only.refl _ _⟩
    case round =>
      obtain ⟨j, hj1, hj, rfl, he, hon⟩ := hrel
      clear g0 g1 g2 g3 g4
      by_cases hlt : j < cs.length
      · have hstep : errs cs (cs.drop j) = errs cs (cs.getD j default :: cs.drop (j + 1)) := by
          rw [List.drop_eq_getElem_cons hlt]
          simp [List.getD, hlt]
        have hjz : (j : Int) < (cs.length : Int) := by omega
        have hpw := (Hp.out).only hon (fun _ _ h => h)
        have htw := (Ht.out).at hlt
        rw [hstep] at he
        have He := Lib.hid he
        clear hstep he
        go_wp2_with (fail)
        refine (refOne _ cs j _ hpw hlt htw).mono ?_
        rintro e w2 ⟨rfl, ho2⟩
        have hon2 := hon.trans ho2 (fun _ h => h.elim)
        clear hpw htw ho2 hon
        obtain ⟨q, hq⟩ : ∃ q, oneZ cs (cs.getD j default) = q := ⟨_, rfl⟩
        rw [hq]
        have he2 := He.out
        unfold errs at he2
        rw [hq] at he2
        clear hq
        by_cases hq0 : q = 0
        · subst hq0
          rw [if_neg (by simp)] at he2
          have He2 := Lib.hid he2
          clear he2
          go_wp2
          go_roundw
          case rel => exact ⟨j + 1, by omega, by omega, by go_num, He2.out, hon2⟩
          case measure => simp [intOf]; omega
        · rw [if_pos hq0] at he2
          have He2 := Lib.hid he2
          clear he2
          go_wp2
          go_ret
          exact ⟨congrArg (fun z => Ending.returned (.int .i64 z)) (show q = _ from by rw [HR.out]; exact He2.out), hon2⟩
      · have hjn : j = cs.length := by omega
        subst hjn
        rw [List.drop_length] at he
        have he2 : (0 : Int) = R := he
        have He := Lib.hid he2
        clear he he2
        go_wp2
        go_ret
        exact ⟨congrArg (fun z => Ending.returned (.int .i64 z)) (show (0 : Int) = _ from by rw [HR.out]; exact He.out), hon⟩
  · have hR : checkZ cs = 40 := by
      unfold checkZ
      rw [if_neg hl, if_pos (.inr (fun h => hzero (by rw [Hc0.out] at h; injection h with e1 e2 e3 e4 e5; exact ⟨e1, by rw [← empty_text]; exact e2, e3, e4, e5⟩)))]
    have HR := Lib.hid hR
    clear hR
    go_enter Tryz.func112, Tryz.ntmps112
    go_wp2
    all_goals first | go_ret | skip
    all_goals first | exact ⟨congrArg (fun z => Ending.returned (.int .i64 z)) HR.out.symm, Only.refl _ _⟩ | (exfalso; apply hzero; simp_all; done)
end Go.Proofs.YtddjdlbmadlefaaGreatDoor
namespace Go.Proofs.YtddjdlbmadlefaaGreatDoor
open Go.RowKit Go.Shelf
set_option linter.unusedVariables false
set_option linter.unusedSimpArgs false

theorem empty_enc : Enc (nums ⟨#[]⟩) [] 0 := .inl ⟨[], ⟨(fun c hc => (by cases hc)), rfl⟩, rfl, rfl⟩
theorem empty_not_bad : ¬ TextBad ⟨#[]⟩ := fun h => by
  rcases h [] 0 empty_enc with h | h
  · exact h rfl
  · simp at h
theorem bad_len {x : ByteArray} {ys : List Int} {k : Int} (h : Enc (nums x) ys k) : TextBad x ↔ (256 < ys.length ∨ (ys.length = 0 ∧ x ≠ ⟨#[]⟩)) := by
  constructor
  · intro hb
    rcases hb ys k h with hk | hl
    · rcases h with ⟨cs, ht, rfl, rfl⟩ | ⟨hn, rfl, rfl⟩
      · exact absurd rfl hk
      · refine .inr ⟨rfl, fun e => hn ?_⟩
        subst e
        exact ⟨[], ⟨fun c hc => (by cases hc), rfl⟩⟩
    · exact .inl hl
  · intro hb ys' k' h'
    obtain ⟨rfl, rfl⟩ := Enc.unique h h'
    rcases hb with hl | ⟨h0, hx⟩
    · exact .inr hl
    · rcases h with ⟨cs, ht, rfl, rfl⟩ | ⟨hn, rfl, rfl⟩
      · exfalso
        have h1 := (M8s_len ht.1).1
        rw [← ht.2, nums_len, h0] at h1
        apply hx
        rcases x with ⟨⟨l⟩⟩
        cases l with
        | nil => rfl
        | cons a r => simp [ByteArray.size] at h1
      · exact .inl (by decide)
open Classical in
theorem oneZ_shape (cs : List ConstV) (c : ConstV) : oneZ cs c = if (shapeZ c.tag).2 = true ∧ holdsZ (shapeZ c.tag).1 c = true ∧ (ledZ cs (shapeZ c.tag).1.la c.a && ledZ cs (shapeZ c.tag).1.lb c.b) = true then (if TextBad c.text then 20 else 0) else 40 := by
  obtain ⟨t, x, n, a, b⟩ := c
  have e0 : ∀ z, ledZ cs 0 z = decide (z = 0) := fun z => by unfold ledZ; rw [if_pos rfl]
  have e1 : ∀ l z, l ≠ 0 → ledZ cs l z = isZ cs z l := fun l z hl => by unfold ledZ; rw [if_neg hl, atC_tag cs z hl]
  unfold oneZ bareZ shapeZ holdsZ
  simp only
  by_cases h1 : t = 1
  · subst h1
    by_cases hn : n = 0 <;> by_cases ha : a = 0 <;> by_cases hb : b = 0 <;> simp [e0, hn, ha, hb]
  by_cases h5 : t = 5
  · subst h5
    by_cases hx : x = ⟨#[]⟩ <;> by_cases ha : a = 0 <;> by_cases hb : b = 0 <;> simp [e0, hx, ha, hb, empty_not_bad]
  by_cases h3 : t = 3
  · subst h3
    by_cases hx : x = ⟨#[]⟩ <;> by_cases hn : -2147483648 ≤ n ∧ n ≤ 2147483647 <;> by_cases ha : a = 0 <;> by_cases hb : b = 0 <;> simp [e0, hx, hn, ha, hb, empty_not_bad]
  by_cases h12 : t = 12
  · subst h12
    cases hA : isZ cs a 1 <;> cases hB : isZ cs b 1 <;> by_cases hx : x = ⟨#[]⟩ <;> by_cases hn : n = 0 <;> simp [e1, hA, hB, hx, hn, empty_not_bad]
  by_cases h7 : t = 7
  · subst h7
    cases hA : isZ cs a 1 <;> by_cases hx : x = ⟨#[]⟩ <;> by_cases hn : n = 0 <;> by_cases hb : b = 0 <;> simp [e0, e1, hA, hx, hn, hb, empty_not_bad]
  by_cases h9 : t = 9 ∨ t = 10
  · cases hA : isZ cs a 7 <;> cases hB : isZ cs b 12 <;> by_cases hx : x = ⟨#[]⟩ <;> by_cases hn : n = 0 <;> simp [h1, h3, h5, h7, h9, h12, e1, hA, hB, hx, hn, empty_not_bad]
  simp [h1, h3, h5, h7, h9, h12]
theorem progHolds (txt : Bool) (sz la lb : Int) (c : ConstV) (w : World) (hr : ConstR c) (hs : sz = 0 ∨ sz = 4 ∨ sz = 8) :
    Calls Tryz.prog 274 #[.agg #[.bool txt, .int .i64 sz, .int .i64 la, .int .i64 lb], .agg #[.int .i64 c.tag, .string c.text, .int .i64 c.n, .int .i64 c.a, .int .i64 c.b]] w fun e w' => e = .returned (.bool (holdsZ ⟨txt, sz, la, lb⟩ c)) ∧ Only (fun _ => False) w w' := by
  rcases hs with rfl | rfl | rfl
  · exact progHolds0 txt la lb c w hr
  · exact progHolds4 txt la lb c w hr
  · exact progHolds8 txt la lb c w hr
theorem shapeZ_size (t : Int) : (shapeZ t).1.size = 0 ∨ (shapeZ t).1.size = 4 ∨ (shapeZ t).1.size = 8 := by
  unfold shapeZ
  repeat' split
  all_goals simp
theorem Tabs.lt {w : World} (h : Tabs w) : 1 < w.heap.size := by
  have h2 := (h.2 0 (by decide)).1
  have := World.block_lt_of_cell? w _ h2
  simp at this
  omega

theorem Tabs.lt3 {w : World} (h : Tabs w) : 3 ≤ w.heap.size := by
  have h2 := (h.2 0 (by decide)).1
  have := World.block_lt_of_cell? w _ h2
  simp at this
  omega

set_option maxHeartbeats 4000000 in
set_option maxRecDepth 100000 in
theorem progConst (v : Value) (cs : List ConstV) (c : ConstV) (w : World) (hp : Pool w v cs) (hr : ConstR c) (hT : Tabs w) :
    Calls Tryz.prog 259 #[v, .agg #[.int .i64 c.tag, .string c.text, .int .i64 c.n, .int .i64 c.a, .int .i64 c.b]] w fun e w' => e = .returned (.int .i64 (oneZ cs c)) ∧ Only (fun _ => False) w w' := by
  obtain ⟨ao, cap, rfl, _, _, _, _, _⟩ := id hp
  have hz := oneZ_shape cs c
  have hsz := shapeZ_size c.tag
  obtain ⟨q, hq⟩ : ∃ q, shapeZ c.tag = q := ⟨_, rfl⟩
  have cS := fun w => progShape c.tag w
  rw [hq] at hz hsz cS
  obtain ⟨⟨tx, sz, la, lb⟩, ok⟩ := q
  have cH := fun w => progHolds tx sz la lb c w hr hsz
  have cL := fun w' (ho : Only (fun _ => False) w w') => progLed _ cs tx sz la lb c w' (hp.only ho (fun _ _ h => h))
  have cN := fun w' (ho : Only (fun _ => False) w w') => lenOf c.text w' (by have := hr.rt; omega) (hT.only ho (fun h => h) (fun h => h)) (hT.only ho (fun h => h) (fun h => h)).lt
  simp only at hz cS cH cL cN hsz
  have hbad : ∀ ys k, Enc (nums c.text) ys k → _ := fun ys k h => bad_len h
  obtain ⟨H, hH⟩ : ∃ H, holdsZ ⟨tx, sz, la, lb⟩ c = H := ⟨_, rfl⟩
  obtain ⟨L, hL⟩ : ∃ L, (ledZ cs la c.a && ledZ cs lb c.b) = L := ⟨_, rfl⟩
  rw [hH, hL] at hz
  rw [hH] at cH
  rw [hL] at cL
  obtain ⟨t, x, n, a, b⟩ := c
  obtain ⟨r0, r2, r3, r4, _⟩ := hr
  unfold I64 at r0 r2 r3 r4
  simp only at *
  have CS := Lib.hid cS
  have CH := Lib.hid cH
  have CL := Lib.hid cL
  have CN := Lib.hid cN
  have HZ := Lib.hid hz
  have HB := Lib.hid hbad
  clear cS cH cL cN hz hbad hH hL hq hp hT hsz
  go_enter Tryz.func259, Tryz.ntmps259
  go_wp2_with (fail)
  refine (CS.out _).mono ?_
  rintro e w1 ⟨rfl, ho1⟩
  have hblk := ho1.heap (heap_alloc_new w _) (fun h => h)
  have q0 := cell_blk hblk 0
  have q1 := cell_blk hblk 1
  have q2 := cell_blk hblk 2
  have q3 := cell_blk hblk 3
  have q4 := cell_blk hblk 4
  simp at q0 q1 q2 q3 q4
  have HO1 := Lib.hid (((Only.refl (fun _ => False) w).alloc _).trans ho1 (fun _ h => h.elim))
  have hsA : Only (fun _ => False) w1 (w1.alloc (.cells #[.bool tx, .int .i64 sz, .int .i64 la, .int .i64 lb] 344)) := (Only.refl _ _).alloc _
  have u0 := hsA.cell q0 (fun h => h)
  have u1 := hsA.cell q1 (fun h => h)
  have u2 := hsA.cell q2 (fun h => h)
  have u3 := hsA.cell q3 (fun h => h)
  have u4 := hsA.cell q4 (fun h => h)
  clear ho1 hblk hsA
  cases ok with
  | false =>
    go_wp2
    go_ret
    exact ⟨congrArg (fun z => Ending.returned (.int .i64 z)) (by rw [HZ.out, if_neg (by simp)]), HO1.out.alloc _⟩
  | true =>
    cases H with
    | false =>
      go_wp2_with (fail)
      refine (CH.out _).mono ?_
      rintro e w2 ⟨rfl, ho2⟩
      have HO2 := Lib.hid ((HO1.out.alloc _).trans ho2 (fun _ h => h.elim))
      clear ho2
      go_wp2
      go_ret
      exact ⟨congrArg (fun z => Ending.returned (.int .i64 z)) (by rw [HZ.out, if_neg (by simp)]), HO2.out⟩
    | true =>
      go_wp2_with (fail)
      refine (CH.out _).mono ?_
      rintro e w2 ⟨rfl, ho2⟩
      have ho12 := ((Only.refl (fun _ => False) w1).alloc (.cells #[.bool tx, .int .i64 sz, .int .i64 la, .int .i64 lb] 344)).trans ho2 (fun _ h => h.elim)
      have HO2 := Lib.hid (HO1.out.trans ho12 (fun _ h => h.elim))
      have hsb := ho2.heap (heap_alloc_new w1 _) (fun h => h)
      have s0 := cell_blk hsb 0
      have s1 := cell_blk hsb 1
      have s2 := cell_blk hsb 2
      have s3 := cell_blk hsb 3
      simp at s0 s1 s2 s3
      have p0 := ho12.cell q0 (fun h => h)
      have p1 := ho12.cell q1 (fun h => h)
      have p2 := ho12.cell q2 (fun h => h)
      have p3 := ho12.cell q3 (fun h => h)
      have p4 := ho12.cell q4 (fun h => h)
      clear q0 q1 q2 q3 q4 u0 u1 u2 u3 u4 hsb ho2 ho12
      cases L with
      | false =>
        go_wp2_with (fail)
        refine (CL.out _ (HO2.out)).mono ?_
        rintro e w3 ⟨rfl, ho3⟩
        have HO3 := Lib.hid (HO2.out.trans ho3 (fun _ h => h.elim))
        clear ho3
        go_wp2
        go_ret
        exact ⟨congrArg (fun z => Ending.returned (.int .i64 z)) (by rw [HZ.out, if_neg (by simp)]), HO3.out⟩
      | true =>
        go_wp2_with (fail)
        refine (CL.out _ (HO2.out)).mono ?_
        rintro e w3 ⟨rfl, ho3⟩
        have HO3 := Lib.hid (HO2.out.trans ho3 (fun _ h => h.elim))
        have x1 := ho3.cell p1 (fun h => h)
        clear ho3 p0 p1 p2 p3 p4 s0 s1 s2 s3
        go_wp2_with (fail)
        refine (CN.out _ (HO3.out)).mono ?_
        rintro e w4 ⟨ys, k, rfl, henc, ho4⟩
        have hb := HB.out ys k henc
        have y1 := ho4.cell x1 (fun h => h)
        have HO4 := Lib.hid (HO3.out.trans ho4 (fun _ h => h.elim))
        clear ho4 x1 henc
        by_cases h1 : 256 < ys.length
        · have HT := Lib.hid (hb.2 (.inl h1))
          have h1z : (256 : Int) < (ys.length : Int) := by omega
          clear hb
          go_wp2
          go_ret
          exact ⟨congrArg (fun z => Ending.returned (.int .i64 z)) (by rw [HZ.out, if_pos (by simp), if_pos HT.out]), HO4.out⟩
        have h1z : (ys.length : Int) ≤ 256 := by omega
        by_cases h2 : ys.length = 0
        · by_cases h3 : x = ⟨#[]⟩
          · have HT := Lib.hid (show ¬ TextBad x from fun h => by rcases hb.1 h with h | h; (exact h1 h); (exact h.2 h3))
            subst h3
            have h2z : (ys.length : Int) = 0 := by omega
            clear hb
            go_wp2
            go_ret
            exact ⟨congrArg (fun z => Ending.returned (.int .i64 z)) (by rw [HZ.out, if_pos (by simp), if_neg HT.out]), HO4.out⟩
          · have HT := Lib.hid (hb.2 (.inr ⟨h2, h3⟩))
            have hx1 : x.toList.isEmpty = false := by
              rw [Bool.eq_false_iff]
              intro h
              exact h3 (by rw [empty_text]; simpa using h)
            have h2z : (ys.length : Int) = 0 := by omega
            clear hb h3
            go_wp2
            go_ret
            exact ⟨congrArg (fun z => Ending.returned (.int .i64 z)) (by rw [HZ.out, if_pos (by simp), if_pos HT.out]), HO4.out⟩
        · have HT := Lib.hid (show ¬ TextBad x from fun h => by rcases hb.1 h with h | h; (exact h1 h); (exact h2 h.1))
          have h2z : ((ys.length : Int) == 0) = false := by simp only [beq_eq_false_iff_ne]; omega
          clear hb h2
          go_wp2
          go_ret
          exact ⟨congrArg (fun z => Ending.returned (.int .i64 z)) (by rw [HZ.out, if_pos (by simp), if_neg HT.out]), HO4.out⟩
end Go.Proofs.YtddjdlbmadlefaaGreatDoor
