/- The document's own look at one constant, and at a pool. Texts of at most 2^46 bytes. -/
import Derived.Test.YtodhdiccfobcfaaGreatDoorPolA
import Derived.Test.YtodhdiccfobcfaaGreatDoorGTxtP
namespace Go.Proofs.YtodhdiccfobcfaaGreatDoor
open Go.RowKit Go.Shelf
set_option linter.unusedVariables false
set_option linter.unusedSimpArgs false

/-- A text that a pool may not hold. -/
def TextBad (x : ByteArray) : Prop := ∀ ys k, Enc (nums x) ys k → k ≠ 0 ∨ 256 < ys.length
open Classical in
/-- What is wrong with a constant. -/
noncomputable def oneZ (cs : List ConstV) (c : ConstV) : Int :=
  if bareZ c = false then 40
  else if c.tag = 1 then (if TextBad c.text then 20 else 0)
  else if c.tag = 3 then (if -2147483648 ≤ c.n ∧ c.n ≤ 2147483647 then 0 else 40)
  else if c.tag = 5 then 0
  else if c.tag = 7 then (if isZ cs c.a 1 = true then 0 else 40)
  else if c.tag = 12 then (if isZ cs c.a 1 = true ∧ isZ cs c.b 1 = true then 0 else 40)
  else if c.tag = 9 ∨ c.tag = 10 then (if isZ cs c.a 7 = true ∧ isZ cs c.b 12 = true then 0 else 40)
  else 40

set_option maxHeartbeats 4000000 in
theorem refOne (v : Value) (cs : List ConstV) (i : Nat) (w : World) (hp : Pool w v cs) (hi : i < cs.length) (ht : (cs.getD i default).text.size ≤ 70368744177664) :
    Calls Tryz.prog 78 #[v, .int .i64 i] w fun e w' => e = .returned (.int .i64 (oneZ cs (cs.getD i default))) ∧ Only (fun _ => False) w w' := by
  obtain ⟨ao, cap, rfl, h1, h2, h3, h4, h5⟩ := id hp
  obtain ⟨b, o, rfl, hc⟩ := Pool.at hp hi
  have hr := hp.range hi
  obtain ⟨r0, r2, r3, r4, _⟩ := hr
  obtain ⟨g0, g1, g2, g3, g4⟩ := hc
  have Hp := Lib.hid hp
  clear h3 h4 h5 hp
  generalize cs.getD i default = c at *
  obtain ⟨t, x, n, a, bb⟩ := c
  simp only at *
  have hiz : (i : Int) < (cs.length : Int) := by omega
  have cB := fun w => refBare ⟨t, x, n, a, bb⟩ w
  simp only at cB
  go_enter Tryz.func78, Tryz.ntmps78
  go_wp2_with (fail)
  refine (cB _).mono ?_
  rintro e w1 ⟨rfl, ho1⟩
  have hoW : Only (fun _ => False) w w1 := ((Only.refl (fun _ => False) w).alloc _).trans ho1 (fun _ h => h.elim)
  have hblk := ho1.heap (heap_alloc_new w _) (fun h => h)
  have q0 := cell_blk hblk 0
  have q1 := cell_blk hblk 1
  have q2 := cell_blk hblk 2
  have q3 := cell_blk hblk 3
  have q4 := cell_blk hblk 4
  simp at q0 q1 q2 q3 q4
  have hp1 := (Hp.out).only hoW (fun _ _ h => h)
  have Hp1 := Lib.hid hp1
  have HoW := Lib.hid hoW
  clear cB g0 g1 g2 g3 g4 ho1 hoW hblk hp1
  obtain ⟨B, hB⟩ : ∃ B, bareZ ⟨t, x, n, a, bb⟩ = B := ⟨_, rfl⟩
  rw [hB]
  cases B with
  | false =>
    have Hf := Lib.hid hB
    clear hB
    go_wp2
    go_ret
    exact ⟨congrArg (fun z => Ending.returned (.int .i64 z)) (show _ = oneZ _ _ from by unfold oneZ; dsimp only; rw [if_pos Hf.out]), HoW.out⟩
  | true =>
    have hB2 : ¬ bareZ ⟨t, x, n, a, bb⟩ = false := by rw [hB]; simp
    have Hb2 := Lib.hid hB2
    clear hB hB2
    by_cases t1 : t = 1
    · subst t1
      go_wp2_with (fail)
      refine (refEncode x _ ht).mono ?_
      rintro e w2 ⟨v2, ys, k, rfl, henc, hrow, hon⟩
      have hoW2 := (HoW.out).trans hon (fun _ h => h.elim)
      have q0 := hon.cell q0 (fun h => h)
      obtain ⟨ao2, cap2, rfl, hc1, hc2⟩ := slice_of_owns hrow
      have hu : ∀ ys' k', Enc (nums x) ys' k' → ys' = ys ∧ k' = k := fun ys' k' h => Enc.unique h henc
      have hk := henc
      have Hu := Lib.hid hu
      have Henc := Lib.hid henc
      have hcode : k = 0 ∨ k = 20 := by rcases henc with ⟨cs', ht', _, h⟩ | ⟨_, _, h⟩; exact .inl h; exact .inr h
      clear hu henc hrow hon hk
      by_cases hbad : k ≠ 0 ∨ 256 < ys.length
      · have hT : TextBad x := fun ys' k' h => by
          obtain ⟨rfl, rfl⟩ := Hu.out ys' k' h
          exact hbad
        have HT := Lib.hid hT
        clear hT
        rcases hcode with rfl | rfl
        · have hbl : (256 : Int) < (ys.length : Int) := by omega
          go_wp2
          go_ret
          exact ⟨congrArg (fun z => Ending.returned (.int .i64 z)) (show _ = oneZ _ _ from by unfold oneZ; dsimp only; rw [if_neg Hb2.out, if_pos rfl, if_pos HT.out]), hoW2⟩
        · go_wp2
          go_ret
          exact ⟨congrArg (fun z => Ending.returned (.int .i64 z)) (show _ = oneZ _ _ from by unfold oneZ; dsimp only; rw [if_neg Hb2.out, if_pos rfl, if_pos HT.out]), hoW2⟩
      · have hT : ¬ TextBad x := fun h => hbad (h _ _ Henc.out)
        have HT := Lib.hid hT
        have hk0 : k = 0 := by omega
        have hbl : (ys.length : Int) ≤ 256 := by omega
        subst hk0
        clear hT hbad
        go_wp2
        go_ret
        exact ⟨congrArg (fun z => Ending.returned (.int .i64 z)) (show _ = oneZ _ _ from by unfold oneZ; dsimp only; rw [if_neg Hb2.out, if_pos rfl, if_neg HT.out]), hoW2⟩
    by_cases t3 : t = 3
    · subst t3
      by_cases hr : -2147483648 ≤ n ∧ n ≤ 2147483647
      · have Hr := Lib.hid hr
        go_wp2
        all_goals first | go_ret | skip
        all_goals try simp only [Bool.not_eq_true', Bool.not_eq_false', decide_eq_true_eq, decide_eq_false_iff_not, beq_iff_eq] at *
        all_goals first | (exfalso; omega) | exact ⟨congrArg (fun z => Ending.returned (.int .i64 z)) (show _ = oneZ _ _ from by unfold oneZ; dsimp only; rw [if_neg Hb2.out, if_neg (by decide), if_pos rfl, if_pos Hr.out]), HoW.out⟩
      · have Hr := Lib.hid hr
        go_wp2
        all_goals first | go_ret | skip
        all_goals try simp only [Bool.not_eq_true', Bool.not_eq_false', decide_eq_true_eq, decide_eq_false_iff_not, beq_iff_eq] at *
        all_goals first | (exfalso; omega) | exact ⟨congrArg (fun z => Ending.returned (.int .i64 z)) (show _ = oneZ _ _ from by unfold oneZ; dsimp only; rw [if_neg Hb2.out, if_neg (by decide), if_pos rfl, if_neg Hr.out]), HoW.out⟩
    by_cases t5 : t = 5
    · subst t5
      go_wp2
      go_ret
      exact ⟨congrArg (fun z => Ending.returned (.int .i64 z)) (show _ = oneZ _ _ from by unfold oneZ; dsimp only; rw [if_neg Hb2.out, if_neg (by decide), if_neg (by decide), if_pos rfl]), HoW.out⟩
    by_cases t7 : t = 7
    · subst t7
      cases hA : isZ cs a 1 with
      | true =>
        have HA := Lib.hid hA
        go_wp2_with (go_at_call 109; refine (refIs _ cs _ _ _ (by exact Hp1.out)).mono ?_; rintro e w' ⟨rfl, rfl⟩)
        go_ret
        exact ⟨congrArg (fun z => Ending.returned (.int .i64 z)) (show _ = oneZ _ _ from by unfold oneZ; dsimp only; rw [if_neg Hb2.out, if_neg (by decide), if_neg (by decide), if_neg (by decide), if_pos rfl, if_pos HA.out]), HoW.out⟩
      | false =>
        have HA := Lib.hid hA
        go_wp2_with (go_at_call 109; refine (refIs _ cs _ _ _ (by exact Hp1.out)).mono ?_; rintro e w' ⟨rfl, rfl⟩)
        go_ret
        exact ⟨congrArg (fun z => Ending.returned (.int .i64 z)) (show _ = oneZ _ _ from by unfold oneZ; dsimp only; rw [if_neg Hb2.out, if_neg (by decide), if_neg (by decide), if_neg (by decide), if_pos rfl, if_neg (by rw [HA.out]; simp)]), HoW.out⟩
    by_cases t12 : t = 12
    · subst t12
      cases hA : isZ cs a 1 with
      | true =>
        have HA := Lib.hid hA
        cases hB2 : isZ cs bb 1 with
        | true =>
          have HB := Lib.hid hB2
          go_wp2_with (go_at_call 109; refine (refIs _ cs _ _ _ (by exact Hp1.out)).mono ?_; rintro e w' ⟨rfl, rfl⟩)
          go_ret
          exact ⟨congrArg (fun z => Ending.returned (.int .i64 z)) (show _ = oneZ _ _ from by unfold oneZ; dsimp only; rw [if_neg Hb2.out, if_neg (by decide), if_neg (by decide), if_neg (by decide), if_neg (by decide), if_pos rfl, if_pos ⟨HA.out, HB.out⟩]), HoW.out⟩
        | false =>
          have HB := Lib.hid hB2
          go_wp2_with (go_at_call 109; refine (refIs _ cs _ _ _ (by exact Hp1.out)).mono ?_; rintro e w' ⟨rfl, rfl⟩)
          go_ret
          exact ⟨congrArg (fun z => Ending.returned (.int .i64 z)) (show _ = oneZ _ _ from by unfold oneZ; dsimp only; rw [if_neg Hb2.out, if_neg (by decide), if_neg (by decide), if_neg (by decide), if_neg (by decide), if_pos rfl, if_neg (fun h => by have := h.2; rw [HB.out] at this; simp at this)]), HoW.out⟩
      | false =>
        have HA := Lib.hid hA
        go_wp2_with (go_at_call 109; refine (refIs _ cs _ _ _ (by exact Hp1.out)).mono ?_; rintro e w' ⟨rfl, rfl⟩)
        go_ret
        exact ⟨congrArg (fun z => Ending.returned (.int .i64 z)) (show _ = oneZ _ _ from by unfold oneZ; dsimp only; rw [if_neg Hb2.out, if_neg (by decide), if_neg (by decide), if_neg (by decide), if_neg (by decide), if_pos rfl, if_neg (fun h => by have := h.1; rw [HA.out] at this; simp at this)]), HoW.out⟩
    by_cases t9 : t = 9
    · subst t9
      cases hA : isZ cs a 7 with
      | true =>
        have HA := Lib.hid hA
        cases hB2 : isZ cs bb 12 with
        | true =>
          have HB := Lib.hid hB2
          go_wp2_with (go_at_call 109; refine (refIs _ cs _ _ _ (by exact Hp1.out)).mono ?_; rintro e w' ⟨rfl, rfl⟩)
          go_ret
          exact ⟨congrArg (fun z => Ending.returned (.int .i64 z)) (show _ = oneZ _ _ from by unfold oneZ; dsimp only; rw [if_neg Hb2.out, if_neg (by decide), if_neg (by decide), if_neg (by decide), if_neg (by decide), if_neg (by decide), if_pos (.inl rfl), if_pos ⟨HA.out, HB.out⟩]), HoW.out⟩
        | false =>
          have HB := Lib.hid hB2
          go_wp2_with (go_at_call 109; refine (refIs _ cs _ _ _ (by exact Hp1.out)).mono ?_; rintro e w' ⟨rfl, rfl⟩)
          go_ret
          exact ⟨congrArg (fun z => Ending.returned (.int .i64 z)) (show _ = oneZ _ _ from by unfold oneZ; dsimp only; rw [if_neg Hb2.out, if_neg (by decide), if_neg (by decide), if_neg (by decide), if_neg (by decide), if_neg (by decide), if_pos (.inl rfl), if_neg (fun h => by have := h.2; rw [HB.out] at this; simp at this)]), HoW.out⟩
      | false =>
        have HA := Lib.hid hA
        go_wp2_with (go_at_call 109; refine (refIs _ cs _ _ _ (by exact Hp1.out)).mono ?_; rintro e w' ⟨rfl, rfl⟩)
        go_ret
        exact ⟨congrArg (fun z => Ending.returned (.int .i64 z)) (show _ = oneZ _ _ from by unfold oneZ; dsimp only; rw [if_neg Hb2.out, if_neg (by decide), if_neg (by decide), if_neg (by decide), if_neg (by decide), if_neg (by decide), if_pos (.inl rfl), if_neg (fun h => by have := h.1; rw [HA.out] at this; simp at this)]), HoW.out⟩
    by_cases t10 : t = 10
    · subst t10
      cases hA : isZ cs a 7 with
      | true =>
        have HA := Lib.hid hA
        cases hB2 : isZ cs bb 12 with
        | true =>
          have HB := Lib.hid hB2
          go_wp2_with (go_at_call 109; refine (refIs _ cs _ _ _ (by exact Hp1.out)).mono ?_; rintro e w' ⟨rfl, rfl⟩)
          go_ret
          exact ⟨congrArg (fun z => Ending.returned (.int .i64 z)) (show _ = oneZ _ _ from by unfold oneZ; dsimp only; rw [if_neg Hb2.out, if_neg (by decide), if_neg (by decide), if_neg (by decide), if_neg (by decide), if_neg (by decide), if_pos (.inr rfl), if_pos ⟨HA.out, HB.out⟩]), HoW.out⟩
        | false =>
          have HB := Lib.hid hB2
          go_wp2_with (go_at_call 109; refine (refIs _ cs _ _ _ (by exact Hp1.out)).mono ?_; rintro e w' ⟨rfl, rfl⟩)
          go_ret
          exact ⟨congrArg (fun z => Ending.returned (.int .i64 z)) (show _ = oneZ _ _ from by unfold oneZ; dsimp only; rw [if_neg Hb2.out, if_neg (by decide), if_neg (by decide), if_neg (by decide), if_neg (by decide), if_neg (by decide), if_pos (.inr rfl), if_neg (fun h => by have := h.2; rw [HB.out] at this; simp at this)]), HoW.out⟩
      | false =>
        have HA := Lib.hid hA
        go_wp2_with (go_at_call 109; refine (refIs _ cs _ _ _ (by exact Hp1.out)).mono ?_; rintro e w' ⟨rfl, rfl⟩)
        go_ret
        exact ⟨congrArg (fun z => Ending.returned (.int .i64 z)) (show _ = oneZ _ _ from by unfold oneZ; dsimp only; rw [if_neg Hb2.out, if_neg (by decide), if_neg (by decide), if_neg (by decide), if_neg (by decide), if_neg (by decide), if_pos (.inr rfl), if_neg (fun h => by have := h.1; rw [HA.out] at this; simp at this)]), HoW.out⟩
    go_wp2
    all_goals first | go_ret | skip
    all_goals first | (exfalso; omega) | skip
    all_goals exact ⟨congrArg (fun z => Ending.returned (.int .i64 z)) (show _ = oneZ _ _ from by unfold oneZ; dsimp only; rw [if_neg Hb2.out, if_neg t1, if_neg t3, if_neg t5, if_neg t7, if_neg t12, if_neg (by omega)]), HoW.out⟩
end Go.Proofs.YtodhdiccfobcfaaGreatDoor
