/- The texts, classes and members of a pool, as the document says. No condition. -/
import Derived.Test.YtadgbkjjeigpjaaDoorPolT
namespace Go.Proofs.YtadgbkjjeigpjaaDoor
open Go.RowKit
set_option linter.unusedVariables false
set_option linter.unusedSimpArgs false

set_option maxHeartbeats 1000000 in
theorem refText (v : Value) (cs : List ConstV) (i : Int) (w : World) (hp : Pool w v cs) :
    Calls Tryd.prog 64 #[v, .int .i64 i] w fun e w' => e = .returned (.tuple #[.string (textZ cs i).1, .bool (textZ cs i).2]) ∧ w = w' := by
  have cI := refIs v cs i 1 w hp
  obtain ⟨ao, cap, rfl, h1, h2, h3, h4, h5⟩ := id hp
  obtain ⟨q, hq⟩ : ∃ q, isZ cs i 1 = q := ⟨_, rfl⟩
  rw [hq] at cI
  cases q with
  | true =>
    obtain ⟨j, rfl, hj1, hj2, _⟩ := isZ_lt hq
    obtain ⟨b, o, rfl, hc⟩ := Pool.at hp hj2
    have g1 := hc.c1
    have hZ : textZ cs (j : Int) = ((cs.getD j default).text, true) := by unfold textZ; rw [if_pos hq]; rfl
    rw [hZ]
    have hjz : (j : Int) < (cs.length : Int) := by omega
    clear h3 h4 h5 hp hq hc hZ
    generalize (cs.getD j default).text = x at *
    go_enter Tryd.func64, Tryd.ntmps64
    go_wp2_with (fail)
    refine cI.mono ?_
    rintro e w1 ⟨rfl, rfl⟩
    clear cI
    go_wp2
    go_ret2
    exact ⟨rfl, rfl⟩
  | false =>
    have hZ : textZ cs i = (noT, false) := by unfold textZ; rw [if_neg (by rw [hq]; simp)]
    rw [hZ]
    clear h3 h4 h5 hp hq hZ
    go_enter Tryd.func64, Tryd.ntmps64
    go_wp2_with (fail)
    refine cI.mono ?_
    rintro e w1 ⟨rfl, rfl⟩
    clear cI
    go_wp2
    go_ret2
    exact ⟨rfl, rfl⟩

set_option maxHeartbeats 1000000 in
theorem refClass (v : Value) (cs : List ConstV) (i : Int) (w : World) (hp : Pool w v cs) :
    Calls Tryd.prog 51 #[v, .int .i64 i] w fun e w' => e = .returned (.tuple #[.string (classZ cs i).1, .bool (classZ cs i).2]) ∧ w = w' := by
  have cI := refIs v cs i 7 w hp
  obtain ⟨ao, cap, rfl, h1, h2, h3, h4, h5⟩ := id hp
  obtain ⟨q, hq⟩ : ∃ q, isZ cs i 7 = q := ⟨_, rfl⟩
  rw [hq] at cI
  cases q with
  | true =>
    obtain ⟨j, rfl, hj1, hj2, _⟩ := isZ_lt hq
    obtain ⟨b, o, rfl, hc⟩ := Pool.at hp hj2
    have g3 := hc.c3
    have hZ : classZ cs (j : Int) = textZ cs (cs.getD j default).a := by unfold classZ; rw [if_pos hq]; rfl
    have cT := refText _ cs (cs.getD j default).a w hp
    rw [hZ]
    have hjz : (j : Int) < (cs.length : Int) := by omega
    clear h3 h4 h5 hp hq hc hZ
    generalize (cs.getD j default).a = x at *
    go_enter Tryd.func51, Tryd.ntmps51
    go_wp2_with (fail)
    refine cI.mono ?_
    rintro e w1 ⟨rfl, rfl⟩
    clear cI
    go_wp2_with (fail)
    refine cT.mono ?_
    rintro e w1 ⟨rfl, rfl⟩
    clear cT
    go_wp2
    go_ret2
    exact ⟨rfl, rfl⟩
  | false =>
    have hZ : classZ cs i = (noT, false) := by unfold classZ; rw [if_neg (by rw [hq]; simp)]
    rw [hZ]
    clear h3 h4 h5 hp hq hZ
    go_enter Tryd.func51, Tryd.ntmps51
    go_wp2_with (fail)
    refine cI.mono ?_
    rintro e w1 ⟨rfl, rfl⟩
    clear cI
    go_wp2
    go_ret2
    exact ⟨rfl, rfl⟩
end Go.Proofs.YtadgbkjjeigpjaaDoor
