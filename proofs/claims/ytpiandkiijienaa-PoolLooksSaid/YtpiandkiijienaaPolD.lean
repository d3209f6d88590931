/- The texts, classes and members of a pool, as the document says. No condition. -/
import Derived.Test.YtpiandkiijienaaPolT
namespace Go.Proofs.Ytpiandkiijienaa
open Go.RowKit
set_option linter.unusedVariables false
set_option linter.unusedSimpArgs false

set_option maxHeartbeats 1000000 in
theorem refText (v : Value) (cs : List ConstV) (i : Int) (w : World) (hp : Pool w v cs) :
    Calls Try.prog 5 #[v, .int .i64 i] w fun e w' => e = .returned (.tuple #[.string (textZ cs i).1, .bool (textZ cs i).2]) ∧ w = w' := by
  have cI := refIs v cs i 1 w hp
  obtain ⟨ao, cap, rfl, h1, h2, h3, h4, h5⟩ := id hp
  obtain ⟨q, hq⟩ : ∃ q, isZ cs i 1 = q := ⟨_, rfl⟩
  rw [hq] at cI
  cases q with
  | true =>
    obtain ⟨j, rfl, hj1, hj2, _⟩ := isZ_lt hq
    obtain ⟨b, o, rfl, hc⟩ := Pool.at hp hj2
    have g1 := hc.c1
    have hZ : textZ cs (j : Int) = ((cs.getD j default).text, true) := by unfold textZ; rw [if_pos hq]; rfl
    rw [hZ]
    have hjz : (j : Int) < (cs.length : Int) := by omega
    clear h3 h4 h5 hp hq hc hZ
    generalize (cs.getD j default).text = x at *
    go_enter Try.func5, Try.ntmps5
    go_wp2_with (fail)
    refine cI.mono ?_
    rintro e w1 ⟨rfl, rfl⟩
    clear cI
    go_wp2
    go_ret2
    exact ⟨rfl, rfl⟩
  | false =>
    have hZ : textZ cs i = (noT, false) := by unfold textZ; rw [if_neg (by rw [hq]; simp)]
    rw [hZ]
    clear h3 h4 h5 hp hq hZ
    go_enter Try.func5, Try.ntmps5
    go_wp2_with (fail)
    refine cI.mono ?_
    rintro e w1 ⟨rfl, rfl⟩
    clear cI
    go_wp2
    go_ret2
    exact ⟨rfl, rfl⟩

set_option maxHeartbeats 1000000 in
theorem refClass (v : Value) (cs : List ConstV) (i : Int) (w : World) (hp : Pool w v cs) :
    Calls Try.prog 7 #[v, .int .i64 i] w fun e w' => e = .returned (.tuple #[.string (classZ cs i).1, .bool (classZ cs i).2]) ∧ w = w' := by
  have cI := refIs v cs i 7 w hp
  obtain ⟨ao, cap, rfl, h1, h2, h3, h4, h5⟩ := id hp
  obtain ⟨q, hq⟩ : ∃ q, isZ cs i 7 = q := ⟨_, rfl⟩
  rw [hq] at cI
  cases q with
  | true =>
    obtain ⟨j, rfl, hj1, hj2, _⟩ := isZ_lt hq
    obtain ⟨b, o, rfl, hc⟩ := Pool.at hp hj2
    have g3 := hc.c3
    have hZ : classZ cs (j : Int) = textZ cs (cs.getD j default).a := by unfold classZ; rw [if_pos hq]; rfl
    have cT := refText _ cs (cs.getD j default).a w hp
    rw [hZ]
    have hjz : (j : Int) < (cs.length : Int) := by omega
    clear h3 h4 h5 hp hq hc hZ
    generalize (cs.getD j default).a = x at *
    go_enter Try.func7, Try.ntmps7
    go_wp2_with (fail)
    refine cI.mono ?_
    rintro e w1 ⟨rfl, rfl⟩
    clear cI
    go_wp2_with (fail)
    refine cT.mono ?_
    rintro e w1 ⟨rfl, rfl⟩
    clear cT
    go_wp2
    go_ret2
    exact ⟨rfl, rfl⟩
  | false =>
    have hZ : classZ cs i = (noT, false) := by unfold classZ; rw [if_neg (by rw [hq]; simp)]
    rw [hZ]
    clear h3 h4 h5 hp hq hZ
    go_enter Try.func7, Try.ntmps7
    go_wp2_with (fail)
    refine cI.mono ?_
    rintro e w1 ⟨rfl, rfl⟩
    clear cI
    go_wp2
    go_ret2
    exact ⟨rfl, rfl⟩
set_option maxHeartbeats 4000000 in
theorem refRef (v : Value) (cs : List ConstV) (i : Int) (w : World) (hp : Pool w v cs) :
    Calls Try.prog 9 #[v, .int .i64 i] w fun e w' => e = .returned (.tuple #[.string (refZ cs i).1, .string (refZ cs i).2.1, .string (refZ cs i).2.2.1, .bool (refZ cs i).2.2.2]) ∧ w = w' := by
  obtain ⟨ao, cap, rfl, h1, h2, h3, h4, h5⟩ := id hp
  have Hp := Lib.hid hp
  clear h3 h4 h5 hp
  cases q9 : isZ cs i 9 with
  | false =>
    cases q10 : isZ cs i 10 with
    | false =>
      have HZ := Lib.hid (show refZ cs i = (noT, noT, noT, false) from by unfold refZ; rw [if_pos ⟨q9, q10⟩])
      go_enter Try.func9, Try.ntmps9
      go_wp2_with (first | (go_at_call 12; refine (refIs _ cs _ _ _ (by exact Hp.out)).mono ?_; rintro e w' ⟨rfl, rfl⟩) | (go_at_call 7; refine (refClass _ cs _ _ (by exact Hp.out)).mono ?_; rintro e w' ⟨rfl, rfl⟩) | (go_at_call 5; refine (refText _ cs _ _ (by exact Hp.out)).mono ?_; rintro e w' ⟨rfl, rfl⟩))
      all_goals try ((try simp only [Exit.inBlock, Exit.then]); refine bodyPost_ret (results4 rfl _ _) rfl ?_)
      all_goals first | exact ⟨by rw [HZ.out]; rfl, rfl⟩ | (exfalso; simp_all; done)
    | true =>
      obtain ⟨j, rfl, hj1, hj2, _⟩ := isZ_lt q10
      obtain ⟨b, o, rfl, hc⟩ := Pool.at Hp.out hj2
      have g3 := hc.c3
      have g4 := hc.c4
      have hn : ¬ (isZ cs (j : Int) 9 = false ∧ isZ cs (j : Int) 10 = false) := by intro h; rw [q10] at h; simp at h
      have hjz : (j : Int) < (cs.length : Int) := by omega
      have hun : refZ cs (j : Int) = if (classZ cs (cs.getD j default).a).2 = false ∨ isZ cs (cs.getD j default).b 12 = false then (noT, noT, noT, false)
          else if (textZ cs (cs.getD (cs.getD j default).b.toNat default).a).2 = false ∨ (textZ cs (cs.getD (cs.getD j default).b.toNat default).b).2 = false then (noT, noT, noT, false)
          else ((classZ cs (cs.getD j default).a).1, (textZ cs (cs.getD (cs.getD j default).b.toNat default).a).1, (textZ cs (cs.getD (cs.getD j default).b.toNat default).b).1, true) := by unfold refZ; rw [if_neg hn]; rfl
      have Hun := Lib.hid hun
      clear hn hc hun
      generalize (cs.getD j default).a = aa at *
      generalize (cs.getD j default).b = n at *
      cases qc : (classZ cs aa).2 with
      | false =>
        have HZ := Lib.hid (show refZ cs (j : Int) = (noT, noT, noT, false) from by rw [Hun.out, if_pos (.inl qc)])
        go_enter Try.func9, Try.ntmps9
        go_wp2_with (first | (go_at_call 12; refine (refIs _ cs _ _ _ (by exact Hp.out)).mono ?_; rintro e w' ⟨rfl, rfl⟩) | (go_at_call 7; refine (refClass _ cs _ _ (by exact Hp.out)).mono ?_; rintro e w' ⟨rfl, rfl⟩) | (go_at_call 5; refine (refText _ cs _ _ (by exact Hp.out)).mono ?_; rintro e w' ⟨rfl, rfl⟩))
        all_goals try ((try simp only [Exit.inBlock, Exit.then]); refine bodyPost_ret (results4 rfl _ _) rfl ?_)
        all_goals first | exact ⟨by rw [HZ.out]; rfl, rfl⟩ | (exfalso; simp_all; done)
      | true =>
        cases q12 : isZ cs n 12 with
        | false =>
          have HZ := Lib.hid (show refZ cs (j : Int) = (noT, noT, noT, false) from by rw [Hun.out, if_pos (.inr q12)])
          go_enter Try.func9, Try.ntmps9
          go_wp2_with (first | (go_at_call 12; refine (refIs _ cs _ _ _ (by exact Hp.out)).mono ?_; rintro e w' ⟨rfl, rfl⟩) | (go_at_call 7; refine (refClass _ cs _ _ (by exact Hp.out)).mono ?_; rintro e w' ⟨rfl, rfl⟩) | (go_at_call 5; refine (refText _ cs _ _ (by exact Hp.out)).mono ?_; rintro e w' ⟨rfl, rfl⟩))
          all_goals try ((try simp only [Exit.inBlock, Exit.then]); refine bodyPost_ret (results4 rfl _ _) rfl ?_)
          all_goals first | exact ⟨by rw [HZ.out]; rfl, rfl⟩ | (exfalso; simp_all; done)
        | true =>
          obtain ⟨m, rfl, hm1, hm2, _⟩ := isZ_lt q12
          obtain ⟨b2, o2, e2, hc2⟩ := Pool.at Hp.out hm2
          injection e2 with e2
          injection e2 with e2 e3
          subst e2 e3
          have k3 := hc2.c3
          have k4 := hc2.c4
          have hmz : (m : Int) < (cs.length : Int) := by omega
          have hun2 := Hun.out
          rw [if_neg (by rw [qc, q12]; simp), Int.toNat_natCast] at hun2
          have Hun2 := Lib.hid hun2
          clear hc2 hun2
          generalize (cs.getD m default).a = ta at *
          generalize (cs.getD m default).b = tb at *
          cases qa : (textZ cs ta).2 with
          | false =>
            have HZ := Lib.hid (show refZ cs (j : Int) = (noT, noT, noT, false) from by rw [Hun2.out, if_pos (.inl qa)])
            go_enter Try.func9, Try.ntmps9
            go_wp2_with (first | (go_at_call 12; refine (refIs _ cs _ _ _ (by exact Hp.out)).mono ?_; rintro e w' ⟨rfl, rfl⟩) | (go_at_call 7; refine (refClass _ cs _ _ (by exact Hp.out)).mono ?_; rintro e w' ⟨rfl, rfl⟩) | (go_at_call 5; refine (refText _ cs _ _ (by exact Hp.out)).mono ?_; rintro e w' ⟨rfl, rfl⟩))
            all_goals try ((try simp only [Exit.inBlock, Exit.then]); refine bodyPost_ret (results4 rfl _ _) rfl ?_)
            all_goals first | exact ⟨by rw [HZ.out]; rfl, rfl⟩ | (exfalso; simp_all; done)
          | true =>
            cases qb : (textZ cs tb).2 with
            | false =>
              have HZ := Lib.hid (show refZ cs (j : Int) = (noT, noT, noT, false) from by rw [Hun2.out, if_pos (.inr qb)])
              go_enter Try.func9, Try.ntmps9
              go_wp2_with (first | (go_at_call 12; refine (refIs _ cs _ _ _ (by exact Hp.out)).mono ?_; rintro e w' ⟨rfl, rfl⟩) | (go_at_call 7; refine (refClass _ cs _ _ (by exact Hp.out)).mono ?_; rintro e w' ⟨rfl, rfl⟩) | (go_at_call 5; refine (refText _ cs _ _ (by exact Hp.out)).mono ?_; rintro e w' ⟨rfl, rfl⟩))
              all_goals try ((try simp only [Exit.inBlock, Exit.then]); refine bodyPost_ret (results4 rfl _ _) rfl ?_)
              all_goals first | exact ⟨by rw [HZ.out]; rfl, rfl⟩ | (exfalso; simp_all; done)
            | true =>
              have HZ := Lib.hid (show refZ cs (j : Int) = ((classZ cs aa).1, (textZ cs ta).1, (textZ cs tb).1, true) from by rw [Hun2.out, if_neg (by rw [qa, qb]; simp)])
              go_enter Try.func9, Try.ntmps9
              go_wp2_with (first | (go_at_call 12; refine (refIs _ cs _ _ _ (by exact Hp.out)).mono ?_; rintro e w' ⟨rfl, rfl⟩) | (go_at_call 7; refine (refClass _ cs _ _ (by exact Hp.out)).mono ?_; rintro e w' ⟨rfl, rfl⟩) | (go_at_call 5; refine (refText _ cs _ _ (by exact Hp.out)).mono ?_; rintro e w' ⟨rfl, rfl⟩))
              all_goals try ((try simp only [Exit.inBlock, Exit.then]); refine bodyPost_ret (results4 rfl _ _) rfl ?_)
              all_goals first | exact ⟨by rw [HZ.out]; rfl, rfl⟩ | (exfalso; simp_all; done)
  | true =>
    obtain ⟨j, rfl, hj1, hj2, _⟩ := isZ_lt q9
    obtain ⟨b, o, rfl, hc⟩ := Pool.at Hp.out hj2
    have g3 := hc.c3
    have g4 := hc.c4
    have hn : ¬ (isZ cs (j : Int) 9 = false ∧ isZ cs (j : Int) 10 = false) := by intro h; rw [q9] at h; simp at h
    have hjz : (j : Int) < (cs.length : Int) := by omega
    have hun : refZ cs (j : Int) = if (classZ cs (cs.getD j default).a).2 = false ∨ isZ cs (cs.getD j default).b 12 = false then (noT, noT, noT, false)
        else if (textZ cs (cs.getD (cs.getD j default).b.toNat default).a).2 = false ∨ (textZ cs (cs.getD (cs.getD j default).b.toNat default).b).2 = false then (noT, noT, noT, false)
        else ((classZ cs (cs.getD j default).a).1, (textZ cs (cs.getD (cs.getD j default).b.toNat default).a).1, (textZ cs (cs.getD (cs.getD j default).b.toNat default).b).1, true) := by unfold refZ; rw [if_neg hn]; rfl
    have Hun := Lib.hid hun
    clear hn hc hun
    generalize (cs.getD j default).a = aa at *
    generalize (cs.getD j default).b = n at *
    cases qc : (classZ cs aa).2 with
    | false =>
      have HZ := Lib.hid (show refZ cs (j : Int) = (noT, noT, noT, false) from by rw [Hun.out, if_pos (.inl qc)])
      go_enter Try.func9, Try.ntmps9
      go_wp2_with (first | (go_at_call 12; refine (refIs _ cs _ _ _ (by exact Hp.out)).mono ?_; rintro e w' ⟨rfl, rfl⟩) | (go_at_call 7; refine (refClass _ cs _ _ (by exact Hp.out)).mono ?_; rintro e w' ⟨rfl, rfl⟩) | (go_at_call 5; refine (refText _ cs _ _ (by exact Hp.out)).mono ?_; rintro e w' ⟨rfl, rfl⟩))
      all_goals try ((try simp only [Exit.inBlock, Exit.then]); refine bodyPost_ret (results4 rfl _ _) rfl ?_)
      all_goals first | exact ⟨by rw [HZ.out]; rfl, rfl⟩ | (exfalso; simp_all; done)
    | true =>
      cases q12 : isZ cs n 12 with
      | false =>
        have HZ := Lib.hid (show refZ cs (j : Int) = (noT, noT, noT, false) from by rw [Hun.out, if_pos (.inr q12)])
        go_enter Try.func9, Try.ntmps9
        go_wp2_with (first | (go_at_call 12; refine (refIs _ cs _ _ _ (by exact Hp.out)).mono ?_; rintro e w' ⟨rfl, rfl⟩) | (go_at_call 7; refine (refClass _ cs _ _ (by exact Hp.out)).mono ?_; rintro e w' ⟨rfl, rfl⟩) | (go_at_call 5; refine (refText _ cs _ _ (by exact Hp.out)).mono ?_; rintro e w' ⟨rfl, rfl⟩))
        all_goals try ((try simp only [Exit.inBlock, Exit.then]); refine bodyPost_ret (results4 rfl _ _) rfl ?_)
        all_goals first | exact ⟨by rw [HZ.out]; rfl, rfl⟩ | (exfalso; simp_all; done)
      | true =>
        obtain ⟨m, rfl, hm1, hm2, _⟩ := isZ_lt q12
        obtain ⟨b2, o2, e2, hc2⟩ := Pool.at Hp.out hm2
        injection e2 with e2
        injection e2 with e2 e3
        subst e2 e3
        have k3 := hc2.c3
        have k4 := hc2.c4
        have hmz : (m : Int) < (cs.length : Int) := by omega
        have hun2 := Hun.out
        rw [if_neg (by rw [qc, q12]; simp), Int.toNat_natCast] at hun2
        have Hun2 := Lib.hid hun2
        clear hc2 hun2
        generalize (cs.getD m default).a = ta at *
        generalize (cs.getD m default).b = tb at *
        cases qa : (textZ cs ta).2 with
        | false =>
          have HZ := Lib.hid (show refZ cs (j : Int) = (noT, noT, noT, false) from by rw [Hun2.out, if_pos (.inl qa)])
          go_enter Try.func9, Try.ntmps9
          go_wp2_with (first | (go_at_call 12; refine (refIs _ cs _ _ _ (by exact Hp.out)).mono ?_; rintro e w' ⟨rfl, rfl⟩) | (go_at_call 7; refine (refClass _ cs _ _ (by exact Hp.out)).mono ?_; rintro e w' ⟨rfl, rfl⟩) | (go_at_call 5; refine (refText _ cs _ _ (by exact Hp.out)).mono ?_; rintro e w' ⟨rfl, rfl⟩))
          all_goals try ((try simp only [Exit.inBlock, Exit.then]); refine bodyPost_ret (results4 rfl _ _) rfl ?_)
          all_goals first | exact ⟨by rw [HZ.out]; rfl, rfl⟩ | (exfalso; simp_all; done)
        | true =>
          cases qb : (textZ cs tb).2 with
          | false =>
            have HZ := Lib.hid (show refZ cs (j : Int) = (noT, noT, noT, false) from by rw [Hun2.out, if_pos (.inr qb)])
            go_enter Try.func9, Try.ntmps9
            go_wp2_with (first | (go_at_call 12; refine (refIs _ cs _ _ _ (by exact Hp.out)).mono ?_; rintro e w' ⟨rfl, rfl⟩) | (go_at_call 7; refine (refClass _ cs _ _ (by exact Hp.out)).mono ?_; rintro e w' ⟨rfl, rfl⟩) | (go_at_call 5; refine (refText _ cs _ _ (by exact Hp.out)).mono ?_; rintro e w' ⟨rfl, rfl⟩))
            all_goals try ((try simp only [Exit.inBlock, Exit.then]); refine bodyPost_ret (results4 rfl _ _) rfl ?_)
            all_goals first | exact ⟨by rw [HZ.out]; rfl, rfl⟩ | (exfalso; simp_all; done)
          | true =>
            have HZ := Lib.hid (show refZ cs (j : Int) = ((classZ cs aa).1, (textZ cs ta).1, (textZ cs tb).1, true) from by rw [Hun2.out, if_neg (by rw [qa, qb]; simp)])
            go_enter Try.func9, Try.ntmps9
            go_wp2_with (first | (go_at_call 12; refine (refIs _ cs _ _ _ (by exact Hp.out)).mono ?_; rintro e w' ⟨rfl, rfl⟩) | (go_at_call 7; refine (refClass _ cs _ _ (by exact Hp.out)).mono ?_; rintro e w' ⟨rfl, rfl⟩) | (go_at_call 5; refine (refText _ cs _ _ (by exact Hp.out)).mono ?_; rintro e w' ⟨rfl, rfl⟩))
            all_goals try ((try simp only [Exit.inBlock, Exit.then]); refine bodyPost_ret (results4 rfl _ _) rfl ?_)
            all_goals first | exact ⟨by rw [HZ.out]; rfl, rfl⟩ | (exfalso; simp_all; done)
end Go.Proofs.Ytpiandkiijienaa
