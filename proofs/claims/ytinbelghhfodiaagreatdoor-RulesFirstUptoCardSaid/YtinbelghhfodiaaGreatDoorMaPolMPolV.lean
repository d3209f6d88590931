import Derived.Test.YtinbelghhfodiaaGreatDoorMaSepPolT
namespace Go.Proofs.YtinbelghhfodiaaGreatDoor
set_option maxHeartbeats 1000000
open Lib (hid)
open Go.RowKit
set_option linter.unusedVariables false
set_option linter.unusedSimpArgs false
def atC (cs : List ConstV) (i : Int) : ConstV := if 1 ≤ i ∧ i < cs.length then cs.getD i.toNat default else ⟨0, noT, 0, 0, 0⟩
theorem atC_tag (cs : List ConstV) (i : Int) {tag : Int} (h0 : tag ≠ 0) : isZ cs i tag = decide ((atC cs i).tag = tag) := by
 unfold isZ atC
 by_cases h : 1 ≤ i ∧ i < cs.length
 ·rw [if_pos h, decide_eq_true h.1, decide_eq_true h.2]; rfl
 ·rw [if_neg h]
  by_cases h1 : 1 ≤ i
  ·rw [decide_eq_false (fun hh => h ⟨h1, hh⟩)]; simp; omega
  ·rw [decide_eq_false h1]; simp; omega
theorem atC_range (w : World) (v : Value) (cs : List ConstV) (i : Int) (hp : Pool w v cs) : ConstR (atC cs i) := by
 unfold atC
 by_cases h : 1 ≤ i ∧ i < cs.length
 ·rw [if_pos h]; exact hp.range (by omega)
 ·rw [if_neg h]; exact ⟨by unfold I64; simp, by unfold I64; simp, by unfold I64; simp, by unfold I64; simp, by decide⟩
theorem textZ_at (cs : List ConstV) (i : Int) : textZ cs i = if (atC cs i).tag = 1 then ((atC cs i).text, true) else (noT, false) := by
 unfold textZ
 rw [atC_tag cs i (by decide)]
 by_cases h : (atC cs i).tag = 1
 ·rw [if_pos h, if_pos (by simpa using h)]
  have hc : 1 ≤ i ∧ i < cs.length := Classical.byContradiction fun hc => by unfold atC at h; rw [if_neg hc] at h; simp at h
  unfold atC
  rw [if_pos hc]
 ·rw [if_neg h, if_neg (by simpa using h)]
theorem classZ_at (cs : List ConstV) (i : Int) : classZ cs i = if (atC cs i).tag = 7 then textZ cs (atC cs i).a else (noT, false) := by
 unfold classZ
 rw [atC_tag cs i (by decide)]
 by_cases h : (atC cs i).tag = 7
 ·rw [if_pos h, if_pos (by simpa using h)]
  have hc : 1 ≤ i ∧ i < cs.length := Classical.byContradiction fun hc => by unfold atC at h; rw [if_neg hc] at h; simp at h
  unfold atC
  rw [if_pos hc]
 ·rw [if_neg h, if_neg (by simpa using h)]
theorem progAt (v : Value) (cs : List ConstV) (i : Int) (w : World) (hp : Pool w v cs) :
  Calls Tryz.prog 88 #[v, .int .i64 i] w fun e w' => e = .returned (.agg #[.int .i64 (atC cs i).tag, .string (atC cs i).text, .int .i64 (atC cs i).n, .int .i64 (atC cs i).a, .int .i64 (atC cs i).b]) ∧ Only (fun _ => False) w w' := by
 obtain ⟨ao, cap, rfl, h1, h2, h3, h4, h5⟩ := id hp
 by_cases hi : 1 ≤ i ∧ i < cs.length
 ·have hA : atC cs i = cs.getD i.toNat default := by unfold atC; rw [if_pos hi]
  obtain ⟨hi1, hi2⟩ := hi
  obtain ⟨j, rfl⟩ := Int.eq_ofNat_of_zero_le (show 0 ≤ i by omega)
  rw [Int.toNat_natCast] at hA
  obtain ⟨b, o, rfl, hc⟩ := Pool.at hp (i := j) (by omega)
  have hc' := hc.only ((Only.refl (fun _ => False) w).alloc (.cells #[.int .i64 0, .string ⟨#[]⟩, .int .i64 0, .int .i64 0, .int .i64 0] 113)) (fun h => h)
  obtain ⟨g0, g1, g2, g3, g4⟩ := hc'
  have hge : ¬ ((cs.length : Int) ≤ (j : Int)) := by omega
  rw [hA]
  clear h3 h4 h5 hp hA hc
  generalize cs.getD j default = c at *
  obtain ⟨t, x, n, a, bb⟩ := c
  simp only at *
  go_enter Tryz.func88, Tryz.ntmps88
  go_wp2
  refine bodyPost_ret (v := .agg #[.int .i64 t, .string x, .int .i64 n, .int .i64 a, .int .i64 bb]) (by simp [results, Tryz.results88, go_sem, g0, g1, g2, g3, g4]) rfl ?_
  refine ⟨rfl, ?_⟩
  repeat (refine Only.setCell ?_ (fun hl => absurd hl (by simp)) _)
  exact (Only.refl _ _).alloc _
 ·have hA : atC cs i = ⟨0, noT, 0, 0, 0⟩ := by unfold atC; rw [if_neg hi]
  rw [hA]
  clear h3 h4 h5 hp hA
  by_cases hi1 : i < 1
  ·go_enter Tryz.func88, Tryz.ntmps88
   go_wp2
   refine bodyPost_ret (v := .agg #[.int .i64 0, .string noT, .int .i64 0, .int .i64 0, .int .i64 0]) (by simp [results, Tryz.results88, go_sem, noT]) rfl ?_
   refine ⟨rfl, ?_⟩
   repeat (refine Only.setCell ?_ (fun hl => absurd hl (by simp)) _)
   exact (Only.refl _ _).alloc _
  ·have hge : (cs.length : Int) ≤ i := by omega
   go_enter Tryz.func88, Tryz.ntmps88
   go_wp2
   refine bodyPost_ret (v := .agg #[.int .i64 0, .string noT, .int .i64 0, .int .i64 0, .int .i64 0]) (by simp [results, Tryz.results88, go_sem, noT]) rfl ?_
   refine ⟨rfl, ?_⟩
   repeat (refine Only.setCell ?_ (fun hl => absurd hl (by simp)) _)
   exact (Only.refl _ _).alloc _
theorem progText (v : Value) (cs : List ConstV) (i : Int) (w : World) (hp : Pool w v cs) :
  Calls Tryz.prog 89 #[v, .int .i64 i] w fun e w' => e = .returned (.tuple #[.string (textZ cs i).1, .bool (textZ cs i).2]) ∧ Only (fun _ => False) w w' := by
 obtain ⟨ao, cap, rfl, _, _, _, _, _⟩ := id hp
 have hZ := textZ_at cs i
 have cA := progAt _ cs i w hp
 have hr := atC_range w _ cs i hp
 rw [hZ]
 clear hp hZ
 generalize atC cs i = c at *
 obtain ⟨t, x, n, a, bb⟩ := c
 obtain ⟨r0, _, _, _, _⟩ := hr
 simp only at *
 unfold I64 at r0
 by_cases h1 : t = 1
 ·subst h1
  rw [if_pos rfl]
  go_enter Tryz.func89, Tryz.ntmps89
  go_wp2_with (fail)
  refine cA.mono ?_
  rintro e w1 ⟨rfl, ho⟩
  have HO := hid ho
  clear ho cA
  go_wp2
  go_ret2
  refine ⟨rfl, ?_⟩
  repeat (refine Only.setCell ?_ (fun hl => absurd hl (by simp)) _)
  exact (HO.out).alloc _
 ·rw [if_neg h1]
  have hb : (t == 1) = false := by simpa using h1
  go_enter Tryz.func89, Tryz.ntmps89
  go_wp2_with (fail)
  refine cA.mono ?_
  rintro e w1 ⟨rfl, ho⟩
  have HO := hid ho
  clear ho cA
  go_wp2
  go_ret2
  refine ⟨rfl, ?_⟩
  repeat (refine Only.setCell ?_ (fun hl => absurd hl (by simp)) _)
  exact (HO.out).alloc _
theorem progClass (v : Value) (cs : List ConstV) (i : Int) (w : World) (hp : Pool w v cs) :
  Calls Tryz.prog 53 #[v, .int .i64 i] w fun e w' => e = .returned (.tuple #[.string (classZ cs i).1, .bool (classZ cs i).2]) ∧ Only (fun _ => False) w w' := by
 obtain ⟨ao, cap, rfl, _, _, _, _, _⟩ := id hp
 have hZ := classZ_at cs i
 have cA := progAt _ cs i w hp
 have hr := atC_range w _ cs i hp
 rw [hZ]
 have Hp := hid hp
 clear hp hZ
 generalize atC cs i = c at *
 obtain ⟨t, x, n, a, bb⟩ := c
 obtain ⟨r0, _, _, r3, _⟩ := hr
 simp only at *
 unfold I64 at r0 r3
 by_cases h1 : t = 7
 ·subst h1
  rw [if_pos rfl]
  go_enter Tryz.func53, Tryz.ntmps53
  go_wp2_with (fail)
  refine cA.mono ?_
  rintro e w1 ⟨rfl, ho⟩
  have hp1 := (Hp.out).only (((ho.alloc (.cells #[.int .i64 7, .string x, .int .i64 n, .int .i64 a, .int .i64 bb] 113)))) (fun _ _ h => h)
  have HP1 := hid hp1
  have HO := hid ho
  clear ho cA hp1
  go_wp2_with (fail)
  refine (progText _ cs a _ (by exact HP1.out)).mono ?_
  rintro e w2 ⟨rfl, ho2⟩
  have HO2 := hid ho2
  clear ho2
  go_wp2
  go_ret2
  exact ⟨rfl, ((HO.out).alloc _).trans HO2.out (fun _ h => h.elim)⟩
 ·rw [if_neg h1]
  have hb : (t == 7) = false := by simpa using h1
  go_enter Tryz.func53, Tryz.ntmps53
  go_wp2_with (fail)
  refine cA.mono ?_
  rintro e w1 ⟨rfl, ho⟩
  have HO := hid ho
  clear ho cA
  go_wp2
  go_ret2
  refine ⟨rfl, ?_⟩
  repeat (refine Only.setCell ?_ (fun hl => absurd hl (by simp)) _)
  exact (HO.out).alloc _
structure ShapeV where
 txt : Bool
 size : Int
 la : Int
 lb : Int
def shapeZ (t : Int) : ShapeV × Bool :=
 if t = 1 then (⟨true, 0, 0, 0⟩, true) else if t = 5 then (⟨false, 8, 0, 0⟩, true) else if t = 3 then (⟨false, 4, 0, 0⟩, true)
 else if t = 12 then (⟨false, 0, 1, 1⟩, true) else if t = 7 then (⟨false, 0, 1, 0⟩, true) else if t = 9 ∨ t = 10 then (⟨false, 0, 7, 12⟩, true) else (⟨false, 0, 0, 0⟩, false)
theorem progShape (t : Int) (w : World) :
  Calls Tryz.prog 173 #[.int .i64 t] w fun e w' => e = .returned (.tuple #[.agg #[.bool (shapeZ t).1.txt, .int .i64 (shapeZ t).1.size, .int .i64 (shapeZ t).1.la, .int .i64 (shapeZ t).1.lb], .bool (shapeZ t).2]) ∧ Only (fun _ => False) w w' := by
 by_cases h1 : t = 1
 ·subst h1
  go_enter Tryz.func173, Tryz.ntmps173
  go_wp2
  refine bodyPost_ret (v := .tuple #[.agg #[.bool true, .int .i64 0, .int .i64 0, .int .i64 0], .bool true]) (by simp [results, Tryz.results173, go_sem]) rfl ?_
  refine ⟨rfl, ?_⟩
  repeat (refine Only.setCell ?_ (fun hl => absurd hl (by simp)) _)
  exact ((Only.refl _ _).alloc _).alloc _
 by_cases h5 : t = 5
 ·subst h5
  go_enter Tryz.func173, Tryz.ntmps173
  go_wp2
  refine bodyPost_ret (v := .tuple #[.agg #[.bool false, .int .i64 8, .int .i64 0, .int .i64 0], .bool true]) (by simp [results, Tryz.results173, go_sem]) rfl ?_
  refine ⟨rfl, ?_⟩
  repeat (refine Only.setCell ?_ (fun hl => absurd hl (by simp)) _)
  exact ((Only.refl _ _).alloc _).alloc _
 by_cases h3 : t = 3
 ·subst h3
  go_enter Tryz.func173, Tryz.ntmps173
  go_wp2
  refine bodyPost_ret (v := .tuple #[.agg #[.bool false, .int .i64 4, .int .i64 0, .int .i64 0], .bool true]) (by simp [results, Tryz.results173, go_sem]) rfl ?_
  refine ⟨rfl, ?_⟩
  repeat (refine Only.setCell ?_ (fun hl => absurd hl (by simp)) _)
  exact ((Only.refl _ _).alloc _).alloc _
 by_cases h12 : t = 12
 ·subst h12
  go_enter Tryz.func173, Tryz.ntmps173
  go_wp2
  refine bodyPost_ret (v := .tuple #[.agg #[.bool false, .int .i64 0, .int .i64 1, .int .i64 1], .bool true]) (by simp [results, Tryz.results173, go_sem]) rfl ?_
  refine ⟨rfl, ?_⟩
  repeat (refine Only.setCell ?_ (fun hl => absurd hl (by simp)) _)
  exact ((Only.refl _ _).alloc _).alloc _
 by_cases h7 : t = 7
 ·subst h7
  go_enter Tryz.func173, Tryz.ntmps173
  go_wp2
  refine bodyPost_ret (v := .tuple #[.agg #[.bool false, .int .i64 0, .int .i64 1, .int .i64 0], .bool true]) (by simp [results, Tryz.results173, go_sem]) rfl ?_
  refine ⟨rfl, ?_⟩
  repeat (refine Only.setCell ?_ (fun hl => absurd hl (by simp)) _)
  exact ((Only.refl _ _).alloc _).alloc _
 by_cases h9 : t = 9
 ·subst h9
  go_enter Tryz.func173, Tryz.ntmps173
  go_wp2
  refine bodyPost_ret (v := .tuple #[.agg #[.bool false, .int .i64 0, .int .i64 7, .int .i64 12], .bool true]) (by simp [results, Tryz.results173, go_sem]) rfl ?_
  refine ⟨rfl, ?_⟩
  repeat (refine Only.setCell ?_ (fun hl => absurd hl (by simp)) _)
  exact ((Only.refl _ _).alloc _).alloc _
 by_cases h10 : t = 10
 ·subst h10
  go_enter Tryz.func173, Tryz.ntmps173
  go_wp2
  refine bodyPost_ret (v := .tuple #[.agg #[.bool false, .int .i64 0, .int .i64 7, .int .i64 12], .bool true]) (by simp [results, Tryz.results173, go_sem]) rfl ?_
  refine ⟨rfl, ?_⟩
  repeat (refine Only.setCell ?_ (fun hl => absurd hl (by simp)) _)
  exact ((Only.refl _ _).alloc _).alloc _
 have hz : shapeZ t = (⟨false, 0, 0, 0⟩, false) := by
  unfold shapeZ
  rw [if_neg h1, if_neg h5, if_neg h3, if_neg h12, if_neg h7, if_neg (by omega)]
 rw [hz]
 have b1 : (t == 1) = false := by simpa using h1
 have b3 : (t == 3) = false := by simpa using h3
 have b5 : (t == 5) = false := by simpa using h5
 have b7 : (t == 7) = false := by simpa using h7
 have b9 : (t == 9) = false := by simpa using h9
 have b10 : (t == 10) = false := by simpa using h10
 have b12 : (t == 12) = false := by simpa using h12
 clear h1 h3 h5 h7 h9 h10 h12 hz
 go_enter Tryz.func173, Tryz.ntmps173
 go_wp2
 refine bodyPost_ret (v := .tuple #[.agg #[.bool false, .int .i64 0, .int .i64 0, .int .i64 0], .bool false]) (by simp [results, Tryz.results173, go_sem]) rfl ?_
 refine ⟨rfl, ?_⟩
 repeat (refine Only.setCell ?_ (fun hl => absurd hl (by simp)) _)
 exact ((Only.refl _ _).alloc _).alloc _
def holdsZ (sh : ShapeV) (c : ConstV) : Bool := (sh.txt || decide (c.text = ⟨#[]⟩)) && (if sh.size = 0 then decide (c.n = 0) else if sh.size = 4 then decide (-2147483648 ≤ c.n ∧ c.n ≤ 2147483647) else true)
theorem progHolds0 (txt : Bool) (la lb : Int) (c : ConstV) (w : World) (hr : ConstR c) :
  Calls Tryz.prog 174 #[.agg #[.bool txt, .int .i64 0, .int .i64 la, .int .i64 lb], .agg #[.int .i64 c.tag, .string c.text, .int .i64 c.n, .int .i64 c.a, .int .i64 c.b]] w fun e w' => e = .returned (.bool (holdsZ ⟨txt, 0, la, lb⟩ c)) ∧ Only (fun _ => False) w w' := by
 obtain ⟨t, x, n, a, bb⟩ := c
 obtain ⟨_, r2, _, _, _⟩ := hr
 unfold I64 at r2
 simp only at r2
 cases txt with
 | true =>
  go_enter Tryz.func174, Tryz.ntmps174
  go_wp2
  go_quiet (fail)
  go_wp2
  go_ret
  refine ⟨congrArg (fun z => Ending.returned (.bool z)) ?_, (((Only.refl _ _).alloc _).alloc _).drewN _⟩
  simp only [holdsZ, Bool.true_or, Bool.false_or, Bool.true_and, decide_true, if_true]
  show (wrap64 (n * 18446744073709551616) / 18446744073709551616 == n) = _
  rw [Bool.eq_iff_iff]
  simp only [beq_iff_eq, decide_eq_true_eq]
  unfold wrap64
  omega
 | false =>
  by_cases hx : x = ⟨#[]⟩
  ·subst hx
   go_enter Tryz.func174, Tryz.ntmps174
   go_wp2
   go_quiet (fail)
   go_wp2
   go_ret
   refine ⟨congrArg (fun z => Ending.returned (.bool z)) ?_, (((Only.refl _ _).alloc _).alloc _).drewN _⟩
   simp only [holdsZ, Bool.true_or, Bool.false_or, Bool.true_and, decide_true, if_true]
   show (wrap64 (n * 18446744073709551616) / 18446744073709551616 == n) = _
   rw [Bool.eq_iff_iff]
   simp only [beq_iff_eq, decide_eq_true_eq]
   unfold wrap64
   omega
  ·have hx1 : x.toList.isEmpty = false := by
    rw [Bool.eq_false_iff]
    intro h
    exact hx (by rw [empty_text]; simpa using h)
   go_enter Tryz.func174, Tryz.ntmps174
   go_wp2
   go_quiet (fail)
   go_wp2
   go_ret
   refine ⟨congrArg (fun z => Ending.returned (.bool z)) ?_, (((Only.refl _ _).alloc _).alloc _).drewN _⟩
   simp [holdsZ, hx]
theorem progHolds4 (txt : Bool) (la lb : Int) (c : ConstV) (w : World) (hr : ConstR c) :
  Calls Tryz.prog 174 #[.agg #[.bool txt, .int .i64 4, .int .i64 la, .int .i64 lb], .agg #[.int .i64 c.tag, .string c.text, .int .i64 c.n, .int .i64 c.a, .int .i64 c.b]] w fun e w' => e = .returned (.bool (holdsZ ⟨txt, 4, la, lb⟩ c)) ∧ Only (fun _ => False) w w' := by
 obtain ⟨t, x, n, a, bb⟩ := c
 obtain ⟨_, r2, _, _, _⟩ := hr
 unfold I64 at r2
 simp only at r2
 cases txt with
 | true =>
  go_enter Tryz.func174, Tryz.ntmps174
  go_wp2
  go_quiet (fail)
  go_wp2
  go_ret
  refine ⟨congrArg (fun z => Ending.returned (.bool z)) ?_, (((Only.refl _ _).alloc _).alloc _).drewN _⟩
  simp only [holdsZ, Bool.true_or, Bool.false_or, Bool.true_and, decide_true, if_true, show ¬ ((4 : Int) = 0) by decide, if_false]
  show (wrap64 (n * 4294967296) / 4294967296 == n) = _
  rw [Bool.eq_iff_iff]
  simp only [beq_iff_eq, decide_eq_true_eq]
  unfold wrap64
  omega
 | false =>
  by_cases hx : x = ⟨#[]⟩
  ·subst hx
   go_enter Tryz.func174, Tryz.ntmps174
   go_wp2
   go_quiet (fail)
   go_wp2
   go_ret
   refine ⟨congrArg (fun z => Ending.returned (.bool z)) ?_, (((Only.refl _ _).alloc _).alloc _).drewN _⟩
   simp only [holdsZ, Bool.true_or, Bool.false_or, Bool.true_and, decide_true, if_true, show ¬ ((4 : Int) = 0) by decide, if_false]
   show (wrap64 (n * 4294967296) / 4294967296 == n) = _
   rw [Bool.eq_iff_iff]
   simp only [beq_iff_eq, decide_eq_true_eq]
   unfold wrap64
   omega
  ·have hx1 : x.toList.isEmpty = false := by
    rw [Bool.eq_false_iff]
    intro h
    exact hx (by rw [empty_text]; simpa using h)
   go_enter Tryz.func174, Tryz.ntmps174
   go_wp2
   go_quiet (fail)
   go_wp2
   go_ret
   refine ⟨congrArg (fun z => Ending.returned (.bool z)) ?_, (((Only.refl _ _).alloc _).alloc _).drewN _⟩
   simp [holdsZ, hx]
theorem progHolds8 (txt : Bool) (la lb : Int) (c : ConstV) (w : World) (hr : ConstR c) :
  Calls Tryz.prog 174 #[.agg #[.bool txt, .int .i64 8, .int .i64 la, .int .i64 lb], .agg #[.int .i64 c.tag, .string c.text, .int .i64 c.n, .int .i64 c.a, .int .i64 c.b]] w fun e w' => e = .returned (.bool (holdsZ ⟨txt, 8, la, lb⟩ c)) ∧ Only (fun _ => False) w w' := by
 obtain ⟨t, x, n, a, bb⟩ := c
 obtain ⟨_, r2, _, _, _⟩ := hr
 unfold I64 at r2
 simp only at r2
 cases txt with
 | true =>
  go_enter Tryz.func174, Tryz.ntmps174
  go_wp2
  go_quiet (fail)
  go_wp2
  go_ret
  refine ⟨congrArg (fun z => Ending.returned (.bool z)) ?_, (((Only.refl _ _).alloc _).alloc _).drewN _⟩
  simp only [holdsZ, Bool.true_or, Bool.false_or, Bool.true_and, decide_true, if_true, show ¬ ((8 : Int) = 0) by decide, show ¬ ((8 : Int) = 4) by decide, if_false]
 | false =>
  by_cases hx : x = ⟨#[]⟩
  ·subst hx
   go_enter Tryz.func174, Tryz.ntmps174
   go_wp2
   go_quiet (fail)
   go_wp2
   go_ret
   refine ⟨congrArg (fun z => Ending.returned (.bool z)) ?_, (((Only.refl _ _).alloc _).alloc _).drewN _⟩
   simp only [holdsZ, Bool.true_or, Bool.false_or, Bool.true_and, decide_true, if_true, show ¬ ((8 : Int) = 0) by decide, show ¬ ((8 : Int) = 4) by decide, if_false]
  ·have hx1 : x.toList.isEmpty = false := by
    rw [Bool.eq_false_iff]
    intro h
    exact hx (by rw [empty_text]; simpa using h)
   go_enter Tryz.func174, Tryz.ntmps174
   go_wp2
   go_quiet (fail)
   go_wp2
   go_ret
   refine ⟨congrArg (fun z => Ending.returned (.bool z)) ?_, (((Only.refl _ _).alloc _).alloc _).drewN _⟩
   simp [holdsZ, hx]
end Go.Proofs.YtinbelghhfodiaaGreatDoor
