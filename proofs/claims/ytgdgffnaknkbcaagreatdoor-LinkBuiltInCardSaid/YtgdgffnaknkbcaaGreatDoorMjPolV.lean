import Derived.Test.YtgdgffnaknkbcaaGreatDoorMjTxtPPolM
namespace Go.Proofs.YtgdgffnaknkbcaaGreatDoor
open Go.RowKit
set_option linter.unusedVariables false
set_option linter.unusedSimpArgs false
structure ShapeV where
  txt : Bool
  size : Int
  la : Int
  lb : Int
def shapeZ (t : Int) : ShapeV × Bool :=
  if t = 1 then (⟨true, 0, 0, 0⟩, true) else if t = 5 then (⟨false, 8, 0, 0⟩, true) else if t = 3 then (⟨false, 4, 0, 0⟩, true)
  else if t = 12 then (⟨false, 0, 1, 1⟩, true) else if t = 7 then (⟨false, 0, 1, 0⟩, true) else if t = 9 ∨ t = 10 then (⟨false, 0, 7, 12⟩, true) else (⟨false, 0, 0, 0⟩, false)
set_option maxHeartbeats 1000000 in
theorem progShape (t : Int) (w : World) :
    Calls Tryz.prog 166 #[.int .i64 t] w fun e w' => e = .returned (.tuple #[.agg #[.bool (shapeZ t).1.txt, .int .i64 (shapeZ t).1.size, .int .i64 (shapeZ t).1.la, .int .i64 (shapeZ t).1.lb], .bool (shapeZ t).2]) ∧ Only (fun _ => False) w w' := by
  by_cases h1 : t = 1
  · subst h1
    go_enter Tryz.func166, Tryz.ntmps166
    go_wp2
    refine bodyPost_ret (v := .tuple #[.agg #[.bool true, .int .i64 0, .int .i64 0, .int .i64 0], .bool true]) (by simp [results, Tryz.results166, go_sem]) rfl ?_
    refine ⟨rfl, ?_⟩
    repeat (refine Only.setCell ?_ (fun hl => absurd hl (by simp)) _)
    exact ((Only.refl _ _).alloc _).alloc _
  by_cases h5 : t = 5
  · subst h5
    go_enter Tryz.func166, Tryz.ntmps166
    go_wp2
    refine bodyPost_ret (v := .tuple #[.agg #[.bool false, .int .i64 8, .int .i64 0, .int .i64 0], .bool true]) (by simp [results, Tryz.results166, go_sem]) rfl ?_
    refine ⟨rfl, ?_⟩
    repeat (refine Only.setCell ?_ (fun hl => absurd hl (by simp)) _)
    exact ((Only.refl _ _).alloc _).alloc _
  by_cases h3 : t = 3
  · subst h3
    go_enter Tryz.func166, Tryz.ntmps166
    go_wp2
    refine bodyPost_ret (v := .tuple #[.agg #[.bool false, .int .i64 4, .int .i64 0, .int .i64 0], .bool true]) (by simp [results, Tryz.results166, go_sem]) rfl ?_
    refine ⟨rfl, ?_⟩
    repeat (refine Only.setCell ?_ (fun hl => absurd hl (by simp)) _)
    exact ((Only.refl _ _).alloc _).alloc _
  by_cases h12 : t = 12
  · subst h12
    go_enter Tryz.func166, Tryz.ntmps166
    go_wp2
    refine bodyPost_ret (v := .tuple #[.agg #[.bool false, .int .i64 0, .int .i64 1, .int .i64 1], .bool true]) (by simp [results, Tryz.results166, go_sem]) rfl ?_
    refine ⟨rfl, ?_⟩
    repeat (refine Only.setCell ?_ (fun hl => absurd hl (by simp)) _)
    exact ((Only.refl _ _).alloc _).alloc _
  by_cases h7 : t = 7
  · subst h7
    go_enter Tryz.func166, Tryz.ntmps166
    go_wp2
    refine bodyPost_ret (v := .tuple #[.agg #[.bool false, .int .i64 0, .int .i64 1, .int .i64 0], .bool true]) (by simp [results, Tryz.results166, go_sem]) rfl ?_
    refine ⟨rfl, ?_⟩
    repeat (refine Only.setCell ?_ (fun hl => absurd hl (by simp)) _)
    exact ((Only.refl _ _).alloc _).alloc _
  by_cases h9 : t = 9
  · subst h9
    go_enter Tryz.func166, Tryz.ntmps166
    go_wp2
    refine bodyPost_ret (v := .tuple #[.agg #[.bool false, .int .i64 0, .int .i64 7, .int .i64 12], .bool true]) (by simp [results, Tryz.results166, go_sem]) rfl ?_
    refine ⟨rfl, ?_⟩
    repeat (refine Only.setCell ?_ (fun hl => absurd hl (by simp)) _)
    exact ((Only.refl _ _).alloc _).alloc _
  by_cases h10 : t = 10
  · subst h10
    go_enter Tryz.func166, Tryz.ntmps166
    go_wp2
    refine bodyPost_ret (v := .tuple #[.agg #[.bool false, .int .i64 0, .int .i64 7, .int .i64 12], .bool true]) (by simp [results, Tryz.results166, go_sem]) rfl ?_
    refine ⟨rfl, ?_⟩
    repeat (refine Only.setCell ?_ (fun hl => absurd hl (by simp)) _)
    exact ((Only.refl _ _).alloc _).alloc _
  have hz : shapeZ t = (⟨false, 0, 0, 0⟩, false) := by
    unfold shapeZ
    rw [if_neg h1, if_neg h5, if_neg h3, if_neg h12, if_neg h7, if_neg (by omega)]
  rw [hz]
  have b1 : (t == 1) = false := by simpa using h1
  have b3 : (t == 3) = false := by simpa using h3
  have b5 : (t == 5) = false := by simpa using h5
  have b7 : (t == 7) = false := by simpa using h7
  have b9 : (t == 9) = false := by simpa using h9
  have b10 : (t == 10) = false := by simpa using h10
  have b12 : (t == 12) = false := by simpa using h12
  clear h1 h3 h5 h7 h9 h10 h12 hz
  go_enter Tryz.func166, Tryz.ntmps166
  go_wp2
  refine bodyPost_ret (v := .tuple #[.agg #[.bool false, .int .i64 0, .int .i64 0, .int .i64 0], .bool false]) (by simp [results, Tryz.results166, go_sem]) rfl ?_
  refine ⟨rfl, ?_⟩
  repeat (refine Only.setCell ?_ (fun hl => absurd hl (by simp)) _)
  exact ((Only.refl _ _).alloc _).alloc _
def holdsZ (sh : ShapeV) (c : ConstV) : Bool := (sh.txt || decide (c.text = ⟨#[]⟩)) && (if sh.size = 0 then decide (c.n = 0) else if sh.size = 4 then decide (-2147483648 ≤ c.n ∧ c.n ≤ 2147483647) else true)
set_option maxHeartbeats 1000000 in
theorem progHolds0 (txt : Bool) (la lb : Int) (c : ConstV) (w : World) (hr : ConstR c) :
    Calls Tryz.prog 167 #[.agg #[.bool txt, .int .i64 0, .int .i64 la, .int .i64 lb], .agg #[.int .i64 c.tag, .string c.text, .int .i64 c.n, .int .i64 c.a, .int .i64 c.b]] w fun e w' => e = .returned (.bool (holdsZ ⟨txt, 0, la, lb⟩ c)) ∧ Only (fun _ => False) w w' := by
  obtain ⟨t, x, n, a, bb⟩ := c
  obtain ⟨_, r2, _, _, _⟩ := hr
  unfold I64 at r2
  simp only at r2
  cases txt with
  | true =>
    go_enter Tryz.func167, Tryz.ntmps167
    go_wp2
    go_quiet (fail)
    go_wp2
    go_ret
    refine ⟨congrArg (fun z => Ending.returned (.bool z)) ?_, (((Only.refl _ _).alloc _).alloc _).drewN _⟩
    simp only [holdsZ, Bool.true_or, Bool.false_or, Bool.true_and, decide_true, if_true]
    show (wrap64 (n * 18446744073709551616) / 18446744073709551616 == n) = _
    rw [Bool.eq_iff_iff]
    simp only [beq_iff_eq, decide_eq_true_eq]
    unfold wrap64
    omega
  | false =>
    by_cases hx : x = ⟨#[]⟩
    · subst hx
      go_enter Tryz.func167, Tryz.ntmps167
      go_wp2
      go_quiet (fail)
      go_wp2
      go_ret
      refine ⟨congrArg (fun z => Ending.returned (.bool z)) ?_, (((Only.refl _ _).alloc _).alloc _).drewN _⟩
      simp only [holdsZ, Bool.true_or, Bool.false_or, Bool.true_and, decide_true, if_true]
      show (wrap64 (n * 18446744073709551616) / 18446744073709551616 == n) = _
      rw [Bool.eq_iff_iff]
      simp only [beq_iff_eq, decide_eq_true_eq]
      unfold wrap64
      omega
    · have hx1 : x.toList.isEmpty = false := by
        rw [Bool.eq_false_iff]
        intro h
        exact hx (by rw [empty_text]; simpa using h)
      go_enter Tryz.func167, Tryz.ntmps167
      go_wp2
      go_quiet (fail)
      go_wp2
      go_ret
      refine ⟨congrArg (fun z => Ending.returned (.bool z)) ?_, (((Only.refl _ _).alloc _).alloc _).drewN _⟩
      simp [holdsZ, hx]
set_option maxHeartbeats 1000000 in
theorem progHolds4 (txt : Bool) (la lb : Int) (c : ConstV) (w : World) (hr : ConstR c) :
    Calls Tryz.prog 167 #[.agg #[.bool txt, .int .i64 4, .int .i64 la, .int .i64 lb], .agg #[.int .i64 c.tag, .string c.text, .int .i64 c.n, .int .i64 c.a, .int .i64 c.b]] w fun e w' => e = .returned (.bool (holdsZ ⟨txt, 4, la, lb⟩ c)) ∧ Only (fun _ => False) w w' := by
  obtain ⟨t, x, n, a, bb⟩ := c
  obtain ⟨_, r2, _, _, _⟩ := hr
  unfold I64 at r2
  simp only at r2
  cases txt with
  | true =>
    go_enter Tryz.func167, Tryz.ntmps167
    go_wp2
    go_quiet (fail)
    go_wp2
    go_ret
    refine ⟨congrArg (fun z => Ending.returned (.bool z)) ?_, (((Only.refl _ _).alloc _).alloc _).drewN _⟩
    simp only [holdsZ, Bool.true_or, Bool.false_or, Bool.true_and, decide_true, if_true, show ¬ ((4 : Int) = 0) by decide, if_false]
    show (wrap64 (n * 4294967296) / 4294967296 == n) = _
    rw [Bool.eq_iff_iff]
    simp only [beq_iff_eq, decide_eq_true_eq]
    unfold wrap64
    omega
  | false =>
    by_cases hx : x = ⟨#[]⟩
    · subst hx
      go_enter Tryz.func167, Tryz.ntmps167
      go_wp2
      go_quiet (fail)
      go_wp2
      go_ret
      refine ⟨congrArg (fun z => Ending.returned (.bool z)) ?_, (((Only.refl _ _).alloc _).alloc _).drewN _⟩
      simp only [holdsZ, Bool.true_or, Bool.false_or, Bool.true_and, decide_true, if_true, show ¬ ((4 : Int) = 0) by decide, if_false]
      show (wrap64 (n * 4294967296) / 4294967296 == n) = _
      rw [Bool.eq_iff_iff]
      simp only [beq_iff_eq, decide_eq_true_eq]
      unfold wrap64
      omega
    · have hx1 : x.toList.isEmpty = false := by
        rw [Bool.eq_false_iff]
        intro h
        exact hx (by rw [empty_text]; simpa using h)
      go_enter Tryz.func167, Tryz.ntmps167
      go_wp2
      go_quiet (fail)
      go_wp2
      go_ret
      refine ⟨congrArg (fun z => Ending.returned (.bool z)) ?_, (((Only.refl _ _).alloc _).alloc _).drewN _⟩
      simp [holdsZ, hx]
set_option maxHeartbeats 1000000 in
theorem progHolds8 (txt : Bool) (la lb : Int) (c : ConstV) (w : World) (hr : ConstR c) :
    Calls Tryz.prog 167 #[.agg #[.bool txt, .int .i64 8, .int .i64 la, .int .i64 lb], .agg #[.int .i64 c.tag, .string c.text, .int .i64 c.n, .int .i64 c.a, .int .i64 c.b]] w fun e w' => e = .returned (.bool (holdsZ ⟨txt, 8, la, lb⟩ c)) ∧ Only (fun _ => False) w w' := by
  obtain ⟨t, x, n, a, bb⟩ := c
  obtain ⟨_, r2, _, _, _⟩ := hr
  unfold I64 at r2
  simp only at r2
  cases txt with
  | true =>
    go_enter Tryz.func167, Tryz.ntmps167
    go_wp2
    go_quiet (fail)
    go_wp2
    go_ret
    refine ⟨congrArg (fun z => Ending.returned (.bool z)) ?_, (((Only.refl _ _).alloc _).alloc _).drewN _⟩
    simp only [holdsZ, Bool.true_or, Bool.false_or, Bool.true_and, decide_true, if_true, show ¬ ((8 : Int) = 0) by decide, show ¬ ((8 : Int) = 4) by decide, if_false]
  | false =>
    by_cases hx : x = ⟨#[]⟩
    · subst hx
      go_enter Tryz.func167, Tryz.ntmps167
      go_wp2
      go_quiet (fail)
      go_wp2
      go_ret
      refine ⟨congrArg (fun z => Ending.returned (.bool z)) ?_, (((Only.refl _ _).alloc _).alloc _).drewN _⟩
      simp only [holdsZ, Bool.true_or, Bool.false_or, Bool.true_and, decide_true, if_true, show ¬ ((8 : Int) = 0) by decide, show ¬ ((8 : Int) = 4) by decide, if_false]
    · have hx1 : x.toList.isEmpty = false := by
        rw [Bool.eq_false_iff]
        intro h
        exact hx (by rw [empty_text]; simpa using h)
      go_enter Tryz.func167, Tryz.ntmps167
      go_wp2
      go_quiet (fail)
      go_wp2
      go_ret
      refine ⟨congrArg (fun z => Ending.returned (.bool z)) ?_, (((Only.refl _ _).alloc _).alloc _).drewN _⟩
      simp [holdsZ, hx]
end Go.Proofs.YtgdgffnaknkbcaaGreatDoor
