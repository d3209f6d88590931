/- The program's shapes of constants: shapeOf, holds. No condition. Where the places of a constant lead, in the program's words. No condition. The program's look at one constant: what the document says of it. No condition but the form's own reach. -/
import Derived.Test.YtodhdiccfobcfaaGreatDoorPolT
import Derived.Test.YtodhdiccfobcfaaGreatDoorPolM
import Derived.Deep.RegionHeld3
import Derived.Deep.DeepCutAuto
import Derived.Test.YtodhdiccfobcfaaGreatDoorPolC
import Derived.Test.YtodhdiccfobcfaaGreatDoorGTxtP
namespace Go.Proofs.YtodhdiccfobcfaaGreatDoor
open Go.RowKit
set_option linter.unusedVariables false
set_option linter.unusedSimpArgs false

/-- A shape: is there a text, how long is the number, where the two places lead. -/
structure ShapeV where
  txt : Bool
  size : Int
  la : Int
  lb : Int
def shapeZ (t : Int) : ShapeV × Bool :=
  if t = 1 then (⟨true, 0, 0, 0⟩, true) else if t = 5 then (⟨false, 8, 0, 0⟩, true) else if t = 3 then (⟨false, 4, 0, 0⟩, true)
  else if t = 12 then (⟨false, 0, 1, 1⟩, true) else if t = 7 then (⟨false, 0, 1, 0⟩, true) else if t = 9 ∨ t = 10 then (⟨false, 0, 7, 12⟩, true) else (⟨false, 0, 0, 0⟩, false)

set_option maxHeartbeats 1000000 in
theorem progShape (t : Int) (w : World) :
    Calls Tryz.prog 105 #[.int .i64 t] w fun e w' => e = .returned (.tuple #[.agg #[.bool (shapeZ t).1.txt, .int .i64 (shapeZ t).1.size, .int .i64 (shapeZ t).1.la, .int .i64 (shapeZ t).1.lb], .bool (shapeZ t).2]) ∧ Only (fun _ => False) w w' := by
  by_cases h1 : t = 1
  · subst h1
    go_enter Tryz.func105, Tryz.ntmps105
    go_wp2
    refine bodyPost_ret (v := .tuple #[.agg #[.bool true, .int .i64 0, .int .i64 0, .int .i64 0], .bool true]) (by simp [results, Tryz.results105, go_sem]) rfl ?_
    refine ⟨rfl, ?_⟩
    repeat (refine Only.setCell ?_ (fun hl => absurd hl (by simp)) _)
    exact ((Only.refl _ _).alloc _).alloc _
  by_cases h5 : t = 5
  · subst h5
    go_enter Tryz.func105, Tryz.ntmps105
    go_wp2
    refine bodyPost_ret (v := .tuple #[.agg #[.bool false, .int .i64 8, .int .i64 0, .int .i64 0], .bool true]) (by simp [results, Tryz.results105, go_sem]) rfl ?_
    refine ⟨rfl, ?_⟩
    repeat (refine Only.setCell ?_ (fun hl => absurd hl (by simp)) _)
    exact ((Only.refl _ _).alloc _).alloc _
  by_cases h3 : t = 3
  · subst h3
    go_enter Tryz.func105, Tryz.ntmps105
    go_wp2
    refine bodyPost_ret (v := .tuple #[.agg #[.bool false, .int .i64 4, .int .i64 0, .int .i64 0], .bool true]) (by simp [results, Tryz.results105, go_sem]) rfl ?_
    refine ⟨rfl, ?_⟩
    repeat (refine Only.setCell ?_ (fun hl => absurd hl (by simp)) _)
    exact ((Only.refl _ _).alloc _).alloc _
  by_cases h12 : t = 12
  · subst h12
    go_enter Tryz.func105, Tryz.ntmps105
    go_wp2
    refine bodyPost_ret (v := .tuple #[.agg #[.bool false, .int .i64 0, .int .i64 1, .int .i64 1], .bool true]) (by simp [results, Tryz.results105, go_sem]) rfl ?_
    refine ⟨rfl, ?_⟩
    repeat (refine Only.setCell ?_ (fun hl => absurd hl (by simp)) _)
    exact ((Only.refl _ _).alloc _).alloc _
  by_cases h7 : t = 7
  · subst h7
    go_enter Tryz.func105, Tryz.ntmps105
    go_wp2
    refine bodyPost_ret (v := .tuple #[.agg #[.bool false, .int .i64 0, .int .i64 1, .int .i64 0], .bool true]) (by simp [results, Tryz.results105, go_sem]) rfl ?_
    refine ⟨rfl, ?_⟩
    repeat (refine Only.setCell ?_ (fun hl => absurd hl (by simp)) _)
    exact ((Only.refl _ _).alloc _).alloc _
  by_cases h9 : t = 9
  · subst h9
    go_enter Tryz.func105, Tryz.ntmps105
    go_wp2
    refine bodyPost_ret (v := .tuple #[.agg #[.bool false, .int .i64 0, .int .i64 7, .int .i64 12], .bool true]) (by simp [results, Tryz.results105, go_sem]) rfl ?_
    refine ⟨rfl, ?_⟩
    repeat (refine Only.setCell ?_ (fun hl => absurd hl (by simp)) _)
    exact ((Only.refl _ _).alloc _).alloc _
  by_cases h10 : t = 10
  · subst h10
    go_enter Tryz.func105, Tryz.ntmps105
    go_wp2
    refine bodyPost_ret (v := .tuple #[.agg #[.bool false, .int .i64 0, .int .i64 7, .int .i64 12], .bool true]) (by simp [results, Tryz.results105, go_sem]) rfl ?_
    refine ⟨rfl, ?_⟩
    repeat (refine Only.setCell ?_ (fun hl => absurd hl (by simp)) _)
    exact ((Only.refl _ _).alloc _).alloc _
  have hz : shapeZ t = (⟨false, 0, 0, 0⟩, false) := by
    unfold shapeZ
    rw [if_neg h1, if_neg h5, if_neg h3, if_neg h12, if_neg h7, if_neg (by omega)]
  rw [hz]
  have b1 : (t == 1) = false := by simpa using h1
  have b3 : (t == 3) = false := by simpa using h3
  have b5 : (t == 5) = false := by simpa using h5
  have b7 : (t == 7) = false := by simpa using h7
  have b9 : (t == 9) = false := by simpa using h9
  have b10 : (t == 10) = false := by simpa using h10
  have b12 : (t == 12) = false := by simpa using h12
  clear h1 h3 h5 h7 h9 h10 h12 hz
  go_enter Tryz.func105, Tryz.ntmps105
  go_wp2
  refine bodyPost_ret (v := .tuple #[.agg #[.bool false, .int .i64 0, .int .i64 0, .int .i64 0], .bool false]) (by simp [results, Tryz.results105, go_sem]) rfl ?_
  refine ⟨rfl, ?_⟩
  repeat (refine Only.setCell ?_ (fun hl => absurd hl (by simp)) _)
  exact ((Only.refl _ _).alloc _).alloc _

/-- Has the shape room for the text and the number? -/
def holdsZ (sh : ShapeV) (c : ConstV) : Bool := (sh.txt || decide (c.text = ⟨#[]⟩)) && (if sh.size = 0 then decide (c.n = 0) else if sh.size = 4 then decide (-2147483648 ≤ c.n ∧ c.n ≤ 2147483647) else true)

set_option maxHeartbeats 1000000 in
theorem progHolds0 (txt : Bool) (la lb : Int) (c : ConstV) (w : World) (hr : ConstR c) :
    Calls Tryz.prog 135 #[.agg #[.bool txt, .int .i64 0, .int .i64 la, .int .i64 lb], .agg #[.int .i64 c.tag, .string c.text, .int .i64 c.n, .int .i64 c.a, .int .i64 c.b]] w fun e w' => e = .returned (.bool (holdsZ ⟨txt, 0, la, lb⟩ c)) ∧ Only (fun _ => False) w w' := by
  obtain ⟨t, x, n, a, bb⟩ := c
  obtain ⟨_, r2, _, _, _⟩ := hr
  unfold I64 at r2
  simp only at r2
  cases txt with
  | true =>
    go_enter Tryz.func135, Tryz.ntmps135
    go_wp2
    go_quiet (fail)
    go_wp2
    go_ret
    refine ⟨congrArg (fun z => Ending.returned (.bool z)) ?_, (((Only.refl _ _).alloc _).alloc _).drewN _⟩
    simp only [holdsZ, Bool.true_or, Bool.false_or, Bool.true_and, decide_true, if_true]
    show (wrap64 (n * 18446744073709551616) / 18446744073709551616 == n) = _
    rw [Bool.eq_iff_iff]
    simp only [beq_iff_eq, decide_eq_true_eq]
    unfold wrap64
    omega
  | false =>
    by_cases hx : x = ⟨#[]⟩
    · subst hx
      go_enter Tryz.func135, Tryz.ntmps135
      go_wp2
      go_quiet (fail)
      go_wp2
      go_ret
      refine ⟨congrArg (fun z => Ending.returned (.bool z)) ?_, (((Only.refl _ _).alloc _).alloc _).drewN _⟩
      simp only [holdsZ, Bool.true_or, Bool.false_or, Bool.true_and, decide_true, if_true]
      show (wrap64 (n * 18446744073709551616) / 18446744073709551616 == n) = _
      rw [Bool.eq_iff_iff]
      simp only [beq_iff_eq, decide_eq_true_eq]
      unfold wrap64
      omega
    · have hx1 : x.toList.isEmpty = false := by
        rw [Bool.eq_false_iff]
        intro h
        exact hx (by rw [empty_text]; simpa using h)
      go_enter Tryz.func135, Tryz.ntmps135
      go_wp2
      go_quiet (fail)
      go_wp2
      go_ret
      refine ⟨congrArg (fun z => Ending.returned (.bool z)) ?_, (((Only.refl _ _).alloc _).alloc _).drewN _⟩
      simp [holdsZ, hx]
set_option maxHeartbeats 1000000 in
theorem progHolds4 (txt : Bool) (la lb : Int) (c : ConstV) (w : World) (hr : ConstR c) :
    Calls Tryz.prog 135 #[.agg #[.bool txt, .int .i64 4, .int .i64 la, .int .i64 lb], .agg #[.int .i64 c.tag, .string c.text, .int .i64 c.n, .int .i64 c.a, .int .i64 c.b]] w fun e w' => e = .returned (.bool (holdsZ ⟨txt, 4, la, lb⟩ c)) ∧ Only (fun _ => False) w w' := by
  obtain ⟨t, x, n, a, bb⟩ := c
  obtain ⟨_, r2, _, _, _⟩ := hr
  unfold I64 at r2
  simp only at r2
  cases txt with
  | true =>
    go_enter Tryz.func135, Tryz.ntmps135
    go_wp2
    go_quiet (fail)
    go_wp2
    go_ret
    refine ⟨congrArg (fun z => Ending.returned (.bool z)) ?_, (((Only.refl _ _).alloc _).alloc _).drewN _⟩
    simp only [holdsZ, Bool.true_or, Bool.false_or, Bool.true_and, decide_true, if_true, show ¬ ((4 : Int) = 0) by decide, if_false]
    show (wrap64 (n * 4294967296) / 4294967296 == n) = _
    rw [Bool.eq_iff_iff]
    simp only [beq_iff_eq, decide_eq_true_eq]
    unfold wrap64
    omega
  | false =>
    by_cases hx : x = ⟨#[]⟩
    · subst hx
      go_enter Tryz.func135, Tryz.ntmps135
      go_wp2
      go_quiet (fail)
      go_wp2
      go_ret
      refine ⟨congrArg (fun z => Ending.returned (.bool z)) ?_, (((Only.refl _ _).alloc _).alloc _).drewN _⟩
      simp only [holdsZ, Bool.true_or, Bool.false_or, Bool.true_and, decide_true, if_true, show ¬ ((4 : Int) = 0) by decide, if_false]
      show (wrap64 (n * 4294967296) / 4294967296 == n) = _
      rw [Bool.eq_iff_iff]
      simp only [beq_iff_eq, decide_eq_true_eq]
      unfold wrap64
      omega
    · have hx1 : x.toList.isEmpty = false := by
        rw [Bool.eq_false_iff]
        intro h
        exact hx (by rw [empty_text]; simpa using h)
      go_enter Tryz.func135, Tryz.ntmps135
      go_wp2
      go_quiet (fail)
      go_wp2
      go_ret
      refine ⟨congrArg (fun z => Ending.returned (.bool z)) ?_, (((Only.refl _ _).alloc _).alloc _).drewN _⟩
      simp [holdsZ, hx]
set_option maxHeartbeats 1000000 in
theorem progHolds8 (txt : Bool) (la lb : Int) (c : ConstV) (w : World) (hr : ConstR c) :
    Calls Tryz.prog 135 #[.agg #[.bool txt, .int .i64 8, .int .i64 la, .int .i64 lb], .agg #[.int .i64 c.tag, .string c.text, .int .i64 c.n, .int .i64 c.a, .int .i64 c.b]] w fun e w' => e = .returned (.bool (holdsZ ⟨txt, 8, la, lb⟩ c)) ∧ Only (fun _ => False) w w' := by
  obtain ⟨t, x, n, a, bb⟩ := c
  obtain ⟨_, r2, _, _, _⟩ := hr
  unfold I64 at r2
  simp only at r2
  cases txt with
  | true =>
    go_enter Tryz.func135, Tryz.ntmps135
    go_wp2
    go_quiet (fail)
    go_wp2
    go_ret
    refine ⟨congrArg (fun z => Ending.returned (.bool z)) ?_, (((Only.refl _ _).alloc _).alloc _).drewN _⟩
    simp only [holdsZ, Bool.true_or, Bool.false_or, Bool.true_and, decide_true, if_true, show ¬ ((8 : Int) = 0) by decide, show ¬ ((8 : Int) = 4) by decide, if_false]
  | false =>
    by_cases hx : x = ⟨#[]⟩
    · subst hx
      go_enter Tryz.func135, Tryz.ntmps135
      go_wp2
      go_quiet (fail)
      go_wp2
      go_ret
      refine ⟨congrArg (fun z => Ending.returned (.bool z)) ?_, (((Only.refl _ _).alloc _).alloc _).drewN _⟩
      simp only [holdsZ, Bool.true_or, Bool.false_or, Bool.true_and, decide_true, if_true, show ¬ ((8 : Int) = 0) by decide, show ¬ ((8 : Int) = 4) by decide, if_false]
    · have hx1 : x.toList.isEmpty = false := by
        rw [Bool.eq_false_iff]
        intro h
        exact hx (by rw [empty_text]; simpa using h)
      go_enter Tryz.func135, Tryz.ntmps135
      go_wp2
      go_quiet (fail)
      go_wp2
      go_ret
      refine ⟨congrArg (fun z => Ending.returned (.bool z)) ?_, (((Only.refl _ _).alloc _).alloc _).drewN _⟩
      simp [holdsZ, hx]
end Go.Proofs.YtodhdiccfobcfaaGreatDoor
namespace Go.Proofs.YtodhdiccfobcfaaGreatDoor
open Go.RowKit
set_option linter.unusedVariables false
set_option linter.unusedSimpArgs false

/-- Does a place lead where it must? -/
def ledZ (cs : List ConstV) (l x : Int) : Bool := if l = 0 then decide (x = 0) else decide ((atC cs x).tag = l)
theorem atC_zero (cs : List ConstV) : atC cs 0 = ⟨0, noT, 0, 0, 0⟩ := by unfold atC; rw [if_neg (by omega)]

set_option maxHeartbeats 8000000 in
set_option maxRecDepth 100000 in
theorem progLed (v : Value) (cs : List ConstV) (txt : Bool) (sz la lb : Int) (c : ConstV) (w : World) (hp : Pool w v cs) :
    Calls Tryz.prog 136 #[.agg #[.bool txt, .int .i64 sz, .int .i64 la, .int .i64 lb], v, .agg #[.int .i64 c.tag, .string c.text, .int .i64 c.n, .int .i64 c.a, .int .i64 c.b]] w fun e w' => e = .returned (.bool (ledZ cs la c.a && ledZ cs lb c.b)) ∧ Only (fun _ => False) w w' := by
  obtain ⟨t, x, n, a, bb⟩ := c
  simp only at *
  obtain ⟨ao, cap, rfl, _, _, _, _, _⟩ := id hp
  have Hp := Lib.hid hp
  have i0 : ∀ w, (Instr.index 150 (.agg #[.int .i64 a, .int .i64 bb]) (.int .i64 0)).run Tryz.prog w = .ok (.int .i64 a) w := fun _ => by kernel_rfl
  have i1 : ∀ w, (Instr.index 150 (.agg #[.int .i64 a, .int .i64 bb]) (.int .i64 1)).run Tryz.prog w = .ok (.int .i64 bb) w := fun _ => by kernel_rfl
  have fA : ∀ (t' : Int) (x' : ByteArray) (n' a' b' : Int) (w : World), (Instr.field 67 (.agg #[.int .i64 t', .string x', .int .i64 n', .int .i64 a', .int .i64 b']) 0).run Tryz.prog w = .ok (.int .i64 t') w := fun _ _ _ _ _ _ => by kernel_rfl
  have ho0 : Only (fun _ => False) w ((w.alloc (.cells #[.bool txt, .int .i64 sz, .int .i64 la, .int .i64 lb] 152)).alloc (.cells #[.int .i64 t, .string x, .int .i64 n, .int .i64 a, .int .i64 bb] 67)) := ((Only.refl _ _).alloc _).alloc _
  have hb0 : ((w.alloc (.cells #[.bool txt, .int .i64 sz, .int .i64 la, .int .i64 lb] 152)).alloc (.cells #[.int .i64 t, .string x, .int .i64 n, .int .i64 a, .int .i64 bb] 67)).heap[w.heap.size]? = some (.cells #[.bool txt, .int .i64 sz, .int .i64 la, .int .i64 lb] 152 (0, 0)) :=
    ((Only.refl (fun _ => False) _).alloc _).heap (heap_alloc_new w _) (fun h => h)
  have Ho0 := Lib.hid ho0
  have Hb0 := Lib.hid hb0
  clear hp ho0 hb0
  go_enter Tryz.func136, Tryz.ntmps136
  go_wp2
  go_loopw [14] (fun i wr => (i = .int .i64 0 ∨ (i = .int .i64 1 ∧ ledZ cs la a = true) ∨ (i = .int .i64 2 ∧ ledZ cs la a = true ∧ ledZ cs lb bb = true)) ∧ Only (fun _ => False) w wr ∧ wr.heap[w.heap.size]? = some (.cells #[.bool txt, .int .i64 sz, .int .i64 la, .int .i64 lb] 152 (0, 0))) (fun i _ => 2 - (intOf i).toNat)
  case atStart => exact ⟨.inl rfl, Ho0.out, Hb0.out⟩
  case round =>
    obtain ⟨hrel, hon, hblk⟩ := hrel
    have q2 := cell_blk hblk 2
    have q3 := cell_blk hblk 3
    simp at q2 q3
    have Hon := Lib.hid hon
    have Hblk := Lib.hid hblk
    clear hon hblk
    rcases hrel with rfl | ⟨rfl, h1⟩ | ⟨rfl, h1, h2⟩
    · by_cases hl : la = 0
      · by_cases hx : a = 0
        · have hL : ledZ cs la a = true := by unfold ledZ; rw [if_pos hl]; simpa using hx
          have HL := Lib.hid hL
          have Hl := Lib.hid hl
          have Hx := Lib.hid hx
          have cA := fun w' (ho : Only (fun _ => False) wr w') => progAt _ cs a w' ((Hp.out).only (Hon.out.trans ho (fun _ h => h.elim)) (fun _ _ h => h))
          rw [show atC cs a = ⟨0, noT, 0, 0, 0⟩ by rw [hx]; exact atC_zero cs] at cA
          have CA := Lib.hid cA
          have bl : (la == 0) = true := by simpa using hl
          have bl2 : (la != 0) = false := by simpa using hl
          have bx : (a != 0) = false := by simpa using hx
          have bx2 : (a == 0) = true := by simpa using hx
          clear hL hl hx cA
          go_wp2
          refine wp_region_held_drew (S := fun w' => w'.cell? ⟨w.heap.size, 2, none⟩ = some (.int .i64 la) ∧ w'.cell? ⟨w.heap.size, 3, none⟩ = some (.int .i64 lb) ∧ Only (fun _ => False) wr w') (by kernel_rfl) ⟨q2, q3, (Only.refl _ _).drew⟩ (fun hHeld => ?_)
          refine wpAnyH_take (i := 0) (v := ?_) (by simp only [List.getElem?_toArray, List.getElem?_cons_succ, List.getElem?_cons_zero]; rfl) (by kernel_rfl) (by kernel_rfl) (by kernel_rfl) (by exact fun _ _ _ h => h) (Or.inl ⟨by rfl, ?_⟩) (by assumption) ?_
          rotate_left 1
          · (intro w hSw; (try dsimp only at hSw); go_simp; try with_reducible rfl)
          try simp only [Act.put, List.setIfInBounds_toArray, List.set_cons_zero, List.set_cons_succ]
          refine wpAnyH_take (i := 1) (v := ?_) (by simp only [List.getElem?_toArray, List.getElem?_cons_succ, List.getElem?_cons_zero]; rfl) (by kernel_rfl) (by kernel_rfl) (by kernel_rfl) (by exact fun _ _ _ h => h) (Or.inl ⟨by rfl, ?_⟩) (by assumption) ?_
          rotate_left 1
          · (intro w hSw; (try dsimp only at hSw); go_simp; try with_reducible rfl)
          try simp only [Act.put, List.setIfInBounds_toArray, List.set_cons_zero, List.set_cons_succ]
          refine wpAnyH_take (i := 2) (v := ?_) (by simp only [List.getElem?_toArray, List.getElem?_cons_succ, List.getElem?_cons_zero]; rfl) (by kernel_rfl) (by kernel_rfl) (by kernel_rfl) (by exact fun _ _ _ h => h) (Or.inl ⟨by rfl, ?_⟩) (by assumption) ?_
          rotate_left 1
          · (intro w hSw; (try dsimp only at hSw); go_simp; try with_reducible rfl)
          try simp only [Act.put, List.setIfInBounds_toArray, List.set_cons_zero, List.set_cons_succ]
          refine wpAnyH_take (i := 3) (v := ?_) (by simp only [List.getElem?_toArray, List.getElem?_cons_succ, List.getElem?_cons_zero]; rfl) (by kernel_rfl) (by kernel_rfl) (by kernel_rfl) (by exact fun _ _ _ h => h) (Or.inl ⟨by rfl, ?_⟩) (by assumption) ?_
          rotate_left 1
          · (intro w hSw; (try dsimp only at hSw); go_simp; try with_reducible rfl)
          try simp only [Act.put, List.setIfInBounds_toArray, List.set_cons_zero, List.set_cons_succ]
          refine wpAnyH_take (i := 4) (v := ?_) (by simp only [List.getElem?_toArray, List.getElem?_cons_succ, List.getElem?_cons_zero]; rfl) (by kernel_rfl) (by kernel_rfl) (by kernel_rfl) (by exact fun _ _ _ h => h) (Or.inl ⟨by rfl, ?_⟩) (by assumption) ?_
          rotate_left 1
          · (intro w hSw; (try dsimp only at hSw); go_simp; try with_reducible rfl)
          try simp only [Act.put, List.setIfInBounds_toArray, List.set_cons_zero, List.set_cons_succ]
          refine wpAnyH_take (i := 5) (v := ?_) (by simp only [List.getElem?_toArray, List.getElem?_cons_succ, List.getElem?_cons_zero]; rfl) (by kernel_rfl) (by kernel_rfl) (by kernel_rfl) (by exact fun _ _ _ h => h) (Or.inl ⟨by rfl, ?_⟩) (by assumption) ?_
          rotate_left 1
          · (intro w hSw; (try dsimp only at hSw); go_simp; try with_reducible rfl)
          try simp only [Act.put, List.setIfInBounds_toArray, List.set_cons_zero, List.set_cons_succ]
          refine wpAnyH_take (i := 6) (v := ?_) (by simp only [List.getElem?_toArray, List.getElem?_cons_succ, List.getElem?_cons_zero]; rfl) (by kernel_rfl) (by kernel_rfl) (by kernel_rfl) (by exact fun _ _ _ h => h) (Or.inl ⟨by rfl, ?_⟩) (by assumption) ?_
          rotate_left 1
          · (intro w hSw; (try dsimp only at hSw); go_simp; try with_reducible rfl)
          try simp only [Act.put, List.setIfInBounds_toArray, List.set_cons_zero, List.set_cons_succ]
          refine wpAnyH_take (i := 7) (v := ?_) (by simp only [List.getElem?_toArray, List.getElem?_cons_succ, List.getElem?_cons_zero]; rfl) (by kernel_rfl) (by kernel_rfl) (by kernel_rfl) (by exact fun _ _ _ h => h) (Or.inl ⟨by rfl, ?_⟩) (by assumption) ?_
          rotate_left 1
          · (intro w hSw; (try dsimp only at hSw); go_simp; try with_reducible rfl)
          try simp only [Act.put, List.setIfInBounds_toArray, List.set_cons_zero, List.set_cons_succ]
          refine wpAnyH_take (i := 8) (v := ?_) (by simp only [List.getElem?_toArray, List.getElem?_cons_succ, List.getElem?_cons_zero]; rfl) (by kernel_rfl) (by kernel_rfl) (by kernel_rfl) (by exact fun _ _ _ h => h) (Or.inl ⟨by rfl, ?_⟩) (by assumption) ?_
          rotate_left 1
          · (intro w hSw; (try dsimp only at hSw); go_simp; try with_reducible rfl)
          try simp only [Act.put, List.setIfInBounds_toArray, List.set_cons_zero, List.set_cons_succ]
          refine wpAnyH_take (i := 9) (v := ?_) (by simp only [List.getElem?_toArray, List.getElem?_cons_succ, List.getElem?_cons_zero]; rfl) (by kernel_rfl) (by kernel_rfl) (by kernel_rfl) (by exact fun _ _ _ h => h) (Or.inl ⟨by rfl, ?_⟩) (by assumption) ?_
          rotate_left 1
          · (intro w hSw; (try dsimp only at hSw); go_simp; try with_reducible rfl)
          try simp only [Act.put, List.setIfInBounds_toArray, List.set_cons_zero, List.set_cons_succ]
          refine wpAnyH_take (i := 10) (v := ?_) (by simp only [List.getElem?_toArray, List.getElem?_cons_succ, List.getElem?_cons_zero]; rfl) (by kernel_rfl) (by kernel_rfl) (by kernel_rfl) (by exact fun _ _ _ h => h) (Or.inl ⟨by rfl, ?_⟩) (by assumption) ?_
          rotate_left 1
          · (intro w hSw; (try dsimp only at hSw); go_simp; try with_reducible rfl)
          try simp only [Act.put, List.setIfInBounds_toArray, List.set_cons_zero, List.set_cons_succ]
          refine wpAnyH_take (i := 11) (v := ?_) (by simp only [List.getElem?_toArray, List.getElem?_cons_succ, List.getElem?_cons_zero]; rfl) (by kernel_rfl) (by kernel_rfl) (by kernel_rfl) (by exact fun _ _ _ h => h) (Or.inl ⟨by rfl, ?_⟩) (by assumption) ?_
          rotate_left 1
          · (intro w hSw; (try dsimp only at hSw); go_simp; try with_reducible rfl)
          try simp only [Act.put, List.setIfInBounds_toArray, List.set_cons_zero, List.set_cons_succ]
          refine wpAnyH_take (i := 12) (v := ?_) (by simp only [List.getElem?_toArray, List.getElem?_cons_succ, List.getElem?_cons_zero]; rfl) (by kernel_rfl) (by kernel_rfl) (by kernel_rfl) (by exact fun _ _ _ h => h) (Or.inl ⟨by rfl, ?_⟩) (by assumption) ?_
          rotate_left 1
          · (intro w hSw; (try dsimp only at hSw); go_simp; try with_reducible rfl)
          try simp only [Act.put, List.setIfInBounds_toArray, List.set_cons_zero, List.set_cons_succ]
          refine wpAnyH_take (i := 13) (v := ?_) (by simp only [List.getElem?_toArray, List.getElem?_cons_succ, List.getElem?_cons_zero]; rfl) (by kernel_rfl) (by kernel_rfl) (by kernel_rfl) (by exact fun _ _ _ h => h) (Or.inl ⟨by rfl, ?_⟩) (by assumption) ?_
          rotate_left 1
          · (intro w hSw; (try dsimp only at hSw); go_simp; try with_reducible rfl)
          try simp only [Act.put, List.setIfInBounds_toArray, List.set_cons_zero, List.set_cons_succ]
          refine wpAnyH_take (i := 14) (v := ?_) (by simp only [List.getElem?_toArray, List.getElem?_cons_succ, List.getElem?_cons_zero]; rfl) (by kernel_rfl) (by kernel_rfl) (by kernel_rfl) (by exact fun _ _ _ h => h) (Or.inl ⟨by rfl, ?_⟩) (by assumption) ?_
          rotate_left 1
          · (intro w hSw; (try dsimp only at hSw); go_simp; try with_reducible rfl)
          try simp only [Act.put, List.setIfInBounds_toArray, List.set_cons_zero, List.set_cons_succ]
          refine wpAnyH_take (i := 15) (v := ?_) (by simp only [List.getElem?_toArray, List.getElem?_cons_succ, List.getElem?_cons_zero]; rfl) (by kernel_rfl) (by kernel_rfl) (by kernel_rfl) (by exact fun _ _ _ h => h) (Or.inl ⟨by rfl, ?_⟩) (by assumption) ?_
          rotate_left 1
          · (intro w hSw; (try dsimp only at hSw); go_simp; try with_reducible rfl)
          try simp only [Act.put, List.setIfInBounds_toArray, List.set_cons_zero, List.set_cons_succ]
          refine wpAnyH_ready (rs := [16]) (by kernel_rfl) (by simp) ?_
          refine AllReadyH.cons (by simp only [List.getElem?_toArray, List.getElem?_cons_succ, List.getElem?_cons_zero]; rfl) (fun K hK => ?_) AllReadyH.nil
          go_simp
          refine (CA.out _ hHeld.2.2).mono ?_; rintro e w1 ⟨rfl, ho1⟩; have HW := Lib.hid (hHeld.2.2.trans ho1 (fun _ h => h.elim)); have Q2 := Lib.hid (ho1.cell hHeld.1 (fun h => h)); have Q3 := Lib.hid (ho1.cell hHeld.2.1 (fun h => h)); clear ho1
          go_wp2_with fail
          refine hK.out _ _ ?_ (fun hHeld2 => ?_)
          · exact ⟨Q2.out, Q3.out, HW.out⟩
          clear hK K
          try simp only [Act.put, List.setIfInBounds_toArray, List.set_cons_zero, List.set_cons_succ]
          clear hHeld
          have hHeld := hHeld2
          clear hHeld2
          refine wpAnyH_take (i := 17) (v := ?_) (by simp only [List.getElem?_toArray, List.getElem?_cons_succ, List.getElem?_cons_zero]; rfl) (by kernel_rfl) (by kernel_rfl) (by kernel_rfl) (by exact fun _ _ _ h => h) (Or.inl ⟨by rfl, ?_⟩) (by assumption) ?_
          rotate_left 1
          · (intro w hSw; (try dsimp only at hSw); go_simp; try with_reducible rfl)
          try simp only [Act.put, List.setIfInBounds_toArray, List.set_cons_zero, List.set_cons_succ]
          refine wpAnyH_take (i := 18) (v := ?_) (by simp only [List.getElem?_toArray, List.getElem?_cons_succ, List.getElem?_cons_zero]; rfl) (by kernel_rfl) (by kernel_rfl) (by kernel_rfl) (by exact fun _ _ _ h => h) (Or.inl ⟨by rfl, ?_⟩) (by assumption) ?_
          rotate_left 1
          · (intro w hSw; (try dsimp only at hSw); go_simp; try with_reducible rfl)
          try simp only [Act.put, List.setIfInBounds_toArray, List.set_cons_zero, List.set_cons_succ]
          refine wpAnyH_take (i := 19) (v := ?_) (by simp only [List.getElem?_toArray, List.getElem?_cons_succ, List.getElem?_cons_zero]; rfl) (by kernel_rfl) (by kernel_rfl) (by kernel_rfl) (by exact fun _ _ _ h => h) (Or.inl ⟨by rfl, ?_⟩) (by assumption) ?_
          rotate_left 1
          · (intro w hSw; (try dsimp only at hSw); go_simp; try with_reducible rfl)
          try simp only [Act.put, List.setIfInBounds_toArray, List.set_cons_zero, List.set_cons_succ]
          refine wpAnyH_done (by kernel_rfl) ?_ _
          go_wp2
          go_roundw
          case rel => exact ⟨.inr (.inl ⟨rfl, HL.out⟩), Hon.out.trans HW.out (fun _ h => h.elim), HW.out.heap Hblk.out (fun h => h)⟩
          case measure => simp [intOf]
        · have hL : ledZ cs la a = false := by unfold ledZ; rw [if_pos hl]; simpa using hx
          have HL := Lib.hid hL
          have bl : (la == 0) = true := by simpa using hl
          have bl2 : (la != 0) = false := by simpa using hl
          have bx : (a != 0) = true := by simpa using hx
          have bx2 : (a == 0) = false := by simpa using hx
          clear hL hl hx
          go_wp2
          go_quiet (fail)
          go_wp2
          go_ret
          exact ⟨congrArg (fun z => Ending.returned (.bool z)) (by rw [HL.out]; rfl), Hon.out.drewN _⟩
      · have cA := fun w' (ho : Only (fun _ => False) wr w') => progAt _ cs a w' ((Hp.out).only (Hon.out.trans ho (fun _ h => h.elim)) (fun _ _ h => h))
        have CA := Lib.hid cA
        have bl : (la == 0) = false := by simpa using hl
        have bl2 : (la != 0) = true := by simpa using hl
        by_cases ht : (atC cs a).tag = la
        · have hL : ledZ cs la a = true := by unfold ledZ; rw [if_neg hl]; simpa using ht
          have HL := Lib.hid hL
          have be : (la != (atC cs a).tag) = false := by rw [ht]; simp
          have be2 : (la == (atC cs a).tag) = true := by rw [ht]; simp
          clear hL hl ht cA
          go_wp2
          refine wp_region_held_drew (S := fun w' => w'.cell? ⟨w.heap.size, 2, none⟩ = some (.int .i64 la) ∧ w'.cell? ⟨w.heap.size, 3, none⟩ = some (.int .i64 lb) ∧ Only (fun _ => False) wr w') (by kernel_rfl) ⟨q2, q3, (Only.refl _ _).drew⟩ (fun hHeld => ?_)
          refine wpAnyH_take (i := 0) (v := ?_) (by simp only [List.getElem?_toArray, List.getElem?_cons_succ, List.getElem?_cons_zero]; rfl) (by kernel_rfl) (by kernel_rfl) (by kernel_rfl) (by exact fun _ _ _ h => h) (Or.inl ⟨by rfl, ?_⟩) (by assumption) ?_
          rotate_left 1
          · (intro w hSw; (try dsimp only at hSw); go_simp; try with_reducible rfl)
          try simp only [Act.put, List.setIfInBounds_toArray, List.set_cons_zero, List.set_cons_succ]
          refine wpAnyH_take (i := 1) (v := ?_) (by simp only [List.getElem?_toArray, List.getElem?_cons_succ, List.getElem?_cons_zero]; rfl) (by kernel_rfl) (by kernel_rfl) (by kernel_rfl) (by exact fun _ _ _ h => h) (Or.inl ⟨by rfl, ?_⟩) (by assumption) ?_
          rotate_left 1
          · (intro w hSw; (try dsimp only at hSw); go_simp; try with_reducible rfl)
          try simp only [Act.put, List.setIfInBounds_toArray, List.set_cons_zero, List.set_cons_succ]
          refine wpAnyH_take (i := 2) (v := ?_) (by simp only [List.getElem?_toArray, List.getElem?_cons_succ, List.getElem?_cons_zero]; rfl) (by kernel_rfl) (by kernel_rfl) (by kernel_rfl) (by exact fun _ _ _ h => h) (Or.inl ⟨by rfl, ?_⟩) (by assumption) ?_
          rotate_left 1
          · (intro w hSw; (try dsimp only at hSw); go_simp; try with_reducible rfl)
          try simp only [Act.put, List.setIfInBounds_toArray, List.set_cons_zero, List.set_cons_succ]
          refine wpAnyH_take (i := 3) (v := ?_) (by simp only [List.getElem?_toArray, List.getElem?_cons_succ, List.getElem?_cons_zero]; rfl) (by kernel_rfl) (by kernel_rfl) (by kernel_rfl) (by exact fun _ _ _ h => h) (Or.inl ⟨by rfl, ?_⟩) (by assumption) ?_
          rotate_left 1
          · (intro w hSw; (try dsimp only at hSw); go_simp; try with_reducible rfl)
          try simp only [Act.put, List.setIfInBounds_toArray, List.set_cons_zero, List.set_cons_succ]
          refine wpAnyH_take (i := 4) (v := ?_) (by simp only [List.getElem?_toArray, List.getElem?_cons_succ, List.getElem?_cons_zero]; rfl) (by kernel_rfl) (by kernel_rfl) (by kernel_rfl) (by exact fun _ _ _ h => h) (Or.inl ⟨by rfl, ?_⟩) (by assumption) ?_
          rotate_left 1
          · (intro w hSw; (try dsimp only at hSw); go_simp; try with_reducible rfl)
          try simp only [Act.put, List.setIfInBounds_toArray, List.set_cons_zero, List.set_cons_succ]
          refine wpAnyH_take (i := 5) (v := ?_) (by simp only [List.getElem?_toArray, List.getElem?_cons_succ, List.getElem?_cons_zero]; rfl) (by kernel_rfl) (by kernel_rfl) (by kernel_rfl) (by exact fun _ _ _ h => h) (Or.inl ⟨by rfl, ?_⟩) (by assumption) ?_
          rotate_left 1
          · (intro w hSw; (try dsimp only at hSw); go_simp; try with_reducible rfl)
          try simp only [Act.put, List.setIfInBounds_toArray, List.set_cons_zero, List.set_cons_succ]
          refine wpAnyH_take (i := 6) (v := undef) (by simp only [List.getElem?_toArray, List.getElem?_cons_succ, List.getElem?_cons_zero]; rfl) (by kernel_rfl) (by kernel_rfl) (by kernel_rfl) (by exact fun _ _ _ h => h) (Or.inr ⟨by rfl, rfl⟩) (by assumption) ?_
          try simp only [Act.put, List.setIfInBounds_toArray, List.set_cons_zero, List.set_cons_succ]
          refine wpAnyH_take (i := 7) (v := undef) (by simp only [List.getElem?_toArray, List.getElem?_cons_succ, List.getElem?_cons_zero]; rfl) (by kernel_rfl) (by kernel_rfl) (by kernel_rfl) (by exact fun _ _ _ h => h) (Or.inr ⟨by rfl, rfl⟩) (by assumption) ?_
          try simp only [Act.put, List.setIfInBounds_toArray, List.set_cons_zero, List.set_cons_succ]
          refine wpAnyH_take (i := 8) (v := ?_) (by simp only [List.getElem?_toArray, List.getElem?_cons_succ, List.getElem?_cons_zero]; rfl) (by kernel_rfl) (by kernel_rfl) (by kernel_rfl) (by exact fun _ _ _ h => h) (Or.inl ⟨by rfl, ?_⟩) (by assumption) ?_
          rotate_left 1
          · (intro w hSw; (try dsimp only at hSw); go_simp; try with_reducible rfl)
          try simp only [Act.put, List.setIfInBounds_toArray, List.set_cons_zero, List.set_cons_succ]
          refine wpAnyH_take (i := 9) (v := ?_) (by simp only [List.getElem?_toArray, List.getElem?_cons_succ, List.getElem?_cons_zero]; rfl) (by kernel_rfl) (by kernel_rfl) (by kernel_rfl) (by exact fun _ _ _ h => h) (Or.inl ⟨by rfl, ?_⟩) (by assumption) ?_
          rotate_left 1
          · (intro w hSw; (try dsimp only at hSw); go_simp; try with_reducible rfl)
          try simp only [Act.put, List.setIfInBounds_toArray, List.set_cons_zero, List.set_cons_succ]
          refine wpAnyH_take (i := 10) (v := ?_) (by simp only [List.getElem?_toArray, List.getElem?_cons_succ, List.getElem?_cons_zero]; rfl) (by kernel_rfl) (by kernel_rfl) (by kernel_rfl) (by exact fun _ _ _ h => h) (Or.inl ⟨by rfl, ?_⟩) (by assumption) ?_
          rotate_left 1
          · (intro w hSw; (try dsimp only at hSw); go_simp; try with_reducible rfl)
          try simp only [Act.put, List.setIfInBounds_toArray, List.set_cons_zero, List.set_cons_succ]
          refine wpAnyH_take (i := 11) (v := ?_) (by simp only [List.getElem?_toArray, List.getElem?_cons_succ, List.getElem?_cons_zero]; rfl) (by kernel_rfl) (by kernel_rfl) (by kernel_rfl) (by exact fun _ _ _ h => h) (Or.inl ⟨by rfl, ?_⟩) (by assumption) ?_
          rotate_left 1
          · (intro w hSw; (try dsimp only at hSw); go_simp; try with_reducible rfl)
          try simp only [Act.put, List.setIfInBounds_toArray, List.set_cons_zero, List.set_cons_succ]
          refine wpAnyH_take (i := 12) (v := ?_) (by simp only [List.getElem?_toArray, List.getElem?_cons_succ, List.getElem?_cons_zero]; rfl) (by kernel_rfl) (by kernel_rfl) (by kernel_rfl) (by exact fun _ _ _ h => h) (Or.inl ⟨by rfl, ?_⟩) (by assumption) ?_
          rotate_left 1
          · (intro w hSw; (try dsimp only at hSw); go_simp; try with_reducible rfl)
          try simp only [Act.put, List.setIfInBounds_toArray, List.set_cons_zero, List.set_cons_succ]
          refine wpAnyH_take (i := 13) (v := ?_) (by simp only [List.getElem?_toArray, List.getElem?_cons_succ, List.getElem?_cons_zero]; rfl) (by kernel_rfl) (by kernel_rfl) (by kernel_rfl) (by exact fun _ _ _ h => h) (Or.inl ⟨by rfl, ?_⟩) (by assumption) ?_
          rotate_left 1
          · (intro w hSw; (try dsimp only at hSw); go_simp; try with_reducible rfl)
          try simp only [Act.put, List.setIfInBounds_toArray, List.set_cons_zero, List.set_cons_succ]
          refine wpAnyH_take (i := 14) (v := ?_) (by simp only [List.getElem?_toArray, List.getElem?_cons_succ, List.getElem?_cons_zero]; rfl) (by kernel_rfl) (by kernel_rfl) (by kernel_rfl) (by exact fun _ _ _ h => h) (Or.inl ⟨by rfl, ?_⟩) (by assumption) ?_
          rotate_left 1
          · (intro w hSw; (try dsimp only at hSw); go_simp; try with_reducible rfl)
          try simp only [Act.put, List.setIfInBounds_toArray, List.set_cons_zero, List.set_cons_succ]
          refine wpAnyH_take (i := 15) (v := ?_) (by simp only [List.getElem?_toArray, List.getElem?_cons_succ, List.getElem?_cons_zero]; rfl) (by kernel_rfl) (by kernel_rfl) (by kernel_rfl) (by exact fun _ _ _ h => h) (Or.inl ⟨by rfl, ?_⟩) (by assumption) ?_
          rotate_left 1
          · (intro w hSw; (try dsimp only at hSw); go_simp; try with_reducible rfl)
          try simp only [Act.put, List.setIfInBounds_toArray, List.set_cons_zero, List.set_cons_succ]
          refine wpAnyH_ready (rs := [16]) (by kernel_rfl) (by simp) ?_
          refine AllReadyH.cons (by simp only [List.getElem?_toArray, List.getElem?_cons_succ, List.getElem?_cons_zero]; rfl) (fun K hK => ?_) AllReadyH.nil
          go_simp
          refine (CA.out _ hHeld.2.2).mono ?_; rintro e w1 ⟨rfl, ho1⟩; have HW := Lib.hid (hHeld.2.2.trans ho1 (fun _ h => h.elim)); have Q2 := Lib.hid (ho1.cell hHeld.1 (fun h => h)); have Q3 := Lib.hid (ho1.cell hHeld.2.1 (fun h => h)); clear ho1
          go_wp2_with fail
          refine hK.out _ _ ?_ (fun hHeld2 => ?_)
          · exact ⟨Q2.out, Q3.out, HW.out⟩
          clear hK K
          try simp only [Act.put, List.setIfInBounds_toArray, List.set_cons_zero, List.set_cons_succ]
          clear hHeld
          have hHeld := hHeld2
          clear hHeld2
          refine wpAnyH_take (i := 17) (v := ?_) (by simp only [List.getElem?_toArray, List.getElem?_cons_succ, List.getElem?_cons_zero]; rfl) (by kernel_rfl) (by kernel_rfl) (by kernel_rfl) (by exact fun _ _ _ h => h) (Or.inl ⟨by rfl, ?_⟩) (by assumption) ?_
          rotate_left 1
          · (intro w hSw; (try dsimp only at hSw); go_simp; try with_reducible rfl)
          try simp only [Act.put, List.setIfInBounds_toArray, List.set_cons_zero, List.set_cons_succ]
          refine wpAnyH_take (i := 18) (v := ?_) (by simp only [List.getElem?_toArray, List.getElem?_cons_succ, List.getElem?_cons_zero]; rfl) (by kernel_rfl) (by kernel_rfl) (by kernel_rfl) (by exact fun _ _ _ h => h) (Or.inl ⟨by rfl, ?_⟩) (by assumption) ?_
          rotate_left 1
          · (intro w hSw; (try dsimp only at hSw); go_simp; try with_reducible rfl)
          try simp only [Act.put, List.setIfInBounds_toArray, List.set_cons_zero, List.set_cons_succ]
          refine wpAnyH_take (i := 19) (v := ?_) (by simp only [List.getElem?_toArray, List.getElem?_cons_succ, List.getElem?_cons_zero]; rfl) (by kernel_rfl) (by kernel_rfl) (by kernel_rfl) (by exact fun _ _ _ h => h) (Or.inl ⟨by rfl, ?_⟩) (by assumption) ?_
          rotate_left 1
          · (intro w hSw; (try dsimp only at hSw); go_simp; try with_reducible rfl)
          try simp only [Act.put, List.setIfInBounds_toArray, List.set_cons_zero, List.set_cons_succ]
          refine wpAnyH_done (by kernel_rfl) ?_ _
          go_wp2
          go_roundw
          case rel => exact ⟨.inr (.inl ⟨rfl, HL.out⟩), Hon.out.trans HW.out (fun _ h => h.elim), HW.out.heap Hblk.out (fun h => h)⟩
          case measure => simp [intOf]
        · have hL : ledZ cs la a = false := by unfold ledZ; rw [if_neg hl]; simpa using ht
          have HL := Lib.hid hL
          have be : (la != (atC cs a).tag) = true := by simpa using fun e => ht e.symm
          have be2 : (la == (atC cs a).tag) = false := by simpa using fun e => ht e.symm
          clear hL hl ht cA
          go_wp2
          refine wp_region_held_drew (S := fun w' => w'.cell? ⟨w.heap.size, 2, none⟩ = some (.int .i64 la) ∧ w'.cell? ⟨w.heap.size, 3, none⟩ = some (.int .i64 lb) ∧ Only (fun _ => False) wr w') (by kernel_rfl) ⟨q2, q3, (Only.refl _ _).drew⟩ (fun hHeld => ?_)
          refine wpAnyH_take (i := 0) (v := ?_) (by simp only [List.getElem?_toArray, List.getElem?_cons_succ, List.getElem?_cons_zero]; rfl) (by kernel_rfl) (by kernel_rfl) (by kernel_rfl) (by exact fun _ _ _ h => h) (Or.inl ⟨by rfl, ?_⟩) (by assumption) ?_
          rotate_left 1
          · (intro w hSw; (try dsimp only at hSw); go_simp; try with_reducible rfl)
          try simp only [Act.put, List.setIfInBounds_toArray, List.set_cons_zero, List.set_cons_succ]
          refine wpAnyH_take (i := 1) (v := ?_) (by simp only [List.getElem?_toArray, List.getElem?_cons_succ, List.getElem?_cons_zero]; rfl) (by kernel_rfl) (by kernel_rfl) (by kernel_rfl) (by exact fun _ _ _ h => h) (Or.inl ⟨by rfl, ?_⟩) (by assumption) ?_
          rotate_left 1
          · (intro w hSw; (try dsimp only at hSw); go_simp; try with_reducible rfl)
          try simp only [Act.put, List.setIfInBounds_toArray, List.set_cons_zero, List.set_cons_succ]
          refine wpAnyH_take (i := 2) (v := ?_) (by simp only [List.getElem?_toArray, List.getElem?_cons_succ, List.getElem?_cons_zero]; rfl) (by kernel_rfl) (by kernel_rfl) (by kernel_rfl) (by exact fun _ _ _ h => h) (Or.inl ⟨by rfl, ?_⟩) (by assumption) ?_
          rotate_left 1
          · (intro w hSw; (try dsimp only at hSw); go_simp; try with_reducible rfl)
          try simp only [Act.put, List.setIfInBounds_toArray, List.set_cons_zero, List.set_cons_succ]
          refine wpAnyH_take (i := 3) (v := ?_) (by simp only [List.getElem?_toArray, List.getElem?_cons_succ, List.getElem?_cons_zero]; rfl) (by kernel_rfl) (by kernel_rfl) (by kernel_rfl) (by exact fun _ _ _ h => h) (Or.inl ⟨by rfl, ?_⟩) (by assumption) ?_
          rotate_left 1
          · (intro w hSw; (try dsimp only at hSw); go_simp; try with_reducible rfl)
          try simp only [Act.put, List.setIfInBounds_toArray, List.set_cons_zero, List.set_cons_succ]
          refine wpAnyH_take (i := 4) (v := ?_) (by simp only [List.getElem?_toArray, List.getElem?_cons_succ, List.getElem?_cons_zero]; rfl) (by kernel_rfl) (by kernel_rfl) (by kernel_rfl) (by exact fun _ _ _ h => h) (Or.inl ⟨by rfl, ?_⟩) (by assumption) ?_
          rotate_left 1
          · (intro w hSw; (try dsimp only at hSw); go_simp; try with_reducible rfl)
          try simp only [Act.put, List.setIfInBounds_toArray, List.set_cons_zero, List.set_cons_succ]
          refine wpAnyH_take (i := 5) (v := ?_) (by simp only [List.getElem?_toArray, List.getElem?_cons_succ, List.getElem?_cons_zero]; rfl) (by kernel_rfl) (by kernel_rfl) (by kernel_rfl) (by exact fun _ _ _ h => h) (Or.inl ⟨by rfl, ?_⟩) (by assumption) ?_
          rotate_left 1
          · (intro w hSw; (try dsimp only at hSw); go_simp; try with_reducible rfl)
          try simp only [Act.put, List.setIfInBounds_toArray, List.set_cons_zero, List.set_cons_succ]
          refine wpAnyH_take (i := 6) (v := undef) (by simp only [List.getElem?_toArray, List.getElem?_cons_succ, List.getElem?_cons_zero]; rfl) (by kernel_rfl) (by kernel_rfl) (by kernel_rfl) (by exact fun _ _ _ h => h) (Or.inr ⟨by rfl, rfl⟩) (by assumption) ?_
          try simp only [Act.put, List.setIfInBounds_toArray, List.set_cons_zero, List.set_cons_succ]
          refine wpAnyH_take (i := 7) (v := undef) (by simp only [List.getElem?_toArray, List.getElem?_cons_succ, List.getElem?_cons_zero]; rfl) (by kernel_rfl) (by kernel_rfl) (by kernel_rfl) (by exact fun _ _ _ h => h) (Or.inr ⟨by rfl, rfl⟩) (by assumption) ?_
          try simp only [Act.put, List.setIfInBounds_toArray, List.set_cons_zero, List.set_cons_succ]
          refine wpAnyH_take (i := 8) (v := ?_) (by simp only [List.getElem?_toArray, List.getElem?_cons_succ, List.getElem?_cons_zero]; rfl) (by kernel_rfl) (by kernel_rfl) (by kernel_rfl) (by exact fun _ _ _ h => h) (Or.inl ⟨by rfl, ?_⟩) (by assumption) ?_
          rotate_left 1
          · (intro w hSw; (try dsimp only at hSw); go_simp; try with_reducible rfl)
          try simp only [Act.put, List.setIfInBounds_toArray, List.set_cons_zero, List.set_cons_succ]
          refine wpAnyH_take (i := 9) (v := ?_) (by simp only [List.getElem?_toArray, List.getElem?_cons_succ, List.getElem?_cons_zero]; rfl) (by kernel_rfl) (by kernel_rfl) (by kernel_rfl) (by exact fun _ _ _ h => h) (Or.inl ⟨by rfl, ?_⟩) (by assumption) ?_
          rotate_left 1
          · (intro w hSw; (try dsimp only at hSw); go_simp; try with_reducible rfl)
          try simp only [Act.put, List.setIfInBounds_toArray, List.set_cons_zero, List.set_cons_succ]
          refine wpAnyH_take (i := 10) (v := ?_) (by simp only [List.getElem?_toArray, List.getElem?_cons_succ, List.getElem?_cons_zero]; rfl) (by kernel_rfl) (by kernel_rfl) (by kernel_rfl) (by exact fun _ _ _ h => h) (Or.inl ⟨by rfl, ?_⟩) (by assumption) ?_
          rotate_left 1
          · (intro w hSw; (try dsimp only at hSw); go_simp; try with_reducible rfl)
          try simp only [Act.put, List.setIfInBounds_toArray, List.set_cons_zero, List.set_cons_succ]
          refine wpAnyH_take (i := 11) (v := ?_) (by simp only [List.getElem?_toArray, List.getElem?_cons_succ, List.getElem?_cons_zero]; rfl) (by kernel_rfl) (by kernel_rfl) (by kernel_rfl) (by exact fun _ _ _ h => h) (Or.inl ⟨by rfl, ?_⟩) (by assumption) ?_
          rotate_left 1
          · (intro w hSw; (try dsimp only at hSw); go_simp; try with_reducible rfl)
          try simp only [Act.put, List.setIfInBounds_toArray, List.set_cons_zero, List.set_cons_succ]
          refine wpAnyH_take (i := 12) (v := ?_) (by simp only [List.getElem?_toArray, List.getElem?_cons_succ, List.getElem?_cons_zero]; rfl) (by kernel_rfl) (by kernel_rfl) (by kernel_rfl) (by exact fun _ _ _ h => h) (Or.inl ⟨by rfl, ?_⟩) (by assumption) ?_
          rotate_left 1
          · (intro w hSw; (try dsimp only at hSw); go_simp; try with_reducible rfl)
          try simp only [Act.put, List.setIfInBounds_toArray, List.set_cons_zero, List.set_cons_succ]
          refine wpAnyH_take (i := 13) (v := ?_) (by simp only [List.getElem?_toArray, List.getElem?_cons_succ, List.getElem?_cons_zero]; rfl) (by kernel_rfl) (by kernel_rfl) (by kernel_rfl) (by exact fun _ _ _ h => h) (Or.inl ⟨by rfl, ?_⟩) (by assumption) ?_
          rotate_left 1
          · (intro w hSw; (try dsimp only at hSw); go_simp; try with_reducible rfl)
          try simp only [Act.put, List.setIfInBounds_toArray, List.set_cons_zero, List.set_cons_succ]
          refine wpAnyH_take (i := 14) (v := ?_) (by simp only [List.getElem?_toArray, List.getElem?_cons_succ, List.getElem?_cons_zero]; rfl) (by kernel_rfl) (by kernel_rfl) (by kernel_rfl) (by exact fun _ _ _ h => h) (Or.inl ⟨by rfl, ?_⟩) (by assumption) ?_
          rotate_left 1
          · (intro w hSw; (try dsimp only at hSw); go_simp; try with_reducible rfl)
          try simp only [Act.put, List.setIfInBounds_toArray, List.set_cons_zero, List.set_cons_succ]
          refine wpAnyH_take (i := 15) (v := ?_) (by simp only [List.getElem?_toArray, List.getElem?_cons_succ, List.getElem?_cons_zero]; rfl) (by kernel_rfl) (by kernel_rfl) (by kernel_rfl) (by exact fun _ _ _ h => h) (Or.inl ⟨by rfl, ?_⟩) (by assumption) ?_
          rotate_left 1
          · (intro w hSw; (try dsimp only at hSw); go_simp; try with_reducible rfl)
          try simp only [Act.put, List.setIfInBounds_toArray, List.set_cons_zero, List.set_cons_succ]
          refine wpAnyH_ready (rs := [16]) (by kernel_rfl) (by simp) ?_
          refine AllReadyH.cons (by simp only [List.getElem?_toArray, List.getElem?_cons_succ, List.getElem?_cons_zero]; rfl) (fun K hK => ?_) AllReadyH.nil
          go_simp
          refine (CA.out _ hHeld.2.2).mono ?_; rintro e w1 ⟨rfl, ho1⟩; have HW := Lib.hid (hHeld.2.2.trans ho1 (fun _ h => h.elim)); have Q2 := Lib.hid (ho1.cell hHeld.1 (fun h => h)); have Q3 := Lib.hid (ho1.cell hHeld.2.1 (fun h => h)); clear ho1
          go_wp2_with fail
          refine hK.out _ _ ?_ (fun hHeld2 => ?_)
          · exact ⟨Q2.out, Q3.out, HW.out⟩
          clear hK K
          try simp only [Act.put, List.setIfInBounds_toArray, List.set_cons_zero, List.set_cons_succ]
          clear hHeld
          have hHeld := hHeld2
          clear hHeld2
          refine wpAnyH_take (i := 17) (v := ?_) (by simp only [List.getElem?_toArray, List.getElem?_cons_succ, List.getElem?_cons_zero]; rfl) (by kernel_rfl) (by kernel_rfl) (by kernel_rfl) (by exact fun _ _ _ h => h) (Or.inl ⟨by rfl, ?_⟩) (by assumption) ?_
          rotate_left 1
          · (intro w hSw; (try dsimp only at hSw); go_simp; try with_reducible rfl)
          try simp only [Act.put, List.setIfInBounds_toArray, List.set_cons_zero, List.set_cons_succ]
          refine wpAnyH_take (i := 18) (v := ?_) (by simp only [List.getElem?_toArray, List.getElem?_cons_succ, List.getElem?_cons_zero]; rfl) (by kernel_rfl) (by kernel_rfl) (by kernel_rfl) (by exact fun _ _ _ h => h) (Or.inl ⟨by rfl, ?_⟩) (by assumption) ?_
          rotate_left 1
          · (intro w hSw; (try dsimp only at hSw); go_simp; try with_reducible rfl)
          try simp only [Act.put, List.setIfInBounds_toArray, List.set_cons_zero, List.set_cons_succ]
          refine wpAnyH_take (i := 19) (v := ?_) (by simp only [List.getElem?_toArray, List.getElem?_cons_succ, List.getElem?_cons_zero]; rfl) (by kernel_rfl) (by kernel_rfl) (by kernel_rfl) (by exact fun _ _ _ h => h) (Or.inl ⟨by rfl, ?_⟩) (by assumption) ?_
          rotate_left 1
          · (intro w hSw; (try dsimp only at hSw); go_simp; try with_reducible rfl)
          try simp only [Act.put, List.setIfInBounds_toArray, List.set_cons_zero, List.set_cons_succ]
          refine wpAnyH_done (by kernel_rfl) ?_ _
          go_wp2
          go_ret
          exact ⟨congrArg (fun z => Ending.returned (.bool z)) (by rw [HL.out]; rfl), Hon.out.trans HW.out (fun _ h => h.elim)⟩
    · have H1 := Lib.hid h1
      clear h1
      by_cases hl : lb = 0
      · by_cases hx : bb = 0
        · have hL : ledZ cs lb bb = true := by unfold ledZ; rw [if_pos hl]; simpa using hx
          have HL := Lib.hid hL
          have Hl := Lib.hid hl
          have Hx := Lib.hid hx
          have cA := fun w' (ho : Only (fun _ => False) wr w') => progAt _ cs bb w' ((Hp.out).only (Hon.out.trans ho (fun _ h => h.elim)) (fun _ _ h => h))
          rw [show atC cs bb = ⟨0, noT, 0, 0, 0⟩ by rw [hx]; exact atC_zero cs] at cA
          have CA := Lib.hid cA
          have bl : (lb == 0) = true := by simpa using hl
          have bl2 : (lb != 0) = false := by simpa using hl
          have bx : (bb != 0) = false := by simpa using hx
          have bx2 : (bb == 0) = true := by simpa using hx
          clear hL hl hx cA
          go_wp2
          refine wp_region_held_drew (S := fun w' => w'.cell? ⟨w.heap.size, 2, none⟩ = some (.int .i64 la) ∧ w'.cell? ⟨w.heap.size, 3, none⟩ = some (.int .i64 lb) ∧ Only (fun _ => False) wr w') (by kernel_rfl) ⟨q2, q3, (Only.refl _ _).drew⟩ (fun hHeld => ?_)
          refine wpAnyH_take (i := 0) (v := ?_) (by simp only [List.getElem?_toArray, List.getElem?_cons_succ, List.getElem?_cons_zero]; rfl) (by kernel_rfl) (by kernel_rfl) (by kernel_rfl) (by exact fun _ _ _ h => h) (Or.inl ⟨by rfl, ?_⟩) (by assumption) ?_
          rotate_left 1
          · (intro w hSw; (try dsimp only at hSw); go_simp; try with_reducible rfl)
          try simp only [Act.put, List.setIfInBounds_toArray, List.set_cons_zero, List.set_cons_succ]
          refine wpAnyH_take (i := 1) (v := ?_) (by simp only [List.getElem?_toArray, List.getElem?_cons_succ, List.getElem?_cons_zero]; rfl) (by kernel_rfl) (by kernel_rfl) (by kernel_rfl) (by exact fun _ _ _ h => h) (Or.inl ⟨by rfl, ?_⟩) (by assumption) ?_
          rotate_left 1
          · (intro w hSw; (try dsimp only at hSw); go_simp; try with_reducible rfl)
          try simp only [Act.put, List.setIfInBounds_toArray, List.set_cons_zero, List.set_cons_succ]
          refine wpAnyH_take (i := 2) (v := ?_) (by simp only [List.getElem?_toArray, List.getElem?_cons_succ, List.getElem?_cons_zero]; rfl) (by kernel_rfl) (by kernel_rfl) (by kernel_rfl) (by exact fun _ _ _ h => h) (Or.inl ⟨by rfl, ?_⟩) (by assumption) ?_
          rotate_left 1
          · (intro w hSw; (try dsimp only at hSw); go_simp; try with_reducible rfl)
          try simp only [Act.put, List.setIfInBounds_toArray, List.set_cons_zero, List.set_cons_succ]
          refine wpAnyH_take (i := 3) (v := ?_) (by simp only [List.getElem?_toArray, List.getElem?_cons_succ, List.getElem?_cons_zero]; rfl) (by kernel_rfl) (by kernel_rfl) (by kernel_rfl) (by exact fun _ _ _ h => h) (Or.inl ⟨by rfl, ?_⟩) (by assumption) ?_
          rotate_left 1
          · (intro w hSw; (try dsimp only at hSw); go_simp; try with_reducible rfl)
          try simp only [Act.put, List.setIfInBounds_toArray, List.set_cons_zero, List.set_cons_succ]
          refine wpAnyH_take (i := 4) (v := ?_) (by simp only [List.getElem?_toArray, List.getElem?_cons_succ, List.getElem?_cons_zero]; rfl) (by kernel_rfl) (by kernel_rfl) (by kernel_rfl) (by exact fun _ _ _ h => h) (Or.inl ⟨by rfl, ?_⟩) (by assumption) ?_
          rotate_left 1
          · (intro w hSw; (try dsimp only at hSw); go_simp; try with_reducible rfl)
          try simp only [Act.put, List.setIfInBounds_toArray, List.set_cons_zero, List.set_cons_succ]
          refine wpAnyH_take (i := 5) (v := ?_) (by simp only [List.getElem?_toArray, List.getElem?_cons_succ, List.getElem?_cons_zero]; rfl) (by kernel_rfl) (by kernel_rfl) (by kernel_rfl) (by exact fun _ _ _ h => h) (Or.inl ⟨by rfl, ?_⟩) (by assumption) ?_
          rotate_left 1
          · (intro w hSw; (try dsimp only at hSw); go_simp; try with_reducible rfl)
          try simp only [Act.put, List.setIfInBounds_toArray, List.set_cons_zero, List.set_cons_succ]
          refine wpAnyH_take (i := 6) (v := ?_) (by simp only [List.getElem?_toArray, List.getElem?_cons_succ, List.getElem?_cons_zero]; rfl) (by kernel_rfl) (by kernel_rfl) (by kernel_rfl) (by exact fun _ _ _ h => h) (Or.inl ⟨by rfl, ?_⟩) (by assumption) ?_
          rotate_left 1
          · (intro w hSw; (try dsimp only at hSw); go_simp; try with_reducible rfl)
          try simp only [Act.put, List.setIfInBounds_toArray, List.set_cons_zero, List.set_cons_succ]
          refine wpAnyH_take (i := 7) (v := ?_) (by simp only [List.getElem?_toArray, List.getElem?_cons_succ, List.getElem?_cons_zero]; rfl) (by kernel_rfl) (by kernel_rfl) (by kernel_rfl) (by exact fun _ _ _ h => h) (Or.inl ⟨by rfl, ?_⟩) (by assumption) ?_
          rotate_left 1
          · (intro w hSw; (try dsimp only at hSw); go_simp; try with_reducible rfl)
          try simp only [Act.put, List.setIfInBounds_toArray, List.set_cons_zero, List.set_cons_succ]
          refine wpAnyH_take (i := 8) (v := ?_) (by simp only [List.getElem?_toArray, List.getElem?_cons_succ, List.getElem?_cons_zero]; rfl) (by kernel_rfl) (by kernel_rfl) (by kernel_rfl) (by exact fun _ _ _ h => h) (Or.inl ⟨by rfl, ?_⟩) (by assumption) ?_
          rotate_left 1
          · (intro w hSw; (try dsimp only at hSw); go_simp; try with_reducible rfl)
          try simp only [Act.put, List.setIfInBounds_toArray, List.set_cons_zero, List.set_cons_succ]
          refine wpAnyH_take (i := 9) (v := ?_) (by simp only [List.getElem?_toArray, List.getElem?_cons_succ, List.getElem?_cons_zero]; rfl) (by kernel_rfl) (by kernel_rfl) (by kernel_rfl) (by exact fun _ _ _ h => h) (Or.inl ⟨by rfl, ?_⟩) (by assumption) ?_
          rotate_left 1
          · (intro w hSw; (try dsimp only at hSw); go_simp; try with_reducible rfl)
          try simp only [Act.put, List.setIfInBounds_toArray, List.set_cons_zero, List.set_cons_succ]
          refine wpAnyH_take (i := 10) (v := ?_) (by simp only [List.getElem?_toArray, List.getElem?_cons_succ, List.getElem?_cons_zero]; rfl) (by kernel_rfl) (by kernel_rfl) (by kernel_rfl) (by exact fun _ _ _ h => h) (Or.inl ⟨by rfl, ?_⟩) (by assumption) ?_
          rotate_left 1
          · (intro w hSw; (try dsimp only at hSw); go_simp; try with_reducible rfl)
          try simp only [Act.put, List.setIfInBounds_toArray, List.set_cons_zero, List.set_cons_succ]
          refine wpAnyH_take (i := 11) (v := ?_) (by simp only [List.getElem?_toArray, List.getElem?_cons_succ, List.getElem?_cons_zero]; rfl) (by kernel_rfl) (by kernel_rfl) (by kernel_rfl) (by exact fun _ _ _ h => h) (Or.inl ⟨by rfl, ?_⟩) (by assumption) ?_
          rotate_left 1
          · (intro w hSw; (try dsimp only at hSw); go_simp; try with_reducible rfl)
          try simp only [Act.put, List.setIfInBounds_toArray, List.set_cons_zero, List.set_cons_succ]
          refine wpAnyH_take (i := 12) (v := ?_) (by simp only [List.getElem?_toArray, List.getElem?_cons_succ, List.getElem?_cons_zero]; rfl) (by kernel_rfl) (by kernel_rfl) (by kernel_rfl) (by exact fun _ _ _ h => h) (Or.inl ⟨by rfl, ?_⟩) (by assumption) ?_
          rotate_left 1
          · (intro w hSw; (try dsimp only at hSw); go_simp; try with_reducible rfl)
          try simp only [Act.put, List.setIfInBounds_toArray, List.set_cons_zero, List.set_cons_succ]
          refine wpAnyH_take (i := 13) (v := ?_) (by simp only [List.getElem?_toArray, List.getElem?_cons_succ, List.getElem?_cons_zero]; rfl) (by kernel_rfl) (by kernel_rfl) (by kernel_rfl) (by exact fun _ _ _ h => h) (Or.inl ⟨by rfl, ?_⟩) (by assumption) ?_
          rotate_left 1
          · (intro w hSw; (try dsimp only at hSw); go_simp; try with_reducible rfl)
          try simp only [Act.put, List.setIfInBounds_toArray, List.set_cons_zero, List.set_cons_succ]
          refine wpAnyH_take (i := 14) (v := ?_) (by simp only [List.getElem?_toArray, List.getElem?_cons_succ, List.getElem?_cons_zero]; rfl) (by kernel_rfl) (by kernel_rfl) (by kernel_rfl) (by exact fun _ _ _ h => h) (Or.inl ⟨by rfl, ?_⟩) (by assumption) ?_
          rotate_left 1
          · (intro w hSw; (try dsimp only at hSw); go_simp; try with_reducible rfl)
          try simp only [Act.put, List.setIfInBounds_toArray, List.set_cons_zero, List.set_cons_succ]
          refine wpAnyH_take (i := 15) (v := ?_) (by simp only [List.getElem?_toArray, List.getElem?_cons_succ, List.getElem?_cons_zero]; rfl) (by kernel_rfl) (by kernel_rfl) (by kernel_rfl) (by exact fun _ _ _ h => h) (Or.inl ⟨by rfl, ?_⟩) (by assumption) ?_
          rotate_left 1
          · (intro w hSw; (try dsimp only at hSw); go_simp; try with_reducible rfl)
          try simp only [Act.put, List.setIfInBounds_toArray, List.set_cons_zero, List.set_cons_succ]
          refine wpAnyH_ready (rs := [16]) (by kernel_rfl) (by simp) ?_
          refine AllReadyH.cons (by simp only [List.getElem?_toArray, List.getElem?_cons_succ, List.getElem?_cons_zero]; rfl) (fun K hK => ?_) AllReadyH.nil
          go_simp
          refine (CA.out _ hHeld.2.2).mono ?_; rintro e w1 ⟨rfl, ho1⟩; have HW := Lib.hid (hHeld.2.2.trans ho1 (fun _ h => h.elim)); have Q2 := Lib.hid (ho1.cell hHeld.1 (fun h => h)); have Q3 := Lib.hid (ho1.cell hHeld.2.1 (fun h => h)); clear ho1
          go_wp2_with fail
          refine hK.out _ _ ?_ (fun hHeld2 => ?_)
          · exact ⟨Q2.out, Q3.out, HW.out⟩
          clear hK K
          try simp only [Act.put, List.setIfInBounds_toArray, List.set_cons_zero, List.set_cons_succ]
          clear hHeld
          have hHeld := hHeld2
          clear hHeld2
          refine wpAnyH_take (i := 17) (v := ?_) (by simp only [List.getElem?_toArray, List.getElem?_cons_succ, List.getElem?_cons_zero]; rfl) (by kernel_rfl) (by kernel_rfl) (by kernel_rfl) (by exact fun _ _ _ h => h) (Or.inl ⟨by rfl, ?_⟩) (by assumption) ?_
          rotate_left 1
          · (intro w hSw; (try dsimp only at hSw); go_simp; try with_reducible rfl)
          try simp only [Act.put, List.setIfInBounds_toArray, List.set_cons_zero, List.set_cons_succ]
          refine wpAnyH_take (i := 18) (v := ?_) (by simp only [List.getElem?_toArray, List.getElem?_cons_succ, List.getElem?_cons_zero]; rfl) (by kernel_rfl) (by kernel_rfl) (by kernel_rfl) (by exact fun _ _ _ h => h) (Or.inl ⟨by rfl, ?_⟩) (by assumption) ?_
          rotate_left 1
          · (intro w hSw; (try dsimp only at hSw); go_simp; try with_reducible rfl)
          try simp only [Act.put, List.setIfInBounds_toArray, List.set_cons_zero, List.set_cons_succ]
          refine wpAnyH_take (i := 19) (v := ?_) (by simp only [List.getElem?_toArray, List.getElem?_cons_succ, List.getElem?_cons_zero]; rfl) (by kernel_rfl) (by kernel_rfl) (by kernel_rfl) (by exact fun _ _ _ h => h) (Or.inl ⟨by rfl, ?_⟩) (by assumption) ?_
          rotate_left 1
          · (intro w hSw; (try dsimp only at hSw); go_simp; try with_reducible rfl)
          try simp only [Act.put, List.setIfInBounds_toArray, List.set_cons_zero, List.set_cons_succ]
          refine wpAnyH_done (by kernel_rfl) ?_ _
          go_wp2
          go_roundw
          case rel => exact ⟨.inr (.inr ⟨rfl, H1.out, HL.out⟩), Hon.out.trans HW.out (fun _ h => h.elim), HW.out.heap Hblk.out (fun h => h)⟩
          case measure => simp [intOf]
        · have hL : ledZ cs lb bb = false := by unfold ledZ; rw [if_pos hl]; simpa using hx
          have HL := Lib.hid hL
          have bl : (lb == 0) = true := by simpa using hl
          have bl2 : (lb != 0) = false := by simpa using hl
          have bx : (bb != 0) = true := by simpa using hx
          have bx2 : (bb == 0) = false := by simpa using hx
          clear hL hl hx
          go_wp2
          go_quiet (fail)
          go_wp2
          go_ret
          exact ⟨congrArg (fun z => Ending.returned (.bool z)) (by rw [H1.out, HL.out]; rfl), Hon.out.drewN _⟩
      · have cA := fun w' (ho : Only (fun _ => False) wr w') => progAt _ cs bb w' ((Hp.out).only (Hon.out.trans ho (fun _ h => h.elim)) (fun _ _ h => h))
        have CA := Lib.hid cA
        have bl : (lb == 0) = false := by simpa using hl
        have bl2 : (lb != 0) = true := by simpa using hl
        by_cases ht : (atC cs bb).tag = lb
        · have hL : ledZ cs lb bb = true := by unfold ledZ; rw [if_neg hl]; simpa using ht
          have HL := Lib.hid hL
          have be : (lb != (atC cs bb).tag) = false := by rw [ht]; simp
          have be2 : (lb == (atC cs bb).tag) = true := by rw [ht]; simp
          clear hL hl ht cA
          go_wp2
          refine wp_region_held_drew (S := fun w' => w'.cell? ⟨w.heap.size, 2, none⟩ = some (.int .i64 la) ∧ w'.cell? ⟨w.heap.size, 3, none⟩ = some (.int .i64 lb) ∧ Only (fun _ => False) wr w') (by kernel_rfl) ⟨q2, q3, (Only.refl _ _).drew⟩ (fun hHeld => ?_)
          refine wpAnyH_take (i := 0) (v := ?_) (by simp only [List.getElem?_toArray, List.getElem?_cons_succ, List.getElem?_cons_zero]; rfl) (by kernel_rfl) (by kernel_rfl) (by kernel_rfl) (by exact fun _ _ _ h => h) (Or.inl ⟨by rfl, ?_⟩) (by assumption) ?_
          rotate_left 1
          · (intro w hSw; (try dsimp only at hSw); go_simp; try with_reducible rfl)
          try simp only [Act.put, List.setIfInBounds_toArray, List.set_cons_zero, List.set_cons_succ]
          refine wpAnyH_take (i := 1) (v := ?_) (by simp only [List.getElem?_toArray, List.getElem?_cons_succ, List.getElem?_cons_zero]; rfl) (by kernel_rfl) (by kernel_rfl) (by kernel_rfl) (by exact fun _ _ _ h => h) (Or.inl ⟨by rfl, ?_⟩) (by assumption) ?_
          rotate_left 1
          · (intro w hSw; (try dsimp only at hSw); go_simp; try with_reducible rfl)
          try simp only [Act.put, List.setIfInBounds_toArray, List.set_cons_zero, List.set_cons_succ]
          refine wpAnyH_take (i := 2) (v := ?_) (by simp only [List.getElem?_toArray, List.getElem?_cons_succ, List.getElem?_cons_zero]; rfl) (by kernel_rfl) (by kernel_rfl) (by kernel_rfl) (by exact fun _ _ _ h => h) (Or.inl ⟨by rfl, ?_⟩) (by assumption) ?_
          rotate_left 1
          · (intro w hSw; (try dsimp only at hSw); go_simp; try with_reducible rfl)
          try simp only [Act.put, List.setIfInBounds_toArray, List.set_cons_zero, List.set_cons_succ]
          refine wpAnyH_take (i := 3) (v := ?_) (by simp only [List.getElem?_toArray, List.getElem?_cons_succ, List.getElem?_cons_zero]; rfl) (by kernel_rfl) (by kernel_rfl) (by kernel_rfl) (by exact fun _ _ _ h => h) (Or.inl ⟨by rfl, ?_⟩) (by assumption) ?_
          rotate_left 1
          · (intro w hSw; (try dsimp only at hSw); go_simp; try with_reducible rfl)
          try simp only [Act.put, List.setIfInBounds_toArray, List.set_cons_zero, List.set_cons_succ]
          refine wpAnyH_take (i := 4) (v := ?_) (by simp only [List.getElem?_toArray, List.getElem?_cons_succ, List.getElem?_cons_zero]; rfl) (by kernel_rfl) (by kernel_rfl) (by kernel_rfl) (by exact fun _ _ _ h => h) (Or.inl ⟨by rfl, ?_⟩) (by assumption) ?_
          rotate_left 1
          · (intro w hSw; (try dsimp only at hSw); go_simp; try with_reducible rfl)
          try simp only [Act.put, List.setIfInBounds_toArray, List.set_cons_zero, List.set_cons_succ]
          refine wpAnyH_take (i := 5) (v := ?_) (by simp only [List.getElem?_toArray, List.getElem?_cons_succ, List.getElem?_cons_zero]; rfl) (by kernel_rfl) (by kernel_rfl) (by kernel_rfl) (by exact fun _ _ _ h => h) (Or.inl ⟨by rfl, ?_⟩) (by assumption) ?_
          rotate_left 1
          · (intro w hSw; (try dsimp only at hSw); go_simp; try with_reducible rfl)
          try simp only [Act.put, List.setIfInBounds_toArray, List.set_cons_zero, List.set_cons_succ]
          refine wpAnyH_take (i := 6) (v := undef) (by simp only [List.getElem?_toArray, List.getElem?_cons_succ, List.getElem?_cons_zero]; rfl) (by kernel_rfl) (by kernel_rfl) (by kernel_rfl) (by exact fun _ _ _ h => h) (Or.inr ⟨by rfl, rfl⟩) (by assumption) ?_
          try simp only [Act.put, List.setIfInBounds_toArray, List.set_cons_zero, List.set_cons_succ]
          refine wpAnyH_take (i := 7) (v := undef) (by simp only [List.getElem?_toArray, List.getElem?_cons_succ, List.getElem?_cons_zero]; rfl) (by kernel_rfl) (by kernel_rfl) (by kernel_rfl) (by exact fun _ _ _ h => h) (Or.inr ⟨by rfl, rfl⟩) (by assumption) ?_
          try simp only [Act.put, List.setIfInBounds_toArray, List.set_cons_zero, List.set_cons_succ]
          refine wpAnyH_take (i := 8) (v := ?_) (by simp only [List.getElem?_toArray, List.getElem?_cons_succ, List.getElem?_cons_zero]; rfl) (by kernel_rfl) (by kernel_rfl) (by kernel_rfl) (by exact fun _ _ _ h => h) (Or.inl ⟨by rfl, ?_⟩) (by assumption) ?_
          rotate_left 1
          · (intro w hSw; (try dsimp only at hSw); go_simp; try with_reducible rfl)
          try simp only [Act.put, List.setIfInBounds_toArray, List.set_cons_zero, List.set_cons_succ]
          refine wpAnyH_take (i := 9) (v := ?_) (by simp only [List.getElem?_toArray, List.getElem?_cons_succ, List.getElem?_cons_zero]; rfl) (by kernel_rfl) (by kernel_rfl) (by kernel_rfl) (by exact fun _ _ _ h => h) (Or.inl ⟨by rfl, ?_⟩) (by assumption) ?_
          rotate_left 1
          · (intro w hSw; (try dsimp only at hSw); go_simp; try with_reducible rfl)
          try simp only [Act.put, List.setIfInBounds_toArray, List.set_cons_zero, List.set_cons_succ]
          refine wpAnyH_take (i := 10) (v := ?_) (by simp only [List.getElem?_toArray, List.getElem?_cons_succ, List.getElem?_cons_zero]; rfl) (by kernel_rfl) (by kernel_rfl) (by kernel_rfl) (by exact fun _ _ _ h => h) (Or.inl ⟨by rfl, ?_⟩) (by assumption) ?_
          rotate_left 1
          · (intro w hSw; (try dsimp only at hSw); go_simp; try with_reducible rfl)
          try simp only [Act.put, List.setIfInBounds_toArray, List.set_cons_zero, List.set_cons_succ]
          refine wpAnyH_take (i := 11) (v := ?_) (by simp only [List.getElem?_toArray, List.getElem?_cons_succ, List.getElem?_cons_zero]; rfl) (by kernel_rfl) (by kernel_rfl) (by kernel_rfl) (by exact fun _ _ _ h => h) (Or.inl ⟨by rfl, ?_⟩) (by assumption) ?_
          rotate_left 1
          · (intro w hSw; (try dsimp only at hSw); go_simp; try with_reducible rfl)
          try simp only [Act.put, List.setIfInBounds_toArray, List.set_cons_zero, List.set_cons_succ]
          refine wpAnyH_take (i := 12) (v := ?_) (by simp only [List.getElem?_toArray, List.getElem?_cons_succ, List.getElem?_cons_zero]; rfl) (by kernel_rfl) (by kernel_rfl) (by kernel_rfl) (by exact fun _ _ _ h => h) (Or.inl ⟨by rfl, ?_⟩) (by assumption) ?_
          rotate_left 1
          · (intro w hSw; (try dsimp only at hSw); go_simp; try with_reducible rfl)
          try simp only [Act.put, List.setIfInBounds_toArray, List.set_cons_zero, List.set_cons_succ]
          refine wpAnyH_take (i := 13) (v := ?_) (by simp only [List.getElem?_toArray, List.getElem?_cons_succ, List.getElem?_cons_zero]; rfl) (by kernel_rfl) (by kernel_rfl) (by kernel_rfl) (by exact fun _ _ _ h => h) (Or.inl ⟨by rfl, ?_⟩) (by assumption) ?_
          rotate_left 1
          · (intro w hSw; (try dsimp only at hSw); go_simp; try with_reducible rfl)
          try simp only [Act.put, List.setIfInBounds_toArray, List.set_cons_zero, List.set_cons_succ]
          refine wpAnyH_take (i := 14) (v := ?_) (by simp only [List.getElem?_toArray, List.getElem?_cons_succ, List.getElem?_cons_zero]; rfl) (by kernel_rfl) (by kernel_rfl) (by kernel_rfl) (by exact fun _ _ _ h => h) (Or.inl ⟨by rfl, ?_⟩) (by assumption) ?_
          rotate_left 1
          · (intro w hSw; (try dsimp only at hSw); go_simp; try with_reducible rfl)
          try simp only [Act.put, List.setIfInBounds_toArray, List.set_cons_zero, List.set_cons_succ]
          refine wpAnyH_take (i := 15) (v := ?_) (by simp only [List.getElem?_toArray, List.getElem?_cons_succ, List.getElem?_cons_zero]; rfl) (by kernel_rfl) (by kernel_rfl) (by kernel_rfl) (by exact fun _ _ _ h => h) (Or.inl ⟨by rfl, ?_⟩) (by assumption) ?_
          rotate_left 1
          · (intro w hSw; (try dsimp only at hSw); go_simp; try with_reducible rfl)
          try simp only [Act.put, List.setIfInBounds_toArray, List.set_cons_zero, List.set_cons_succ]
          refine wpAnyH_ready (rs := [16]) (by kernel_rfl) (by simp) ?_
          refine AllReadyH.cons (by simp only [List.getElem?_toArray, List.getElem?_cons_succ, List.getElem?_cons_zero]; rfl) (fun K hK => ?_) AllReadyH.nil
          go_simp
          refine (CA.out _ hHeld.2.2).mono ?_; rintro e w1 ⟨rfl, ho1⟩; have HW := Lib.hid (hHeld.2.2.trans ho1 (fun _ h => h.elim)); have Q2 := Lib.hid (ho1.cell hHeld.1 (fun h => h)); have Q3 := Lib.hid (ho1.cell hHeld.2.1 (fun h => h)); clear ho1
          go_wp2_with fail
          refine hK.out _ _ ?_ (fun hHeld2 => ?_)
          · exact ⟨Q2.out, Q3.out, HW.out⟩
          clear hK K
          try simp only [Act.put, List.setIfInBounds_toArray, List.set_cons_zero, List.set_cons_succ]
          clear hHeld
          have hHeld := hHeld2
          clear hHeld2
          refine wpAnyH_take (i := 17) (v := ?_) (by simp only [List.getElem?_toArray, List.getElem?_cons_succ, List.getElem?_cons_zero]; rfl) (by kernel_rfl) (by kernel_rfl) (by kernel_rfl) (by exact fun _ _ _ h => h) (Or.inl ⟨by rfl, ?_⟩) (by assumption) ?_
          rotate_left 1
          · (intro w hSw; (try dsimp only at hSw); go_simp; try with_reducible rfl)
          try simp only [Act.put, List.setIfInBounds_toArray, List.set_cons_zero, List.set_cons_succ]
          refine wpAnyH_take (i := 18) (v := ?_) (by simp only [List.getElem?_toArray, List.getElem?_cons_succ, List.getElem?_cons_zero]; rfl) (by kernel_rfl) (by kernel_rfl) (by kernel_rfl) (by exact fun _ _ _ h => h) (Or.inl ⟨by rfl, ?_⟩) (by assumption) ?_
          rotate_left 1
          · (intro w hSw; (try dsimp only at hSw); go_simp; try with_reducible rfl)
          try simp only [Act.put, List.setIfInBounds_toArray, List.set_cons_zero, List.set_cons_succ]
          refine wpAnyH_take (i := 19) (v := ?_) (by simp only [List.getElem?_toArray, List.getElem?_cons_succ, List.getElem?_cons_zero]; rfl) (by kernel_rfl) (by kernel_rfl) (by kernel_rfl) (by exact fun _ _ _ h => h) (Or.inl ⟨by rfl, ?_⟩) (by assumption) ?_
          rotate_left 1
          · (intro w hSw; (try dsimp only at hSw); go_simp; try with_reducible rfl)
          try simp only [Act.put, List.setIfInBounds_toArray, List.set_cons_zero, List.set_cons_succ]
          refine wpAnyH_done (by kernel_rfl) ?_ _
          go_wp2
          go_roundw
          case rel => exact ⟨.inr (.inr ⟨rfl, H1.out, HL.out⟩), Hon.out.trans HW.out (fun _ h => h.elim), HW.out.heap Hblk.out (fun h => h)⟩
          case measure => simp [intOf]
        · have hL : ledZ cs lb bb = false := by unfold ledZ; rw [if_neg hl]; simpa using ht
          have HL := Lib.hid hL
          have be : (lb != (atC cs bb).tag) = true := by simpa using fun e => ht e.symm
          have be2 : (lb == (atC cs bb).tag) = false := by simpa using fun e => ht e.symm
          clear hL hl ht cA
          go_wp2
          refine wp_region_held_drew (S := fun w' => w'.cell? ⟨w.heap.size, 2, none⟩ = some (.int .i64 la) ∧ w'.cell? ⟨w.heap.size, 3, none⟩ = some (.int .i64 lb) ∧ Only (fun _ => False) wr w') (by kernel_rfl) ⟨q2, q3, (Only.refl _ _).drew⟩ (fun hHeld => ?_)
          refine wpAnyH_take (i := 0) (v := ?_) (by simp only [List.getElem?_toArray, List.getElem?_cons_succ, List.getElem?_cons_zero]; rfl) (by kernel_rfl) (by kernel_rfl) (by kernel_rfl) (by exact fun _ _ _ h => h) (Or.inl ⟨by rfl, ?_⟩) (by assumption) ?_
          rotate_left 1
          · (intro w hSw; (try dsimp only at hSw); go_simp; try with_reducible rfl)
          try simp only [Act.put, List.setIfInBounds_toArray, List.set_cons_zero, List.set_cons_succ]
          refine wpAnyH_take (i := 1) (v := ?_) (by simp only [List.getElem?_toArray, List.getElem?_cons_succ, List.getElem?_cons_zero]; rfl) (by kernel_rfl) (by kernel_rfl) (by kernel_rfl) (by exact fun _ _ _ h => h) (Or.inl ⟨by rfl, ?_⟩) (by assumption) ?_
          rotate_left 1
          · (intro w hSw; (try dsimp only at hSw); go_simp; try with_reducible rfl)
          try simp only [Act.put, List.setIfInBounds_toArray, List.set_cons_zero, List.set_cons_succ]
          refine wpAnyH_take (i := 2) (v := ?_) (by simp only [List.getElem?_toArray, List.getElem?_cons_succ, List.getElem?_cons_zero]; rfl) (by kernel_rfl) (by kernel_rfl) (by kernel_rfl) (by exact fun _ _ _ h => h) (Or.inl ⟨by rfl, ?_⟩) (by assumption) ?_
          rotate_left 1
          · (intro w hSw; (try dsimp only at hSw); go_simp; try with_reducible rfl)
          try simp only [Act.put, List.setIfInBounds_toArray, List.set_cons_zero, List.set_cons_succ]
          refine wpAnyH_take (i := 3) (v := ?_) (by simp only [List.getElem?_toArray, List.getElem?_cons_succ, List.getElem?_cons_zero]; rfl) (by kernel_rfl) (by kernel_rfl) (by kernel_rfl) (by exact fun _ _ _ h => h) (Or.inl ⟨by rfl, ?_⟩) (by assumption) ?_
          rotate_left 1
          · (intro w hSw; (try dsimp only at hSw); go_simp; try with_reducible rfl)
          try simp only [Act.put, List.setIfInBounds_toArray, List.set_cons_zero, List.set_cons_succ]
          refine wpAnyH_take (i := 4) (v := ?_) (by simp only [List.getElem?_toArray, List.getElem?_cons_succ, List.getElem?_cons_zero]; rfl) (by kernel_rfl) (by kernel_rfl) (by kernel_rfl) (by exact fun _ _ _ h => h) (Or.inl ⟨by rfl, ?_⟩) (by assumption) ?_
          rotate_left 1
          · (intro w hSw; (try dsimp only at hSw); go_simp; try with_reducible rfl)
          try simp only [Act.put, List.setIfInBounds_toArray, List.set_cons_zero, List.set_cons_succ]
          refine wpAnyH_take (i := 5) (v := ?_) (by simp only [List.getElem?_toArray, List.getElem?_cons_succ, List.getElem?_cons_zero]; rfl) (by kernel_rfl) (by kernel_rfl) (by kernel_rfl) (by exact fun _ _ _ h => h) (Or.inl ⟨by rfl, ?_⟩) (by assumption) ?_
          rotate_left 1
          · (intro w hSw; (try dsimp only at hSw); go_simp; try with_reducible rfl)
          try simp only [Act.put, List.setIfInBounds_toArray, List.set_cons_zero, List.set_cons_succ]
          refine wpAnyH_take (i := 6) (v := undef) (by simp only [List.getElem?_toArray, List.getElem?_cons_succ, List.getElem?_cons_zero]; rfl) (by kernel_rfl) (by kernel_rfl) (by kernel_rfl) (by exact fun _ _ _ h => h) (Or.inr ⟨by rfl, rfl⟩) (by assumption) ?_
          try simp only [Act.put, List.setIfInBounds_toArray, List.set_cons_zero, List.set_cons_succ]
          refine wpAnyH_take (i := 7) (v := undef) (by simp only [List.getElem?_toArray, List.getElem?_cons_succ, List.getElem?_cons_zero]; rfl) (by kernel_rfl) (by kernel_rfl) (by kernel_rfl) (by exact fun _ _ _ h => h) (Or.inr ⟨by rfl, rfl⟩) (by assumption) ?_
          try simp only [Act.put, List.setIfInBounds_toArray, List.set_cons_zero, List.set_cons_succ]
          refine wpAnyH_take (i := 8) (v := ?_) (by simp only [List.getElem?_toArray, List.getElem?_cons_succ, List.getElem?_cons_zero]; rfl) (by kernel_rfl) (by kernel_rfl) (by kernel_rfl) (by exact fun _ _ _ h => h) (Or.inl ⟨by rfl, ?_⟩) (by assumption) ?_
          rotate_left 1
          · (intro w hSw; (try dsimp only at hSw); go_simp; try with_reducible rfl)
          try simp only [Act.put, List.setIfInBounds_toArray, List.set_cons_zero, List.set_cons_succ]
          refine wpAnyH_take (i := 9) (v := ?_) (by simp only [List.getElem?_toArray, List.getElem?_cons_succ, List.getElem?_cons_zero]; rfl) (by kernel_rfl) (by kernel_rfl) (by kernel_rfl) (by exact fun _ _ _ h => h) (Or.inl ⟨by rfl, ?_⟩) (by assumption) ?_
          rotate_left 1
          · (intro w hSw; (try dsimp only at hSw); go_simp; try with_reducible rfl)
          try simp only [Act.put, List.setIfInBounds_toArray, List.set_cons_zero, List.set_cons_succ]
          refine wpAnyH_take (i := 10) (v := ?_) (by simp only [List.getElem?_toArray, List.getElem?_cons_succ, List.getElem?_cons_zero]; rfl) (by kernel_rfl) (by kernel_rfl) (by kernel_rfl) (by exact fun _ _ _ h => h) (Or.inl ⟨by rfl, ?_⟩) (by assumption) ?_
          rotate_left 1
          · (intro w hSw; (try dsimp only at hSw); go_simp; try with_reducible rfl)
          try simp only [Act.put, List.setIfInBounds_toArray, List.set_cons_zero, List.set_cons_succ]
          refine wpAnyH_take (i := 11) (v := ?_) (by simp only [List.getElem?_toArray, List.getElem?_cons_succ, List.getElem?_cons_zero]; rfl) (by kernel_rfl) (by kernel_rfl) (by kernel_rfl) (by exact fun _ _ _ h => h) (Or.inl ⟨by rfl, ?_⟩) (by assumption) ?_
          rotate_left 1
          · (intro w hSw; (try dsimp only at hSw); go_simp; try with_reducible rfl)
          try simp only [Act.put, List.setIfInBounds_toArray, List.set_cons_zero, List.set_cons_succ]
          refine wpAnyH_take (i := 12) (v := ?_) (by simp only [List.getElem?_toArray, List.getElem?_cons_succ, List.getElem?_cons_zero]; rfl) (by kernel_rfl) (by kernel_rfl) (by kernel_rfl) (by exact fun _ _ _ h => h) (Or.inl ⟨by rfl, ?_⟩) (by assumption) ?_
          rotate_left 1
          · (intro w hSw; (try dsimp only at hSw); go_simp; try with_reducible rfl)
          try simp only [Act.put, List.setIfInBounds_toArray, List.set_cons_zero, List.set_cons_succ]
          refine wpAnyH_take (i := 13) (v := ?_) (by simp only [List.getElem?_toArray, List.getElem?_cons_succ, List.getElem?_cons_zero]; rfl) (by kernel_rfl) (by kernel_rfl) (by kernel_rfl) (by exact fun _ _ _ h => h) (Or.inl ⟨by rfl, ?_⟩) (by assumption) ?_
          rotate_left 1
          · (intro w hSw; (try dsimp only at hSw); go_simp; try with_reducible rfl)
          try simp only [Act.put, List.setIfInBounds_toArray, List.set_cons_zero, List.set_cons_succ]
          refine wpAnyH_take (i := 14) (v := ?_) (by simp only [List.getElem?_toArray, List.getElem?_cons_succ, List.getElem?_cons_zero]; rfl) (by kernel_rfl) (by kernel_rfl) (by kernel_rfl) (by exact fun _ _ _ h => h) (Or.inl ⟨by rfl, ?_⟩) (by assumption) ?_
          rotate_left 1
          · (intro w hSw; (try dsimp only at hSw); go_simp; try with_reducible rfl)
          try simp only [Act.put, List.setIfInBounds_toArray, List.set_cons_zero, List.set_cons_succ]
          refine wpAnyH_take (i := 15) (v := ?_) (by simp only [List.getElem?_toArray, List.getElem?_cons_succ, List.getElem?_cons_zero]; rfl) (by kernel_rfl) (by kernel_rfl) (by kernel_rfl) (by exact fun _ _ _ h => h) (Or.inl ⟨by rfl, ?_⟩) (by assumption) ?_
          rotate_left 1
          · (intro w hSw; (try dsimp only at hSw); go_simp; try with_reducible rfl)
          try simp only [Act.put, List.setIfInBounds_toArray, List.set_cons_zero, List.set_cons_succ]
          refine wpAnyH_ready (rs := [16]) (by kernel_rfl) (by simp) ?_
          refine AllReadyH.cons (by simp only [List.getElem?_toArray, List.getElem?_cons_succ, List.getElem?_cons_zero]; rfl) (fun K hK => ?_) AllReadyH.nil
          go_simp
          refine (CA.out _ hHeld.2.2).mono ?_; rintro e w1 ⟨rfl, ho1⟩; have HW := Lib.hid (hHeld.2.2.trans ho1 (fun _ h => h.elim)); have Q2 := Lib.hid (ho1.cell hHeld.1 (fun h => h)); have Q3 := Lib.hid (ho1.cell hHeld.2.1 (fun h => h)); clear ho1
          go_wp2_with fail
          refine hK.out _ _ ?_ (fun hHeld2 => ?_)
          · exact ⟨Q2.out, Q3.out, HW.out⟩
          clear hK K
          try simp only [Act.put, List.setIfInBounds_toArray, List.set_cons_zero, List.set_cons_succ]
          clear hHeld
          have hHeld := hHeld2
          clear hHeld2
          refine wpAnyH_take (i := 17) (v := ?_) (by simp only [List.getElem?_toArray, List.getElem?_cons_succ, List.getElem?_cons_zero]; rfl) (by kernel_rfl) (by kernel_rfl) (by kernel_rfl) (by exact fun _ _ _ h => h) (Or.inl ⟨by rfl, ?_⟩) (by assumption) ?_
          rotate_left 1
          · (intro w hSw; (try dsimp only at hSw); go_simp; try with_reducible rfl)
          try simp only [Act.put, List.setIfInBounds_toArray, List.set_cons_zero, List.set_cons_succ]
          refine wpAnyH_take (i := 18) (v := ?_) (by simp only [List.getElem?_toArray, List.getElem?_cons_succ, List.getElem?_cons_zero]; rfl) (by kernel_rfl) (by kernel_rfl) (by kernel_rfl) (by exact fun _ _ _ h => h) (Or.inl ⟨by rfl, ?_⟩) (by assumption) ?_
          rotate_left 1
          · (intro w hSw; (try dsimp only at hSw); go_simp; try with_reducible rfl)
          try simp only [Act.put, List.setIfInBounds_toArray, List.set_cons_zero, List.set_cons_succ]
          refine wpAnyH_take (i := 19) (v := ?_) (by simp only [List.getElem?_toArray, List.getElem?_cons_succ, List.getElem?_cons_zero]; rfl) (by kernel_rfl) (by kernel_rfl) (by kernel_rfl) (by exact fun _ _ _ h => h) (Or.inl ⟨by rfl, ?_⟩) (by assumption) ?_
          rotate_left 1
          · (intro w hSw; (try dsimp only at hSw); go_simp; try with_reducible rfl)
          try simp only [Act.put, List.setIfInBounds_toArray, List.set_cons_zero, List.set_cons_succ]
          refine wpAnyH_done (by kernel_rfl) ?_ _
          go_wp2
          go_ret
          exact ⟨congrArg (fun z => Ending.returned (.bool z)) (by rw [H1.out, HL.out]; rfl), Hon.out.trans HW.out (fun _ h => h.elim)⟩
    · go_wp2
      go_ret
      exact ⟨congrArg (fun z => Ending.returned (.bool z)) (by rw [h1, h2]; rfl), Hon.out⟩
end Go.Proofs.YtodhdiccfobcfaaGreatDoor
namespace Go.Proofs.YtodhdiccfobcfaaGreatDoor
open Go.RowKit Go.Shelf
set_option linter.unusedVariables false
set_option linter.unusedSimpArgs false

theorem empty_enc : Enc (nums ⟨#[]⟩) [] 0 := .inl ⟨[], ⟨(fun c hc => (by cases hc)), rfl⟩, rfl, rfl⟩
theorem empty_not_bad : ¬ TextBad ⟨#[]⟩ := fun h => by
  rcases h [] 0 empty_enc with h | h
  · exact h rfl
  · simp at h
theorem bad_len {x : ByteArray} {ys : List Int} {k : Int} (h : Enc (nums x) ys k) : TextBad x ↔ (256 < ys.length ∨ (ys.length = 0 ∧ x ≠ ⟨#[]⟩)) := by
  constructor
  · intro hb
    rcases hb ys k h with hk | hl
    · rcases h with ⟨cs, ht, rfl, rfl⟩ | ⟨hn, rfl, rfl⟩
      · exact absurd rfl hk
      · refine .inr ⟨rfl, fun e => hn ?_⟩
        subst e
        exact ⟨[], ⟨fun c hc => (by cases hc), rfl⟩⟩
    · exact .inl hl
  · intro hb ys' k' h'
    obtain ⟨rfl, rfl⟩ := Enc.unique h h'
    rcases hb with hl | ⟨h0, hx⟩
    · exact .inr hl
    · rcases h with ⟨cs, ht, rfl, rfl⟩ | ⟨hn, rfl, rfl⟩
      · exfalso
        have h1 := (M8s_len ht.1).1
        rw [← ht.2, nums_len, h0] at h1
        apply hx
        rcases x with ⟨⟨l⟩⟩
        cases l with
        | nil => rfl
        | cons a r => simp [ByteArray.size] at h1
      · exact .inl (by decide)
open Classical in
theorem oneZ_shape (cs : List ConstV) (c : ConstV) : oneZ cs c = if (shapeZ c.tag).2 = true ∧ holdsZ (shapeZ c.tag).1 c = true ∧ (ledZ cs (shapeZ c.tag).1.la c.a && ledZ cs (shapeZ c.tag).1.lb c.b) = true then (if TextBad c.text then 20 else 0) else 40 := by
  obtain ⟨t, x, n, a, b⟩ := c
  have e0 : ∀ z, ledZ cs 0 z = decide (z = 0) := fun z => by unfold ledZ; rw [if_pos rfl]
  have e1 : ∀ l z, l ≠ 0 → ledZ cs l z = isZ cs z l := fun l z hl => by unfold ledZ; rw [if_neg hl, atC_tag cs z hl]
  unfold oneZ bareZ shapeZ holdsZ
  simp only
  by_cases h1 : t = 1
  · subst h1
    by_cases hn : n = 0 <;> by_cases ha : a = 0 <;> by_cases hb : b = 0 <;> simp [e0, hn, ha, hb]
  by_cases h5 : t = 5
  · subst h5
    by_cases hx : x = ⟨#[]⟩ <;> by_cases ha : a = 0 <;> by_cases hb : b = 0 <;> simp [e0, hx, ha, hb, empty_not_bad]
  by_cases h3 : t = 3
  · subst h3
    by_cases hx : x = ⟨#[]⟩ <;> by_cases hn : -2147483648 ≤ n ∧ n ≤ 2147483647 <;> by_cases ha : a = 0 <;> by_cases hb : b = 0 <;> simp [e0, hx, hn, ha, hb, empty_not_bad]
  by_cases h12 : t = 12
  · subst h12
    cases hA : isZ cs a 1 <;> cases hB : isZ cs b 1 <;> by_cases hx : x = ⟨#[]⟩ <;> by_cases hn : n = 0 <;> simp [e1, hA, hB, hx, hn, empty_not_bad]
  by_cases h7 : t = 7
  · subst h7
    cases hA : isZ cs a 1 <;> by_cases hx : x = ⟨#[]⟩ <;> by_cases hn : n = 0 <;> by_cases hb : b = 0 <;> simp [e0, e1, hA, hx, hn, hb, empty_not_bad]
  by_cases h9 : t = 9 ∨ t = 10
  · cases hA : isZ cs a 7 <;> cases hB : isZ cs b 12 <;> by_cases hx : x = ⟨#[]⟩ <;> by_cases hn : n = 0 <;> simp [h1, h3, h5, h7, h9, h12, e1, hA, hB, hx, hn, empty_not_bad]
  simp [h1, h3, h5, h7, h9, h12]
theorem progHolds (txt : Bool) (sz la lb : Int) (c : ConstV) (w : World) (hr : ConstR c) (hs : sz = 0 ∨ sz = 4 ∨ sz = 8) :
    Calls Tryz.prog 135 #[.agg #[.bool txt, .int .i64 sz, .int .i64 la, .int .i64 lb], .agg #[.int .i64 c.tag, .string c.text, .int .i64 c.n, .int .i64 c.a, .int .i64 c.b]] w fun e w' => e = .returned (.bool (holdsZ ⟨txt, sz, la, lb⟩ c)) ∧ Only (fun _ => False) w w' := by
  rcases hs with rfl | rfl | rfl
  · exact progHolds0 txt la lb c w hr
  · exact progHolds4 txt la lb c w hr
  · exact progHolds8 txt la lb c w hr
theorem shapeZ_size (t : Int) : (shapeZ t).1.size = 0 ∨ (shapeZ t).1.size = 4 ∨ (shapeZ t).1.size = 8 := by
  unfold shapeZ
  repeat' split
  all_goals simp
theorem Tabs.lt {w : World} (h : Tabs w) : 1 < w.heap.size := by
  have h2 := (h.2 0 (by decide)).1
  have := World.block_lt_of_cell? w _ h2
  simp at this
  omega

theorem Tabs.lt3 {w : World} (h : Tabs w) : 3 ≤ w.heap.size := by
  have h2 := (h.2 0 (by decide)).1
  have := World.block_lt_of_cell? w _ h2
  simp at this
  omega

set_option maxHeartbeats 4000000 in
set_option maxRecDepth 100000 in
theorem progConst (v : Value) (cs : List ConstV) (c : ConstV) (w : World) (hp : Pool w v cs) (hr : ConstR c) (hT : Tabs w) :
    Calls Tryz.prog 119 #[v, .agg #[.int .i64 c.tag, .string c.text, .int .i64 c.n, .int .i64 c.a, .int .i64 c.b]] w fun e w' => e = .returned (.int .i64 (oneZ cs c)) ∧ Only (fun _ => False) w w' := by
  obtain ⟨ao, cap, rfl, _, _, _, _, _⟩ := id hp
  have hz := oneZ_shape cs c
  have hsz := shapeZ_size c.tag
  obtain ⟨q, hq⟩ : ∃ q, shapeZ c.tag = q := ⟨_, rfl⟩
  have cS := fun w => progShape c.tag w
  rw [hq] at hz hsz cS
  obtain ⟨⟨tx, sz, la, lb⟩, ok⟩ := q
  have cH := fun w => progHolds tx sz la lb c w hr hsz
  have cL := fun w' (ho : Only (fun _ => False) w w') => progLed _ cs tx sz la lb c w' (hp.only ho (fun _ _ h => h))
  have cN := fun w' (ho : Only (fun _ => False) w w') => lenOf c.text w' (by have := hr.rt; omega) (hT.only ho (fun h => h) (fun h => h)) (hT.only ho (fun h => h) (fun h => h)).lt
  simp only at hz cS cH cL cN hsz
  have hbad : ∀ ys k, Enc (nums c.text) ys k → _ := fun ys k h => bad_len h
  obtain ⟨H, hH⟩ : ∃ H, holdsZ ⟨tx, sz, la, lb⟩ c = H := ⟨_, rfl⟩
  obtain ⟨L, hL⟩ : ∃ L, (ledZ cs la c.a && ledZ cs lb c.b) = L := ⟨_, rfl⟩
  rw [hH, hL] at hz
  rw [hH] at cH
  rw [hL] at cL
  obtain ⟨t, x, n, a, b⟩ := c
  obtain ⟨r0, r2, r3, r4, _⟩ := hr
  unfold I64 at r0 r2 r3 r4
  simp only at *
  have CS := Lib.hid cS
  have CH := Lib.hid cH
  have CL := Lib.hid cL
  have CN := Lib.hid cN
  have HZ := Lib.hid hz
  have HB := Lib.hid hbad
  clear cS cH cL cN hz hbad hH hL hq hp hT hsz
  go_enter Tryz.func119, Tryz.ntmps119
  go_wp2_with (fail)
  refine (CS.out _).mono ?_
  rintro e w1 ⟨rfl, ho1⟩
  have hblk := ho1.heap (heap_alloc_new w _) (fun h => h)
  have q0 := cell_blk hblk 0
  have q1 := cell_blk hblk 1
  have q2 := cell_blk hblk 2
  have q3 := cell_blk hblk 3
  have q4 := cell_blk hblk 4
  simp at q0 q1 q2 q3 q4
  have HO1 := Lib.hid (((Only.refl (fun _ => False) w).alloc _).trans ho1 (fun _ h => h.elim))
  have hsA : Only (fun _ => False) w1 (w1.alloc (.cells #[.bool tx, .int .i64 sz, .int .i64 la, .int .i64 lb] 152)) := (Only.refl _ _).alloc _
  have u0 := hsA.cell q0 (fun h => h)
  have u1 := hsA.cell q1 (fun h => h)
  have u2 := hsA.cell q2 (fun h => h)
  have u3 := hsA.cell q3 (fun h => h)
  have u4 := hsA.cell q4 (fun h => h)
  clear ho1 hblk hsA
  cases ok with
  | false =>
    go_wp2
    go_ret
    exact ⟨congrArg (fun z => Ending.returned (.int .i64 z)) (by rw [HZ.out, if_neg (by simp)]), HO1.out.alloc _⟩
  | true =>
    cases H with
    | false =>
      go_wp2_with (fail)
      refine (CH.out _).mono ?_
      rintro e w2 ⟨rfl, ho2⟩
      have HO2 := Lib.hid ((HO1.out.alloc _).trans ho2 (fun _ h => h.elim))
      clear ho2
      go_wp2
      go_ret
      exact ⟨congrArg (fun z => Ending.returned (.int .i64 z)) (by rw [HZ.out, if_neg (by simp)]), HO2.out⟩
    | true =>
      go_wp2_with (fail)
      refine (CH.out _).mono ?_
      rintro e w2 ⟨rfl, ho2⟩
      have ho12 := ((Only.refl (fun _ => False) w1).alloc (.cells #[.bool tx, .int .i64 sz, .int .i64 la, .int .i64 lb] 152)).trans ho2 (fun _ h => h.elim)
      have HO2 := Lib.hid (HO1.out.trans ho12 (fun _ h => h.elim))
      have hsb := ho2.heap (heap_alloc_new w1 _) (fun h => h)
      have s0 := cell_blk hsb 0
      have s1 := cell_blk hsb 1
      have s2 := cell_blk hsb 2
      have s3 := cell_blk hsb 3
      simp at s0 s1 s2 s3
      have p0 := ho12.cell q0 (fun h => h)
      have p1 := ho12.cell q1 (fun h => h)
      have p2 := ho12.cell q2 (fun h => h)
      have p3 := ho12.cell q3 (fun h => h)
      have p4 := ho12.cell q4 (fun h => h)
      clear q0 q1 q2 q3 q4 u0 u1 u2 u3 u4 hsb ho2 ho12
      cases L with
      | false =>
        go_wp2_with (fail)
        refine (CL.out _ (HO2.out)).mono ?_
        rintro e w3 ⟨rfl, ho3⟩
        have HO3 := Lib.hid (HO2.out.trans ho3 (fun _ h => h.elim))
        clear ho3
        go_wp2
        go_ret
        exact ⟨congrArg (fun z => Ending.returned (.int .i64 z)) (by rw [HZ.out, if_neg (by simp)]), HO3.out⟩
      | true =>
        go_wp2_with (fail)
        refine (CL.out _ (HO2.out)).mono ?_
        rintro e w3 ⟨rfl, ho3⟩
        have HO3 := Lib.hid (HO2.out.trans ho3 (fun _ h => h.elim))
        have x1 := ho3.cell p1 (fun h => h)
        clear ho3 p0 p1 p2 p3 p4 s0 s1 s2 s3
        go_wp2_with (fail)
        refine (CN.out _ (HO3.out)).mono ?_
        rintro e w4 ⟨ys, k, rfl, henc, ho4⟩
        have hb := HB.out ys k henc
        have y1 := ho4.cell x1 (fun h => h)
        have HO4 := Lib.hid (HO3.out.trans ho4 (fun _ h => h.elim))
        clear ho4 x1 henc
        by_cases h1 : 256 < ys.length
        · have HT := Lib.hid (hb.2 (.inl h1))
          have h1z : (256 : Int) < (ys.length : Int) := by omega
          clear hb
          go_wp2
          go_ret
          exact ⟨congrArg (fun z => Ending.returned (.int .i64 z)) (by rw [HZ.out, if_pos (by simp), if_pos HT.out]), HO4.out⟩
        have h1z : (ys.length : Int) ≤ 256 := by omega
        by_cases h2 : ys.length = 0
        · by_cases h3 : x = ⟨#[]⟩
          · have HT := Lib.hid (show ¬ TextBad x from fun h => by rcases hb.1 h with h | h; (exact h1 h); (exact h.2 h3))
            subst h3
            have h2z : (ys.length : Int) = 0 := by omega
            clear hb
            go_wp2
            go_ret
            exact ⟨congrArg (fun z => Ending.returned (.int .i64 z)) (by rw [HZ.out, if_pos (by simp), if_neg HT.out]), HO4.out⟩
          · have HT := Lib.hid (hb.2 (.inr ⟨h2, h3⟩))
            have hx1 : x.toList.isEmpty = false := by
              rw [Bool.eq_false_iff]
              intro h
              exact h3 (by rw [empty_text]; simpa using h)
            have h2z : (ys.length : Int) = 0 := by omega
            clear hb h3
            go_wp2
            go_ret
            exact ⟨congrArg (fun z => Ending.returned (.int .i64 z)) (by rw [HZ.out, if_pos (by simp), if_pos HT.out]), HO4.out⟩
        · have HT := Lib.hid (show ¬ TextBad x from fun h => by rcases hb.1 h with h | h; (exact h1 h); (exact h2 h.1))
          have h2z : ((ys.length : Int) == 0) = false := by simp only [beq_eq_false_iff_ne]; omega
          clear hb h2
          go_wp2
          go_ret
          exact ⟨congrArg (fun z => Ending.returned (.int .i64 z)) (by rw [HZ.out, if_pos (by simp), if_neg HT.out]), HO4.out⟩
end Go.Proofs.YtodhdiccfobcfaaGreatDoor
