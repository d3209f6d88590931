/- The program's map of places: where the instructions of a list begin. Condition: the beginnings are integers of the machine. -/
import Derived.Maps.OwnSet
import Derived.Maps.OwnIn
import Derived.Test.YtngoajhnnlnphaaFloM
namespace Go.Proofs.Ytngoajhnnlnphaa
open Go.RowKit Go.Shelf Go.Maps
set_option linter.unusedVariables false
set_option linter.unusedSimpArgs false

/-- The map's datum, when so many instructions have been laid. -/
def placesD (l : List InstrV) : Nat → DataW Unit
  | 0 => .map []
  | j + 1 => (placesD l j).put (.int .i64 (l.getD j default).at_) (.lit (.int .i64 j))
theorem places_map (l : List InstrV) : ∀ j, IsMap (placesD l j)
  | 0 => isMap_empty
  | j + 1 => (places_map l j).put _ _
theorem places_has (l : List InstrV) (x : Int) : ∀ j, Maps.has (placesD l j) (.int .i64 x) = true ↔ ∃ m, m < j ∧ (l.getD m default).at_ = x
  | 0 => by simp [placesD, Maps.has]
  | j + 1 => by
    unfold placesD
    by_cases h : x = (l.getD j default).at_
    · rw [h, has_put_same (k := .int .i64 (l.getD j default).at_) (places_map l j) trivial]
      exact ⟨fun _ => ⟨j, by omega, rfl⟩, fun _ => rfl⟩
    · rw [has_put_other (by intro e; cases e; exact h rfl), places_has l x j]
      constructor
      · rintro ⟨m, hm, e⟩
        exact ⟨m, by omega, e⟩
      · rintro ⟨m, hm, e⟩
        refine ⟨m, ?_, e⟩
        by_cases hmj : m = j
        · subst hmj
          exact absurd e.symm h
        · omega
theorem places_at (l : List InstrV) (x : Int) : Maps.has (placesD l l.length) (.int .i64 x) = !decide (atZ l x < 0) := by
  rw [Bool.eq_iff_iff, places_has]
  rcases atZ_cases l x with ⟨h1, h2⟩ | ⟨j, h1, h2, h3, h4⟩
  · rw [h1]
    simp only [Int.reduceNeg, Int.reduceLT, decide_true, Bool.not_true, Bool.false_eq_true, iff_false]
    rintro ⟨m, hm, e⟩
    exact h2 _ (getD_mem hm) e
  · rw [h2, show decide ((j : Int) < 0) = false by simp]
    exact ⟨fun _ => rfl, fun _ => ⟨j, h1, h3⟩⟩
theorem i64_wf {z : Int} (h : I64 z) : (Lit.int .i64 z).wf = true := by
  obtain ⟨h1, h2⟩ := h
  exact WalkArith.wf_i64 (by omega)
theorem zero_int (w : World) : (zeroValue 3).run Try.prog w = .ok (.int .i64 0) w := by kernel_rfl
theorem make_places (n : Int) (w : World) : (Instr.makeMap 66 (some (.int .i64 n))).run Try.prog w = .ok (.map (some w.heap.size)) (w.alloc (.map #[] 0)) := by
  have h : (underlying 66).run Try.prog w = .ok (.map 3 3) w := by kernel_rfl
  simp only [Instr.makeMap, Sem.run_bind, h, Result.andThen]
  rfl

set_option maxHeartbeats 4000000 in
set_option maxRecDepth 100000 in
theorem placesOf (v : Value) (l : List InstrV) (w : World) (hl : Instrs w v l) (hr : ∀ k ∈ l, I64 k.at_) (hn : l.length ≤ 4194304) :
    Calls Try.prog 31 #[v] w fun e w' => e = .returned (.map (some w.heap.size)) ∧ w'.ownsMap Try.prog 3 (plainElem (H := Unit) Try.prog 3) w.heap.size l.length (placesD l l.length) ∧ Only (fun _ => False) w w' := by
  obtain ⟨ao, cap, rfl, h1, h2, h3, h4⟩ := id hl
  have HL := Lib.hid hl
  have HR := Lib.hid hr
  have hmm := make_places
  have hown0 := World.ownsMap_made w Try.prog 3 (plainElem (H := Unit) Try.prog 3)
  have hon0 := (Only.refl (fun _ => False) w).alloc (.map #[] 0)
  have HOWN0 := Lib.hid hown0
  have HON0 := Lib.hid hon0
  clear hl h3 h4 hr hown0 hon0
  go_enter Try.func31, Try.ntmps31
  go_wp2
  go_loopw [11] (fun i wr => ∃ j : Nat, i = .int .i64 j ∧ j ≤ l.length ∧ Hid (wr.ownsMap Try.prog 3 (plainElem (H := Unit) Try.prog 3) w.heap.size j (placesD l j)) ∧ Hid (Only (fun _ => False) w wr)) (fun i _ => l.length - (intOf i).toNat)
  case atStart => exact ⟨0, rfl, Nat.zero_le _, HOWN0, HON0⟩
  case round =>
    obtain ⟨j, rfl, hj, HOWN, HON⟩ := hrel
    by_cases hlt : j < l.length
    · obtain ⟨b, o, rfl, c⟩ := Sl.at (HL.out.only HON.out) hlt
      have hjz : (j : Int) < (l.length : Int) := by omega
      have HKR := Lib.hid (i64_wf (HR.out _ (getD_mem hlt)))
      have HD : Hid ((placesD l j).put (.int .i64 (l.getD j default).at_) (.lit (.int .i64 j)) = placesD l (j + 1)) := Lib.hid rfl
      obtain ⟨q0, q1, q2, q3, q4⟩ := c
      generalize l.getD j default = k at *
      have HOWN1 := Lib.hid (HOWN.out.alloc (.cells #[.int .i64 k.at_, .int .i64 k.op, .int .i64 k.a, .int .i64 k.b, .int .i64 k.size] 39))
      have HON1 := Lib.hid (HON.out.alloc (.cells #[.int .i64 k.at_, .int .i64 k.op, .int .i64 k.a, .int .i64 k.b, .int .i64 k.size] 39))
      go_wp2_with (at_mapUpdate; go_loud (refine wpList_mapUpdate_own _ rfl _ _ _ 66 rfl 3 3 (Maps.int_keyed Try.underlying3) Try.underlying66 _ w.heap.size j _ rfl HOWN1.out (by unfold maxLen; omega) _ _ _ rfl rfl (Maps.keyOf_int_mk Try.underlying3 HKR.out) _ [] (plainElem_int Try.underlying3 (WalkArith.wf_i64 (by omega))) ?_); intro w1 hown1 hgrow1; have HOWN2 := Lib.hid hown1; have HON2 := Lib.hid (HON1.out.grown hgrow1 (fun i hi hlt => by cases hi; omega)); clear hown1 hgrow1)
      go_roundw
      case rel => exact ⟨j + 1, by go_num, by omega, Lib.hid (by rw [← HD.out]; exact HOWN2.out), HON2⟩
      case measure => simp [intOf]; omega
    · obtain rfl : j = l.length := by omega
      clear hj hlt
      go_wp2
      go_ret
      exact ⟨rfl, HOWN.out, HON.out⟩
end Go.Proofs.Ytngoajhnnlnphaa
