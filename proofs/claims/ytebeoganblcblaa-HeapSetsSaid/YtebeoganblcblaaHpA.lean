/- The document's New, Is, Len, Type, Get. No condition. -/
import Derived.Test.YtebeoganblcblaaHpF
namespace Go.Proofs.Ytebeoganblcblaa
open Go.RowKit
set_option linter.unusedVariables false
set_option linter.unusedSimpArgs false

set_option maxHeartbeats 4000000 in
set_option maxRecDepth 100000 in
theorem refNewBad (m : Int) (hm : m < 0 ∨ 1024 < m) (w : World) : Calls Try.prog 10 #[.int .i64 m] w fun e w' => e = .returned (.tuple #[.pointer none, .int .i64 1]) ∧ w = w' := by
  by_cases h1 : m < 0
  · have e1 : decide (m < 0) = true := by simpa using h1
    clear hm
    go_enter Try.func10, Try.ntmps10
    go_wp2
    go_ret2
    exact ⟨rfl, rfl⟩
  · have e1 : decide (m < 0) = false := by simpa using h1
    have e2 : decide (1024 < m) = true := by simp only [decide_eq_true_eq]; omega
    clear hm
    go_enter Try.func10, Try.ntmps10
    go_wp2
    go_ret2
    exact ⟨rfl, rfl⟩
set_option maxHeartbeats 4000000 in
set_option maxRecDepth 100000 in
theorem refNew14 (m : Int) (h0 : 0 ≤ m) (hm : m ≤ 1024) (w : World) : Calls Try.prog 10 #[.int .i64 m] w fun e w' =>
    e = .returned (.tuple #[.pointer (some ⟨w.heap.size, 0, none⟩), .int .i64 0]) ∧ HeapR w' (fun k => k = w.heap.size) w.heap.size [] m ∧ Only (fun _ => False) w w' := by
  have e1 : decide (m < 0) = false := by simp only [decide_eq_false_iff_not]; omega
  have e2 : decide (1024 < m) = false := by simp only [decide_eq_false_iff_not]; omega
  have HM := Lib.hid hm
  clear h0 hm
  go_enter Try.func10, Try.ntmps10
  go_wp2
  go_ret2
  refine ⟨rfl, ⟨.slice none 0 0, [], ⟨heap_alloc_new _ _, RowG.nil _ _, fun i hi => absurd hi (Nat.not_lt_zero _), fun k hk => (by subst hk; simp), rfl, fun k hk => (by cases hk), fun i hi => absurd hi (Nat.not_lt_zero _), fun i j hi => absurd hi (Nat.not_lt_zero _), Nat.zero_le _, HM.out, fun i hi => absurd hi (Nat.not_lt_zero _)⟩, rfl⟩, (Only.refl _ w).alloc _⟩
section
variable {w : World} {G : Nat → Prop} {p : Nat} {L : Value} {xs : List ObX} {most : Int} (h : HeapL w G p L xs most)
include h
theorem HeapL.z : ∃ ao cap, L = .slice ao xs.length cap ∧ w.cell? ⟨p, 0, none⟩ = some (.slice ao xs.length cap) ∧ w.cell? ⟨p, 1, none⟩ = some (.int .i64 most) := by
  obtain ⟨ao, cap, rfl, -, -⟩ := slice_of_owns h.row
  exact ⟨ao, cap, rfl, cell_blk h.blk 0, cell_blk h.blk 1⟩
set_option maxHeartbeats 4000000 in
set_option maxRecDepth 100000 in
theorem refIs14 (r : Int) : Calls Try.prog 39 #[.pointer (some ⟨p, 0, none⟩), .int .i64 r] w fun e w' => e = .returned (.bool (isOb xs.length r)) ∧ w = w' := by
  obtain ⟨ao, cap, -, z0, z1⟩ := h.z
  clear h z1
  unfold isOb
  by_cases h1 : 1 ≤ r
  · have e1 : decide (1 ≤ r) = true := by simpa using h1
    go_enter Try.func39, Try.ntmps39
    go_wp2
    go_ret
    exact ⟨by first | rfl | (rw [e1]; rfl), rfl⟩
  · have e1 : decide (1 ≤ r) = false := by simpa using h1
    go_enter Try.func39, Try.ntmps39
    go_wp2
    go_ret
    exact ⟨by first | rfl | (rw [e1]; rfl), rfl⟩
/-- The cells of an object in the row, and of a value in it. -/
theorem HeapL.ob {r : Int} (hr : isOb xs.length r = true) : ∃ b cap n c2, L = .slice (some ⟨b, 0, none⟩) xs.length cap ∧ (xs.getD (r.toNat - 1) default).d = .slice n (xs.getD (r.toNat - 1) default).vs.length c2 ∧ (r.toNat - 1) < xs.length ∧ ((r.toNat - 1 : Nat) : Int) = r - 1 ∧
    (∀ d, d < 6 → w.cell? ⟨b, (r.toNat - 1) * 6 + d, none⟩ = (cellsOx (xs.getD (r.toNat - 1) default))[d]?) := by
  have hr1 : 1 ≤ r ∧ r ≤ (xs.length : Int) := by simpa [isOb] using hr
  have hi : (r.toNat - 1) < xs.length := by omega
  obtain ⟨n, c2, hd, -, -⟩ := slice_of_owns (h.data _ hi)
  obtain ⟨ao, cap, rfl, -⟩ := h.z
  obtain ⟨ao', cap', e, h1, h2, h3, h4⟩ := RowG.sl lenOx h.row
  injection e with e1 e2 e3
  subst e1 e3
  rcases h.row.2 with ⟨e, e2⟩ | ⟨g, cap2, cur, e, hb, hg, hnc, hcm, hcs, htake⟩
  · rw [e2] at hi; exact absurd hi (Nat.not_lt_zero _)
  · injection e with e1 e2 e3
    subst e1 e3
    obtain ⟨b, o, e, h5⟩ := h4 _ rfl (by omega)
    injection e with e1 e2
    subst e1 e2
    refine ⟨g, cap, n, c2, rfl, hd, hi, by omega, fun d hd => ?_⟩
    have := h5 _ hi d hd
    rwa [Nat.zero_add] at this
set_option maxHeartbeats 4000000 in
set_option maxRecDepth 100000 in
theorem refLen14 (r : Int) : Calls Try.prog 30 #[.pointer (some ⟨p, 0, none⟩), .int .i64 r] w fun e w' => e = .returned (.int .i64 (lenZ14 (xs.map ObX.o) r)) ∧ w = w' := by
  have C := Lib.hid (refIs14 h r)
  unfold lenZ14
  rw [List.length_map]
  cases hr : isOb xs.length r with
  | false =>
    rw [hr] at C
    clear h hr
    go_enter Try.func30, Try.ntmps30
    go_wp2_with (fail)
    refine C.out.mono ?_
    rintro e w1 ⟨rfl, rfl⟩
    go_wp2
    go_ret
    exact ⟨rfl, rfl⟩
  | true =>
    rw [hr] at C
    obtain ⟨b, cap, n, c2, rfl, hd, hi, hri, hc⟩ := h.ob hr
    have z0 := cell_blk h.blk 0
    have z5 := hc 5 (by decide)
    simp only [cellsOx, hd, List.getElem?_cons_zero, List.getElem?_cons_succ] at z5
    have hx := hi
    have hk1 : (0 : Int) ≤ r - 1 := by omega
    have hk2 : r - 1 < (xs.length : Int) := by omega
    have hw : wrap64 (r - 1) = r - 1 := IntWalk.wrap64_in _ (by have := h.few; omega)
    have ho : obZ (xs.map ObX.o) r = (xs.getD (r.toNat - 1) default).o := ob_at hi
    have ev : ((xs.getD (r.toNat - 1) default).vs.length : Int) = (obZ (xs.map ObX.o) r).vs.length := by rw [ho]; rfl
    generalize (xs.getD (r.toNat - 1) default).vs.length = ln at *
    have EV := Lib.hid ev
    clear h hr hc hd ho ev hx hi hri
    go_enter Try.func30, Try.ntmps30
    go_wp2_with (fail)
    refine C.out.mono ?_
    rintro e w1 ⟨rfl, rfl⟩
    go_wp2

    go_ret
    exact ⟨by rw [← EV.out]; rfl, rfl⟩
end
end Go.Proofs.Ytebeoganblcblaa
