/- The document's Type and Get of a heap. No condition. -/
import Derived.Test.YtebeoganblcblaaHpA
namespace Go.Proofs.Ytebeoganblcblaa
open Go.RowKit
set_option linter.unusedVariables false
set_option linter.unusedSimpArgs false

section
variable {w : World} {G : Nat → Prop} {p : Nat} {L : Value} {xs : List ObX} {most : Int} (h : HeapL w G p L xs most)
include h
/-- The cells of a value of an object. -/
theorem HeapL.va {r i : Int} (hr : isOb xs.length r = true) (h0 : 0 ≤ i) (h1 : i < ((xs.getD (r.toNat - 1) default).vs.length : Int)) : ∃ b c2, (xs.getD (r.toNat - 1) default).d = .slice (some ⟨b, 0, none⟩) (xs.getD (r.toNat - 1) default).vs.length c2 ∧ G b ∧
    (∀ d, d < 3 → w.cell? ⟨b, i.toNat * 3 + d, none⟩ = (cellsVa ((xs.getD (r.toNat - 1) default).vs.getD i.toNat default))[d]?) := by
  obtain ⟨b', cap, n, c2, -, hd, hi, -⟩ := h.ob hr
  have hrow := h.data _ hi
  have hg := h.gd _ hi
  have hi2 : i.toNat < (xs.getD (r.toNat - 1) default).vs.length := by omega
  generalize xs.getD (r.toNat - 1) default = x at *
  obtain ⟨ao', cap', e, q1, q2, q3, q4⟩ := RowG.sl lenVa hrow
  rcases hrow.2 with ⟨e1, e2⟩ | ⟨g, cap2, cur, e1, hb, hgg, hnc, hcm, hcs, htake⟩
  · rw [e2] at hi2; exact absurd hi2 (Nat.not_lt_zero _)
  · rw [hd] at e1
    injection e1 with e1 _ e3
    subst e1 e3
    rw [hd] at e
    injection e with e1 _ e3
    subst e1 e3
    obtain ⟨b, o, e, h5⟩ := q4 _ rfl (by omega)
    injection e with e1 e2
    subst e1 e2
    refine ⟨g, c2, hd, (hg g (by rw [hd]; rfl)).1, fun d hd => ?_⟩
    have := h5 _ hi2 d hd
    rwa [Nat.zero_add] at this
set_option maxHeartbeats 8000000 in
set_option maxRecDepth 100000 in
theorem refType14 (r : Int) : Calls Try.prog 29 #[.pointer (some ⟨p, 0, none⟩), .int .i64 r] w fun e w' => e = .returned (.tuple #[valT (typeZ14 (xs.map ObX.o) r).1, .int .i64 (typeZ14 (xs.map ObX.o) r).2]) ∧ Only (fun _ => False) w w' := by
  unfold typeZ14
  rw [List.length_map]
  have ho := (Only.refl (fun _ => False) w).alloc (.cells #[.int .i64 0, .string ⟨#[]⟩, .int .i64 0, .int .i64 0, .int .i64 0] 32)
  have hr0 := heap_alloc_new w (.cells #[.int .i64 0, .string ⟨#[]⟩, .int .i64 0, .int .i64 0, .int .i64 0] 32)
  obtain ⟨W0, hW0⟩ : ∃ W0, w.alloc (.cells #[.int .i64 0, .string ⟨#[]⟩, .int .i64 0, .int .i64 0, .int .i64 0] 32) = W0 := ⟨_, rfl⟩
  rw [hW0] at ho hr0
  have h' := h.only ho (fun _ _ h => h)
  have C := Lib.hid (refIs14 h' r)
  have HR0 := Lib.hid hr0
  have HO0 := Lib.hid ho
  cases hr : isOb xs.length r with
  | false =>
    rw [hr] at C
    have HW0 := Lib.hid hW0
    obtain ⟨q0, q1, q2, q3, q4⟩ := cells5T HR0.out
    obtain ⟨m0, m1, m2, m3, m4⟩ := marks5T HR0.out
    clear h h' hr ho hr0 hW0
    go_enter Try.func29, Try.ntmps29
    go_wp2_with (fail)
    rw [HW0.out]
    refine C.out.mono ?_
    rintro e w1 ⟨rfl, hww⟩
    subst hww
    go_wp2
    exact bodyPost_ret (type_result2 (t := zeroT) (b := w.heap.size) Try.results29 (store5T HR0.out) rfl rfl) rfl ⟨rfl, only5T HO0.out (fun hl => absurd hl (Nat.lt_irrefl _))⟩
  | true =>
    rw [hr] at C
    obtain ⟨b, cap, n, c2, rfl, hd, hi, hri, hc⟩ := h'.ob hr
    have z0 := cell_blk h'.blk 0
    have y0 := hc 0 (by decide)
    have y1 := hc 1 (by decide)
    have y2 := hc 2 (by decide)
    have y3 := hc 3 (by decide)
    have y4 := hc 4 (by decide)
    simp only [cellsOx, List.getElem?_cons_zero, List.getElem?_cons_succ, Nat.add_zero] at y0 y1 y2 y3 y4
    have hk1 : (0 : Int) ≤ r - 1 := by omega
    have hk2 : r - 1 < (xs.length : Int) := by omega
    have hw : wrap64 (r - 1) = r - 1 := IntWalk.wrap64_in _ (by have := h.few; omega)
    have ev : (xs.getD (r.toNat - 1) default).t = (obZ (xs.map ObX.o) r).t := by rw [show obZ (xs.map ObX.o) r = (xs.getD (r.toNat - 1) default).o from ob_at hi]; rfl
    generalize (xs.getD (r.toNat - 1) default).t = t at *
    rw [if_pos rfl, ← ev]
    have HW0 := Lib.hid hW0
    obtain ⟨q0, q1, q2, q3, q4⟩ := cells5T HR0.out
    obtain ⟨m0, m1, m2, m3, m4⟩ := marks5T HR0.out
    clear h h' hr ho hr0 hW0 hc hd ev hi hri
    go_enter Try.func29, Try.ntmps29
    go_wp2_with (fail)
    rw [HW0.out]
    refine C.out.mono ?_
    rintro e w1 ⟨rfl, hww⟩
    subst hww
    go_wp2
    exact bodyPost_ret (type_result2 (t := t) (b := w.heap.size) Try.results29 (store5T HR0.out) rfl rfl) rfl ⟨rfl, only5T HO0.out (fun hl => absurd hl (Nat.lt_irrefl _))⟩
set_option maxHeartbeats 8000000 in
set_option maxRecDepth 100000 in
theorem refGet14 (r i : Int) : Calls Try.prog 28 #[.pointer (some ⟨p, 0, none⟩), .int .i64 r, .int .i64 i] w fun e w' => e = .returned (.tuple #[valVa (getZ (xs.map ObX.o) r i).1, .int .i64 (getZ (xs.map ObX.o) r i).2]) ∧ Only (fun _ => False) w w' := by
  unfold getZ
  rw [List.length_map]
  have ho := (Only.refl (fun _ => False) w).alloc (.cells #[.int .i64 0, .int .i64 0, .int .i64 0] 34)
  have hr0 := heap_alloc_new w (.cells #[.int .i64 0, .int .i64 0, .int .i64 0] 34)
  obtain ⟨W0, hW0⟩ : ∃ W0, w.alloc (.cells #[.int .i64 0, .int .i64 0, .int .i64 0] 34) = W0 := ⟨_, rfl⟩
  rw [hW0] at ho hr0
  have h' := h.only ho (fun _ _ h => h)
  have C := Lib.hid (refIs14 h' r)
  have HR0 := Lib.hid hr0
  have HO0 := Lib.hid ho
  cases hr : isOb xs.length r with
  | false =>
    rw [hr] at C
    have HW0 := Lib.hid hW0
    obtain ⟨q0, q1, q2⟩ := cells3V HR0.out
    obtain ⟨m0, m1, m2⟩ := marks3V HR0.out
    clear h h' hr ho hr0 hW0
    go_enter Try.func28, Try.ntmps28
    go_wp2_with (fail)
    rw [HW0.out]
    refine C.out.mono ?_
    rintro e w1 ⟨rfl, hww⟩
    subst hww
    go_wp2
    exact bodyPost_ret (val_result2 (t := default) (b := w.heap.size) Try.results28 (store3V HR0.out) rfl rfl) rfl ⟨rfl, only3V HO0.out (fun hl => absurd hl (Nat.lt_irrefl _))⟩
  | true =>
    rw [hr] at C
    rw [if_pos rfl]
    obtain ⟨b, cap, n, c2, hL, hd, hi, hri, hc⟩ := h'.ob hr
    have z0 := cell_blk h'.blk 0
    have y5 := hc 5 (by decide)
    simp only [hL, cellsOx, List.getElem?_cons_zero, List.getElem?_cons_succ, Nat.add_zero, hd, List.getElem?_toArray] at y5 z0
    have hk1 : (0 : Int) ≤ r - 1 := by omega
    have hk2 : r - 1 < (xs.length : Int) := by omega
    have hw : wrap64 (r - 1) = r - 1 := IntWalk.wrap64_in _ (by have := h.few; omega)
    have ob : obZ (xs.map ObX.o) r = (xs.getD (r.toNat - 1) default).o := ob_at hi
    rw [ob]
    have va := h'.va (i := i) hr
    rw [show (xs.getD (r.toNat - 1) default).o.vs = (xs.getD (r.toNat - 1) default).vs from rfl]
    by_cases g0 : 0 ≤ i
    · by_cases g1 : i < ((xs.getD (r.toNat - 1) default).vs.length : Int)
      · obtain ⟨b2, c3, hd3, -, hv⟩ := va g0 g1
        rw [if_pos ⟨g0, g1⟩]
        rw [hd] at hd3
        injection hd3 with e1 _ e3
        subst e1 e3
        have v0 := hv 0 (by decide)
        have v1 := hv 1 (by decide)
        have v2 := hv 2 (by decide)
        simp only [cellsVa, List.getElem?_cons_zero, List.getElem?_cons_succ, Nat.add_zero] at v0 v1 v2
        generalize (xs.getD (r.toNat - 1) default).vs.getD i.toNat default = t at *
        generalize (xs.getD (r.toNat - 1) default).vs.length = ln at *
        have d0 : decide (i < 0) = false := by simpa using g0
        have d1 : decide ((ln : Int) ≤ i) = false := by simp only [decide_eq_false_iff_not]; omega
        have HW0 := Lib.hid hW0
        obtain ⟨q0, q1, q2⟩ := cells3V HR0.out
        obtain ⟨m0, m1, m2⟩ := marks3V HR0.out
        clear h h' hr ho hr0 hW0 hc hd ob hi hri va hv hL
        go_enter Try.func28, Try.ntmps28
        go_wp2_with (fail)
        rw [HW0.out]
        refine C.out.mono ?_
        rintro e w1 ⟨rfl, hww⟩
        subst hww
        go_wp2
        exact bodyPost_ret (val_result2 (t := t) (b := w.heap.size) Try.results28 (store3V HR0.out) rfl rfl) rfl ⟨rfl, only3V HO0.out (fun hl => absurd hl (Nat.lt_irrefl _))⟩
      · rw [if_neg (fun hq => g1 hq.2)]
        generalize (xs.getD (r.toNat - 1) default).vs.length = ln at *
        have d0 : decide (i < 0) = false := by simpa using g0
        have d1 : decide ((ln : Int) ≤ i) = true := by simp only [decide_eq_true_eq]; omega
        have HW0 := Lib.hid hW0
        obtain ⟨q0, q1, q2⟩ := cells3V HR0.out
        obtain ⟨m0, m1, m2⟩ := marks3V HR0.out
        clear h h' hr ho hr0 hW0 hc hd ob hi hri va hL
        go_enter Try.func28, Try.ntmps28
        go_wp2_with (fail)
        rw [HW0.out]
        refine C.out.mono ?_
        rintro e w1 ⟨rfl, hww⟩
        subst hww
        go_wp2
        exact bodyPost_ret (val_result2 (t := default) (b := w.heap.size) Try.results28 (store3V HR0.out) rfl rfl) rfl ⟨rfl, only3V HO0.out (fun hl => absurd hl (Nat.lt_irrefl _))⟩
    · rw [if_neg (fun hq => g0 hq.1)]
      generalize (xs.getD (r.toNat - 1) default).vs.length = ln at *
      have d0 : decide (i < 0) = true := by simpa using g0
      have HW0 := Lib.hid hW0
      obtain ⟨q0, q1, q2⟩ := cells3V HR0.out
      obtain ⟨m0, m1, m2⟩ := marks3V HR0.out
      clear h h' hr ho hr0 hW0 hc hd ob hi hri va hL
      go_enter Try.func28, Try.ntmps28
      go_wp2_with (fail)
      rw [HW0.out]
      refine C.out.mono ?_
      rintro e w1 ⟨rfl, hww⟩
      subst hww
      go_wp2
      exact bodyPost_ret (val_result2 (t := default) (b := w.heap.size) Try.results28 (store3V HR0.out) rfl rfl) rfl ⟨rfl, only3V HO0.out (fun hl => absurd hl (Nat.lt_irrefl _))⟩
end
end Go.Proofs.Ytebeoganblcblaa
