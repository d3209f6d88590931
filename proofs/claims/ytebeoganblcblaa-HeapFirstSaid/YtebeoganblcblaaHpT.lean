/- The document's Set of a heap, walked. No condition. -/
import Derived.Test.YtebeoganblcblaaHpS
namespace Go.Proofs.Ytebeoganblcblaa
open Go.RowKit
set_option linter.unusedVariables false
set_option linter.unusedSimpArgs false

section
variable {w : World} {G : Nat → Prop} {p : Nat} {L : Value} {xs : List ObX} {most : Int} (h : HeapL w G p L xs most)
include h
set_option maxHeartbeats 8000000 in
set_option maxRecDepth 100000 in
theorem refSet14 (r i : Int) (v : ValV) : Calls Try.prog 27 #[.pointer (some ⟨p, 0, none⟩), .int .i64 r, .int .i64 i, valVa v] w fun e w' =>
    e = .returned (.int .i64 (setZ (xs.map ObX.o) r i v).2) ∧ HeapR w' G p (setZ (xs.map ObX.o) r i v).1 most ∧ Only G w w' := by
  have ho := (Only.refl (fun _ => False) w).alloc (.cells #[.int .i64 v.k, .int .i64 v.n, .int .i64 v.r] 34)
  have hr0 := heap_alloc_new w (.cells #[.int .i64 v.k, .int .i64 v.n, .int .i64 v.r] 34)
  obtain ⟨W0, hW0⟩ : ∃ W0, w.alloc (.cells #[.int .i64 v.k, .int .i64 v.n, .int .i64 v.r] 34) = W0 := ⟨_, rfl⟩
  rw [hW0] at ho hr0
  have h' := h.only ho (fun _ _ h => h)
  have hg := refGet14 h' r i
  have hok := @getZ_ok (xs.map ObX.o) r i
  unfold setZ
  obtain ⟨g, hgg⟩ : ∃ g, getZ (xs.map ObX.o) r i = g := ⟨_, rfl⟩
  rw [hgg] at hg hok
  rw [hgg]
  obtain ⟨a, er⟩ := g
  simp only at hg hok
  simp only
  unfold valVa at hg
  have C := Lib.hid hg
  clear hg
  have HW0 := Lib.hid hW0
  by_cases q : er = 0
  · subst q
    rw [if_pos rfl]
    by_cases q2 : a.k = v.k
    · rw [if_pos q2]
      obtain ⟨hr, g0, g1⟩ := hok rfl
      rw [List.length_map] at hr
      have hri : (obZ (xs.map ObX.o) r) = (xs.getD (r.toNat - 1) default).o := ob_at (h.ob hr).choose_spec.choose_spec.choose_spec.choose_spec.2.2.1
      rw [hri] at g1
      replace g1 : i < ((xs.getD (r.toNat - 1) default).vs.length : Int) := g1
      unfold valVa
      go_enter Try.func27, Try.ntmps27
      go_wp2_with (fail)
      try rw [HW0.out]
      refine C.out.mono ?_
      rintro e w1 ⟨rfl, ho1⟩
      have ho2 := Lib.hid (ho1.alloc (.cells #[.int .i64 a.k, .int .i64 a.n, .int .i64 a.r] 34))
      have hr2 := ho2.out.heap hr0 (fun h => h)
      have H2 := h'.only ho2.out (fun _ _ h => h)
      obtain ⟨b, cap, n, c2, hL, hd, hi, hri2, hc⟩ := H2.ob hr
      obtain ⟨b2, c3, hd3, hGb, hv⟩ := H2.va hr g0 g1
      have v0 := hv 0 (by decide)
      have v1 := hv 1 (by decide)
      have v2 := hv 2 (by decide)
      simp only [cellsVa, List.getElem?_cons_zero, List.getElem?_cons_succ, Nat.add_zero] at v0 v1 v2
      rw [hd] at hd3
      injection hd3 with e1 _ e3
      subst e1 e3
      have z0 := cell_blk H2.blk 0
      have y5 := hc 5 (by decide)
      simp only [hL, cellsOx, List.getElem?_cons_zero, List.getElem?_cons_succ, Nat.add_zero, hd, List.getElem?_toArray] at y5 z0
      obtain ⟨q0, q1, q2'⟩ := cells3V hr2
      obtain ⟨p0, p1, p2⟩ := cells3V (heap_alloc_new w1 (.cells #[.int .i64 a.k, .int .i64 a.n, .int .i64 a.r] 34))
      have fz : ∀ j, (w1.alloc (.cells #[.int .i64 a.k, .int .i64 a.n, .int .i64 a.r] 34)).frozen? ⟨b2, j, none⟩ = false := fun j => by have := H2.data _ hi; rw [hd] at this; exact owns_len this j
      have f0 := fz (i.toNat * 3)
      have f1 := fz (i.toNat * 3 + 1)
      have f2 := fz (i.toNat * 3 + 2)
      have f3 := marks3V hr2
      have hk1 : (0 : Int) ≤ r - 1 := by omega
      have hk2 : r - 1 < (xs.length : Int) := by omega
      have hw : wrap64 (r - 1) = r - 1 := IntWalk.wrap64_in _ (by have := h.few; omega)
      have ek : (a.k == v.k) = true := by simpa using q2
      have HP := Lib.hid (H2.put hi hd (i := i.toNat) v rfl)
      have HX := Lib.hid (show (xs.set (r.toNat - 1) ⟨(xs.getD (r.toNat - 1) default).t, (xs.getD (r.toNat - 1) default).d, (xs.getD (r.toNat - 1) default).vs.set i.toNat v⟩).map ObX.o = putZ (xs.map ObX.o) r i v from by rw [putZ, hri, List.map_set]; rfl)
      have HG := Lib.hid hGb
      have HO := Lib.hid (ho.trans ho2.out (fun _ h _ => h))
      generalize (xs.getD (r.toNat - 1) default).vs.length = ln at *
      clear h h' ho hr0 hgg hok hr hri hc hd hi hri2 fz hv hW0 H2 hr2 q2 hGb hL ho1 ho2
      go_wp2
      go_region
      all_goals go_wp2
      all_goals go_ret
      all_goals refine ⟨rfl, ⟨_, _, HP.out.only (S := fun _ => False) ((Only.refl _ _).drew) (fun _ _ h => h), HX.out⟩, ?_⟩
      all_goals refine Only.drew ?_
      all_goals iterate 3 (refine Only.setCell (S := G) ?_ (fun _ => HG.out) _)
      all_goals exact HO.out.mono (fun _ h _ => h.elim)
    · rw [if_neg q2]
      have ek : (a.k == v.k) = false := by rw [beq_eq_false_iff_ne]; exact q2
      unfold valVa
      go_enter Try.func27, Try.ntmps27
      go_wp2_with (fail)
      try rw [HW0.out]
      refine C.out.mono ?_
      rintro e w1 ⟨rfl, ho1⟩
      have ho2 := Lib.hid (ho1.alloc (.cells #[.int .i64 a.k, .int .i64 a.n, .int .i64 a.r] 34))
      have hr2 := ho2.out.heap hr0 (fun h => h)
      have H2 := h'.only ho2.out (fun _ _ h => h)
      obtain ⟨q0, q1, q2'⟩ := cells3V hr2
      obtain ⟨p0, p1, p2⟩ := cells3V (heap_alloc_new w1 (.cells #[.int .i64 a.k, .int .i64 a.n, .int .i64 a.r] 34))
      have HH := Lib.hid H2
      have HO := Lib.hid (ho.trans ho2.out (fun _ h _ => h))
      clear h h' ho hr0 hgg hok hW0 H2 hr2 q2 ho1 ho2
      go_wp2
      go_ret
      exact ⟨rfl, ⟨_, _, HH.out, rfl⟩, HO.out.mono (fun _ h _ => h.elim)⟩
  · rw [if_neg q]
    have ee : (er == 0) = false := by rw [beq_eq_false_iff_ne]; exact q
    unfold valVa
    go_enter Try.func27, Try.ntmps27
    go_wp2_with (fail)
    try rw [HW0.out]
    refine C.out.mono ?_
    rintro e w1 ⟨rfl, ho1⟩
    have ho2 := Lib.hid (ho1.alloc (.cells #[.int .i64 a.k, .int .i64 a.n, .int .i64 a.r] 34))
    have hr2 := ho2.out.heap hr0 (fun h => h)
    have H2 := h'.only ho2.out (fun _ _ h => h)
    have HH := Lib.hid H2
    have HO := Lib.hid (ho.trans ho2.out (fun _ h _ => h))
    clear h h' ho hr0 hgg hok hW0 H2 hr2 q ho1 ho2
    go_wp2
    go_ret
    exact ⟨rfl, ⟨_, _, HH.out, rfl⟩, HO.out.mono (fun _ h _ => h.elim)⟩
end
end Go.Proofs.Ytebeoganblcblaa
