/- A value that is set in a list of objects in new memory; what is set is told. No condition. -/
import Derived.Test.YtebeoganblcblaaHpR
namespace Go.Proofs.Ytebeoganblcblaa
open Go.RowKit
set_option linter.unusedVariables false
set_option linter.unusedSimpArgs false

theorem ObjsL.put {w w' : World} {G : Nat → Prop} {L : Value} {xs : List ObX} (h : ObjsL w G L xs) {j : Nat} (hj : j < xs.length) {g cap i : Nat} (hd : (xs.getD j default).d = .slice (some ⟨g, 0, none⟩) (xs.getD j default).vs.length cap) (v : ValV)
    (ho : w' = ((w.setCell ⟨g, i * 3, none⟩ (.int .i64 v.k)).setCell ⟨g, i * 3 + 1, none⟩ (.int .i64 v.n)).setCell ⟨g, i * 3 + 2, none⟩ (.int .i64 v.r)) :
    ObjsL w' G L (xs.set j ⟨(xs.getD j default).t, (xs.getD j default).d, (xs.getD j default).vs.set i v⟩) := by
  have hO : Only (fun k => k = g) w w' := by
    rw [ho]
    iterate 3 (refine Only.setCell (S := fun k => k = g) ?_ (fun _ => rfl) _)
    exact Only.refl _ w
  have hgd := h.gd j hj g (by rw [hd]; rfl)
  have ex : ∀ k, k < xs.length → (xs.set j ⟨(xs.getD j default).t, (xs.getD j default).d, (xs.getD j default).vs.set i v⟩).getD k default = if k = j then ⟨(xs.getD j default).t, (xs.getD j default).d, (xs.getD j default).vs.set i v⟩ else xs.getD k default := by
    intro k hk
    rw [List.getD_eq_getElem?_getD, List.getElem?_set, List.getD_eq_getElem?_getD]
    by_cases e : k = j
    · subst e; simp [hj]
    · rw [if_neg (fun q => e q.symm), if_neg e, List.getD_eq_getElem?_getD]
  have exd : ∀ k, k < xs.length → ((xs.set j ⟨(xs.getD j default).t, (xs.getD j default).d, (xs.getD j default).vs.set i v⟩).getD k default).d = (xs.getD k default).d := by
    intro k hk
    rw [ex k hk]
    by_cases e : k = j
    · subst e; rw [if_pos rfl]
    · rw [if_neg e]
  have hl : (xs.set j ⟨(xs.getD j default).t, (xs.getD j default).d, (xs.getD j default).vs.set i v⟩).length = xs.length := by simp
  refine ⟨?_, ?_, fun k hk => Nat.lt_of_lt_of_le (h.lt k hk) hO.size, h.gL, ?_, ?_⟩
  · have hr := RowG.only h.row hO (fun k hk q => hgd.2 (by rw [← q]; exact hk))
    have e : (xs.set j ⟨(xs.getD j default).t, (xs.getD j default).d, (xs.getD j default).vs.set i v⟩).flatMap cellsOx = xs.flatMap cellsOx := by
      have : ∀ (l : List ObX) (j : Nat) (y : ObX), cellsOx y = cellsOx (l.getD j default) → (l.set j y).flatMap cellsOx = l.flatMap cellsOx := by
        intro l
        induction l with
        | nil => intro j y _; rfl
        | cons x r ih =>
          intro j y hy
          cases j with
          | zero => rw [List.set_cons_zero, List.flatMap_cons, List.flatMap_cons, hy]; rfl
          | succ j => rw [List.set_cons_succ, List.flatMap_cons, List.flatMap_cons, ih j y hy]
      exact this xs j _ rfl
    unfold RowG at hr ⊢
    rw [e, hl]
    exact hr
  · intro k hk
    rw [hl] at hk
    rw [ex k hk]
    by_cases e : k = j
    · subst e
      rw [if_pos rfl]
      have hr := h.data k hk
      simp only
      rw [hd] at hr ⊢
      rw [ho]
      exact RowG.set3 hr i v
    · rw [if_neg e]
      exact RowG.only (h.data k hk) hO (fun q hq hs => by subst hs; exact h.apart j k hj hk (fun q => e q.symm) _ (by rw [hd]; rfl) hq)
  · intro k hk
    rw [hl] at hk
    rw [exd k hk]
    exact h.gd k hk
  · intro a b ha hb
    rw [hl] at ha hb
    rw [exd a ha, exd b hb]
    exact h.apart a b ha hb
section
variable {w : World} {G : Nat → Prop} {L : Value} {xs : List ObX} (h : ObjsL w G L xs)
include h
/-- An object's cells in the list, and a value's in it. -/
theorem ObjsL.at_ {r i : Int} (hr : isOb xs.length r = true) (h0 : 0 ≤ i) (h1 : i < ((xs.getD (r.toNat - 1) default).vs.length : Int)) : ∃ b cap g c2, L = .slice (some ⟨b, 0, none⟩) xs.length cap ∧
    (xs.getD (r.toNat - 1) default).d = .slice (some ⟨g, 0, none⟩) (xs.getD (r.toNat - 1) default).vs.length c2 ∧ G g ∧ r.toNat - 1 < xs.length ∧ ((r.toNat - 1 : Nat) : Int) = r - 1 ∧
    (∀ d, d < 6 → w.cell? ⟨b, (r.toNat - 1) * 6 + d, none⟩ = (cellsOx (xs.getD (r.toNat - 1) default))[d]?) ∧
    (∀ d, d < 3 → w.cell? ⟨g, i.toNat * 3 + d, none⟩ = (cellsVa ((xs.getD (r.toNat - 1) default).vs.getD i.toNat default))[d]?) ∧ ∀ j, w.frozen? ⟨g, j, none⟩ = false := by
  have hr1 : 1 ≤ r ∧ r ≤ (xs.length : Int) := by simpa [isOb] using hr
  have hi : r.toNat - 1 < xs.length := by omega
  have hrow := h.data _ hi
  have hg := h.gd _ hi
  have hi2 : i.toNat < (xs.getD (r.toNat - 1) default).vs.length := by omega
  rcases h.row.2 with ⟨e, e2⟩ | ⟨b, cap, cur, e, hb, hgg, hnc, hcm, hcs, htake⟩
  · rw [e2] at hi; exact absurd hi (Nat.not_lt_zero _)
  subst e
  obtain ⟨ao', cap', e, q1, q2, q3, q4⟩ := RowG.sl lenOx h.row
  injection e with e1 _ e3
  subst e1 e3
  obtain ⟨b', o, e, h5⟩ := q4 _ rfl (by omega)
  injection e with e1 e2
  subst e1 e2
  have h7 := fun d hd => h5 _ hi d hd
  clear h5
  generalize xs.getD (r.toNat - 1) default = x at *
  rcases hrow.2 with ⟨e1, e2⟩ | ⟨g, cap2, cur2, e1, hb2, hgg2, hnc2, hcm2, hcs2, htake2⟩
  · rw [e2] at hi2; exact absurd hi2 (Nat.not_lt_zero _)
  obtain ⟨ao2, cap3, e, p1, p2, p3, p4⟩ := RowG.sl lenVa hrow
  rw [e1] at e
  injection e with e4 _ e5
  subst e4 e5
  obtain ⟨b4, o4, e, h6⟩ := p4 _ rfl (by omega)
  injection e with e4 e5
  subst e4 e5
  refine ⟨b, cap, g, cap2, rfl, e1, (hg g (by rw [e1]; rfl)).1, hi, by omega, fun d hd => ?_, fun d hd => ?_, fun j => ?_⟩
  · have := h7 d hd
    rw [Nat.zero_add] at this
    exact this
  · have := h6 _ hi2 d hd
    rwa [Nat.zero_add] at this
  · have := hrow
    rw [e1] at this
    exact owns_len this j
end
theorem getZ_put {os : List ObjV} {r i : Int} (h : (getZ os r i).2 = 0) (v : ValV) : getZ (putZ os r i v) r i = (v, 0) := by
  obtain ⟨h1, h2, h3⟩ := getZ_ok h
  have hr1 : 1 ≤ r ∧ r ≤ (os.length : Int) := by simpa [isOb] using h1
  have hl : (putZ os r i v).length = os.length := by simp [putZ]
  have hj : r.toNat - 1 < os.length := by omega
  have hob : obZ (putZ os r i v) r = ⟨(obZ os r).t, (obZ os r).vs.set i.toNat v⟩ := by
    unfold obZ putZ
    rw [List.getD_eq_getElem?_getD, List.getElem?_set]
    simp [hj, obZ]
  unfold getZ
  rw [hl, if_pos h1, hob]
  have h4 : 0 ≤ i ∧ i < ((((obZ os r).vs.set i.toNat v).length : Nat) : Int) := by rw [List.length_set]; exact ⟨h2, h3⟩
  simp only
  rw [if_pos h4]
  have h5 : i.toNat < (obZ os r).vs.length := by omega
  rw [List.getD_eq_getElem?_getD, List.getElem?_set]
  simp [h5]
end Go.Proofs.Ytebeoganblcblaa
