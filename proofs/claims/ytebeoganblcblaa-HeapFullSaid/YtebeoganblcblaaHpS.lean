/- The document's Set of a heap. No condition. -/
import Derived.Test.YtebeoganblcblaaHpB
namespace Go.Proofs.Ytebeoganblcblaa
open Go.RowKit
set_option linter.unusedVariables false
set_option linter.unusedSimpArgs false

theorem owns_set {w : World} {B e n len cap g : Nat} {xs : List Value} (h : w.ownsRow B e n (.slice (some ⟨g, 0, none⟩) len cap) len xs) (j : Nat) (u : Value) : (w.setCell ⟨g, j, none⟩ u).ownsRow B e n (.slice (some ⟨g, 0, none⟩) len cap) len (xs.set j u) := by
  refine ⟨by rw [List.length_set]; exact h.1, ?_⟩
  rcases h.2 with ⟨e1, _⟩ | ⟨g', cap', cur, e1, hb, hg, hnc, hcm, hcs, htake⟩
  · cases e1
  · injection e1 with e1 _ e3
    injection e1 with e1
    injection e1 with e1 _
    subst e1 e3
    refine .inr ⟨g, cap, cur.setIfInBounds j u, rfl, hb, heap_setCell_at hg, hnc, hcm, by simpa using hcs, ?_⟩
    rw [Array.toList_setIfInBounds, List.take_set, htake]
theorem owns_len {w : World} {B e n len cap g : Nat} {xs : List Value} (h : w.ownsRow B e n (.slice (some ⟨g, 0, none⟩) len cap) len xs) (j : Nat) : w.frozen? ⟨g, j, none⟩ = false := by
  rcases h.2 with ⟨e1, _⟩ | ⟨g', cap', cur, e1, hb, hg, hnc, hcm, hcs, htake⟩
  · cases e1
  · injection e1 with e1 _ e3
    injection e1 with e1
    injection e1 with e1 _
    subst e1 e3
    exact frozen_blk hg j
theorem flat_set3 : ∀ (l : List ValV) (i : Nat) (v : ValV), (((l.flatMap cellsVa).set (i * 3) (.int .i64 v.k)).set (i * 3 + 1) (.int .i64 v.n)).set (i * 3 + 2) (.int .i64 v.r) = (l.set i v).flatMap cellsVa
  | [], _, _ => rfl
  | x :: l, 0, v => rfl
  | x :: l, i + 1, v => by
    have h := flat_set3 l i v
    rw [List.flatMap_cons, show (i + 1) * 3 = i * 3 + 1 + 1 + 1 from by omega]
    simp only [cellsVa, List.cons_append, List.nil_append, List.set_cons_succ, Nat.add_assoc, List.flatMap_cons]
    rw [h]
theorem RowG.set3 {w : World} {B g cap : Nat} {l : List ValV} (h : RowG 34 3 cellsVa w B (.slice (some ⟨g, 0, none⟩) l.length cap) l) (i : Nat) (v : ValV) :
    RowG 34 3 cellsVa (((w.setCell ⟨g, i * 3, none⟩ (.int .i64 v.k)).setCell ⟨g, i * 3 + 1, none⟩ (.int .i64 v.n)).setCell ⟨g, i * 3 + 2, none⟩ (.int .i64 v.r)) B (.slice (some ⟨g, 0, none⟩) l.length cap) (l.set i v) := by
  unfold RowG
  rw [List.length_set, ← flat_set3]
  exact owns_set (owns_set (owns_set h _ _) _ _) _ _
theorem getZ_ok {os : List ObjV} {r i : Int} (h : (getZ os r i).2 = 0) : isOb os.length r = true ∧ 0 ≤ i ∧ i < ((obZ os r).vs.length : Int) := by
  unfold getZ at h
  by_cases h1 : isOb os.length r = true
  · rw [if_pos h1] at h
    by_cases h2 : 0 ≤ i ∧ i < ((obZ os r).vs.length : Int)
    · exact ⟨h1, h2⟩
    · rw [if_neg h2] at h; cases h
  · rw [if_neg h1] at h; cases h
/-- One value more is set. -/
theorem HeapL.put {w w' : World} {G : Nat → Prop} {p : Nat} {L : Value} {xs : List ObX} {most : Int} (h : HeapL w G p L xs most) {j : Nat} (hj : j < xs.length) {g cap i : Nat} (hd : (xs.getD j default).d = .slice (some ⟨g, 0, none⟩) (xs.getD j default).vs.length cap) (v : ValV)
    (ho : w' = ((w.setCell ⟨g, i * 3, none⟩ (.int .i64 v.k)).setCell ⟨g, i * 3 + 1, none⟩ (.int .i64 v.n)).setCell ⟨g, i * 3 + 2, none⟩ (.int .i64 v.r)) :
    HeapL w' G p L (xs.set j ⟨(xs.getD j default).t, (xs.getD j default).d, (xs.getD j default).vs.set i v⟩) most := by
  have hO : Only (fun k => k = g) w w' := by
    rw [ho]
    iterate 3 (refine Only.setCell (S := fun k => k = g) ?_ (fun _ => rfl) _)
    exact Only.refl _ w
  have hgd := h.gd j hj g (by rw [hd]; rfl)
  have ex : ∀ k, k < xs.length → (xs.set j ⟨(xs.getD j default).t, (xs.getD j default).d, (xs.getD j default).vs.set i v⟩).getD k default = if k = j then ⟨(xs.getD j default).t, (xs.getD j default).d, (xs.getD j default).vs.set i v⟩ else xs.getD k default := by
    intro k hk
    have : k < (xs.set j ⟨(xs.getD j default).t, (xs.getD j default).d, (xs.getD j default).vs.set i v⟩).length := by simpa using hk
    rw [List.getD_eq_getElem?_getD, List.getElem?_set, List.getD_eq_getElem?_getD]
    by_cases e : k = j
    · subst e; simp [hj]
    · rw [if_neg (fun q => e q.symm), if_neg e, List.getD_eq_getElem?_getD]
  have exd : ∀ k, k < xs.length → ((xs.set j ⟨(xs.getD j default).t, (xs.getD j default).d, (xs.getD j default).vs.set i v⟩).getD k default).d = (xs.getD k default).d := by
    intro k hk
    rw [ex k hk]
    by_cases e : k = j
    · subst e; rw [if_pos rfl]
    · rw [if_neg e]
  have hl : (xs.set j ⟨(xs.getD j default).t, (xs.getD j default).d, (xs.getD j default).vs.set i v⟩).length = xs.length := by simp
  refine ⟨hO.heap h.blk (fun q => hgd.2.1 q.symm), ?_, ?_, fun k hk => Nat.lt_of_lt_of_le (h.lt k hk) hO.size, h.gp, h.gL, ?_, ?_, by rw [hl]; exact h.few, h.most0, ?_⟩
  · have hr := RowG.only h.row hO (fun k hk q => hgd.2.2 (by rw [← q]; exact hk))
    have e : (xs.set j ⟨(xs.getD j default).t, (xs.getD j default).d, (xs.getD j default).vs.set i v⟩).flatMap cellsOx = xs.flatMap cellsOx := by
      have : ∀ (l : List ObX) (j : Nat) (y : ObX), cellsOx y = cellsOx (l.getD j default) → (l.set j y).flatMap cellsOx = l.flatMap cellsOx := by
        intro l
        induction l with
        | nil => intro j y _; rfl
        | cons x r ih =>
          intro j y hy
          cases j with
          | zero => rw [List.set_cons_zero, List.flatMap_cons, List.flatMap_cons, hy]; rfl
          | succ j => rw [List.set_cons_succ, List.flatMap_cons, List.flatMap_cons, ih j y hy]
      exact this xs j _ rfl
    unfold RowG at hr ⊢
    rw [e, hl]
    exact hr
  · intro k hk
    rw [hl] at hk
    rw [ex k hk]
    by_cases e : k = j
    · subst e
      rw [if_pos rfl]
      have hr := h.data k hk
      simp only
      rw [hd] at hr ⊢
      rw [ho]
      exact RowG.set3 hr i v
    · rw [if_neg e]
      exact RowG.only (h.data k hk) hO (fun q hq hs => by subst hs; exact h.apart j k hj hk (fun q => e q.symm) _ (by rw [hd]; rfl) hq)
  · intro k hk
    rw [hl] at hk
    rw [exd k hk]
    exact h.gd k hk
  · intro a b ha hb
    rw [hl] at ha hb
    rw [exd a ha, exd b hb]
    exact h.apart a b ha hb
  · intro k hk
    rw [hl] at hk
    rw [ex k hk]
    by_cases e : k = j
    · subst e; rw [if_pos rfl]; simpa using h.short k hk
    · rw [if_neg e]; exact h.short k hk
end Go.Proofs.Ytebeoganblcblaa
