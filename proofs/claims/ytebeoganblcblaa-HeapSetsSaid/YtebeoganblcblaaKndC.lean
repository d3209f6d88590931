/- The document's own Field. No condition but a length that a text can have. -/
import Derived.Test.YtebeoganblcblaaKndB
namespace Go.Proofs.Ytebeoganblcblaa
open Go.RowKit
set_option linter.unusedVariables false
set_option linter.unusedSimpArgs false

/-- The type of a whole text. -/
def oneZ8 (zs : List Int) : Option TypeV := match fieldZ zs with | some (t, []) => some t | _ => none
def typO (r : Option TypeV) : TypeV := match r with | some t => t | none => zeroT
def errO (r : Option TypeV) : Int := match r with | some _ => 0 | none => 80
theorem cells5T {w : World} {b : Nat} {c0 c1 c2 c3 c4 : Value} {t : TypeId} {f : Nat × Nat} (h : w.heap[b]? = some (.cells #[c0, c1, c2, c3, c4] t f)) :
    w.cell? ⟨b, 0, none⟩ = some c0 ∧ w.cell? ⟨b, 1, none⟩ = some c1 ∧ w.cell? ⟨b, 2, none⟩ = some c2 ∧ w.cell? ⟨b, 3, none⟩ = some c3 ∧ w.cell? ⟨b, 4, none⟩ = some c4 :=
  ⟨cell_blk h 0, cell_blk h 1, cell_blk h 2, cell_blk h 3, cell_blk h 4⟩
theorem marks5T {w : World} {b : Nat} {c : Array Value} {t : TypeId} (h : w.heap[b]? = some (.cells c t (0, 0))) :
    w.frozen? ⟨b, 0, none⟩ = false ∧ w.frozen? ⟨b, 1, none⟩ = false ∧ w.frozen? ⟨b, 2, none⟩ = false ∧ w.frozen? ⟨b, 3, none⟩ = false ∧ w.frozen? ⟨b, 4, none⟩ = false :=
  ⟨frozen_blk h 0, frozen_blk h 1, frozen_blk h 2, frozen_blk h 3, frozen_blk h 4⟩
theorem store5T {w : World} {b : Nat} {T : TypeId} {f : Nat × Nat} {o0 o1 o2 o3 o4 a0 a1 a2 a3 a4 : Value} (h : w.heap[b]? = some (.cells #[o0, o1, o2, o3, o4] T f)) :
    (((((w.setCell ⟨b, 0, none⟩ a0).setCell ⟨b, 1, none⟩ a1).setCell ⟨b, 2, none⟩ a2).setCell ⟨b, 3, none⟩ a3).setCell ⟨b, 4, none⟩ a4).heap[b]? = some (.cells #[a0, a1, a2, a3, a4] T f) := by
  have h0 := heap_setCell_at (i := 0) (u := a0) h
  simp only [List.setIfInBounds_toArray, List.set_cons_zero, List.set_cons_succ] at h0
  have h1 := heap_setCell_at (i := 1) (u := a1) h0
  simp only [List.setIfInBounds_toArray, List.set_cons_zero, List.set_cons_succ] at h1
  have h2 := heap_setCell_at (i := 2) (u := a2) h1
  simp only [List.setIfInBounds_toArray, List.set_cons_zero, List.set_cons_succ] at h2
  have h3 := heap_setCell_at (i := 3) (u := a3) h2
  simp only [List.setIfInBounds_toArray, List.set_cons_zero, List.set_cons_succ] at h3
  have h4 := heap_setCell_at (i := 4) (u := a4) h3
  simp only [List.setIfInBounds_toArray, List.set_cons_zero, List.set_cons_succ] at h4
  exact h4
theorem only5T {S : Nat → Prop} {w w' : World} {b : Nat} {a0 a1 a2 a3 a4 : Value} (h : Only S w w') (hb : b < w.heap.size → S b) :
    Only S w (((((w'.setCell ⟨b, 0, none⟩ a0).setCell ⟨b, 1, none⟩ a1).setCell ⟨b, 2, none⟩ a2).setCell ⟨b, 3, none⟩ a3).setCell ⟨b, 4, none⟩ a4) := by
  iterate 5 (refine Only.setCell (S := S) ?_ hb _)
  exact h
theorem type_result2 {fn : Func} {p q : Tmp} (hr : fn.results = #[.cell p 32, .tmp q]) {w : World} {b : Nat} {t : TypeV} {x : Value} {tmps : Array Value} (h : w.heap[b]? = some (.cells #[.int .i64 t.k, .string t.name, .int .i64 t.dims, .int .i64 t.elem, .int .i64 t.at_] 32 (0, 0))) (ht : tmps.getD p undef = .pointer (some ⟨b, 0, none⟩)) (hx : tmps.getD q undef = x) :
    (results fn tmps).run Try.prog w = .ok (.tuple #[valT t, x]) w := by
  rw [results_cell_tmp hr, ht, hx, show (asAddr (.pointer (some ⟨b, 0, none⟩))).run Try.prog w = .ok ⟨b, 0, none⟩ w from rfl]
  simp only [Result.andThen]
  rw [run_loadVar_row w b 32 32 _ (0, 0) _ h Try.underlying32 rfl info5_type]
  rfl
theorem toList_empty : (⟨#[]⟩ : ByteArray).toList = [] := by rw [ByteArray.toList_eq]
theorem toList_ne {s : ByteArray} (h : s ≠ ⟨#[]⟩) : s.toList.isEmpty = false ∧ ¬ s.toList = [] := by
  have h2 : ¬ s.toList = [] := fun e => h (toList_inj' (by rw [e, toList_empty]))
  refine ⟨?_, h2⟩
  cases hq : s.toList with
  | nil => exact absurd hq h2
  | cons _ _ => rfl
theorem nums_nil : nums ⟨#[]⟩ = [] := rfl
theorem strOf_ne {c : Int} {r : List Int} {s : ByteArray} (h : nums s = c :: r) : s ≠ ⟨#[]⟩ := fun e => by rw [e, nums_nil] at h; cases h
theorem nums_ne {s : ByteArray} (h : s ≠ ⟨#[]⟩) : ∃ c r, nums s = c :: r := by
  cases hq : nums s with
  | nil => exact absurd (nums_inj (hq.trans nums_nil.symm)) h
  | cons c r => exact ⟨c, r, rfl⟩

/-- What is left of a text is a part of it. -/
theorem base_rest {d : Nat} {zs r : List Int} {t : TypeV} (h : baseZ d zs = some (t, r)) : ∃ n, r = zs.drop n ∧ r.length < zs.length := by
  cases zs with
  | nil => cases h
  | cons c q =>
    unfold baseZ at h
    simp only at h
    split at h
    · cases h
    split at h
    · simp only [Option.some.injEq, Prod.mk.injEq] at h
      exact ⟨1, h.2.symm, by rw [← h.2]; simp⟩
    split at h
    · simp only [Option.some.injEq, Prod.mk.injEq] at h
      exact ⟨1, h.2.symm, by rw [← h.2]; simp⟩
    split at h
    · split at h
      · cases h
      split at h
      · simp only [Option.some.injEq, Prod.mk.injEq] at h
        exact ⟨semiZ q + 1 + 1, h.2.symm, by rw [← h.2]; simp; omega⟩
      · cases h
    · cases h
theorem field_rest {zs r : List Int} {t : TypeV} (h : fieldZ zs = some (t, r)) : ∃ n, r = zs.drop n ∧ r.length < zs.length := by
  obtain ⟨n, h1, h2⟩ := base_rest h
  rw [List.length_drop] at h2
  exact ⟨dimsZ zs + n, by rw [h1, List.drop_drop], by omega⟩
/-- The rest of a text of bytes, as a text again. -/
theorem nums_strOf_drop (s : ByteArray) (n : Nat) : nums (strOfNums ((nums s).drop n)) = (nums s).drop n := by
  rw [← nums_rest s n, str_nums]

end Go.Proofs.Ytebeoganblcblaa
