/- Frames as values and in blocks; results that are frames. No condition. -/
import Derived.Test.YtackogifpfioaaaGreatDoorMem
import Derived.ProofKit
import Derived.Laws.ResultCell
namespace Go.Proofs.YtackogifpfioaaaGreatDoor
open Go.RowKit
set_option linter.unusedVariables false
set_option linter.unusedSimpArgs false

def valFr (l s : Value) (b : Bool) : Value := .agg #[l, s, .bool b]
def zeroFr : Value := .agg #[.slice none 0 0, .slice none 0 0, .bool false]
theorem info3_frame : (Tryz.prog.info? 26).map (·.size) = some 3 := by kernel_rfl
theorem frame_result2 {fn : Func} {p q : Tmp} (hr : fn.results = #[.cell p 26, .tmp q]) {w : World} {b : Nat} {l s : Value} {fr : Bool} {x : Value} {tmps : Array Value} (h : w.heap[b]? = some (.cells #[l, s, .bool fr] 26 (0, 0))) (ht : tmps.getD p undef = .pointer (some ⟨b, 0, none⟩)) (hx : tmps.getD q undef = x) :
    (results fn tmps).run Tryz.prog w = .ok (.tuple #[valFr l s fr, x]) w := by
  rw [results_cell_tmp hr, ht, hx, show (asAddr (.pointer (some ⟨b, 0, none⟩))).run Tryz.prog w = .ok ⟨b, 0, none⟩ w from rfl]
  simp only [Result.andThen]
  rw [run_loadVar_row w b 26 26 _ (0, 0) _ h Tryz.underlying26 rfl info3_frame]
  rfl
theorem frame_alone {fn : Func} {p : Tmp} (hr : fn.results = #[.cell p 26]) {w : World} {b : Nat} {l s : Value} {fr : Bool} {tmps : Array Value} (h : w.heap[b]? = some (.cells #[l, s, .bool fr] 26 (0, 0))) (ht : tmps.getD p undef = .pointer (some ⟨b, 0, none⟩)) :
    (results fn tmps).run Tryz.prog w = .ok (valFr l s fr) w :=
  results_cell_row hr tmps w b 26 _ (0, 0) _ ht h Tryz.underlying26 rfl info3_frame
theorem cells3 {w : World} {b : Nat} {c0 c1 c2 : Value} {t : TypeId} {f : Nat × Nat} (h : w.heap[b]? = some (.cells #[c0, c1, c2] t f)) :
    w.cell? ⟨b, 0, none⟩ = some c0 ∧ w.cell? ⟨b, 1, none⟩ = some c1 ∧ w.cell? ⟨b, 2, none⟩ = some c2 :=
  ⟨cell_blk h 0, cell_blk h 1, cell_blk h 2⟩
theorem marks3 {w : World} {b : Nat} {c : Array Value} {t : TypeId} (h : w.heap[b]? = some (.cells c t (0, 0))) :
    w.frozen? ⟨b, 0, none⟩ = false ∧ w.frozen? ⟨b, 1, none⟩ = false ∧ w.frozen? ⟨b, 2, none⟩ = false :=
  ⟨frozen_blk h 0, frozen_blk h 1, frozen_blk h 2⟩
theorem store3 {w : World} {b : Nat} {T : TypeId} {f : Nat × Nat} {o0 o1 o2 a0 a1 a2 : Value} (h : w.heap[b]? = some (.cells #[o0, o1, o2] T f)) :
    (((w.setCell ⟨b, 0, none⟩ a0).setCell ⟨b, 1, none⟩ a1).setCell ⟨b, 2, none⟩ a2).heap[b]? = some (.cells #[a0, a1, a2] T f) := by
  have h0 := heap_setCell_at (i := 0) (u := a0) h
  simp only [List.setIfInBounds_toArray, List.set_cons_zero, List.set_cons_succ] at h0
  have h1 := heap_setCell_at (i := 1) (u := a1) h0
  simp only [List.setIfInBounds_toArray, List.set_cons_zero, List.set_cons_succ] at h1
  have h2 := heap_setCell_at (i := 2) (u := a2) h1
  simp only [List.setIfInBounds_toArray, List.set_cons_zero, List.set_cons_succ] at h2
  exact h2
theorem only3 {S : Nat → Prop} {w w' : World} {b : Nat} {a0 a1 a2 : Value} (h : Only S w w') (hb : b < w.heap.size → S b) :
    Only S w (((w'.setCell ⟨b, 0, none⟩ a0).setCell ⟨b, 1, none⟩ a1).setCell ⟨b, 2, none⟩ a2) := by
  iterate 3 (refine Only.setCell (S := S) ?_ hb _)
  exact h
end Go.Proofs.YtackogifpfioaaaGreatDoor
