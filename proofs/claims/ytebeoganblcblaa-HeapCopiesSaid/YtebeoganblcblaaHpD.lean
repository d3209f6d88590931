/- The document's heap as it is laid. No condition. -/
import Derived.Test.YtebeoganblcblaaHpW
namespace Go.Proofs.Ytebeoganblcblaa
open Go.RowKit
set_option linter.unusedVariables false
set_option linter.unusedSimpArgs false

/-- An object as it is laid: its type, where its values are, and what they are. -/
structure ObX where
  t : TypeV
  d : Value
  vs : List ValV
instance : Inhabited ObX := ⟨⟨zeroT, .slice none 0 0, []⟩⟩
def ObX.o (x : ObX) : ObjV := ⟨x.t, x.vs⟩
def cellsOx (x : ObX) : List Value := [.int .i64 x.t.k, .string x.t.name, .int .i64 x.t.dims, .int .i64 x.t.elem, .int .i64 x.t.at_, x.d]
theorem lenOx (x : ObX) : (cellsOx x).length = 6 := rfl
theorem info_obj : (Try.prog.info? 56).map (fun i => (i.zero, i.size, i.bytes)) = some (some (.agg #[.int .i64 0, .string ⟨#[]⟩, .int .i64 0, .int .i64 0, .int .i64 0, .slice none 0 0]), 6, 72) := by kernel_rfl
/-- The document's heap at p, whose blocks are all in G. -/
structure HeapL (w : World) (G : Nat → Prop) (p : Nat) (L : Value) (xs : List ObX) (most : Int) : Prop where
  blk : w.heap[p]? = some (.cells #[L, .int .i64 most] 41 (0, 0))
  row : RowG 56 6 cellsOx w 0 L xs
  data : ∀ i, i < xs.length → RowG 34 3 cellsVa w 0 (xs.getD i default).d (xs.getD i default).vs
  lt : ∀ k, G k → k < w.heap.size
  gp : G p
  gL : ∀ k, L.ownBlock = some k → G k ∧ k ≠ p
  gd : ∀ i, i < xs.length → ∀ k, (xs.getD i default).d.ownBlock = some k → G k ∧ k ≠ p ∧ L.ownBlock ≠ some k
  apart : ∀ i j, i < xs.length → j < xs.length → i ≠ j → ∀ k, (xs.getD i default).d.ownBlock = some k → (xs.getD j default).d.ownBlock ≠ some k
  few : xs.length ≤ 1024
  most0 : most ≤ 1024
  short : ∀ i, i < xs.length → (xs.getD i default).vs.length ≤ 1024
def HeapR (w : World) (G : Nat → Prop) (p : Nat) (os : List ObjV) (most : Int) : Prop := ∃ L xs, HeapL w G p L xs most ∧ xs.map ObX.o = os
/-- What is elsewhere does not matter. -/
theorem HeapL.only {w w' : World} {G S : Nat → Prop} {p : Nat} {L : Value} {xs : List ObX} {most : Int} (h : HeapL w G p L xs most) (ho : Only S w w') (hs : ∀ k, G k → ¬ S k) : HeapL w' G p L xs most :=
  ⟨ho.heap h.blk (hs _ h.gp), RowG.only h.row ho (fun k hk => hs k (h.gL k hk).1), fun i hi => RowG.only (h.data i hi) ho (fun k hk => hs k (h.gd i hi k hk).1),
    fun k hk => Nat.lt_of_lt_of_le (h.lt k hk) ho.size, h.gp, h.gL, h.gd, h.apart, h.few, h.most0, h.short⟩
theorem HeapR.only {w w' : World} {G S : Nat → Prop} {p : Nat} {os : List ObjV} {most : Int} (h : HeapR w G p os most) (ho : Only S w w') (hs : ∀ k, G k → ¬ S k) : HeapR w' G p os most := by
  obtain ⟨L, xs, h1, h2⟩ := h
  exact ⟨L, xs, h1.only ho hs, h2⟩
theorem HeapR.lt {w : World} {G : Nat → Prop} {p : Nat} {os : List ObjV} {most : Int} (h : HeapR w G p os most) : ∀ k, G k → k < w.heap.size := by
  obtain ⟨L, xs, h1, h2⟩ := h
  exact h1.lt
theorem ob_at {xs : List ObX} {i : Nat} (hi : i < xs.length) : (xs.map ObX.o).getD i default = (xs.getD i default).o := by
  simp [List.getD, hi]
theorem val_result {fn : Func} {p : Tmp} (hr : fn.results = #[.cell p 34]) {w : World} {b : Nat} {t : ValV} {tmps : Array Value} (h : w.heap[b]? = some (.cells #[.int .i64 t.k, .int .i64 t.n, .int .i64 t.r] 34 (0, 0))) (ht : tmps.getD p undef = .pointer (some ⟨b, 0, none⟩)) :
    (results fn tmps).run Try.prog w = .ok (valVa t) w := results_cell_row hr tmps w b 34 _ (0, 0) _ ht h Try.underlying34 rfl size_val
theorem val_result2 {fn : Func} {p q : Tmp} (hr : fn.results = #[.cell p 34, .tmp q]) {w : World} {b : Nat} {t : ValV} {x : Value} {tmps : Array Value} (h : w.heap[b]? = some (.cells #[.int .i64 t.k, .int .i64 t.n, .int .i64 t.r] 34 (0, 0))) (ht : tmps.getD p undef = .pointer (some ⟨b, 0, none⟩)) (hx : tmps.getD q undef = x) :
    (results fn tmps).run Try.prog w = .ok (.tuple #[valVa t, x]) w := by
  rw [results_cell_tmp hr, ht, hx, show (asAddr (.pointer (some ⟨b, 0, none⟩))).run Try.prog w = .ok ⟨b, 0, none⟩ w from rfl]
  simp only [Result.andThen]
  rw [run_loadVar_row w b 34 34 _ (0, 0) _ h Try.underlying34 rfl size_val]
  rfl
theorem cells3V {w : World} {b : Nat} {c0 c1 c2 : Value} {t : TypeId} {f : Nat × Nat} (h : w.heap[b]? = some (.cells #[c0, c1, c2] t f)) :
    w.cell? ⟨b, 0, none⟩ = some c0 ∧ w.cell? ⟨b, 1, none⟩ = some c1 ∧ w.cell? ⟨b, 2, none⟩ = some c2 := ⟨cell_blk h 0, cell_blk h 1, cell_blk h 2⟩
theorem marks3V {w : World} {b : Nat} {c : Array Value} {t : TypeId} (h : w.heap[b]? = some (.cells c t (0, 0))) :
    w.frozen? ⟨b, 0, none⟩ = false ∧ w.frozen? ⟨b, 1, none⟩ = false ∧ w.frozen? ⟨b, 2, none⟩ = false := ⟨frozen_blk h 0, frozen_blk h 1, frozen_blk h 2⟩
theorem store3V {w : World} {b : Nat} {T : TypeId} {f : Nat × Nat} {o0 o1 o2 a0 a1 a2 : Value} (h : w.heap[b]? = some (.cells #[o0, o1, o2] T f)) :
    (((w.setCell ⟨b, 0, none⟩ a0).setCell ⟨b, 1, none⟩ a1).setCell ⟨b, 2, none⟩ a2).heap[b]? = some (.cells #[a0, a1, a2] T f) := by
  have h0 := heap_setCell_at (i := 0) (u := a0) h
  simp only [List.setIfInBounds_toArray, List.set_cons_zero, List.set_cons_succ] at h0
  have h1 := heap_setCell_at (i := 1) (u := a1) h0
  simp only [List.setIfInBounds_toArray, List.set_cons_zero, List.set_cons_succ] at h1
  have h2 := heap_setCell_at (i := 2) (u := a2) h1
  simp only [List.setIfInBounds_toArray, List.set_cons_zero, List.set_cons_succ] at h2
  exact h2
theorem only3V {S : Nat → Prop} {w w' : World} {b : Nat} {a0 a1 a2 : Value} (h : Only S w w') (hb : b < w.heap.size → S b) : Only S w (((w'.setCell ⟨b, 0, none⟩ a0).setCell ⟨b, 1, none⟩ a1).setCell ⟨b, 2, none⟩ a2) := by
  iterate 3 (refine Only.setCell (S := S) ?_ hb _)
  exact h
end Go.Proofs.Ytebeoganblcblaa
