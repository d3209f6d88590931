/- The program's asking of a tree: the map that it fills in a range over the pairs, backward; the closures. No condition but a length that leaves room. -/
import Derived.Test.YtmakfnghkpdpkaaKndL
namespace Go.Proofs.Ytmakfnghkpdpkaa
open Go.RowKit Go.Shelf Go.Maps
set_option linter.unusedVariables false
set_option linter.unusedSimpArgs false
attribute [local go_sem] Oper.semAt_some

/-- No cell is another than it was. -/
structure CellsK (W W' : World) : Prop where
  size : W.heap.size ≤ W'.heap.size
  cell : ∀ a u, W.cell? a = some u → W'.cell? a = some u
theorem CellsK.refl (W : World) : CellsK W W := ⟨Nat.le_refl _, fun _ _ h => h⟩
theorem CellsK.trans {X Y Z : World} (h : CellsK X Y) (k : CellsK Y Z) : CellsK X Z := ⟨Nat.le_trans h.size k.size, fun a u hc => k.cell a u (h.cell a u hc)⟩
theorem CellsK.only {W W' : World} (ho : Only (fun _ => False) W W') : CellsK W W' := ⟨ho.size, fun a u h => ho.cell h (fun h => h)⟩
theorem cellsK_putObj {W : World} {l : Nat} {o o' : Obj} (hl : W.heap[l]? = some o) (ho : o.isCells = false) : CellsK W (W.putObj l o') := by
  refine ⟨by simp, fun a u h => ?_⟩
  have hne : a.block ≠ l := by
    intro e
    unfold World.cell? at h
    rw [e, hl] at h
    cases o with
    | cells => cases ho
    | _ => simp at h
  exact (World.cell?_of_block (World.putObj_heap_other hne)).trans h
theorem Pairs.cells {w W : World} {v : Value} {l : List PairV} (h : Pairs w v l) (k : CellsK w W) : Pairs W v l := h.imp (fun _ _ _ _ _ h => ⟨k.cell _ _ h.c0, k.cell _ _ h.c1⟩)
/-- The places. -/
def vals {n : Nat} (xs : List (Fin n)) : List Nat := xs.map (fun x => x.val)
theorem vals_snoc {n : Nat} (xs : List (Fin n)) (x : Fin n) : vals (xs ++ [x]) = vals xs ++ [x.val] := by simp [vals]
theorem vals_len {n : Nat} (xs : List (Fin n)) : (vals xs).length = xs.length := by simp [vals]
abbrev encP (l : List PairV) (x : Fin l.length) : Array Value := #[.int .i64 (x.val : Int), .agg #[.string (l.getD x.val default).name, .string (l.getD x.val default).super]]

/-- A function value that tells the place of any name in a tree. -/
def PlaceV (w : World) (l : List PairV) (pv : Value) : Prop := ∃ n b, pv = .func (.func n) #[] #[.pointer (some ⟨b, 0, none⟩)] ∧ (∀ args w, (callFunc n args).run Try.prog w = .ok (.enter n args) w) ∧
  ∀ W x, Only (fun _ => False) w W → x.size ≤ maxLen → Calls Try.prog n #[.string x, .pointer (some ⟨b, 0, none⟩)] W fun e w' => e = .returned (.int .i64 (pairOf l x)) ∧ Only (fun _ => False) W w'
theorem PlaceV.only {w w' : World} {l : List PairV} {pv : Value} (h : PlaceV w l pv) (ho : Only (fun _ => False) w w') : PlaceV w' l pv := by
  obtain ⟨n, b, h1, h2, h3⟩ := h
  exact ⟨n, b, h1, h2, fun W x hW hx => h3 W x (ho.trans hW (fun _ h _ => h)) hx⟩
theorem make_map8 (n : Int) (w : World) : (Instr.makeMap 24 (some (.int .i64 n))).run Try.prog w = .ok (.map (some w.heap.size)) (w.alloc (.map #[] 0)) := by
  have h : (underlying 24).run Try.prog w = .ok (.map 9 3) w := by kernel_rfl
  simp only [Instr.makeMap, Sem.run_bind, h, Result.andThen]
  rfl
theorem heap_kept8 {X Y : World} {B : Nat} {o : Obj} {row : Option Nat} (h : X.heap[B]? = some o) (hc : o.isCells = true) (hg : X.grownBy Y row) (hr : ∀ r, row = some r → ∃ o : Obj, X.heap[r]? = some o ∧ o.isCells = false) : Y.heap[B]? = some o :=
  (hg.block B (heap_lt h) (fun e => by obtain ⟨o', h1, h2⟩ := hr B e.symm; rw [h] at h1; cases h1; rw [hc] at h2; cases h2)).trans h
theorem boxed_of_heap {W w1 : World} {B : Nat} {t : TypeId} {v : Value} {row : Option Nat} (h : Boxed W B t v) (hg : W.grownBy w1 row) (hne : some B ≠ row) : Boxed w1 B t v := by
  have h' : W.heap[B]? = _ := h
  exact (hg.block B (heap_lt h') hne).trans h'
end Go.Proofs.Ytmakfnghkpdpkaa
