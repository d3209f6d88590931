/- The document's heap, by what is in it. Condition: it is there. -/
import Derived.Test.YtebeoganblcblaaHpM
import Derived.Test.YtebeoganblcblaaHpE
namespace Go.Proofs.Ytebeoganblcblaa
open Go.RowKit
set_option linter.unusedVariables false
set_option linter.unusedSimpArgs false

/-- What a call that may change a heap leaves: the heap in its blocks, and new ones. -/
def HpTo (R : World → (Nat → Prop) → Nat → List ObjV → Int → Prop) (w : World) (G : Nat → Prop) (p : Nat) (os : List ObjV) (most : Int) (w' : World) : Prop :=
  ∃ G', R w' G' p os most ∧ Only G w w' ∧ ∀ k, G' k → G k ∨ w.heap.size ≤ k
theorem HpTo.same {R : World → (Nat → Prop) → Nat → List ObjV → Int → Prop} {w w' : World} {G : Nat → Prop} {p : Nat} {os : List ObjV} {most : Int} (h : R w' G p os most) (ho : Only G w w') : HpTo R w G p os most w' := ⟨G, h, ho, fun k hk => .inl hk⟩
section
variable {w : World} {G : Nat → Prop} {p : Nat} {os : List ObjV} {most : Int} (h : HeapR w G p os most)
include h
theorem HeapR.few : os.length ≤ 1024 ∧ ∀ x ∈ os, x.vs.length ≤ 1024 := by
  obtain ⟨L, xs, h, rfl⟩ := h
  refine ⟨by rw [List.length_map]; exact h.few, fun x hx => ?_⟩
  obtain ⟨y, hy, rfl⟩ := List.mem_map.1 hx
  obtain ⟨i, hi, rfl⟩ := List.getElem_of_mem hy
  have := h.short i hi
  rwa [show xs.getD i default = xs[i] from by simp [List.getD, hi]] at this
/-- The list that the document's heap keeps. -/
theorem HeapR.list : ∃ L, w.cell? ⟨p, 0, none⟩ = some L ∧ (∃ ao cap, L = .slice ao os.length cap) ∧ ObjsR w L os := by
  obtain ⟨L, xs, h, rfl⟩ := h
  obtain ⟨ao, cap, e, -, -⟩ := slice_of_owns h.row
  exact ⟨L, cell_blk h.blk 0, ⟨ao, cap, by rw [List.length_map]; exact e⟩, xs, ObjsX.of_heap h, rfl⟩
theorem refMakeR (t : TypeV) (dv : Value) (ts : List TypeV) (ht : Types w dv ts) : Calls Try.prog 25 #[.pointer (some ⟨p, 0, none⟩), valT t, dv] w fun e w' =>
    e = .returned (.tuple #[.int .i64 (makeZ os most t ts).2.1, .int .i64 (makeZ os most t ts).2.2]) ∧ HpTo HeapR w G p (makeZ os most t ts).1 most w' := by
  obtain ⟨L, xs, h, rfl⟩ := h
  exact refMake14 h t dv ts ht
theorem refArrayR (t u : TypeV) (n : Int) : Calls Try.prog 26 #[.pointer (some ⟨p, 0, none⟩), valT t, valT u, .int .i64 n] w fun e w' =>
    e = .returned (.tuple #[.int .i64 (arrayZ os most t u n).2.1, .int .i64 (arrayZ os most t u n).2.2]) ∧ HpTo HeapR w G p (arrayZ os most t u n).1 most w' := by
  obtain ⟨L, xs, h, rfl⟩ := h
  exact refArray14 h t u n
theorem refSetR (r i : Int) (v : ValV) : Calls Try.prog 27 #[.pointer (some ⟨p, 0, none⟩), .int .i64 r, .int .i64 i, valVa v] w fun e w' =>
    e = .returned (.int .i64 (setZ os r i v).2) ∧ HpTo HeapR w G p (setZ os r i v).1 most w' := by
  obtain ⟨L, xs, h, rfl⟩ := h
  exact (refSet14 h r i v).mono fun e w' ⟨h1, h2, h3⟩ => ⟨h1, HpTo.same h2 h3⟩
theorem refGetR (r i : Int) : Calls Try.prog 28 #[.pointer (some ⟨p, 0, none⟩), .int .i64 r, .int .i64 i] w fun e w' => e = .returned (.tuple #[valVa (getZ os r i).1, .int .i64 (getZ os r i).2]) ∧ Only (fun _ => False) w w' := by
  obtain ⟨L, xs, h, rfl⟩ := h
  exact refGet14 h r i
theorem refTypeR (r : Int) : Calls Try.prog 29 #[.pointer (some ⟨p, 0, none⟩), .int .i64 r] w fun e w' => e = .returned (.tuple #[valT (typeZ14 os r).1, .int .i64 (typeZ14 os r).2]) ∧ Only (fun _ => False) w w' := by
  obtain ⟨L, xs, h, rfl⟩ := h
  exact refType14 h r
theorem refLenR (r : Int) : Calls Try.prog 30 #[.pointer (some ⟨p, 0, none⟩), .int .i64 r] w fun e w' => e = .returned (.int .i64 (lenZ14 os r)) ∧ w = w' := by
  obtain ⟨L, xs, h, rfl⟩ := h
  exact refLen14 h r
end
/-- Objects in new memory. -/
structure ObjsL (w : World) (G : Nat → Prop) (v : Value) (xs : List ObX) : Prop where
  row : RowG 56 6 cellsOx w 0 v xs
  data : ∀ i, i < xs.length → RowG 34 3 cellsVa w 0 (xs.getD i default).d (xs.getD i default).vs
  lt : ∀ k, G k → k < w.heap.size
  gL : ∀ k, v.ownBlock = some k → G k
  gd : ∀ i, i < xs.length → ∀ k, (xs.getD i default).d.ownBlock = some k → G k ∧ v.ownBlock ≠ some k
  apart : ∀ i j, i < xs.length → j < xs.length → i ≠ j → ∀ k, (xs.getD i default).d.ownBlock = some k → (xs.getD j default).d.ownBlock ≠ some k
def ObjsO (w : World) (G : Nat → Prop) (v : Value) (os : List ObjV) : Prop := ∃ xs, ObjsL w G v xs ∧ xs.map ObX.o = os
theorem ObjsL.only {w w' : World} {G S : Nat → Prop} {v : Value} {xs : List ObX} (h : ObjsL w G v xs) (ho : Only S w w') (hs : ∀ k, G k → ¬ S k) : ObjsL w' G v xs :=
  ⟨RowG.only h.row ho (fun k hk => hs k (h.gL k hk)), fun i hi => RowG.only (h.data i hi) ho (fun k hk => hs k (h.gd i hi k hk).1), fun k hk => Nat.lt_of_lt_of_le (h.lt k hk) ho.size, h.gL, h.gd, h.apart⟩
theorem ObjsO.only {w w' : World} {G S : Nat → Prop} {v : Value} {os : List ObjV} (h : ObjsO w G v os) (ho : Only S w w') (hs : ∀ k, G k → ¬ S k) : ObjsO w' G v os := by
  obtain ⟨xs, h1, h2⟩ := h
  exact ⟨xs, h1.only ho hs, h2⟩
theorem ObjsO.objs {w : World} {G : Nat → Prop} {v : Value} {os : List ObjV} (h : ObjsO w G v os) : ObjsR w v os := by
  obtain ⟨xs, h, e⟩ := h
  exact ⟨xs, ⟨(RowG.sl lenOx h.row).imp (fun _ _ _ _ _ h => ⟨h 0 (by decide), h 1 (by decide), h 2 (by decide), h 3 (by decide), h 4 (by decide), h 5 (by decide)⟩), fun i hi => Vals.of_row (h.data i hi)⟩, e⟩
end Go.Proofs.Ytebeoganblcblaa
