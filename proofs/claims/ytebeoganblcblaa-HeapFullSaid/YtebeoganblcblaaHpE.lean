/- Values held against each other, objects as they are read, and the law's own comparison of two lists of objects: of equal ones it answers true. No condition. -/
import Derived.Test.YtebeoganblcblaaHpD
import Derived.Deep.QuietTactic
import Derived.BigQuiet
namespace Go.Proofs.Ytebeoganblcblaa
open Go.RowKit
set_option linter.unusedVariables false
set_option linter.unusedSimpArgs false

theorem guard_val : Try.prog.eqGuardType Try.prog.depth 34 = false := by kernel_rfl
theorem held_val : Try.prog.stoodInHeld 34 = false := by kernel_rfl
theorem fields_val : Try.prog.underlying 34 = some (.struct (Try.prog.fieldsOf 34)) := by kernel_rfl
theorem list_val : (Try.prog.fieldsOf 34).toList.map (fun f => (f.name, f.type, f.offset)) = [("K", 3, 0), ("N", 2, 1), ("R", 3, 2)] := by kernel_rfl
theorem eql_val (i k : ValV) (w : World) : (binOp .eql 34 (valVa i) (valVa k)).run Try.prog w = .ok (.bool (decide (i = k))) w := by
  unfold valVa
  rw [run_eql_struct, run_equalIn_agg w _ _ _ _ fields_val held_val]
  have h := list_val
  generalize (Try.prog.fieldsOf 34).toList = l at *
  rcases l with _ | ⟨f0, _ | ⟨f1, _ | ⟨f2, _ | _⟩⟩⟩
  any_goals (simp at h; done)
  · simp only [List.map_cons, List.map_nil, List.cons.injEq, Prod.mk.injEq, and_true] at h
    obtain ⟨⟨a1, a2, a3⟩, ⟨b1, b2, b3⟩, c1, c2, c3⟩ := h
    simp [Op.eqFields, a1, a2, a3, b1, b2, b3, c1, c2, c3, part, isAgg, run_underlying Try.underlying3, run_underlying Try.underlying2, go_sem, run_equalIn_int w _ _ _ _ _ _ Try.underlying3, run_equalIn_int w _ _ _ _ _ _ Try.underlying2]
    obtain ⟨x0, x1, x2⟩ := i
    obtain ⟨y0, y1, y2⟩ := k
    simp only [ValV.mk.injEq]
    by_cases e0 : x0 = y0 <;> by_cases e1 : x1 = y1 <;> by_cases e2 : x2 = y2 <;> simp [e0, e1, e2, Result.andThen, go_sem]
theorem neq_val (k : ValV) (w : World) : (binOp .neq 34 (.agg #[.int .i64 k.k, .int .i64 k.n, .int .i64 k.r]) (.agg #[.int .i64 k.k, .int .i64 k.n, .int .i64 k.r])).run Try.prog w = .ok (.bool false) w := by
  have h := eql_val k k w
  rw [show decide (k = k) = true by simp] at h
  unfold valVa at h
  rw [run_eql_struct] at h
  rw [run_neq_struct]
  generalize (Op.equalIn 10000 34 _ _).run Try.prog w = r at *
  cases r with
  | ok b w' =>
    simp only [Result.andThen, Result.ok.injEq, Value.bool.injEq] at h ⊢
    rw [h.1, h.2]
    exact ⟨rfl, rfl⟩
  | halt x w' => simp [Result.andThen] at h
theorem neq_type14 (k : TypeV) (w : World) : (binOp .neq 32 (.agg #[.int .i64 k.k, .string k.name, .int .i64 k.dims, .int .i64 k.elem, .int .i64 k.at_]) (.agg #[.int .i64 k.k, .string k.name, .int .i64 k.dims, .int .i64 k.elem, .int .i64 k.at_])).run Try.prog w = .ok (.bool false) w := by
  have h := eql_type k k w
  rw [eqT_self] at h
  unfold valT at h
  rw [run_eql_struct] at h
  rw [run_neq_struct]
  generalize (Op.equalIn 10000 32 _ _).run Try.prog w = r at *
  cases r with
  | ok b w' =>
    simp only [Result.andThen, Result.ok.injEq, Value.bool.injEq] at h ⊢
    rw [h.1, h.2]
    exact ⟨rfl, rfl⟩
  | halt x w' => simp [Result.andThen] at h
structure VaAt (w : World) (b o i : Nat) (k : ValV) : Prop where
  c0 : w.cell? ⟨b, o + i * 3, none⟩ = some (.int .i64 k.k)
  c1 : w.cell? ⟨b, o + i * 3 + 1, none⟩ = some (.int .i64 k.n)
  c2 : w.cell? ⟨b, o + i * 3 + 2, none⟩ = some (.int .i64 k.r)
def Vals (w : World) (v : Value) (l : List ValV) : Prop := Sl v l.length (fun b o i => VaAt w b o i (l.getD i default))
theorem Vals.only {w w' : World} {v : Value} {l : List ValV} {S : Nat → Prop} (h : Vals w v l) (ho : Only S w w') (hs : ∀ k, v.ownBlock = some k → ¬ S k) : Vals w' v l := h.imp (fun b _ _ hb _ h => ⟨ho.cell h.c0 (hs b hb), ho.cell h.c1 (hs b hb), ho.cell h.c2 (hs b hb)⟩)
structure ObAt (w : World) (b o i : Nat) (x : ObX) : Prop where
  c0 : w.cell? ⟨b, o + i * 6, none⟩ = some (.int .i64 x.t.k)
  c1 : w.cell? ⟨b, o + i * 6 + 1, none⟩ = some (.string x.t.name)
  c2 : w.cell? ⟨b, o + i * 6 + 2, none⟩ = some (.int .i64 x.t.dims)
  c3 : w.cell? ⟨b, o + i * 6 + 3, none⟩ = some (.int .i64 x.t.elem)
  c4 : w.cell? ⟨b, o + i * 6 + 4, none⟩ = some (.int .i64 x.t.at_)
  c5 : w.cell? ⟨b, o + i * 6 + 5, none⟩ = some x.d
/-- The objects that a value reads as. -/
def ObjsX (w : World) (v : Value) (xs : List ObX) : Prop := Sl v xs.length (fun b o i => ObAt w b o i (xs.getD i default)) ∧ ∀ i, i < xs.length → Vals w (xs.getD i default).d (xs.getD i default).vs
def ObjsR (w : World) (v : Value) (os : List ObjV) : Prop := ∃ xs, ObjsX w v xs ∧ xs.map ObX.o = os
theorem ObAt.only {w w' : World} {b o i : Nat} {x : ObX} {S : Nat → Prop} (h : ObAt w b o i x) (ho : Only S w w') (hs : ¬ S b) : ObAt w' b o i x :=
  ⟨ho.cell h.c0 hs, ho.cell h.c1 hs, ho.cell h.c2 hs, ho.cell h.c3 hs, ho.cell h.c4 hs, ho.cell h.c5 hs⟩
theorem ObjsX.none {w w' : World} {v : Value} {xs : List ObX} (h : ObjsX w v xs) (ho : Only (fun _ => False) w w') : ObjsX w' v xs :=
  ⟨h.1.imp (fun b _ _ hb _ h => h.only ho (fun h => h)), fun i hi => (h.2 i hi).only ho (fun _ _ h => h)⟩
theorem ObjsR.none {w w' : World} {v : Value} {os : List ObjV} (h : ObjsR w v os) (ho : Only (fun _ => False) w w') : ObjsR w' v os := by
  obtain ⟨xs, h1, h2⟩ := h
  exact ⟨xs, h1.none ho, h2⟩
theorem Vals.of_row {w : World} {B : Nat} {v : Value} {l : List ValV} (h : RowG 34 3 cellsVa w B v l) : Vals w v l :=
  (RowG.sl lenVa h).imp (fun _ _ _ _ _ h => ⟨h 0 (by decide), h 1 (by decide), h 2 (by decide)⟩)
theorem ObjsX.of_heap {w : World} {G : Nat → Prop} {p : Nat} {L : Value} {xs : List ObX} {most : Int} (h : HeapL w G p L xs most) : ObjsX w L xs :=
  ⟨(RowG.sl lenOx h.row).imp (fun _ _ _ _ _ h => ⟨h 0 (by decide), h 1 (by decide), h 2 (by decide), h 3 (by decide), h 4 (by decide), h 5 (by decide)⟩), fun i hi => Vals.of_row (h.data i hi)⟩
end Go.Proofs.Ytebeoganblcblaa
