/- Lists of instructions as values: read, and owned. No condition. -/
import Derived.Test.YtngoajhnnlnphaaFloW
import Derived.Test.YtngoajhnnlnphaaOpsH
import Derived.Test.YtngoajhnnlnphaaOpsE
import Derived.Test.YtngoajhnnlnphaaBig
namespace Go.Proofs.Ytngoajhnnlnphaa
open Go.RowKit
set_option linter.unusedVariables false
set_option linter.unusedSimpArgs false

structure InstrAt (w : World) (b o i : Nat) (k : InstrV) : Prop where
  c0 : w.cell? ⟨b, o + i * 5, none⟩ = some (.int .i64 k.at_)
  c1 : w.cell? ⟨b, o + i * 5 + 1, none⟩ = some (.int .i64 k.op)
  c2 : w.cell? ⟨b, o + i * 5 + 2, none⟩ = some (.int .i64 k.a)
  c3 : w.cell? ⟨b, o + i * 5 + 3, none⟩ = some (.int .i64 k.b)
  c4 : w.cell? ⟨b, o + i * 5 + 4, none⟩ = some (.int .i64 k.size)
def Instrs (w : World) (v : Value) (l : List InstrV) : Prop := Sl v l.length (fun b o i => InstrAt w b o i (l.getD i default))
theorem InstrAt.only {S : Nat → Prop} {w w' : World} {b o i : Nat} {k : InstrV} (h : InstrAt w b o i k) (ho : Only S w w') (hs : ¬ S b) : InstrAt w' b o i k :=
  ⟨ho.cell h.c0 hs, ho.cell h.c1 hs, ho.cell h.c2 hs, ho.cell h.c3 hs, ho.cell h.c4 hs⟩
theorem Instrs.only {w w' : World} {v : Value} {l : List InstrV} (h : Instrs w v l) (ho : Only (fun _ => False) w w') : Instrs w' v l := h.imp (fun _ _ _ _ _ h => h.only ho (fun h => h))
theorem Instrs.nil (w : World) : Instrs w (.slice none 0 0) [] := Sl.nil _
/-- An owned row of instructions. -/
def IRow (w : World) (B : Nat) (v : Value) (l : List InstrV) : Prop := w.ownsRow B 39 5 v l.length (l.flatMap cellsI)
theorem cellsI_at : ∀ {cs : List InstrV} {i d : Nat}, i < cs.length → d < 5 → (cs.flatMap cellsI)[i * 5 + d]? = (cellsI (cs.getD i default))[d]?
  | c :: r, 0, d, _, hd => by
    rw [List.flatMap_cons, List.getElem?_append_left (by simp [cellsI]; omega)]
    simp
  | c :: r, i + 1, d, hi, hd => by
    rw [List.flatMap_cons, List.getElem?_append_right (by simp [cellsI]; omega)]
    have : (i + 1) * 5 + d - (cellsI c).length = i * 5 + d := by simp [cellsI]; omega
    rw [this, cellsI_at (by simpa using hi) hd]
    simp
theorem IRow.instrs {w : World} {B : Nat} {v : Value} {cs : List InstrV} (h : IRow w B v cs) : Instrs w v cs := by
  rcases h.2 with ⟨rfl, hn⟩ | ⟨g, cap, cur, rfl, hb, hg, hnc, hcm, hcs, htake⟩
  · have : cs = [] := List.eq_nil_of_length_eq_zero hn
    subst this
    exact Sl.nil _
  · refine ⟨_, cap, rfl, hnc, by unfold maxLen at hcm; omega, (fun e => by cases e), fun x hx _ => ?_⟩
    cases hx
    refine ⟨g, 0, rfl, fun i hi => ?_⟩
    have hc : ∀ d, d < 5 → w.cell? ⟨g, 0 + i * 5 + d, none⟩ = (cellsI (cs.getD i default))[d]? := fun d hd => by
      rw [Nat.zero_add, ← cellsI_at hi hd]
      exact (show w.ownsRow B _ 5 _ _ _ from h).cellAt (g := g) (cap := cap) (i * 5 + d) (by omega)
    exact ⟨hc 0 (by decide), hc 1 (by decide), hc 2 (by decide), hc 3 (by decide), hc 4 (by decide)⟩
theorem IRow.only {S : Nat → Prop} {w w' : World} {B : Nat} {v : Value} {cs : List InstrV} (h : IRow w B v cs) (ho : Only S w w') (hs : ∀ k, v.ownBlock = some k → ¬ S k) : IRow w' B v cs := ho.owns h hs
theorem IRow.ge {w : World} {B : Nat} {v : Value} {cs : List InstrV} (h : IRow w B v cs) : ∀ k, v.ownBlock = some k → B ≤ k ∧ k < w.heap.size := fun k hk => World.ownsRow.lt h k hk
theorem IRow.nil (w : World) (B : Nat) : IRow w B (.slice none 0 0) [] := World.ownsRow_nil _ _ _ _
/-- A new row of one instruction, as what is appended. -/
theorem Src.instr {w : World} {m : Nat} (c : InstrV) (h : w.heap.size = m) : Src (w.alloc (.cells #[.int .i64 c.at_, .int .i64 c.op, .int .i64 c.a, .int .i64 c.b, .int .i64 c.size] 39)) 5 (.slice (some ⟨m, 0, none⟩) 1 1) 1 (cellsI c) := by
  subst h
  refine ⟨rfl, ?_, _, 1, rfl, (fun e => by cases e), fun ad hd j u hj => ?_⟩
  · intro x hx
    simp only [cellsI, List.mem_cons, List.mem_nil_iff, or_false] at hx
    rcases hx with rfl | rfl | rfl | rfl | rfl <;> rfl
  · cases hd
    rw [add_lit, Nat.zero_add, cell_blk (heap_alloc_new w _)]
    simpa [cellsI] using hj
/-- One instruction more. -/
theorem IRow.more {w3 : World} {B : Nat} {v' : Value} {cs : List InstrV} {c : InstrV} (hown : w3.ownsRow B 39 5 v' (cs.length + 1) (cs.flatMap cellsI ++ cellsI c)) : IRow w3 B v' (cs ++ [c]) := by
  unfold IRow
  rw [List.length_append, List.flatMap_append]
  simpa using hown
theorem info_instr : (Try.prog.info? 39).map (fun i => (i.zero, i.size, i.bytes)) = some (some (.agg #[.int .i64 0, .int .i64 0, .int .i64 0, .int .i64 0, .int .i64 0]), 5, 40) := by kernel_rfl
theorem only_grownI {w2 w3 : World} {v : Value} (hg : w2.grownBy w3 v.ownBlock) : Only (fun k => v.ownBlock = some k) w2 w3 := (Only.refl _ _).grown hg (fun k hk _ => hk)
end Go.Proofs.Ytngoajhnnlnphaa
