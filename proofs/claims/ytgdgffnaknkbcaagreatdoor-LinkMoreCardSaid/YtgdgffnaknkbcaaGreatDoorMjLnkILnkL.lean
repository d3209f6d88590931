import Derived.Test.YtgdgffnaknkbcaaGreatDoorMjKndMLnkH
import Derived.Deep.Onto
namespace Go.Proofs.YtgdgffnaknkbcaaGreatDoor
open Go.RowKit
set_option linter.unusedVariables false
set_option linter.unusedSimpArgs false
def slotsZ (ks : List KindV) (x : Int) : List TypeV := (upZ ks x).reverse.flatMap (fun j => typesZ 0 (ks.getD j default).fields)
theorem slotsZ_end {ks : List KindV} {x : Int} (h : x < 0) : slotsZ ks x = [] := by unfold slotsZ; rw [upZ_end h]; rfl
theorem slotsZ_step {ks : List KindV} (he : EndsAll ks) {x : Nat} (h : x < ks.length) : slotsZ ks (x : Int) = slotsZ ks (superZ ks x) ++ typesZ 0 (ks.getD x default).fields := by
  unfold slotsZ
  rw [upZ_step he h, List.reverse_cons, List.flatMap_append]
  simp
theorem sumN_reverse : ∀ l : List Nat, sumN l.reverse = sumN l
  | [] => rfl
  | a :: r => by
    rw [List.reverse_cons, sumN_append, sumN_reverse r]
    show sumN r + (a + 0) = a + sumN r
    omega
theorem slotsZ_len (ks : List KindV) (x : Int) : (slotsZ ks x).length = slotsN ks x := by
  unfold slotsZ slotsN
  rw [← sumN_reverse, ← List.map_reverse]
  generalize (upZ ks x).reverse = l
  induction l with
  | nil => rfl
  | cons a r ih => rw [List.flatMap_cons, List.length_append, ih, typesZ_len]; rfl
def slotsAny (ks : List KindV) (x : Int) : List TypeV := if (ks.length : Int) ≤ x then [] else slotsZ ks x
end Go.Proofs.YtgdgffnaknkbcaaGreatDoor
namespace Go.Proofs.YtgdgffnaknkbcaaGreatDoor
open Go.RowKit
set_option linter.unusedVariables false
set_option linter.unusedSimpArgs false
def cellsPr (p : PairV) : List Value := [.string p.name, .string p.super]
def PRow (w : World) (B : Nat) (v : Value) (l : List PairV) : Prop := w.ownsRow B 96 2 v l.length (l.flatMap cellsPr)
theorem cellsPr_at : ∀ {cs : List PairV} {i d : Nat}, i < cs.length → d < 2 → (cs.flatMap cellsPr)[i * 2 + d]? = (cellsPr (cs.getD i default))[d]?
  | c :: r, 0, d, _, hd => by
    rw [List.flatMap_cons, List.getElem?_append_left (by simp [cellsPr]; omega)]
    simp
  | c :: r, i + 1, d, hi, hd => by
    rw [List.flatMap_cons, List.getElem?_append_right (by simp [cellsPr]; omega)]
    have : (i + 1) * 2 + d - (cellsPr c).length = i * 2 + d := by simp [cellsPr]; omega
    rw [this, cellsPr_at (by simpa using hi) hd]
    simp
theorem PRow.only {S : Nat → Prop} {w w' : World} {B : Nat} {v : Value} {cs : List PairV} (h : PRow w B v cs) (ho : Only S w w') (hs : ∀ k, v.ownBlock = some k → ¬ S k) : PRow w' B v cs := ho.owns h hs
theorem PRow.ge {w : World} {B : Nat} {v : Value} {cs : List PairV} (h : PRow w B v cs) : ∀ k, v.ownBlock = some k → B ≤ k ∧ k < w.heap.size := fun k hk => World.ownsRow.lt h k hk
theorem PRow.nil (w : World) (B : Nat) : PRow w B (.slice none 0 0) [] := World.ownsRow_nil _ _ _ _
theorem PRow.more {w3 : World} {B : Nat} {v' : Value} {cs : List PairV} {c : PairV} (hown : w3.ownsRow B 96 2 v' (cs.length + 1) (cs.flatMap cellsPr ++ cellsPr c)) : PRow w3 B v' (cs ++ [c]) := by
  unfold PRow
  rw [List.length_append, List.flatMap_append]
  simpa using hown
def KindV.pr (k : KindV) : PairV := ⟨k.name, k.super⟩
def PairsTo (w : World) (l : List PairV) (e : Ending) (w' : World) : Prop := ∃ r, e = .returned r ∧ PRow w' w.heap.size r l ∧ Only (fun _ => False) w w'
end Go.Proofs.YtgdgffnaknkbcaaGreatDoor
namespace Go.Proofs.YtgdgffnaknkbcaaGreatDoor
open Go.RowKit
set_option linter.unusedVariables false
set_option linter.unusedSimpArgs false
def mainB : ByteArray := ⟨#[109, 97, 105, 110]⟩
def voidB : ByteArray := ⟨#[40, 41, 86]⟩
def mainZ (ks : List KindV) : MemV := memO (ownZ ks (ks.getD 13 default).name mainB voidB)
end Go.Proofs.YtgdgffnaknkbcaaGreatDoor
namespace Go.Proofs.YtgdgffnaknkbcaaGreatDoor
open Go.RowKit
set_option linter.unusedVariables false
set_option linter.unusedSimpArgs false
theorem info8_meth9 : (Tryz.prog.info? 70).map (·.size) = some 8 := by kernel_rfl
theorem method_result4 {fn : Func} {p q q2 q3 : Tmp} (hr : fn.results = #[.cell p 70, .tmp q, .tmp q2, .tmp q3]) {w : World} {b : Nat} {a0 a1 a2 a3 a4 a5 a6 a7 x y z : Value} {tmps : Array Value} (h : w.heap[b]? = some (.cells #[a0, a1, a2, a3, a4, a5, a6, a7] 70 (0, 0))) (ht : tmps.getD p undef = .pointer (some ⟨b, 0, none⟩)) (hx : tmps.getD q undef = x) (hy : tmps.getD q2 undef = y) (hz : tmps.getD q3 undef = z) :
    (results fn tmps).run Tryz.prog w = .ok (.tuple #[.agg #[a0, a1, a2, a3, a4, a5, a6, a7], x, y, z]) w := by
  have hp' : tmps[p]?.getD undef = .pointer (some ⟨b, 0, none⟩) := by simpa using ht
  have hx' : tmps[q]?.getD undef = x := by simpa using hx
  have hy' : tmps[q2]?.getD undef = y := by simpa using hy
  have hz' : tmps[q3]?.getD undef = z := by simpa using hz
  have hL := run_loadVar_row w b 70 70 _ (0, 0) _ h Tryz.underlying70 rfl info8_meth9
  simp only [results, hr]
  simp [Sem.run_bind, Result.andThen, hp', hx', hy', hz', asAddr, hL]
theorem cells8M {w : World} {b : Nat} {c0 c1 c2 c3 c4 c5 c6 c7 : Value} {t : TypeId} {f : Nat × Nat} (h : w.heap[b]? = some (.cells #[c0, c1, c2, c3, c4, c5, c6, c7] t f)) :
    w.cell? ⟨b, 0, none⟩ = some c0 ∧ w.cell? ⟨b, 1, none⟩ = some c1 ∧ w.cell? ⟨b, 2, none⟩ = some c2 ∧ w.cell? ⟨b, 3, none⟩ = some c3 ∧ w.cell? ⟨b, 4, none⟩ = some c4 ∧ w.cell? ⟨b, 5, none⟩ = some c5 ∧ w.cell? ⟨b, 6, none⟩ = some c6 ∧ w.cell? ⟨b, 7, none⟩ = some c7 :=
  ⟨cell_blk h 0, cell_blk h 1, cell_blk h 2, cell_blk h 3, cell_blk h 4, cell_blk h 5, cell_blk h 6, cell_blk h 7⟩
theorem marks8M {w : World} {b : Nat} {c : Array Value} {t : TypeId} (h : w.heap[b]? = some (.cells c t (0, 0))) :
    w.frozen? ⟨b, 0, none⟩ = false ∧ w.frozen? ⟨b, 1, none⟩ = false ∧ w.frozen? ⟨b, 2, none⟩ = false ∧ w.frozen? ⟨b, 3, none⟩ = false ∧ w.frozen? ⟨b, 4, none⟩ = false ∧ w.frozen? ⟨b, 5, none⟩ = false ∧ w.frozen? ⟨b, 6, none⟩ = false ∧ w.frozen? ⟨b, 7, none⟩ = false :=
  ⟨frozen_blk h 0, frozen_blk h 1, frozen_blk h 2, frozen_blk h 3, frozen_blk h 4, frozen_blk h 5, frozen_blk h 6, frozen_blk h 7⟩
theorem store8M {w : World} {b : Nat} {T : TypeId} {f : Nat × Nat} {o0 o1 o2 o3 o4 o5 o6 o7 a0 a1 a2 a3 a4 a5 a6 a7 : Value} (h : w.heap[b]? = some (.cells #[o0, o1, o2, o3, o4, o5, o6, o7] T f)) :
    ((((((((w.setCell ⟨b, 0, none⟩ a0).setCell ⟨b, 1, none⟩ a1).setCell ⟨b, 2, none⟩ a2).setCell ⟨b, 3, none⟩ a3).setCell ⟨b, 4, none⟩ a4).setCell ⟨b, 5, none⟩ a5).setCell ⟨b, 6, none⟩ a6).setCell ⟨b, 7, none⟩ a7).heap[b]? = some (.cells #[a0, a1, a2, a3, a4, a5, a6, a7] T f) := by
  have h0 := heap_setCell_at (i := 0) (u := a0) h
  simp only [List.setIfInBounds_toArray, List.set_cons_zero, List.set_cons_succ] at h0
  have h1 := heap_setCell_at (i := 1) (u := a1) h0
  simp only [List.setIfInBounds_toArray, List.set_cons_zero, List.set_cons_succ] at h1
  have h2 := heap_setCell_at (i := 2) (u := a2) h1
  simp only [List.setIfInBounds_toArray, List.set_cons_zero, List.set_cons_succ] at h2
  have h3 := heap_setCell_at (i := 3) (u := a3) h2
  simp only [List.setIfInBounds_toArray, List.set_cons_zero, List.set_cons_succ] at h3
  have h4 := heap_setCell_at (i := 4) (u := a4) h3
  simp only [List.setIfInBounds_toArray, List.set_cons_zero, List.set_cons_succ] at h4
  have h5 := heap_setCell_at (i := 5) (u := a5) h4
  simp only [List.setIfInBounds_toArray, List.set_cons_zero, List.set_cons_succ] at h5
  have h6 := heap_setCell_at (i := 6) (u := a6) h5
  simp only [List.setIfInBounds_toArray, List.set_cons_zero, List.set_cons_succ] at h6
  have h7 := heap_setCell_at (i := 7) (u := a7) h6
  simp only [List.setIfInBounds_toArray, List.set_cons_zero, List.set_cons_succ] at h7
  exact h7
theorem only8M {S : Nat → Prop} {w w' : World} {b : Nat} {a0 a1 a2 a3 a4 a5 a6 a7 : Value} (h : Only S w w') (hb : b < w.heap.size → S b) :
    Only S w ((((((((w'.setCell ⟨b, 0, none⟩ a0).setCell ⟨b, 1, none⟩ a1).setCell ⟨b, 2, none⟩ a2).setCell ⟨b, 3, none⟩ a3).setCell ⟨b, 4, none⟩ a4).setCell ⟨b, 5, none⟩ a5).setCell ⟨b, 6, none⟩ a6).setCell ⟨b, 7, none⟩ a7) := by
  iterate 8 (refine Only.setCell (S := S) ?_ hb _)
  exact h
def flagM (f : Int) : Value := .agg #[.int .i64 f, .int .i64 0, .int .i64 0, .int .i64 0, .int .i64 0, .slice none 0 0, .slice none 0 0, .slice none 0 0]
def noMeth (ks : List KindV) (n i : Int) : Prop := n < 0 ∨ (ks.length : Int) ≤ n ∨ i < 0 ∨ ((ks.getD n.toNat default).meths.length : Int) ≤ i
end Go.Proofs.YtgdgffnaknkbcaaGreatDoor
