/- The document's own types of fields with a flag. Condition: few fields, their descriptors' length that a text can have. The document's own Statics. Condition: the program is small, its descriptors' length that a text can have. The document's own Slots. Condition: the program is small, its chains end, its descriptors' length that a text can have. The document's own Tree. Condition: the program is small. The document's own Main. Condition: the program is small and has a class of the list. The document's own Method of a program. Condition: each class of the list is in its place, with as many methods. The document's own Method of a program, of a class of the list. Condition: the class is in its place. The document's own tops: do the supers lead to Object? No condition but a length that leaves room. The document's own keeps: is a method static just as those above? Condition: the program is small, its chains end. The document's own members: are a class's right? Condition: texts' length that a text can have, few members. -/
import Derived.Test.YtmakfnghkpdpkaaGLnkA
import Derived.Test.YtmakfnghkpdpkaaKndM
import Derived.Deep.Onto
import Derived.BigQuiet
namespace Go.Proofs.Ytmakfnghkpdpkaa
open Go.RowKit
set_option linter.unusedVariables false
set_option linter.unusedSimpArgs false

/-- A field's type. -/
def typeZ (m : MethN) : TypeV := typO (oneZ8 (nums m.desc))
/-- The types of the fields with a flag. -/
def typesZ (f : Int) (l : List MethN) : List TypeV := (l.filter (fun m => m.flags == f)).map typeZ
theorem typesZ_take {f : Int} {l : List MethN} {j : Nat} (h : j < l.length) : typesZ f (l.take (j + 1)) = typesZ f (l.take j) ++ if (l.getD j default).flags = f then [typeZ (l.getD j default)] else [] := by
  rw [List.take_succ_eq_append_getElem h, typesZ, List.filter_append, List.map_append]
  rw [show l.getD j default = l[j] by simp [List.getD, h]]
  by_cases hf : l[j].flags = f
  · simp [typesZ, hf]
  · simp [typesZ, hf]
theorem typesZ_len (f : Int) (l : List MethN) : (typesZ f l).length = countL f l := by
  rw [typesZ, List.length_map, countL, List.countP_eq_length_filter]
theorem typesZ_le (f : Int) (l : List MethN) : (typesZ f l).length ≤ l.length := by rw [typesZ_len]; exact countL_le f l
def Descs (l : List MethN) : Prop := ∀ m ∈ l, m.desc.size ≤ 281474976710656
theorem getD_memM {l : List MethN} {j : Nat} (h : j < l.length) : l.getD j default ∈ l := by
  rw [show l.getD j default = l[j] by simp [List.getD, h]]; exact List.getElem_mem h
/-- What a function answers that makes a list of types. -/
def TypesTo (w : World) (l : List TypeV) (e : Ending) (w' : World) : Prop := ∃ r, e = .returned r ∧ TRow w' w.heap.size r l ∧ Only (fun _ => False) w w'

end Go.Proofs.Ytmakfnghkpdpkaa
namespace Go.Proofs.Ytmakfnghkpdpkaa
open Go.RowKit
set_option linter.unusedVariables false
set_option linter.unusedSimpArgs false

theorem cellsTy_len (cs : List TypeV) : (cs.flatMap cellsTy).length = cs.length * 5 := by
  induction cs with
  | nil => rfl
  | cons c r ih => rw [List.flatMap_cons, List.length_append, ih]; simp [cellsTy]; omega
/-- A list of types, as what is appended. -/
theorem Src.of_types {w : World} {v : Value} {cs : List TypeV} (h : Types w v cs) : Src w 5 v cs.length (cs.flatMap cellsTy) := by
  obtain ⟨ao, cap, rfl, h1, h2, h3, h5⟩ := h
  refine ⟨cellsTy_len cs, ?_, ao, cap, rfl, fun e => ⟨by have := h3 e; omega, h3 e⟩, fun ad hd j u hj => ?_⟩
  · intro u hu
    obtain ⟨c, _, hc⟩ := List.mem_flatMap.1 hu
    simp only [cellsTy, List.mem_cons, List.mem_nil_iff, or_false] at hc
    rcases hc with rfl | rfl | rfl | rfl | rfl <;> rfl
  · have hjl : j < cs.length * 5 := by rw [← cellsTy_len]; exact (List.getElem?_eq_some_iff.1 hj).1
    obtain ⟨b, o, rfl, hc⟩ := h5 ad hd (by omega)
    have hi : j / 5 < cs.length := by omega
    have hd5 : j % 5 < 5 := by omega
    have hat := cellsT_at (cs := cs) (i := j / 5) (d := j % 5) hi hd5
    rw [show j / 5 * 5 + j % 5 = j by omega, hj] at hat
    rw [add_lit, show o + j = o + j / 5 * 5 + j % 5 by omega]
    obtain ⟨c0, c1, c2, c3, c4⟩ := hc (j / 5) hi
    generalize cs.getD (j / 5) default = c at *
    have h5' : j % 5 = 0 ∨ j % 5 = 1 ∨ j % 5 = 2 ∨ j % 5 = 3 ∨ j % 5 = 4 := by omega
    rcases h5' with e | e | e | e | e
    · rw [e] at hat ⊢; rw [Nat.add_zero, c0]; simpa [cellsTy] using hat.symm
    · rw [e] at hat ⊢; rw [c1]; simpa [cellsTy] using hat.symm
    · rw [e] at hat ⊢; rw [c2]; simpa [cellsTy] using hat.symm
    · rw [e] at hat ⊢; rw [c3]; simpa [cellsTy] using hat.symm
    · rw [e] at hat ⊢; rw [c4]; simpa [cellsTy] using hat.symm
/-- More types behind others. -/
theorem TRow.join {w3 : World} {B : Nat} {v' : Value} {cs ds : List TypeV} (hown : w3.ownsRow B 92 5 v' (cs.length + ds.length) (cs.flatMap cellsTy ++ ds.flatMap cellsTy)) : TRow w3 B v' (cs ++ ds) := by
  unfold TRow
  rw [List.length_append, List.flatMap_append]
  exact hown
/-- The types of all static fields of the first classes. -/
def staticsZ (ks : List KindV) (n : Nat) : List TypeV := (ks.take n).flatMap (fun k => typesZ 8 k.fields)
theorem staticsZ_step {ks : List KindV} {n : Nat} (h : n < ks.length) : staticsZ ks (n + 1) = staticsZ ks n ++ typesZ 8 (ks.getD n default).fields := by
  rw [staticsZ, List.take_succ_eq_append_getElem h, List.flatMap_append]
  rw [show ks.getD n default = ks[n] by simp [List.getD, h]]
  simp [staticsZ]
theorem staticsZ_len {ks : List KindV} : ∀ {n : Nat}, n ≤ ks.length → (staticsZ ks n).length = staticsN ks n
  | 0, _ => rfl
  | n + 1, h => by rw [staticsZ_step (by omega), List.length_append, staticsZ_len (by omega), staticsN_step (by omega), typesZ_len]
/-- The descriptors of all fields are short enough to be texts. -/
def DescsAll (ks : List KindV) : Prop := ∀ k ∈ ks, Descs k.fields

end Go.Proofs.Ytmakfnghkpdpkaa
namespace Go.Proofs.Ytmakfnghkpdpkaa
open Go.RowKit
set_option linter.unusedVariables false
set_option linter.unusedSimpArgs false

/-- The types of an object's slots. -/
def slotsZ (ks : List KindV) (x : Int) : List TypeV := (upZ ks x).reverse.flatMap (fun j => typesZ 0 (ks.getD j default).fields)
theorem slotsZ_end {ks : List KindV} {x : Int} (h : x < 0) : slotsZ ks x = [] := by unfold slotsZ; rw [upZ_end h]; rfl
theorem slotsZ_step {ks : List KindV} (he : EndsAll ks) {x : Nat} (h : x < ks.length) : slotsZ ks (x : Int) = slotsZ ks (superZ ks x) ++ typesZ 0 (ks.getD x default).fields := by
  unfold slotsZ
  rw [upZ_step he h, List.reverse_cons, List.flatMap_append]
  simp
theorem sumN_reverse : ∀ l : List Nat, sumN l.reverse = sumN l
  | [] => rfl
  | a :: r => by
    rw [List.reverse_cons, sumN_append, sumN_reverse r]
    show sumN r + (a + 0) = a + sumN r
    omega
theorem slotsZ_len (ks : List KindV) (x : Int) : (slotsZ ks x).length = slotsN ks x := by
  unfold slotsZ slotsN
  rw [← sumN_reverse, ← List.map_reverse]
  generalize (upZ ks x).reverse = l
  induction l with
  | nil => rfl
  | cons a r ih => rw [List.flatMap_cons, List.length_append, ih, typesZ_len]; rfl

/-- The types of an object's slots, of any number. -/
def slotsAny (ks : List KindV) (x : Int) : List TypeV := if (ks.length : Int) ≤ x then [] else slotsZ ks x
end Go.Proofs.Ytmakfnghkpdpkaa
namespace Go.Proofs.Ytmakfnghkpdpkaa
open Go.RowKit
set_option linter.unusedVariables false
set_option linter.unusedSimpArgs false

def cellsPr (p : PairV) : List Value := [.string p.name, .string p.super]
theorem cellsPr_at : ∀ {cs : List PairV} {i d : Nat}, i < cs.length → d < 2 → (cs.flatMap cellsPr)[i * 2 + d]? = (cellsPr (cs.getD i default))[d]?
  | c :: r, 0, d, _, hd => by
    rw [List.flatMap_cons, List.getElem?_append_left (by simp [cellsPr]; omega)]
    simp
  | c :: r, i + 1, d, hi, hd => by
    rw [List.flatMap_cons, List.getElem?_append_right (by simp [cellsPr]; omega)]
    have : (i + 1) * 2 + d - (cellsPr c).length = i * 2 + d := by simp [cellsPr]; omega
    rw [this, cellsPr_at (by simpa using hi) hd]
    simp
/-- A class as a pair. -/
def KindV.pr (k : KindV) : PairV := ⟨k.name, k.super⟩
theorem treeZ_take {ks : List KindV} {j : Nat} (h : j < ks.length) : treeZ (ks.take (j + 1)) = treeZ (ks.take j) ++ [⟨(ks.getD j default).name, (ks.getD j default).super⟩] := by
  rw [List.take_succ_eq_append_getElem h, treeZ, List.map_append]
  rw [show ks.getD j default = ks[j] by simp [List.getD, h]]
  rfl
end Go.Proofs.Ytmakfnghkpdpkaa
namespace Go.Proofs.Ytmakfnghkpdpkaa
open Go.RowKit
set_option linter.unusedVariables false
set_option linter.unusedSimpArgs false

def mainB : ByteArray := ⟨#[109, 97, 105, 110]⟩
def voidB : ByteArray := ⟨#[40, 41, 86]⟩
def mainZ (ks : List KindV) : MemV := memO (ownZ ks (ks.getD 13 default).name mainB voidB)
end Go.Proofs.Ytmakfnghkpdpkaa
namespace Go.Proofs.Ytmakfnghkpdpkaa
open Go.RowKit
set_option linter.unusedVariables false
set_option linter.unusedSimpArgs false

theorem info8_meth9 : (Try.prog.info? 42).map (·.size) = some 8 := by kernel_rfl
theorem method_result4 {fn : Func} {p q q2 q3 : Tmp} (hr : fn.results = #[.cell p 42, .tmp q, .tmp q2, .tmp q3]) {w : World} {b : Nat} {a0 a1 a2 a3 a4 a5 a6 a7 x y z : Value} {tmps : Array Value} (h : w.heap[b]? = some (.cells #[a0, a1, a2, a3, a4, a5, a6, a7] 42 (0, 0))) (ht : tmps.getD p undef = .pointer (some ⟨b, 0, none⟩)) (hx : tmps.getD q undef = x) (hy : tmps.getD q2 undef = y) (hz : tmps.getD q3 undef = z) :
    (results fn tmps).run Try.prog w = .ok (.tuple #[.agg #[a0, a1, a2, a3, a4, a5, a6, a7], x, y, z]) w := by
  have hp' : tmps[p]?.getD undef = .pointer (some ⟨b, 0, none⟩) := by simpa using ht
  have hx' : tmps[q]?.getD undef = x := by simpa using hx
  have hy' : tmps[q2]?.getD undef = y := by simpa using hy
  have hz' : tmps[q3]?.getD undef = z := by simpa using hz
  have hL := run_loadVar_row w b 42 42 _ (0, 0) _ h Try.underlying42 rfl info8_meth9
  simp only [results, hr]
  simp [Sem.run_bind, Result.andThen, hp', hx', hy', hz', asAddr, hL]
theorem cells8M {w : World} {b : Nat} {c0 c1 c2 c3 c4 c5 c6 c7 : Value} {t : TypeId} {f : Nat × Nat} (h : w.heap[b]? = some (.cells #[c0, c1, c2, c3, c4, c5, c6, c7] t f)) :
    w.cell? ⟨b, 0, none⟩ = some c0 ∧ w.cell? ⟨b, 1, none⟩ = some c1 ∧ w.cell? ⟨b, 2, none⟩ = some c2 ∧ w.cell? ⟨b, 3, none⟩ = some c3 ∧ w.cell? ⟨b, 4, none⟩ = some c4 ∧ w.cell? ⟨b, 5, none⟩ = some c5 ∧ w.cell? ⟨b, 6, none⟩ = some c6 ∧ w.cell? ⟨b, 7, none⟩ = some c7 :=
  ⟨cell_blk h 0, cell_blk h 1, cell_blk h 2, cell_blk h 3, cell_blk h 4, cell_blk h 5, cell_blk h 6, cell_blk h 7⟩
theorem marks8M {w : World} {b : Nat} {c : Array Value} {t : TypeId} (h : w.heap[b]? = some (.cells c t (0, 0))) :
    w.frozen? ⟨b, 0, none⟩ = false ∧ w.frozen? ⟨b, 1, none⟩ = false ∧ w.frozen? ⟨b, 2, none⟩ = false ∧ w.frozen? ⟨b, 3, none⟩ = false ∧ w.frozen? ⟨b, 4, none⟩ = false ∧ w.frozen? ⟨b, 5, none⟩ = false ∧ w.frozen? ⟨b, 6, none⟩ = false ∧ w.frozen? ⟨b, 7, none⟩ = false :=
  ⟨frozen_blk h 0, frozen_blk h 1, frozen_blk h 2, frozen_blk h 3, frozen_blk h 4, frozen_blk h 5, frozen_blk h 6, frozen_blk h 7⟩
theorem store8M {w : World} {b : Nat} {T : TypeId} {f : Nat × Nat} {o0 o1 o2 o3 o4 o5 o6 o7 a0 a1 a2 a3 a4 a5 a6 a7 : Value} (h : w.heap[b]? = some (.cells #[o0, o1, o2, o3, o4, o5, o6, o7] T f)) :
    ((((((((w.setCell ⟨b, 0, none⟩ a0).setCell ⟨b, 1, none⟩ a1).setCell ⟨b, 2, none⟩ a2).setCell ⟨b, 3, none⟩ a3).setCell ⟨b, 4, none⟩ a4).setCell ⟨b, 5, none⟩ a5).setCell ⟨b, 6, none⟩ a6).setCell ⟨b, 7, none⟩ a7).heap[b]? = some (.cells #[a0, a1, a2, a3, a4, a5, a6, a7] T f) := by
  have h0 := heap_setCell_at (i := 0) (u := a0) h
  simp only [List.setIfInBounds_toArray, List.set_cons_zero, List.set_cons_succ] at h0
  have h1 := heap_setCell_at (i := 1) (u := a1) h0
  simp only [List.setIfInBounds_toArray, List.set_cons_zero, List.set_cons_succ] at h1
  have h2 := heap_setCell_at (i := 2) (u := a2) h1
  simp only [List.setIfInBounds_toArray, List.set_cons_zero, List.set_cons_succ] at h2
  have h3 := heap_setCell_at (i := 3) (u := a3) h2
  simp only [List.setIfInBounds_toArray, List.set_cons_zero, List.set_cons_succ] at h3
  have h4 := heap_setCell_at (i := 4) (u := a4) h3
  simp only [List.setIfInBounds_toArray, List.set_cons_zero, List.set_cons_succ] at h4
  have h5 := heap_setCell_at (i := 5) (u := a5) h4
  simp only [List.setIfInBounds_toArray, List.set_cons_zero, List.set_cons_succ] at h5
  have h6 := heap_setCell_at (i := 6) (u := a6) h5
  simp only [List.setIfInBounds_toArray, List.set_cons_zero, List.set_cons_succ] at h6
  have h7 := heap_setCell_at (i := 7) (u := a7) h6
  simp only [List.setIfInBounds_toArray, List.set_cons_zero, List.set_cons_succ] at h7
  exact h7
theorem only8M {S : Nat → Prop} {w w' : World} {b : Nat} {a0 a1 a2 a3 a4 a5 a6 a7 : Value} (h : Only S w w') (hb : b < w.heap.size → S b) :
    Only S w ((((((((w'.setCell ⟨b, 0, none⟩ a0).setCell ⟨b, 1, none⟩ a1).setCell ⟨b, 2, none⟩ a2).setCell ⟨b, 3, none⟩ a3).setCell ⟨b, 4, none⟩ a4).setCell ⟨b, 5, none⟩ a5).setCell ⟨b, 6, none⟩ a6).setCell ⟨b, 7, none⟩ a7) := by
  iterate 8 (refine Only.setCell (S := S) ?_ hb _)
  exact h
/-- A method of nothing but flags. -/
def flagM (f : Int) : Value := .agg #[.int .i64 f, .int .i64 0, .int .i64 0, .int .i64 0, .int .i64 0, .slice none 0 0, .slice none 0 0, .slice none 0 0]
/-- There is no such method. -/
def noMeth (ks : List KindV) (n i : Int) : Prop := n < 0 ∨ (ks.length : Int) ≤ n ∨ i < 0 ∨ ((ks.getD n.toNat default).meths.length : Int) ≤ i
/-- What keeps the cells of the method that was found. -/
theorem keepM {w0 W : World} {b1 : Nat} {x0 x1 x2 : Value} (h : Only (fun _ => False) w0 W) (c0 : w0.cell? ⟨b1, 0, none⟩ = some x0) (c1 : w0.cell? ⟨b1, 1, none⟩ = some x1) (c2 : w0.cell? ⟨b1, 2, none⟩ = some x2) : (W.cell? ⟨b1, 0, none⟩ = some x0 ∧ W.cell? ⟨b1, 1, none⟩ = some x1 ∧ W.cell? ⟨b1, 2, none⟩ = some x2) := ⟨h.cell c0 (fun h => h), h.cell c1 (fun h => h), h.cell c2 (fun h => h)⟩
end Go.Proofs.Ytmakfnghkpdpkaa
namespace Go.Proofs.Ytmakfnghkpdpkaa
open Go.RowKit
set_option linter.unusedVariables false
set_option linter.unusedSimpArgs false

/-- What Method answers of a class of the list. -/
def MethListTo (w : World) (m : MethodV) (nm ds : ByteArray) (e : Ending) (w' : World) : Prop :=
  ∃ vc vt vm, e = .returned (.tuple #[.agg #[.int .i64 m.flags, .int .i64 m.name, .int .i64 m.desc, .int .i64 m.stack, .int .i64 m.locals, vc, vt, vm], .string nm, .string ds, .bool true]) ∧ Inside w' m vc vt vm ∧ Only (fun _ => False) w w'
end Go.Proofs.Ytmakfnghkpdpkaa
namespace Go.Proofs.Ytmakfnghkpdpkaa
open Go.RowKit
set_option linter.unusedVariables false
set_option linter.unusedSimpArgs false

def sysB : ByteArray := ⟨#[83, 121, 115]⟩
theorem lit_sys : (⟨#[83, 121, 115]⟩ : ByteArray).toList = [83, 121, 115] := by rw [ByteArray.toList_eq]
def topsF (ks : List KindV) : Nat → Int → Bool
  | 0, _ => false
  | f + 1, x => if x = 0 then true else if superZ ks x < 0 then false else if (ks.getD (superZ ks x).toNat default).name = sysB then false else topsF ks f (superZ ks x)
def topsZ (ks : List KindV) (x : Int) : Bool := topsF ks (ks.length + 1) x
end Go.Proofs.Ytmakfnghkpdpkaa
namespace Go.Proofs.Ytmakfnghkpdpkaa
open Go.RowKit
set_option linter.unusedVariables false
set_option linter.unusedSimpArgs false

def keepAt (ks : List KindV) (m : MethN) (u : Nat) : Bool := if hasZ (ks.getD u default).meths m.name m.desc < 0 then true else ((ks.getD u default).meths.getD (hasZ (ks.getD u default).meths m.name m.desc).toNat default).flags == m.flags
def keepsM (ks : List KindV) (x : Nat) (m : MethN) : Bool := if m.name = initB then true else (upZ ks (superZ ks x)).all (keepAt ks m)
def keepsZ (ks : List KindV) (x : Nat) : Bool := (ks.getD x default).meths.all (keepsM ks x)
theorem all_at {α : Type} [Inhabited α] {l : List α} {f : α → Bool} {j : Nat} (h : j < l.length) : (l.drop j).all f = (f (l.getD j default) && (l.drop (j + 1)).all f) := by
  rw [List.drop_eq_getElem_cons h, List.all_cons]
  rw [show l.getD j default = l[j] by simp [List.getD, h]]

end Go.Proofs.Ytmakfnghkpdpkaa
namespace Go.Proofs.Ytmakfnghkpdpkaa
open Go.RowKit
set_option linter.unusedVariables false
set_option linter.unusedSimpArgs false

/-- A field of a class is right. -/
def FieldOK (fs : List MethN) (j : Nat) : Prop := (oneZ8 (nums (fs.getD j default).desc)).isSome = true ∧ plainN (nums (fs.getD j default).name) = true ∧ hasZ fs (fs.getD j default).name (fs.getD j default).desc = (j : Int)
/-- A method of a class is right. -/
def MethOK (ms : List MethN) (j : Nat) : Prop := ∃ x, Meth (nums (ms.getD j default).desc) x ∧ x.2.2 = 0 ∧ ((ms.getD j default).name = initB ∨ plainN (nums (ms.getD j default).name) = true) ∧ hasZ ms (ms.getD j default).name (ms.getD j default).desc = (j : Int) ∧ ((ms.getD j default).name = initB → (ms.getD j default).flags = 0 ∧ x.2.1.k = 8)
def MembersOK (k : KindV) : Prop := (∀ j, j < k.fields.length → FieldOK k.fields j) ∧ ∀ j, j < k.meths.length → MethOK k.meths j
theorem heap_drewN {w : World} {n b : Nat} {o : Option Obj} (h : w.heap[b]? = o) : (w.drewN n).heap[b]? = o := h
def Names (l : List MethN) : Prop := ∀ m ∈ l, m.name.size ≤ 281474976710656

end Go.Proofs.Ytmakfnghkpdpkaa
