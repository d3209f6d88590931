import Derived.Test.YtgdgffnaknkbcaaGreatDoorMjTxtPPolM
import Derived.Lib.Hide
import Derived.Laws.StructEq
import Derived.Laws.Rows
import Derived.Laws.ResultCell
namespace Go.Proofs.YtgdgffnaknkbcaaGreatDoor
open Go.RowKit
set_option linter.unusedVariables false
set_option linter.unusedSimpArgs false
def badC (z : Int) : Bool := z == 46 || (z == 59 || (z == 91 || (z == 47 || (z == 60 || z == 62))))
def plainN (zs : List Int) : Bool := (decide (1 ≤ zs.length) && decide (zs.length ≤ 256)) && zs.all (fun z => !badC z)
theorem nums_at {s : ByteArray} {j : Nat} (h : j < s.size) : (nums s).getD j 0 = ((s[j].toNat : Nat) : Int) := by
  rw [nums_get]
  congr 1
  simp [ByteArray.get!, h]
  rfl
theorem badC_yes {z : Int} (h : badC z = true) : z = 46 ∨ z = 59 ∨ z = 91 ∨ z = 47 ∨ z = 60 ∨ z = 62 := by
  unfold badC at h
  simpa using h
theorem plainN_no {zs : List Int} {j : Nat} (hj : j < zs.length) (h : badC (zs.getD j 0) = true) : plainN zs = false := by
  unfold plainN
  have : zs.all (fun z => !badC z) = false := by
    rw [List.all_eq_false]
    refine ⟨zs[j], List.getElem_mem hj, ?_⟩
    rw [show zs.getD j 0 = zs[j] by simp [List.getD, hj]] at h
    rw [h]; decide
  rw [this, Bool.and_false]
theorem plainN_yes {zs : List Int} (h1 : 1 ≤ zs.length) (h2 : zs.length ≤ 256) (h : ∀ j, j < zs.length → badC (zs.getD j 0) = false) : plainN zs = true := by
  unfold plainN
  simp only [h1, h2, decide_true, Bool.and_self, Bool.true_and, List.all_eq_true]
  intro z hz
  obtain ⟨j, hj, rfl⟩ := List.getElem_of_mem hz
  have := h j hj
  rw [show zs.getD j 0 = zs[j] by simp [List.getD, hj]] at this
  rw [this]; rfl
theorem badC_no {z : Int} (h : badC z = false) : (z == 46) = false ∧ (z == 59) = false ∧ (z == 91) = false ∧ (z == 47) = false ∧ (z == 60) = false ∧ (z == 62) = false := by
  unfold badC at h
  simp only [Bool.or_eq_false_iff] at h
  exact ⟨h.1, h.2.1, h.2.2.1, h.2.2.2.1, h.2.2.2.2.1, h.2.2.2.2.2⟩
end Go.Proofs.YtgdgffnaknkbcaaGreatDoor
namespace Go.Proofs.YtgdgffnaknkbcaaGreatDoor
open Go.RowKit
set_option linter.unusedVariables false
set_option linter.unusedSimpArgs false
structure TypeV where
  k : Int
  name : ByteArray
  dims : Int
  elem : Int
  at_ : Int
deriving DecidableEq
def emptyB : ByteArray := ⟨#[]⟩
def zeroT : TypeV := ⟨0, ⟨#[]⟩, 0, 0, 0⟩
instance : Inhabited TypeV := ⟨zeroT⟩
def valT (t : TypeV) : Value := .agg #[.int .i64 t.k, .string t.name, .int .i64 t.dims, .int .i64 t.elem, .int .i64 t.at_]
def cellsTy (t : TypeV) : List Value := [.int .i64 t.k, .string t.name, .int .i64 t.dims, .int .i64 t.elem, .int .i64 t.at_]
theorem nums_extract (s : ByteArray) (a b : Nat) : nums (s.extract a b) = ((nums s).drop a).take (b - a) := by
  simp [nums, numsL, List.map_take, List.map_drop]
theorem nums_rest (s : ByteArray) (a : Nat) : nums (s.extract a s.size) = (nums s).drop a := by
  rw [nums_extract]
  apply List.take_of_length_le
  simp [nums_len]
theorem nums_inj {s t : ByteArray} (h : nums s = nums t) : s = t := by rw [← str_nums s, h, str_nums]
theorem str_of {s : ByteArray} {zs : List Int} (h : nums s = zs) : s = strOfNums zs := by rw [← h, str_nums]
def dimsZ : List Int → Nat
  | [] => 0
  | c :: r => if c = 91 then dimsZ r + 1 else 0
theorem dimsZ_le : ∀ zs : List Int, dimsZ zs ≤ zs.length
  | [] => Nat.le_refl _
  | c :: r => by
    unfold dimsZ
    have := dimsZ_le r
    split <;> simp <;> omega
def semiZ : List Int → Nat
  | [] => 0
  | c :: r => if c = 59 then 0 else semiZ r + 1
theorem semiZ_le : ∀ zs : List Int, semiZ zs ≤ zs.length
  | [] => Nat.le_refl _
  | c :: r => by
    unfold semiZ
    have := semiZ_le r
    split <;> simp <;> omega
def arrT (d : Nat) (k : Int) (nm : ByteArray) : TypeV := if 0 < d then ⟨5, nm, d, k, 0⟩ else ⟨k, nm, 0, 0, 0⟩
def baseZ (d : Nat) (zs : List Int) : Option (TypeV × List Int) :=
  match zs with
  | [] => none
  | c :: r =>
    if 4 < d then none
    else if c = 73 then some (arrT d 1 ⟨#[]⟩, r)
    else if c = 74 then some (arrT d 2 ⟨#[]⟩, r)
    else if c = 76 then
      if semiZ r = r.length then none
      else if plainN (r.take (semiZ r)) then some (arrT d 4 (strOfNums (r.take (semiZ r))), r.drop (semiZ r + 1)) else none
    else none
def fieldZ (zs : List Int) : Option (TypeV × List Int) := baseZ (dimsZ zs) (zs.drop (dimsZ zs))
def okF (r : Option (TypeV × List Int)) : Bool := r.isSome
def typF (r : Option (TypeV × List Int)) : TypeV := match r with | some q => q.1 | none => zeroT
def restF (r : Option (TypeV × List Int)) : ByteArray := match r with | some q => strOfNums q.2 | none => ⟨#[]⟩
theorem dims_step {zs : List Int} {j : Nat} (hj : j < zs.length) (hd : dimsZ zs = j + dimsZ (zs.drop j)) (h : zs.getD j 0 = 91) : dimsZ zs = (j + 1) + dimsZ (zs.drop (j + 1)) := by
  have hg : zs[j] = 91 := by rw [← h]; simp [List.getD, hj]
  rw [hd, List.drop_eq_getElem_cons hj]
  show j + dimsZ (zs[j] :: _) = _
  rw [dimsZ, if_pos hg]
  omega
theorem dims_stop {zs : List Int} {j : Nat} (hj : j ≤ zs.length) (hd : dimsZ zs = j + dimsZ (zs.drop j)) (h : j = zs.length ∨ zs.getD j 0 ≠ 91) : dimsZ zs = j := by
  rcases h with rfl | h
  · rw [List.drop_length] at hd; simpa [dimsZ] using hd
  · by_cases e : j = zs.length
    · subst e; rw [List.drop_length] at hd; simpa [dimsZ] using hd
    · have hlt : j < zs.length := by omega
      have hg : zs[j] ≠ 91 := by rw [← show zs.getD j 0 = zs[j] by simp [List.getD, hlt]]; exact h
      rw [List.drop_eq_getElem_cons hlt] at hd
      rw [hd]
      show j + dimsZ (zs[j] :: _) = j
      rw [dimsZ, if_neg hg]
      rfl
theorem guard_type : Tryz.prog.eqGuardType Tryz.prog.depth 63 = false := by kernel_rfl
theorem held_type : Tryz.prog.stoodInHeld 63 = false := by kernel_rfl
theorem fields_type : Tryz.prog.underlying 63 = some (.struct (Tryz.prog.fieldsOf 63)) := by kernel_rfl
theorem list_type : (Tryz.prog.fieldsOf 63).toList.map (fun f => (f.name, f.type, f.offset)) = [("K", 3, 0), ("Name", 9, 1), ("Dims", 3, 2), ("Elem", 3, 3), ("At", 3, 4)] := by kernel_rfl
theorem toList_inj' {x y : ByteArray} (h : x.toList = y.toList) : x = y := by
  rw [ByteArray.toList_eq, ByteArray.toList_eq] at h
  obtain ⟨⟨x⟩⟩ := x
  obtain ⟨⟨y⟩⟩ := y
  simp at h
  rw [h]
def eqT (a b : TypeV) : Bool := decide (a = b)
theorem eqT_self (a : TypeV) : eqT a a = true := by unfold eqT; simp
theorem eql_type (i k : TypeV) (w : World) : (binOp .eql 63 (valT i) (valT k)).run Tryz.prog w = .ok (.bool (eqT i k)) w := by
  unfold valT
  rw [run_eql_struct, run_equalIn_agg w _ _ _ _ fields_type held_type]
  have h := list_type
  generalize (Tryz.prog.fieldsOf 63).toList = l at *
  rcases l with _ | ⟨f0, _ | ⟨f1, _ | ⟨f2, _ | ⟨f3, _ | ⟨f4, _ | _⟩⟩⟩⟩⟩
  any_goals (simp at h; done)
  · simp only [List.map_cons, List.map_nil, List.cons.injEq, Prod.mk.injEq, and_true] at h
    obtain ⟨⟨a1, a2, a3⟩, ⟨b1, b2, b3⟩, ⟨c1, c2, c3⟩, ⟨d1, d2, d3⟩, e1, e2, e3⟩ := h
    obtain ⟨x0, x1, x2, x3, x4⟩ := i
    obtain ⟨y0, y1, y2, y3, y4⟩ := k
    have hs : (x1.toList == y1.toList) = decide (x1 = y1) := by
      by_cases h : x1 = y1
      · subst h; simp
      · simp only [h, decide_false, beq_eq_false_iff_ne]
        exact fun e => h (toList_inj' e)
    simp [Op.eqFields, a1, a2, a3, b1, b2, b3, c1, c2, c3, d1, d2, d3, e1, e2, e3, part, isAgg, run_underlying Tryz.underlying3, run_underlying Tryz.underlying9, go_sem, run_equalIn_int w _ _ _ _ _ _ Tryz.underlying3, run_equalIn_string w _ _ _ _ Tryz.underlying9, hs]
    unfold eqT
    repeat' split
    all_goals simp_all
end Go.Proofs.YtgdgffnaknkbcaaGreatDoor
namespace Go.Proofs.YtgdgffnaknkbcaaGreatDoor
open Go.RowKit
set_option linter.unusedVariables false
set_option linter.unusedSimpArgs false
theorem info5_type : (Tryz.prog.info? 63).map (·.size) = some 5 := by kernel_rfl
def FieldTo (w : World) (r : Option (TypeV × List Int)) (e : Ending) (w' : World) : Prop := e = .returned (.tuple #[valT (typF r), .string (restF r), .bool (okF r)]) ∧ Only (fun _ => False) w w'
theorem FieldTo.no {w w' : World} {r : Option (TypeV × List Int)} (h : r = none) (ho : Only (fun _ => False) w w') : FieldTo w r (.returned (.tuple #[valT zeroT, .string ⟨#[]⟩, .bool false])) w' := by subst h; exact ⟨rfl, ho⟩
theorem FieldTo.yes {w w' : World} {r : Option (TypeV × List Int)} {t : TypeV} {zs : List Int} {u : ByteArray} (h : r = some (t, zs)) (hu : nums u = zs) (ho : Only (fun _ => False) w w') : FieldTo w r (.returned (.tuple #[valT t, .string u, .bool true])) w' := by
  subst h
  refine ⟨?_, ho⟩
  rw [str_of hu]
  rfl
theorem base_deep {d : Nat} (zs : List Int) (h : 4 < d) : baseZ d zs = none := by
  cases zs with
  | nil => rfl
  | cons c r => show (if 4 < d then none else _) = none; rw [if_pos h]
end Go.Proofs.YtgdgffnaknkbcaaGreatDoor
namespace Go.Proofs.YtgdgffnaknkbcaaGreatDoor
open Go.RowKit
set_option linter.unusedVariables false
set_option linter.unusedSimpArgs false
def oneZ8 (zs : List Int) : Option TypeV := match fieldZ zs with | some (t, []) => some t | _ => none
def typO (r : Option TypeV) : TypeV := match r with | some t => t | none => zeroT
def errO (r : Option TypeV) : Int := match r with | some _ => 0 | none => 80
theorem cells5T {w : World} {b : Nat} {c0 c1 c2 c3 c4 : Value} {t : TypeId} {f : Nat × Nat} (h : w.heap[b]? = some (.cells #[c0, c1, c2, c3, c4] t f)) :
    w.cell? ⟨b, 0, none⟩ = some c0 ∧ w.cell? ⟨b, 1, none⟩ = some c1 ∧ w.cell? ⟨b, 2, none⟩ = some c2 ∧ w.cell? ⟨b, 3, none⟩ = some c3 ∧ w.cell? ⟨b, 4, none⟩ = some c4 :=
  ⟨cell_blk h 0, cell_blk h 1, cell_blk h 2, cell_blk h 3, cell_blk h 4⟩
theorem marks5T {w : World} {b : Nat} {c : Array Value} {t : TypeId} (h : w.heap[b]? = some (.cells c t (0, 0))) :
    w.frozen? ⟨b, 0, none⟩ = false ∧ w.frozen? ⟨b, 1, none⟩ = false ∧ w.frozen? ⟨b, 2, none⟩ = false ∧ w.frozen? ⟨b, 3, none⟩ = false ∧ w.frozen? ⟨b, 4, none⟩ = false :=
  ⟨frozen_blk h 0, frozen_blk h 1, frozen_blk h 2, frozen_blk h 3, frozen_blk h 4⟩
theorem store5T {w : World} {b : Nat} {T : TypeId} {f : Nat × Nat} {o0 o1 o2 o3 o4 a0 a1 a2 a3 a4 : Value} (h : w.heap[b]? = some (.cells #[o0, o1, o2, o3, o4] T f)) :
    (((((w.setCell ⟨b, 0, none⟩ a0).setCell ⟨b, 1, none⟩ a1).setCell ⟨b, 2, none⟩ a2).setCell ⟨b, 3, none⟩ a3).setCell ⟨b, 4, none⟩ a4).heap[b]? = some (.cells #[a0, a1, a2, a3, a4] T f) := by
  have h0 := heap_setCell_at (i := 0) (u := a0) h
  simp only [List.setIfInBounds_toArray, List.set_cons_zero, List.set_cons_succ] at h0
  have h1 := heap_setCell_at (i := 1) (u := a1) h0
  simp only [List.setIfInBounds_toArray, List.set_cons_zero, List.set_cons_succ] at h1
  have h2 := heap_setCell_at (i := 2) (u := a2) h1
  simp only [List.setIfInBounds_toArray, List.set_cons_zero, List.set_cons_succ] at h2
  have h3 := heap_setCell_at (i := 3) (u := a3) h2
  simp only [List.setIfInBounds_toArray, List.set_cons_zero, List.set_cons_succ] at h3
  have h4 := heap_setCell_at (i := 4) (u := a4) h3
  simp only [List.setIfInBounds_toArray, List.set_cons_zero, List.set_cons_succ] at h4
  exact h4
theorem only5T {S : Nat → Prop} {w w' : World} {b : Nat} {a0 a1 a2 a3 a4 : Value} (h : Only S w w') (hb : b < w.heap.size → S b) :
    Only S w (((((w'.setCell ⟨b, 0, none⟩ a0).setCell ⟨b, 1, none⟩ a1).setCell ⟨b, 2, none⟩ a2).setCell ⟨b, 3, none⟩ a3).setCell ⟨b, 4, none⟩ a4) := by
  iterate 5 (refine Only.setCell (S := S) ?_ hb _)
  exact h
theorem type_result2 {fn : Func} {p q : Tmp} (hr : fn.results = #[.cell p 63, .tmp q]) {w : World} {b : Nat} {t : TypeV} {x : Value} {tmps : Array Value} (h : w.heap[b]? = some (.cells #[.int .i64 t.k, .string t.name, .int .i64 t.dims, .int .i64 t.elem, .int .i64 t.at_] 63 (0, 0))) (ht : tmps.getD p undef = .pointer (some ⟨b, 0, none⟩)) (hx : tmps.getD q undef = x) :
    (results fn tmps).run Tryz.prog w = .ok (.tuple #[valT t, x]) w := by
  rw [results_cell_tmp hr, ht, hx, show (asAddr (.pointer (some ⟨b, 0, none⟩))).run Tryz.prog w = .ok ⟨b, 0, none⟩ w from rfl]
  simp only [Result.andThen]
  rw [run_loadVar_row w b 63 63 _ (0, 0) _ h Tryz.underlying63 rfl info5_type]
  rfl
theorem toList_empty : (⟨#[]⟩ : ByteArray).toList = [] := by rw [ByteArray.toList_eq]
theorem toList_ne {s : ByteArray} (h : s ≠ ⟨#[]⟩) : s.toList.isEmpty = false ∧ ¬ s.toList = [] := by
  have h2 : ¬ s.toList = [] := fun e => h (toList_inj' (by rw [e, toList_empty]))
  refine ⟨?_, h2⟩
  cases hq : s.toList with
  | nil => exact absurd hq h2
  | cons _ _ => rfl
theorem base_rest {d : Nat} {zs r : List Int} {t : TypeV} (h : baseZ d zs = some (t, r)) : ∃ n, r = zs.drop n ∧ r.length < zs.length := by
  cases zs with
  | nil => cases h
  | cons c q =>
    unfold baseZ at h
    simp only at h
    split at h
    · cases h
    split at h
    · simp only [Option.some.injEq, Prod.mk.injEq] at h
      exact ⟨1, h.2.symm, by rw [← h.2]; simp⟩
    split at h
    · simp only [Option.some.injEq, Prod.mk.injEq] at h
      exact ⟨1, h.2.symm, by rw [← h.2]; simp⟩
    split at h
    · split at h
      · cases h
      split at h
      · simp only [Option.some.injEq, Prod.mk.injEq] at h
        exact ⟨semiZ q + 1 + 1, h.2.symm, by rw [← h.2]; simp; omega⟩
      · cases h
    · cases h
theorem field_rest {zs r : List Int} {t : TypeV} (h : fieldZ zs = some (t, r)) : ∃ n, r = zs.drop n ∧ r.length < zs.length := by
  obtain ⟨n, h1, h2⟩ := base_rest h
  rw [List.length_drop] at h2
  exact ⟨dimsZ zs + n, by rw [h1, List.drop_drop], by omega⟩
end Go.Proofs.YtgdgffnaknkbcaaGreatDoor
