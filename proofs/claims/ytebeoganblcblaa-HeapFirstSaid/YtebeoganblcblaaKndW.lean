/- Plain words of layer 8: types, what a field's descriptor says. No condition. -/
import Derived.Test.YtebeoganblcblaaKndA
import Derived.Laws.StructEq
import Derived.Laws.Rows
import Derived.Laws.ResultCell
namespace Go.Proofs.Ytebeoganblcblaa
open Go.RowKit
set_option linter.unusedVariables false
set_option linter.unusedSimpArgs false

structure TypeV where
  k : Int
  name : ByteArray
  dims : Int
  elem : Int
  at_ : Int
deriving DecidableEq
def emptyB : ByteArray := ⟨#[]⟩
def zeroT : TypeV := ⟨0, ⟨#[]⟩, 0, 0, 0⟩
instance : Inhabited TypeV := ⟨zeroT⟩
def valT (t : TypeV) : Value := .agg #[.int .i64 t.k, .string t.name, .int .i64 t.dims, .int .i64 t.elem, .int .i64 t.at_]
def cellsTy (t : TypeV) : List Value := [.int .i64 t.k, .string t.name, .int .i64 t.dims, .int .i64 t.elem, .int .i64 t.at_]

/-! Texts as numbers. -/
theorem nums_extract (s : ByteArray) (a b : Nat) : nums (s.extract a b) = ((nums s).drop a).take (b - a) := by
  simp [nums, numsL, List.map_take, List.map_drop]
theorem nums_rest (s : ByteArray) (a : Nat) : nums (s.extract a s.size) = (nums s).drop a := by
  rw [nums_extract]
  apply List.take_of_length_le
  simp [nums_len]
theorem nums_inj {s t : ByteArray} (h : nums s = nums t) : s = t := by rw [← str_nums s, h, str_nums]
theorem str_of {s : ByteArray} {zs : List Int} (h : nums s = zs) : s = strOfNums zs := by rw [← h, str_nums]

/-! A field's descriptor. -/
def dimsZ : List Int → Nat
  | [] => 0
  | c :: r => if c = 91 then dimsZ r + 1 else 0
theorem dimsZ_le : ∀ zs : List Int, dimsZ zs ≤ zs.length
  | [] => Nat.le_refl _
  | c :: r => by
    unfold dimsZ
    have := dimsZ_le r
    split <;> simp <;> omega
/-- How many bytes there are ahead of a semicolon. -/
def semiZ : List Int → Nat
  | [] => 0
  | c :: r => if c = 59 then 0 else semiZ r + 1
theorem semiZ_le : ∀ zs : List Int, semiZ zs ≤ zs.length
  | [] => Nat.le_refl _
  | c :: r => by
    unfold semiZ
    have := semiZ_le r
    split <;> simp <;> omega
def arrT (d : Nat) (k : Int) (nm : ByteArray) : TypeV := if 0 < d then ⟨5, nm, d, k, 0⟩ else ⟨k, nm, 0, 0, 0⟩
/-- The type at the beginning, and what is left. -/
def baseZ (d : Nat) (zs : List Int) : Option (TypeV × List Int) :=
  match zs with
  | [] => none
  | c :: r =>
    if 4 < d then none
    else if c = 73 then some (arrT d 1 ⟨#[]⟩, r)
    else if c = 74 then some (arrT d 2 ⟨#[]⟩, r)
    else if c = 76 then
      if semiZ r = r.length then none
      else if plainN (r.take (semiZ r)) then some (arrT d 4 (strOfNums (r.take (semiZ r))), r.drop (semiZ r + 1)) else none
    else none
def fieldZ (zs : List Int) : Option (TypeV × List Int) := baseZ (dimsZ zs) (zs.drop (dimsZ zs))
def okF (r : Option (TypeV × List Int)) : Bool := r.isSome
def typF (r : Option (TypeV × List Int)) : TypeV := match r with | some q => q.1 | none => zeroT
def restF (r : Option (TypeV × List Int)) : ByteArray := match r with | some q => strOfNums q.2 | none => ⟨#[]⟩
/-- The leading brackets. -/
theorem dims_step {zs : List Int} {j : Nat} (hj : j < zs.length) (hd : dimsZ zs = j + dimsZ (zs.drop j)) (h : zs.getD j 0 = 91) : dimsZ zs = (j + 1) + dimsZ (zs.drop (j + 1)) := by
  have hg : zs[j] = 91 := by rw [← h]; simp [List.getD, hj]
  rw [hd, List.drop_eq_getElem_cons hj]
  show j + dimsZ (zs[j] :: _) = _
  rw [dimsZ, if_pos hg]
  omega
theorem dims_stop {zs : List Int} {j : Nat} (hj : j ≤ zs.length) (hd : dimsZ zs = j + dimsZ (zs.drop j)) (h : j = zs.length ∨ zs.getD j 0 ≠ 91) : dimsZ zs = j := by
  rcases h with rfl | h
  · rw [List.drop_length] at hd; simpa [dimsZ] using hd
  · by_cases e : j = zs.length
    · subst e; rw [List.drop_length] at hd; simpa [dimsZ] using hd
    · have hlt : j < zs.length := by omega
      have hg : zs[j] ≠ 91 := by rw [← show zs.getD j 0 = zs[j] by simp [List.getD, hlt]]; exact h
      rw [List.drop_eq_getElem_cons hlt] at hd
      rw [hd]
      show j + dimsZ (zs[j] :: _) = j
      rw [dimsZ, if_neg hg]
      rfl
theorem semi_step {zs : List Int} {j : Nat} (hj : j < zs.length) (hd : semiZ zs = j + semiZ (zs.drop j)) (h : zs.getD j 0 ≠ 59) : semiZ zs = (j + 1) + semiZ (zs.drop (j + 1)) := by
  have hg : zs[j] ≠ 59 := by rw [← show zs.getD j 0 = zs[j] by simp [List.getD, hj]]; exact h
  rw [hd, List.drop_eq_getElem_cons hj]
  show j + semiZ (zs[j] :: _) = _
  rw [semiZ, if_neg hg]
  omega
theorem semi_stop {zs : List Int} {j : Nat} (hj : j ≤ zs.length) (hd : semiZ zs = j + semiZ (zs.drop j)) (h : j = zs.length ∨ zs.getD j 0 = 59) : semiZ zs = j := by
  by_cases e : j = zs.length
  · subst e; rw [List.drop_length] at hd; simpa [semiZ] using hd
  · have hlt : j < zs.length := by omega
    have hg : zs[j] = 59 := by
      rw [← show zs.getD j 0 = zs[j] by simp [List.getD, hlt]]
      rcases h with h | h
      · exact absurd h e
      · exact h
    rw [hd, List.drop_eq_getElem_cons hlt]
    show j + semiZ (zs[j] :: _) = j
    rw [semiZ, if_pos hg]
    rfl

/-! Two types compared by '=='. -/
theorem guard_type : Try.prog.eqGuardType Try.prog.depth 32 = false := by kernel_rfl
theorem held_type : Try.prog.stoodInHeld 32 = false := by kernel_rfl
theorem fields_type : Try.prog.underlying 32 = some (.struct (Try.prog.fieldsOf 32)) := by kernel_rfl
theorem list_type : (Try.prog.fieldsOf 32).toList.map (fun f => (f.name, f.type, f.offset)) = [("K", 3, 0), ("Name", 9, 1), ("Dims", 3, 2), ("Elem", 3, 3), ("At", 3, 4)] := by kernel_rfl
theorem toList_inj' {x y : ByteArray} (h : x.toList = y.toList) : x = y := by
  rw [ByteArray.toList_eq, ByteArray.toList_eq] at h
  obtain ⟨⟨x⟩⟩ := x
  obtain ⟨⟨y⟩⟩ := y
  simp at h
  rw [h]
def eqT (a b : TypeV) : Bool := decide (a = b)
theorem eqT_self (a : TypeV) : eqT a a = true := by unfold eqT; simp
theorem eql_type (i k : TypeV) (w : World) : (binOp .eql 32 (valT i) (valT k)).run Try.prog w = .ok (.bool (eqT i k)) w := by
  unfold valT
  rw [run_eql_struct, run_equalIn_agg w _ _ _ _ fields_type held_type]
  have h := list_type
  generalize (Try.prog.fieldsOf 32).toList = l at *
  rcases l with _ | ⟨f0, _ | ⟨f1, _ | ⟨f2, _ | ⟨f3, _ | ⟨f4, _ | _⟩⟩⟩⟩⟩
  any_goals (simp at h; done)
  · simp only [List.map_cons, List.map_nil, List.cons.injEq, Prod.mk.injEq, and_true] at h
    obtain ⟨⟨a1, a2, a3⟩, ⟨b1, b2, b3⟩, ⟨c1, c2, c3⟩, ⟨d1, d2, d3⟩, e1, e2, e3⟩ := h
    obtain ⟨x0, x1, x2, x3, x4⟩ := i
    obtain ⟨y0, y1, y2, y3, y4⟩ := k
    have hs : (x1.toList == y1.toList) = decide (x1 = y1) := by
      by_cases h : x1 = y1
      · subst h; simp
      · simp only [h, decide_false, beq_eq_false_iff_ne]
        exact fun e => h (toList_inj' e)
    simp [Op.eqFields, a1, a2, a3, b1, b2, b3, c1, c2, c3, d1, d2, d3, e1, e2, e3, part, isAgg, run_underlying Try.underlying3, run_underlying Try.underlying9, go_sem, run_equalIn_int w _ _ _ _ _ _ Try.underlying3, run_equalIn_string w _ _ _ _ Try.underlying9, hs]
    unfold eqT
    repeat' split
    all_goals simp_all
end Go.Proofs.Ytebeoganblcblaa
