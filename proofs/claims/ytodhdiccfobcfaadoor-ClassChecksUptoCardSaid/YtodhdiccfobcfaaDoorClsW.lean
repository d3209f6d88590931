/- What a right class is, in plain words. No program. -/
import Derived.Test.YtodhdiccfobcfaaDoorClsA
import Derived.Test.YtodhdiccfobcfaaDoorClsB
import Derived.Test.YtodhdiccfobcfaaDoorPolC
namespace Go.Proofs.YtodhdiccfobcfaaDoor
open Go.RowKit
set_option linter.unusedVariables false
set_option linter.unusedSimpArgs false

def FlagsP (f : Int) : Prop := f = 0 ∨ f = 8
abbrev codeT : ByteArray := ⟨#[67, 111, 100, 101]⟩
abbrev mapsT : ByteArray := ⟨#[83, 116, 97, 99, 107, 77, 97, 112, 84, 97, 98, 108, 101]⟩
/-- Its first line: flags, name, descriptor, stack, locals. -/
def HeadP (cs : List ConstV) (m : MethodV) : Prop := FlagsP m.flags ∧ (textZ cs m.name).2 = true ∧ (textZ cs m.desc).2 = true ∧ 0 ≤ m.stack ∧ m.stack ≤ 64 ∧ 0 ≤ m.locals ∧ m.locals ≤ 64
/-- Its code and its maps. -/
def BodyP (cs : List ConstV) (m : MethodV) : Prop := 1 ≤ m.code.length ∧ m.code.length ≤ 4096 ∧ m.maps.length ≤ 4096 ∧ placeOf cs codeT ≠ 0 ∧ (0 < m.maps.length → placeOf cs mapsT ≠ 0)
def TrapP (cs : List ConstV) (n : Nat) (t : TrapV) : Prop := 0 ≤ t.from_ ∧ t.from_ < t.to_ ∧ t.to_ ≤ n ∧ 0 ≤ t.hand ∧ t.hand < n ∧ (t.type = 0 ∨ (classZ cs t.type).2 = true)
def MethodP (cs : List ConstV) (m : MethodV) : Prop := HeadP cs m ∧ BodyP cs m ∧ ∀ t ∈ m.traps, TrapP cs m.code.length t
def FieldP (cs : List ConstV) (f : FieldV) : Prop := FlagsP f.flags ∧ (textZ cs f.name).2 = true ∧ (textZ cs f.desc).2 = true
def LongP (c : ClassV) : Prop := 64 < c.fields.length ∨ 64 < c.methods.length ∨ ∃ m ∈ c.methods, 64 < m.traps.length
def RightP (c : ClassV) : Prop := (classZ c.pool c.this).2 = true ∧ (classZ c.pool c.super).2 = true ∧ (∀ f ∈ c.fields, FieldP c.pool f) ∧ ∀ m ∈ c.methods, MethodP c.pool m
open Classical in
/-- What is wrong with a class. -/
noncomputable def clsZ (c : ClassV) : Int := if checkZ c.pool ≠ 0 then checkZ c.pool else if LongP c then 2 else if RightP c then 0 else 50
theorem clsZ_pool {c : ClassV} (h : checkZ c.pool ≠ 0) : clsZ c = checkZ c.pool := by unfold clsZ; rw [if_pos h]
theorem clsZ_long {c : ClassV} (h : checkZ c.pool = 0) (hl : LongP c) : clsZ c = 2 := by unfold clsZ; rw [if_neg (by simp [h]), if_pos hl]
theorem clsZ_ok {c : ClassV} (h : checkZ c.pool = 0) (hl : ¬ LongP c) (hr : RightP c) : clsZ c = 0 := by unfold clsZ; rw [if_neg (by simp [h]), if_neg hl, if_pos hr]
theorem clsZ_wrong {c : ClassV} (h : checkZ c.pool = 0) (hl : ¬ LongP c) (hr : ¬ RightP c) : clsZ c = 50 := by unfold clsZ; rw [if_neg (by simp [h]), if_neg hl, if_neg hr]
theorem clsZ_zero {c : ClassV} (h : clsZ c = 0) : checkZ c.pool = 0 ∧ ¬ LongP c ∧ RightP c := by
  by_cases h0 : checkZ c.pool = 0
  · by_cases hl : LongP c
    · rw [clsZ_long h0 hl] at h; exact absurd h (by decide)
    · by_cases hr : RightP c
      · exact ⟨h0, hl, hr⟩
      · rw [clsZ_wrong h0 hl hr] at h; exact absurd h (by decide)
  · rw [clsZ_pool h0] at h; exact absurd h h0
theorem take_snoc {α : Type} [Inhabited α] {l : List α} {j : Nat} (h : j < l.length) : l.take (j + 1) = l.take j ++ [l.getD j default] := by
  rw [List.take_succ_eq_append_getElem h]
  congr 1
  simp [List.getD, h]
end Go.Proofs.YtodhdiccfobcfaaDoor
