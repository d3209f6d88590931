/- The document's own Plain: may a text be a class's name. No condition but a length that a text can have. -/
import Derived.Test.YtebeoganblcblaaTxtP
import Derived.Test.YtebeoganblcblaaMem
import Derived.Lib.Hide
namespace Go.Proofs.Ytebeoganblcblaa
open Go.RowKit
set_option linter.unusedVariables false
set_option linter.unusedSimpArgs false

/-- May a byte stand in a name. -/
def badC (z : Int) : Bool := z == 46 || (z == 59 || (z == 91 || (z == 47 || (z == 60 || z == 62))))
def plainN (zs : List Int) : Bool := (decide (1 ≤ zs.length) && decide (zs.length ≤ 256)) && zs.all (fun z => !badC z)
theorem nums_at {s : ByteArray} {j : Nat} (h : j < s.size) : (nums s).getD j 0 = ((s[j].toNat : Nat) : Int) := by
  rw [nums_get]
  congr 1
  simp [ByteArray.get!, h]
  rfl
theorem badC_yes {z : Int} (h : badC z = true) : z = 46 ∨ z = 59 ∨ z = 91 ∨ z = 47 ∨ z = 60 ∨ z = 62 := by
  unfold badC at h
  simpa using h
theorem plainN_no {zs : List Int} {j : Nat} (hj : j < zs.length) (h : badC (zs.getD j 0) = true) : plainN zs = false := by
  unfold plainN
  have : zs.all (fun z => !badC z) = false := by
    rw [List.all_eq_false]
    refine ⟨zs[j], List.getElem_mem hj, ?_⟩
    rw [show zs.getD j 0 = zs[j] by simp [List.getD, hj]] at h
    rw [h]; decide
  rw [this, Bool.and_false]
theorem plainN_yes {zs : List Int} (h1 : 1 ≤ zs.length) (h2 : zs.length ≤ 256) (h : ∀ j, j < zs.length → badC (zs.getD j 0) = false) : plainN zs = true := by
  unfold plainN
  simp only [h1, h2, decide_true, Bool.and_self, Bool.true_and, List.all_eq_true]
  intro z hz
  obtain ⟨j, hj, rfl⟩ := List.getElem_of_mem hz
  have := h j hj
  rw [show zs.getD j 0 = zs[j] by simp [List.getD, hj]] at this
  rw [this]; rfl
theorem badC_no {z : Int} (h : badC z = false) : (z == 46) = false ∧ (z == 59) = false ∧ (z == 91) = false ∧ (z == 47) = false ∧ (z == 60) = false ∧ (z == 62) = false := by
  unfold badC at h
  simp only [Bool.or_eq_false_iff] at h
  exact ⟨h.1, h.2.1, h.2.2.1, h.2.2.2.1, h.2.2.2.2.1, h.2.2.2.2.2⟩
end Go.Proofs.Ytebeoganblcblaa
