/- The document's own Shape and Name of a code. No condition. -/
import Derived.Test.YtmgglicfhddmpaaOpsA
namespace Go.Proofs.Ytmgglicfhddmpaa
open Go.RowKit
set_option linter.unusedVariables false
set_option linter.unusedSimpArgs false

theorem codes_len : codesV.length = 120 := by decide
/-- What is known of a code. -/
def codeOf (op : Int) : Option CodeV := codesV.find? (fun c => c.op == op)
def shapeK (op : Int) : Int := match codeOf op with | some c => c.shape | none => 0
def nameK (op : Int) : ByteArray := match codeOf op with | some c => c.name | none => ⟨#[]⟩
def isK (op : Int) : Bool := (codeOf op).isSome
theorem codeOf_at {op : Int} {i : Nat} (hi : i < 120) (hb : ∀ j, j < i → (codesV.getD j default).op ≠ op) (h : (codesV.getD i default).op = op) : codeOf op = some (codesV.getD i default) := by
  have hi' : i < codesV.length := by rw [codes_len]; exact hi
  have e : ∀ j (hj : j < codesV.length), codesV.getD j default = codesV[j] := fun j hj => by simp [List.getD, hj]
  rw [e i hi'] at h ⊢
  refine List.find?_eq_some_iff_getElem.2 ⟨by simpa using h, i, hi', rfl, fun j hj => ?_⟩
  have := hb j hj
  rw [e j (by omega)] at this
  simpa using this
theorem codeOf_none {op : Int} (hb : ∀ j, j < 120 → (codesV.getD j default).op ≠ op) : codeOf op = none := by
  refine List.find?_eq_none.2 fun c hc => ?_
  obtain ⟨j, hj, rfl⟩ := List.getElem_of_mem hc
  have e : codesV.getD j default = codesV[j] := by simp [List.getD, hj]
  have := hb j (by rw [← codes_len]; exact hj)
  rw [e] at this
  simpa using this
theorem cellsK_at : ∀ {l : List CodeV} {i d : Nat}, i < l.length → d < 3 → (l.flatMap cellsK)[i * 3 + d]? = (cellsK (l.getD i default))[d]?
  | c :: r, 0, d, _, hd => by
    rw [List.flatMap_cons, List.getElem?_append_left (by simpa [cellsK] using hd)]
    simp
  | c :: r, i + 1, d, hi, hd => by
    have he : (i + 1) * 3 + d = 3 + (i * 3 + d) := by omega
    rw [List.flatMap_cons, List.getElem?_append_right (by simp [cellsK]; omega), he]
    rw [show 3 + (i * 3 + d) - (cellsK c).length = i * 3 + d by simp [cellsK], cellsK_at (by simpa using hi) hd]
    simp
end Go.Proofs.Ytmgglicfhddmpaa
