/- The document's own look at a pool; its texts, classes and members. Texts of at most 2^46 bytes where a pool is looked at. -/
import Derived.Test.YtmakfnghkpdpkaaPolB
namespace Go.Proofs.Ytmakfnghkpdpkaa
open Go.RowKit Go.Shelf
set_option linter.unusedVariables false
set_option linter.unusedSimpArgs false

def zeroC : ConstV := ⟨0, ⟨#[]⟩, 0, 0, 0⟩
open Classical in
/-- The first that is wrong. -/
noncomputable def errs (cs : List ConstV) : List ConstV → Int
  | [] => 0
  | c :: r => if oneZ cs c ≠ 0 then oneZ cs c else errs cs r
open Classical in
noncomputable def checkZ (cs : List ConstV) : Int := if 1024 < cs.length then 2 else if cs = [] ∨ cs.getD 0 default ≠ zeroC then 40 else errs cs (cs.drop 1)

def Texts (cs : List ConstV) : Prop := ∀ c ∈ cs, c.text.size ≤ 70368744177664
theorem Texts.at {cs : List ConstV} (h : Texts cs) {i : Nat} (hi : i < cs.length) : (cs.getD i default).text.size ≤ 70368744177664 := by
  have e : cs.getD i default = cs[i] := by simp [List.getD, hi]
  rw [e]
  exact h _ (List.getElem_mem hi)

end Go.Proofs.Ytmakfnghkpdpkaa
