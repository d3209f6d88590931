import Derived.Test.YtgdgffnaknkbcaaGreatDoorMjLnkMLnkO
import Derived.Test.YtgdgffnaknkbcaaGreatDoorMjTxtPPolM
namespace Go.Proofs.YtgdgffnaknkbcaaGreatDoor
open Go.RowKit
set_option linter.unusedVariables false
set_option linter.unusedSimpArgs false
def FieldOK (fs : List MethN) (j : Nat) : Prop := (oneZ8 (nums (fs.getD j default).desc)).isSome = true ∧ plainN (nums (fs.getD j default).name) = true ∧ hasZ fs (fs.getD j default).name (fs.getD j default).desc = (j : Int)
def MethOK (ms : List MethN) (j : Nat) : Prop := ∃ x, Meth (nums (ms.getD j default).desc) x ∧ x.2.2 = 0 ∧ ((ms.getD j default).name = initB ∨ plainN (nums (ms.getD j default).name) = true) ∧ hasZ ms (ms.getD j default).name (ms.getD j default).desc = (j : Int) ∧ ((ms.getD j default).name = initB → (ms.getD j default).flags = 0 ∧ x.2.1.k = 8)
def MembersOK (k : KindV) : Prop := (∀ j, j < k.fields.length → FieldOK k.fields j) ∧ ∀ j, j < k.meths.length → MethOK k.meths j
def Names (l : List MethN) : Prop := ∀ m ∈ l, m.name.size ≤ 281474976710656
end Go.Proofs.YtgdgffnaknkbcaaGreatDoor
namespace Go.Proofs.YtgdgffnaknkbcaaGreatDoor
open Go.RowKit
set_option linter.unusedVariables false
set_option linter.unusedSimpArgs false
end Go.Proofs.YtgdgffnaknkbcaaGreatDoor
