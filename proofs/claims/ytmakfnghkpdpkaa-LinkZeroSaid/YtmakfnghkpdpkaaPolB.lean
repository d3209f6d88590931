/- The document's own look at one constant, and at a pool. Texts of at most 2^46 bytes. -/
import Derived.Test.YtmakfnghkpdpkaaPolA
import Derived.Test.YtmakfnghkpdpkaaGTxtP
namespace Go.Proofs.Ytmakfnghkpdpkaa
open Go.RowKit Go.Shelf
set_option linter.unusedVariables false
set_option linter.unusedSimpArgs false

/-- A text that a pool may not hold. -/
def TextBad (x : ByteArray) : Prop := ∀ ys k, Enc (nums x) ys k → k ≠ 0 ∨ 256 < ys.length
open Classical in
/-- What is wrong with a constant. -/
noncomputable def oneZ (cs : List ConstV) (c : ConstV) : Int :=
  if bareZ c = false then 40
  else if c.tag = 1 then (if TextBad c.text then 20 else 0)
  else if c.tag = 3 then (if -2147483648 ≤ c.n ∧ c.n ≤ 2147483647 then 0 else 40)
  else if c.tag = 5 then 0
  else if c.tag = 7 then (if isZ cs c.a 1 = true then 0 else 40)
  else if c.tag = 12 then (if isZ cs c.a 1 = true ∧ isZ cs c.b 1 = true then 0 else 40)
  else if c.tag = 9 ∨ c.tag = 10 then (if isZ cs c.a 7 = true ∧ isZ cs c.b 12 = true then 0 else 40)
  else 40

end Go.Proofs.Ytmakfnghkpdpkaa
