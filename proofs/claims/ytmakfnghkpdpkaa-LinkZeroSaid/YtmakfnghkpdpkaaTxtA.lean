/- Spans of numbers as functions; how many bytes a unit has; a number's lowest bits. No condition. -/
import Derived.Test.YtmakfnghkpdpkaaRows
import Derived.Test.YtmakfnghkpdpkaaTxtP
import Derived.Test.YtmakfnghkpdpkaaMem
import Derived.Deep.QuietTactic
import Derived.BigQuiet
namespace Go.Proofs.Ytmakfnghkpdpkaa
open Go.RowKit
set_option linter.unusedVariables false
set_option linter.unusedSimpArgs false


/-- How many bytes a unit has. -/
def sizeU (u : Int) : Int := if 1 ≤ u ∧ u < 128 then 1 else if 2048 ≤ u ∧ u < 65536 then 3 else 2
/-- What a byte begins with. -/
def leadU (c : Int) : Int := if c < 128 then c else if 192 ≤ c ∧ c < 224 then c - 192 else if 224 ≤ c ∧ c < 240 then c - 224 else 0
def leadN (c : Int) : Int := if c < 128 then 1 else if 192 ≤ c ∧ c < 224 then 2 else if 224 ≤ c ∧ c < 240 then 3 else 0
theorem i32_and63 {x : Int} (h₀ : 0 ≤ x) (h₁ : x < 2147483648) : bits .and .i32 x 63 = x % 64 := bits_mask .i32 31 (by decide) wraps_i32 6 (by decide) x h₀ h₁
theorem i32_and1023 {x : Int} (h₀ : 0 ≤ x) (h₁ : x < 2147483648) : bits .and .i32 x 1023 = x % 1024 := bits_mask .i32 31 (by decide) wraps_i32 10 (by decide) x h₀ h₁
end Go.Proofs.Ytmakfnghkpdpkaa
