/- The writers' small calls. No condition beyond a writer that was made. -/
import Derived.Test.YtadgbkjjeigpjaaWireB
import Derived.Test.YtadgbkjjeigpjaaClone
namespace Go.Proofs.Ytadgbkjjeigpjaa
open Go.RowKit

/-- The blocks that a writer's calls may write. -/
def WrS (wb : Nat) (sv : Value) : Nat → Prop := fun k => k = wb ∨ sv.ownBlock = some k
/-- Does a number fit n bytes: of either kind. -/
def fitU (n x : Int) : Bool := decide (1 ≤ n) && (decide (n ≤ 8) && (cutUv n.toNat x == x))
def fitI (n x : Int) : Bool := decide (1 ≤ n) && (decide (n ≤ 8) && (cutIv n.toNat x == x))

/-- Why n bytes can't be written, where there is so much room. -/
def wrErr (right : Bool) (n room : Int) : Int := if right = false then 1 else if room < n then 2 else 0

end Go.Proofs.Ytadgbkjjeigpjaa
