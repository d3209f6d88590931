/- The readers' small calls: what each answers and that each only reads. No condition. -/
import Derived.Test.YtadgbkjjeigpjaaRows
import Derived.Test.YtadgbkjjeigpjaaSep
import Derived.Deep.QuietTactic
import Derived.BigQuiet
namespace Go.Proofs.Ytadgbkjjeigpjaa
open Go.RowKit

/-- A reader's three fields. -/
def RdCells (w : World) (rb : Nat) (ao : Option Addr) (n cap : Nat) (at_ : Nat) : Prop :=
  w.cell? ⟨rb, 0, none⟩ = some (.slice ao n cap) ∧ w.cell? ⟨rb, 1, none⟩ = some (.int .i64 at_) ∧ w.cell? ⟨rb, 2, none⟩ = some (.bool true)

/-- Why a number of n bytes can't be read, where so many are left; and why a list can't. -/
def rdErr0 (n left : Int) : Int := if n < 1 ∨ 8 < n then 1 else if left < n then 3 else 0
def rdErr1 (n left : Int) : Int := if n < 0 then 1 else if left < n then 3 else 0

end Go.Proofs.Ytadgbkjjeigpjaa
