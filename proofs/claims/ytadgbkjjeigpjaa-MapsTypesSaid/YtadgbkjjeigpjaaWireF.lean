/- The readers' calls, each for every argument; a new reader; that the program computes at all. No condition beyond a reader that was made, and the form's reach. -/
import Derived.Test.YtadgbkjjeigpjaaWireB
import Derived.Test.YtadgbkjjeigpjaaWireC
import Derived.Test.YtadgbkjjeigpjaaClone
namespace Go.Proofs.Ytadgbkjjeigpjaa
open Go.RowKit

def rdK (k : Nat) (n err : Int) : Nat := if err = 0 then k + n.toNat else k
def rdPart (zs : List Int) (k : Nat) (n err : Int) : List Int := if err = 0 then (zs.drop k).take n.toNat else []
def rdU (zs : List Int) (k : Nat) (n err : Int) : Int := if err = 0 then valB ((zs.drop k).take n.toNat) else 0
def rdI (zs : List Int) (k : Nat) (n err : Int) : Int := if err = 0 then sgn n.toNat (valB ((zs.drop k).take n.toNat)) else 0

theorem rdErr0_zero {n left : Int} (h : rdErr0 n left = 0) : 1 ≤ n ∧ n ≤ 8 ∧ n ≤ left := by
  unfold rdErr0 at h
  split at h
  · cases h
  · split at h
    · cases h
    · omega
theorem rdErr1_zero {n left : Int} (h : rdErr1 n left = 0) : 0 ≤ n ∧ n ≤ left := by
  unfold rdErr1 at h
  split at h
  · cases h
  · split at h
    · cases h
    · omega

end Go.Proofs.Ytadgbkjjeigpjaa
