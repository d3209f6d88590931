/- What the laws of stage 5 share: an empty row that is appended to. No condition. -/
import Derived.Test.YtodhdiccfobcfaaGreatDoorBig
namespace Go.Proofs.YtodhdiccfobcfaaGreatDoor
open Go.RowKit
set_option linter.unusedVariables false
set_option linter.unusedSimpArgs false

theorem made0n {w : World} {n : Nat} (h : w.heap.size = n) : Row (w.alloc (.cells #[] 5)) n (.slice (some ⟨n, 0, none⟩) 0 0) [] := by
  subst h
  exact made0 w
theorem copied_n {w w1 : World} {n : Nat} {v : Value} {zs : List Int} (h : w.heap.size = n) (hown : w1.ownsRow n 5 1 v (([] : List Int).length + zs.length) ([] ++ zs.map (Value.int .u8))) (hg : (w.alloc (.cells #[] 5)).grownBy w1 (Value.slice (some ⟨n, 0, none⟩) 0 0).ownBlock)
    (hn : ∀ k, v.ownBlock = some k → (Value.slice (some ⟨n, 0, none⟩) 0 0).ownBlock = some k ∨ (w.alloc (.cells #[] 5)).heap.size ≤ k) : Row w1 n v zs ∧ Only (fun _ => False) w w1 := by
  subst h
  exact Row.copied hown hg hn
end Go.Proofs.YtodhdiccfobcfaaGreatDoor
