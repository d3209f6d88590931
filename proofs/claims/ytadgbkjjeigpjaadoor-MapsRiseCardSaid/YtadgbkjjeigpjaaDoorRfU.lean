/- The document's reader of bytes: a number that is there, one that is short. No condition beyond a reader that was made. -/
import Derived.Test.YtadgbkjjeigpjaaDoorRefR
import Derived.Test.YtadgbkjjeigpjaaDoorGPolR
namespace Go.Proofs.YtadgbkjjeigpjaaDoor
open Go.RowKit
set_option linter.unusedVariables false
set_option linter.unusedSimpArgs false

theorem Rf.bytish {w : World} {rb : Nat} {v : Value} {zs : List Int} {k : Nat} (h : Rf w rb v zs k) : Bytish zs := by obtain ⟨_, _, _, _, _, _, h, _⟩ := h.byt; exact h
theorem rfU_ok (rb : Nat) (v : Value) (zs : List Int) (k n : Nat) (w : World) (h : Rf w rb v zs k) (hn1 : 1 ≤ n) (hn8 : n ≤ 8) (hroom : k + n ≤ zs.length) :
    Calls Tryd.prog 34 #[.pointer (some ⟨rb, 0, none⟩), .int .i64 n] w fun e w' => e = .returned (.tuple #[.int .u64 (uAt zs k n), .int .i64 0]) ∧ RfTo w rb v zs (k + n) w' := rfUintOk rb v zs k n w h hn1 hn8 hroom
theorem rfU_short (rb : Nat) (v : Value) (zs : List Int) (k n : Nat) (w : World) (h : Rf w rb v zs k) (hn1 : 1 ≤ n) (hn8 : n ≤ 8) (hroom : zs.length < k + n) :
    Calls Tryd.prog 34 #[.pointer (some ⟨rb, 0, none⟩), .int .i64 n] w fun e w' => e = .returned (.tuple #[.int .u64 0, .int .i64 3]) ∧ RfTo w rb v zs k w' := by
  have he : rdErr0 n ((zs.length : Int) - k) = 3 := by unfold rdErr0; rw [if_neg (by omega), if_pos (by omega)]
  have := rfUintErr rb v zs k n w h (by rw [he]; decide)
  rw [he] at this
  exact this.mono fun e w' hh => ⟨hh.1, RfTo.of_drawn h hh.2⟩
end Go.Proofs.YtadgbkjjeigpjaaDoor
