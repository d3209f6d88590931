/- The readers' small calls: what each answers and that each only reads. No condition. -/
import Derived.Test.YtadgbkjjeigpjaaDoorRows
import Derived.Test.YtadgbkjjeigpjaaDoorSep
import Derived.Deep.QuietTactic
import Derived.BigQuiet
namespace Go.Proofs.YtadgbkjjeigpjaaDoor
open Go.RowKit

/-- A reader's three fields. -/
def RdCells (w : World) (rb : Nat) (ao : Option Addr) (n cap : Nat) (at_ : Nat) : Prop :=
  w.cell? ⟨rb, 0, none⟩ = some (.slice ao n cap) ∧ w.cell? ⟨rb, 1, none⟩ = some (.int .i64 at_) ∧ w.cell? ⟨rb, 2, none⟩ = some (.bool true)

set_option maxHeartbeats 400000 in
theorem rdLeft (rb : Nat) (ao : Option Addr) (n cap k : Nat) (w : World) (hn : n ≤ 9223372036854775807) (hk : k ≤ n) (h0 : w.cell? ⟨rb, 0, none⟩ = some (.slice ao n cap)) (h1 : w.cell? ⟨rb, 1, none⟩ = some (.int .i64 k)) (h2 : w.cell? ⟨rb, 2, none⟩ = some (.bool true)) :
    Calls Tryd.prog 33 #[.pointer (some ⟨rb, 0, none⟩)] w fun e w' => e = .returned (.int .i64 ((n : Int) - k)) ∧ ∃ nq, w' = w.drewN nq := by
  go_enter Tryd.func33, Tryd.ntmps33
  go_wp2
  go_quiet (fail)
  go_wp2
  go_ret
  exact ⟨rfl, _, rfl⟩

/-- Why a number of n bytes can't be read, where so many are left; and why a list can't. -/
def rdErr0 (n left : Int) : Int := if n < 1 ∨ 8 < n then 1 else if left < n then 3 else 0
def rdErr1 (n left : Int) : Int := if n < 0 then 1 else if left < n then 3 else 0

set_option maxHeartbeats 1000000 in
theorem rdRefusal0 (rb : Nat) (ao : Option Addr) (n cap k : Nat) (m : Int) (w : World) (hn : n ≤ 9223372036854775807) (hk : k ≤ n) (hm0 : -9223372036854775808 ≤ m) (hm1 : m ≤ 9223372036854775807)
    (h0 : w.cell? ⟨rb, 0, none⟩ = some (.slice ao n cap)) (h1 : w.cell? ⟨rb, 1, none⟩ = some (.int .i64 k)) (h2 : w.cell? ⟨rb, 2, none⟩ = some (.bool true)) :
    Calls Tryd.prog 82 #[.pointer (some ⟨rb, 0, none⟩), .int .i64 0, .int .i64 m] w fun e w' => e = .returned (.int .i64 (rdErr0 m ((n : Int) - k))) ∧ ∃ nq, w' = w.drewN nq := by
  go_enter Tryd.func82, Tryd.ntmps82
  go_wp2_with (first | (go_at_call 33; refine (rdLeft rb ao n cap k _ hn hk h0 h1 h2).mono ?_; rintro e w' ⟨rfl, nq, rfl⟩) | go_in)
  all_goals go_ret
  all_goals refine ⟨congrArg (fun z => Ending.returned (.int .i64 z)) ?_, ?_⟩
  all_goals first | exact ⟨_, rfl⟩ | exact ⟨0, rfl⟩ | skip
  all_goals unfold rdErr0
  all_goals try simp only [Bool.not_eq_true', Bool.not_eq_false', decide_eq_true_eq, decide_eq_false_iff_not] at *
  all_goals (repeat' split) <;> omega

set_option maxHeartbeats 1000000 in
theorem rdRefusal1 (rb : Nat) (ao : Option Addr) (n cap k : Nat) (m : Int) (w : World) (hn : n ≤ 9223372036854775807) (hk : k ≤ n) (hm0 : -9223372036854775808 ≤ m) (hm1 : m ≤ 9223372036854775807)
    (h0 : w.cell? ⟨rb, 0, none⟩ = some (.slice ao n cap)) (h1 : w.cell? ⟨rb, 1, none⟩ = some (.int .i64 k)) (h2 : w.cell? ⟨rb, 2, none⟩ = some (.bool true)) :
    Calls Tryd.prog 82 #[.pointer (some ⟨rb, 0, none⟩), .int .i64 1, .int .i64 m] w fun e w' => e = .returned (.int .i64 (rdErr1 m ((n : Int) - k))) ∧ ∃ nq, w' = w.drewN nq := by
  go_enter Tryd.func82, Tryd.ntmps82
  go_wp2_with (first | (go_at_call 33; refine (rdLeft rb ao n cap k _ hn hk h0 h1 h2).mono ?_; rintro e w' ⟨rfl, nq, rfl⟩) | go_in)
  all_goals go_ret
  all_goals refine ⟨congrArg (fun z => Ending.returned (.int .i64 z)) ?_, ?_⟩
  all_goals first | exact ⟨_, rfl⟩ | exact ⟨0, rfl⟩ | skip
  all_goals unfold rdErr1
  all_goals try simp only [Bool.not_eq_true', Bool.not_eq_false', decide_eq_true_eq, decide_eq_false_iff_not] at *
  all_goals (repeat' split) <;> omega

/-- next: the next m bytes, a part of the reader's own. -/
theorem rdNext (rb g n cap k m : Nat) (w : World) (hn : n ≤ cap) (hc : cap ≤ 9223372036854775807) (hk : k + m ≤ n) (hm : 1 ≤ m)
    (h0 : w.cell? ⟨rb, 0, none⟩ = some (.slice (some ⟨g, 0, none⟩) n cap)) (h1 : w.cell? ⟨rb, 1, none⟩ = some (.int .i64 k)) (f1 : w.frozen? ⟨rb, 1, none⟩ = false) :
    Calls Tryd.prog 83 #[.pointer (some ⟨rb, 0, none⟩), .int .i64 m] w fun e w' =>
      e = .returned (.slice (some ⟨g, k, none⟩) m (cap - k)) ∧ ∃ nq, w' = (w.setCell ⟨rb, 1, none⟩ (.int .i64 ((k : Int) + m))).drewN nq := by
  have hck : ¬ cap = k := by omega
  go_enter Tryd.func83, Tryd.ntmps83
  go_wp2
  go_quiet (fail)
  go_wp2
  go_ret
  exact ⟨congrArg (fun q => Ending.returned (.slice (some ⟨g, k, none⟩) q (cap - k))) (by omega : k + m - k = m), _, rfl⟩

/-- next of no bytes. -/
theorem rdNext0 (rb n cap k : Nat) (ao : Option Addr) (w : World) (hn : n ≤ cap) (hc : cap ≤ 9223372036854775807) (hk : k ≤ n)
    (h0 : w.cell? ⟨rb, 0, none⟩ = some (.slice ao n cap)) (h1 : w.cell? ⟨rb, 1, none⟩ = some (.int .i64 k)) (f1 : w.frozen? ⟨rb, 1, none⟩ = false) :
    Calls Tryd.prog 83 #[.pointer (some ⟨rb, 0, none⟩), .int .i64 0] w fun e w' =>
      (∃ ao', e = .returned (.slice ao' 0 (cap - k)) ∧ (ao' = none → ao = none)) ∧ ∃ nq, w' = (w.setCell ⟨rb, 1, none⟩ (.int .i64 (k : Int))).drewN nq := by
  go_enter Tryd.func83, Tryd.ntmps83
  go_wp2
  go_quiet (fail)
  go_wp2
  all_goals go_ret
  all_goals exact ⟨⟨_, rfl, by cases ao <;> simp⟩, _, rfl⟩
end Go.Proofs.YtadgbkjjeigpjaaDoor
