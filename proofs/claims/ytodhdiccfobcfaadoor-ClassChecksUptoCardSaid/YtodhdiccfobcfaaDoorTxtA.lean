/- Spans of numbers as functions; how many bytes a unit has; a number's lowest bits. No condition. -/
import Derived.Test.YtodhdiccfobcfaaDoorRows
import Derived.Test.YtodhdiccfobcfaaDoorTxtP
import Derived.Test.YtodhdiccfobcfaaDoorMem
import Derived.Deep.QuietTactic
import Derived.BigQuiet
namespace Go.Proofs.YtodhdiccfobcfaaDoor
open Go.RowKit
set_option linter.unusedVariables false
set_option linter.unusedSimpArgs false


/-- A function that tells whether a number is one of those from a to (not with) b. -/
def Span (w : World) (v : Value) (a b : Int) : Prop :=
  ∃ p q, v = .func (.func 67) #[] #[.pointer (some ⟨p, 0, none⟩), .pointer (some ⟨q, 0, none⟩)] ∧ w.cell? ⟨p, 0, none⟩ = some (.int .i32 a) ∧ w.cell? ⟨q, 0, none⟩ = some (.int .i32 b)

theorem span (a b : Int) (w : World) :
    Calls Tryd.prog 66 #[.int .i32 a, .int .i32 b] w fun e w' => ∃ v, e = .returned v ∧ Span w' v a b ∧ Only (fun _ => False) w w' := by
  have hmf : ∀ (fn : Fn) (first cap : Array Value) (w : World), (Instr.makeFunc fn first cap).run Tryd.prog w = .ok (.func fn first cap) w := fun _ _ _ _ => rfl
  go_enter Tryd.func66, Tryd.ntmps66
  go_wp2
  go_ret
  exact ⟨_, rfl, ⟨_, _, rfl, by simp, by simp⟩, ((Only.refl _ _).alloc _).alloc _⟩
theorem inSpan (u a b : Int) (p q : Nat) (w : World) (hp : w.cell? ⟨p, 0, none⟩ = some (.int .i32 a)) (hq : w.cell? ⟨q, 0, none⟩ = some (.int .i32 b)) :
    Calls Tryd.prog 67 #[.int .i32 u, .pointer (some ⟨p, 0, none⟩), .pointer (some ⟨q, 0, none⟩)] w fun e w' => e = .returned (.bool (decide (a ≤ u ∧ u < b))) ∧ w = w' := by
  go_enter Tryd.func67, Tryd.ntmps67
  go_wp2
  all_goals go_ret
  all_goals refine ⟨congrArg (fun z => Ending.returned (.bool z)) ?_, rfl⟩
  all_goals by_cases h1 : a ≤ u <;> by_cases h2 : u < b <;> simp [h1, h2] <;> omega

/-- How many bytes a unit has. -/
def sizeU (u : Int) : Int := if 1 ≤ u ∧ u < 128 then 1 else if 2048 ≤ u ∧ u < 65536 then 3 else 2
set_option maxHeartbeats 1000000 in
theorem unitSize (u : Int) (w : World) :
    Calls Tryd.prog 63 #[.int .i32 u] w fun e w' => e = .returned (.int .i64 (sizeU u)) ∧ Only (fun _ => False) w w' := by
  have hmf : ∀ (fn : Fn) (first cap : Array Value) (w : World), (Instr.makeFunc fn first cap).run Tryd.prog w = .ok (.func fn first cap) w := fun _ _ _ _ => rfl
  go_enter Tryd.func63, Tryd.ntmps63
  go_wp2
  all_goals go_ret
  all_goals refine ⟨congrArg (fun z => Ending.returned (.int .i64 z)) ?_, by repeat (first | exact Only.refl _ _ | apply Only.alloc)⟩
  all_goals unfold sizeU
  all_goals first | rw [if_pos (by omega)] | rw [if_neg (by omega), if_pos (by omega)] | rw [if_neg (by omega), if_neg (by omega)]
/-- What a byte begins with. -/
def leadU (c : Int) : Int := if c < 128 then c else if 192 ≤ c ∧ c < 224 then c - 192 else if 224 ≤ c ∧ c < 240 then c - 224 else 0
def leadN (c : Int) : Int := if c < 128 then 1 else if 192 ≤ c ∧ c < 224 then 2 else if 224 ≤ c ∧ c < 240 then 3 else 0
theorem i32_and63 {x : Int} (h₀ : 0 ≤ x) (h₁ : x < 2147483648) : bits .and .i32 x 63 = x % 64 := bits_mask .i32 31 (by decide) wraps_i32 6 (by decide) x h₀ h₁
theorem i32_and1023 {x : Int} (h₀ : 0 ≤ x) (h₁ : x < 2147483648) : bits .and .i32 x 1023 = x % 1024 := bits_mask .i32 31 (by decide) wraps_i32 10 (by decide) x h₀ h₁
theorem lowest (u : Int) (n : Nat) (w : World) (hn : n = 6 ∨ n = 10) (h0 : 0 ≤ u) (h1 : u ≤ 1114111) :
    Calls Tryd.prog 64 #[.int .i32 u, .int .i64 n] w fun e w' => e = .returned (.int .i32 (u % 2 ^ n)) ∧ w = w' := by
  rcases hn with rfl | rfl
  all_goals go_enter Tryd.func64, Tryd.ntmps64
  all_goals go_wp2
  all_goals go_ret
  all_goals refine ⟨congrArg (fun z => Ending.returned (.int .i32 z)) ?_, rfl⟩
  · exact (i32_and63 h0 (by omega))
  · exact (i32_and1023 h0 (by omega))
end Go.Proofs.YtodhdiccfobcfaaDoor
