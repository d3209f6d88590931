/- Spans of numbers as functions; how many bytes a unit has; a number's lowest bits. No condition. -/
import Derived.Test.YtodhdiccfobcfaaGreatDoorRows
import Derived.Test.YtodhdiccfobcfaaGreatDoorTxtP
import Derived.Test.YtodhdiccfobcfaaGreatDoorMem
import Derived.Deep.QuietTactic
import Derived.BigQuiet
namespace Go.Proofs.YtodhdiccfobcfaaGreatDoor
open Go.RowKit
set_option linter.unusedVariables false
set_option linter.unusedSimpArgs false


/-- A function that tells whether a number is one of those from a to (not with) b. -/
def Span (w : World) (v : Value) (a b : Int) : Prop :=
  ∃ p q, v = .func (.func 154) #[] #[.pointer (some ⟨p, 0, none⟩), .pointer (some ⟨q, 0, none⟩)] ∧ w.cell? ⟨p, 0, none⟩ = some (.int .i32 a) ∧ w.cell? ⟨q, 0, none⟩ = some (.int .i32 b)

theorem span (a b : Int) (w : World) :
    Calls Tryz.prog 150 #[.int .i32 a, .int .i32 b] w fun e w' => ∃ v, e = .returned v ∧ Span w' v a b ∧ Only (fun _ => False) w w' := by
  have hmf : ∀ (fn : Fn) (first cap : Array Value) (w : World), (Instr.makeFunc fn first cap).run Tryz.prog w = .ok (.func fn first cap) w := fun _ _ _ _ => rfl
  go_enter Tryz.func150, Tryz.ntmps150
  go_wp2
  go_ret
  exact ⟨_, rfl, ⟨_, _, rfl, by simp, by simp⟩, ((Only.refl _ _).alloc _).alloc _⟩
theorem inSpan (u a b : Int) (p q : Nat) (w : World) (hp : w.cell? ⟨p, 0, none⟩ = some (.int .i32 a)) (hq : w.cell? ⟨q, 0, none⟩ = some (.int .i32 b)) :
    Calls Tryz.prog 154 #[.int .i32 u, .pointer (some ⟨p, 0, none⟩), .pointer (some ⟨q, 0, none⟩)] w fun e w' => e = .returned (.bool (decide (a ≤ u ∧ u < b))) ∧ w = w' := by
  go_enter Tryz.func154, Tryz.ntmps154
  go_wp2
  all_goals go_ret
  all_goals refine ⟨congrArg (fun z => Ending.returned (.bool z)) ?_, rfl⟩
  all_goals by_cases h1 : a ≤ u <;> by_cases h2 : u < b <;> simp [h1, h2] <;> omega

/-- How many bytes a unit has. -/
def sizeU (u : Int) : Int := if 1 ≤ u ∧ u < 128 then 1 else if 2048 ≤ u ∧ u < 65536 then 3 else 2
set_option maxHeartbeats 1000000 in
theorem unitSize (u : Int) (w : World) :
    Calls Tryz.prog 139 #[.int .i32 u] w fun e w' => e = .returned (.int .i64 (sizeU u)) ∧ Only (fun _ => False) w w' := by
  have hmf : ∀ (fn : Fn) (first cap : Array Value) (w : World), (Instr.makeFunc fn first cap).run Tryz.prog w = .ok (.func fn first cap) w := fun _ _ _ _ => rfl
  go_enter Tryz.func139, Tryz.ntmps139
  go_wp2
  all_goals go_ret
  all_goals refine ⟨congrArg (fun z => Ending.returned (.int .i64 z)) ?_, by repeat (first | exact Only.refl _ _ | apply Only.alloc)⟩
  all_goals unfold sizeU
  all_goals first | rw [if_pos (by omega)] | rw [if_neg (by omega), if_pos (by omega)] | rw [if_neg (by omega), if_neg (by omega)]
/-- What a byte begins with. -/
def leadU (c : Int) : Int := if c < 128 then c else if 192 ≤ c ∧ c < 224 then c - 192 else if 224 ≤ c ∧ c < 240 then c - 224 else 0
def leadN (c : Int) : Int := if c < 128 then 1 else if 192 ≤ c ∧ c < 224 then 2 else if 224 ≤ c ∧ c < 240 then 3 else 0
set_option maxHeartbeats 1000000 in
theorem lead (c : Int) (w : World) (h0 : 0 ≤ c) (h1 : c < 256) :
    Calls Tryz.prog 161 #[.int .i32 c] w fun e w' => e = .returned (.tuple #[.int .i32 (leadU c), .int .i64 (leadN c)]) ∧ Only (fun _ => False) w w' := by
  have hmf : ∀ (fn : Fn) (first cap : Array Value) (w : World), (Instr.makeFunc fn first cap).run Tryz.prog w = .ok (.func fn first cap) w := fun _ _ _ _ => rfl
  have key : (c < 128 ∧ leadU c = c ∧ leadN c = 1) ∨ (192 ≤ c ∧ c < 224 ∧ leadU c = c - 192 ∧ leadN c = 2) ∨ (224 ≤ c ∧ c < 240 ∧ leadU c = c - 224 ∧ leadN c = 3) ∨ ((128 ≤ c ∧ c < 192 ∨ 240 ≤ c) ∧ leadU c = 0 ∧ leadN c = 0) := by
    unfold leadU leadN
    repeat' split
    all_goals omega
  rcases key with ⟨_, e1, e2⟩ | ⟨_, _, e1, e2⟩ | ⟨_, _, e1, e2⟩ | ⟨_, e1, e2⟩ <;> rw [e1, e2] <;> clear e1 e2
  all_goals go_enter Tryz.func161, Tryz.ntmps161
  all_goals go_wp2
  all_goals go_ret2
  all_goals first | (exfalso; omega) | skip
  all_goals refine ⟨rfl, by repeat (first | exact Only.refl _ _ | apply Only.alloc)⟩
theorem i32_and63 {x : Int} (h₀ : 0 ≤ x) (h₁ : x < 2147483648) : bits .and .i32 x 63 = x % 64 := bits_mask .i32 31 (by decide) wraps_i32 6 (by decide) x h₀ h₁
theorem i32_and1023 {x : Int} (h₀ : 0 ≤ x) (h₁ : x < 2147483648) : bits .and .i32 x 1023 = x % 1024 := bits_mask .i32 31 (by decide) wraps_i32 10 (by decide) x h₀ h₁
theorem lowest (u : Int) (n : Nat) (w : World) (hn : n = 6 ∨ n = 10) (h0 : 0 ≤ u) (h1 : u ≤ 1114111) :
    Calls Tryz.prog 140 #[.int .i32 u, .int .i64 n] w fun e w' => e = .returned (.int .i32 (u % 2 ^ n)) ∧ w = w' := by
  rcases hn with rfl | rfl
  all_goals go_enter Tryz.func140, Tryz.ntmps140
  all_goals go_wp2
  all_goals go_ret
  all_goals refine ⟨congrArg (fun z => Ending.returned (.int .i32 z)) ?_, rfl⟩
  · exact (i32_and63 h0 (by omega))
  · exact (i32_and1023 h0 (by omega))
end Go.Proofs.YtodhdiccfobcfaaGreatDoor
