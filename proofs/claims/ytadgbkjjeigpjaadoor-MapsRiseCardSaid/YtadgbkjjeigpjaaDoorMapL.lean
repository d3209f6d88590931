/- The law's own comparison of two lists of types: of equal ones it answers true. No condition. -/
import Derived.Test.YtadgbkjjeigpjaaDoorKndT
import Derived.Deep.QuietTactic
import Derived.BigQuiet
namespace Go.Proofs.YtadgbkjjeigpjaaDoor
open Go.RowKit
set_option linter.unusedVariables false
set_option linter.unusedSimpArgs false

theorem neq_type10 (k : TypeV) (w : World) : (binOp .neq 39 (.agg #[.int .i64 k.k, .string k.name, .int .i64 k.dims, .int .i64 k.elem, .int .i64 k.at_]) (.agg #[.int .i64 k.k, .string k.name, .int .i64 k.dims, .int .i64 k.elem, .int .i64 k.at_])).run Tryd.prog w = .ok (.bool false) w := by
  have h := eql_type k k w
  rw [eqT_self] at h
  unfold valT at h
  rw [run_eql_struct] at h
  rw [run_neq_struct]
  generalize (Op.equalIn 10000 39 _ _).run Tryd.prog w = r at *
  cases r with
  | ok b w' =>
    simp only [Result.andThen, Result.ok.injEq, Value.bool.injEq] at h ⊢
    rw [h.1, h.2]
    exact ⟨rfl, rfl⟩
  | halt x w' => simp [Result.andThen] at h
set_option maxHeartbeats 4000000 in
set_option maxRecDepth 100000 in
theorem sameTy10 (v1 v2 : Value) (l : List TypeV) (w : World) (h1 : Types w v1 l) (h2 : Types w v2 l) (hn : l.length ≤ 9223372036854775806) :
    Calls Tryd.prog 18 #[v1, v2] w fun e w' => e = .returned (.bool true) ∧ Only (fun _ => False) w w' := by
  obtain ⟨a1, c1, rfl, p1, p2, p3, _⟩ := id h1
  obtain ⟨a2, c2, rfl, s1, s2, s3, _⟩ := id h2
  have H1 := Lib.hid h1
  have H2 := Lib.hid h2
  clear h1 h2 p3 s3
  go_enter Tryd.func18, Tryd.ntmps18
  go_wp2
  go_loopw [5] (fun i wr => ∃ j : Nat, i = .int .i64 j ∧ j ≤ l.length ∧ Only (fun _ => False) w wr) (fun i _ => l.length - (intOf i).toNat)
  case atStart => exact ⟨0, rfl, Nat.zero_le _, Only.refl _ _⟩
  case round =>
    obtain ⟨j, rfl, hj, hon⟩ := hrel
    have HON := Lib.hid hon
    by_cases hlt : j < l.length
    · obtain ⟨b, o, rfl, x⟩ := Sl.at (H1.out.only hon) hlt
      obtain ⟨b2, o2, rfl, y⟩ := Sl.at (H2.out.only hon) hlt
      have hjz : (j : Int) < (l.length : Int) := by omega
      obtain ⟨x0, x1, x2, x3, x4⟩ := x
      obtain ⟨y0, y1, y2, y3, y4⟩ := y
      have n1 := neq_type10 (l.getD j default)
      have g1 := guard_type
      generalize l.getD j default = k at *
      clear hon
      go_wp2
      go_quiet (fail)
      go_wp2
      go_roundw
      case rel => exact ⟨j + 1, by go_num, by omega, HON.out.drewN _⟩
      case measure => simp [intOf]; omega
    · obtain rfl : j = l.length := by omega
      clear hlt hj hon
      go_wp2
      go_ret
      exact ⟨rfl, HON.out⟩
end Go.Proofs.YtadgbkjjeigpjaaDoor
