/- The law's own comparison of two lists of types: of equal ones it answers true. No condition. -/
import Derived.Test.YtadgbkjjeigpjaaKndT
import Derived.Deep.QuietTactic
import Derived.BigQuiet
namespace Go.Proofs.Ytadgbkjjeigpjaa
open Go.RowKit
set_option linter.unusedVariables false
set_option linter.unusedSimpArgs false

theorem neq_type10 (k : TypeV) (w : World) : (binOp .neq 59 (.agg #[.int .i64 k.k, .string k.name, .int .i64 k.dims, .int .i64 k.elem, .int .i64 k.at_]) (.agg #[.int .i64 k.k, .string k.name, .int .i64 k.dims, .int .i64 k.elem, .int .i64 k.at_])).run Try.prog w = .ok (.bool false) w := by
  have h := eql_type k k w
  rw [eqT_self] at h
  unfold valT at h
  rw [run_eql_struct] at h
  rw [run_neq_struct]
  generalize (Op.equalIn 10000 59 _ _).run Try.prog w = r at *
  cases r with
  | ok b w' =>
    simp only [Result.andThen, Result.ok.injEq, Value.bool.injEq] at h ⊢
    rw [h.1, h.2]
    exact ⟨rfl, rfl⟩
  | halt x w' => simp [Result.andThen] at h
end Go.Proofs.Ytadgbkjjeigpjaa
