import Derived.Test.YtgdgffnaknkbcaaGreatDoorMjClsJLpX
import Derived.Test.YtgdgffnaknkbcaaGreatDoorMjLpHLpI
namespace Go.Proofs.YtgdgffnaknkbcaaGreatDoor
open Go.RowKit
set_option linter.unusedVariables false
set_option linter.unusedSimpArgs false
theorem guard_mem : Tryz.prog.eqGuardType Tryz.prog.depth 34 = false := by kernel_rfl
theorem held_mem : Tryz.prog.stoodInHeld 34 = false := by kernel_rfl
theorem fields_mem : Tryz.prog.underlying 34 = some (.struct (Tryz.prog.fieldsOf 34)) := by kernel_rfl
theorem list_mem : (Tryz.prog.fieldsOf 34).toList.map (fun f => (f.name, f.type, f.offset)) = [("Class", 3, 0), ("Place", 3, 1), ("Desc", 9, 2), ("Static", 4, 3), ("Slot", 3, 4)] := by kernel_rfl
theorem eql_mem (m : MemV) (w : World) : (binOp .eql 34 (.agg #[.int .i64 m.cls, .int .i64 m.place, .string m.desc, .bool m.static, .int .i64 m.slot]) (.agg #[.int .i64 m.cls, .int .i64 m.place, .string m.desc, .bool m.static, .int .i64 m.slot])).run Tryz.prog w = .ok (.bool true) w := by
  rw [run_eql_struct, run_equalIn_agg w _ _ _ _ fields_mem held_mem]
  have h := list_mem
  generalize (Tryz.prog.fieldsOf 34).toList = l at *
  rcases l with _ | ⟨f0, _ | ⟨f1, _ | ⟨f2, _ | ⟨f3, _ | ⟨f4, _ | _⟩⟩⟩⟩⟩
  any_goals (simp at h; done)
  · simp only [List.map_cons, List.map_nil, List.cons.injEq, Prod.mk.injEq, and_true] at h
    obtain ⟨⟨a1, a2, a3⟩, ⟨b1, b2, b3⟩, ⟨c1, c2, c3⟩, ⟨d1, d2, d3⟩, e1, e2, e3⟩ := h
    obtain ⟨x0, x1, x2, x3, x4⟩ := m
    simp [Op.eqFields, a1, a2, a3, b1, b2, b3, c1, c2, c3, d1, d2, d3, e1, e2, e3, part, isAgg, run_underlying Tryz.underlying3, run_underlying Tryz.underlying9, run_underlying Tryz.underlying4, go_sem, run_equalIn_int w _ _ _ _ _ _ Tryz.underlying3, run_equalIn_string w _ _ _ _ Tryz.underlying9, run_equalIn_bool w _ _ _ _ Tryz.underlying4, Result.andThen]
theorem neq_mem (m : MemV) (w : World) : (binOp .neq 34 (.agg #[.int .i64 m.cls, .int .i64 m.place, .string m.desc, .bool m.static, .int .i64 m.slot]) (.agg #[.int .i64 m.cls, .int .i64 m.place, .string m.desc, .bool m.static, .int .i64 m.slot])).run Tryz.prog w = .ok (.bool false) w := by
  have h := eql_mem m w
  rw [run_eql_struct] at h
  rw [run_neq_struct]
  generalize (Op.equalIn 10000 34 _ _).run Tryz.prog w = r at *
  cases r with
  | ok b w' =>
    simp only [Result.andThen, Result.ok.injEq, Value.bool.injEq] at h ⊢
    rw [h.1, h.2]
    exact ⟨rfl, rfl⟩
  | halt x w' => simp [Result.andThen] at h
theorem subN_chain {ks : List KindV} {b : Int} : ∀ (f : Nat) (a : Int), a < ks.length → subN ks b f a = (chain ks f a).any (fun j => (j : Int) == b)
  | 0, a, _ => rfl
  | f + 1, a, ha => by
    rw [subN, chain_succ]
    by_cases h0 : a < 0
    · rw [if_pos h0, if_pos h0]; rfl
    · rw [if_neg h0, if_neg (by omega), if_neg h0, List.any_cons, subN_chain f _ (superZ_lt ks a)]
      have ht : ((a.toNat : Nat) : Int) = a := by omega
      rw [ht]
      by_cases hab : a = b
      · rw [if_pos hab, beq_iff_eq.2 hab, Bool.true_or]
      · rw [if_neg hab, beq_eq_false_iff_ne.2 hab, Bool.false_or]
end Go.Proofs.YtgdgffnaknkbcaaGreatDoor
