import Derived.Test.YtemplkpcckmcoaaGreatDoorMkLnkYLnkQ
import Derived.Test.YtemplkpcckmcoaaGreatDoorMkLpHLpI
import Derived.Test.YtemplkpcckmcoaaGreatDoorMkBigLnkH
import Derived.Deep.QuietTactic
import Derived.BigQuiet
namespace Go.Proofs.YtemplkpcckmcoaaGreatDoor
set_option maxHeartbeats 4000000
open Lib (hid)
open Go.RowKit
set_option linter.unusedVariables false
set_option linter.unusedSimpArgs false
theorem guard_mem : Tryz.prog.eqGuardType Tryz.prog.depth 65 = false := by kernel_rfl
theorem held_mem : Tryz.prog.stoodInHeld 65 = false := by kernel_rfl
theorem fields_mem : Tryz.prog.underlying 65 = some (.struct (Tryz.prog.fieldsOf 65)) := by kernel_rfl
theorem list_mem : (Tryz.prog.fieldsOf 65).toList.map (fun f => (f.name, f.type, f.offset)) = [("Class", 3, 0), ("Place", 3, 1), ("Desc", 9, 2), ("Static", 4, 3), ("Slot", 3, 4)] := by kernel_rfl
theorem eql_mem (m : MemV) (w : World) : (binOp .eql 65 (.agg #[.int .i64 m.cls, .int .i64 m.place, .string m.desc, .bool m.static, .int .i64 m.slot]) (.agg #[.int .i64 m.cls, .int .i64 m.place, .string m.desc, .bool m.static, .int .i64 m.slot])).run Tryz.prog w = .ok (.bool true) w := by
 rw [run_eql_struct, run_equalIn_agg w _ _ _ _ fields_mem held_mem]
 have h := list_mem
 generalize (Tryz.prog.fieldsOf 65).toList = l at *
 rcases l with _ | ⟨f0, _ | ⟨f1, _ | ⟨f2, _ | ⟨f3, _ | ⟨f4, _ | _⟩⟩⟩⟩⟩
 any_goals (simp at h; done)
 ·simp only [List.map_cons, List.map_nil, List.cons.injEq, Prod.mk.injEq, and_true] at h
  obtain ⟨⟨a1, a2, a3⟩, ⟨b1, b2, b3⟩, ⟨c1, c2, c3⟩, ⟨d1, d2, d3⟩, e1, e2, e3⟩ := h
  obtain ⟨x0, x1, x2, x3, x4⟩ := m
  simp [Op.eqFields, a1, a2, a3, b1, b2, b3, c1, c2, c3, d1, d2, d3, e1, e2, e3, part, isAgg, run_underlying Tryz.underlying3, run_underlying Tryz.underlying9, run_underlying Tryz.underlying4, go_sem, run_equalIn_int w _ _ _ _ _ _ Tryz.underlying3, run_equalIn_string w _ _ _ _ Tryz.underlying9, run_equalIn_bool w _ _ _ _ Tryz.underlying4, Result.andThen]
theorem neq_mem (m : MemV) (w : World) : (binOp .neq 65 (.agg #[.int .i64 m.cls, .int .i64 m.place, .string m.desc, .bool m.static, .int .i64 m.slot]) (.agg #[.int .i64 m.cls, .int .i64 m.place, .string m.desc, .bool m.static, .int .i64 m.slot])).run Tryz.prog w = .ok (.bool false) w := by
 have h := eql_mem m w
 rw [run_eql_struct] at h
 rw [run_neq_struct]
 generalize (Op.equalIn 10000 65 _ _).run Tryz.prog w = r at *
 cases r with
 | ok b w' =>
  simp only [Result.andThen, Result.ok.injEq, Value.bool.injEq] at h ⊢
  rw [h.1, h.2]
  exact ⟨rfl, rfl⟩
 | halt x w' => simp [Result.andThen] at h
theorem subN_chain {ks : List KindV} {b : Int} : ∀ (f : Nat) (a : Int), a < ks.length → subN ks b f a = (chain ks f a).any (fun j => (j : Int) == b)
 | 0, a, _ => rfl
 | f + 1, a, ha => by
  rw [subN, chain_succ]
  by_cases h0 : a < 0
  ·rw [if_pos h0, if_pos h0]; rfl
  ·rw [if_neg h0, if_neg (by omega), if_neg h0, List.any_cons, subN_chain f _ (superZ_lt ks a)]
   have ht : ((a.toNat : Nat) : Int) = a := by omega
   rw [ht]
   by_cases hab : a = b
   ·rw [if_pos hab, beq_iff_eq.2 hab, Bool.true_or]
   ·rw [if_neg hab, beq_eq_false_iff_ne.2 hab, Bool.false_or]
theorem neq_type9 (k : TypeV) (w : World) : (binOp .neq 117 (.agg #[.int .i64 k.k, .string k.name, .int .i64 k.dims, .int .i64 k.elem, .int .i64 k.at_]) (.agg #[.int .i64 k.k, .string k.name, .int .i64 k.dims, .int .i64 k.elem, .int .i64 k.at_])).run Tryz.prog w = .ok (.bool false) w := by
 have h := eql_type k k w
 rw [eqT_self] at h
 unfold valT at h
 rw [run_eql_struct] at h
 rw [run_neq_struct]
 generalize (Op.equalIn 10000 117 _ _).run Tryz.prog w = r at *
 cases r with
 | ok b w' =>
  simp only [Result.andThen, Result.ok.injEq, Value.bool.injEq] at h ⊢
  rw [h.1, h.2]
  exact ⟨rfl, rfl⟩
 | halt x w' => simp [Result.andThen] at h
set_option maxRecDepth 100000 in
theorem sameTy9 (v1 v2 : Value) (l : List TypeV) (w : World) (h1 : Types w v1 l) (h2 : Types w v2 l) (hn : l.length ≤ 9223372036854775806) :
  Calls Tryz.prog 24 #[v1, v2] w fun e w' => e = .returned (.bool true) ∧ Only (fun _ => False) w w' := by
 obtain ⟨a1, c1, rfl, p1, p2, p3, _⟩ := id h1
 obtain ⟨a2, c2, rfl, s1, s2, s3, _⟩ := id h2
 have H1 := hid h1
 have H2 := hid h2
 clear h1 h2 p3 s3
 go_enter Tryz.func24, Tryz.ntmps24
 go_wp2
 go_loopw [5] (fun i wr => ∃ j : Nat, i = .int .i64 j ∧ j ≤ l.length ∧ Only (fun _ => False) w wr) (fun i _ => l.length - (intOf i).toNat)
 case atStart => exact ⟨0, rfl, Nat.zero_le _, Only.refl _ _⟩
 case round =>
  obtain ⟨j, rfl, hj, hon⟩ := hrel
  have HON := hid hon
  by_cases hlt : j < l.length
  ·obtain ⟨b, o, rfl, x⟩ := Sl.at (H1.out.only hon) hlt
   obtain ⟨b2, o2, rfl, y⟩ := Sl.at (H2.out.only hon) hlt
   have hjz : (j : Int) < (l.length : Int) := by omega
   obtain ⟨x0, x1, x2, x3, x4⟩ := x
   obtain ⟨y0, y1, y2, y3, y4⟩ := y
   have n1 := neq_type9 (l.getD j default)
   have g1 := guard_type
   generalize l.getD j default = k at *
   clear hon
   go_wp2
   go_quiet (fail)
   go_wp2
   go_roundw
   case rel => exact ⟨j + 1, by go_num, by omega, HON.out.drewN _⟩
   case measure => simp [intOf]; omega
  ·obtain rfl : j = l.length := by omega
   clear hlt hj hon
   go_wp2
   go_ret
   exact ⟨rfl, HON.out⟩
end Go.Proofs.YtemplkpcckmcoaaGreatDoor
