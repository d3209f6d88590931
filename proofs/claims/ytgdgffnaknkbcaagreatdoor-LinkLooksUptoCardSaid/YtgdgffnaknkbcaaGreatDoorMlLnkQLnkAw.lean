import Derived.Test.YtgdgffnaknkbcaaGreatDoorMlClsHLpTc
import Derived.Test.YtgdgffnaknkbcaaGreatDoorMlLpKLpL
import Derived.Test.YtgdgffnaknkbcaaGreatDoorMlLpHLpI
import Derived.Test.YtgdgffnaknkbcaaGreatDoorMlLpJ
namespace Go.Proofs.YtgdgffnaknkbcaaGreatDoor
open Go.RowKit
set_option linter.unusedVariables false
set_option linter.unusedSimpArgs false
theorem tops_mem {ks : List KindV} (he : EndsAll ks) : ∀ (f : Nat) (x : Nat), x < ks.length → topsF ks f (x : Int) = true → 0 ∈ upZ ks (x : Int)
 | 0, x, _, h => by cases h
 | f + 1, x, hx, h => by
  rw [upZ_step he hx]
  by_cases h0 : x = 0
  ·subst h0; exact List.mem_cons_self ..
  rw [topsF, if_neg (by omega)] at h
  rcases superZ_cases ks (x : Int) with e | ⟨i, hi, e⟩
  ·rw [e, if_pos (by decide)] at h; cases h
  ·rw [e] at h ⊢
   rw [if_neg (by omega)] at h
   split at h
   ·cases h
   ·exact List.mem_cons_of_mem _ (tops_mem he f i hi h)
theorem below_up {ks : List KindV} (he : EndsAll ks) (hon : NamesOnce ks) (hroot : findZ ks (ks.getD 0 default).super = -1) {b : Nat} (hb : b < ks.length) : ∀ (n a : Nat), a < ks.length → (upZ ks (a : Int)).length ≤ n + 1 → (belowN (treeZ ks) (ks.getD b default).name n (ks.getD a default).name = true ↔ b ∈ upZ ks (a : Int))
 | n, a, ha, hn => by
  have hst := upZ_step he ha
  have hpa : pairOf (treeZ ks) (ks.getD a default).name = (a : Int) := hon a ha
  have hpb : findZ ks (ks.getD b default).name = (b : Int) := hon b hb
  rw [hst] at hn ⊢
  by_cases hab : a = b
  ·subst hab
   rw [belowN_same]
   simp
  have hne : (ks.getD a default).name ≠ (ks.getD b default).name := fun e => by
   have h1 := hon a ha
   rw [e, hpb] at h1
   omega
  have hsu : superZ ks (a : Int) = findZ ks (ks.getD a default).super := by
   by_cases h0 : a = 0
   ·subst h0; rw [hroot]; exact super_zero ks
   ·exact super_list (by omega) ha
  have hmem : b ∈ a :: upZ ks (superZ ks (a : Int)) ↔ b ∈ upZ ks (superZ ks (a : Int)) := by
   rw [List.mem_cons]
   exact ⟨fun h => h.resolve_left (fun e => hab e.symm), .inr⟩
  rw [hmem]
  rcases findZ_cases ks (ks.getD a default).super with e | ⟨i, hi, e⟩
  ·rw [hsu, e, upZ_end (by decide)]
   have hso : (ks.getD a default).super ≠ (ks.getD b default).name := fun h => by rw [h, hpb] at e; omega
   cases n with
   | zero => rw [belowN_last hne]; simp
   | succ n =>
    rw [belowN_step hne hpa, treeZ_at ha, show (PairV.super ⟨(ks.getD a default).name, (ks.getD a default).super⟩) = (ks.getD a default).super from rfl, belowN_none hso e]
    simp
  ·have hh := find_hit e
   rw [hsu, e] at hn ⊢
   cases n with
   | zero =>
    rw [upZ_step he hi] at hn
    simp at hn
   | succ n =>
    rw [belowN_step hne hpa, treeZ_at ha, show (PairV.super ⟨(ks.getD a default).name, (ks.getD a default).super⟩) = (ks.getD a default).super from rfl, ← hh.2]
    exact below_up he hon hroot hb n i hi (by simpa using hn)
section
variable {cs : List ClassV} (h0 : ∀ c ∈ cs, clsZ c = 0) (hl : cs.length ≤ 16) (hR : RightK (kindsZ cs))
include h0 hl hR
end
theorem guard_mem : Tryz.prog.eqGuardType Tryz.prog.depth 34 = false := by kernel_rfl
theorem held_mem : Tryz.prog.stoodInHeld 34 = false := by kernel_rfl
theorem fields_mem : Tryz.prog.underlying 34 = some (.struct (Tryz.prog.fieldsOf 34)) := by kernel_rfl
theorem list_mem : (Tryz.prog.fieldsOf 34).toList.map (fun f => (f.name, f.type, f.offset)) = [("Class", 3, 0), ("Place", 3, 1), ("Desc", 9, 2), ("Static", 4, 3), ("Slot", 3, 4)] := by kernel_rfl
theorem eql_mem (m : MemV) (w : World) : (binOp .eql 34 (.agg #[.int .i64 m.cls, .int .i64 m.place, .string m.desc, .bool m.static, .int .i64 m.slot]) (.agg #[.int .i64 m.cls, .int .i64 m.place, .string m.desc, .bool m.static, .int .i64 m.slot])).run Tryz.prog w = .ok (.bool true) w := by
 rw [run_eql_struct, run_equalIn_agg w _ _ _ _ fields_mem held_mem]
 have h := list_mem
 generalize (Tryz.prog.fieldsOf 34).toList = l at *
 rcases l with _ | ⟨f0, _ | ⟨f1, _ | ⟨f2, _ | ⟨f3, _ | ⟨f4, _ | _⟩⟩⟩⟩⟩
 any_goals (simp at h; done)
 ·simp only [List.map_cons, List.map_nil, List.cons.injEq, Prod.mk.injEq, and_true] at h
  obtain ⟨⟨a1, a2, a3⟩, ⟨b1, b2, b3⟩, ⟨c1, c2, c3⟩, ⟨d1, d2, d3⟩, e1, e2, e3⟩ := h
  obtain ⟨x0, x1, x2, x3, x4⟩ := m
  simp [Op.eqFields, a1, a2, a3, b1, b2, b3, c1, c2, c3, d1, d2, d3, e1, e2, e3, part, isAgg, run_underlying Tryz.underlying3, run_underlying Tryz.underlying9, run_underlying Tryz.underlying4, go_sem, run_equalIn_int w _ _ _ _ _ _ Tryz.underlying3, run_equalIn_string w _ _ _ _ Tryz.underlying9, run_equalIn_bool w _ _ _ _ Tryz.underlying4, Result.andThen]
theorem neq_mem (m : MemV) (w : World) : (binOp .neq 34 (.agg #[.int .i64 m.cls, .int .i64 m.place, .string m.desc, .bool m.static, .int .i64 m.slot]) (.agg #[.int .i64 m.cls, .int .i64 m.place, .string m.desc, .bool m.static, .int .i64 m.slot])).run Tryz.prog w = .ok (.bool false) w := by
 have h := eql_mem m w
 rw [run_eql_struct] at h
 rw [run_neq_struct]
 generalize (Op.equalIn 10000 34 _ _).run Tryz.prog w = r at *
 cases r with
 | ok b w' =>
  simp only [Result.andThen, Result.ok.injEq, Value.bool.injEq] at h ⊢
  rw [h.1, h.2]
  exact ⟨rfl, rfl⟩
 | halt x w' => simp [Result.andThen] at h
theorem subN_chain {ks : List KindV} {b : Int} : ∀ (f : Nat) (a : Int), a < ks.length → subN ks b f a = (chain ks f a).any (fun j => (j : Int) == b)
 | 0, a, _ => rfl
 | f + 1, a, ha => by
  rw [subN, chain_succ]
  by_cases h0 : a < 0
  ·rw [if_pos h0, if_pos h0]; rfl
  ·rw [if_neg h0, if_neg (by omega), if_neg h0, List.any_cons, subN_chain f _ (superZ_lt ks a)]
   have ht : ((a.toNat : Nat) : Int) = a := by omega
   rw [ht]
   by_cases hab : a = b
   ·rw [if_pos hab, beq_iff_eq.2 hab, Bool.true_or]
   ·rw [if_neg hab, beq_eq_false_iff_ne.2 hab, Bool.false_or]
theorem sub_same {ks : List KindV} (he : EndsAll ks) (a b : Int) : subP ks a b = subZ ks a b := by
 unfold subP subZ
 by_cases hb0 : b < 0
 ·rw [if_pos hb0, List.any_eq_false]
  intro j hj h
  rw [beq_iff_eq] at h
  omega
 rw [if_neg hb0]
 by_cases hbl : (ks.length : Int) ≤ b
 ·rw [if_pos hbl, List.any_eq_false]
  intro j hj h
  rw [beq_iff_eq] at h
  have := seqX_lt he _ _ rfl j hj
  omega
 rw [if_neg hbl]
 by_cases ha : (ks.length : Int) ≤ a
 ·rw [seqX_out ha, subN, if_neg (by omega), if_pos ha]; rfl
 ·rw [seqX_in (by omega), subN_chain _ a (by omega)]
  rfl
theorem field_same (ks : List KindV) (c n d : ByteArray) : fieldP ks (fun a p => (slotAt ks a p : Int)) c n d = docField ks c n d := rfl
theorem awake9 (w : World) : Calls Tryz.prog 12 #[] w fun e w' => e = .returned (.bool true) ∧ Only (fun _ => False) w w' := by
 have C := Lib.hid (pBuilt w)
 go_enter Tryz.func12, Tryz.ntmps12
 go_wp2_with (fail)
 refine C.out.mono ?_
 rintro e w1 ⟨rfl, ho⟩
 have HO := Lib.hid ho
 clear ho
 go_wp2
 go_ret
 exact ⟨rfl, HO.out⟩
end Go.Proofs.YtgdgffnaknkbcaaGreatDoor
