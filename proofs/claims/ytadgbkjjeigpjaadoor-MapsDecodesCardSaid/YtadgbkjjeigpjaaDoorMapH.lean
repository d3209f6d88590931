/- The program's recovery: what answers what is read, or the error with which the reading was left. No condition. -/
import Derived.WalkLawsBesides
import Derived.Defers
import Derived.Recover
import Derived.Test.YtadgbkjjeigpjaaDoorMapP
namespace Go.Proofs.YtadgbkjjeigpjaaDoor
open Go.RowKit
set_option linter.unusedVariables false
set_option linter.unusedSimpArgs false

set_option maxHeartbeats 1000000 in
set_option maxRecDepth 100000 in
theorem mCatchIdle (p : Addr) (w : World) :
    CallsD Tryd.prog 28 #[.pointer (some p)] .returning w fun e u' w' => e = .returned (.tuple #[]) ∧ u' = .returning ∧ w' = w := by
  refine callsD_of_wpS Tryd.func28 rfl fun c₀ cs hu => ?_
  apply wpS_seq
  apply wpS_region
  simp [wpOpsS, go_sem, recoverD, hu, Tryd.ntmps28, Exit.thenS]
  refine wpS_of_wp ?_
  go_wp2
  cases c₀
  simp_all [bodyPostS, results, Tryd.results28]
theorem run_assert_errno1 (xT : TypeId) (z : Int) (w : World) : (Instr.typeAssert (.iface 25 (.int .i64 z)) xT 25 false).run Tryd.prog w = .ok (.int .i64 z) w := by
  simp [Instr.typeAssert, run_underlying Tryd.underlying25, go_sem, Result.andThen]
set_option maxHeartbeats 1000000 in
set_option maxRecDepth 100000 in
theorem mCatchPan (p : Addr) (z : Int) (x : Value) (w : World) (hc : w.cell? p = some x) (hz : w.frozen? p = false) :
    CallsD Tryd.prog 28 #[.pointer (some p)] (.panicking [{ v := .iface 25 (.int .i64 z), recovered := false }]) w fun e u' w' =>
      e = .returned (.tuple #[]) ∧ u' = .panicking [{ v := .iface 25 (.int .i64 z), recovered := true }] ∧ w' = w.setCell p (.int .i64 z) := by
  refine callsD_of_wpS Tryd.func28 rfl fun c₀ cs hu => ?_
  apply wpS_seq
  apply wpS_region
  simp [wpOpsS, go_sem, recoverD, hu, Tryd.ntmps28, Exit.thenS]
  refine wpS_of_wp ?_
  have hta := fun xT w => run_assert_errno1 xT z w
  go_wp2
  cases c₀
  simp_all [bodyPostS, results, Tryd.results28]
set_option maxHeartbeats 1000000 in
set_option maxRecDepth 100000 in
theorem mUnless (n : FuncId) (hn : Enters Tryd.prog n) (first : Array Value) (w : World) (Q : Value → World → Prop) (P : Int → World → Prop)
    (h : Calls Tryd.prog n first (w.alloc (.cells #[.int .i64 0] 25)) fun e w1 => (∃ x m c, e = .returned (.slice x m c) ∧ Q (.slice x m c) w1) ∨ (∃ z, e = pan z ∧ P z w1))
    (hq : ∀ v w1, Q v w1 → w1.heap[w.heap.size]? = some (.cells #[.int .i64 0] 25 (0, 0)))
    (hp : ∀ z w1, P z w1 → w1.heap[w.heap.size]? = some (.cells #[.int .i64 0] 25 (0, 0))) :
    Calls Tryd.prog 11 #[.func (.func n) first #[]] w fun e w' =>
      (∃ v w1, e = .returned (.tuple #[v, .int .i64 0]) ∧ Q v w1 ∧ w' = w1.setCell ⟨w.heap.size, 0, none⟩ (.int .i64 0)) ∨ (∃ z w1, e = .returned (.tuple #[.slice none 0 0, .int .i64 z]) ∧ P z w1 ∧ w' = w1.setCell ⟨w.heap.size, 0, none⟩ (.int .i64 z)) := by
  have hmf : ∀ (fn : Fn) (first cap : Array Value) (w : World), (Instr.makeFunc fn first cap).run Tryd.prog w = .ok (.func fn first cap) w := fun _ _ _ _ => rfl
  have hen : ∀ args w, (callFunc n args).run Tryd.prog w = .ok (.enter n args) w := hn
  have H := Lib.hid h
  have HQ := Lib.hid hq
  have HP := Lib.hid hp
  clear h hq hp
  go_enter_defers Tryd.func11, Tryd.ntmps11
  go_wp2_with (fail)
  refine H.out.mono ?_
  rintro e w1 (⟨x, m, c, rfl, hq⟩ | ⟨z, rfl, hq⟩)
  · have hb := HQ.out _ _ hq
    have q0 := cell_blk hb 0
    have f0 := frozen_blk hb 0
    simp at q0
    go_wp2
    refine leaves_cons (f := 28) (args := #[.pointer (some ⟨w.heap.size, 0, none⟩)]) (by simp) (by simp [go_sem]) ?_
    refine (mCatchIdle ⟨w.heap.size, 0, none⟩ _).mono ?_
    rintro e u' w'' ⟨rfl, rfl, rfl⟩
    show Leaves _ _ _ _ [] .returning _
    refine ⟨.tuple #[.slice x m c, .int .i64 0], ?_, .inl ⟨_, w1, rfl, hq, rfl⟩⟩
    simp [results, Tryd.results11, go_sem, q0, f0]
  · have hb := HP.out _ _ hq
    have q0 := cell_blk hb 0
    have f0 := frozen_blk hb 0
    simp at q0
    show Leaves _ _ _ _ [_] (.panicking _) _
    refine leaves_cons (f := 28) (args := #[.pointer (some ⟨w.heap.size, 0, none⟩)]) (by simp) (by simp [go_sem]) ?_
    refine (mCatchPan ⟨w.heap.size, 0, none⟩ z _ _ q0 f0).mono ?_
    rintro e u' w'' ⟨rfl, rfl, rfl⟩
    show Leaves _ _ _ _ [] .returning _
    refine ⟨.tuple #[.slice none 0 0, .int .i64 z], ?_, .inr ⟨z, w1, rfl, hq, rfl⟩⟩
    simp [results, Tryd.results11, go_sem, q0, f0]
end Go.Proofs.YtadgbkjjeigpjaaDoor
