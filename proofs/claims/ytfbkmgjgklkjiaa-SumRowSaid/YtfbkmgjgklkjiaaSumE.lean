/- errors.Is over what package sum wraps: a fault that wraps a number of api.Errno, or no error. No condition. -/
import Derived.Test.YtfbkmgjgklkjiaaSumA
import Derived.Lib.IfaceEq
import Derived.Stop.Asserts
import Derived.LaidEql
import Derived.RowKitTokens
namespace Go.Proofs.Ytfbkmgjgklkjiaa
open Go.RowKit Go.Extern.Stop Go.Stop Go.Extern
set_option linter.unusedVariables false
set_option linter.unusedSimpArgs false

theorem isTypeOf (v : Value) (w : World) : (Extern.ReflectliteType.typeOf #[.iface 27 v]).run Try.prog w = .ok (.iface 83 (.agg #[.pointer (some ⟨0, 27, none⟩)])) w := by kernel_rfl
def cmpE : Array Value → Sem Value := Extern.ReflectliteType.method fun t => do Extern.Rtype.noPackHeld "Comparable" t; pure (.bool (← typeInfo t).comparable)
theorem isComparable (w : World) : (cmpE #[.agg #[.pointer (some ⟨0, 27, none⟩)]]).run Try.prog w = .ok (.bool true) w := by kernel_rfl
theorem isMethodComparable (n : Nat) (v : Value) (w : World) : (Go.method (n + 1) 83 v "Comparable").run Try.prog w = .ok (71, v) w := by kernel_rfl
theorem isComp : (Try.prog.info? 27).map (·.comparable) = some true := by kernel_rfl
theorem noIsE (v : Value) (xT : TypeId) (w : World) : (Instr.typeAssert (.iface 27 v) xT 85 true).run Try.prog w = .ok (.tuple #[.nilIface, .bool false]) w := run_typeAssert_lacksB Try.underlying85 (by kernel_rfl) (by kernel_rfl) v xT w
theorem noUnwrapE (v : Value) (xT : TypeId) (w : World) : (Instr.typeAssert (.iface 27 v) xT 88 true).run Try.prog w = .ok (.tuple #[.nilIface, .bool false]) w := run_typeAssert_lacksB Try.underlying88 (by kernel_rfl) (by kernel_rfl) v xT w
theorem noUnwrapsE (v : Value) (xT : TypeId) (w : World) : (Instr.typeAssert (.iface 27 v) xT 90 true).run Try.prog w = .ok (.tuple #[.nilIface, .bool false]) w := run_typeAssert_lacksB Try.underlying90 (by kernel_rfl) (by kernel_rfl) v xT w
theorem noIsF (v : Value) (xT : TypeId) (w : World) : (Instr.typeAssert (.iface 57 v) xT 85 true).run Try.prog w = .ok (.tuple #[.nilIface, .bool false]) w := run_typeAssert_lacksB Try.underlying85 (by kernel_rfl) (by kernel_rfl) v xT w
theorem hasUnwrapF (v : Value) (xT : TypeId) (w : World) : (Instr.typeAssert (.iface 57 v) xT 88 true).run Try.prog w = .ok (.tuple #[.iface 57 v, .bool true]) w := run_typeAssert_hasB Try.underlying88 (by kernel_rfl) v xT w
theorem methodUnwrap (n : Nat) (v : Value) (w : World) : (Go.method (n + 1) 57 v "Unwrap").run Try.prog w = .ok (65, v) w := by kernel_rfl
/-- A fault, as an error. -/
def faultV (p : ByteArray) (k : Int) : Value := .iface 57 (.agg #[.string p, .int .i64 k])

set_option maxHeartbeats 1000000 in
theorem isFault (p : ByteArray) (k t : Int) (w : World) :
    Calls Try.prog 26 #[.iface 57 (.agg #[.string p, .int .i64 k]), .iface 27 (.int .i64 t)] w fun e w' => e = .returned (.bool (k == t)) ∧ Only (fun _ => False) w w' := by
  have h8 := @run_callFunc_extern Try.prog 35 _ Extern.ReflectliteType.typeOf Try.func35 (by kernel_rfl) (by kernel_rfl) (by kernel_rfl) (by kernel_rfl)
  have h32 := @run_callFunc_extern Try.prog 71 _ cmpE Try.func71 (by kernel_rfl) (by kernel_rfl) (by kernel_rfl) (by kernel_rfl)
  have tT := isTypeOf
  have cT := isComparable
  have mR := isMethodComparable
  have nE := noIsE
  have uE := noUnwrapE
  have vE := noUnwrapsE
  have nF := noIsF
  have uF := hasUnwrapF
  have mU := methodUnwrap
  have hty := fun w => run_eql_iface_types (P := Try.prog) 57 27 (.agg #[.string p, .int .i64 k]) (.int .i64 t) Try.underlying45 (by decide) w
  have heq := fun w => Lib.run_eql_iface_int (P := Try.prog) w (tx := 27) (k := .i64) k t Try.underlying45 isComp Try.underlying27
  go_enter Try.func26, Try.ntmps26
  go_wp2
  refine wp_loop_rounds 2 ?_
  rw [rounds_succ]
  go_wp2
  rw [rounds_succ]
  go_wp2
  all_goals
    go_ret
    rename_i hkt
    exact ⟨by rw [hkt]; rfl, (Only.refl _ _).alloc _⟩

theorem isFaultT (p : ByteArray) (k : Int) (w : World) :
    Calls Try.prog 26 #[.iface 57 (.agg #[.string p, .int .i64 k]), .iface 27 (.int .i64 k)] w fun e w' => e = .returned (.bool true) ∧ Only (fun _ => False) w w' :=
  (isFault p k k w).mono fun e w' h => ⟨by rw [h.1]; simp, h.2⟩
theorem isFaultF (p : ByteArray) (k t : Int) (hk : k ≠ t) (w : World) :
    Calls Try.prog 26 #[.iface 57 (.agg #[.string p, .int .i64 k]), .iface 27 (.int .i64 t)] w fun e w' => e = .returned (.bool false) ∧ Only (fun _ => False) w w' :=
  (isFault p k t w).mono fun e w' h => ⟨by rw [h.1, beq_eq_false_iff_ne.2 hk], h.2⟩

set_option maxHeartbeats 1000000 in
theorem isNil (t : Int) (w : World) :
    Calls Try.prog 26 #[.nilIface, .iface 27 (.int .i64 t)] w fun e w' => e = .returned (.bool false) ∧ w = w' := by
  have hn := fun w => run_eql_iface_nil_left (P := Try.prog) w 27 (.int .i64 t) Try.underlying45
  go_enter Try.func26, Try.ntmps26
  go_wp2
  go_ret
  exact ⟨rfl, rfl⟩

set_option maxHeartbeats 1000000 in
theorem whichNil (w : World) :
    Calls Try.prog 18 #[.nilIface] w fun e w' => e = .returned (.int .i64 0) ∧ Only (fun _ => False) w w' := by
  go_enter Try.func18, Try.ntmps18
  go_wp2
  refine wp_loop_rounds 4 ?_
  rw [rounds_succ]
  go_wp2_with (go_at_call 26; refine (isNil _ _).mono ?_; rintro e w1 ⟨rfl, rfl⟩)
  rw [rounds_succ]
  go_wp2_with (go_at_call 26; refine (isNil _ _).mono ?_; rintro e w1 ⟨rfl, rfl⟩)
  rw [rounds_succ]
  go_wp2_with (go_at_call 26; refine (isNil _ _).mono ?_; rintro e w1 ⟨rfl, rfl⟩)
  rw [rounds_succ]
  go_wp2
  go_ret
  exact ⟨rfl, (Only.refl _ _).alloc _⟩

set_option maxHeartbeats 1000000 in
theorem whichFault (p : ByteArray) (k : Int) (hk : k = 3 ∨ k = 2 ∨ k = 30) (w : World) :
    Calls Try.prog 18 #[.iface 57 (.agg #[.string p, .int .i64 k])] w fun e w' => e = .returned (.int .i64 k) ∧ Only (fun _ => False) w w' := by
  have ho0 : Only (fun _ => False) w (w.alloc (.cells #[.int .i64 3, .int .i64 2, .int .i64 30] 27)) := (Only.refl _ _).alloc _
  have hC : ∀ w', Only (fun _ => False) (w.alloc (.cells #[.int .i64 3, .int .i64 2, .int .i64 30] 27)) w' → w'.cell? ⟨w.heap.size, 1, none⟩ = some (.int .i64 2) ∧ w'.cell? ⟨w.heap.size, 2, none⟩ = some (.int .i64 30) := fun w' h =>
    ⟨h.cell (by rw [cell_blk (heap_alloc_new w _)]; rfl) (fun h => h), h.cell (by rw [cell_blk (heap_alloc_new w _)]; rfl) (fun h => h)⟩
  have Ho0 := Lib.hid ho0
  have HC := Lib.hid hC
  clear ho0 hC
  rcases hk with rfl | rfl | rfl
  · go_enter Try.func18, Try.ntmps18
    go_wp2
    refine wp_loop_rounds 3 ?_
    rw [rounds_succ]
    go_wp2_with (go_at_call 26; refine (isFaultT p 3 _).mono ?_; rintro e w1 ⟨rfl, ho1⟩)
    go_ret
    exact ⟨rfl, Ho0.out.trans ho1 (fun _ h => h.elim)⟩
  · go_enter Try.func18, Try.ntmps18
    go_wp2
    refine wp_loop_rounds 3 ?_
    rw [rounds_succ]
    go_wp2_with (go_at_call 26; refine (isFaultF p 2 _ (by decide) _).mono ?_; rintro e w1 ⟨rfl, ho1⟩)
    obtain ⟨c1, c2⟩ := HC.out _ ho1
    rw [rounds_succ]
    go_wp2_with (go_at_call 26; refine (isFaultT p 2 _).mono ?_; rintro e w2 ⟨rfl, ho2⟩)
    go_ret
    exact ⟨rfl, (Ho0.out.trans ho1 (fun _ h => h.elim)).trans ho2 (fun _ h => h.elim)⟩
  · go_enter Try.func18, Try.ntmps18
    go_wp2
    refine wp_loop_rounds 3 ?_
    rw [rounds_succ]
    go_wp2_with (go_at_call 26; refine (isFaultF p 30 _ (by decide) _).mono ?_; rintro e w1 ⟨rfl, ho1⟩)
    obtain ⟨c1, c2⟩ := HC.out _ ho1
    rw [rounds_succ]
    go_wp2_with (go_at_call 26; refine (isFaultF p 30 _ (by decide) _).mono ?_; rintro e w2 ⟨rfl, ho2⟩)
    have ho12 := ho1.trans ho2 (fun _ h => h.elim)
    obtain ⟨d1, d2⟩ := HC.out _ ho12
    rw [rounds_succ]
    go_wp2_with (go_at_call 26; refine (isFaultT p 30 _).mono ?_; rintro e w3 ⟨rfl, ho3⟩)
    go_ret
    exact ⟨rfl, (Ho0.out.trans ho12 (fun _ h => h.elim)).trans ho3 (fun _ h => h.elim)⟩
end Go.Proofs.Ytfbkmgjgklkjiaa
