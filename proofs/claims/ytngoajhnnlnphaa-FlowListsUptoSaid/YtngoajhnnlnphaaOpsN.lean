/- The document's own Decode of an instruction, at any place. No condition. -/
import Derived.Test.YtngoajhnnlnphaaOpsM
namespace Go.Proofs.Ytngoajhnnlnphaa
open Go.RowKit
set_option linter.unusedVariables false
set_option linter.unusedSimpArgs false

set_option maxHeartbeats 4000000 in
set_option maxRecDepth 100000 in
theorem refDecodeArg (ao : Option Addr) (len cap : Nat) (at_ : Int) (w : World) (h : at_ < 0 ∨ (len : Int) < at_) : Calls Try.prog 22 #[.slice ao len cap, .int .i64 at_] w fun e w' => e = .returned (.tuple #[valI zeroI, .int .i64 1]) ∧ Only (fun _ => False) w w' := by
  have hr0 := heap_alloc_new w (.cells #[.int .i64 0, .int .i64 0, .int .i64 0, .int .i64 0, .int .i64 0] 39)
  have ho1 := (Only.refl (fun _ => False) w).alloc (.cells #[.int .i64 0, .int .i64 0, .int .i64 0, .int .i64 0, .int .i64 0] 39)
  have HO1 := Lib.hid ho1
  have HR0 := Lib.hid hr0
  clear hr0 ho1
  rcases h with h | h
  · go_enter Try.func22, Try.ntmps22
    go_wp2
    exact bodyPost_ret (instr_result (i := zeroI) (b := w.heap.size) Try.results22 HR0.out rfl rfl) rfl ⟨rfl, HO1.out⟩
  · have h0 : ¬ at_ < 0 := by omega
    go_enter Try.func22, Try.ntmps22
    go_wp2
    exact bodyPost_ret (instr_result (i := zeroI) (b := w.heap.size) Try.results22 HR0.out rfl rfl) rfl ⟨rfl, HO1.out⟩
set_option maxHeartbeats 4000000 in
set_option maxRecDepth 100000 in
theorem refDecodeEnd (ao : Option Addr) (len cap : Nat) (w : World) : Calls Try.prog 22 #[.slice ao len cap, .int .i64 len] w fun e w' => e = .returned (.tuple #[valI zeroI, .int .i64 3]) ∧ Only (fun _ => False) w w' := by
  have hr0 := heap_alloc_new w (.cells #[.int .i64 0, .int .i64 0, .int .i64 0, .int .i64 0, .int .i64 0] 39)
  have ho1 := (Only.refl (fun _ => False) w).alloc (.cells #[.int .i64 0, .int .i64 0, .int .i64 0, .int .i64 0, .int .i64 0] 39)
  have HO1 := Lib.hid ho1
  have HR0 := Lib.hid hr0
  clear hr0 ho1
  go_enter Try.func22, Try.ntmps22
  go_wp2
  exact bodyPost_ret (instr_result (i := zeroI) (b := w.heap.size) Try.results22 HR0.out rfl rfl) rfl ⟨rfl, HO1.out⟩
theorem refDecode (v : Value) (zs : List Int) (at_ : Int) (w : World) (hb : Bytes w v zs) (hl : zs.length ≤ 140737488355328) :
    Calls Try.prog 22 #[v, .int .i64 at_] w fun e w' => e = .returned (.tuple #[valI (decZ zs at_).1, .int .i64 (decZ zs at_).2]) ∧ Only (fun _ => False) w w' := by
  obtain ⟨ao, cap, rfl, h1, h2, h3, h4, h5⟩ := id hb
  unfold maxLen at h2
  unfold decZ
  by_cases hat : at_ < 0 ∨ (zs.length : Int) < at_
  · rw [if_pos hat]
    exact refDecodeArg ao zs.length cap at_ w hat
  · rw [if_neg hat]
    obtain ⟨n, rfl⟩ := Int.eq_ofNat_of_zero_le (show 0 ≤ at_ by omega)
    rw [Int.toNat_natCast]
    by_cases hn : n = zs.length
    · subst hn
      rw [List.drop_length]
      exact refDecodeEnd ao zs.length cap w
    · have hlt : n < zs.length := by omega
      obtain ⟨g, o, rfl⟩ := hb.addr (by omega)
      exact refDecodeA g o cap zs n w hb hl hlt h1 h2
end Go.Proofs.Ytngoajhnnlnphaa
