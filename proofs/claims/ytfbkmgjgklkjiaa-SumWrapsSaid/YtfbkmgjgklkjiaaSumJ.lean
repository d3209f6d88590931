/- What stage 3's laws share: awake. No condition. -/
import Derived.Test.YtfbkmgjgklkjiaaSumA
import Derived.Test.YtfbkmgjgklkjiaaBig
import Derived.Lib.SlBytesConst
namespace Go.Proofs.Ytfbkmgjgklkjiaa
open Go.RowKit
set_option linter.unusedVariables false
set_option linter.unusedSimpArgs false

set_option maxRecDepth 100000 in
theorem crc_digits : crc [49, 50, 51, 52, 53, 54, 55, 56, 57] = 3421780262 := by decide +kernel

set_option maxHeartbeats 1000000 in
set_option maxRecDepth 100000 in
theorem awake (w : World) : Calls Try.prog 11 #[] w fun e w' => e = .returned (.bool true) ∧ Only (fun _ => False) w w' := by
  have hz : Bytish [49, 50, 51, 52, 53, 54, 55, 56, 57] := by
    intro z hz
    unfold IsByte
    simp only [List.mem_cons, List.mem_nil_iff, or_false] at hz
    omega
  have hb : Bytes (w.alloc (.cells #[.int .u8 49, .int .u8 50, .int .u8 51, .int .u8 52, .int .u8 53, .int .u8 54, .int .u8 55, .int .u8 56, .int .u8 57] 5 (9, 10))) (.slice (some ⟨w.heap.size, 0, none⟩) 9 9) [49, 50, 51, 52, 53, 54, 55, 56, 57] := by
    refine ⟨_, 9, rfl, by decide, by decide, (fun h => by cases h), hz, fun x hx j hj => ?_⟩
    cases hx
    rw [add_lit, cell_blk (heap_alloc_new w _), Nat.zero_add]
    simp only [List.length_cons, List.length_nil] at hj
    match j, hj with
    | 0, _ => rfl
    | 1, _ => rfl
    | 2, _ => rfl
    | 3, _ => rfl
    | 4, _ => rfl
    | 5, _ => rfl
    | 6, _ => rfl
    | 7, _ => rfl
    | 8, _ => rfl
    | n + 9, h => omega
  have hs := sumOf _ [49, 50, 51, 52, 53, 54, 55, 56, 57] _ hb (by decide)
  rw [crc_digits] at hs
  have Hs := Lib.hid hs
  have hcv := fun (w : World) (C : Array Value) (n c : Nat) => Lib.run_convert_bytes_const (P := Try.prog) w 22 5 C n c Try.underlying22 Try.underlying5
  clear hb hs hz
  go_enter Try.func11, Try.ntmps11
  go_wp2_with (first | (go_at_call 9; go_loud (refine (Hs.out).mono ?_); rintro e w1 ⟨rfl, ho⟩))

  go_ret
  exact ⟨rfl, ((Only.refl _ w).alloc _).trans ho (fun _ h => h.elim)⟩

end Go.Proofs.Ytfbkmgjgklkjiaa
