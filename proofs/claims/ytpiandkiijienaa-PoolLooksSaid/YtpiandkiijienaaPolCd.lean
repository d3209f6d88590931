/- What stage 4's laws share: the same constants; awake. No condition. -/
import Derived.Test.YtpiandkiijienaaPolM
import Derived.Deep.QuietTactic
import Derived.BigQuiet
namespace Go.Proofs.Ytpiandkiijienaa
open Go.RowKit
set_option linter.unusedVariables false
set_option linter.unusedSimpArgs false

set_option maxHeartbeats 4000000 in
set_option maxRecDepth 100000 in
theorem awake (w : World) : Calls Try.prog 10 #[] w fun e w' => e = .returned (.bool true) ∧ Only (fun _ => False) w w' := by
  have hp : Pool (w.alloc (.cells #[.int .i64 0, .string ⟨#[]⟩, .int .i64 0, .int .i64 0, .int .i64 0, .int .i64 1, .string ⟨#[65]⟩, .int .i64 0, .int .i64 0, .int .i64 0] 30)) (.slice (some ⟨w.heap.size, 0, none⟩) 2 2) [⟨0, noT, 0, 0, 0⟩, ⟨1, ⟨#[65]⟩, 0, 0, 0⟩] := by
    have hb := heap_alloc_new w (.cells #[.int .i64 0, .string ⟨#[]⟩, .int .i64 0, .int .i64 0, .int .i64 0, .int .i64 1, .string ⟨#[65]⟩, .int .i64 0, .int .i64 0, .int .i64 0] 30)
    refine ⟨_, 2, rfl, by decide, by decide, (fun e => by cases e), ?_, fun x hx _ => ?_⟩
    · intro c hc
      simp only [List.mem_cons, List.mem_nil_iff, or_false] at hc
      rcases hc with rfl | rfl
      · exact ⟨by unfold I64; simp, by unfold I64; simp, by unfold I64; simp, by unfold I64; simp, by decide⟩
      · exact ⟨by unfold I64; simp, by unfold I64; simp, by unfold I64; simp, by unfold I64; simp, by decide⟩
    · cases hx
      refine ⟨w.heap.size, 0, rfl, fun i hi => ?_⟩
      match i, hi with
      | 0, _ => exact ⟨by rw [cell_blk hb]; rfl, by rw [cell_blk hb]; rfl, by rw [cell_blk hb]; rfl, by rw [cell_blk hb]; rfl, by rw [cell_blk hb]; rfl⟩
      | 1, _ => exact ⟨by rw [cell_blk hb]; rfl, by rw [cell_blk hb]; rfl, by rw [cell_blk hb]; rfl, by rw [cell_blk hb]; rfl, by rw [cell_blk hb]; rfl⟩
      | i + 2, h => exact absurd h (by simp)
  have cT := progText _ _ 1 _ hp
  rw [show textZ [⟨0, noT, 0, 0, 0⟩, ⟨1, ⟨#[65]⟩, 0, 0, 0⟩] 1 = (⟨#[65]⟩, true) from by simp [textZ, isZ]] at cT
  have CT := Lib.hid cT
  clear hp cT
  go_enter Try.func10, Try.ntmps10
  go_wp2_with (fail)
  refine CT.out.mono ?_
  rintro e w1 ⟨rfl, ho⟩
  have HO := Lib.hid ho
  clear ho CT
  go_wp2
  go_ret
  exact ⟨rfl, ((Only.refl _ w).alloc _).trans HO.out (fun _ h => h.elim)⟩
end Go.Proofs.Ytpiandkiijienaa
