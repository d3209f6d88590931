/- slices.Grow of no bytes, slices.Concat of three lists of bytes. The bound is the form's own reach. -/
import Derived.Test.YtfbkmgjgklkjiaaMem
import Derived.Lib.AppendZeros
import Derived.BigCall
import Derived.WalkKit
namespace Go.Proofs.Ytfbkmgjgklkjiaa
open Go.RowKit
set_option linter.unusedVariables false
set_option linter.unusedSimpArgs false

set_option maxHeartbeats 2000000 in
set_option maxRecDepth 100000 in
theorem grow0 (n : Nat) (w : World) (hn : 0 < n) (hl : n ≤ 140737488355328) :
    Calls Try.prog 30 #[.slice none 0 0, .int .i64 n] w fun e w' => ∃ v', e = .returned v' ∧ Row w' w.heap.size v' [] ∧ Only (fun _ => False) w w' := by
  obtain ⟨i0, hi, hz0, hz1, hz2⟩ := info_parts info_u8
  have happ := Lib.run_append_nil_zeros (P := Try.prog) w 22 3 22 5 i0 (.int .u8 0) .i64 .i64 Try.underlying22 Try.underlying3 hi hz0 n hn (by rw [hz1]; decide) (by omega) (by rw [hz2]; omega)
  generalize hcap : grownCap w n 0 5 = cap2 at happ
  have hcapge : n ≤ cap2 := by rw [← hcap]; exact grownCap_ge w _ 0 5
  have hcaple : cap2 ≤ maxLen := by rw [← hcap]; exact grownCap_le_maxLen w _ 0 5 (by unfold maxLen; omega)
  generalize hZ : (Builtin.zeroCells (Value.int .u8 0).cells n ++ Builtin.zeroCells (Value.int .u8 0).cells (cap2 - n)) = Z at happ
  have hZs : Z.size = cap2 := by rw [← hZ]; simp [size_zeroCells, Value.cells]; omega
  have Hz := Lib.hid hZs
  have Hle := Lib.hid hcaple
  have Happ := Lib.hid happ
  unfold maxLen at hcaple
  clear hcap hZ hZs happ
  go_enter Try.func30, Try.ntmps30
  go_wp2_with (at_builtin; go_loud (refine Lib.wpList_append_run w rfl (.tmp 20) (.tmp 21) 22 3 rfl _ _ rfl rfl _ _ Happ.out ?_))
  go_ret
  refine ⟨_, rfl, ⟨by simp, .inr ⟨w.heap.size, cap2, Z, rfl, Nat.le_refl _, ?_, Nat.zero_le _, Hle.out, by simpa using Hz.out, by simp⟩⟩, ((Only.refl _ w).drew).alloc _⟩
  exact heap_alloc_new w.drew _

/-- A block of three slices. -/
def Three (w : World) (g : Nat) (v1 v2 v3 : Value) : Prop := w.heap[g]? = some (.cells #[v1, v2, v3] 22 (0, 0))

set_option maxHeartbeats 4000000 in
set_option maxRecDepth 100000 in
theorem concat3 (g : Nat) (v1 v2 v3 : Value) (z1 z2 z3 : List Int) (w : World) (hg : Three w g v1 v2 v3) (h1 : Bytes w v1 z1) (h2 : Bytes w v2 z2) (h3 : Bytes w v3 z3) (hl : z1.length + z2.length + z3.length ≤ 140737488355328) (hp : 0 < z1.length) :
    Calls Try.prog 20 #[.slice (some ⟨g, 0, none⟩) 3 3] w fun e w' => ∃ v', e = .returned v' ∧ Row w' w.heap.size v' (z1 ++ z2 ++ z3) ∧ Only (fun _ => False) w w' := by
  obtain ⟨i0, hi, hz0, hz1, hz2⟩ := info_parts info_u8
  obtain ⟨ao1, cap1, rfl, _, _, _, hb1, _⟩ := id h1
  obtain ⟨ao2, cap2, rfl, _, _, _, hb2, _⟩ := id h2
  obtain ⟨ao3, cap3, rfl, _, _, _, hb3, _⟩ := id h3
  have c0 := cell_blk hg 0
  have c1 := cell_blk hg 1
  have c2 := cell_blk hg 2
  simp at c0 c1 c2
  have hC : ∀ w', Only (fun _ => False) w w' → w'.cell? ⟨g, 0, none⟩ = some (.slice ao1 z1.length cap1) ∧ w'.cell? ⟨g, 1, none⟩ = some (.slice ao2 z2.length cap2) ∧ w'.cell? ⟨g, 2, none⟩ = some (.slice ao3 z3.length cap3) := fun w' h => ⟨h.cell c0 (fun h => h), h.cell c1 (fun h => h), h.cell c2 (fun h => h)⟩
  have H1 := Lib.hid h1
  have H2 := Lib.hid h2
  have H3 := Lib.hid h3
  have HC := Lib.hid hC
  have e12 : IntKind.i64.wrap ((z1.length : Int) + z2.length) = (z1.length : Int) + z2.length := IntWalk.i64_in _ (by omega)
  clear h1 h2 h3 hC hg
  go_enter Try.func20, Try.ntmps20
  go_wp2
  refine wp_loop_rounds 4 ?_
  rw [rounds_succ]
  go_wp2
  rw [rounds_succ]
  go_wp2
  rw [rounds_succ]
  go_wp2
  rw [rounds_succ]
  go_wp2_with (fail)
  have hN : (z1.length : Int) + z2.length + z3.length = ((z1.length + z2.length + z3.length : Nat) : Int) := by omega
  rw [hN]
  refine (grow0 _ w (by omega) hl).mono ?_
  rintro e w1 ⟨v1, rfl, hr1, ho1⟩
  obtain ⟨aV1, cV1, rfl, _, _⟩ := slice_of_owns hr1
  clear hN
  go_wp2
  refine wp_loop_rounds 4 ?_
  obtain ⟨d0, d1, d2⟩ := HC.out _ ho1
  rw [rounds_succ]
  go_wp2_with (at_builtin; go_loud (refine wpList_append_src rfl (.tmp 31) (.tmp 32) 22 rfl 5 i0 (.int .u8 0) 1 1 Try.underlying22 hi hz0 hz1 hz2 rfl (by decide) w.heap.size (.slice aV1 (([] : List Int)).length cV1) (([] : List Int)).length ((([] : List Int)).map (Value.int .u8)) rfl (by exact hr1) (by exact ho1.size) (.slice ao1 z1.length cap1) z1.length (z1.map (Value.int .u8)) rfl (by exact Src.of_bytes ((H1.out).only ho1 (fun _ _ _ h => h))) (by unfold maxLen; simp only [List.length_append, List.length_nil]; omega) (by simp only [List.length_append, List.length_nil]; omega) ?_); intro v2 w2 hown hgrow hnew)
  obtain ⟨hr2, ho2⟩ := Row.push hr1 ho1 hown hgrow hnew
  clear hown hgrow hnew hr1 ho1
  obtain ⟨aV2, cV2, rfl, _, _⟩ := slice_of_owns hr2
  clear d0 d1 d2
  obtain ⟨d0, d1, d2⟩ := HC.out _ ho2
  rw [rounds_succ]
  go_wp2_with (at_builtin; go_loud (refine wpList_append_src rfl (.tmp 31) (.tmp 32) 22 rfl 5 i0 (.int .u8 0) 1 1 Try.underlying22 hi hz0 hz1 hz2 rfl (by decide) w.heap.size (.slice aV2 (([] ++ z1 : List Int)).length cV2) (([] ++ z1 : List Int)).length ((([] ++ z1 : List Int)).map (Value.int .u8)) rfl (by exact hr2) (by exact ho2.size) (.slice ao2 z2.length cap2) z2.length (z2.map (Value.int .u8)) rfl (by exact Src.of_bytes ((H2.out).only ho2 (fun _ _ _ h => h))) (by unfold maxLen; simp only [List.length_append, List.length_nil]; omega) (by simp only [List.length_append, List.length_nil]; omega) ?_); intro v3 w3 hown hgrow hnew)
  obtain ⟨hr3, ho3⟩ := Row.push hr2 ho2 hown hgrow hnew
  clear hown hgrow hnew hr2 ho2
  obtain ⟨aV3, cV3, rfl, _, _⟩ := slice_of_owns hr3
  clear d0 d1 d2
  obtain ⟨d0, d1, d2⟩ := HC.out _ ho3
  rw [rounds_succ]
  go_wp2_with (at_builtin; go_loud (refine wpList_append_src rfl (.tmp 31) (.tmp 32) 22 rfl 5 i0 (.int .u8 0) 1 1 Try.underlying22 hi hz0 hz1 hz2 rfl (by decide) w.heap.size (.slice aV3 (([] ++ z1 ++ z2 : List Int)).length cV3) (([] ++ z1 ++ z2 : List Int)).length ((([] ++ z1 ++ z2 : List Int)).map (Value.int .u8)) rfl (by exact hr3) (by exact ho3.size) (.slice ao3 z3.length cap3) z3.length (z3.map (Value.int .u8)) rfl (by exact Src.of_bytes ((H3.out).only ho3 (fun _ _ _ h => h))) (by unfold maxLen; simp only [List.length_append, List.length_nil]; omega) (by simp only [List.length_append, List.length_nil]; omega) ?_); intro v4 w4 hown hgrow hnew)
  obtain ⟨hr4, ho4⟩ := Row.push hr3 ho3 hown hgrow hnew
  clear hown hgrow hnew hr3 ho3
  obtain ⟨aV4, cV4, rfl, _, _⟩ := slice_of_owns hr4
  clear d0 d1 d2
  rw [rounds_succ]
  go_wp2
  go_ret
  exact ⟨_, rfl, by simpa using hr4, ho4⟩
end Go.Proofs.Ytfbkmgjgklkjiaa
