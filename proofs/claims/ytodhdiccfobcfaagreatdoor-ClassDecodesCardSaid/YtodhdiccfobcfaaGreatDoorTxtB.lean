/- A unit's bytes behind others. The bound is the form's own reach. -/
import Derived.Test.YtodhdiccfobcfaaGreatDoorTxtA
import Derived.Test.YtodhdiccfobcfaaGreatDoorMem
import Derived.Deep.RegionLaw

namespace Go.Proofs.YtodhdiccfobcfaaGreatDoor
open Go.RowKit
set_option linter.unusedVariables false
set_option linter.unusedSimpArgs false

set_option maxHeartbeats 1000000 in
theorem appendUnit (B : Nat) (v : Value) (ys : List Int) (u : Int) (w : World) (h0 : 0 ≤ u) (h1 : u ≤ 65535) (hown : Row w B v ys) (hlen : ys.length + (unitZ u).length ≤ 140737488355328) (hB : B ≤ w.heap.size) :
    Calls Tryz.prog 124 #[v, .int .i32 u, .int .i64 (sizeU u)] w fun e w' => ∃ v', e = .returned v' ∧ RowTo w B v (ys ++ unitZ u) v' w' := by
  obtain ⟨i0, hi, hz0, hz1, hz2⟩ := info_parts info_u8
  obtain ⟨ao, cap, rfl, hc1, hc2⟩ := slice_of_owns hown
  have hand6 : bits .and .i32 u 63 = u % 64 := i32_and63 h0 (by omega)
  have key : (1 ≤ u ∧ u ≤ 127 ∧ sizeU u = 1 ∧ unitZ u = [u]) ∨ ((u = 0 ∨ 128 ≤ u) ∧ u ≤ 2047 ∧ sizeU u = 2 ∧ unitZ u = [192 + u / 64, 128 + u % 64]) ∨ (2048 ≤ u ∧ sizeU u = 3 ∧ unitZ u = [224 + u / 64 / 64, 128 + u / 64 % 64, 128 + u % 64]) := by
    unfold sizeU
    by_cases c1 : 1 ≤ u ∧ u ≤ 127
    · exact .inl ⟨c1.1, c1.2, by rw [if_pos (by omega)], unitZ_one c1.1 c1.2⟩
    by_cases c2 : u ≤ 2047
    · exact .inr (.inl ⟨by omega, c2, by rw [if_neg (by omega), if_neg (by omega)], unitZ_two (by omega) c2⟩)
    · exact .inr (.inr ⟨by omega, by rw [if_neg (by omega), if_pos (by omega)], by rw [unitZ_three (by omega), show u / 4096 = u / 64 / 64 by omega]⟩)
  have Ho := Lib.hid hown
  clear hown
  rcases key with ⟨ha, hb, e1, e2⟩ | ⟨ha, hb, e1, e2⟩ | ⟨ha, e1, e2⟩
  · rw [e1, e2]
    rw [e2] at hlen
    simp only [List.length_cons, List.length_nil] at hlen
    clear e1 e2
    have hsrc : Src (w.alloc (.cells #[.int .u8 (u)] 5)) 1 (.slice (some ⟨w.heap.size, 0, none⟩) 1 1) 1 [.int .u8 (u)] := Src.few (w := w) (t := 5) (xs := [.int .u8 (u)]) (by intro x hx; simp only [List.mem_cons, List.mem_nil_iff, or_false] at hx; subst hx; rfl)
    have hown2 : (w.alloc (.cells #[.int .u8 (u)] 5)).ownsRow B 5 1 (.slice ao ys.length cap) ys.length (ys.map (Value.int .u8)) := World.ownsRow.alloc Ho.out _
    have hB2 : B ≤ (w.alloc (.cells #[.int .u8 (u)] 5)).heap.size := by simp; omega
    go_enter Tryz.func124, Tryz.ntmps124
    go_wp2_with (first | (go_at_call 140; refine (lowest _ 6 _ (.inl rfl) (by omega) (by omega)).mono ?_; rintro e w' ⟨rfl, rfl⟩) | (at_builtin; (refine wpList_append_src rfl (.tmp 18) (.tmp 21) 27 rfl 5 i0 (.int .u8 0) 1 1 Tryz.underlying27 hi hz0 hz1 hz2 rfl (by decide) B (.slice ao ys.length cap) ys.length (ys.map (Value.int .u8)) rfl (by exact hown2) (by exact hB2) (.slice (some ⟨w.heap.size, 0, none⟩) 1 1) 1 [.int .u8 (u)] rfl (by exact hsrc) (by unfold maxLen; omega) (by omega) ?_); intro v' w1 hown1 hgrow1 hnew1))
    have R := RowTo.of (zs := [u]) ((Only.refl _ w).alloc _) hown1 hgrow1 hnew1
    clear hown1 hgrow1 hnew1 hsrc hown2 hB2
    go_wp2
    go_ret
    exact ⟨_, rfl, R⟩
  · rw [e1, e2]
    rw [e2] at hlen
    simp only [List.length_cons, List.length_nil] at hlen
    clear e1 e2
    have hsrc : Src (w.alloc (.cells #[.int .u8 (192 + u / 64), .int .u8 (128 + u % 64)] 5)) 1 (.slice (some ⟨w.heap.size, 0, none⟩) 2 2) 2 [.int .u8 (192 + u / 64), .int .u8 (128 + u % 64)] := Src.few (w := w) (t := 5) (xs := [.int .u8 (192 + u / 64), .int .u8 (128 + u % 64)]) (by intro x hx; simp only [List.mem_cons, List.mem_nil_iff, or_false] at hx; rcases hx with rfl | rfl <;> rfl)
    have hown2 : (w.alloc (.cells #[.int .u8 (192 + u / 64), .int .u8 (128 + u % 64)] 5)).ownsRow B 5 1 (.slice ao ys.length cap) ys.length (ys.map (Value.int .u8)) := World.ownsRow.alloc Ho.out _
    have hB2 : B ≤ (w.alloc (.cells #[.int .u8 (192 + u / 64), .int .u8 (128 + u % 64)] 5)).heap.size := by simp; omega
    go_enter Tryz.func124, Tryz.ntmps124
    go_wp2_with (first | (go_at_call 140; refine (lowest _ 6 _ (.inl rfl) (by omega) (by omega)).mono ?_; rintro e w' ⟨rfl, rfl⟩) | (at_builtin; (refine wpList_append_src rfl (.tmp 25) (.tmp 30) 27 rfl 5 i0 (.int .u8 0) 1 1 Tryz.underlying27 hi hz0 hz1 hz2 rfl (by decide) B (.slice ao ys.length cap) ys.length (ys.map (Value.int .u8)) rfl (by exact hown2) (by exact hB2) (.slice (some ⟨w.heap.size, 0, none⟩) 2 2) 2 [.int .u8 (192 + u / 64), .int .u8 (128 + u % 64)] rfl (by exact hsrc) (by unfold maxLen; omega) (by omega) ?_); intro v' w1 hown1 hgrow1 hnew1))
    have R := RowTo.of (zs := [192 + u / 64, 128 + u % 64]) ((Only.refl _ w).alloc _) hown1 hgrow1 hnew1
    clear hown1 hgrow1 hnew1 hsrc hown2 hB2
    go_wp2
    go_ret
    exact ⟨_, rfl, R⟩
  · rw [e1, e2]
    rw [e2] at hlen
    simp only [List.length_cons, List.length_nil] at hlen
    clear e1 e2
    have hsrc : Src (w.alloc (.cells #[.int .u8 (224 + u / 64 / 64), .int .u8 (128 + u / 64 % 64), .int .u8 (128 + u % 64)] 5)) 1 (.slice (some ⟨w.heap.size, 0, none⟩) 3 3) 3 [.int .u8 (224 + u / 64 / 64), .int .u8 (128 + u / 64 % 64), .int .u8 (128 + u % 64)] := Src.few (w := w) (t := 5) (xs := [.int .u8 (224 + u / 64 / 64), .int .u8 (128 + u / 64 % 64), .int .u8 (128 + u % 64)]) (by intro x hx; simp only [List.mem_cons, List.mem_nil_iff, or_false] at hx; rcases hx with rfl | rfl | rfl <;> rfl)
    have hown2 : (w.alloc (.cells #[.int .u8 (224 + u / 64 / 64), .int .u8 (128 + u / 64 % 64), .int .u8 (128 + u % 64)] 5)).ownsRow B 5 1 (.slice ao ys.length cap) ys.length (ys.map (Value.int .u8)) := World.ownsRow.alloc Ho.out _
    have hB2 : B ≤ (w.alloc (.cells #[.int .u8 (224 + u / 64 / 64), .int .u8 (128 + u / 64 % 64), .int .u8 (128 + u % 64)] 5)).heap.size := by simp; omega
    go_enter Tryz.func124, Tryz.ntmps124
    go_wp2_with (first | (go_at_call 140; refine (lowest _ 6 _ (.inl rfl) (by omega) (by omega)).mono ?_; rintro e w' ⟨rfl, rfl⟩) | (at_builtin; (refine wpList_append_src rfl (.tmp 32) (.tmp 42) 27 rfl 5 i0 (.int .u8 0) 1 1 Tryz.underlying27 hi hz0 hz1 hz2 rfl (by decide) B (.slice ao ys.length cap) ys.length (ys.map (Value.int .u8)) rfl (by exact hown2) (by exact hB2) (.slice (some ⟨w.heap.size, 0, none⟩) 3 3) 3 [.int .u8 (224 + u / 64 / 64), .int .u8 (128 + u / 64 % 64), .int .u8 (128 + u % 64)] rfl (by exact hsrc) (by unfold maxLen; omega) (by omega) ?_); intro v' w1 hown1 hgrow1 hnew1))
    have R := RowTo.of (zs := [224 + u / 64 / 64, 128 + u / 64 % 64, 128 + u % 64]) ((Only.refl _ w).alloc _) hown1 hgrow1 hnew1
    clear hown1 hgrow1 hnew1 hsrc hown2 hB2
    go_wp2
    go_ret
    exact ⟨_, rfl, R⟩
end Go.Proofs.YtodhdiccfobcfaaGreatDoor
