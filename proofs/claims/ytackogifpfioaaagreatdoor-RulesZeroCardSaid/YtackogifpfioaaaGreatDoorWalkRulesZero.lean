/- The walk of the law RulesZero. -/
import Derived.Test.YtackogifpfioaaaGreatDoorRulZ
namespace Go.Proofs.YtackogifpfioaaaGreatDoor
open Go.RowKit
set_option linter.unusedVariables false
set_option linter.unusedSimpArgs false

theorem zTypes (w : World) : Calls Tryz.prog 18 #[.slice none 0 0, .slice none 0 0] w fun e w' => e = .returned (.bool true) ∧ w = w' := by
  go_enter Tryz.func18, Tryz.ntmps18
  go_wp2
  refine wp_loop_rounds 1 ?_
  rw [rounds_succ]
  go_wp2
  go_ret
  exact ⟨rfl, rfl⟩
set_option maxHeartbeats 4000000 in
theorem zSame (w : World) : Calls Tryz.prog 7 #[.agg #[.slice none 0 0, .slice none 0 0, .bool false], .agg #[.slice none 0 0, .slice none 0 0, .bool false]] w fun e w' => e = .returned (.bool true) ∧ Only (fun _ => False) w w' := by
  have ho := ((Only.refl (fun _ => False) w).alloc (.cells #[.slice none 0 0, .slice none 0 0, .bool false] 26)).alloc (.cells #[.slice none 0 0, .slice none 0 0, .bool false] 26)
  have C1 := Lib.hid zTypes
  have HO := Lib.hid ho
  clear ho
  go_enter Tryz.func7, Tryz.ntmps7
  go_wp2_with (fail)
  refine (C1.out _).mono ?_
  rintro e w1 ⟨rfl, hww⟩
  subst hww
  go_wp2_with (fail)
  refine (C1.out _).mono ?_
  rintro e w1 ⟨rfl, hww⟩
  subst hww
  go_wp2
  go_ret
  exact ⟨rfl, HO.out⟩
set_option maxHeartbeats 16000000 in
set_option maxRecDepth 100000 in
theorem walkZero (x0 x1 x2 x3 x4 y0 y1 y2 : Value) (n : Int) (w : World) : Calls Tryz.prog 3 #[.agg #[x0, x1, x2, x3, x4], .agg #[y0, y1, y2], .int .i64 n] w fun e w' => e = .returned (.bool true) ∧ Only (fun _ => False) w w' := by
  have ho0 := (((Only.refl (fun _ => False) w).alloc (.cells #[x0, x1, x2, x3, x4] 23)).alloc (.cells #[y0, y1, y2] 26)).alloc (.cells #[.pointer none, .slice none 0 0, .int .i64 0, .slice none 0 0, .slice none 0 0, .int .i64 0, .int .i64 0, .string ⟨#[]⟩, .int .i64 0, .int .i64 0, .int .i64 0, .slice none 0 0, .slice none 0 0, .bool false] 35)
  obtain ⟨Wa, hWa⟩ : ∃ Wa, w.alloc (.cells #[x0, x1, x2, x3, x4] 23) = Wa := ⟨_, rfl⟩
  rw [hWa] at ho0
  have ha : Wa.heap.size = w.heap.size + 1 := by rw [← hWa]; simp
  have hf := heap_alloc_new Wa (.cells #[y0, y1, y2] 26)
  obtain ⟨Wb, hWb⟩ : ∃ Wb, Wa.alloc (.cells #[y0, y1, y2] 26) = Wb := ⟨_, rfl⟩
  rw [hWb] at ho0 hf
  have hb : Wb.heap.size = w.heap.size + 2 := by rw [← hWb]; simp [ha]
  have hc := cell_blk (heap_alloc_new Wb (.cells #[.pointer none, .slice none 0 0, .int .i64 0, .slice none 0 0, .slice none 0 0, .int .i64 0, .int .i64 0, .string ⟨#[]⟩, .int .i64 0, .int .i64 0, .int .i64 0, .slice none 0 0, .slice none 0 0, .bool false] 35)) 0
  have hf2 := ((Only.refl (fun _ => False) Wb).alloc (.cells #[.pointer none, .slice none 0 0, .int .i64 0, .slice none 0 0, .slice none 0 0, .int .i64 0, .int .i64 0, .string ⟨#[]⟩, .int .i64 0, .int .i64 0, .int .i64 0, .slice none 0 0, .slice none 0 0, .bool false] 35)).heap hf (fun h => h)
  rw [ha] at hf2
  obtain ⟨Wc, hWc⟩ : ∃ Wc, Wb.alloc (.cells #[.pointer none, .slice none 0 0, .int .i64 0, .slice none 0 0, .slice none 0 0, .int .i64 0, .int .i64 0, .string ⟨#[]⟩, .int .i64 0, .int .i64 0, .int .i64 0, .slice none 0 0, .slice none 0 0, .bool false] 35) = Wc := ⟨_, rfl⟩
  rw [hWc, hb] at hc
  rw [hWc] at ho0 hf2
  have hq := unplace_at (w := Wc) (b := w.heap.size + 2) (by simpa using hc)
  have hi := (((Only.refl (fun _ => False) Wa).alloc (.cells #[y0, y1, y2] 26)).alloc (.cells #[.pointer none, .slice none 0 0, .int .i64 0, .slice none 0 0, .slice none 0 0, .int .i64 0, .int .i64 0, .string ⟨#[]⟩, .int .i64 0, .int .i64 0, .int .i64 0, .slice none 0 0, .slice none 0 0, .bool false] 35)).heap (show Wa.heap[w.heap.size]? = _ by rw [← hWa]; exact heap_alloc_new w (.cells #[x0, x1, x2, x3, x4] 23)) (fun h => h)
  rw [hWb, hWc] at hi
  obtain ⟨i0, i1, i2, i3, i4⟩ := cells5T hi
  obtain ⟨f0, f1, f2⟩ := cells3 hf2
  have HF := Lib.hid hf2
  have HW : Hid (((w.alloc (.cells #[x0, x1, x2, x3, x4] 23)).alloc (.cells #[y0, y1, y2] 26)).alloc (.cells #[.pointer none, .slice none 0 0, .int .i64 0, .slice none 0 0, .slice none 0 0, .int .i64 0, .int .i64 0, .string ⟨#[]⟩, .int .i64 0, .int .i64 0, .int .i64 0, .slice none 0 0, .slice none 0 0, .bool false] 35) = Wc) := Lib.hid (by rw [hWa, hWb, hWc])
  have HO0 := Lib.hid ho0
  have C1 := Lib.hid (fun W => zStep11 (unplace_nil W) x0 x1 x2 x3 x4 y0 y1 y2)
  have C2 := Lib.hid (fun W (hW : Only (fun _ => False) Wc W) => zType11 (hq.only hW) n)
  have C3 := Lib.hid (fun W (hW : Only (fun _ => False) Wc W) => zFirst11 (hq.only hW))
  have C4 := Lib.hid (fun W => zAssign11 (unplace_nil W) y0 y1 y2 y0 y1 y2)
  have CS := Lib.hid zSame
  clear ho0 hWa hWb hWc ha hb hc hf hf2 hq hi
  go_enter Tryz.func3, Tryz.ntmps3
  go_wp2_with (fail)
  rw [HW.out]
  refine (C1.out _).mono ?_
  rintro e w1 ⟨rfl, ho1⟩
  unfold zeroFr
  have hra := heap_alloc_new w1 (.cells #[.slice none 0 0, .slice none 0 0, .bool false] 26)
  have HO1 := Lib.hid (ho1.alloc (.cells #[.slice none 0 0, .slice none 0 0, .bool false] 26))
  have HRA := Lib.hid hra
  have n9 : ¬ w1.heap.size = w.heap.size := by have := ho1.size; have := HO0.out.size; have h9 := World.block_lt_of_cell? Wc _ i0; simp only at h9; omega
  clear ho1
  obtain ⟨m0, m1, m2⟩ := marks3 hra
  obtain ⟨k0, k1, k2⟩ := cells3 hra
  clear hra
  go_wp2_with (fail)
  obtain ⟨W2, hW2⟩ : ∃ W2, w1.alloc (.cells #[.slice none 0 0, .slice none 0 0, .bool false] 26) = W2 := ⟨_, rfl⟩
  rw [hW2] at HO1 HRA
  clear m0 m1 m2 k0 k1 k2
  rw [hW2]
  refine (C2.out _ HO1.out).mono ?_
  rintro e w2 ⟨rfl, ho2⟩
  unfold valT zeroT
  have hrt := heap_alloc_new w2 (.cells #[.int .i64 0, .string ⟨#[]⟩, .int .i64 0, .int .i64 0, .int .i64 0] 33)
  have ho3 := (Only.refl (fun _ => False) w2).alloc (.cells #[.int .i64 0, .string ⟨#[]⟩, .int .i64 0, .int .i64 0, .int .i64 0] 33)
  obtain ⟨m0, m1, m2, m3, m4⟩ := marks5T hrt
  obtain ⟨k0, k1, k2, k3, k4⟩ := cells5T hrt
  have HRA2 := Lib.hid ((ho2.trans ho3 (fun _ h _ => h)).heap HRA.out (fun h => h))
  have HO3 := Lib.hid (HO1.out.trans (ho2.trans ho3 (fun _ h _ => h)) (fun _ h _ => h))
  obtain ⟨q0, q1, q2⟩ := cells3 HRA2.out
  clear hrt ho2 ho3
  go_wp2_with (fail)
  refine (CS.out _).mono ?_
  rintro e w4 ⟨rfl, ho4⟩
  have HO4 := Lib.hid (HO3.out.trans ho4 (fun _ h _ => h))
  clear ho4
  go_wp2_with (fail)
  refine (C3.out _ HO4.out).mono ?_
  rintro e w5 ⟨rfl, ho5⟩
  unfold zeroFr
  have HO5 := Lib.hid (HO4.out.trans ho5 (fun _ h _ => h))
  clear ho5
  go_wp2_with (fail)
  refine (CS.out _).mono ?_
  rintro e w6 ⟨rfl, ho6⟩
  have HO6 := Lib.hid (HO5.out.trans ho6 (fun _ h _ => h))
  obtain ⟨p0, p1, p2⟩ := cells3 (HO6.out.heap HF.out (fun h => h))
  clear ho6
  go_wp2_with (fail)
  refine (C4.out _).mono ?_
  rintro e w7 ⟨rfl, ho7⟩
  have HO7 := Lib.hid (HO0.out.trans (HO6.out.trans ho7 (fun _ h _ => h)) (fun _ h _ => h))
  go_wp2
  go_ret
  exact ⟨rfl, HO7.out⟩
end Go.Proofs.YtackogifpfioaaaGreatDoor
