/- What a place that nobody made answers. Condition: it is none, or its program is none. -/
import Derived.Test.YtackogifpfioaaaGreatDoorRulF
import Derived.Test.YtackogifpfioaaaGreatDoorKndC
import Derived.Test.YtackogifpfioaaaGreatDoorLpZa
namespace Go.Proofs.YtackogifpfioaaaGreatDoor
open Go.RowKit
set_option linter.unusedVariables false
set_option linter.unusedSimpArgs false

/-- A place that nobody made, from here on. -/
def UnPlace (po : Option Addr) (w : World) : Prop := ∀ W, Only (fun _ => False) w W → Calls Tryz.prog 12 #[.pointer po] W fun e w' => e = .returned (.bool false) ∧ W = w'
theorem UnPlace.only {po : Option Addr} {w w' : World} (h : UnPlace po w) (ho : Only (fun _ => False) w w') : UnPlace po w' := fun W hW => h W (ho.trans hW (fun _ h _ => h))
theorem unplace_nil (w : World) : UnPlace none w := by
  intro W _
  go_enter Tryz.func12, Tryz.ntmps12
  go_wp2
  go_ret
  exact ⟨rfl, rfl⟩
theorem unplace_at {w : World} {b : Nat} (h : w.cell? ⟨b, 0, none⟩ = some (.pointer none)) : UnPlace (some ⟨b, 0, none⟩) w := by
  intro W hW
  have c0 : W.cell? ⟨b, 0, none⟩ = some (.pointer none) := hW.cell h (fun h => h)
  clear h hW
  go_enter Tryz.func12, Tryz.ntmps12
  go_wp2
  go_ret
  exact ⟨rfl, rfl⟩
section
variable {po : Option Addr} {w : World} (h : UnPlace po w)
include h
set_option maxHeartbeats 4000000 in
theorem zFirst11 : Calls Tryz.prog 8 #[.pointer po] w fun e w' => e = .returned zeroFr ∧ Only (fun _ => False) w w' := by
  have ho := (Only.refl (fun _ => False) w).alloc (.cells #[.slice none 0 0, .slice none 0 0, .bool false] 26)
  have hr := heap_alloc_new w (.cells #[.slice none 0 0, .slice none 0 0, .bool false] 26)
  obtain ⟨W0, hW0⟩ : ∃ W0, w.alloc (.cells #[.slice none 0 0, .slice none 0 0, .bool false] 26) = W0 := ⟨_, rfl⟩
  rw [hW0] at ho hr
  have C1 := Lib.hid (h W0 ho)
  obtain ⟨y0, y1, y2⟩ := cells3 hr
  obtain ⟨m0, m1, m2⟩ := marks3 hr
  have HR := Lib.hid hr
  have HO := Lib.hid ho
  have HW0 := Lib.hid hW0
  clear h hr ho hW0
  go_enter Tryz.func8, Tryz.ntmps8
  go_wp2_with (fail)
  rw [HW0.out]
  refine C1.out.mono ?_
  rintro e w1 ⟨rfl, rfl⟩
  go_wp2
  refine bodyPost_ret (frame_alone Tryz.results8 (store3 HR.out) rfl) rfl ⟨rfl, only3 HO.out (fun hl => absurd hl (Nat.lt_irrefl _))⟩
set_option maxHeartbeats 4000000 in
theorem zType11 (n : Int) : Calls Tryz.prog 6 #[.pointer po, .int .i64 n] w fun e w' => e = .returned (.tuple #[valT zeroT, .int .i64 7]) ∧ Only (fun _ => False) w w' := by
  have ho := (Only.refl (fun _ => False) w).alloc (.cells #[.int .i64 0, .string ⟨#[]⟩, .int .i64 0, .int .i64 0, .int .i64 0] 33)
  have hr := heap_alloc_new w (.cells #[.int .i64 0, .string ⟨#[]⟩, .int .i64 0, .int .i64 0, .int .i64 0] 33)
  obtain ⟨W0, hW0⟩ : ∃ W0, w.alloc (.cells #[.int .i64 0, .string ⟨#[]⟩, .int .i64 0, .int .i64 0, .int .i64 0] 33) = W0 := ⟨_, rfl⟩
  rw [hW0] at ho hr
  have C1 := Lib.hid (h W0 ho)
  obtain ⟨y0, y1, y2, y3, y4⟩ := cells5T hr
  obtain ⟨m0, m1, m2, m3, m4⟩ := marks5T hr
  have HR := Lib.hid hr
  have HO := Lib.hid ho
  have HW0 := Lib.hid hW0
  clear h hr ho hW0
  go_enter Tryz.func6, Tryz.ntmps6
  go_wp2_with (fail)
  rw [HW0.out]
  refine C1.out.mono ?_
  rintro e w1 ⟨rfl, rfl⟩
  go_wp2
  refine bodyPost_ret (type_result2 (t := zeroT) Tryz.results6 (store5T HR.out) rfl rfl) rfl ⟨rfl, only5T HO.out (fun hl => absurd hl (Nat.lt_irrefl _))⟩
set_option maxHeartbeats 4000000 in
theorem zStep11 (x0 x1 x2 x3 x4 y0 y1 y2 : Value) : Calls Tryz.prog 5 #[.pointer po, .agg #[x0, x1, x2, x3, x4], .agg #[y0, y1, y2]] w fun e w' => e = .returned (.tuple #[zeroFr, .int .i64 7]) ∧ Only (fun _ => False) w w' := by
  have ho0 := ((Only.refl (fun _ => False) w).alloc (.cells #[x0, x1, x2, x3, x4] 23)).alloc (.cells #[y0, y1, y2] 26)
  obtain ⟨W1, hW1⟩ : ∃ W1, (w.alloc (.cells #[x0, x1, x2, x3, x4] 23)).alloc (.cells #[y0, y1, y2] 26) = W1 := ⟨_, rfl⟩
  rw [hW1] at ho0
  have ho := ho0.alloc (.cells #[.slice none 0 0, .slice none 0 0, .bool false] 26)
  have hr := heap_alloc_new W1 (.cells #[.slice none 0 0, .slice none 0 0, .bool false] 26)
  obtain ⟨W0, hW0⟩ : ∃ W0, W1.alloc (.cells #[.slice none 0 0, .slice none 0 0, .bool false] 26) = W0 := ⟨_, rfl⟩
  rw [hW0] at ho hr
  have hb := ho0.size
  have C1 := Lib.hid (h W0 ho)
  obtain ⟨z0, z1, z2⟩ := cells3 hr
  obtain ⟨m0, m1, m2⟩ := marks3 hr
  have hsz : W1.heap.size = w.heap.size + 2 := by rw [← hW1]; simp
  have HR := Lib.hid hr
  have HO := Lib.hid ho
  have HB := Lib.hid hb
  have HW0 := Lib.hid hW0
  have HW1 := Lib.hid hW1
  clear h hr ho hW0 hW1 ho0 hb
  go_enter Tryz.func5, Tryz.ntmps5
  go_wp2_with (fail)
  rw [HW1.out, HW0.out]
  refine C1.out.mono ?_
  rintro e w1 ⟨rfl, rfl⟩
  rw [hsz] at HR z0 z1 z2 m0 m1 m2
  go_wp2
  refine bodyPost_ret (frame_result2 Tryz.results5 (store3 HR.out) rfl rfl) rfl ⟨rfl, only3 HO.out (fun hl => absurd hl (by omega))⟩
set_option maxHeartbeats 4000000 in
theorem zAssign11 (y0 y1 y2 z0 z1 z2 : Value) : Calls Tryz.prog 9 #[.pointer po, .agg #[y0, y1, y2], .agg #[z0, z1, z2]] w fun e w' => e = .returned (.bool false) ∧ Only (fun _ => False) w w' := by
  have ho := (((Only.refl (fun _ => False) w).alloc (.cells #[.pointer po] 27)).alloc (.cells #[y0, y1, y2] 26)).alloc (.cells #[z0, z1, z2] 26)
  have hc : ((((w.alloc (.cells #[.pointer po] 27)).alloc (.cells #[y0, y1, y2] 26)).alloc (.cells #[z0, z1, z2] 26))).cell? ⟨w.heap.size, 0, none⟩ = some (.pointer po) := (((Only.refl (fun _ => False) (w.alloc (.cells #[.pointer po] 27))).alloc _).alloc _).cell (cell_blk (heap_alloc_new w _) 0) (fun h => h)
  obtain ⟨W0, hW0⟩ : ∃ W0, ((w.alloc (.cells #[.pointer po] 27)).alloc (.cells #[y0, y1, y2] 26)).alloc (.cells #[z0, z1, z2] 26) = W0 := ⟨_, rfl⟩
  rw [hW0] at ho hc
  have C1 := Lib.hid (h W0 ho)
  have HO := Lib.hid ho
  have HW0 := Lib.hid hW0
  clear h ho hW0
  go_enter Tryz.func9, Tryz.ntmps9
  go_wp2_with (fail)
  rw [HW0.out]
  refine C1.out.mono ?_
  rintro e w1 ⟨rfl, rfl⟩
  go_wp2
  go_ret
  exact ⟨rfl, HO.out⟩
end
end Go.Proofs.YtackogifpfioaaaGreatDoor
