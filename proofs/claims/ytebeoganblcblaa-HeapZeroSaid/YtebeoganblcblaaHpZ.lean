/- What a heap answers that no call made. No condition. -/
import Derived.Test.YtebeoganblcblaaHpV
import Derived.Deep.Cut
namespace Go.Proofs.Ytebeoganblcblaa
open Go.RowKit
set_option linter.unusedVariables false
set_option linter.unusedSimpArgs false

/-- There is no heap, or one that no call made. -/
def Unm14 (w : World) (hv : Value) : Prop := hv = .pointer none ∨ ∃ b, hv = .pointer (some ⟨b, 0, none⟩) ∧ w.heap[b]? = some (.cells #[.int .i64 0, .slice none 0 0, .slice none 0 0, .bool false] 64 (0, 0))
theorem Unm14.only {w w' : World} {hv : Value} (h : Unm14 w hv) (ho : Only (fun _ => False) w w') : Unm14 w' hv := h.imp id (fun ⟨b, e, hb⟩ => ⟨b, e, ho.heap hb (fun h => h)⟩)
section
variable {w : World} {hv : Value} (h : Unm14 w hv)
include h
set_option maxHeartbeats 4000000 in
set_option maxRecDepth 100000 in
theorem zIsZero14 : Calls Try.prog 31 #[hv] w fun e w' => e = .returned (.bool true) ∧ w = w' := by
  rcases h with rfl | ⟨b, rfl, hb⟩
  · go_enter Try.func31, Try.ntmps31
    go_wp2
    go_ret
    exact ⟨rfl, rfl⟩
  · have z3 := cell_blk hb 3
    simp only [List.getElem?_toArray, List.getElem?_cons_zero, List.getElem?_cons_succ] at z3
    clear hb
    go_enter Try.func31, Try.ntmps31
    go_wp2
    go_ret
    exact ⟨rfl, rfl⟩
set_option maxHeartbeats 4000000 in
set_option maxRecDepth 100000 in
theorem zMake14 (t : TypeV) (dv : Value) : Calls Try.prog 18 #[hv, valT t, dv] w fun e w' => e = .returned (.tuple #[.int .i64 0, .int .i64 7]) ∧ Only (fun _ => False) w w' := by
  unfold valT
  have ho := (Only.refl (fun _ => False) w).alloc (.cells #[.int .i64 t.k, .string t.name, .int .i64 t.dims, .int .i64 t.elem, .int .i64 t.at_] 32)
  obtain ⟨W0, hW0⟩ : ∃ W0, w.alloc (.cells #[.int .i64 t.k, .string t.name, .int .i64 t.dims, .int .i64 t.elem, .int .i64 t.at_] 32) = W0 := ⟨_, rfl⟩
  rw [hW0] at ho
  have C := Lib.hid (zIsZero14 (h.only ho))
  have HO := Lib.hid ho
  have HW0 := Lib.hid hW0
  clear h ho hW0
  go_enter Try.func18, Try.ntmps18
  go_wp2_with (fail)
  rw [HW0.out]
  refine C.out.mono ?_
  rintro e w1 ⟨rfl, hww⟩
  subst hww
  go_wp2
  go_ret2
  exact ⟨rfl, HO.out⟩
set_option maxHeartbeats 4000000 in
set_option maxRecDepth 100000 in
theorem zArray14 (t u : TypeV) (n : Int) : Calls Try.prog 19 #[hv, valT t, valT u, .int .i64 n] w fun e w' => e = .returned (.tuple #[.int .i64 0, .int .i64 7]) ∧ Only (fun _ => False) w w' := by
  unfold valT
  have ho := ((Only.refl (fun _ => False) w).alloc (.cells #[.int .i64 t.k, .string t.name, .int .i64 t.dims, .int .i64 t.elem, .int .i64 t.at_] 32)).alloc (.cells #[.int .i64 u.k, .string u.name, .int .i64 u.dims, .int .i64 u.elem, .int .i64 u.at_] 32)
  obtain ⟨W0, hW0⟩ : ∃ W0, (w.alloc (.cells #[.int .i64 t.k, .string t.name, .int .i64 t.dims, .int .i64 t.elem, .int .i64 t.at_] 32)).alloc (.cells #[.int .i64 u.k, .string u.name, .int .i64 u.dims, .int .i64 u.elem, .int .i64 u.at_] 32) = W0 := ⟨_, rfl⟩
  rw [hW0] at ho
  have C := Lib.hid (zIsZero14 (h.only ho))
  have HO := Lib.hid ho
  have HW0 := Lib.hid hW0
  clear h ho hW0
  go_enter Try.func19, Try.ntmps19
  go_wp2_with (fail)
  rw [HW0.out]
  refine C.out.mono ?_
  rintro e w1 ⟨rfl, hww⟩
  subst hww
  go_wp2
  go_ret2
  exact ⟨rfl, HO.out⟩
set_option maxHeartbeats 4000000 in
set_option maxRecDepth 100000 in
theorem zCount14 : Calls Try.prog 12 #[hv] w fun e w' => e = .returned (.int .i64 0) ∧ w = w' := by
  have C := Lib.hid (zIsZero14 h)
  clear h
  go_enter Try.func12, Try.ntmps12
  go_wp2_with (fail)
  refine C.out.mono ?_
  rintro e w1 ⟨rfl, rfl⟩
  go_wp2
  go_ret
  exact ⟨rfl, rfl⟩
set_option maxHeartbeats 4000000 in
set_option maxRecDepth 100000 in
theorem zCopy14 : Calls Try.prog 22 #[hv] w fun e w' => e = .returned (.pointer none) ∧ w = w' := by
  have C := Lib.hid (zIsZero14 h)
  clear h
  go_enter Try.func22, Try.ntmps22
  go_wp2_with (fail)
  refine C.out.mono ?_
  rintro e w1 ⟨rfl, rfl⟩
  go_wp2
  go_ret
  exact ⟨rfl, rfl⟩
set_option maxHeartbeats 4000000 in
set_option maxRecDepth 100000 in
theorem zFind14 (r : Int) : Calls Try.prog 38 #[hv, .int .i64 r] w fun e w' => e = .returned (.tuple #[valPo zeroPo, .int .i64 7]) ∧ Only (fun _ => False) w w' := by
  have ho := (Only.refl (fun _ => False) w).alloc (.cells #[.int .i64 0, .string ⟨#[]⟩, .int .i64 0, .int .i64 0, .int .i64 0, .int .i64 0, .int .i64 0] 78)
  have hr0 := heap_alloc_new w (.cells #[.int .i64 0, .string ⟨#[]⟩, .int .i64 0, .int .i64 0, .int .i64 0, .int .i64 0, .int .i64 0] 78)
  obtain ⟨W0, hW0⟩ : ∃ W0, w.alloc (.cells #[.int .i64 0, .string ⟨#[]⟩, .int .i64 0, .int .i64 0, .int .i64 0, .int .i64 0, .int .i64 0] 78) = W0 := ⟨_, rfl⟩
  rw [hW0] at ho hr0
  have C := Lib.hid (zIsZero14 (h.only ho))
  have HR0 := Lib.hid hr0
  have HO0 := Lib.hid ho
  have HW0 := Lib.hid hW0
  obtain ⟨m0, m1, m2, m3, m4, m5, m6⟩ := marks7O HR0.out
  obtain ⟨q0, q1, q2, q3, q4, q5, q6⟩ := cells7O HR0.out
  clear h ho hr0 hW0
  go_enter Try.func38, Try.ntmps38
  go_wp2_with (fail)
  rw [HW0.out]
  refine C.out.mono ?_
  rintro e w1 ⟨rfl, hww⟩
  subst hww
  go_wp2
  exact bodyPost_ret (op_result2 (t := zeroPo) (b := w.heap.size) Try.results38 (store7O HR0.out) rfl rfl) rfl ⟨rfl, only7O HO0.out (fun hl => absurd hl (Nat.lt_irrefl _))⟩
set_option maxHeartbeats 4000000 in
set_option maxRecDepth 100000 in
theorem zPlace14 (r i : Int) : Calls Try.prog 36 #[hv, .int .i64 r, .int .i64 i] w fun e w' => e = .returned (.tuple #[.pointer none, .int .i64 7]) ∧ Only (fun _ => False) w w' := by
  have C := Lib.hid (zFind14 h r)
  unfold valPo zeroPo zeroT at C
  clear h
  go_enter Try.func36, Try.ntmps36
  go_wp2_with (fail)
  refine C.out.mono ?_
  rintro e w1 ⟨rfl, ho1⟩
  have HO1 := Lib.hid ho1
  clear ho1 C
  go_wp2
  go_ret2
  exact ⟨rfl, HO1.out.alloc _⟩
set_option maxHeartbeats 4000000 in
set_option maxRecDepth 100000 in
theorem zGet14 (r i : Int) : Calls Try.prog 20 #[hv, .int .i64 r, .int .i64 i] w fun e w' => e = .returned (.tuple #[valVa default, .int .i64 7]) ∧ Only (fun _ => False) w w' := by
  have ho := (Only.refl (fun _ => False) w).alloc (.cells #[.int .i64 0, .int .i64 0, .int .i64 0] 34)
  have hr0 := heap_alloc_new w (.cells #[.int .i64 0, .int .i64 0, .int .i64 0] 34)
  obtain ⟨W0, hW0⟩ : ∃ W0, w.alloc (.cells #[.int .i64 0, .int .i64 0, .int .i64 0] 34) = W0 := ⟨_, rfl⟩
  rw [hW0] at ho hr0
  have C := Lib.hid (zPlace14 (h.only ho) r i)
  have HR0 := Lib.hid hr0
  have HO0 := Lib.hid ho
  have HW0 := Lib.hid hW0
  clear h ho hr0 hW0
  go_enter Try.func20, Try.ntmps20
  go_wp2_with (fail)
  rw [HW0.out]
  refine C.out.mono ?_
  rintro e w1 ⟨rfl, ho1⟩
  have hr1 := ho1.heap HR0.out (fun h => h)
  obtain ⟨q0, q1, q2⟩ := cells3V hr1
  obtain ⟨m0, m1, m2⟩ := marks3V hr1
  have HR1 := Lib.hid hr1
  have HO1 := Lib.hid (HO0.out.trans ho1 (fun _ h _ => h))
  clear C ho1 hr1
  go_wp2
  exact bodyPost_ret (val_result2 (t := default) (b := w.heap.size) Try.results20 (store3V HR1.out) rfl rfl) rfl ⟨rfl, only3V HO1.out (fun hl => absurd hl (Nat.lt_irrefl _))⟩
set_option maxHeartbeats 4000000 in
set_option maxRecDepth 100000 in
theorem zSet14 (r i : Int) (v : ValV) : Calls Try.prog 21 #[hv, .int .i64 r, .int .i64 i, valVa v] w fun e w' => e = .returned (.int .i64 7) ∧ Only (fun _ => False) w w' := by
  unfold valVa
  have ho := (Only.refl (fun _ => False) w).alloc (.cells #[.int .i64 v.k, .int .i64 v.n, .int .i64 v.r] 34)
  obtain ⟨W0, hW0⟩ : ∃ W0, w.alloc (.cells #[.int .i64 v.k, .int .i64 v.n, .int .i64 v.r] 34) = W0 := ⟨_, rfl⟩
  rw [hW0] at ho
  have C := Lib.hid (zPlace14 (h.only ho) r i)
  have HO0 := Lib.hid ho
  have HW0 := Lib.hid hW0
  clear h ho hW0
  go_enter Try.func21, Try.ntmps21
  go_wp2_with (fail)
  rw [HW0.out]
  refine C.out.mono ?_
  rintro e w1 ⟨rfl, ho1⟩
  have HO1 := Lib.hid (HO0.out.trans ho1 (fun _ h _ => h))
  clear C ho1
  go_wp2
  go_ret
  exact ⟨rfl, HO1.out⟩
set_option maxHeartbeats 4000000 in
set_option maxRecDepth 100000 in
theorem zType14 (r : Int) : Calls Try.prog 23 #[hv, .int .i64 r] w fun e w' => e = .returned (.tuple #[valT zeroT, .int .i64 7]) ∧ Only (fun _ => False) w w' := by
  have ho := (Only.refl (fun _ => False) w).alloc (.cells #[.int .i64 0, .string ⟨#[]⟩, .int .i64 0, .int .i64 0, .int .i64 0] 32)
  have hr0 := heap_alloc_new w (.cells #[.int .i64 0, .string ⟨#[]⟩, .int .i64 0, .int .i64 0, .int .i64 0] 32)
  obtain ⟨W0, hW0⟩ : ∃ W0, w.alloc (.cells #[.int .i64 0, .string ⟨#[]⟩, .int .i64 0, .int .i64 0, .int .i64 0] 32) = W0 := ⟨_, rfl⟩
  rw [hW0] at ho hr0
  have C := Lib.hid (zFind14 (h.only ho) r)
  unfold valPo at C
  rw [show ((zeroPo.a : Nat) : Int) = 0 from rfl, show ((zeroPo.b : Nat) : Int) = 0 from rfl, show zeroPo.t = zeroT from rfl] at C
  have HR0 := Lib.hid hr0
  have HO0 := Lib.hid ho
  have HW0 := Lib.hid hW0
  generalize zeroT = t at *
  clear h ho hr0 hW0
  go_enter Try.func23, Try.ntmps23
  go_wp2_with (fail)
  rw [HW0.out]
  refine C.out.mono ?_
  rintro e w1 ⟨rfl, ho1⟩
  have hr1 := ho1.heap HR0.out (fun h => h)
  have ho2 := (Only.refl (fun _ => False) w1).alloc (.cells #[.int .i64 t.k, .string t.name, .int .i64 t.dims, .int .i64 t.elem, .int .i64 t.at_, .int .i64 0, .int .i64 0] 78)
  have hr2 := ho2.heap hr1 (fun h => h)
  have hx := heap_alloc_new w1 (.cells #[.int .i64 t.k, .string t.name, .int .i64 t.dims, .int .i64 t.elem, .int .i64 t.at_, .int .i64 0, .int .i64 0] 78)
  obtain ⟨W2, hW2⟩ : ∃ W2, w1.alloc (.cells #[.int .i64 t.k, .string t.name, .int .i64 t.dims, .int .i64 t.elem, .int .i64 t.at_, .int .i64 0, .int .i64 0] 78) = W2 := ⟨_, rfl⟩
  rw [hW2] at ho2 hr2 hx
  have HR2 := Lib.hid hr2
  have HO2 := Lib.hid (HO0.out.trans (ho1.trans ho2 (fun _ h _ => h)) (fun _ h _ => h))
  obtain ⟨m0, m1, m2, m3, m4⟩ := marks5T hr2
  obtain ⟨r0, r1, r2, r3, r4⟩ := cells5T hr2
  obtain ⟨q0, q1, q2, q3, q4, q5, q6⟩ := cells7O hx
  have HW2 := Lib.hid hW2
  clear ho1 ho2 hr1 hr2 hx C hW2
  go_upto_region 2 with fail
  rw [HW2.out]
  go_wp2
  exact bodyPost_ret (type_result2 (t := t) (b := w.heap.size) Try.results23 (store5T HR2.out) rfl rfl) rfl ⟨rfl, only5T HO2.out (fun hl => absurd hl (Nat.lt_irrefl _))⟩
set_option maxHeartbeats 4000000 in
set_option maxRecDepth 100000 in
theorem zLen14 (r : Int) : Calls Try.prog 24 #[hv, .int .i64 r] w fun e w' => e = .returned (.int .i64 0) ∧ Only (fun _ => False) w w' := by
  have C := Lib.hid (zFind14 h r)
  unfold valPo at C
  rw [show ((zeroPo.a : Nat) : Int) = 0 from rfl, show ((zeroPo.b : Nat) : Int) = 0 from rfl, show zeroPo.t = zeroT from rfl] at C
  unfold zeroT at C
  simp only at C
  clear h
  go_enter Try.func24, Try.ntmps24
  go_wp2_with (fail)
  refine C.out.mono ?_
  rintro e w1 ⟨rfl, ho1⟩
  have HO1 := Lib.hid ho1
  clear ho1 C
  go_wp2_with (fail)
  try go_quiet (fail)
  go_wp2
  all_goals go_ret
  all_goals exact ⟨rfl, by first | exact HO1.out.alloc _ | exact (HO1.out.alloc _).drewN _⟩
set_option maxHeartbeats 8000000 in
set_option maxRecDepth 100000 in
theorem zAll14 : Calls Try.prog 14 #[hv] w fun e w' => ∃ a, e = .returned (.slice a 0 0) ∧ Only (fun _ => False) w w' := by
  obtain ⟨i1, ji, jz0, jz1, jz2⟩ := info_parts info_obj
  have C := Lib.hid (zCount14 h)
  have hmk := run_make (P := Try.prog) w 39 56 i1 _ Try.underlying39 ji jz0 .i64 .i64 0 0 (by omega) (Int.le_refl _) (by rw [jz2]; omega) (by omega)
  simp only [jz1, Int.toNat_zero, Nat.zero_mul] at hmk
  clear h
  go_enter Try.func14, Try.ntmps14
  go_wp2_with (fail)
  refine C.out.mono ?_
  rintro e w1 ⟨rfl, hww⟩
  subst hww
  have HO := Lib.hid ((Only.refl (fun _ => False) w).alloc (.cells (madeCells (Value.cells (.agg #[.int .i64 0, .string ⟨#[]⟩, .int .i64 0, .int .i64 0, .int .i64 0, .slice none 0 0])) 0) 56))
  go_wp2_with (fail)
  go_loopw [11] (fun iv wr => iv = .int .i64 0 ∧ Hid (Only (fun _ => False) w wr)) (fun _ _ => 0)
  case atStart => exact ⟨rfl, HO⟩
  case round =>
    obtain ⟨rfl, HON⟩ := hrel
    go_wp2
    go_ret
    exact ⟨_, rfl, HON.out⟩
end
end Go.Proofs.Ytebeoganblcblaa
