/- The program's own reading of the numbers behind a code. No condition. -/
import Derived.Test.YtngoajhnnlnphaaOpsF
import Derived.Laws.Rows
import Derived.Laws.ResultCell
namespace Go.Proofs.Ytngoajhnnlnphaa
open Go.RowKit
set_option linter.unusedVariables false
set_option linter.unusedSimpArgs false

theorem cells5 {w : World} {b : Nat} {c0 c1 c2 c3 c4 : Value} {t : TypeId} {f : Nat × Nat} (h : w.heap[b]? = some (.cells #[c0, c1, c2, c3, c4] t f)) :
    w.cell? ⟨b, 0, none⟩ = some c0 ∧ w.cell? ⟨b, 1, none⟩ = some c1 ∧ w.cell? ⟨b, 2, none⟩ = some c2 ∧ w.cell? ⟨b, 3, none⟩ = some c3 ∧ w.cell? ⟨b, 4, none⟩ = some c4 :=
  ⟨cell_blk h 0, cell_blk h 1, cell_blk h 2, cell_blk h 3, cell_blk h 4⟩
theorem marks5 {w : World} {b : Nat} {c : Array Value} {t : TypeId} (h : w.heap[b]? = some (.cells c t (0, 0))) :
    w.frozen? ⟨b, 0, none⟩ = false ∧ w.frozen? ⟨b, 1, none⟩ = false ∧ w.frozen? ⟨b, 2, none⟩ = false ∧ w.frozen? ⟨b, 3, none⟩ = false ∧ w.frozen? ⟨b, 4, none⟩ = false :=
  ⟨frozen_blk h 0, frozen_blk h 1, frozen_blk h 2, frozen_blk h 3, frozen_blk h 4⟩
/-- A boxed argument and a result of five cells, both new. -/
theorem box2 {w : World} {c d : Array Value} {s t : TypeId} : ((w.alloc (.cells c s)).alloc (.cells d t)).heap[w.heap.size]? = some (.cells c s (0, 0)) ∧ ((w.alloc (.cells c s)).alloc (.cells d t)).heap[w.heap.size + 1]? = some (.cells d t (0, 0)) := by
  have h1 := heap_alloc_new w (.cells c s)
  have ho := (Only.refl (fun _ => False) (w.alloc (.cells c s))).alloc (.cells d t)
  refine ⟨ho.heap h1 (fun h => h), ?_⟩
  have h2 := heap_alloc_new (w.alloc (.cells c s)) (.cells d t)
  simpa using h2
theorem store5 {w : World} {b : Nat} {T : TypeId} {f : Nat × Nat} {o0 o1 o2 o3 o4 a0 a1 a2 a3 a4 : Value} (h : w.heap[b]? = some (.cells #[o0, o1, o2, o3, o4] T f)) :
    (((((w.setCell ⟨b, 0, none⟩ a0).setCell ⟨b, 1, none⟩ a1).setCell ⟨b, 2, none⟩ a2).setCell ⟨b, 3, none⟩ a3).setCell ⟨b, 4, none⟩ a4).heap[b]? = some (.cells #[a0, a1, a2, a3, a4] T f) := by
  have h0 := heap_setCell_at (i := 0) (u := a0) h
  simp only [List.setIfInBounds_toArray, List.set_cons_zero, List.set_cons_succ] at h0
  have h1 := heap_setCell_at (i := 1) (u := a1) h0
  simp only [List.setIfInBounds_toArray, List.set_cons_zero, List.set_cons_succ] at h1
  have h2 := heap_setCell_at (i := 2) (u := a2) h1
  simp only [List.setIfInBounds_toArray, List.set_cons_zero, List.set_cons_succ] at h2
  have h3 := heap_setCell_at (i := 3) (u := a3) h2
  simp only [List.setIfInBounds_toArray, List.set_cons_zero, List.set_cons_succ] at h3
  have h4 := heap_setCell_at (i := 4) (u := a4) h3
  simp only [List.setIfInBounds_toArray, List.set_cons_zero, List.set_cons_succ] at h4
  exact h4
theorem only5 {S : Nat → Prop} {w w' : World} {b : Nat} {a0 a1 a2 a3 a4 : Value} (h : Only S w w') (hb : b < w.heap.size → S b) :
    Only S w (((((w'.setCell ⟨b, 0, none⟩ a0).setCell ⟨b, 1, none⟩ a1).setCell ⟨b, 2, none⟩ a2).setCell ⟨b, 3, none⟩ a3).setCell ⟨b, 4, none⟩ a4) := by
  iterate 5 (refine Only.setCell (S := S) ?_ hb _)
  exact h
theorem heap_drew {w : World} {b : Nat} {o : Option Obj} (h : w.heap[b]? = o) : w.drew.heap[b]? = o := h
theorem info5_instr : (Try.prog.info? 39).map (·.size) = some 5 := by kernel_rfl
/-- A result of an instruction and a number; of an instruction alone. -/
theorem instr_result {fn : Func} {p q : Tmp} (hr : fn.results = #[.cell p 39, .tmp q]) {w : World} {b : Nat} {i : InstrV} {x : Value} {tmps : Array Value} (h : w.heap[b]? = some (.cells #[.int .i64 i.at_, .int .i64 i.op, .int .i64 i.a, .int .i64 i.b, .int .i64 i.size] 39 (0, 0))) (ht : tmps.getD p undef = .pointer (some ⟨b, 0, none⟩)) (hx : tmps.getD q undef = x) :
    (results fn tmps).run Try.prog w = .ok (.tuple #[valI i, x]) w := by
  rw [results_cell_tmp hr, ht, hx, show (asAddr (.pointer (some ⟨b, 0, none⟩))).run Try.prog w = .ok ⟨b, 0, none⟩ w from rfl]
  simp only [Result.andThen]
  rw [run_loadVar_row w b 39 39 _ (0, 0) _ h Try.underlying39 rfl info5_instr]
  rfl
theorem instr_alone {fn : Func} {p : Tmp} (hr : fn.results = #[.cell p 39]) {w : World} {b : Nat} {i : InstrV} {tmps : Array Value} (h : w.heap[b]? = some (.cells #[.int .i64 i.at_, .int .i64 i.op, .int .i64 i.a, .int .i64 i.b, .int .i64 i.size] 39 (0, 0))) (ht : tmps.getD p undef = .pointer (some ⟨b, 0, none⟩)) :
    (results fn tmps).run Try.prog w = .ok (valI i) w :=
  results_cell_row hr tmps w b 39 _ (0, 0) _ ht h Try.underlying39 rfl info5_instr
set_option maxHeartbeats 4000000 in
set_option maxRecDepth 100000 in
theorem progOpsRead (an bn : Nat) (asg bsg leads : Bool) (at_ : Int) (rb : Nat) (sv : Value) (zs : List Int) (k : Nat) (w : World) (h : Rd w rb sv zs k) (han : an ≤ 2) (hbn : bn ≤ 2) (hroom : k + an + bn ≤ zs.length) (ha0 : 0 ≤ at_) (ha1 : at_ ≤ 140737488355328) :
    Calls Try.prog 37 #[.pointer (some ⟨rb, 0, none⟩), .agg #[.int .i64 an, .bool asg, .int .i64 bn, .bool bsg, .bool leads], .int .i64 at_] w fun e w' =>
      e = .returned (.tuple #[valI ⟨at_, 0, numZ asg an (zs.drop k) + (if leads then at_ else 0), numZ bsg bn (zs.drop (k + an)), ((k + an + bn : Nat) : Int)⟩, .int .i64 0]) ∧ RdTo w rb sv zs (k + an + bn) w' := by
  have hlt := h.lt.1
  have hbz := h.byt
  have hva := num_bound asg han (hbz.drop k) (by simp; omega)
  obtain ⟨w2, hw2⟩ : ∃ w2, w2 = (w.alloc (.cells #[.int .i64 an, .bool asg, .int .i64 bn, .bool bsg, .bool leads] 87)).alloc (.cells #[.int .i64 0, .int .i64 0, .int .i64 0, .int .i64 0, .int .i64 0] 39) := ⟨_, rfl⟩
  have hbx := box2 (w := w) (c := #[.int .i64 an, .bool asg, .int .i64 bn, .bool bsg, .bool leads]) (d := #[.int .i64 0, .int .i64 0, .int .i64 0, .int .i64 0, .int .i64 0]) (s := 87) (t := 39)
  have ho2 : Only (fun _ => False) w w2 := by rw [hw2]; exact ((Only.refl _ w).alloc _).alloc _
  rw [← hw2] at hbx
  obtain ⟨hbox, hres⟩ := hbx
  have c1 := progRead an asg rb sv zs k w2 (h.only ho2 (fun h => h) (fun _ _ h => h)) han (by omega)
  have c2 := fun w3 h3 => progRead bn bsg rb sv zs (k + an) w3 h3 hbn hroom
  have hks : rb ≠ w.heap.size ∧ rb ≠ w.heap.size + 1 ∧ ∀ j, sv.ownBlock = some j → j ≠ w.heap.size + 1 := ⟨by omega, by omega, fun j hj => by have := h.lt.2 j hj; omega⟩
  generalize hna : numZ asg an (zs.drop k) = va at *
  generalize hnb : numZ bsg bn (zs.drop (k + an)) = vb at *
  generalize hk1 : k + an = k1 at *
  generalize hk2 : k1 + bn = k2 at *
  generalize hr : valI ⟨at_, 0, va + (if leads then at_ else 0), vb, (k2 : Int)⟩ = r
  have HR := Lib.hid hr
  have C1 := Lib.hid c1
  have C2 := Lib.hid c2
  have HW2 := Lib.hid hw2
  have HO2 := Lib.hid ho2
  have HBOX := Lib.hid hbox
  have HRES := Lib.hid hres
  have HKS := Lib.hid hks
  clear hr c1 c2 hw2 ho2 hbox hres hroom hlt h hna hnb hk1 hk2 hbz hks
  go_enter Try.func37, Try.ntmps37
  go_wp2_with (fail)
  rw [← HW2.out]
  refine C1.out.mono ?_
  rintro e w3 ⟨rfl, h3, ho3⟩
  have hb3 := ho3.heap HBOX.out HKS.out.1.symm
  have hr3 := ho3.heap HRES.out HKS.out.2.1.symm
  obtain ⟨q0, q1, q2, q3, q4⟩ := cells5 hb3
  have c3 := C2.out w3 h3
  have C3 := Lib.hid c3
  have HB3 := Lib.hid hb3
  have HR3 := Lib.hid hr3
  have HO3 := Lib.hid ho3
  clear c3 hb3 hr3 ho3 h3 C1 C2
  go_wp2_with (fail)
  refine C3.out.mono ?_
  rintro e w4 ⟨rfl, h4, ho4⟩
  have hb4 := ho4.heap HB3.out HKS.out.1.symm
  have hr4 := ho4.heap HR3.out HKS.out.2.1.symm
  clear q0 q1 q2 q3 q4
  obtain ⟨q0, q1, q2, q3, q4⟩ := cells5 hb4
  obtain ⟨f0, f1, f2, f3, f4⟩ := marks5 hr4
  obtain ⟨r0, r1, r2, r3, r4⟩ := cells5 hr4
  have c4 := rdAtM rb sv zs k2 w4 h4
  have hon : Only (fun b => b = rb) w w4 := (HO2.out.mono (fun _ h _ => h.elim)).trans (HO3.out.trans ho4 (fun _ h _ => h)) (fun _ h _ => h)
  have C4 := Lib.hid c4
  have H4 := Lib.hid h4
  have HON := Lib.hid hon
  have HR4 := Lib.hid hr4
  clear c4 h4 hon hb4 hr4 ho4 C3 HB3 HR3 HO3 HW2 HO2 HBOX HRES
  cases leads
  · go_wp2_with (fail)
    refine C4.out.mono ?_
    rintro e w5 ⟨rfl, rfl⟩
    go_wp2
    refine bodyPost_ret (instr_result (i := ⟨at_, 0, va + 0, vb, (k2 : Int)⟩) Try.results37 (by simpa using store5 HR4.out) rfl rfl) rfl ⟨?_, ?_⟩
    · rw [← HR.out]; rfl
    · have ho5 := only5 (a0 := .int .i64 at_) (a1 := .int .i64 0) (a2 := .int .i64 va) (a3 := .int .i64 vb) (a4 := .int .i64 (k2 : Int)) (Only.refl (fun j => j = w.heap.size + 1) w4) (fun _ => rfl)
      exact ⟨H4.out.only ho5 HKS.out.2.1 HKS.out.2.2, HON.out.trans ho5 (fun j hj hl => by omega)⟩
  · go_wp2_with (fail)
    refine C4.out.mono ?_
    rintro e w5 ⟨rfl, rfl⟩
    go_wp2
    refine bodyPost_ret (instr_result (i := ⟨at_, 0, va + at_, vb, (k2 : Int)⟩) Try.results37 (by simpa using store5 HR4.out) rfl rfl) rfl ⟨?_, ?_⟩
    · rw [← HR.out]; rfl
    · have ho5 := only5 (a0 := .int .i64 at_) (a1 := .int .i64 0) (a2 := .int .i64 (va + at_)) (a3 := .int .i64 vb) (a4 := .int .i64 (k2 : Int)) (Only.refl (fun j => j = w.heap.size + 1) w4) (fun _ => rfl)
      exact ⟨H4.out.only ho5 HKS.out.2.1 HKS.out.2.2, HON.out.trans ho5 (fun j hj hl => by omega)⟩

set_option maxHeartbeats 4000000 in
set_option maxRecDepth 100000 in
theorem progOpsShort (an bn : Nat) (asg bsg leads : Bool) (at_ : Int) (rb : Nat) (sv : Value) (zs : List Int) (k : Nat) (w : World) (h : Rd w rb sv zs k) (han : an ≤ 2) (hbn : bn ≤ 2) (hroom : zs.length < k + an + bn) :
    Calls Try.prog 37 #[.pointer (some ⟨rb, 0, none⟩), .agg #[.int .i64 an, .bool asg, .int .i64 bn, .bool bsg, .bool leads], .int .i64 at_] w fun e w' =>
      e = .returned (.tuple #[valI zeroI, .int .i64 3]) ∧ Only (fun b => b = rb) w w' := by
  have hlt := h.lt.1
  obtain ⟨w2, hw2⟩ : ∃ w2, w2 = (w.alloc (.cells #[.int .i64 an, .bool asg, .int .i64 bn, .bool bsg, .bool leads] 87)).alloc (.cells #[.int .i64 0, .int .i64 0, .int .i64 0, .int .i64 0, .int .i64 0] 39) := ⟨_, rfl⟩
  have hbx := box2 (w := w) (c := #[.int .i64 an, .bool asg, .int .i64 bn, .bool bsg, .bool leads]) (d := #[.int .i64 0, .int .i64 0, .int .i64 0, .int .i64 0, .int .i64 0]) (s := 87) (t := 39)
  have ho2 : Only (fun _ => False) w w2 := by rw [hw2]; exact ((Only.refl _ w).alloc _).alloc _
  rw [← hw2] at hbx
  obtain ⟨hbox, hres⟩ := hbx
  have h2 := h.only ho2 (fun h => h) (fun _ _ h => h)
  have hks : rb ≠ w.heap.size ∧ rb ≠ w.heap.size + 1 := ⟨by omega, by omega⟩
  have HW2 := Lib.hid hw2
  have HO2 := Lib.hid ho2
  have HBOX := Lib.hid hbox
  have HRES := Lib.hid hres
  have HKS := Lib.hid hks
  by_cases h1 : zs.length < k + an
  · have c1 := progReadShort an asg rb sv zs k w2 h2 han h1
    have C1 := Lib.hid c1
    clear c1 hw2 ho2 hbox hres hroom hlt h hks h2 h1
    go_enter Try.func37, Try.ntmps37
    go_wp2_with (fail)
    rw [← HW2.out]
    refine C1.out.mono ?_
    rintro e w3 ⟨rfl, h3, ho3⟩
    have hr3 := ho3.heap HRES.out HKS.out.2.symm
    obtain ⟨f0, f1, f2, f3, f4⟩ := marks5 hr3
    obtain ⟨r0, r1, r2, r3, r4⟩ := cells5 hr3
    have hon : Only (fun b => b = rb) w w3 := (HO2.out.mono (fun _ h _ => h.elim)).trans ho3 (fun _ h _ => h)
    have HON := Lib.hid hon
    have HR3 := Lib.hid hr3
    clear h3 ho3 hon hr3 C1
    go_wp2
    refine bodyPost_ret (instr_result (i := zeroI) Try.results37 ?_ rfl rfl) rfl ⟨rfl, ?_⟩
    · exact store5 HR3.out
    · exact only5 HON.out (fun hl => absurd hl (by omega))
  · have c1 := progRead an asg rb sv zs k w2 h2 han (by omega)
    have c2 := fun w3 h3 => progReadShort bn bsg rb sv zs (k + an) w3 h3 hbn hroom
    generalize hna : numZ asg an (zs.drop k) = va at *
    generalize hk1 : k + an = k1 at *
    have C1 := Lib.hid c1
    have C2 := Lib.hid c2
    clear c1 c2 hw2 ho2 hbox hres hroom hlt h hks h2 h1 hna hk1
    go_enter Try.func37, Try.ntmps37
    go_wp2_with (fail)
    rw [← HW2.out]
    refine C1.out.mono ?_
    rintro e w3 ⟨rfl, h3, ho3⟩
    have hb3 := ho3.heap HBOX.out HKS.out.1.symm
    have hr3 := ho3.heap HRES.out HKS.out.2.symm
    obtain ⟨q0, q1, q2, q3, q4⟩ := cells5 hb3
    have c3 := C2.out w3 h3
    have C3 := Lib.hid c3
    have HB3 := Lib.hid hb3
    have HR3 := Lib.hid hr3
    have HO3 := Lib.hid ho3
    clear c3 hb3 hr3 ho3 h3 C1 C2
    go_wp2_with (fail)
    refine C3.out.mono ?_
    rintro e w4 ⟨rfl, h4, ho4⟩
    have hr4 := ho4.heap HR3.out HKS.out.2.symm
    clear q0 q1 q2 q3 q4
    obtain ⟨f0, f1, f2, f3, f4⟩ := marks5 hr4
    obtain ⟨r0, r1, r2, r3, r4⟩ := cells5 hr4
    have hon : Only (fun b => b = rb) w w4 := (HO2.out.mono (fun _ h _ => h.elim)).trans (HO3.out.trans ho4 (fun _ h _ => h)) (fun _ h _ => h)
    have HON := Lib.hid hon
    have HR4 := Lib.hid hr4
    clear h4 hon hr4 ho4 C3 HB3 HR3 HO3 HW2 HO2 HBOX HRES
    go_wp2
    refine bodyPost_ret (instr_result (i := zeroI) Try.results37 ?_ rfl rfl) rfl ⟨rfl, ?_⟩
    · exact store5 HR4.out
    · exact only5 HON.out (fun hl => absurd hl (by omega))
end Go.Proofs.Ytngoajhnnlnphaa
