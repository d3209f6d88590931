/- The program's heap as it is laid; First, New, and what is asked of it alone. No condition. -/
import Derived.Test.YtebeoganblcblaaHpPa
import Derived.Test.YtebeoganblcblaaHpE
namespace Go.Proofs.Ytebeoganblcblaa
open Go.RowKit
set_option linter.unusedVariables false
set_option linter.unusedSimpArgs false

def valPo (x : ObP) : Value := .agg #[.int .i64 x.t.k, .string x.t.name, .int .i64 x.t.dims, .int .i64 x.t.elem, .int .i64 x.t.at_, .int .i64 (x.a : Int), .int .i64 (x.b : Int)]
theorem info_op : (Try.prog.info? 78).map (fun i => (i.zero, i.size, i.bytes)) = some (some (.agg #[.int .i64 0, .string ⟨#[]⟩, .int .i64 0, .int .i64 0, .int .i64 0, .int .i64 0, .int .i64 0]), 7, 64) := by kernel_rfl
theorem size_op : (Try.prog.info? 78).map (·.size) = some 7 := by kernel_rfl
/-- The program's heap at p, whose blocks are all in G. -/
structure HeapQ (w : World) (G : Nat → Prop) (p : Nat) (L V : Value) (ps : List ObP) (vs : List ValV) (most : Int) : Prop where
  blk : w.heap[p]? = some (.cells #[.int .i64 most, L, V, .bool true] 64 (0, 0))
  row : RowG 78 7 cellsPo w 0 L ps
  val : RowG 34 3 cellsVa w 0 V vs
  lt : ∀ k, G k → k < w.heap.size
  gp : G p
  gL : ∀ k, L.ownBlock = some k → G k ∧ k ≠ p
  gV : ∀ k, V.ownBlock = some k → G k ∧ k ≠ p ∧ L.ownBlock ≠ some k
  few : ps.length ≤ 1024
  fewV : vs.length ≤ 1048576
  most0 : most ≤ 1024
theorem HeapQ.only {w w' : World} {G S : Nat → Prop} {p : Nat} {L V : Value} {ps : List ObP} {vs : List ValV} {most : Int} (h : HeapQ w G p L V ps vs most) (ho : Only S w w') (hs : ∀ k, G k → ¬ S k) : HeapQ w' G p L V ps vs most :=
  ⟨ho.heap h.blk (hs _ h.gp), RowG.only h.row ho (fun k hk => hs k (h.gL k hk).1), RowG.only h.val ho (fun k hk => hs k (h.gV k hk).1),
    fun k hk => Nat.lt_of_lt_of_le (h.lt k hk) ho.size, h.gp, h.gL, h.gV, h.few, h.fewV, h.most0⟩
theorem op_result2 {fn : Func} {p q : Tmp} (hr : fn.results = #[.cell p 78, .tmp q]) {w : World} {b : Nat} {t : ObP} {tmps : Array Value} {x : Value} (h : w.heap[b]? = some (.cells #[.int .i64 t.t.k, .string t.t.name, .int .i64 t.t.dims, .int .i64 t.t.elem, .int .i64 t.t.at_, .int .i64 (t.a : Int), .int .i64 (t.b : Int)] 78 (0, 0))) (ht : tmps.getD p undef = .pointer (some ⟨b, 0, none⟩)) (hx : tmps.getD q undef = x) :
    (results fn tmps).run Try.prog w = .ok (.tuple #[valPo t, x]) w := by
  rw [results_cell_tmp hr, ht, hx, show (asAddr (.pointer (some ⟨b, 0, none⟩))).run Try.prog w = .ok ⟨b, 0, none⟩ w from rfl]
  simp only [Result.andThen]
  rw [run_loadVar_row w b 78 78 _ (0, 0) _ h Try.underlying78 rfl size_op]
  rfl
theorem cells7O {w : World} {b : Nat} {c0 c1 c2 c3 c4 c5 c6 : Value} {t : TypeId} {f : Nat × Nat} (h : w.heap[b]? = some (.cells #[c0, c1, c2, c3, c4, c5, c6] t f)) :
    w.cell? ⟨b, 0, none⟩ = some c0 ∧ w.cell? ⟨b, 1, none⟩ = some c1 ∧ w.cell? ⟨b, 2, none⟩ = some c2 ∧ w.cell? ⟨b, 3, none⟩ = some c3 ∧ w.cell? ⟨b, 4, none⟩ = some c4 ∧ w.cell? ⟨b, 5, none⟩ = some c5 ∧ w.cell? ⟨b, 6, none⟩ = some c6 := ⟨cell_blk h 0, cell_blk h 1, cell_blk h 2, cell_blk h 3, cell_blk h 4, cell_blk h 5, cell_blk h 6⟩
theorem marks7O {w : World} {b : Nat} {c : Array Value} {t : TypeId} (h : w.heap[b]? = some (.cells c t (0, 0))) :
    w.frozen? ⟨b, 0, none⟩ = false ∧ w.frozen? ⟨b, 1, none⟩ = false ∧ w.frozen? ⟨b, 2, none⟩ = false ∧ w.frozen? ⟨b, 3, none⟩ = false ∧ w.frozen? ⟨b, 4, none⟩ = false ∧ w.frozen? ⟨b, 5, none⟩ = false ∧ w.frozen? ⟨b, 6, none⟩ = false := ⟨frozen_blk h 0, frozen_blk h 1, frozen_blk h 2, frozen_blk h 3, frozen_blk h 4, frozen_blk h 5, frozen_blk h 6⟩
theorem store7O {w : World} {b : Nat} {T : TypeId} {f : Nat × Nat} {o0 o1 o2 o3 o4 o5 o6 a0 a1 a2 a3 a4 a5 a6 : Value} (h : w.heap[b]? = some (.cells #[o0, o1, o2, o3, o4, o5, o6] T f)) :
    (((((((w.setCell ⟨b, 0, none⟩ a0).setCell ⟨b, 1, none⟩ a1).setCell ⟨b, 2, none⟩ a2).setCell ⟨b, 3, none⟩ a3).setCell ⟨b, 4, none⟩ a4).setCell ⟨b, 5, none⟩ a5).setCell ⟨b, 6, none⟩ a6).heap[b]? = some (.cells #[a0, a1, a2, a3, a4, a5, a6] T f) := by
  have h0 := heap_setCell_at (i := 0) (u := a0) h
  simp only [List.setIfInBounds_toArray, List.set_cons_zero, List.set_cons_succ] at h0
  have h1 := heap_setCell_at (i := 1) (u := a1) h0
  simp only [List.setIfInBounds_toArray, List.set_cons_zero, List.set_cons_succ] at h1
  have h2 := heap_setCell_at (i := 2) (u := a2) h1
  simp only [List.setIfInBounds_toArray, List.set_cons_zero, List.set_cons_succ] at h2
  have h3 := heap_setCell_at (i := 3) (u := a3) h2
  simp only [List.setIfInBounds_toArray, List.set_cons_zero, List.set_cons_succ] at h3
  have h4 := heap_setCell_at (i := 4) (u := a4) h3
  simp only [List.setIfInBounds_toArray, List.set_cons_zero, List.set_cons_succ] at h4
  have h5 := heap_setCell_at (i := 5) (u := a5) h4
  simp only [List.setIfInBounds_toArray, List.set_cons_zero, List.set_cons_succ] at h5
  have h6 := heap_setCell_at (i := 6) (u := a6) h5
  simp only [List.setIfInBounds_toArray, List.set_cons_zero, List.set_cons_succ] at h6
  exact h6
theorem only7O {S : Nat → Prop} {w w' : World} {b : Nat} {a0 a1 a2 a3 a4 a5 a6 : Value} (h : Only S w w') (hb : b < w.heap.size → S b) : Only S w (((((((w'.setCell ⟨b, 0, none⟩ a0).setCell ⟨b, 1, none⟩ a1).setCell ⟨b, 2, none⟩ a2).setCell ⟨b, 3, none⟩ a3).setCell ⟨b, 4, none⟩ a4).setCell ⟨b, 5, none⟩ a5).setCell ⟨b, 6, none⟩ a6) := by
  iterate 7 (refine Only.setCell (S := S) ?_ hb _)
  exact h
set_option maxHeartbeats 4000000 in
set_option maxRecDepth 100000 in
theorem progFirst14 (t : TypeV) (w : World) : Calls Try.prog 16 #[valT t] w fun e w' => e = .returned (valVa (firstZ t)) ∧ Only (fun _ => False) w w' := by
  unfold firstZ valT
  obtain ⟨k, nm, d, el, a⟩ := t
  simp only
  by_cases h1 : k = 1
  · subst h1
    go_enter Try.func16, Try.ntmps16
    go_wp2
    exact bodyPost_ret (val_result Try.results16 (t := ⟨1, 0, 0⟩) (heap_alloc_new _ _) (by simp)) rfl ⟨rfl, ((Only.refl _ w).alloc _).alloc _⟩
  have e1 : (k == 1) = false := by rw [beq_eq_false_iff_ne]; exact h1
  by_cases h2 : k = 2
  · subst h2
    go_enter Try.func16, Try.ntmps16
    go_wp2
    exact bodyPost_ret (val_result Try.results16 (t := ⟨2, 0, 0⟩) (heap_alloc_new _ _) (by simp)) rfl ⟨rfl, ((Only.refl _ w).alloc _).alloc _⟩
  have e2 : (k == 2) = false := by rw [beq_eq_false_iff_ne]; exact h2
  by_cases h4 : k = 4
  · subst h4
    go_enter Try.func16, Try.ntmps16
    go_wp2
    exact bodyPost_ret (val_result Try.results16 (t := ⟨3, 0, 0⟩) (heap_alloc_new _ _) (by simp)) rfl ⟨rfl, ((Only.refl _ w).alloc _).alloc _⟩
  have e4 : (k == 4) = false := by rw [beq_eq_false_iff_ne]; exact h4
  by_cases h5 : k = 5
  · subst h5
    go_enter Try.func16, Try.ntmps16
    go_wp2
    exact bodyPost_ret (val_result Try.results16 (t := ⟨3, 0, 0⟩) (heap_alloc_new _ _) (by simp)) rfl ⟨rfl, ((Only.refl _ w).alloc _).alloc _⟩
  have e5 : (k == 5) = false := by rw [beq_eq_false_iff_ne]; exact h5
  by_cases h3 : k = 3
  · subst h3
    go_enter Try.func16, Try.ntmps16
    go_wp2
    exact bodyPost_ret (val_result Try.results16 (t := ⟨3, 0, 0⟩) (heap_alloc_new _ _) (by simp)) rfl ⟨rfl, ((Only.refl _ w).alloc _).alloc _⟩
  have e3 : (k == 3) = false := by rw [beq_eq_false_iff_ne]; exact h3
  rw [if_neg h1, if_neg h2, if_neg (by omega)]
  clear h1 h2 h3 h4 h5
  go_enter Try.func16, Try.ntmps16
  go_wp2
  exact bodyPost_ret (val_result Try.results16 (t := ⟨0, 0, 0⟩) (heap_alloc_new _ _) (by simp)) rfl ⟨rfl, ((Only.refl _ w).alloc _).alloc _⟩
set_option maxHeartbeats 4000000 in
set_option maxRecDepth 100000 in
theorem progNewBad (m : Int) (hm : m < 0 ∨ 1024 < m) (w : World) : Calls Try.prog 9 #[.int .i64 m] w fun e w' => e = .returned (.tuple #[.pointer none, .int .i64 1]) ∧ Only (fun _ => False) w w' := by
  by_cases h1 : m < 0
  · have e1 : decide (m < 0) = true := by simpa using h1
    clear hm
    go_enter Try.func9, Try.ntmps9
    go_wp2
    go_ret2
    exact ⟨rfl, Only.refl _ _⟩
  · have e1 : decide (m < 0) = false := by simpa using h1
    have e2 : decide (1024 < m) = true := by simp only [decide_eq_true_eq]; omega
    clear hm
    go_enter Try.func9, Try.ntmps9
    go_wp2
    go_ret2
    exact ⟨rfl, Only.refl _ _⟩
set_option maxHeartbeats 4000000 in
set_option maxRecDepth 100000 in
theorem progNewQ (m : Int) (h0 : 0 ≤ m) (hm : m ≤ 1024) (w : World) : Calls Try.prog 9 #[.int .i64 m] w fun e w' =>
    e = .returned (.tuple #[.pointer (some ⟨w.heap.size, 0, none⟩), .int .i64 0]) ∧ HeapQ w' (fun k => k = w.heap.size) w.heap.size (.slice none 0 0) (.slice none 0 0) [] [] m ∧ Only (fun _ => False) w w' := by
  have e1 : decide (m < 0) = false := by simp only [decide_eq_false_iff_not]; omega
  have e2 : decide (1024 < m) = false := by simp only [decide_eq_false_iff_not]; omega
  have HM := Lib.hid hm
  clear h0 hm
  go_enter Try.func9, Try.ntmps9
  go_wp2
  go_ret2
  exact ⟨rfl, ⟨heap_alloc_new _ _, RowG.nil _ _, RowG.nil _ _, fun k hk => (by subst hk; simp), rfl, fun k hk => (by cases hk), fun k hk => (by cases hk), Nat.zero_le _, Nat.zero_le _, HM.out⟩, (Only.refl _ w).alloc _⟩
section
variable {w : World} {G : Nat → Prop} {p : Nat} {L V : Value} {ps : List ObP} {vs : List ValV} {most : Int} (h : HeapQ w G p L V ps vs most)
include h
theorem HeapQ.z : ∃ ao cap av cv, L = .slice ao ps.length cap ∧ V = .slice av vs.length cv ∧ w.cell? ⟨p, 0, none⟩ = some (.int .i64 most) ∧ w.cell? ⟨p, 1, none⟩ = some (.slice ao ps.length cap) ∧ w.cell? ⟨p, 2, none⟩ = some (.slice av vs.length cv) ∧ w.cell? ⟨p, 3, none⟩ = some (.bool true) := by
  obtain ⟨ao, cap, rfl, -, -⟩ := slice_of_owns h.row
  obtain ⟨av, cv, rfl, -, -⟩ := slice_of_owns h.val
  exact ⟨ao, cap, av, cv, rfl, rfl, cell_blk h.blk 0, cell_blk h.blk 1, cell_blk h.blk 2, cell_blk h.blk 3⟩
set_option maxHeartbeats 4000000 in
set_option maxRecDepth 100000 in
theorem pIsZero14 : Calls Try.prog 31 #[.pointer (some ⟨p, 0, none⟩)] w fun e w' => e = .returned (.bool false) ∧ w = w' := by
  obtain ⟨ao, cap, av, cv, -, -, z0, z1, z2, z3⟩ := h.z
  clear h z0 z1 z2
  go_enter Try.func31, Try.ntmps31
  go_wp2
  go_ret
  exact ⟨rfl, rfl⟩
set_option maxHeartbeats 4000000 in
set_option maxRecDepth 100000 in
theorem pIsFull14 : Calls Try.prog 34 #[.pointer (some ⟨p, 0, none⟩)] w fun e w' => e = .returned (.bool (decide (most ≤ (ps.length : Int)))) ∧ Only (fun _ => False) w w' := by
  obtain ⟨ao, cap, av, cv, -, -, z0, z1, z2, z3⟩ := h.z
  clear h z2 z3
  go_enter Try.func34, Try.ntmps34
  go_wp2
  go_region
  all_goals go_wp2
  all_goals go_ret
  all_goals exact ⟨rfl, (Only.refl _ _).drew⟩
set_option maxHeartbeats 4000000 in
set_option maxRecDepth 100000 in
theorem pCount14 : Calls Try.prog 12 #[.pointer (some ⟨p, 0, none⟩)] w fun e w' => e = .returned (.int .i64 (ps.length : Int)) ∧ w = w' := by
  have C := Lib.hid (pIsZero14 h)
  obtain ⟨ao, cap, av, cv, -, -, z0, z1, z2, z3⟩ := h.z
  clear h z2 z3 z0
  go_enter Try.func12, Try.ntmps12
  go_wp2_with (fail)
  refine C.out.mono ?_
  rintro e w1 ⟨rfl, rfl⟩
  go_wp2
  go_ret
  exact ⟨rfl, rfl⟩
/-- The cells of an object. -/
theorem HeapQ.ob {i : Nat} (hi : i < ps.length) : ∃ b cap, L = .slice (some ⟨b, 0, none⟩) ps.length cap ∧ (∀ d, d < 7 → w.cell? ⟨b, i * 7 + d, none⟩ = (cellsPo (ps.getD i default))[d]?) := by
  obtain ⟨ao', cap', e, h1, h2, h3, h4⟩ := RowG.sl lenPo h.row
  rcases h.row.2 with ⟨e, e2⟩ | ⟨g, cap2, cur, e', hb, hg, hnc, hcm, hcs, htake⟩
  · rw [e2] at hi; exact absurd hi (Nat.not_lt_zero _)
  · subst e'
    injection e with e1 e2 e3
    subst e1 e3
    obtain ⟨b, o, e, h5⟩ := h4 _ rfl (by omega)
    injection e with e1 e2
    subst e1 e2
    refine ⟨g, cap2, rfl, fun d hd => ?_⟩
    have := h5 _ hi d hd
    rwa [Nat.zero_add] at this
end
def zeroPo : ObP := ⟨zeroT, 0, 0⟩
def findZ14 (ps : List ObP) (r : Int) : ObP × Int := if isOb ps.length r then (ps.getD (r.toNat - 1) default, 0) else (zeroPo, 6)
section
variable {w : World} {G : Nat → Prop} {p : Nat} {L V : Value} {ps : List ObP} {vs : List ValV} {most : Int} (h : HeapQ w G p L V ps vs most)
include h
set_option maxHeartbeats 8000000 in
set_option maxRecDepth 100000 in
theorem pFind14 (r : Int) : Calls Try.prog 38 #[.pointer (some ⟨p, 0, none⟩), .int .i64 r] w fun e w' => e = .returned (.tuple #[valPo (findZ14 ps r).1, .int .i64 (findZ14 ps r).2]) ∧ Only (fun _ => False) w w' := by
  unfold findZ14
  have ho := (Only.refl (fun _ => False) w).alloc (.cells #[.int .i64 0, .string ⟨#[]⟩, .int .i64 0, .int .i64 0, .int .i64 0, .int .i64 0, .int .i64 0] 78)
  have hr0 := heap_alloc_new w (.cells #[.int .i64 0, .string ⟨#[]⟩, .int .i64 0, .int .i64 0, .int .i64 0, .int .i64 0, .int .i64 0] 78)
  obtain ⟨W0, hW0⟩ : ∃ W0, w.alloc (.cells #[.int .i64 0, .string ⟨#[]⟩, .int .i64 0, .int .i64 0, .int .i64 0, .int .i64 0, .int .i64 0] 78) = W0 := ⟨_, rfl⟩
  rw [hW0] at ho hr0
  have h' := h.only ho (fun _ _ h => h)
  have C := Lib.hid (pIsZero14 h')
  have HR0 := Lib.hid hr0
  have HO0 := Lib.hid ho
  have HW0 := Lib.hid hW0
  obtain ⟨ao, cap, av, cv, hL, -, z0, z1, z2, z3⟩ := h'.z
  obtain ⟨m0, m1, m2, m3, m4, m5, m6⟩ := marks7O HR0.out
  by_cases h1 : r < 1
  · rw [if_neg (by unfold isOb; simp only [Bool.and_eq_true, decide_eq_true_eq]; omega)]
    have d1 : decide (r < 1) = true := by simpa using h1
    obtain ⟨q0, q1, q2, q3, q4, q5, q6⟩ := cells7O HR0.out
    clear h h' ho hr0 hW0 h1 hL
    go_enter Try.func38, Try.ntmps38
    go_wp2_with (fail)
    rw [HW0.out]
    refine C.out.mono ?_
    rintro e w1 ⟨rfl, hww⟩
    subst hww
    go_wp2
    exact bodyPost_ret (op_result2 (t := zeroPo) (b := w.heap.size) Try.results38 (store7O HR0.out) rfl rfl) rfl ⟨rfl, only7O HO0.out (fun hl => absurd hl (Nat.lt_irrefl _))⟩
  have d1 : decide (r < 1) = false := by simpa using h1
  by_cases h2 : (ps.length : Int) < r
  · rw [if_neg (by unfold isOb; simp only [Bool.and_eq_true, decide_eq_true_eq]; omega)]
    have d2 : decide ((ps.length : Int) < r) = true := by simpa using h2
    obtain ⟨q0, q1, q2, q3, q4, q5, q6⟩ := cells7O HR0.out
    clear h h' ho hr0 hW0 h1 hL h2
    go_enter Try.func38, Try.ntmps38
    go_wp2_with (fail)
    rw [HW0.out]
    refine C.out.mono ?_
    rintro e w1 ⟨rfl, hww⟩
    subst hww
    go_wp2
    exact bodyPost_ret (op_result2 (t := zeroPo) (b := w.heap.size) Try.results38 (store7O HR0.out) rfl rfl) rfl ⟨rfl, only7O HO0.out (fun hl => absurd hl (Nat.lt_irrefl _))⟩
  have d2 : decide ((ps.length : Int) < r) = false := by simpa using h2
  rw [if_pos (by unfold isOb; simp only [Bool.and_eq_true, decide_eq_true_eq]; omega)]
  have hi : r.toNat - 1 < ps.length := by omega
  have hri : ((r.toNat - 1 : Nat) : Int) = r - 1 := by omega
  obtain ⟨b, cp, e, hc⟩ := h'.ob hi
  rw [e] at hL
  injection hL with e1 _ e3
  subst e1 e3
  have y0 := hc 0 (by decide)
  have y1 := hc 1 (by decide)
  have y2 := hc 2 (by decide)
  have y3 := hc 3 (by decide)
  have y4 := hc 4 (by decide)
  have y5 := hc 5 (by decide)
  have y6 := hc 6 (by decide)
  simp only [cellsPo, List.getElem?_cons_zero, List.getElem?_cons_succ, Nat.add_zero] at y0 y1 y2 y3 y4 y5 y6
  have hk1 : (0 : Int) ≤ r - 1 := by omega
  have hk2 : r - 1 < (ps.length : Int) := by omega
  have hw : wrap64 (r - 1) = r - 1 := IntWalk.wrap64_in _ (by have := h.few; omega)
  generalize ps.getD (r.toNat - 1) default = t at *
  obtain ⟨q0, q1, q2, q3, q4, q5, q6⟩ := cells7O HR0.out
  clear h h' ho hr0 hW0 hc hi hri h1 h2 e
  go_enter Try.func38, Try.ntmps38
  go_wp2_with (fail)
  rw [HW0.out]
  refine C.out.mono ?_
  rintro e w1 ⟨rfl, hww⟩
  subst hww
  go_wp2
  exact bodyPost_ret (op_result2 (t := t) (b := w.heap.size) Try.results38 (store7O HR0.out) rfl rfl) rfl ⟨rfl, only7O HO0.out (fun hl => absurd hl (Nat.lt_irrefl _))⟩
end
end Go.Proofs.Ytebeoganblcblaa
