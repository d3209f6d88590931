/- The program's own plain form of an instruction. No condition but that its numbers are integers of 64 bits. -/
import Derived.Test.YtcfnikngapngkaaOpsK
import Derived.IntWalk
namespace Go.Proofs.Ytcfnikngapngkaa
open Go.RowKit
set_option linter.unusedVariables false
set_option linter.unusedSimpArgs false

/-- A run of short forms: its first code, its last, the plain one, the number of the first. -/
structure RunV where
  first : Int
  last : Int
  plain : Int
  a : Int
instance : Inhabited RunV := ⟨⟨0, 0, 0, 0⟩⟩
def runsV : List RunV := [⟨2, 8, 17, -1⟩, ⟨10, 10, 9, 1⟩, ⟨26, 29, 21, 0⟩, ⟨30, 33, 22, 0⟩, ⟨42, 45, 25, 0⟩, ⟨59, 62, 54, 0⟩, ⟨63, 66, 55, 0⟩, ⟨75, 78, 58, 0⟩]
def runOfZ (op : Int) : Option RunV := runsV.find? (fun r => decide (r.first ≤ op) && decide (op ≤ r.last))
def runV (r : RunV) : Value := .agg #[.int .i64 r.first, .int .i64 r.last, .int .i64 r.plain, .int .i64 r.a]
theorem runs_all : ∀ r ∈ runsV, 2 ≤ r.first ∧ r.first ≤ 75 ∧ r.last ≤ 78 ∧ -1 ≤ r.a ∧ r.a ≤ 1 := by decide
theorem plains_all : ∀ r ∈ runsV, 0 ≤ r.plain ∧ r.plain ≤ 58 := by decide
theorem run_found {op : Int} {r : RunV} (h : runOfZ op = some r) : r ∈ runsV ∧ r.first ≤ op ∧ op ≤ r.last := by
  have h1 := List.mem_of_find?_eq_some h
  have h2 := List.find?_some h
  simp only [Bool.and_eq_true, decide_eq_true_eq] at h2
  exact ⟨h1, h2.1, h2.2⟩
theorem runOf_at {op : Int} {i : Nat} (hi : i < 8) (hb : ∀ j, j < i → ¬ ((runsV.getD j default).first ≤ op ∧ op ≤ (runsV.getD j default).last)) (h : (runsV.getD i default).first ≤ op ∧ op ≤ (runsV.getD i default).last) : runOfZ op = some (runsV.getD i default) := by
  have hi' : i < runsV.length := hi
  have e : ∀ j (hj : j < runsV.length), runsV.getD j default = runsV[j] := fun j hj => by simp [List.getD, hj]
  rw [e i hi'] at h ⊢
  refine List.find?_eq_some_iff_getElem.2 ⟨by simpa using h, i, hi', rfl, fun j hj => ?_⟩
  have t := hb j hj
  rw [e j (by omega)] at t
  simp
  omega
theorem runOf_none {op : Int} (hb : ∀ j, j < 8 → ¬ ((runsV.getD j default).first ≤ op ∧ op ≤ (runsV.getD j default).last)) : runOfZ op = none := by
  refine List.find?_eq_none.2 fun c hc => ?_
  obtain ⟨j, hj, rfl⟩ := List.getElem_of_mem hc
  have e : runsV.getD j default = runsV[j] := by simp [List.getD, hj]
  have := hb j hj
  rw [e] at this
  simpa using this
theorem plain_run {i : InstrV} {r : RunV} (h16 : i.op ≠ 16) (h : runOfZ i.op = some r) : plainZ i = ⟨i.at_, r.plain, r.a + i.op - r.first, 0, i.size⟩ := by
  obtain ⟨h1, h2, h3⟩ := run_found h
  obtain ⟨at_, op, a, b, size⟩ := i
  simp only at h2 h3 h16 ⊢
  simp only [runsV, List.mem_cons, List.not_mem_nil, or_false] at h1
  unfold plainZ
  rcases h1 with rfl | rfl | rfl | rfl | rfl | rfl | rfl | rfl <;> simp only at h2 h3 ⊢
  · rw [if_pos (by omega)]; congr 1; omega
  · rw [if_neg (by omega), if_neg (by omega), if_pos (by omega)]; congr 1; omega
  · rw [if_neg (by omega), if_neg (by omega), if_neg (by omega), if_pos (by omega)]; congr 1; omega
  · rw [if_neg (by omega), if_neg (by omega), if_neg (by omega), if_neg (by omega), if_pos (by omega)]; congr 1; omega
  · rw [if_neg (by omega), if_neg (by omega), if_neg (by omega), if_neg (by omega), if_neg (by omega), if_pos (by omega)]; congr 1; omega
  · rw [if_neg (by omega), if_neg (by omega), if_neg (by omega), if_neg (by omega), if_neg (by omega), if_neg (by omega), if_pos (by omega)]; congr 1; omega
  · rw [if_neg (by omega), if_neg (by omega), if_neg (by omega), if_neg (by omega), if_neg (by omega), if_neg (by omega), if_neg (by omega), if_pos (by omega)]; congr 1; omega
  · rw [if_neg (by omega), if_neg (by omega), if_neg (by omega), if_neg (by omega), if_neg (by omega), if_neg (by omega), if_neg (by omega), if_neg (by omega), if_pos (by omega)]; congr 1; omega
theorem plain_else {i : InstrV} (h16 : i.op ≠ 16) (h : runOfZ i.op = none) : plainZ i = i := by
  have hb : ∀ r ∈ runsV, ¬ (r.first ≤ i.op ∧ i.op ≤ r.last) := fun r hr => by
    have := (List.find?_eq_none.1 h) r hr
    simpa using this
  simp only [runsV, List.mem_cons, List.not_mem_nil, or_false, forall_eq_or_imp, forall_eq] at hb
  obtain ⟨b1, b2, b3, b4, b5, b6, b7, b8⟩ := hb
  unfold plainZ
  rw [if_neg (by omega), if_neg (by omega), if_neg (by omega), if_neg (by omega), if_neg (by omega), if_neg (by omega), if_neg (by omega), if_neg (by omega), if_neg (by omega)]
theorem plain_16 {i : InstrV} (h16 : i.op = 16) : plainZ i = ⟨i.at_, 17, i.a, 0, i.size⟩ := by
  unfold plainZ
  rw [if_neg (by omega), if_pos h16]

def runCells : Array Value := #[.int .i64 2, .int .i64 8, .int .i64 17, .int .i64 (-1), .int .i64 10, .int .i64 10, .int .i64 9, .int .i64 1, .int .i64 26, .int .i64 29, .int .i64 21, .int .i64 0, .int .i64 30, .int .i64 33, .int .i64 22, .int .i64 0, .int .i64 42, .int .i64 45, .int .i64 25, .int .i64 0, .int .i64 59, .int .i64 62, .int .i64 54, .int .i64 0, .int .i64 63, .int .i64 66, .int .i64 55, .int .i64 0, .int .i64 75, .int .i64 78, .int .i64 58, .int .i64 0]
theorem run_part {j : Nat} (hj : j < 8) : runCells.extract (j * 4) (j * 4 + 4) = #[.int .i64 (runsV.getD j default).first, .int .i64 (runsV.getD j default).last, .int .i64 (runsV.getD j default).plain, .int .i64 (runsV.getD j default).a] := by
  have hc : j = 0 ∨ j = 1 ∨ j = 2 ∨ j = 3 ∨ j = 4 ∨ j = 5 ∨ j = 6 ∨ j = 7 := by omega
  rcases hc with rfl | rfl | rfl | rfl | rfl | rfl | rfl | rfl <;> rfl
theorem info_run : (Try.prog.info? 75).map (fun i => (i.zero, i.size, i.bytes)) = some (some (.agg #[.int .i64 0, .int .i64 0, .int .i64 0, .int .i64 0]), 4, 32) := by kernel_rfl
theorem info4_run : (Try.prog.info? 75).map (·.size) = some 4 := by kernel_rfl
theorem index_run {j : Nat} (hj : j < 8) (w : World) : (Instr.index 90 (.agg runCells) (.int .i64 j)).run Try.prog w = .ok (.agg #[.int .i64 (runsV.getD j default).first, .int .i64 (runsV.getD j default).last, .int .i64 (runsV.getD j default).plain, .int .i64 (runsV.getD j default).a]) w := by
  obtain ⟨ie, hie, hz0, hz1, hz2⟩ := info_parts info_run
  have := run_index_arr w 90 75 8 runCells (j : Int) ie _ 4 Try.underlying90 Try.underlying75 hie hz1 (by omega) (by omega)
  rw [Int.toNat_natCast, run_part hj] at this
  exact this
theorem run_result {w : World} {b : Nat} {c0 c1 c2 c3 x : Value} {tmps : Array Value} (h : w.heap[b]? = some (.cells #[c0, c1, c2, c3] 75 (0, 0))) (ht : tmps.getD 2 undef = .pointer (some ⟨b, 0, none⟩)) (hx : tmps.getD 3 undef = x) :
    (results Try.f34 tmps).run Try.prog w = .ok (.tuple #[.agg #[c0, c1, c2, c3], x]) w := by
  rw [results_cell_tmp Try.results34, ht, hx, show (asAddr (.pointer (some ⟨b, 0, none⟩))).run Try.prog w = .ok ⟨b, 0, none⟩ w from rfl]
  simp only [Result.andThen]
  rw [run_loadVar_row w b 75 75 _ (0, 0) _ h Try.underlying75 rfl info4_run]
theorem store4 {w : World} {b : Nat} {T : TypeId} {f : Nat × Nat} {o0 o1 o2 o3 a0 a1 a2 a3 : Value} (h : w.heap[b]? = some (.cells #[o0, o1, o2, o3] T f)) :
    ((((w.setCell ⟨b, 0, none⟩ a0).setCell ⟨b, 1, none⟩ a1).setCell ⟨b, 2, none⟩ a2).setCell ⟨b, 3, none⟩ a3).heap[b]? = some (.cells #[a0, a1, a2, a3] T f) := by
  have h0 := heap_setCell_at (i := 0) (u := a0) h
  simp only [List.setIfInBounds_toArray, List.set_cons_zero, List.set_cons_succ] at h0
  have h1 := heap_setCell_at (i := 1) (u := a1) h0
  simp only [List.setIfInBounds_toArray, List.set_cons_zero, List.set_cons_succ] at h1
  have h2 := heap_setCell_at (i := 2) (u := a2) h1
  simp only [List.setIfInBounds_toArray, List.set_cons_zero, List.set_cons_succ] at h2
  have h3 := heap_setCell_at (i := 3) (u := a3) h2
  simp only [List.setIfInBounds_toArray, List.set_cons_zero, List.set_cons_succ] at h3
  exact h3
theorem store3 {w : World} {b : Nat} {T : TypeId} {f : Nat × Nat} {o0 o1 o2 o3 o4 a1 a2 a3 : Value} (h : w.heap[b]? = some (.cells #[o0, o1, o2, o3, o4] T f)) :
    (((w.setCell ⟨b, 1, none⟩ a1).setCell ⟨b, 2, none⟩ a2).setCell ⟨b, 3, none⟩ a3).drew.heap[b]? = some (.cells #[o0, a1, a2, a3, o4] T f) := by
  have h1 := heap_setCell_at (i := 1) (u := a1) h
  simp only [List.setIfInBounds_toArray, List.set_cons_zero, List.set_cons_succ] at h1
  have h2 := heap_setCell_at (i := 2) (u := a2) h1
  simp only [List.setIfInBounds_toArray, List.set_cons_zero, List.set_cons_succ] at h2
  have h3 := heap_setCell_at (i := 3) (u := a3) h2
  simp only [List.setIfInBounds_toArray, List.set_cons_zero, List.set_cons_succ] at h3
  exact h3
theorem cells4 {w : World} {b : Nat} {c0 c1 c2 c3 : Value} {t : TypeId} {f : Nat × Nat} (h : w.heap[b]? = some (.cells #[c0, c1, c2, c3] t f)) :
    w.cell? ⟨b, 0, none⟩ = some c0 ∧ w.cell? ⟨b, 1, none⟩ = some c1 ∧ w.cell? ⟨b, 2, none⟩ = some c2 ∧ w.cell? ⟨b, 3, none⟩ = some c3 :=
  ⟨cell_blk h 0, cell_blk h 1, cell_blk h 2, cell_blk h 3⟩
theorem marks4 {w : World} {b : Nat} {c : Array Value} {t : TypeId} (h : w.heap[b]? = some (.cells c t (0, 0))) :
    w.frozen? ⟨b, 0, none⟩ = false ∧ w.frozen? ⟨b, 1, none⟩ = false ∧ w.frozen? ⟨b, 2, none⟩ = false ∧ w.frozen? ⟨b, 3, none⟩ = false :=
  ⟨frozen_blk h 0, frozen_blk h 1, frozen_blk h 2, frozen_blk h 3⟩

def RunTo (w : World) (o : Option RunV) (e : Ending) (w' : World) : Prop :=
  (match o with
  | some r => e = .returned (.tuple #[.agg #[.int .i64 r.first, .int .i64 r.last, .int .i64 r.plain, .int .i64 r.a], .bool true])
  | none => e = .returned (.tuple #[.agg #[.int .i64 0, .int .i64 0, .int .i64 0, .int .i64 0], .bool false])) ∧ Only (fun _ => False) w w'
set_option maxHeartbeats 8000000 in
set_option maxRecDepth 100000 in
theorem progRunOf (op : Int) (w : World) : Calls Try.prog 34 #[.int .i64 op] w (RunTo w (runOfZ op)) := by
  have hr0 := heap_alloc_new w (.cells #[.int .i64 0, .int .i64 0, .int .i64 0, .int .i64 0] 75)
  have ho0 := (Only.refl (fun _ => False) w).alloc (.cells #[.int .i64 0, .int .i64 0, .int .i64 0, .int .i64 0] 75)
  have HR0 := Lib.hid hr0
  have HO0 := Lib.hid ho0
  clear hr0 ho0
  go_enter Try.func34, Try.ntmps34
  go_wp2
  go_loopw [15] (fun i wr => ∃ j : Nat, i = .int .i64 j ∧ j ≤ 8 ∧ (∀ k, k < j → ¬ ((runsV.getD k default).first ≤ op ∧ op ≤ (runsV.getD k default).last)) ∧ Only (fun _ => False) w wr ∧ wr.heap[w.heap.size]? = some (.cells #[.int .i64 0, .int .i64 0, .int .i64 0, .int .i64 0] 75 (0, 0))) (fun i _ => 8 - (intOf i).toNat)
  case atStart => exact ⟨0, rfl, by omega, fun k hk => by omega, HO0.out, HR0.out⟩
  case round =>
    obtain ⟨j, rfl, hj, hbef, hon, hr⟩ := hrel
    have HBEF := Lib.hid hbef
    have HON := Lib.hid hon
    have HR := Lib.hid hr
    clear hbef hon hr
    by_cases hlt : j < 8
    · have hix := fun w => index_run hlt w
      have hjz : (j : Int) < 8 := by omega
      unfold runCells at hix
      have HNX : Hid (¬ ((runsV.getD j default).first ≤ op ∧ op ≤ (runsV.getD j default).last) → ∀ k, k < j + 1 → ¬ ((runsV.getD k default).first ≤ op ∧ op ≤ (runsV.getD k default).last)) := by
        refine Lib.hid ?_
        intro hn k hk
        by_cases hkj : k < j
        · exact HBEF.out k hkj
        · rw [show k = j by omega]; exact hn
      have HAT : Hid ((runsV.getD j default).first ≤ op ∧ op ≤ (runsV.getD j default).last → runOfZ op = some (runsV.getD j default)) := Lib.hid (fun h => runOf_at hlt HBEF.out h)
      generalize runsV.getD j default = r at *
      have hal := (Only.refl (fun _ => False) wr).alloc (.cells #[.int .i64 r.first, .int .i64 r.last, .int .i64 r.plain, .int .i64 r.a] 75)
      have hr1 := hal.heap HR.out (fun h => h)
      have HON1 := Lib.hid (HON.out.trans hal (fun _ h _ => h))
      have HR1 := Lib.hid hr1
      obtain ⟨f0, f1, f2, f3⟩ := marks4 hr1
      obtain ⟨s0, s1, s2, s3⟩ := cells4 hr1
      clear hal hr1
      by_cases h1 : r.first ≤ op
      · by_cases h2 : op ≤ r.last
        · go_wp2
          refine bodyPost_ret (run_result (store4 HR1.out) rfl rfl) rfl ?_
          rw [HAT.out ⟨h1, h2⟩]
          refine ⟨rfl, ?_⟩
          iterate 4 (refine Only.setCell ?_ (fun hl => absurd hl (Nat.lt_irrefl _)) _)
          exact HON1.out
        · have h2' : op > r.last := by omega
          go_wp2
          go_roundw
          case rel => exact ⟨j + 1, by go_num, by omega, HNX.out (fun h => h2 h.2), HON1.out, HR1.out⟩
          case measure => simp [intOf]; omega
      · have h1' : op < r.first := by omega
        go_wp2
        go_roundw
        case rel => exact ⟨j + 1, by go_num, by omega, HNX.out (fun h => h1 h.1), HON1.out, HR1.out⟩
        case measure => simp [intOf]; omega
    · have hk := runOf_none (op := op) (fun k hk => HBEF.out k (by omega))
      have HK := Lib.hid hk
      obtain ⟨f0, f1, f2, f3⟩ := marks4 HR.out
      obtain ⟨s0, s1, s2, s3⟩ := cells4 HR.out
      clear hk
      obtain rfl : j = 8 := by omega
      clear hlt hj
      go_wp2
      refine bodyPost_ret (run_result (store4 HR.out) rfl rfl) rfl ?_
      rw [HK.out]
      refine ⟨rfl, ?_⟩
      iterate 4 (refine Only.setCell ?_ (fun hl => absurd hl (Nat.lt_irrefl _)) _)
      exact HON.out
end Go.Proofs.Ytcfnikngapngkaa
