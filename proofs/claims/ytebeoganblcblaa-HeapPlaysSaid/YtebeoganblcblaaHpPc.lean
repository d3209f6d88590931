/- The program's heap: copies of rows, cuts, places. No condition. -/
import Derived.Test.YtebeoganblcblaaHpPb
import Derived.Test.YtebeoganblcblaaCpN
import Derived.BigQuiet
namespace Go.Proofs.Ytebeoganblcblaa
open Go.RowKit
set_option linter.unusedVariables false
set_option linter.unusedSimpArgs false

/-- An owned row, as what is copied. -/
theorem Src.of_row {α : Type} {T : TypeId} {n : Nat} {cells : α → List Value} {w : World} {B : Nat} {v : Value} {l : List α} (h : RowG T n cells w B v l) (h1 : ∀ a, ∀ u ∈ cells a, u.oneCell' = true) : Src w n v l.length (l.flatMap cells) := by
  have hone : ∀ u ∈ l.flatMap cells, u.oneCell' = true := fun u hu => by
    obtain ⟨a, _, ha⟩ := List.mem_flatMap.1 hu
    exact h1 a u ha
  refine ⟨h.1, hone, ?_⟩
  rcases h.2 with ⟨rfl, h0⟩ | ⟨g, cap, cur, rfl, hb, hg, hnc, hcm, hcs, htake⟩
  · exact ⟨none, 0, by rw [h0], fun _ => ⟨h0, rfl⟩, fun _ e => by cases e⟩
  · refine ⟨_, cap, rfl, (fun e => by cases e), fun ad hd j u hj => ?_⟩
    cases hd
    rw [add_lit, Nat.zero_add]
    have hjl : j < l.length * n := by rw [← h.1]; exact (List.getElem?_eq_some_iff.1 hj).1
    rw [(show w.ownsRow B _ n _ _ _ from h).cellAt (g := g) (cap := cap) j hjl, hj]
theorem one_va (a : ValV) : ∀ u ∈ cellsVa a, u.oneCell' = true := fun u hu => by
  simp only [cellsVa, List.mem_cons, List.mem_nil_iff, or_false] at hu
  rcases hu with rfl | rfl | rfl <;> rfl
theorem one_op (a : ObP) : ∀ u ∈ cellsPo a, u.oneCell' = true := fun u hu => by
  simp only [cellsPo, List.mem_cons, List.mem_nil_iff, or_false] at hu
  rcases hu with rfl | rfl | rfl | rfl | rfl | rfl | rfl <;> rfl
set_option maxHeartbeats 8000000 in
set_option maxRecDepth 100000 in
theorem pCopiedValue (v : Value) (n : Nat) (news : List Value) (w : World) (h : Src w 3 v n news) (hn : n ≤ 1048576) : Calls Try.prog 32 #[v] w fun e w' =>
    e = .returned (.slice (some ⟨w.heap.size, 0, none⟩) n n) ∧ w'.heap[w.heap.size]? = some (.cells news.toArray 34 (0, 0)) ∧ Only (fun _ => False) w w' ∧ w'.heap.size = w.heap.size + 1 := by
  obtain ⟨i0, hi, hz0, hz1, hz2⟩ := info_parts info_val
  have hmk := run_make (P := Try.prog) w 54 34 i0 _ Try.underlying54 hi hz0 .i64 .i64 (n : Int) (n : Int) (by omega) (Int.le_refl _) (by rw [hz2]; omega) (by omega)
  simp only [Int.toNat_natCast, hz1] at hmk
  have hlen := h.1
  have hone := h.2.1
  have h1 := h.alloc (.cells (madeCells (Value.cells (.agg #[.int .i64 0, .int .i64 0, .int .i64 0])) (n * 3)) 34)
  have hg := heap_alloc_new w (.cells (madeCells (Value.cells (.agg #[.int .i64 0, .int .i64 0, .int .i64 0])) (n * 3)) 34)
  have ho := (Only.refl (fun _ => False) w).alloc (.cells (madeCells (Value.cells (.agg #[.int .i64 0, .int .i64 0, .int .i64 0])) (n * 3)) 34)
  have hsz : (w.alloc (.cells (madeCells (Value.cells (.agg #[.int .i64 0, .int .i64 0, .int .i64 0])) (n * 3)) 34)).heap.size = w.heap.size + 1 := by simp
  obtain ⟨W1, hW1⟩ : ∃ W1, w.alloc (.cells (madeCells (Value.cells (.agg #[.int .i64 0, .int .i64 0, .int .i64 0])) (n * 3)) 34) = W1 := ⟨_, rfl⟩
  rw [hW1] at hmk h1 hg ho hsz
  have hcp : ∃ W2, (∀ ty, (Builtin.copy_ #[54, 54] ty #[.slice (some ⟨w.heap.size, 0, none⟩) n n, v]).run Try.prog W1 = .ok (goInt n) W2) ∧ W2.heap[w.heap.size]? = some (.cells news.toArray 34 (0, 0)) ∧ Only (fun _ => False) w W2 ∧ W2.heap.size = w.heap.size + 1 := by
    obtain ⟨-, -, ao, c, rfl, h3, h4⟩ := h1
    cases ao with
    | none =>
      obtain ⟨rfl, rfl⟩ := h3 rfl
      have e : news = [] := List.eq_nil_of_length_eq_zero (by omega)
      subst e
      refine ⟨W1, fun ty => run_copy_nil (P := Try.prog) W1 54 54 ty 34 _ 0 0 Try.underlying54 (by rw [hi]; rfl), ?_, ho, hsz⟩
      rw [hg]
      try simp [madeCells]
    | some a =>
      have hmin : Nat.min n n = n := Nat.min_self n
      have hcc : ((madeCells (Value.cells (.agg #[.int .i64 0, .int .i64 0, .int .i64 0])) (n * 3)).toList.take 0 ++ news ++ (madeCells (Value.cells (.agg #[.int .i64 0, .int .i64 0, .int .i64 0])) (n * 3)).toList.drop (0 + news.length)) = news := by
        rw [List.take_zero, List.nil_append, List.drop_of_length_le (by rw [Array.length_toList, size_madeCells, hlen]; omega), List.append_nil]
      have hrun := fun ty => run_copy_rowN Try.prog W1 54 54 ty 34 w.heap.size 0 n n a n c (madeCells (Value.cells (.agg #[.int .i64 0, .int .i64 0, .int .i64 0])) (n * 3)) 34 news 3 Try.underlying54 (by rw [hi]; simpa using hz1) hg (by rw [hlen, hmin]) (h4 a rfl) (by rw [hlen, size_madeCells]; omega) hone
      rw [hcc, hmin] at hrun
      have hg2 := setRow_heap W1 w.heap.size _ news.toArray _ _ hg
      have ho2 := ho.trans (Only.setRowT (S := fun j => j = w.heap.size) (Only.refl _ W1) (g := w.heap.size) (fun _ => rfl) news.toArray) (fun j hj hl => absurd hl (by subst hj; exact Nat.lt_irrefl _))
      exact ⟨_, hrun, hg2, ho2, by simpa [World.setRow] using hsz⟩
  obtain ⟨W2, hcr, hc2, ho2, hs2⟩ := hcp
  obtain ⟨av, cv, rfl⟩ : ∃ a c, v = .slice a n c := by obtain ⟨-, -, ao, c, e, -⟩ := h; exact ⟨ao, c, e⟩
  have HP := Lib.hid (show (W2.heap[w.heap.size]? = some (.cells news.toArray 34 (0, 0)) ∧ Only (fun _ => False) w W2 ∧ W2.heap.size = w.heap.size + 1) from ⟨hc2, ho2, hs2⟩)
  have hcr' := fun ty => hcr ty
  have hn0 : (0 : Int) ≤ (n : Int) := by omega
  clear h h1 hlen hone hg ho hsz hc2 ho2 hs2 hcr
  go_enter Try.func32, Try.ntmps32
  go_wp2
  go_ret
  exact ⟨rfl, HP.out⟩
set_option maxHeartbeats 8000000 in
set_option maxRecDepth 100000 in
theorem pCopiedObj (v : Value) (n : Nat) (news : List Value) (w : World) (h : Src w 7 v n news) (hn : n ≤ 1048576) : Calls Try.prog 37 #[v] w fun e w' =>
    e = .returned (.slice (some ⟨w.heap.size, 0, none⟩) n n) ∧ w'.heap[w.heap.size]? = some (.cells news.toArray 78 (0, 0)) ∧ Only (fun _ => False) w w' ∧ w'.heap.size = w.heap.size + 1 := by
  obtain ⟨i0, hi, hz0, hz1, hz2⟩ := info_parts info_op
  have hmk := run_make (P := Try.prog) w 62 78 i0 _ Try.underlying62 hi hz0 .i64 .i64 (n : Int) (n : Int) (by omega) (Int.le_refl _) (by rw [hz2]; omega) (by omega)
  simp only [Int.toNat_natCast, hz1] at hmk
  have hlen := h.1
  have hone := h.2.1
  have h1 := h.alloc (.cells (madeCells (Value.cells (.agg #[.int .i64 0, .string ⟨#[]⟩, .int .i64 0, .int .i64 0, .int .i64 0, .int .i64 0, .int .i64 0])) (n * 7)) 78)
  have hg := heap_alloc_new w (.cells (madeCells (Value.cells (.agg #[.int .i64 0, .string ⟨#[]⟩, .int .i64 0, .int .i64 0, .int .i64 0, .int .i64 0, .int .i64 0])) (n * 7)) 78)
  have ho := (Only.refl (fun _ => False) w).alloc (.cells (madeCells (Value.cells (.agg #[.int .i64 0, .string ⟨#[]⟩, .int .i64 0, .int .i64 0, .int .i64 0, .int .i64 0, .int .i64 0])) (n * 7)) 78)
  have hsz : (w.alloc (.cells (madeCells (Value.cells (.agg #[.int .i64 0, .string ⟨#[]⟩, .int .i64 0, .int .i64 0, .int .i64 0, .int .i64 0, .int .i64 0])) (n * 7)) 78)).heap.size = w.heap.size + 1 := by simp
  obtain ⟨W1, hW1⟩ : ∃ W1, w.alloc (.cells (madeCells (Value.cells (.agg #[.int .i64 0, .string ⟨#[]⟩, .int .i64 0, .int .i64 0, .int .i64 0, .int .i64 0, .int .i64 0])) (n * 7)) 78) = W1 := ⟨_, rfl⟩
  rw [hW1] at hmk h1 hg ho hsz
  have hcp : ∃ W2, (∀ ty, (Builtin.copy_ #[62, 62] ty #[.slice (some ⟨w.heap.size, 0, none⟩) n n, v]).run Try.prog W1 = .ok (goInt n) W2) ∧ W2.heap[w.heap.size]? = some (.cells news.toArray 78 (0, 0)) ∧ Only (fun _ => False) w W2 ∧ W2.heap.size = w.heap.size + 1 := by
    obtain ⟨-, -, ao, c, rfl, h3, h4⟩ := h1
    cases ao with
    | none =>
      obtain ⟨rfl, rfl⟩ := h3 rfl
      have e : news = [] := List.eq_nil_of_length_eq_zero (by omega)
      subst e
      refine ⟨W1, fun ty => run_copy_nil (P := Try.prog) W1 62 62 ty 78 _ 0 0 Try.underlying62 (by rw [hi]; rfl), ?_, ho, hsz⟩
      rw [hg]
      try simp [madeCells]
    | some a =>
      have hmin : Nat.min n n = n := Nat.min_self n
      have hcc : ((madeCells (Value.cells (.agg #[.int .i64 0, .string ⟨#[]⟩, .int .i64 0, .int .i64 0, .int .i64 0, .int .i64 0, .int .i64 0])) (n * 7)).toList.take 0 ++ news ++ (madeCells (Value.cells (.agg #[.int .i64 0, .string ⟨#[]⟩, .int .i64 0, .int .i64 0, .int .i64 0, .int .i64 0, .int .i64 0])) (n * 7)).toList.drop (0 + news.length)) = news := by
        rw [List.take_zero, List.nil_append, List.drop_of_length_le (by rw [Array.length_toList, size_madeCells, hlen]; omega), List.append_nil]
      have hrun := fun ty => run_copy_rowN Try.prog W1 62 62 ty 78 w.heap.size 0 n n a n c (madeCells (Value.cells (.agg #[.int .i64 0, .string ⟨#[]⟩, .int .i64 0, .int .i64 0, .int .i64 0, .int .i64 0, .int .i64 0])) (n * 7)) 78 news 7 Try.underlying62 (by rw [hi]; simpa using hz1) hg (by rw [hlen, hmin]) (h4 a rfl) (by rw [hlen, size_madeCells]; omega) hone
      rw [hcc, hmin] at hrun
      have hg2 := setRow_heap W1 w.heap.size _ news.toArray _ _ hg
      have ho2 := ho.trans (Only.setRowT (S := fun j => j = w.heap.size) (Only.refl _ W1) (g := w.heap.size) (fun _ => rfl) news.toArray) (fun j hj hl => absurd hl (by subst hj; exact Nat.lt_irrefl _))
      exact ⟨_, hrun, hg2, ho2, by simpa [World.setRow] using hsz⟩
  obtain ⟨W2, hcr, hc2, ho2, hs2⟩ := hcp
  obtain ⟨av, cv, rfl⟩ : ∃ a c, v = .slice a n c := by obtain ⟨-, -, ao, c, e, -⟩ := h; exact ⟨ao, c, e⟩
  have HP := Lib.hid (show (W2.heap[w.heap.size]? = some (.cells news.toArray 78 (0, 0)) ∧ Only (fun _ => False) w W2 ∧ W2.heap.size = w.heap.size + 1) from ⟨hc2, ho2, hs2⟩)
  have hcr' := fun ty => hcr ty
  have hn0 : (0 : Int) ≤ (n : Int) := by omega
  clear h h1 hlen hone hg ho hsz hc2 ho2 hs2 hcr
  go_enter Try.func37, Try.ntmps37
  go_wp2
  go_ret
  exact ⟨rfl, HP.out⟩
/-- A cut of a row with three indices. -/
def cutO (v : Value) (a b : Nat) : Value := match v with
  | .slice av _ _ => sliced av a b b 3
  | u => u
section
variable {w : World} {G : Nat → Prop} {p : Nat} {L V : Value} {ps : List ObP} {vs : List ValV} {most : Int} (h : HeapQ w G p L V ps vs most)
include h
set_option maxHeartbeats 8000000 in
set_option maxRecDepth 100000 in
theorem pCut14 (x : ObP) (h1 : x.a ≤ x.b) (h2 : x.b ≤ vs.length) : Calls Try.prog 33 #[.pointer (some ⟨p, 0, none⟩), valPo x] w fun e w' => e = .returned (cutO V x.a x.b) ∧ Only (fun _ => False) w w' := by
  unfold valPo
  have ho := (Only.refl (fun _ => False) w).alloc (.cells #[.int .i64 x.t.k, .string x.t.name, .int .i64 x.t.dims, .int .i64 x.t.elem, .int .i64 x.t.at_, .int .i64 (x.a : Int), .int .i64 (x.b : Int)] 78)
  have hr0 := heap_alloc_new w (.cells #[.int .i64 x.t.k, .string x.t.name, .int .i64 x.t.dims, .int .i64 x.t.elem, .int .i64 x.t.at_, .int .i64 (x.a : Int), .int .i64 (x.b : Int)] 78)
  obtain ⟨W0, hW0⟩ : ∃ W0, w.alloc (.cells #[.int .i64 x.t.k, .string x.t.name, .int .i64 x.t.dims, .int .i64 x.t.elem, .int .i64 x.t.at_, .int .i64 (x.a : Int), .int .i64 (x.b : Int)] 78) = W0 := ⟨_, rfl⟩
  rw [hW0] at ho hr0
  have h' := h.only ho (fun _ _ h => h)
  have hcap := h.val
  obtain ⟨ao, cap, av, cv, -, rfl, z0, z1, z2, z3⟩ := h'.z
  have hvc : vs.length ≤ cv := by obtain ⟨a', c', e, q1, -⟩ := slice_of_owns hcap; injection e with _ _ e3; omega
  have hi0 : (0 : Int) ≤ (x.a : Int) := by omega
  have hi1 : (x.a : Int) ≤ (x.b : Int) := by omega
  have hi2 : (x.b : Int) ≤ (cv : Int) := by omega
  have hi3 : (0 : Int) ≤ (x.b : Int) := by omega
  obtain ⟨q0, q1, q2, q3, q4, q5, q6⟩ := cells7O hr0
  have HO := Lib.hid ho
  have HW := Lib.hid hW0
  obtain ⟨b0, hb0⟩ : ∃ b0, w.heap.size = b0 := ⟨_, rfl⟩
  rw [hb0] at q0 q1 q2 q3 q4 q5 q6
  clear h h' hcap ho hr0 hW0 z0 z1 z3 q0 q1 q2 q3 q4
  go_enter Try.func33, Try.ntmps33
  go_wp2_with (fail)
  try rw [HW.out]
  go_quiet (fail)
  go_wp2
  all_goals go_ret
  all_goals refine ⟨?_, HO.out.drewN _⟩
  · simp [cutO, sliced]
  · simp [cutO, sliced, *]
/-- The cells of a value in a cut. -/
theorem HeapQ.cutAt {a b i : Nat} (h1 : a ≤ b) (h2 : b ≤ vs.length) (h3 : i < b - a) : ∃ g cv, V = .slice (some ⟨g, 0, none⟩) vs.length cv ∧ cutO V a b = .slice (some ⟨g, a * 3, none⟩) (b - a) (b - a) ∧ (∀ d, d < 3 → w.cell? ⟨g, a * 3 + i * 3 + d, none⟩ = (cellsVa (vs.getD (a + i) default))[d]?) := by
  obtain ⟨ao', cap', e, q1, q2, q3, q4⟩ := RowG.sl lenVa h.val
  rcases h.val.2 with ⟨e', e2⟩ | ⟨g, cap2, cur, e', hb, hg, hnc, hcm, hcs, htake⟩
  · rw [e2] at h2; omega
  · subst e'
    injection e with e1 e2 e3
    subst e1 e3
    obtain ⟨b', o, e, h5⟩ := q4 _ rfl (by omega)
    injection e with e1 e2
    subst e1 e2
    refine ⟨g, cap2, rfl, ?_, fun d hd => ?_⟩
    · have hne : ¬ b = a := by omega
      simp [cutO, sliced, hne, add_lit]
    · have := h5 (a + i) (by omega) d hd
      rw [Nat.zero_add] at this
      rw [← this]
      congr 2
      rw [Nat.add_mul]
/-- A cut, as what is copied. -/
theorem HeapQ.cutSrc {a b : Nat} (h1 : a ≤ b) (h2 : b ≤ vs.length) : Src w 3 (cutO V a b) (b - a) (((vs.drop a).take (b - a)).flatMap cellsVa) := by
  have hlen : ((vs.drop a).take (b - a)).length = b - a := by rw [List.length_take, List.length_drop]; omega
  have hl3 : ∀ l : List ValV, (l.flatMap cellsVa).length = l.length * 3 := fun l => by
    induction l with
    | nil => rfl
    | cons c r ih => rw [List.flatMap_cons, List.length_append, ih, lenVa, List.length_cons]; omega
  refine ⟨by rw [hl3, hlen], fun u hu => ?_, ?_⟩
  · obtain ⟨x, _, hx⟩ := List.mem_flatMap.1 hu
    exact one_va x u hx
  by_cases hab : b = a
  · subst hab
    obtain ⟨ao, cap, av, cv, -, rfl, -⟩ := h.z
    refine ⟨av, b - b, by simp [cutO, sliced], fun _ => by omega, fun ad _ j u hj => ?_⟩
    simp at hj
  · obtain ⟨g, cv, -, e, -⟩ := h.cutAt (i := 0) h1 h2 (by omega)
    rw [e]
    refine ⟨_, _, rfl, (fun e => by cases e), fun ad hd j u hj => ?_⟩
    cases hd
    have hjl : j < (b - a) * 3 := by have := (List.getElem?_eq_some_iff.1 hj).1; rw [hl3, hlen] at this; exact this
    obtain ⟨g', cv', e0, e', hc⟩ := h.cutAt (i := j / 3) h1 h2 (by omega)
    rw [e] at e'
    injection e' with e1
    injection e1 with e1
    injection e1 with e1
    subst e1
    rw [add_lit, show a * 3 + j = a * 3 + j / 3 * 3 + j % 3 from by omega, hc _ (by omega)]
    have hat := cellsG_at (cells := cellsVa) lenVa (l := (vs.drop a).take (b - a)) (i := j / 3) (d := j % 3) (by rw [hlen]; omega) (by omega)
    rw [show j / 3 * 3 + j % 3 = j from by omega, hj] at hat
    rw [hat]
    congr 2
    have q : j / 3 < b - a := by omega
    simp [List.getD, List.getElem?_take, q, List.getElem?_drop]
end
end Go.Proofs.Ytebeoganblcblaa
