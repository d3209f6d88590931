/- The program's heap: Make, Array. Condition: the types are there. -/
import Derived.Test.YtebeoganblcblaaHpPd
import Derived.Test.YtebeoganblcblaaHpM
namespace Go.Proofs.Ytebeoganblcblaa
open Go.RowKit
set_option linter.unusedVariables false
set_option linter.unusedSimpArgs false

theorem Src.op {w : World} {m : Nat} (x : ObP) (h : w.heap.size = m) : Src (w.alloc (.cells #[.int .i64 x.t.k, .string x.t.name, .int .i64 x.t.dims, .int .i64 x.t.elem, .int .i64 x.t.at_, .int .i64 (x.a : Int), .int .i64 (x.b : Int)] 78)) 7 (.slice (some ⟨m, 0, none⟩) 1 1) 1 (cellsPo x) :=
  Src.struct (n := 7) [.int .i64 x.t.k, .string x.t.name, .int .i64 x.t.dims, .int .i64 x.t.elem, .int .i64 x.t.at_, .int .i64 (x.a : Int), .int .i64 (x.b : Int)] rfl (one_op x) h
/-- One object more. -/
theorem HeapQ.addO {w w5 : World} {G : Nat → Prop} {p : Nat} {L L' V : Value} {ps : List ObP} {vs : List ValV} {most : Int} (h : HeapQ w G p L V ps vs most) (x : ObP) (hO : Only (fun k => L.ownBlock = some k ∨ k = p) w w5) (hblk : w5.heap[p]? = some (.cells #[.int .i64 most, L', V, .bool true] 64 (0, 0)))
    (hrow : RowG 78 7 cellsPo w5 0 L' (ps ++ [x])) (hL : ∀ k, L'.ownBlock = some k → L.ownBlock = some k ∨ w.heap.size ≤ k) (hroom : (ps.length : Int) < most) : HeapQ w5 (fun k => G k ∨ (w.heap.size ≤ k ∧ k < w5.heap.size)) p L' V (ps ++ [x]) vs most := by
  have hp := h.lt p h.gp
  refine ⟨hblk, hrow, RowG.only h.val hO (fun k hk hs => by rcases hs with hs | hs; exact (h.gV k hk).2.2 hs; exact (h.gV k hk).2.1 hs), ?_, .inl h.gp, ?_, ?_, by rw [List.length_append, List.length_singleton]; have := h.most0; omega, h.fewV, h.most0⟩
  · intro k hk
    rcases hk with hk | hk
    · exact Nat.lt_of_lt_of_le (h.lt k hk) hO.size
    · exact hk.2
  · intro k hk
    have hk5 := (RowG.ge hrow k hk).2
    rcases hL k hk with e | e
    · exact ⟨.inl (h.gL k e).1, (h.gL k e).2⟩
    · exact ⟨.inr ⟨e, hk5⟩, by omega⟩
  · intro k hk
    have q := h.gV k hk
    refine ⟨.inl q.1, q.2.1, fun e3 => ?_⟩
    rcases hL k e3 with e4 | e4
    · exact q.2.2 e4
    · have := h.lt k q.1; omega
/-- One value more. -/
theorem HeapQ.addV {w w5 : World} {G : Nat → Prop} {p : Nat} {L V V' : Value} {ps : List ObP} {vs : List ValV} {most : Int} (h : HeapQ w G p L V ps vs most) (x : ValV) (hO : Only (fun k => V.ownBlock = some k ∨ k = p) w w5) (hblk : w5.heap[p]? = some (.cells #[.int .i64 most, L, V', .bool true] 64 (0, 0)))
    (hrow : RowG 34 3 cellsVa w5 0 V' (vs ++ [x])) (hL : ∀ k, V'.ownBlock = some k → V.ownBlock = some k ∨ w.heap.size ≤ k) (hroom : vs.length < 1048576) : HeapQ w5 (fun k => G k ∨ (w.heap.size ≤ k ∧ k < w5.heap.size)) p L V' ps (vs ++ [x]) most := by
  have hp := h.lt p h.gp
  refine ⟨hblk, RowG.only h.row hO (fun k hk hs => by rcases hs with hs | hs; exact (h.gV k hs).2.2 hk; exact (h.gL k hk).2 hs), hrow, ?_, .inl h.gp, fun k hk => ⟨.inl (h.gL k hk).1, (h.gL k hk).2⟩, ?_, h.few, by rw [List.length_append, List.length_singleton]; omega, h.most0⟩
  · intro k hk
    rcases hk with hk | hk
    · exact Nat.lt_of_lt_of_le (h.lt k hk) hO.size
    · exact hk.2
  · intro k hk
    have hk5 := (RowG.ge hrow k hk).2
    rcases hL k hk with e | e
    · exact ⟨.inl (h.gV k e).1, (h.gV k e).2⟩
    · exact ⟨.inr ⟨e, hk5⟩, by omega, fun e2 => by have := h.lt k (h.gL k e2).1; omega⟩

theorem Types.onlyF {G : Nat → Prop} {w w' : World} {v : Value} {l : List TypeV} (h : Types w v l) (hf : ∀ k, v.ownBlock = some k → l ≠ [] → ¬ G k) (ho : Only G w w') : Types w' v l :=
  Sl.imp h (fun b o i hbb hi hc => hc.only ho (fun hn => hf b hbb (List.ne_nil_of_length_pos (by omega)) hn))
section
variable {w : World} {G : Nat → Prop} {p : Nat} {L V : Value} {ps : List ObP} {vs : List ValV} {most : Int} (h : HeapQ w G p L V ps vs most)
include h

set_option maxHeartbeats 16000000 in
set_option maxRecDepth 100000 in
theorem pAdd14 (t : TypeV) (n : Nat) (hn : n ≤ vs.length) (hroom : (ps.length : Int) < most) : Calls Try.prog 35 #[.pointer (some ⟨p, 0, none⟩), valT t, .int .i64 (n : Int)] w fun e w' =>
    e = .returned (.int .i64 ((ps.length : Int) + 1)) ∧ ∃ L' G', HeapQ w' G' p L' V (ps ++ [⟨t, vs.length - n, vs.length⟩]) vs most ∧ Only G w w' ∧ ∀ k, G' k → G k ∨ w.heap.size ≤ k := by
  obtain ⟨i1, ji, jz0, jz1, jz2⟩ := info_parts info_op
  unfold valT
  have ho : Only (fun _ => False) w (w.alloc (.cells #[.int .i64 t.k, .string t.name, .int .i64 t.dims, .int .i64 t.elem, .int .i64 t.at_] 32)) := (Only.refl (fun _ => False) w).alloc (.cells #[.int .i64 t.k, .string t.name, .int .i64 t.dims, .int .i64 t.elem, .int .i64 t.at_] 32)
  have hbt := heap_alloc_new w (.cells #[.int .i64 t.k, .string t.name, .int .i64 t.dims, .int .i64 t.elem, .int .i64 t.at_] 32)
  obtain ⟨W0, hW0⟩ : ∃ W0, w.alloc (.cells #[.int .i64 t.k, .string t.name, .int .i64 t.dims, .int .i64 t.elem, .int .i64 t.at_] 32) = W0 := ⟨_, rfl⟩
  have hs0 : W0.heap.size = w.heap.size + 1 := by rw [← hW0]; simp
  rw [hW0] at ho hbt
  have h' := h.only ho (fun _ _ h => h)
  have hfv := h.fewV
  obtain ⟨ao, cap, av, cv, hL, hV, z0, z1, z2, z3⟩ := h'.z
  obtain ⟨x0, x1, x2, x3, x4⟩ := cells5T hbt
  obtain ⟨b0, hb0⟩ : ∃ b0, w.heap.size = b0 := ⟨_, rfl⟩
  obtain ⟨lv, hlv⟩ : ∃ lv, vs.length = lv := ⟨_, rfl⟩
  obtain ⟨xa, hxa⟩ : ∃ xa, lv - n = xa := ⟨_, rfl⟩
  rw [hlv] at z2 hn hfv
  have hwi : IntKind.i64.wrap ((lv : Int) - (n : Int)) = (xa : Int) := by rw [IntKind.wrap_i64]; omega
  rw [hb0] at x0 x1 x2 x3 x4
  have hgp := h.lt p h.gp
  have HGLP := Lib.hid (show ¬ ((Value.slice ao ps.length cap).ownBlock = some p) from fun e => (h'.gL p (by rw [hL]; exact e)).2 rfl)
  have HGLB := Lib.hid (show ¬ ((Value.slice ao ps.length cap).ownBlock = some b0) from fun e => by have := h.lt _ (h.gL b0 (by rw [hL]; exact e)).1; omega)
  have HL1 := Lib.hid (show RowG 78 7 cellsPo W0 0 (.slice ao ps.length cap) ps from by have := h'.row; rwa [hL] at this)
  have HBP := Lib.hid (show W0.heap[p]? = some (.cells #[.int .i64 most, .slice ao ps.length cap, V, .bool true] 64 (0, 0)) from by have := h'.blk; rwa [hL] at this)
  have HH := Lib.hid h
  have HH' := Lib.hid h'
  have HO := Lib.hid ho
  have HW := Lib.hid hW0
  have HLL := Lib.hid hL
  have HROOM := Lib.hid hroom
  have HS0 := Lib.hid hs0
  have HB0 := Lib.hid hb0
  have HLV := Lib.hid hlv
  have HXA := Lib.hid hxa
  have hfew := h.few
  have hzz : W0.drew.cell? ⟨p, 1, none⟩ = some (.slice ao ps.length cap) := z1
  clear h h' ho hbt hL hV z0 z3 hgp hroom hn hfv hs0 hlv hxa
  go_enter Try.func35, Try.ntmps35
  go_wp2_with (fail)
  try rw [HW.out]
  try rw [HB0.out]
  clear hW0 hb0
  have hSd : (fun wc => wc.cell? ⟨p, 1, none⟩ = some (.slice ao ps.length cap) ∧ wc.cell? ⟨b0, 0, none⟩ = some (.int .i64 t.k) ∧ wc.cell? ⟨b0, 1, none⟩ = some (.string t.name) ∧ wc.cell? ⟨b0, 2, none⟩ = some (.int .i64 t.dims) ∧ wc.cell? ⟨b0, 3, none⟩ = some (.int .i64 t.elem) ∧ wc.cell? ⟨b0, 4, none⟩ = some (.int .i64 t.at_)) W0.drew := ⟨z1, x0, x1, x2, x3, x4⟩

  refine wp_till 15 (fun wc => wc.cell? ⟨p, 1, none⟩ = some (.slice ao ps.length cap) ∧ wc.cell? ⟨b0, 0, none⟩ = some (.int .i64 t.k) ∧ wc.cell? ⟨b0, 1, none⟩ = some (.string t.name) ∧ wc.cell? ⟨b0, 2, none⟩ = some (.int .i64 t.dims) ∧ wc.cell? ⟨b0, 3, none⟩ = some (.int .i64 t.elem) ∧ wc.cell? ⟨b0, 4, none⟩ = some (.int .i64 t.at_)) (by kernel_rfl) ?_
  refine Till.take (i := 0) (v := ?_) (by simp only [List.getElem?_toArray, List.getElem?_cons_succ, List.getElem?_cons_zero]; rfl) (by kernel_rfl) (by kernel_rfl) (by kernel_rfl) (by kernel_rfl) (by kernel_rfl) (by exact fun _ _ _ h => h) (Or.inl ⟨by rfl, ?_⟩) (by assumption) ?_
  rotate_left 1
  · (intro w hSw; (try dsimp only at hSw); go_simp; try with_reducible rfl)
  try simp only [Act.put, List.setIfInBounds_toArray, List.set_cons_zero, List.set_cons_succ]
  refine Till.take (i := 1) (v := ?_) (by simp only [List.getElem?_toArray, List.getElem?_cons_succ, List.getElem?_cons_zero]; rfl) (by kernel_rfl) (by kernel_rfl) (by kernel_rfl) (by kernel_rfl) (by kernel_rfl) (by exact fun _ _ _ h => h) (Or.inl ⟨by rfl, ?_⟩) (by assumption) ?_
  rotate_left 1
  · (intro w hSw; (try dsimp only at hSw); go_simp; try with_reducible rfl)
  try simp only [Act.put, List.setIfInBounds_toArray, List.set_cons_zero, List.set_cons_succ]
  refine Till.take (i := 2) (v := ?_) (by simp only [List.getElem?_toArray, List.getElem?_cons_succ, List.getElem?_cons_zero]; rfl) (by kernel_rfl) (by kernel_rfl) (by kernel_rfl) (by kernel_rfl) (by kernel_rfl) (by exact fun _ _ _ h => h) (Or.inl ⟨by rfl, ?_⟩) (by assumption) ?_
  rotate_left 1
  · (intro w hSw; (try dsimp only at hSw); go_simp; try with_reducible rfl)
  try simp only [Act.put, List.setIfInBounds_toArray, List.set_cons_zero, List.set_cons_succ]
  refine Till.take (i := 3) (v := ?_) (by simp only [List.getElem?_toArray, List.getElem?_cons_succ, List.getElem?_cons_zero]; rfl) (by kernel_rfl) (by kernel_rfl) (by kernel_rfl) (by kernel_rfl) (by kernel_rfl) (by exact fun _ _ _ h => h) (Or.inl ⟨by rfl, ?_⟩) (by assumption) ?_
  rotate_left 1
  · (intro w hSw; (try dsimp only at hSw); go_simp; try with_reducible rfl)
  try simp only [Act.put, List.setIfInBounds_toArray, List.set_cons_zero, List.set_cons_succ]
  refine Till.take (i := 4) (v := ?_) (by simp only [List.getElem?_toArray, List.getElem?_cons_succ, List.getElem?_cons_zero]; rfl) (by kernel_rfl) (by kernel_rfl) (by kernel_rfl) (by kernel_rfl) (by kernel_rfl) (by exact fun _ _ _ h => h) (Or.inl ⟨by rfl, ?_⟩) (by assumption) ?_
  rotate_left 1
  · (intro w hSw; (try dsimp only at hSw); go_simp; try with_reducible rfl)
  try simp only [Act.put, List.setIfInBounds_toArray, List.set_cons_zero, List.set_cons_succ]
  refine Till.take (i := 5) (v := ?_) (by simp only [List.getElem?_toArray, List.getElem?_cons_succ, List.getElem?_cons_zero]; rfl) (by kernel_rfl) (by kernel_rfl) (by kernel_rfl) (by kernel_rfl) (by kernel_rfl) (by exact fun _ _ _ h => h) (Or.inl ⟨by rfl, ?_⟩) (by assumption) ?_
  rotate_left 1
  · (intro w hSw; (try dsimp only at hSw); go_simp; try with_reducible rfl)
  try simp only [Act.put, List.setIfInBounds_toArray, List.set_cons_zero, List.set_cons_succ]
  refine Till.take (i := 6) (v := ?_) (by simp only [List.getElem?_toArray, List.getElem?_cons_succ, List.getElem?_cons_zero]; rfl) (by kernel_rfl) (by kernel_rfl) (by kernel_rfl) (by kernel_rfl) (by kernel_rfl) (by exact fun _ _ _ h => h) (Or.inl ⟨by rfl, ?_⟩) (by assumption) ?_
  rotate_left 1
  · (intro w hSw; (try dsimp only at hSw); go_simp; try with_reducible rfl)
  try simp only [Act.put, List.setIfInBounds_toArray, List.set_cons_zero, List.set_cons_succ]
  refine Till.take (i := 7) (v := ?_) (by simp only [List.getElem?_toArray, List.getElem?_cons_succ, List.getElem?_cons_zero]; rfl) (by kernel_rfl) (by kernel_rfl) (by kernel_rfl) (by kernel_rfl) (by kernel_rfl) (by exact fun _ _ _ h => h) (Or.inl ⟨by rfl, ?_⟩) (by assumption) ?_
  rotate_left 1
  · (intro w hSw; (try dsimp only at hSw); go_simp; try with_reducible rfl)
  try simp only [Act.put, List.setIfInBounds_toArray, List.set_cons_zero, List.set_cons_succ]
  refine Till.take (i := 8) (v := ?_) (by simp only [List.getElem?_toArray, List.getElem?_cons_succ, List.getElem?_cons_zero]; rfl) (by kernel_rfl) (by kernel_rfl) (by kernel_rfl) (by kernel_rfl) (by kernel_rfl) (by exact fun _ _ _ h => h) (Or.inl ⟨by rfl, ?_⟩) (by assumption) ?_
  rotate_left 1
  · (intro w hSw; (try dsimp only at hSw); go_simp; try with_reducible rfl)
  try simp only [Act.put, List.setIfInBounds_toArray, List.set_cons_zero, List.set_cons_succ]
  refine Till.take (i := 9) (v := ?_) (by simp only [List.getElem?_toArray, List.getElem?_cons_succ, List.getElem?_cons_zero]; rfl) (by kernel_rfl) (by kernel_rfl) (by kernel_rfl) (by kernel_rfl) (by kernel_rfl) (by exact fun _ _ _ h => h) (Or.inl ⟨by rfl, ?_⟩) (by assumption) ?_
  rotate_left 1
  · (intro w hSw; (try dsimp only at hSw); go_simp; try with_reducible rfl)
  try simp only [Act.put, List.setIfInBounds_toArray, List.set_cons_zero, List.set_cons_succ]
  refine Till.take (i := 10) (v := ?_) (by simp only [List.getElem?_toArray, List.getElem?_cons_succ, List.getElem?_cons_zero]; rfl) (by kernel_rfl) (by kernel_rfl) (by kernel_rfl) (by kernel_rfl) (by kernel_rfl) (by exact fun _ _ _ h => h) (Or.inl ⟨by rfl, ?_⟩) (by assumption) ?_
  rotate_left 1
  · (intro w hSw; (try dsimp only at hSw); go_simp; try with_reducible rfl)
  try simp only [Act.put, List.setIfInBounds_toArray, List.set_cons_zero, List.set_cons_succ]
  refine Till.step (i := 11) (by kernel_rfl) (by simp only [List.getElem?_toArray, List.getElem?_cons_succ, List.getElem?_cons_zero]; rfl) (fun K hK => ?_)
  go_simp
  refine hK.out _ _ ?_ ?_
  · exact fun _ => ⟨(((Only.refl (fun _ => False) W0).drew).alloc (.cells #[.int .i64 t.k, .string t.name, .int .i64 t.dims, .int .i64 t.elem, .int .i64 t.at_, .int .i64 (xa : Int), .int .i64 (lv : Int)] 78)).cell z1 (fun h => h), (((Only.refl (fun _ => False) W0).drew).alloc (.cells #[.int .i64 t.k, .string t.name, .int .i64 t.dims, .int .i64 t.elem, .int .i64 t.at_, .int .i64 (xa : Int), .int .i64 (lv : Int)] 78)).cell x0 (fun h => h), (((Only.refl (fun _ => False) W0).drew).alloc (.cells #[.int .i64 t.k, .string t.name, .int .i64 t.dims, .int .i64 t.elem, .int .i64 t.at_, .int .i64 (xa : Int), .int .i64 (lv : Int)] 78)).cell x1 (fun h => h), (((Only.refl (fun _ => False) W0).drew).alloc (.cells #[.int .i64 t.k, .string t.name, .int .i64 t.dims, .int .i64 t.elem, .int .i64 t.at_, .int .i64 (xa : Int), .int .i64 (lv : Int)] 78)).cell x2 (fun h => h), (((Only.refl (fun _ => False) W0).drew).alloc (.cells #[.int .i64 t.k, .string t.name, .int .i64 t.dims, .int .i64 t.elem, .int .i64 t.at_, .int .i64 (xa : Int), .int .i64 (lv : Int)] 78)).cell x3 (fun h => h), (((Only.refl (fun _ => False) W0).drew).alloc (.cells #[.int .i64 t.k, .string t.name, .int .i64 t.dims, .int .i64 t.elem, .int .i64 t.at_, .int .i64 (xa : Int), .int .i64 (lv : Int)] 78)).cell x4 (fun h => h)⟩
  clear hK K
  try simp only [Act.put, List.setIfInBounds_toArray, List.set_cons_zero, List.set_cons_succ]
  refine Till.step (i := 12) (by kernel_rfl) (by simp only [List.getElem?_toArray, List.getElem?_cons_succ, List.getElem?_cons_zero]; rfl) (fun K hK => ?_)
  (have HROWL := Lib.hid (RowG.only HL1.out (((Only.refl (fun _ => False) W0).drew).alloc (.cells #[.int .i64 t.k, .string t.name, .int .i64 t.dims, .int .i64 t.elem, .int .i64 t.at_, .int .i64 (xa : Int), .int .i64 (lv : Int)] 78)) (fun _ _ h => h)); refine step_append_src rfl (.tmp 17) (.tmp 24) 62 rfl 78 i1 (.agg #[.int .i64 0, .string ⟨#[]⟩, .int .i64 0, .int .i64 0, .int .i64 0, .int .i64 0, .int .i64 0]) 7 64 Try.underlying62 ji jz0 jz1 jz2 rfl (by decide) 0 (.slice ao ps.length cap) ps.length (ps.flatMap cellsPo) rfl (by exact HROWL.out) (Nat.zero_le _) (.slice (some ⟨W0.drew.heap.size, 0, none⟩) 1 1) 1 (cellsPo ⟨t, xa, lv⟩) rfl (by exact Src.op (w := W0.drew) ⟨t, xa, lv⟩ rfl) (by unfold maxLen; omega) (by omega) ?_; intro v' w3 hown hgrow hnew; have hal1 := ((Only.refl (fun _ => False) W0).drew).alloc (.cells #[.int .i64 t.k, .string t.name, .int .i64 t.dims, .int .i64 t.elem, .int .i64 t.at_, .int .i64 (xa : Int), .int .i64 (lv : Int)] 78); have hos := (Only.refl (fun k => (Value.slice ao ps.length cap).ownBlock = some k) _).grown hgrow (fun k hk _ => hk); have HA4 := Lib.hid ((hal1.mono (T := fun k => (Value.slice ao ps.length cap).ownBlock = some k) (fun _ h _ => h.elim)).trans hos (fun k hk _ => hk)); have hrow6 : RowG 78 7 cellsPo w3 0 v' (ps ++ [⟨t, xa, lv⟩]) := RowG.more hown; obtain ⟨an, cn, ev, -, -⟩ := slice_of_owns hrow6; obtain ⟨lx, hlx⟩ : ∃ lx, (ps ++ [(⟨t, xa, lv⟩ : ObP)]).length = lx := ⟨_, rfl⟩; rw [hlx] at ev; subst ev; have HLX := Lib.hid hlx; have HROW6 := Lib.hid hrow6; have HNEW := Lib.hid hnew; have hkk : ((fun wc => wc.cell? ⟨p, 1, none⟩ = some (.slice ao ps.length cap) ∧ wc.cell? ⟨b0, 0, none⟩ = some (.int .i64 t.k) ∧ wc.cell? ⟨b0, 1, none⟩ = some (.string t.name) ∧ wc.cell? ⟨b0, 2, none⟩ = some (.int .i64 t.dims) ∧ wc.cell? ⟨b0, 3, none⟩ = some (.int .i64 t.elem) ∧ wc.cell? ⟨b0, 4, none⟩ = some (.int .i64 t.at_)) w3) := ⟨HA4.out.cell z1 (HGLP.out), HA4.out.cell x0 (HGLB.out), HA4.out.cell x1 (HGLB.out), HA4.out.cell x2 (HGLB.out), HA4.out.cell x3 (HGLB.out), HA4.out.cell x4 (HGLB.out)⟩; have hblk := HA4.out.heap HBP.out HGLP.out; have HBP3 := Lib.hid hblk; have hfr := frozen_blk hblk 1; clear hown hgrow hnew hal1 hos hrow6 hlx hblk)
  refine hK.out _ _ ?_ ?_
  · exact fun _ => hkk
  clear hK K
  try simp only [Act.put, List.setIfInBounds_toArray, List.set_cons_zero, List.set_cons_succ]
  refine Till.step (i := 13) (by kernel_rfl) (by simp only [List.getElem?_toArray, List.getElem?_cons_succ, List.getElem?_cons_zero]; rfl) (fun K hK => ?_)
  go_simp
  refine hK.out _ _ ?_ ?_
  · exact fun _ => hkk
  clear hK K
  try simp only [Act.put, List.setIfInBounds_toArray, List.set_cons_zero, List.set_cons_succ]
  refine Till.step (i := 14) (by kernel_rfl) (by simp only [List.getElem?_toArray, List.getElem?_cons_succ, List.getElem?_cons_zero]; rfl) (fun K hK => ?_)
  go_simp
  refine hK.out _ _ ?_ ?_
  · exact fun _ => hkk
  clear hK K
  try simp only [Act.put, List.setIfInBounds_toArray, List.set_cons_zero, List.set_cons_succ]
  refine Till.step (i := 15) (by kernel_rfl) (by simp only [List.getElem?_toArray, List.getElem?_cons_succ, List.getElem?_cons_zero]; rfl) (fun K hK => ?_)
  go_simp
  refine hK.out _ _ ?_ ?_
  · exact fun h => by cases h
  clear hK K
  try simp only [Act.put, List.setIfInBounds_toArray, List.set_cons_zero, List.set_cons_succ]
  refine Till.done (by kernel_rfl) ?_ _

  have hz5 := cell_blk (heap_setCell_at (i := 1) (u := .slice an lx cn) HBP3.out) 1
  simp only [List.setIfInBounds_toArray, List.set_cons_zero, List.set_cons_succ, List.getElem?_toArray, List.getElem?_cons_zero] at hz5
  go_wp2
  go_ret
  have hset := (Only.refl (fun k => k = p) w3).setCell (p := ⟨p, 1, none⟩) (fun _ => rfl) (.slice an lx cn)
  have hO' : Only (fun k => (Value.slice ao ps.length cap).ownBlock = some k ∨ k = p) W0 (w3.setCell ⟨p, 1, none⟩ (.slice an lx cn)) := Only.trans (HA4.out.mono (fun k h _ => .inl h)) (hset.mono (fun k h _ => .inr h)) (fun _ h _ => h)
  have hb5 := heap_setCell_at (i := 1) (u := .slice an lx cn) HBP3.out
  simp only [List.setIfInBounds_toArray, List.set_cons_zero, List.set_cons_succ] at hb5
  have hasz : (W0.alloc (.cells #[.int .i64 t.k, .string t.name, .int .i64 t.dims, .int .i64 t.elem, .int .i64 t.at_, .int .i64 (xa : Int), .int .i64 (lv : Int)] 78)).drew.heap.size = W0.heap.size + 1 := by show (W0.alloc _).heap.size = _; simp
  have hasz2 : (W0.drew.alloc (.cells #[.int .i64 t.k, .string t.name, .int .i64 t.dims, .int .i64 t.elem, .int .i64 t.at_, .int .i64 (xa : Int), .int .i64 (lv : Int)] 78)).heap.size = W0.heap.size + 1 := by show (W0.alloc _).heap.size = _; simp
  have hnew : ∀ k, (Value.slice an lx cn).ownBlock = some k → (Value.slice ao ps.length cap).ownBlock = some k ∨ W0.heap.size + 1 ≤ k := fun k hk => by have := HNEW.out k hk; first | rwa [hasz] at this | rwa [hasz2] at this
  have hgl := fun k (hk : (Value.slice ao ps.length cap).ownBlock = some k) => (HH'.out.gL k (by rw [HLL.out]; exact hk))
  have hrow5 := RowG.only HROW6.out hset (fun k hk e => by subst e; rcases hnew k hk with e | e; exact (hgl k e).2 rfl; have := HH.out.lt k HH.out.gp; have := HS0.out; omega)
  have hH9 := HH'.out
  rw [HLL.out] at hH9
  have hadd := hH9.addO ⟨t, xa, lv⟩ hO' hb5 hrow5 (fun k hk => by rcases hnew k hk with e | e; exact .inl e; exact .inr (by omega)) HROOM.out
  rw [HLV.out, HXA.out]
  refine ⟨?_, _, _, hadd, ?_, fun k hk => hk.elim .inl (fun h => .inr (by have := h.1; have := HS0.out; omega))⟩
  · have hlx : (lx : Int) = (ps.length : Int) + 1 := by have := HLX.out; rw [List.length_append, List.length_singleton] at this; omega
    rw [← hlx]
    rfl
  · exact (HO.out.mono (T := G) (fun _ h _ => h.elim)).trans (hO'.mono (T := G) (fun k hk _ => by rcases hk with hk | hk; exact (hgl k hk).1; rw [hk]; exact HH.out.gp)) (fun _ h _ => h)

set_option maxHeartbeats 16000000 in
set_option maxRecDepth 100000 in
theorem pMake14 (t : TypeV) (dv : Value) (ts : List TypeV) (ht : Types w dv ts) (hfar : ∀ k, dv.ownBlock = some k → ts ≠ [] → ¬ G k) (hfv0 : (ps.length : Int) < most → vs.length + 1024 ≤ 1048576) : Calls Try.prog 18 #[.pointer (some ⟨p, 0, none⟩), valT t, dv] w fun e w' => ∃ E : Int, E = (if 1024 < ts.length then 1 else if most ≤ (ps.length : Int) then 140 else 0) ∧
    (E ≠ 0 → e = .returned (.tuple #[.int .i64 0, .int .i64 E]) ∧ Only (fun _ => False) w w') ∧
    (E = 0 → e = .returned (.tuple #[.int .i64 ((ps.length : Int) + 1), .int .i64 0]) ∧ ∃ L' V' G' k, k = (ts.map firstZ).length ∧ HeapQ w' G' p L' V' (ps ++ [⟨t, vs.length, vs.length + k⟩]) (vs ++ ts.map firstZ) most ∧ Only G w w' ∧ ∀ k, G' k → G k ∨ w.heap.size ≤ k) := by
  obtain ⟨i0, hi, hz0, hz1, hz2⟩ := info_parts info_val
  unfold valT
  have ho : Only (fun _ => False) w (w.alloc (.cells #[.int .i64 t.k, .string t.name, .int .i64 t.dims, .int .i64 t.elem, .int .i64 t.at_] 32)) := (Only.refl (fun _ => False) w).alloc (.cells #[.int .i64 t.k, .string t.name, .int .i64 t.dims, .int .i64 t.elem, .int .i64 t.at_] 32)
  have hbt : (w.alloc (.cells #[.int .i64 t.k, .string t.name, .int .i64 t.dims, .int .i64 t.elem, .int .i64 t.at_] 32)).heap[w.heap.size]? = some (.cells #[.int .i64 t.k, .string t.name, .int .i64 t.dims, .int .i64 t.elem, .int .i64 t.at_] 32 (0, 0)) := heap_alloc_new w _
  have hsz : (w.alloc (.cells #[.int .i64 t.k, .string t.name, .int .i64 t.dims, .int .i64 t.elem, .int .i64 t.at_] 32)).heap.size = w.heap.size + 1 := by simp
  obtain ⟨W0, hW0⟩ : ∃ W0, (w.alloc (.cells #[.int .i64 t.k, .string t.name, .int .i64 t.dims, .int .i64 t.elem, .int .i64 t.at_] 32)) = W0 := ⟨_, rfl⟩
  rw [hW0] at ho hbt hsz
  have h' := h.only ho (fun _ _ h => h)
  have HO := Lib.hid ho
  have HW0 := Lib.hid hW0
  have C := Lib.hid (pIsZero14 h')
  obtain ⟨ad, cd, rfl, -, -⟩ := id ht
  by_cases hbad : 1024 < ts.length
  · rw [if_pos hbad]
    have d1 : decide ((1024 : Int) < (ts.length : Int)) = true := by simp only [decide_eq_true_eq]; omega
    clear h h' ho hbt hsz hW0 hbad hfv0 ht
    go_enter Try.func18, Try.ntmps18
    go_wp2_with (fail)
    rw [HW0.out]
    refine C.out.mono ?_
    rintro e w1 ⟨rfl, hww⟩
    subst hww
    go_wp2
    go_ret2
    exact ⟨1, rfl, fun _ => ⟨rfl, HO.out⟩, (fun e => absurd e (by decide))⟩
  rw [if_neg hbad]
  have d1 : decide ((1024 : Int) < (ts.length : Int)) = false := by simp only [decide_eq_false_iff_not]; omega
  have CF := Lib.hid (pIsFull14 h')
  by_cases hfull : most ≤ (ps.length : Int)
  · rw [if_pos hfull]
    have d2 : decide (most ≤ (ps.length : Int)) = true := by simpa using hfull
    rw [d2] at CF
    clear h h' ho hbt hsz hW0 hbad hfull hfv0 ht
    go_enter Try.func18, Try.ntmps18
    go_wp2_with (fail)
    rw [HW0.out]
    refine C.out.mono ?_
    rintro e w1 ⟨rfl, hww⟩
    subst hww
    go_wp2_with (fail)
    refine CF.out.mono ?_
    rintro e w1 ⟨rfl, ho1⟩
    have HO1 := Lib.hid (HO.out.trans ho1 (fun _ h _ => h))
    clear ho1
    go_wp2
    go_ret2
    exact ⟨140, rfl, fun _ => ⟨rfl, HO1.out⟩, (fun e => absurd e (by decide))⟩
  rw [if_neg hfull]
  have d2 : decide (most ≤ (ps.length : Int)) = false := by simpa using hfull
  rw [d2] at CF
  have hfv := hfv0 (by omega)
  clear hfv0
  obtain ⟨b0, hb0⟩ : ∃ b0, w.heap.size = b0 := ⟨_, rfl⟩
  obtain ⟨B, hB⟩ : ∃ B, W0.heap.size = B := ⟨_, rfl⟩
  have hn : ts.length ≤ 1024 := by omega
  have HTS := Lib.hid (fun W (hW : Only G W0 W) => Types.onlyF (Types.only ht ho) hfar hW)
  have HTW := Lib.hid ht
  obtain ⟨zs, hzs⟩ : ∃ zs, ts.map firstZ = zs := ⟨_, rfl⟩
  have HZL := Lib.hid (show zs.length = ts.length from by rw [← hzs, List.length_map])
  have HZS := Lib.hid hzs
  rw [hzs]
  have HROOM := Lib.hid (show (ps.length : Int) < most from by omega)
  have HN := Lib.hid hn
  have HFV := Lib.hid hfv
  have HH := Lib.hid h
  have HH0 := Lib.hid h'
  have HBT := Lib.hid hbt
  have HSZ := Lib.hid hsz
  have HB0 := Lib.hid hb0
  have HB := Lib.hid hB
  clear h h' ho hbt hsz hW0 hbad hfull hfv hn hzs hb0 hB ht
  go_enter Try.func18, Try.ntmps18
  go_wp2_with (fail)
  rw [HW0.out]
  refine C.out.mono ?_
  rintro e w1 ⟨rfl, hww⟩
  subst hww
  go_wp2_with (fail)
  refine CF.out.mono ?_
  rintro e w1 ⟨rfl, ho1⟩
  have HH1 := Lib.hid (HH0.out.only ho1 (fun _ _ h => h))
  have HO1 := Lib.hid ho1
  clear ho1 C CF
  go_wp2_with (fail)
  go_loopw [22] (fun iv wr => ∃ (j : Nat) (V1 : Value) (G1 : Nat → Prop), iv = .int .i64 j ∧ j ≤ ts.length ∧ Hid (HeapQ wr G1 p L V1 ps (vs ++ zs.take j) most) ∧ Hid (∀ k, G1 k → G k ∨ B ≤ k) ∧ Hid (Only G W0 wr)) (fun iv _ => ts.length - (intOf iv).toNat)
  case atStart => exact ⟨0, V, G, rfl, Nat.zero_le _, Lib.hid (by rw [List.take_zero, List.append_nil]; exact HH1.out), Lib.hid (fun k hk => .inl hk), Lib.hid (HO1.out.mono (fun _ h _ => h.elim))⟩
  case round =>
    obtain ⟨j, V1, G1, rfl, hj, HQ, HG, HON⟩ := hrel
    by_cases hlt : j < ts.length
    · have hjz : (j : Int) < (ts.length : Int) := by omega
      have hj0 : (0 : Int) ≤ (j : Int) := by omega
      obtain ⟨u, hu⟩ : ∃ u, u = ts.getD j default := ⟨_, rfl⟩
      obtain ⟨b9, o9, rfl, hat⟩ := Sl.at (HTS.out wr HON.out) hlt
      rw [← hu] at hat
      obtain ⟨y0, y1, y2, y3, y4⟩ := hat
      have hstep : zs.take (j + 1) = zs.take j ++ [firstZ u] := by rw [← HZS.out, List.take_succ_eq_append_getElem (by rw [List.length_map]; exact hlt), List.getElem_map, hu]; simp [List.getD, hlt]
      obtain ⟨us, hus⟩ : ∃ us, vs ++ zs.take j = us := ⟨_, rfl⟩
      have hlen : us.length < 1048576 := by rw [← hus, List.length_append, List.length_take]; have := HFV.out; have := HZL.out; have := HN.out; omega
      have hstep2 : vs ++ zs.take (j + 1) = us ++ [firstZ u] := by rw [hstep, ← hus, List.append_assoc]
      rw [hus] at HQ
      obtain ⟨q, hq⟩ : ∃ q, firstZ u = q := ⟨_, rfl⟩
      have CF := Lib.hid (fun W => progFirst14 u W)
      unfold valT valVa at CF
      rw [hq] at CF hstep2
      have ho9 : Only (fun _ => False) wr (wr.alloc (.cells #[.int .i64 u.k, .string u.name, .int .i64 u.dims, .int .i64 u.elem, .int .i64 u.at_] 32)) := (Only.refl (fun _ => False) wr).alloc (.cells #[.int .i64 u.k, .string u.name, .int .i64 u.dims, .int .i64 u.elem, .int .i64 u.at_] 32)
      have hb9 := heap_alloc_new wr (.cells #[.int .i64 u.k, .string u.name, .int .i64 u.dims, .int .i64 u.elem, .int .i64 u.at_] 32)
      have hs9 : (wr.alloc (.cells #[.int .i64 u.k, .string u.name, .int .i64 u.dims, .int .i64 u.elem, .int .i64 u.at_] 32)).heap.size = wr.heap.size + 1 := by simp
      obtain ⟨W9, hW9⟩ : ∃ W9, wr.alloc (.cells #[.int .i64 u.k, .string u.name, .int .i64 u.dims, .int .i64 u.elem, .int .i64 u.at_] 32) = W9 := ⟨_, rfl⟩
      rw [hW9] at ho9 hb9 hs9
      obtain ⟨nb, hnb⟩ : ∃ nb, wr.heap.size = nb := ⟨_, rfl⟩
      rw [hnb] at hb9
      have h9 := HQ.out.only ho9 (fun _ _ h => h)
      obtain ⟨ao, cap, al, cl, -, rfl, z0, z1, z2, z3⟩ := h9.z
      obtain ⟨x0, x1, x2, x3, x4⟩ := cells5T hb9
      have HLP := Lib.hid (show ¬ ((Value.slice al us.length cl).ownBlock = some p) from fun e => (h9.gV p e).2.1 rfl)
      have HLB := Lib.hid (show ¬ ((Value.slice al us.length cl).ownBlock = some nb) from fun e => by have := HQ.out.lt nb (h9.gV nb e).1; omega)
      have HROW := Lib.hid h9.val
      have HBP := Lib.hid h9.blk
      have H9 := Lib.hid h9
      have HO9 := Lib.hid ho9
      have HST := Lib.hid hstep2
      have HW9 := Lib.hid hW9
      clear z0 z1 z3 h9 hb9 ho9 hus hstep hstep2 hq hW9 hu hs9
      go_wp2_with (fail)
      try rw [HW9.out]
      try rw [hnb]
      clear hnb
      have hSd : (fun wc => wc.cell? ⟨p, 2, none⟩ = some (.slice al us.length cl) ∧ wc.cell? ⟨nb, 0, none⟩ = some (.int .i64 u.k) ∧ wc.cell? ⟨nb, 1, none⟩ = some (.string u.name) ∧ wc.cell? ⟨nb, 2, none⟩ = some (.int .i64 u.dims) ∧ wc.cell? ⟨nb, 3, none⟩ = some (.int .i64 u.elem) ∧ wc.cell? ⟨nb, 4, none⟩ = some (.int .i64 u.at_)) W9.drew := ⟨z2, x0, x1, x2, x3, x4⟩
      clear y0 y1 y2 y3 y4
      refine wp_till 11 (fun wc => wc.cell? ⟨p, 2, none⟩ = some (.slice al us.length cl) ∧ wc.cell? ⟨nb, 0, none⟩ = some (.int .i64 u.k) ∧ wc.cell? ⟨nb, 1, none⟩ = some (.string u.name) ∧ wc.cell? ⟨nb, 2, none⟩ = some (.int .i64 u.dims) ∧ wc.cell? ⟨nb, 3, none⟩ = some (.int .i64 u.elem) ∧ wc.cell? ⟨nb, 4, none⟩ = some (.int .i64 u.at_)) (by kernel_rfl) ?_
      refine Till.take (i := 0) (v := ?_) (by simp only [List.getElem?_toArray, List.getElem?_cons_succ, List.getElem?_cons_zero]; rfl) (by kernel_rfl) (by kernel_rfl) (by kernel_rfl) (by kernel_rfl) (by kernel_rfl) (by exact fun _ _ _ h => h) (Or.inl ⟨by rfl, ?_⟩) (by assumption) ?_
      rotate_left 1
      · (intro w hSw; (try dsimp only at hSw); go_simp; try with_reducible rfl)
      try simp only [Act.put, List.setIfInBounds_toArray, List.set_cons_zero, List.set_cons_succ]
      refine Till.take (i := 1) (v := ?_) (by simp only [List.getElem?_toArray, List.getElem?_cons_succ, List.getElem?_cons_zero]; rfl) (by kernel_rfl) (by kernel_rfl) (by kernel_rfl) (by kernel_rfl) (by kernel_rfl) (by exact fun _ _ _ h => h) (Or.inl ⟨by rfl, ?_⟩) (by assumption) ?_
      rotate_left 1
      · (intro w hSw; (try dsimp only at hSw); go_simp; try with_reducible rfl)
      try simp only [Act.put, List.setIfInBounds_toArray, List.set_cons_zero, List.set_cons_succ]
      refine Till.take (i := 2) (v := ?_) (by simp only [List.getElem?_toArray, List.getElem?_cons_succ, List.getElem?_cons_zero]; rfl) (by kernel_rfl) (by kernel_rfl) (by kernel_rfl) (by kernel_rfl) (by kernel_rfl) (by exact fun _ _ _ h => h) (Or.inl ⟨by rfl, ?_⟩) (by assumption) ?_
      rotate_left 1
      · (intro w hSw; (try dsimp only at hSw); go_simp; try with_reducible rfl)
      try simp only [Act.put, List.setIfInBounds_toArray, List.set_cons_zero, List.set_cons_succ]
      refine Till.take (i := 3) (v := ?_) (by simp only [List.getElem?_toArray, List.getElem?_cons_succ, List.getElem?_cons_zero]; rfl) (by kernel_rfl) (by kernel_rfl) (by kernel_rfl) (by kernel_rfl) (by kernel_rfl) (by exact fun _ _ _ h => h) (Or.inl ⟨by rfl, ?_⟩) (by assumption) ?_
      rotate_left 1
      · (intro w hSw; (try dsimp only at hSw); go_simp; try with_reducible rfl)
      try simp only [Act.put, List.setIfInBounds_toArray, List.set_cons_zero, List.set_cons_succ]
      refine Till.take (i := 4) (v := ?_) (by simp only [List.getElem?_toArray, List.getElem?_cons_succ, List.getElem?_cons_zero]; rfl) (by kernel_rfl) (by kernel_rfl) (by kernel_rfl) (by kernel_rfl) (by kernel_rfl) (by exact fun _ _ _ h => h) (Or.inl ⟨by rfl, ?_⟩) (by assumption) ?_
      rotate_left 1
      · (intro w hSw; (try dsimp only at hSw); go_simp; try with_reducible rfl)
      try simp only [Act.put, List.setIfInBounds_toArray, List.set_cons_zero, List.set_cons_succ]
      refine Till.take (i := 5) (v := ?_) (by simp only [List.getElem?_toArray, List.getElem?_cons_succ, List.getElem?_cons_zero]; rfl) (by kernel_rfl) (by kernel_rfl) (by kernel_rfl) (by kernel_rfl) (by kernel_rfl) (by exact fun _ _ _ h => h) (Or.inl ⟨by rfl, ?_⟩) (by assumption) ?_
      rotate_left 1
      · (intro w hSw; (try dsimp only at hSw); go_simp; try with_reducible rfl)
      try simp only [Act.put, List.setIfInBounds_toArray, List.set_cons_zero, List.set_cons_succ]
      refine Till.step (i := 6) (by kernel_rfl) (by simp only [List.getElem?_toArray, List.getElem?_cons_succ, List.getElem?_cons_zero]; rfl) (fun K hK => ?_)
      go_simp
      (refine (CF.out _).mono ?_; rintro e1 w1 ⟨rfl, ho1⟩; have HA1 := Lib.hid ((Only.refl (fun _ => False) W9).drew.trans ho1 (fun _ h _ => h)); clear ho1)
      go_wp2_with fail
      refine hK.out _ _ ?_ ?_
      · exact fun _ => ⟨HA1.out.cell z2 (fun h => h), HA1.out.cell x0 (fun h => h), HA1.out.cell x1 (fun h => h), HA1.out.cell x2 (fun h => h), HA1.out.cell x3 (fun h => h), HA1.out.cell x4 (fun h => h)⟩
      clear hK K
      try simp only [Act.put, List.setIfInBounds_toArray, List.set_cons_zero, List.set_cons_succ]
      refine Till.step (i := 7) (by kernel_rfl) (by simp only [List.getElem?_toArray, List.getElem?_cons_succ, List.getElem?_cons_zero]; rfl) (fun K hK => ?_)
      go_simp
      refine hK.out _ _ ?_ ?_
      · exact fun _ => ⟨(HA1.out.alloc (.cells #[.int .i64 q.k, .int .i64 q.n, .int .i64 q.r] 34)).cell z2 (fun h => h), (HA1.out.alloc (.cells #[.int .i64 q.k, .int .i64 q.n, .int .i64 q.r] 34)).cell x0 (fun h => h), (HA1.out.alloc (.cells #[.int .i64 q.k, .int .i64 q.n, .int .i64 q.r] 34)).cell x1 (fun h => h), (HA1.out.alloc (.cells #[.int .i64 q.k, .int .i64 q.n, .int .i64 q.r] 34)).cell x2 (fun h => h), (HA1.out.alloc (.cells #[.int .i64 q.k, .int .i64 q.n, .int .i64 q.r] 34)).cell x3 (fun h => h), (HA1.out.alloc (.cells #[.int .i64 q.k, .int .i64 q.n, .int .i64 q.r] 34)).cell x4 (fun h => h)⟩
      clear hK K
      try simp only [Act.put, List.setIfInBounds_toArray, List.set_cons_zero, List.set_cons_succ]
      refine Till.step (i := 8) (by kernel_rfl) (by simp only [List.getElem?_toArray, List.getElem?_cons_succ, List.getElem?_cons_zero]; rfl) (fun K hK => ?_)
      (have HROW1 := Lib.hid (RowG.only HROW.out (HA1.out.alloc (.cells #[.int .i64 q.k, .int .i64 q.n, .int .i64 q.r] 34)) (fun _ _ h => h)); refine step_append_src rfl (.tmp 30) (.tmp 33) 54 rfl 34 i0 (.agg #[.int .i64 0, .int .i64 0, .int .i64 0]) 3 24 Try.underlying54 hi hz0 hz1 hz2 rfl (by decide) 0 (.slice al us.length cl) us.length (us.flatMap cellsVa) rfl (by exact HROW1.out) (Nat.zero_le _) (.slice (some ⟨w1.heap.size, 0, none⟩) 1 1) 1 (cellsVa q) rfl (by exact Src.val (w := w1) q rfl) (by unfold maxLen; omega) (by omega) ?_; intro v' w3 hown hgrow hnew; have hal1 := (Only.refl (fun _ => False) w1).alloc (.cells #[.int .i64 q.k, .int .i64 q.n, .int .i64 q.r] 34); have hos := (Only.refl (fun k => (Value.slice al us.length cl).ownBlock = some k) _).grown hgrow (fun k hk _ => hk); have hrow6 : RowG 34 3 cellsVa w3 0 v' (us ++ [q]) := RowG.more hown; obtain ⟨an, cn, ev, -, -⟩ := slice_of_owns hrow6; obtain ⟨ln, hln⟩ : ∃ ln, (us ++ [q]).length = ln := ⟨_, rfl⟩; rw [hln] at ev; subst ev; have HA3 := Lib.hid (((HA1.out.trans hal1 (fun _ h _ => h)).mono (T := fun k => (Value.slice al us.length cl).ownBlock = some k) (fun _ h _ => h.elim)).trans hos (fun k hk _ => hk)); have HROW6 := Lib.hid hrow6; have HNEW := Lib.hid hnew; have HSN := Lib.hid (show W9.heap.size ≤ (w1.alloc (.cells #[.int .i64 q.k, .int .i64 q.n, .int .i64 q.r] 34)).heap.size from (HA1.out.alloc (.cells #[.int .i64 q.k, .int .i64 q.n, .int .i64 q.r] 34)).size); have hkk : ((fun wc => wc.cell? ⟨p, 2, none⟩ = some (.slice al us.length cl) ∧ wc.cell? ⟨nb, 0, none⟩ = some (.int .i64 u.k) ∧ wc.cell? ⟨nb, 1, none⟩ = some (.string u.name) ∧ wc.cell? ⟨nb, 2, none⟩ = some (.int .i64 u.dims) ∧ wc.cell? ⟨nb, 3, none⟩ = some (.int .i64 u.elem) ∧ wc.cell? ⟨nb, 4, none⟩ = some (.int .i64 u.at_)) w3) := ⟨HA3.out.cell z2 HLP.out, HA3.out.cell x0 HLB.out, HA3.out.cell x1 HLB.out, HA3.out.cell x2 HLB.out, HA3.out.cell x3 HLB.out, HA3.out.cell x4 HLB.out⟩; have hblk := HA3.out.heap HBP.out HLP.out; have HBP3 := Lib.hid hblk; have hfr := frozen_blk hblk 2; clear hown hgrow hnew hal1 hos hrow6 hblk hln)
      refine hK.out _ _ ?_ ?_
      · exact fun _ => hkk
      clear hK K
      try simp only [Act.put, List.setIfInBounds_toArray, List.set_cons_zero, List.set_cons_succ]
      refine Till.step (i := 9) (by kernel_rfl) (by simp only [List.getElem?_toArray, List.getElem?_cons_succ, List.getElem?_cons_zero]; rfl) (fun K hK => ?_)
      go_simp
      refine hK.out _ _ ?_ ?_
      · exact fun _ => hkk
      clear hK K
      try simp only [Act.put, List.setIfInBounds_toArray, List.set_cons_zero, List.set_cons_succ]
      refine Till.step (i := 10) (by kernel_rfl) (by simp only [List.getElem?_toArray, List.getElem?_cons_succ, List.getElem?_cons_zero]; rfl) (fun K hK => ?_)
      go_simp
      refine hK.out _ _ ?_ ?_
      · exact fun _ => hkk
      clear hK K
      try simp only [Act.put, List.setIfInBounds_toArray, List.set_cons_zero, List.set_cons_succ]
      refine Till.step (i := 11) (by kernel_rfl) (by simp only [List.getElem?_toArray, List.getElem?_cons_succ, List.getElem?_cons_zero]; rfl) (fun K hK => ?_)
      go_simp
      refine hK.out _ _ ?_ ?_
      · exact fun h => by cases h
      clear hK K
      try simp only [Act.put, List.setIfInBounds_toArray, List.set_cons_zero, List.set_cons_succ]
      refine Till.done (by kernel_rfl) ?_ _
      have hb5 := heap_setCell_at (i := 2) (u := .slice an ln cn) HBP3.out
      simp only [List.setIfInBounds_toArray, List.set_cons_zero, List.set_cons_succ] at hb5
      have hset := (Only.refl (fun k => k = p) w3).setCell (p := ⟨p, 2, none⟩) (fun _ => rfl) (.slice an ln cn)
      have hO5 : Only (fun k => (Value.slice al us.length cl).ownBlock = some k ∨ k = p) W9 (w3.setCell ⟨p, 2, none⟩ (.slice an ln cn)) := Only.trans (HA3.out.mono (fun k h _ => .inl h)) (hset.mono (fun k h _ => .inr h)) (fun _ h _ => h)
      have hnew : ∀ k, (Value.slice an ln cn).ownBlock = some k → (Value.slice al us.length cl).ownBlock = some k ∨ W9.heap.size ≤ k := fun k hk => (HNEW.out k hk).imp id (fun h => by have := HSN.out; omega)
      have hrow5 := RowG.only HROW6.out hset (fun k hk e => by subst e; rcases hnew k hk with e | e; exact HLP.out e; have := H9.out.lt k H9.out.gp; omega)
      have hadd := H9.out.addV q hO5 hb5 hrow5 hnew hlen
      rw [← HST.out] at hadd
      have hwr := HON.out.size
      have hon5 : Only G W0 (w3.setCell ⟨p, 2, none⟩ (.slice an ln cn)) := (HON.out.trans (HO9.out.mono (T := G) (fun _ h _ => h.elim)) (fun _ h _ => h)).trans hO5 (fun k hk hl => by have e : G1 k := (by rcases hk with hk | hk; exact (H9.out.gV k hk).1; rw [hk]; exact H9.out.gp); rcases HG.out k e with e | e; exact e; have := HB.out; omega)
      have HADD := Lib.hid hadd
      have HON5 := Lib.hid hon5
      have HG5 := Lib.hid (show ∀ k, (G1 k ∨ (W9.heap.size ≤ k ∧ k < (w3.setCell ⟨p, 2, none⟩ (.slice an ln cn)).heap.size)) → G k ∨ B ≤ k from fun k hk => by rcases hk with hk | hk; exact HG.out k hk; right; have := HO9.out.size; have := HB.out; omega)
      clear hb5 hset hO5 hnew hrow5 hadd hwr hon5 hkk hfr hSd x0 x1 x2 x3 x4 z2 hlen
      have hn9 := HN.out
      go_wp2
      go_roundw
      case rel => exact ⟨j + 1, _, _, by go_num, by omega, HADD, HG5, HON5⟩
      case measure => simp [intOf]; omega
    · have hje : j = ts.length := by omega
      have hnj : ¬ ((j : Int) < (ts.length : Int)) := by omega
      have hfull : zs.take j = zs := List.take_of_length_le (by rw [HZL.out]; omega)
      rw [hfull] at HQ
      have hk : ts.length ≤ (vs ++ zs).length := by rw [List.length_append, HZL.out]; omega
      have CA := Lib.hid (pAdd14 HQ.out t ts.length hk HROOM.out)
      unfold valT at CA
      have hbt9 := HON.out.heap HBT.out (fun hg => by have := HH.out.lt _ hg; omega)
      obtain ⟨x0, x1, x2, x3, x4⟩ := cells5T hbt9
      have HJ := Lib.hid hje
      clear hbt9 hfull hje hlt hj hk
      go_wp2_with (fail)
      refine CA.out.mono ?_
      rintro e w5 ⟨rfl, L', G5, hq5, ho5, hg5⟩
      have HQ5 := Lib.hid hq5
      have HO5 := Lib.hid ho5
      have HG5 := Lib.hid hg5
      clear hq5 ho5 hg5 CA
      go_wp2
      go_ret2
      refine ⟨0, rfl, (fun e => absurd rfl e), fun _ => ⟨rfl, L', V1, G5, zs.length, rfl, ?_, ?_, fun k hk => ?_⟩⟩
      · have := HQ5.out
        rw [List.length_append, HZL.out, Nat.add_sub_cancel] at this
        rw [HZL.out]
        exact this
      · have h1 := HH.out
        exact (HO.out.mono (T := G) (fun _ h _ => h.elim)).trans (HON.out.trans (HO5.out.mono (T := fun k => G k ∨ B ≤ k) (fun k hk _ => HG.out k hk) |>.mono (T := fun k => G k ∨ B ≤ k) (fun k hk _ => hk)) (fun k hk hl => hk.elim id (fun q => by have := HB.out; omega))) (fun _ h _ => h)
      · rcases HG5.out k hk with e | e
        · rcases HG.out k e with e | e
          · exact .inl e
          · right; have := HB.out; have := HSZ.out; omega
        · right; have := HON.out.size; have := HSZ.out; omega
set_option maxHeartbeats 16000000 in
set_option maxRecDepth 100000 in
theorem pArray14 (t u : TypeV) (nn : Int) (hfv0 : (ps.length : Int) < most → vs.length + 1024 ≤ 1048576) : Calls Try.prog 19 #[.pointer (some ⟨p, 0, none⟩), valT t, valT u, .int .i64 nn] w fun e w' => ∃ E : Int, E = (if nn < 0 then 1 else if 1024 < nn ∨ most ≤ (ps.length : Int) then 140 else 0) ∧
    (E ≠ 0 → e = .returned (.tuple #[.int .i64 0, .int .i64 E]) ∧ Only (fun _ => False) w w') ∧
    (E = 0 → e = .returned (.tuple #[.int .i64 ((ps.length : Int) + 1), .int .i64 0]) ∧ ∃ L' V' G' k, k = (List.replicate nn.toNat (firstZ u)).length ∧ HeapQ w' G' p L' V' (ps ++ [⟨t, vs.length, vs.length + k⟩]) (vs ++ List.replicate nn.toNat (firstZ u)) most ∧ Only G w w' ∧ ∀ k, G' k → G k ∨ w.heap.size ≤ k) := by
  obtain ⟨i0, hi, hz0, hz1, hz2⟩ := info_parts info_val
  unfold valT
  have ho : Only (fun _ => False) w ((w.alloc (.cells #[.int .i64 t.k, .string t.name, .int .i64 t.dims, .int .i64 t.elem, .int .i64 t.at_] 32)).alloc (.cells #[.int .i64 u.k, .string u.name, .int .i64 u.dims, .int .i64 u.elem, .int .i64 u.at_] 32)) := ((Only.refl (fun _ => False) w).alloc (.cells #[.int .i64 t.k, .string t.name, .int .i64 t.dims, .int .i64 t.elem, .int .i64 t.at_] 32)).alloc (.cells #[.int .i64 u.k, .string u.name, .int .i64 u.dims, .int .i64 u.elem, .int .i64 u.at_] 32)
  have hbt : ((w.alloc (.cells #[.int .i64 t.k, .string t.name, .int .i64 t.dims, .int .i64 t.elem, .int .i64 t.at_] 32)).alloc (.cells #[.int .i64 u.k, .string u.name, .int .i64 u.dims, .int .i64 u.elem, .int .i64 u.at_] 32)).heap[w.heap.size]? = some (.cells #[.int .i64 t.k, .string t.name, .int .i64 t.dims, .int .i64 t.elem, .int .i64 t.at_] 32 (0, 0)) := ((Only.refl (fun _ => False) (w.alloc (.cells #[.int .i64 t.k, .string t.name, .int .i64 t.dims, .int .i64 t.elem, .int .i64 t.at_] 32))).alloc (.cells #[.int .i64 u.k, .string u.name, .int .i64 u.dims, .int .i64 u.elem, .int .i64 u.at_] 32)).heap (heap_alloc_new w _) (fun h => h)
  have hbu : ((w.alloc (.cells #[.int .i64 t.k, .string t.name, .int .i64 t.dims, .int .i64 t.elem, .int .i64 t.at_] 32)).alloc (.cells #[.int .i64 u.k, .string u.name, .int .i64 u.dims, .int .i64 u.elem, .int .i64 u.at_] 32)).heap[w.heap.size + 1]? = some (.cells #[.int .i64 u.k, .string u.name, .int .i64 u.dims, .int .i64 u.elem, .int .i64 u.at_] 32 (0, 0)) := by have := heap_alloc_new (w.alloc (.cells #[.int .i64 t.k, .string t.name, .int .i64 t.dims, .int .i64 t.elem, .int .i64 t.at_] 32)) (.cells #[.int .i64 u.k, .string u.name, .int .i64 u.dims, .int .i64 u.elem, .int .i64 u.at_] 32); simpa using this
  have hsz : ((w.alloc (.cells #[.int .i64 t.k, .string t.name, .int .i64 t.dims, .int .i64 t.elem, .int .i64 t.at_] 32)).alloc (.cells #[.int .i64 u.k, .string u.name, .int .i64 u.dims, .int .i64 u.elem, .int .i64 u.at_] 32)).heap.size = w.heap.size + 2 := by simp
  obtain ⟨W0, hW0⟩ : ∃ W0, ((w.alloc (.cells #[.int .i64 t.k, .string t.name, .int .i64 t.dims, .int .i64 t.elem, .int .i64 t.at_] 32)).alloc (.cells #[.int .i64 u.k, .string u.name, .int .i64 u.dims, .int .i64 u.elem, .int .i64 u.at_] 32)) = W0 := ⟨_, rfl⟩
  rw [hW0] at ho hbt hsz hbu
  have h' := h.only ho (fun _ _ h => h)
  have HO := Lib.hid ho
  have HW0 := Lib.hid hW0
  have C := Lib.hid (pIsZero14 h')
  by_cases hbad : nn < 0
  · rw [if_pos hbad]
    have d1 : decide (nn < 0) = true := by simpa using hbad
    clear h h' ho hbt hsz hW0 hbad hfv0 hbu
    go_enter Try.func19, Try.ntmps19
    go_wp2_with (fail)
    rw [HW0.out]
    refine C.out.mono ?_
    rintro e w1 ⟨rfl, hww⟩
    subst hww
    go_wp2
    go_ret2
    exact ⟨1, rfl, fun _ => ⟨rfl, HO.out⟩, (fun e => absurd e (by decide))⟩
  rw [if_neg hbad]
  have d1 : decide (nn < 0) = false := by simpa using hbad
  have CF := Lib.hid (pIsFull14 h')
  by_cases hbig : 1024 < nn
  · rw [if_pos (.inl hbig)]
    have d2 : decide (1024 < nn) = true := by simpa using hbig
    clear h h' ho hbt hsz hW0 hbad hbig CF hfv0 hbu
    go_enter Try.func19, Try.ntmps19
    go_wp2_with (fail)
    rw [HW0.out]
    refine C.out.mono ?_
    rintro e w1 ⟨rfl, hww⟩
    subst hww
    go_wp2
    go_ret2
    exact ⟨140, rfl, fun _ => ⟨rfl, HO.out⟩, (fun e => absurd e (by decide))⟩
  have d2 : decide (1024 < nn) = false := by simpa using hbig
  by_cases hfull : most ≤ (ps.length : Int)
  · rw [if_pos (.inr hfull)]
    have d3 : decide (most ≤ (ps.length : Int)) = true := by simpa using hfull
    rw [d3] at CF
    clear h h' ho hbt hsz hW0 hbad hbig hfull hfv0 hbu
    go_enter Try.func19, Try.ntmps19
    go_wp2_with (fail)
    rw [HW0.out]
    refine C.out.mono ?_
    rintro e w1 ⟨rfl, hww⟩
    subst hww
    go_wp2_with (fail)
    refine CF.out.mono ?_
    rintro e w1 ⟨rfl, ho1⟩
    have HO1 := Lib.hid (HO.out.trans ho1 (fun _ h _ => h))
    clear ho1
    go_wp2
    go_ret2
    exact ⟨140, rfl, fun _ => ⟨rfl, HO1.out⟩, (fun e => absurd e (by decide))⟩
  rw [if_neg (fun hq => hq.elim hbig hfull)]
  have d3 : decide (most ≤ (ps.length : Int)) = false := by simpa using hfull
  rw [d3] at CF
  obtain ⟨n, rfl⟩ : ∃ n : Nat, nn = (n : Int) := ⟨nn.toNat, by omega⟩
  have hn : n ≤ 1024 := by omega
  rw [show ((n : Int)).toNat = n from rfl]
  have hfv := hfv0 (by omega)
  clear hfv0
  obtain ⟨b0, hb0⟩ : ∃ b0, w.heap.size = b0 := ⟨_, rfl⟩
  obtain ⟨B, hB⟩ : ∃ B, W0.heap.size = B := ⟨_, rfl⟩
  have HBU := Lib.hid hbu
  obtain ⟨zs, hzs⟩ : ∃ zs, List.replicate n (firstZ u) = zs := ⟨_, rfl⟩
  have HZL := Lib.hid (show zs.length = n from by rw [← hzs, List.length_replicate])
  have HZS := Lib.hid hzs
  rw [hzs]
  have HROOM := Lib.hid (show (ps.length : Int) < most from by omega)
  have HN := Lib.hid hn
  have HFV := Lib.hid hfv
  have HH := Lib.hid h
  have HH0 := Lib.hid h'
  have HBT := Lib.hid hbt
  have HSZ := Lib.hid hsz
  have HB0 := Lib.hid hb0
  have HB := Lib.hid hB
  clear h h' ho hbt hsz hW0 hbad hfull hfv hn hzs hb0 hB hbu hbig
  go_enter Try.func19, Try.ntmps19
  go_wp2_with (fail)
  rw [HW0.out]
  refine C.out.mono ?_
  rintro e w1 ⟨rfl, hww⟩
  subst hww
  go_wp2_with (fail)
  refine CF.out.mono ?_
  rintro e w1 ⟨rfl, ho1⟩
  have HH1 := Lib.hid (HH0.out.only ho1 (fun _ _ h => h))
  have HO1 := Lib.hid ho1
  clear ho1 C CF
  go_wp2_with (fail)
  go_loopw [24] (fun iv wr => ∃ (j : Nat) (V1 : Value) (G1 : Nat → Prop), iv = .int .i64 j ∧ j ≤ n ∧ Hid (HeapQ wr G1 p L V1 ps (vs ++ zs.take j) most) ∧ Hid (∀ k, G1 k → G k ∨ B ≤ k) ∧ Hid (Only G W0 wr)) (fun iv _ => n - (intOf iv).toNat)
  case atStart => exact ⟨0, V, G, rfl, Nat.zero_le _, Lib.hid (by rw [List.take_zero, List.append_nil]; exact HH1.out), Lib.hid (fun k hk => .inl hk), Lib.hid (HO1.out.mono (fun _ h _ => h.elim))⟩
  case round =>
    obtain ⟨j, V1, G1, rfl, hj, HQ, HG, HON⟩ := hrel
    by_cases hlt : j < n
    · have hjz : (j : Int) < (n : Int) := by omega
      have hj0 : (0 : Int) ≤ (j : Int) := by omega
      have hstep : zs.take (j + 1) = zs.take j ++ [firstZ u] := by rw [← HZS.out, List.take_succ_eq_append_getElem (by rw [List.length_replicate]; exact hlt), List.getElem_replicate]
      obtain ⟨us, hus⟩ : ∃ us, vs ++ zs.take j = us := ⟨_, rfl⟩
      have hlen : us.length < 1048576 := by rw [← hus, List.length_append, List.length_take]; have := HFV.out; have := HZL.out; have := HN.out; omega
      have hstep2 : vs ++ zs.take (j + 1) = us ++ [firstZ u] := by rw [hstep, ← hus, List.append_assoc]
      rw [hus] at HQ
      obtain ⟨q, hq⟩ : ∃ q, firstZ u = q := ⟨_, rfl⟩
      have CF := Lib.hid (fun W => progFirst14 u W)
      unfold valT valVa at CF
      rw [hq] at CF hstep2
      obtain ⟨W9, hW9⟩ : ∃ W9, wr = W9 := ⟨_, rfl⟩
      have ho9 : Only (fun _ => False) wr W9 := by rw [hW9]; exact Only.refl _ _
      have hb9 := ho9.heap (HON.out.heap HBU.out (fun hg => by have := HH.out.lt _ hg; omega)) (fun h => h)
      have h9 := HQ.out.only ho9 (fun _ _ h => h)
      obtain ⟨ao, cap, al, cl, -, rfl, z0, z1, z2, z3⟩ := h9.z
      obtain ⟨x0, x1, x2, x3, x4⟩ := cells5T hb9
      have HLP := Lib.hid (show ¬ ((Value.slice al us.length cl).ownBlock = some p) from fun e => (h9.gV p e).2.1 rfl)
      have HLB := Lib.hid (show ¬ ((Value.slice al us.length cl).ownBlock = some (w.heap.size + 1)) from fun e => by rcases HG.out _ (h9.gV _ e).1 with q | q; have := HH.out.lt _ q; omega; have := HSZ.out; have := HB.out; omega)
      have HROW := Lib.hid h9.val
      have HBP := Lib.hid h9.blk
      have H9 := Lib.hid h9
      have HO9 := Lib.hid ho9
      have HST := Lib.hid hstep2
      have HW9 := Lib.hid hW9
      clear z0 z1 z3 h9 hb9 ho9 hus hstep hstep2 hq hW9
      try rw [HW9.out]
      go_wp2_with (fail)
      have hSd : (fun wc => wc.cell? ⟨p, 2, none⟩ = some (.slice al us.length cl) ∧ wc.cell? ⟨w.heap.size + 1, 0, none⟩ = some (.int .i64 u.k) ∧ wc.cell? ⟨w.heap.size + 1, 1, none⟩ = some (.string u.name) ∧ wc.cell? ⟨w.heap.size + 1, 2, none⟩ = some (.int .i64 u.dims) ∧ wc.cell? ⟨w.heap.size + 1, 3, none⟩ = some (.int .i64 u.elem) ∧ wc.cell? ⟨w.heap.size + 1, 4, none⟩ = some (.int .i64 u.at_)) W9.drew := ⟨z2, x0, x1, x2, x3, x4⟩
      refine wp_till 11 (fun wc => wc.cell? ⟨p, 2, none⟩ = some (.slice al us.length cl) ∧ wc.cell? ⟨w.heap.size + 1, 0, none⟩ = some (.int .i64 u.k) ∧ wc.cell? ⟨w.heap.size + 1, 1, none⟩ = some (.string u.name) ∧ wc.cell? ⟨w.heap.size + 1, 2, none⟩ = some (.int .i64 u.dims) ∧ wc.cell? ⟨w.heap.size + 1, 3, none⟩ = some (.int .i64 u.elem) ∧ wc.cell? ⟨w.heap.size + 1, 4, none⟩ = some (.int .i64 u.at_)) (by kernel_rfl) ?_
      refine Till.take (i := 0) (v := ?_) (by simp only [List.getElem?_toArray, List.getElem?_cons_succ, List.getElem?_cons_zero]; rfl) (by kernel_rfl) (by kernel_rfl) (by kernel_rfl) (by kernel_rfl) (by kernel_rfl) (by exact fun _ _ _ h => h) (Or.inl ⟨by rfl, ?_⟩) (by assumption) ?_
      rotate_left 1
      · (intro w hSw; (try dsimp only at hSw); go_simp; try with_reducible rfl)
      try simp only [Act.put, List.setIfInBounds_toArray, List.set_cons_zero, List.set_cons_succ]
      refine Till.take (i := 1) (v := ?_) (by simp only [List.getElem?_toArray, List.getElem?_cons_succ, List.getElem?_cons_zero]; rfl) (by kernel_rfl) (by kernel_rfl) (by kernel_rfl) (by kernel_rfl) (by kernel_rfl) (by exact fun _ _ _ h => h) (Or.inl ⟨by rfl, ?_⟩) (by assumption) ?_
      rotate_left 1
      · (intro w hSw; (try dsimp only at hSw); go_simp; try with_reducible rfl)
      try simp only [Act.put, List.setIfInBounds_toArray, List.set_cons_zero, List.set_cons_succ]
      refine Till.take (i := 2) (v := ?_) (by simp only [List.getElem?_toArray, List.getElem?_cons_succ, List.getElem?_cons_zero]; rfl) (by kernel_rfl) (by kernel_rfl) (by kernel_rfl) (by kernel_rfl) (by kernel_rfl) (by exact fun _ _ _ h => h) (Or.inl ⟨by rfl, ?_⟩) (by assumption) ?_
      rotate_left 1
      · (intro w hSw; (try dsimp only at hSw); go_simp; try with_reducible rfl)
      try simp only [Act.put, List.setIfInBounds_toArray, List.set_cons_zero, List.set_cons_succ]
      refine Till.take (i := 3) (v := ?_) (by simp only [List.getElem?_toArray, List.getElem?_cons_succ, List.getElem?_cons_zero]; rfl) (by kernel_rfl) (by kernel_rfl) (by kernel_rfl) (by kernel_rfl) (by kernel_rfl) (by exact fun _ _ _ h => h) (Or.inl ⟨by rfl, ?_⟩) (by assumption) ?_
      rotate_left 1
      · (intro w hSw; (try dsimp only at hSw); go_simp; try with_reducible rfl)
      try simp only [Act.put, List.setIfInBounds_toArray, List.set_cons_zero, List.set_cons_succ]
      refine Till.take (i := 4) (v := ?_) (by simp only [List.getElem?_toArray, List.getElem?_cons_succ, List.getElem?_cons_zero]; rfl) (by kernel_rfl) (by kernel_rfl) (by kernel_rfl) (by kernel_rfl) (by kernel_rfl) (by exact fun _ _ _ h => h) (Or.inl ⟨by rfl, ?_⟩) (by assumption) ?_
      rotate_left 1
      · (intro w hSw; (try dsimp only at hSw); go_simp; try with_reducible rfl)
      try simp only [Act.put, List.setIfInBounds_toArray, List.set_cons_zero, List.set_cons_succ]
      refine Till.take (i := 5) (v := ?_) (by simp only [List.getElem?_toArray, List.getElem?_cons_succ, List.getElem?_cons_zero]; rfl) (by kernel_rfl) (by kernel_rfl) (by kernel_rfl) (by kernel_rfl) (by kernel_rfl) (by exact fun _ _ _ h => h) (Or.inl ⟨by rfl, ?_⟩) (by assumption) ?_
      rotate_left 1
      · (intro w hSw; (try dsimp only at hSw); go_simp; try with_reducible rfl)
      try simp only [Act.put, List.setIfInBounds_toArray, List.set_cons_zero, List.set_cons_succ]
      refine Till.step (i := 6) (by kernel_rfl) (by simp only [List.getElem?_toArray, List.getElem?_cons_succ, List.getElem?_cons_zero]; rfl) (fun K hK => ?_)
      go_simp
      (refine (CF.out _).mono ?_; rintro e1 w1 ⟨rfl, ho1⟩; have HA1 := Lib.hid ((Only.refl (fun _ => False) W9).drew.trans ho1 (fun _ h _ => h)); clear ho1)
      go_wp2_with fail
      refine hK.out _ _ ?_ ?_
      · exact fun _ => ⟨HA1.out.cell z2 (fun h => h), HA1.out.cell x0 (fun h => h), HA1.out.cell x1 (fun h => h), HA1.out.cell x2 (fun h => h), HA1.out.cell x3 (fun h => h), HA1.out.cell x4 (fun h => h)⟩
      clear hK K
      try simp only [Act.put, List.setIfInBounds_toArray, List.set_cons_zero, List.set_cons_succ]
      refine Till.step (i := 7) (by kernel_rfl) (by simp only [List.getElem?_toArray, List.getElem?_cons_succ, List.getElem?_cons_zero]; rfl) (fun K hK => ?_)
      go_simp
      refine hK.out _ _ ?_ ?_
      · exact fun _ => ⟨(HA1.out.alloc (.cells #[.int .i64 q.k, .int .i64 q.n, .int .i64 q.r] 34)).cell z2 (fun h => h), (HA1.out.alloc (.cells #[.int .i64 q.k, .int .i64 q.n, .int .i64 q.r] 34)).cell x0 (fun h => h), (HA1.out.alloc (.cells #[.int .i64 q.k, .int .i64 q.n, .int .i64 q.r] 34)).cell x1 (fun h => h), (HA1.out.alloc (.cells #[.int .i64 q.k, .int .i64 q.n, .int .i64 q.r] 34)).cell x2 (fun h => h), (HA1.out.alloc (.cells #[.int .i64 q.k, .int .i64 q.n, .int .i64 q.r] 34)).cell x3 (fun h => h), (HA1.out.alloc (.cells #[.int .i64 q.k, .int .i64 q.n, .int .i64 q.r] 34)).cell x4 (fun h => h)⟩
      clear hK K
      try simp only [Act.put, List.setIfInBounds_toArray, List.set_cons_zero, List.set_cons_succ]
      refine Till.step (i := 8) (by kernel_rfl) (by simp only [List.getElem?_toArray, List.getElem?_cons_succ, List.getElem?_cons_zero]; rfl) (fun K hK => ?_)
      (have HROW1 := Lib.hid (RowG.only HROW.out (HA1.out.alloc (.cells #[.int .i64 q.k, .int .i64 q.n, .int .i64 q.r] 34)) (fun _ _ h => h)); refine step_append_src rfl (.tmp 30) (.tmp 33) 54 rfl 34 i0 (.agg #[.int .i64 0, .int .i64 0, .int .i64 0]) 3 24 Try.underlying54 hi hz0 hz1 hz2 rfl (by decide) 0 (.slice al us.length cl) us.length (us.flatMap cellsVa) rfl (by exact HROW1.out) (Nat.zero_le _) (.slice (some ⟨w1.heap.size, 0, none⟩) 1 1) 1 (cellsVa q) rfl (by exact Src.val (w := w1) q rfl) (by unfold maxLen; omega) (by omega) ?_; intro v' w3 hown hgrow hnew; have hal1 := (Only.refl (fun _ => False) w1).alloc (.cells #[.int .i64 q.k, .int .i64 q.n, .int .i64 q.r] 34); have hos := (Only.refl (fun k => (Value.slice al us.length cl).ownBlock = some k) _).grown hgrow (fun k hk _ => hk); have hrow6 : RowG 34 3 cellsVa w3 0 v' (us ++ [q]) := RowG.more hown; obtain ⟨an, cn, ev, -, -⟩ := slice_of_owns hrow6; obtain ⟨ln, hln⟩ : ∃ ln, (us ++ [q]).length = ln := ⟨_, rfl⟩; rw [hln] at ev; subst ev; have HA3 := Lib.hid (((HA1.out.trans hal1 (fun _ h _ => h)).mono (T := fun k => (Value.slice al us.length cl).ownBlock = some k) (fun _ h _ => h.elim)).trans hos (fun k hk _ => hk)); have HROW6 := Lib.hid hrow6; have HNEW := Lib.hid hnew; have HSN := Lib.hid (show W9.heap.size ≤ (w1.alloc (.cells #[.int .i64 q.k, .int .i64 q.n, .int .i64 q.r] 34)).heap.size from (HA1.out.alloc (.cells #[.int .i64 q.k, .int .i64 q.n, .int .i64 q.r] 34)).size); have hkk : ((fun wc => wc.cell? ⟨p, 2, none⟩ = some (.slice al us.length cl) ∧ wc.cell? ⟨w.heap.size + 1, 0, none⟩ = some (.int .i64 u.k) ∧ wc.cell? ⟨w.heap.size + 1, 1, none⟩ = some (.string u.name) ∧ wc.cell? ⟨w.heap.size + 1, 2, none⟩ = some (.int .i64 u.dims) ∧ wc.cell? ⟨w.heap.size + 1, 3, none⟩ = some (.int .i64 u.elem) ∧ wc.cell? ⟨w.heap.size + 1, 4, none⟩ = some (.int .i64 u.at_)) w3) := ⟨HA3.out.cell z2 HLP.out, HA3.out.cell x0 HLB.out, HA3.out.cell x1 HLB.out, HA3.out.cell x2 HLB.out, HA3.out.cell x3 HLB.out, HA3.out.cell x4 HLB.out⟩; have hblk := HA3.out.heap HBP.out HLP.out; have HBP3 := Lib.hid hblk; have hfr := frozen_blk hblk 2; clear hown hgrow hnew hal1 hos hrow6 hblk hln)
      refine hK.out _ _ ?_ ?_
      · exact fun _ => hkk
      clear hK K
      try simp only [Act.put, List.setIfInBounds_toArray, List.set_cons_zero, List.set_cons_succ]
      refine Till.step (i := 9) (by kernel_rfl) (by simp only [List.getElem?_toArray, List.getElem?_cons_succ, List.getElem?_cons_zero]; rfl) (fun K hK => ?_)
      go_simp
      refine hK.out _ _ ?_ ?_
      · exact fun _ => hkk
      clear hK K
      try simp only [Act.put, List.setIfInBounds_toArray, List.set_cons_zero, List.set_cons_succ]
      refine Till.step (i := 10) (by kernel_rfl) (by simp only [List.getElem?_toArray, List.getElem?_cons_succ, List.getElem?_cons_zero]; rfl) (fun K hK => ?_)
      go_simp
      refine hK.out _ _ ?_ ?_
      · exact fun _ => hkk
      clear hK K
      try simp only [Act.put, List.setIfInBounds_toArray, List.set_cons_zero, List.set_cons_succ]
      refine Till.step (i := 11) (by kernel_rfl) (by simp only [List.getElem?_toArray, List.getElem?_cons_succ, List.getElem?_cons_zero]; rfl) (fun K hK => ?_)
      go_simp
      refine hK.out _ _ ?_ ?_
      · exact fun h => by cases h
      clear hK K
      try simp only [Act.put, List.setIfInBounds_toArray, List.set_cons_zero, List.set_cons_succ]
      refine Till.done (by kernel_rfl) ?_ _
      have hb5 := heap_setCell_at (i := 2) (u := .slice an ln cn) HBP3.out
      simp only [List.setIfInBounds_toArray, List.set_cons_zero, List.set_cons_succ] at hb5
      have hset := (Only.refl (fun k => k = p) w3).setCell (p := ⟨p, 2, none⟩) (fun _ => rfl) (.slice an ln cn)
      have hO5 : Only (fun k => (Value.slice al us.length cl).ownBlock = some k ∨ k = p) W9 (w3.setCell ⟨p, 2, none⟩ (.slice an ln cn)) := Only.trans (HA3.out.mono (fun k h _ => .inl h)) (hset.mono (fun k h _ => .inr h)) (fun _ h _ => h)
      have hnew : ∀ k, (Value.slice an ln cn).ownBlock = some k → (Value.slice al us.length cl).ownBlock = some k ∨ W9.heap.size ≤ k := fun k hk => (HNEW.out k hk).imp id (fun h => by have := HSN.out; omega)
      have hrow5 := RowG.only HROW6.out hset (fun k hk e => by subst e; rcases hnew k hk with e | e; exact HLP.out e; have := H9.out.lt k H9.out.gp; omega)
      have hadd := H9.out.addV q hO5 hb5 hrow5 hnew hlen
      rw [← HST.out] at hadd
      have hwr := HON.out.size
      have hon5 : Only G W0 (w3.setCell ⟨p, 2, none⟩ (.slice an ln cn)) := (HON.out.trans (HO9.out.mono (T := G) (fun _ h _ => h.elim)) (fun _ h _ => h)).trans hO5 (fun k hk hl => by have e : G1 k := (by rcases hk with hk | hk; exact (H9.out.gV k hk).1; rw [hk]; exact H9.out.gp); rcases HG.out k e with e | e; exact e; have := HB.out; omega)
      have HADD := Lib.hid hadd
      have HON5 := Lib.hid hon5
      have HG5 := Lib.hid (show ∀ k, (G1 k ∨ (W9.heap.size ≤ k ∧ k < (w3.setCell ⟨p, 2, none⟩ (.slice an ln cn)).heap.size)) → G k ∨ B ≤ k from fun k hk => by rcases hk with hk | hk; exact HG.out k hk; right; have := HO9.out.size; have := HB.out; omega)
      clear hb5 hset hO5 hnew hrow5 hadd hwr hon5 hkk hfr hSd x0 x1 x2 x3 x4 z2 hlen
      have hn9 := HN.out
      go_wp2
      go_roundw
      case rel => exact ⟨j + 1, _, _, by go_num, by omega, HADD, HG5, HON5⟩
      case measure => simp [intOf]; omega
    · have hje : j = n := by omega
      have hnj : ¬ ((j : Int) < (n : Int)) := by omega
      have hfull : zs.take j = zs := List.take_of_length_le (by rw [HZL.out]; omega)
      rw [hfull] at HQ
      have hk : n ≤ (vs ++ zs).length := by rw [List.length_append, HZL.out]; omega
      have CA := Lib.hid (pAdd14 HQ.out t n hk HROOM.out)
      unfold valT at CA
      have hbt9 := HON.out.heap HBT.out (fun hg => by have := HH.out.lt _ hg; omega)
      obtain ⟨x0, x1, x2, x3, x4⟩ := cells5T hbt9
      have HJ := Lib.hid hje
      clear hbt9 hfull hje hlt hj hk
      go_wp2_with (fail)
      refine CA.out.mono ?_
      rintro e w5 ⟨rfl, L', G5, hq5, ho5, hg5⟩
      have HQ5 := Lib.hid hq5
      have HO5 := Lib.hid ho5
      have HG5 := Lib.hid hg5
      clear hq5 ho5 hg5 CA
      go_wp2
      go_ret2
      refine ⟨0, rfl, (fun e => absurd rfl e), fun _ => ⟨rfl, L', V1, G5, zs.length, rfl, ?_, ?_, fun k hk => ?_⟩⟩
      · have := HQ5.out
        rw [List.length_append, HZL.out, Nat.add_sub_cancel] at this
        rw [HZL.out]
        exact this
      · have h1 := HH.out
        exact (HO.out.mono (T := G) (fun _ h _ => h.elim)).trans (HON.out.trans (HO5.out.mono (T := fun k => G k ∨ B ≤ k) (fun k hk _ => HG.out k hk) |>.mono (T := fun k => G k ∨ B ≤ k) (fun k hk _ => hk)) (fun k hk hl => hk.elim id (fun q => by have := HB.out; omega))) (fun _ h _ => h)
      · rcases HG5.out k hk with e | e
        · rcases HG.out k e with e | e
          · exact .inl e
          · right; have := HB.out; have := HSZ.out; omega
        · right; have := HON.out.size; have := HSZ.out; omega
end
end Go.Proofs.Ytebeoganblcblaa
