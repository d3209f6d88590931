/- The document's Make and Array of a heap. Condition: the types are there. -/
import Derived.Test.YtebeoganblcblaaHpT
import Derived.Test.YtebeoganblcblaaTill
import Derived.Deep.QuietTactic
namespace Go.Proofs.Ytebeoganblcblaa
open Go.RowKit
set_option linter.unusedVariables false
set_option linter.unusedSimpArgs false

theorem Src.val {w : World} {m : Nat} (q : ValV) (h : w.heap.size = m) : Src (w.alloc (.cells #[.int .i64 q.k, .int .i64 q.n, .int .i64 q.r] 34)) 3 (.slice (some ⟨m, 0, none⟩) 1 1) 1 (cellsVa q) :=
  Src.struct (n := 3) [.int .i64 q.k, .int .i64 q.n, .int .i64 q.r] rfl (fun u hu => by simp only [List.mem_cons, List.mem_nil_iff, or_false] at hu; rcases hu with rfl | rfl | rfl <;> rfl) h
theorem Src.obj {w : World} {m : Nat} (t : TypeV) (a : Option Addr) (l c : Nat) (h : w.heap.size = m) : Src (w.alloc (.cells #[.int .i64 t.k, .string t.name, .int .i64 t.dims, .int .i64 t.elem, .int .i64 t.at_, .slice a l c] 56)) 6 (.slice (some ⟨m, 0, none⟩) 1 1) 1 [.int .i64 t.k, .string t.name, .int .i64 t.dims, .int .i64 t.elem, .int .i64 t.at_, .slice a l c] :=
  Src.struct (n := 6) [.int .i64 t.k, .string t.name, .int .i64 t.dims, .int .i64 t.elem, .int .i64 t.at_, .slice a l c] rfl (fun u hu => by simp only [List.mem_cons, List.mem_nil_iff, or_false] at hu; rcases hu with rfl | rfl | rfl | rfl | rfl | rfl <;> rfl) h
/-- One object more. -/
theorem HeapL.add {w w5 : World} {G : Nat → Prop} {p : Nat} {L L' : Value} {xs : List ObX} {most : Int} (h : HeapL w G p L xs most) (x : ObX) (hO : Only (fun k => L.ownBlock = some k ∨ k = p) w w5) (hblk : w5.heap[p]? = some (.cells #[L', .int .i64 most] 41 (0, 0)))
    (hrow : RowG 56 6 cellsOx w5 0 L' (xs ++ [x])) (hL : ∀ k, L'.ownBlock = some k → L.ownBlock = some k ∨ w.heap.size ≤ k) (hd : RowG 34 3 cellsVa w5 w.heap.size x.d x.vs) (hdL : ∀ k, x.d.ownBlock = some k → L'.ownBlock ≠ some k)
    (hroom : (xs.length : Int) < most) (hx : x.vs.length ≤ 1024) : HeapL w5 (fun k => G k ∨ (w.heap.size ≤ k ∧ k < w5.heap.size)) p L' (xs ++ [x]) most := by
  have hin : ∀ i, i < (xs ++ [x]).length → (i < xs.length ∧ (xs ++ [x]).getD i default = xs.getD i default) ∨ (i = xs.length ∧ (xs ++ [x]).getD i default = x) := by
    intro i hi
    rw [List.length_append, List.length_singleton] at hi
    by_cases e : i < xs.length
    · exact .inl ⟨e, by simp [List.getD, List.getElem?_append_left e]⟩
    · obtain rfl : i = xs.length := by omega
      exact .inr ⟨rfl, by simp [List.getD]⟩
  have hpl : p < w.heap.size := h.lt p h.gp
  have hxg : ∀ k, x.d.ownBlock = some k → w.heap.size ≤ k ∧ k < w5.heap.size := fun k hk => RowG.ge hd k hk
  refine ⟨hblk, hrow, ?_, ?_, .inl h.gp, ?_, ?_, ?_, by rw [List.length_append, List.length_singleton]; have := h.most0; omega, h.most0, ?_⟩
  · intro i hi
    rcases hin i hi with ⟨e, e2⟩ | ⟨e, e2⟩
    · rw [e2]
      exact RowG.only (h.data i e) hO (fun k hk hs => by rcases hs with hs | hs; exact (h.gd i e k hk).2.2 hs; exact (h.gd i e k hk).2.1 hs)
    · rw [e2]; exact RowG.base hd (Nat.zero_le _)
  · intro k hk
    rcases hk with hk | hk
    · exact Nat.lt_of_lt_of_le (h.lt k hk) hO.size
    · exact hk.2
  · intro k hk
    have hk5 := (RowG.ge hrow k hk).2
    rcases hL k hk with e | e
    · exact ⟨.inl (h.gL k e).1, (h.gL k e).2⟩
    · exact ⟨.inr ⟨e, hk5⟩, by omega⟩
  · intro i hi k hk
    rcases hin i hi with ⟨e, e2⟩ | ⟨e, e2⟩
    · rw [e2] at hk
      have q := h.gd i e k hk
      refine ⟨.inl q.1, q.2.1, fun e3 => ?_⟩
      rcases hL k e3 with e4 | e4
      · exact q.2.2 e4
      · have := h.lt k q.1; omega
    · rw [e2] at hk
      exact ⟨.inr (hxg k hk), by have := (hxg k hk).1; omega, hdL k hk⟩
  · intro i j hi hj hij k hk
    rcases hin i hi with ⟨e, e2⟩ | ⟨e, e2⟩ <;> rcases hin j hj with ⟨f, f2⟩ | ⟨f, f2⟩
    · rw [e2] at hk; rw [f2]; exact h.apart i j e f hij k hk
    · rw [e2] at hk; rw [f2]
      intro hq
      have := (hxg k hq).1
      have := h.lt k (h.gd i e k hk).1
      omega
    · rw [e2] at hk; rw [f2]
      intro hq
      have := (hxg k hk).1
      have := h.lt k (h.gd j f k hq).1
      omega
    · omega
  · intro i hi
    rcases hin i hi with ⟨e, e2⟩ | ⟨e, e2⟩
    · rw [e2]; exact h.short i e
    · rw [e2]; exact hx

section
variable {w : World} {G : Nat → Prop} {p : Nat} {L : Value} {xs : List ObX} {most : Int} (h : HeapL w G p L xs most)
include h
set_option maxHeartbeats 16000000 in
set_option maxRecDepth 100000 in
theorem refMake14 (t : TypeV) (dv : Value) (ts : List TypeV) (ht : Types w dv ts) : Calls Try.prog 25 #[.pointer (some ⟨p, 0, none⟩), valT t, dv] w fun e w' =>
    e = .returned (.tuple #[.int .i64 (makeZ (xs.map ObX.o) most t ts).2.1, .int .i64 (makeZ (xs.map ObX.o) most t ts).2.2]) ∧ ∃ G', HeapR w' G' p (makeZ (xs.map ObX.o) most t ts).1 most ∧ Only G w w' ∧ ∀ k, G' k → G k ∨ w.heap.size ≤ k := by
  obtain ⟨i0, hi, hz0, hz1, hz2⟩ := info_parts info_val
  obtain ⟨i1, ji, jz0, jz1, jz2⟩ := info_parts info_obj
  unfold makeZ valT
  rw [List.length_map]
  have ho : Only (fun _ => False) w (w.alloc (.cells #[.int .i64 t.k, .string t.name, .int .i64 t.dims, .int .i64 t.elem, .int .i64 t.at_] 32)) := (Only.refl (fun _ => False) w).alloc (.cells #[.int .i64 t.k, .string t.name, .int .i64 t.dims, .int .i64 t.elem, .int .i64 t.at_] 32)
  have hbt : (w.alloc (.cells #[.int .i64 t.k, .string t.name, .int .i64 t.dims, .int .i64 t.elem, .int .i64 t.at_] 32)).heap[w.heap.size]? = some (.cells #[.int .i64 t.k, .string t.name, .int .i64 t.dims, .int .i64 t.elem, .int .i64 t.at_] 32 (0, 0)) := heap_alloc_new w _
  have hsz : (w.alloc (.cells #[.int .i64 t.k, .string t.name, .int .i64 t.dims, .int .i64 t.elem, .int .i64 t.at_] 32)).heap.size = w.heap.size + 1 := by simp
  obtain ⟨W0, hW0⟩ : ∃ W0, (w.alloc (.cells #[.int .i64 t.k, .string t.name, .int .i64 t.dims, .int .i64 t.elem, .int .i64 t.at_] 32)) = W0 := ⟨_, rfl⟩
  rw [hW0] at ho hbt hsz
  have h' := h.only ho (fun _ _ h => h)
  obtain ⟨ao, cap, hL, z0, z1⟩ := h'.z
  obtain ⟨ad, cd, rfl, -, -⟩ := id ht
  by_cases hbig : 1024 < ts.length
  · rw [if_pos hbig]
    have d1 : decide ((1024 : Int) < (ts.length : Int)) = true := by simp only [decide_eq_true_eq]; omega
    have HH := Lib.hid h'
    have HO := Lib.hid ho
    clear h h' ho hbt hsz hL ht z0 z1 hbig
    go_enter Try.func25, Try.ntmps25
    go_wp2
    try rw [hW0]
    go_ret2
    exact ⟨rfl, G, ⟨L, xs, HH.out, rfl⟩, HO.out.mono (fun _ h _ => h.elim), fun k hk => .inl hk⟩
  rw [if_neg hbig]
  have d1 : decide ((1024 : Int) < (ts.length : Int)) = false := by simp only [decide_eq_false_iff_not]; omega
  by_cases hfull : most ≤ (xs.length : Int)
  · rw [if_pos hfull]
    have d2 : decide (most ≤ (xs.length : Int)) = true := by simpa using hfull
    have HH := Lib.hid h'
    have HO := Lib.hid ho
    clear h h' ho hbt hsz hL ht hbig hfull
    go_enter Try.func25, Try.ntmps25
    go_wp2
    go_region
    all_goals go_wp2
    all_goals go_ret2
    all_goals exact ⟨rfl, G, ⟨L, xs, HH.out.only (S := fun _ => False) ((Only.refl _ _).drew) (fun _ _ h => h), rfl⟩, (HO.out.mono (fun _ h _ => h.elim)).drew, fun k hk => .inl hk⟩
  rw [if_neg hfull]
  have d2 : decide (most ≤ (xs.length : Int)) = false := by simpa using hfull
  have hx0 := cells5T hbt
  obtain ⟨x0, x1, x2, x3, x4⟩ := hx0
  have ho1 := ((Only.refl (fun _ => False) W0).alloc (.cells #[.int .i64 t.k, .string t.name, .int .i64 t.dims, .int .i64 t.elem, .int .i64 t.at_, .slice none 0 0] 56)).drew
  have hb1 : (W0.alloc (.cells #[.int .i64 t.k, .string t.name, .int .i64 t.dims, .int .i64 t.elem, .int .i64 t.at_, .slice none 0 0] 56)).drew.heap[W0.heap.size]? = some (.cells #[.int .i64 t.k, .string t.name, .int .i64 t.dims, .int .i64 t.elem, .int .i64 t.at_, .slice none 0 0] 56 (0, 0)) := heap_alloc_new W0 (.cells #[.int .i64 t.k, .string t.name, .int .i64 t.dims, .int .i64 t.elem, .int .i64 t.at_, .slice none 0 0] 56)
  obtain ⟨W1, hW1⟩ : ∃ W1, (W0.alloc (.cells #[.int .i64 t.k, .string t.name, .int .i64 t.dims, .int .i64 t.elem, .int .i64 t.at_, .slice none 0 0] 56)).drew = W1 := ⟨_, rfl⟩
  have hM0 : W1.heap.size = W0.heap.size + 1 := by rw [← hW1]; show (W0.alloc _).heap.size = _; simp
  rw [hW1] at ho1 hb1
  obtain ⟨ob, hob⟩ : ∃ ob, W0.heap.size = ob := ⟨_, rfl⟩
  obtain ⟨M, hM⟩ : ∃ M, W1.heap.size = M := ⟨_, rfl⟩
  rw [hob] at hb1 hM0 hsz
  rw [hM] at hM0
  have HB1 := Lib.hid hb1
  have HW1 := Lib.hid hW1
  have HHW := Lib.hid (h'.only ho1 (fun _ _ h => h))
  have HO01 := Lib.hid (ho.trans ho1 (fun _ h _ => h))
  have HMO := Lib.hid hM0
  have HOB0 := Lib.hid hsz
  have HMW1 := Lib.hid hM
  have HLL := Lib.hid hL
  have HHL := Lib.hid h
  have HTS := Lib.hid (fun W (hW : Only (fun _ => False) w W) => Types.only ht hW)
  have HTW := Lib.hid ht
  have hn : ts.length ≤ 1024 := by omega
  have HROOM := Lib.hid (show (xs.length : Int) < most from by omega)
  have HN := Lib.hid hn
  clear h h' ho hbt hsz ho1 hb1 hL hM hM0 hn hW1 ht hbig hfull
  go_enter Try.func25, Try.ntmps25
  go_wp2
  go_region
  all_goals go_wp2_with (fail)
  rw [HW1.out]
  clear z0 z1 x0 x1 x2 x3 x4 hW0 hob
  go_loopw [9] (fun iv wr => ∃ (j : Nat) (vo : Value), iv = .int .i64 j ∧ j ≤ ts.length ∧ Hid (wr.heap[ob]? = some (.cells #[.int .i64 t.k, .string t.name, .int .i64 t.dims, .int .i64 t.elem, .int .i64 t.at_, vo] 56 (0, 0))) ∧ Hid (RowG 34 3 cellsVa wr M vo ((ts.map firstZ).take j)) ∧ Hid (Only (fun k => k = ob) W1 wr)) (fun iv _ => ts.length - (intOf iv).toNat)
  case atStart => exact ⟨0, _, rfl, Nat.zero_le _, HB1, Lib.hid (RowG.nil _ _), Lib.hid (Only.refl _ _)⟩
  case round =>
    obtain ⟨j, vo, rfl, hj, HL, HROW, HON⟩ := hrel
    obtain ⟨al, cl, rfl, -, -⟩ := slice_of_owns HROW.out
    have hww : Only (fun _ => False) w wr := Only.trans HO01.out HON.out (fun i e hl => by have := HOB0.out; omega)
    have HMW := Lib.hid (show M ≤ wr.heap.size from by have := HON.out.size; have := HMW1.out; omega)
    have HOB := Lib.hid (show ob < M from by have := HMO.out; omega)
    by_cases hlt : j < ts.length
    · have hjz : (j : Int) < (ts.length : Int) := by omega
      have hj0 : (0 : Int) ≤ (j : Int) := by omega
      obtain ⟨u, hu⟩ : ∃ u, u = ts.getD j default := ⟨_, rfl⟩
      obtain ⟨b9, o9, rfl, hat⟩ := Sl.at (HTS.out wr hww) hlt
      obtain ⟨b8, o8, e8, hat8⟩ := Sl.at HTW.out hlt
      injection e8 with e8
      injection e8 with e8 e8'
      subst e8 e8'
      have htb0 := World.block_lt_of_cell? _ _ hat8.c0
      rw [← hu] at hat
      have HTB := Lib.hid (show b9 < M from by have := HMO.out; have := HOB0.out; have : b9 < w.heap.size := htb0; omega)
      obtain ⟨y0, y1, y2, y3, y4⟩ := hat
      clear hat8 htb0
      have hstep : (ts.map firstZ).take (j + 1) = (ts.map firstZ).take j ++ [firstZ u] := by rw [List.take_succ_eq_append_getElem (by rw [List.length_map]; exact hlt), List.getElem_map, hu]; simp [List.getD, hlt]
      have hlen : ((ts.map firstZ).take j).length ≤ 1024 := by rw [List.length_take, List.length_map]; have := HN.out; omega
      obtain ⟨us, hus⟩ : ∃ us, (ts.map firstZ).take j = us := ⟨_, rfl⟩
      rw [hus] at HROW hstep hlen
      have hcl : (Value.slice al (((ts.map firstZ).take j).length) cl) = .slice al us.length cl := by rw [hus]
      rw [hus] at HL
      have CF := Lib.hid (fun W => refFirst14 u W)
      unfold valT valVa at CF
      obtain ⟨q, hq⟩ : ∃ q, firstZ u = q := ⟨_, rfl⟩
      have hstep2 : (ts.map firstZ).take (j + 1) = us ++ [q] := by rw [hstep, hq]
      rw [hq] at CF
      have hl5 : wr.drew.cell? ⟨ob, 5, none⟩ = some (.slice al us.length cl) := cell_blk HL.out 5
      have hy0 : wr.drew.cell? ⟨b9, o9 + j * 5, none⟩ = some (.int .i64 u.k) := y0
      have hy1 : wr.drew.cell? ⟨b9, o9 + j * 5 + 1, none⟩ = some (.string u.name) := y1
      have hy2 : wr.drew.cell? ⟨b9, o9 + j * 5 + 2, none⟩ = some (.int .i64 u.dims) := y2
      have hy3 : wr.drew.cell? ⟨b9, o9 + j * 5 + 3, none⟩ = some (.int .i64 u.elem) := y3
      have hy4 : wr.drew.cell? ⟨b9, o9 + j * 5 + 4, none⟩ = some (.int .i64 u.at_) := y4
      have hSd : (fun wc => wc.cell? ⟨ob, 5, none⟩ = some (.slice al us.length cl) ∧ wc.cell? ⟨b9, o9 + j * 5, none⟩ = some (.int .i64 u.k) ∧ wc.cell? ⟨b9, o9 + j * 5 + 1, none⟩ = some (.string u.name) ∧ wc.cell? ⟨b9, o9 + j * 5 + 2, none⟩ = some (.int .i64 u.dims) ∧ wc.cell? ⟨b9, o9 + j * 5 + 3, none⟩ = some (.int .i64 u.elem) ∧ wc.cell? ⟨b9, o9 + j * 5 + 4, none⟩ = some (.int .i64 u.at_)) wr.drew := ⟨hl5, hy0, hy1, hy2, hy3, hy4⟩
      have HST := Lib.hid hstep2
      clear y0 y1 y2 y3 y4 hq hus hstep hstep2 hcl hww hu
      try rw [hus]
      go_wp2_with (fail)
      refine wp_till 10 (fun wc => wc.cell? ⟨ob, 5, none⟩ = some (.slice al us.length cl) ∧ wc.cell? ⟨b9, o9 + j * 5, none⟩ = some (.int .i64 u.k) ∧ wc.cell? ⟨b9, o9 + j * 5 + 1, none⟩ = some (.string u.name) ∧ wc.cell? ⟨b9, o9 + j * 5 + 2, none⟩ = some (.int .i64 u.dims) ∧ wc.cell? ⟨b9, o9 + j * 5 + 3, none⟩ = some (.int .i64 u.elem) ∧ wc.cell? ⟨b9, o9 + j * 5 + 4, none⟩ = some (.int .i64 u.at_)) (by kernel_rfl) ?_
      refine Till.take (i := 0) (v := ?_) (by simp only [List.getElem?_toArray, List.getElem?_cons_succ, List.getElem?_cons_zero]; rfl) (by kernel_rfl) (by kernel_rfl) (by kernel_rfl) (by kernel_rfl) (by kernel_rfl) (by exact fun _ _ _ h => h) (Or.inl ⟨by rfl, ?_⟩) (by assumption) ?_
      rotate_left 1
      · (intro w hSw; (try dsimp only at hSw); go_simp; try with_reducible rfl)
      try simp only [Act.put, List.setIfInBounds_toArray, List.set_cons_zero, List.set_cons_succ]
      refine Till.take (i := 1) (v := ?_) (by simp only [List.getElem?_toArray, List.getElem?_cons_succ, List.getElem?_cons_zero]; rfl) (by kernel_rfl) (by kernel_rfl) (by kernel_rfl) (by kernel_rfl) (by kernel_rfl) (by exact fun _ _ _ h => h) (Or.inl ⟨by rfl, ?_⟩) (by assumption) ?_
      rotate_left 1
      · (intro w hSw; (try dsimp only at hSw); go_simp; try with_reducible rfl)
      try simp only [Act.put, List.setIfInBounds_toArray, List.set_cons_zero, List.set_cons_succ]
      refine Till.take (i := 2) (v := ?_) (by simp only [List.getElem?_toArray, List.getElem?_cons_succ, List.getElem?_cons_zero]; rfl) (by kernel_rfl) (by kernel_rfl) (by kernel_rfl) (by kernel_rfl) (by kernel_rfl) (by exact fun _ _ _ h => h) (Or.inl ⟨by rfl, ?_⟩) (by assumption) ?_
      rotate_left 1
      · (intro w hSw; (try dsimp only at hSw); go_simp; try with_reducible rfl)
      try simp only [Act.put, List.setIfInBounds_toArray, List.set_cons_zero, List.set_cons_succ]
      refine Till.take (i := 3) (v := ?_) (by simp only [List.getElem?_toArray, List.getElem?_cons_succ, List.getElem?_cons_zero]; rfl) (by kernel_rfl) (by kernel_rfl) (by kernel_rfl) (by kernel_rfl) (by kernel_rfl) (by exact fun _ _ _ h => h) (Or.inl ⟨by rfl, ?_⟩) (by assumption) ?_
      rotate_left 1
      · (intro w hSw; (try dsimp only at hSw); go_simp; try with_reducible rfl)
      try simp only [Act.put, List.setIfInBounds_toArray, List.set_cons_zero, List.set_cons_succ]
      refine Till.take (i := 4) (v := ?_) (by simp only [List.getElem?_toArray, List.getElem?_cons_succ, List.getElem?_cons_zero]; rfl) (by kernel_rfl) (by kernel_rfl) (by kernel_rfl) (by kernel_rfl) (by kernel_rfl) (by exact fun _ _ _ h => h) (Or.inl ⟨by rfl, ?_⟩) (by assumption) ?_
      rotate_left 1
      · (intro w hSw; (try dsimp only at hSw); go_simp; try with_reducible rfl)
      try simp only [Act.put, List.setIfInBounds_toArray, List.set_cons_zero, List.set_cons_succ]
      refine Till.take (i := 5) (v := ?_) (by simp only [List.getElem?_toArray, List.getElem?_cons_succ, List.getElem?_cons_zero]; rfl) (by kernel_rfl) (by kernel_rfl) (by kernel_rfl) (by kernel_rfl) (by kernel_rfl) (by exact fun _ _ _ h => h) (Or.inl ⟨by rfl, ?_⟩) (by assumption) ?_
      rotate_left 1
      · (intro w hSw; (try dsimp only at hSw); go_simp; try with_reducible rfl)
      try simp only [Act.put, List.setIfInBounds_toArray, List.set_cons_zero, List.set_cons_succ]
      refine Till.step (i := 6) (by kernel_rfl) (by simp only [List.getElem?_toArray, List.getElem?_cons_succ, List.getElem?_cons_zero]; rfl) (fun K hK => ?_)
      go_simp
      (refine (CF.out _).mono ?_; rintro e1 w1 ⟨rfl, ho1⟩; have HA1 := Lib.hid ((Only.refl (fun _ => False) _).drew.trans ho1 (fun _ h _ => h)); clear ho1)
      go_wp2_with fail
      refine hK.out _ _ ?_ ?_
      · exact fun _ => ⟨HA1.out.cell hl5 (fun h => h), HA1.out.cell hy0 (fun h => h), HA1.out.cell hy1 (fun h => h), HA1.out.cell hy2 (fun h => h), HA1.out.cell hy3 (fun h => h), HA1.out.cell hy4 (fun h => h)⟩
      clear hK K
      try simp only [Act.put, List.setIfInBounds_toArray, List.set_cons_zero, List.set_cons_succ]
      refine Till.step (i := 7) (by kernel_rfl) (by simp only [List.getElem?_toArray, List.getElem?_cons_succ, List.getElem?_cons_zero]; rfl) (fun K hK => ?_)
      go_simp
      refine hK.out _ _ ?_ ?_
      · exact fun _ => ⟨(HA1.out.alloc (.cells #[.int .i64 q.k, .int .i64 q.n, .int .i64 q.r] 34)).cell hl5 (fun h => h), (HA1.out.alloc (.cells #[.int .i64 q.k, .int .i64 q.n, .int .i64 q.r] 34)).cell hy0 (fun h => h), (HA1.out.alloc (.cells #[.int .i64 q.k, .int .i64 q.n, .int .i64 q.r] 34)).cell hy1 (fun h => h), (HA1.out.alloc (.cells #[.int .i64 q.k, .int .i64 q.n, .int .i64 q.r] 34)).cell hy2 (fun h => h), (HA1.out.alloc (.cells #[.int .i64 q.k, .int .i64 q.n, .int .i64 q.r] 34)).cell hy3 (fun h => h), (HA1.out.alloc (.cells #[.int .i64 q.k, .int .i64 q.n, .int .i64 q.r] 34)).cell hy4 (fun h => h)⟩
      clear hK K
      try simp only [Act.put, List.setIfInBounds_toArray, List.set_cons_zero, List.set_cons_succ]
      refine Till.step (i := 8) (by kernel_rfl) (by simp only [List.getElem?_toArray, List.getElem?_cons_succ, List.getElem?_cons_zero]; rfl) (fun K hK => ?_)
      (have HROW1 := Lib.hid (RowG.only HROW.out (HA1.out.alloc (.cells #[.int .i64 q.k, .int .i64 q.n, .int .i64 q.r] 34)) (fun _ _ h => h)); refine step_append_src rfl (.tmp 32) (.tmp 38) 54 rfl 34 i0 (.agg #[.int .i64 0, .int .i64 0, .int .i64 0]) 3 24 Try.underlying54 hi hz0 hz1 hz2 rfl (by decide) M (.slice al us.length cl) us.length (us.flatMap cellsVa) rfl (by exact HROW1.out) (by have := HA1.out.size; have := HMW.out; simp; omega) (.slice (some ⟨w1.heap.size, 0, none⟩) 1 1) 1 (cellsVa q) rfl (by exact Src.val (w := w1) q rfl) (by unfold maxLen; omega) (by omega) ?_; intro v' w3 hown hgrow hnew; have hal1 := (Only.refl (fun _ => False) w1).alloc (.cells #[.int .i64 q.k, .int .i64 q.n, .int .i64 q.r] 34); have hos := (Only.refl (fun k => (Value.slice al us.length cl).ownBlock = some k) _).grown hgrow (fun k hk _ => hk); have hrow6 : RowG 34 3 cellsVa w3 M v' (us ++ [q]) := RowG.more hown; obtain ⟨an, cn, ev, -, -⟩ := slice_of_owns hrow6; obtain ⟨ln, hln⟩ : ∃ ln, (us ++ [q]).length = ln := ⟨_, rfl⟩; rw [hln] at ev; subst ev; clear hln; have HA3 := Lib.hid (((HA1.out.trans hal1 (fun _ h _ => h)).mono (T := fun k => (Value.slice al us.length cl).ownBlock = some k) (fun _ h _ => h.elim)).trans hos (fun k hk _ => hk)); have HROW6 := Lib.hid hrow6; have hown3 : ∀ k, (Value.slice al us.length cl).ownBlock = some k → M ≤ k ∧ k < wr.heap.size := fun k hk => RowG.ge HROW.out k hk; have HGE := Lib.hid hown3; have hkk : ((fun wc => wc.cell? ⟨ob, 5, none⟩ = some (.slice al us.length cl) ∧ wc.cell? ⟨b9, o9 + j * 5, none⟩ = some (.int .i64 u.k) ∧ wc.cell? ⟨b9, o9 + j * 5 + 1, none⟩ = some (.string u.name) ∧ wc.cell? ⟨b9, o9 + j * 5 + 2, none⟩ = some (.int .i64 u.dims) ∧ wc.cell? ⟨b9, o9 + j * 5 + 3, none⟩ = some (.int .i64 u.elem) ∧ wc.cell? ⟨b9, o9 + j * 5 + 4, none⟩ = some (.int .i64 u.at_)) w3) := ⟨HA3.out.cell hl5 (show ¬ ((Value.slice al us.length cl).ownBlock = some ob) from fun e => by have := (hown3 _ e).1; have := HOB.out; omega), HA3.out.cell hy0 (show ¬ ((Value.slice al us.length cl).ownBlock = some b9) from fun e => by have := (hown3 _ e).1; have := HTB.out; omega), HA3.out.cell hy1 (show ¬ ((Value.slice al us.length cl).ownBlock = some b9) from fun e => by have := (hown3 _ e).1; have := HTB.out; omega), HA3.out.cell hy2 (show ¬ ((Value.slice al us.length cl).ownBlock = some b9) from fun e => by have := (hown3 _ e).1; have := HTB.out; omega), HA3.out.cell hy3 (show ¬ ((Value.slice al us.length cl).ownBlock = some b9) from fun e => by have := (hown3 _ e).1; have := HTB.out; omega), HA3.out.cell hy4 (show ¬ ((Value.slice al us.length cl).ownBlock = some b9) from fun e => by have := (hown3 _ e).1; have := HTB.out; omega)⟩; have HLO := Lib.hid (HA3.out.heap HL.out (show ¬ ((Value.slice al us.length cl).ownBlock = some ob) from fun e => by have := (hown3 _ e).1; have := HOB.out; omega)); have hfr := frozen_blk HLO.out 5; clear hown hgrow hnew hal1 hos hrow6 hown3)
      refine hK.out _ _ ?_ ?_
      · exact fun _ => hkk
      clear hK K
      try simp only [Act.put, List.setIfInBounds_toArray, List.set_cons_zero, List.set_cons_succ]
      refine Till.step (i := 9) (by kernel_rfl) (by simp only [List.getElem?_toArray, List.getElem?_cons_succ, List.getElem?_cons_zero]; rfl) (fun K hK => ?_)
      go_simp
      refine hK.out _ _ ?_ ?_
      · exact fun _ => hkk
      clear hK K
      try simp only [Act.put, List.setIfInBounds_toArray, List.set_cons_zero, List.set_cons_succ]
      refine Till.step (i := 10) (by kernel_rfl) (by simp only [List.getElem?_toArray, List.getElem?_cons_succ, List.getElem?_cons_zero]; rfl) (fun K hK => ?_)
      go_simp
      refine hK.out _ _ ?_ ?_
      · exact fun h => by cases h
      clear hK K
      try simp only [Act.put, List.setIfInBounds_toArray, List.set_cons_zero, List.set_cons_succ]
      refine Till.done (by kernel_rfl) ?_ _
      have hl9 := heap_setCell_at (i := 5) (u := .slice an ln cn) HLO.out
      simp only [List.setIfInBounds_toArray, List.set_cons_zero, List.set_cons_succ] at hl9
      have hot := (Only.refl (fun k => k = ob) w3).setCell (p := ⟨ob, 5, none⟩) (fun _ => rfl) (.slice an ln cn)
      have hrow9 := RowG.only HROW6.out hot (fun k hk e => by have := (RowG.ge HROW6.out _ hk).1; have := HOB.out; omega)
      have hon9 := Only.trans (HON.out.trans HA3.out (fun i hi hl => by have := (HGE.out _ hi).1; have := HMW1.out; omega)) hot (fun _ h _ => h)
      have HL9 := Lib.hid hl9
      have HROW9 := Lib.hid hrow9
      have HON9 := Lib.hid hon9
      clear hl9 hot hrow9 hon9 hkk hl5 hy0 hy1 hy2 hy3 hy4 hfr hSd
      have hn9 := HN.out
      go_wp2
      go_roundw
      case rel => exact ⟨j + 1, _, by go_num, by omega, HL9, Lib.hid (by rw [HST.out]; exact HROW9.out), HON9⟩
      case measure => simp [intOf]; omega
    · have hje : j = ts.length := by omega
      have hnj : ¬ ((j : Int) < (ts.length : Int)) := by omega
      have hfull : (ts.map firstZ).take j = ts.map firstZ := List.take_of_length_le (by rw [List.length_map]; omega)
      obtain ⟨ln, hln⟩ : ∃ ln, ((ts.map firstZ).take j).length = ln := ⟨_, rfl⟩
      have hlnv : (ts.map firstZ).length = ln := by rw [← hln, hfull]
      rw [hfull, hlnv] at HROW
      rw [hln] at HL
      have h2 := HHW.out.only HON.out (fun k hk e => by have := HHL.out.lt k hk; have := HOB0.out; omega)
      rw [HLL.out] at h2
      have HBP := Lib.hid h2.blk
      have HROWL := Lib.hid (show RowG 56 6 cellsOx (wr.drew.alloc (.cells #[.int .i64 t.k, .string t.name, .int .i64 t.dims, .int .i64 t.elem, .int .i64 t.at_, .slice al ln cl] 56)) 0 (.slice ao xs.length cap) xs from RowG.only h2.row (((Only.refl (fun _ => False) wr).drew).alloc (.cells #[.int .i64 t.k, .string t.name, .int .i64 t.dims, .int .i64 t.elem, .int .i64 t.at_, .slice al ln cl] 56)) (fun _ _ h => h))
      have hgl := fun k hk => h2.gL k hk
      have hgp := HHL.out.lt _ HHL.out.gp
      have HGLP := Lib.hid (show ¬ ((Value.slice ao xs.length cap).ownBlock = some p) from fun e => (hgl p e).2 rfl)
      have HGLO := Lib.hid (show ¬ ((Value.slice ao xs.length cap).ownBlock = some ob) from fun e => by have := HHL.out.lt _ (hgl ob e).1; have := HOB0.out; omega)
      have hzp : wr.drew.cell? ⟨p, 0, none⟩ = some (.slice ao xs.length cap) := cell_blk h2.blk 0
      have hx0 : wr.drew.cell? ⟨ob, 0, none⟩ = some (.int .i64 t.k) := cell_blk HL.out 0
      have hx1 : wr.drew.cell? ⟨ob, 1, none⟩ = some (.string t.name) := cell_blk HL.out 1
      have hx2 : wr.drew.cell? ⟨ob, 2, none⟩ = some (.int .i64 t.dims) := cell_blk HL.out 2
      have hx3 : wr.drew.cell? ⟨ob, 3, none⟩ = some (.int .i64 t.elem) := cell_blk HL.out 3
      have hx4 : wr.drew.cell? ⟨ob, 4, none⟩ = some (.int .i64 t.at_) := cell_blk HL.out 4
      have hx5 : wr.drew.cell? ⟨ob, 5, none⟩ = some (.slice al ln cl) := cell_blk HL.out 5
      have hSd : (fun wc => wc.cell? ⟨p, 0, none⟩ = some (.slice ao xs.length cap) ∧ wc.cell? ⟨ob, 0, none⟩ = some (.int .i64 t.k) ∧ wc.cell? ⟨ob, 1, none⟩ = some (.string t.name) ∧ wc.cell? ⟨ob, 2, none⟩ = some (.int .i64 t.dims) ∧ wc.cell? ⟨ob, 3, none⟩ = some (.int .i64 t.elem) ∧ wc.cell? ⟨ob, 4, none⟩ = some (.int .i64 t.at_) ∧ wc.cell? ⟨ob, 5, none⟩ = some (.slice al ln cl)) wr.drew := ⟨hzp, hx0, hx1, hx2, hx3, hx4, hx5⟩
      have hfew := h2.few
      have HWW := Lib.hid hww
      have HLN := Lib.hid hlnv
      have HJ := Lib.hid hje
      clear h2 hgl hgp hfull hln hlnv hww hlt hj hje
      go_wp2_with (fail)
      refine wp_till 10 (fun wc => wc.cell? ⟨p, 0, none⟩ = some (.slice ao xs.length cap) ∧ wc.cell? ⟨ob, 0, none⟩ = some (.int .i64 t.k) ∧ wc.cell? ⟨ob, 1, none⟩ = some (.string t.name) ∧ wc.cell? ⟨ob, 2, none⟩ = some (.int .i64 t.dims) ∧ wc.cell? ⟨ob, 3, none⟩ = some (.int .i64 t.elem) ∧ wc.cell? ⟨ob, 4, none⟩ = some (.int .i64 t.at_) ∧ wc.cell? ⟨ob, 5, none⟩ = some (.slice al ln cl)) (by kernel_rfl) ?_
      refine Till.take (i := 0) (v := ?_) (by simp only [List.getElem?_toArray, List.getElem?_cons_succ, List.getElem?_cons_zero]; rfl) (by kernel_rfl) (by kernel_rfl) (by kernel_rfl) (by kernel_rfl) (by kernel_rfl) (by exact fun _ _ _ h => h) (Or.inl ⟨by rfl, ?_⟩) (by assumption) ?_
      rotate_left 1
      · (intro w hSw; (try dsimp only at hSw); go_simp; try with_reducible rfl)
      try simp only [Act.put, List.setIfInBounds_toArray, List.set_cons_zero, List.set_cons_succ]
      refine Till.take (i := 1) (v := ?_) (by simp only [List.getElem?_toArray, List.getElem?_cons_succ, List.getElem?_cons_zero]; rfl) (by kernel_rfl) (by kernel_rfl) (by kernel_rfl) (by kernel_rfl) (by kernel_rfl) (by exact fun _ _ _ h => h) (Or.inl ⟨by rfl, ?_⟩) (by assumption) ?_
      rotate_left 1
      · (intro w hSw; (try dsimp only at hSw); go_simp; try with_reducible rfl)
      try simp only [Act.put, List.setIfInBounds_toArray, List.set_cons_zero, List.set_cons_succ]
      refine Till.take (i := 2) (v := ?_) (by simp only [List.getElem?_toArray, List.getElem?_cons_succ, List.getElem?_cons_zero]; rfl) (by kernel_rfl) (by kernel_rfl) (by kernel_rfl) (by kernel_rfl) (by kernel_rfl) (by exact fun _ _ _ h => h) (Or.inl ⟨by rfl, ?_⟩) (by assumption) ?_
      rotate_left 1
      · (intro w hSw; (try dsimp only at hSw); go_simp; try with_reducible rfl)
      try simp only [Act.put, List.setIfInBounds_toArray, List.set_cons_zero, List.set_cons_succ]
      refine Till.take (i := 3) (v := ?_) (by simp only [List.getElem?_toArray, List.getElem?_cons_succ, List.getElem?_cons_zero]; rfl) (by kernel_rfl) (by kernel_rfl) (by kernel_rfl) (by kernel_rfl) (by kernel_rfl) (by exact fun _ _ _ h => h) (Or.inl ⟨by rfl, ?_⟩) (by assumption) ?_
      rotate_left 1
      · (intro w hSw; (try dsimp only at hSw); go_simp; try with_reducible rfl)
      try simp only [Act.put, List.setIfInBounds_toArray, List.set_cons_zero, List.set_cons_succ]
      refine Till.take (i := 4) (v := ?_) (by simp only [List.getElem?_toArray, List.getElem?_cons_succ, List.getElem?_cons_zero]; rfl) (by kernel_rfl) (by kernel_rfl) (by kernel_rfl) (by kernel_rfl) (by kernel_rfl) (by exact fun _ _ _ h => h) (Or.inl ⟨by rfl, ?_⟩) (by assumption) ?_
      rotate_left 1
      · (intro w hSw; (try dsimp only at hSw); go_simp; try with_reducible rfl)
      try simp only [Act.put, List.setIfInBounds_toArray, List.set_cons_zero, List.set_cons_succ]
      refine Till.take (i := 5) (v := ?_) (by simp only [List.getElem?_toArray, List.getElem?_cons_succ, List.getElem?_cons_zero]; rfl) (by kernel_rfl) (by kernel_rfl) (by kernel_rfl) (by kernel_rfl) (by kernel_rfl) (by exact fun _ _ _ h => h) (Or.inl ⟨by rfl, ?_⟩) (by assumption) ?_
      rotate_left 1
      · (intro w hSw; (try dsimp only at hSw); go_simp; try with_reducible rfl)
      try simp only [Act.put, List.setIfInBounds_toArray, List.set_cons_zero, List.set_cons_succ]
      refine Till.step (i := 6) (by kernel_rfl) (by simp only [List.getElem?_toArray, List.getElem?_cons_succ, List.getElem?_cons_zero]; rfl) (fun K hK => ?_)
      go_simp
      refine hK.out _ _ ?_ ?_
      · exact fun _ => ⟨(((Only.refl (fun _ => False) wr).drew).alloc (.cells #[.int .i64 t.k, .string t.name, .int .i64 t.dims, .int .i64 t.elem, .int .i64 t.at_, .slice al ln cl] 56)).cell hzp (fun h => h), (((Only.refl (fun _ => False) wr).drew).alloc (.cells #[.int .i64 t.k, .string t.name, .int .i64 t.dims, .int .i64 t.elem, .int .i64 t.at_, .slice al ln cl] 56)).cell hx0 (fun h => h), (((Only.refl (fun _ => False) wr).drew).alloc (.cells #[.int .i64 t.k, .string t.name, .int .i64 t.dims, .int .i64 t.elem, .int .i64 t.at_, .slice al ln cl] 56)).cell hx1 (fun h => h), (((Only.refl (fun _ => False) wr).drew).alloc (.cells #[.int .i64 t.k, .string t.name, .int .i64 t.dims, .int .i64 t.elem, .int .i64 t.at_, .slice al ln cl] 56)).cell hx2 (fun h => h), (((Only.refl (fun _ => False) wr).drew).alloc (.cells #[.int .i64 t.k, .string t.name, .int .i64 t.dims, .int .i64 t.elem, .int .i64 t.at_, .slice al ln cl] 56)).cell hx3 (fun h => h), (((Only.refl (fun _ => False) wr).drew).alloc (.cells #[.int .i64 t.k, .string t.name, .int .i64 t.dims, .int .i64 t.elem, .int .i64 t.at_, .slice al ln cl] 56)).cell hx4 (fun h => h), (((Only.refl (fun _ => False) wr).drew).alloc (.cells #[.int .i64 t.k, .string t.name, .int .i64 t.dims, .int .i64 t.elem, .int .i64 t.at_, .slice al ln cl] 56)).cell hx5 (fun h => h)⟩
      clear hK K
      try simp only [Act.put, List.setIfInBounds_toArray, List.set_cons_zero, List.set_cons_succ]
      refine Till.step (i := 7) (by kernel_rfl) (by simp only [List.getElem?_toArray, List.getElem?_cons_succ, List.getElem?_cons_zero]; rfl) (fun K hK => ?_)
      (refine step_append_src rfl (.tmp 45) (.tmp 47) 39 rfl 56 i1 (.agg #[.int .i64 0, .string ⟨#[]⟩, .int .i64 0, .int .i64 0, .int .i64 0, .slice none 0 0]) 6 72 Try.underlying39 ji jz0 jz1 jz2 rfl (by decide) 0 (.slice ao xs.length cap) xs.length (xs.flatMap cellsOx) rfl (by exact HROWL.out) (Nat.zero_le _) (.slice (some ⟨wr.drew.heap.size, 0, none⟩) 1 1) 1 [.int .i64 t.k, .string t.name, .int .i64 t.dims, .int .i64 t.elem, .int .i64 t.at_, .slice al ln cl] rfl (by exact Src.obj (w := wr.drew) t al ln cl rfl) (by unfold maxLen; omega) (by omega) ?_; intro v' w3 hown hgrow hnew; have hal1 := ((Only.refl (fun _ => False) wr).drew).alloc (.cells #[.int .i64 t.k, .string t.name, .int .i64 t.dims, .int .i64 t.elem, .int .i64 t.at_, .slice al ln cl] 56); have hos := (Only.refl (fun k => (Value.slice ao xs.length cap).ownBlock = some k) _).grown hgrow (fun k hk _ => hk); have HA4 := Lib.hid ((hal1.mono (T := fun k => (Value.slice ao xs.length cap).ownBlock = some k) (fun _ h _ => h.elim)).trans hos (fun k hk _ => hk)); have hown' : w3.ownsRow 0 56 6 v' (xs.length + 1) (xs.flatMap cellsOx ++ cellsOx ⟨t, .slice al ln cl, (ts.map firstZ)⟩) := hown; have hrow6 : RowG 56 6 cellsOx w3 0 v' (xs ++ [⟨t, .slice al ln cl, (ts.map firstZ)⟩]) := RowG.more hown'; obtain ⟨an, cn, ev, -, -⟩ := slice_of_owns hrow6; obtain ⟨lx, hlx⟩ : ∃ lx, (xs ++ [(⟨t, .slice al ln cl, (ts.map firstZ)⟩ : ObX)]).length = lx := ⟨_, rfl⟩; rw [hlx] at ev; subst ev; have HLX := Lib.hid hlx; have HROW6 := Lib.hid hrow6; have HNEW := Lib.hid hnew; have hkk : ((fun wc => wc.cell? ⟨p, 0, none⟩ = some (.slice ao xs.length cap) ∧ wc.cell? ⟨ob, 0, none⟩ = some (.int .i64 t.k) ∧ wc.cell? ⟨ob, 1, none⟩ = some (.string t.name) ∧ wc.cell? ⟨ob, 2, none⟩ = some (.int .i64 t.dims) ∧ wc.cell? ⟨ob, 3, none⟩ = some (.int .i64 t.elem) ∧ wc.cell? ⟨ob, 4, none⟩ = some (.int .i64 t.at_) ∧ wc.cell? ⟨ob, 5, none⟩ = some (.slice al ln cl)) w3) := ⟨HA4.out.cell hzp (HGLP.out), HA4.out.cell hx0 (HGLO.out), HA4.out.cell hx1 (HGLO.out), HA4.out.cell hx2 (HGLO.out), HA4.out.cell hx3 (HGLO.out), HA4.out.cell hx4 (HGLO.out), HA4.out.cell hx5 (HGLO.out)⟩; have hblk := HA4.out.heap HBP.out HGLP.out; have HBP3 := Lib.hid hblk; have hfr := frozen_blk hblk 0; clear hown hown' hgrow hnew hal1 hos hrow6 hlx hblk)
      refine hK.out _ _ ?_ ?_
      · exact fun _ => hkk
      clear hK K
      try simp only [Act.put, List.setIfInBounds_toArray, List.set_cons_zero, List.set_cons_succ]
      refine Till.step (i := 8) (by kernel_rfl) (by simp only [List.getElem?_toArray, List.getElem?_cons_succ, List.getElem?_cons_zero]; rfl) (fun K hK => ?_)
      go_simp
      refine hK.out _ _ ?_ ?_
      · exact fun _ => hkk
      clear hK K
      try simp only [Act.put, List.setIfInBounds_toArray, List.set_cons_zero, List.set_cons_succ]
      refine Till.step (i := 9) (by kernel_rfl) (by simp only [List.getElem?_toArray, List.getElem?_cons_succ, List.getElem?_cons_zero]; rfl) (fun K hK => ?_)
      go_simp
      refine hK.out _ _ ?_ ?_
      · exact fun _ => hkk
      clear hK K
      try simp only [Act.put, List.setIfInBounds_toArray, List.set_cons_zero, List.set_cons_succ]
      refine Till.step (i := 10) (by kernel_rfl) (by simp only [List.getElem?_toArray, List.getElem?_cons_succ, List.getElem?_cons_zero]; rfl) (fun K hK => ?_)
      go_simp
      refine hK.out _ _ ?_ ?_
      · exact fun h => by cases h
      clear hK K
      try simp only [Act.put, List.setIfInBounds_toArray, List.set_cons_zero, List.set_cons_succ]
      refine Till.done (by kernel_rfl) ?_ _
      have hz5 := cell_blk (heap_setCell_at (i := 0) (u := .slice an lx cn) HBP3.out) 0
      simp only [List.setIfInBounds_toArray, List.set_cons_zero, List.set_cons_succ, List.getElem?_toArray, List.getElem?_cons_zero] at hz5
      go_wp2
      go_ret2
      obtain rfl := HLL.out
      have hp := HHL.out.lt _ HHL.out.gp
      have hset := (Only.refl (fun k => k = p) w3).setCell (p := ⟨p, 0, none⟩) (fun _ => rfl) (.slice an lx cn)
      have hO : Only (fun k => (Value.slice ao xs.length cap).ownBlock = some k ∨ k = p) w (w3.setCell ⟨p, 0, none⟩ (.slice an lx cn)) := Only.trans (HWW.out.mono (fun _ h _ => h.elim)) (Only.trans (HA4.out.mono (fun k h _ => .inl h)) (hset.mono (fun k h _ => .inr h)) (fun _ h _ => h)) (fun _ h _ => h)
      have hb5 := heap_setCell_at (i := 0) (u := .slice an lx cn) HBP3.out
      simp only [List.setIfInBounds_toArray, List.set_cons_zero, List.set_cons_succ] at hb5
      have hwsz := HWW.out.size
      have hasz : (wr.alloc (.cells #[.int .i64 t.k, .string t.name, .int .i64 t.dims, .int .i64 t.elem, .int .i64 t.at_, .slice al ln cl] 56)).drew.heap.size = wr.heap.size + 1 := by show (wr.alloc _).heap.size = _; simp
      have hnew : ∀ k, (Value.slice an lx cn).ownBlock = some k → (Value.slice ao xs.length cap).ownBlock = some k ∨ wr.heap.size + 1 ≤ k := fun k hk => by have := HNEW.out k hk; rwa [hasz] at this
      have hgl := fun k hk => (HHL.out.gL k hk)
      have hxb : ∀ k, (Value.slice al ln cl).ownBlock = some k → M ≤ k ∧ k < wr.heap.size := fun k hk => by have := RowG.ge HROW.out k hk; exact this
      have hMw : w.heap.size ≤ M := by have := HMO.out; have := HOB0.out; omega
      have hrow5 := RowG.only HROW6.out hset (fun k hk e => by subst e; rcases hnew k hk with e | e; exact (hgl k e).2 rfl; omega)
      have hd5 := RowG.base (RowG.only (RowG.only (HROW.out) HA4.out (fun k hk e => by have := (hxb k hk).1; have := HHL.out.lt k (hgl k e).1; omega)) hset (fun k hk e => by have := (hxb k hk).1; omega)) hMw
      have hadd := HHL.out.add ⟨t, .slice al ln cl, ts.map firstZ⟩ hO hb5 hrow5 (fun k hk => by rcases hnew k hk with e | e; exact .inl e; exact .inr (by omega)) hd5 (fun k hk e => by have := hxb k hk; rcases hnew k e with e | e; have := HHL.out.lt k (hgl k e).1; omega; omega) HROOM.out (by have := HN.out; rw [List.length_map]; exact this)
      refine ⟨?_, _, ⟨_, _, hadd, by rw [List.map_append]; rfl⟩, hO.mono (fun k hk _ => by rcases hk with hk | hk; exact (hgl k hk).1; rw [hk]; exact HHL.out.gp), fun k hk => hk.elim .inl (fun h => .inr h.1)⟩
      have hlx : (lx : Int) = (xs.length : Int) + 1 := by have := HLX.out; rw [List.length_append, List.length_singleton] at this; omega
      rw [← hlx]
      rfl
set_option maxHeartbeats 16000000 in
set_option maxRecDepth 100000 in
theorem refArray14 (t u : TypeV) (nn : Int) : Calls Try.prog 26 #[.pointer (some ⟨p, 0, none⟩), valT t, valT u, .int .i64 nn] w fun e w' =>
    e = .returned (.tuple #[.int .i64 (arrayZ (xs.map ObX.o) most t u nn).2.1, .int .i64 (arrayZ (xs.map ObX.o) most t u nn).2.2]) ∧ ∃ G', HeapR w' G' p (arrayZ (xs.map ObX.o) most t u nn).1 most ∧ Only G w w' ∧ ∀ k, G' k → G k ∨ w.heap.size ≤ k := by
  obtain ⟨i0, hi, hz0, hz1, hz2⟩ := info_parts info_val
  obtain ⟨i1, ji, jz0, jz1, jz2⟩ := info_parts info_obj
  unfold arrayZ valT
  rw [List.length_map]
  have ho : Only (fun _ => False) w ((w.alloc (.cells #[.int .i64 t.k, .string t.name, .int .i64 t.dims, .int .i64 t.elem, .int .i64 t.at_] 32)).alloc (.cells #[.int .i64 u.k, .string u.name, .int .i64 u.dims, .int .i64 u.elem, .int .i64 u.at_] 32)) := ((Only.refl (fun _ => False) w).alloc (.cells #[.int .i64 t.k, .string t.name, .int .i64 t.dims, .int .i64 t.elem, .int .i64 t.at_] 32)).alloc (.cells #[.int .i64 u.k, .string u.name, .int .i64 u.dims, .int .i64 u.elem, .int .i64 u.at_] 32)
  have hbt : ((w.alloc (.cells #[.int .i64 t.k, .string t.name, .int .i64 t.dims, .int .i64 t.elem, .int .i64 t.at_] 32)).alloc (.cells #[.int .i64 u.k, .string u.name, .int .i64 u.dims, .int .i64 u.elem, .int .i64 u.at_] 32)).heap[w.heap.size]? = some (.cells #[.int .i64 t.k, .string t.name, .int .i64 t.dims, .int .i64 t.elem, .int .i64 t.at_] 32 (0, 0)) := ((Only.refl (fun _ => False) (w.alloc (.cells #[.int .i64 t.k, .string t.name, .int .i64 t.dims, .int .i64 t.elem, .int .i64 t.at_] 32))).alloc (.cells #[.int .i64 u.k, .string u.name, .int .i64 u.dims, .int .i64 u.elem, .int .i64 u.at_] 32)).heap (heap_alloc_new w _) (fun h => h)
  have hbu : ((w.alloc (.cells #[.int .i64 t.k, .string t.name, .int .i64 t.dims, .int .i64 t.elem, .int .i64 t.at_] 32)).alloc (.cells #[.int .i64 u.k, .string u.name, .int .i64 u.dims, .int .i64 u.elem, .int .i64 u.at_] 32)).heap[w.heap.size + 1]? = some (.cells #[.int .i64 u.k, .string u.name, .int .i64 u.dims, .int .i64 u.elem, .int .i64 u.at_] 32 (0, 0)) := by have := heap_alloc_new (w.alloc (.cells #[.int .i64 t.k, .string t.name, .int .i64 t.dims, .int .i64 t.elem, .int .i64 t.at_] 32)) (.cells #[.int .i64 u.k, .string u.name, .int .i64 u.dims, .int .i64 u.elem, .int .i64 u.at_] 32); simpa using this
  have hsz : ((w.alloc (.cells #[.int .i64 t.k, .string t.name, .int .i64 t.dims, .int .i64 t.elem, .int .i64 t.at_] 32)).alloc (.cells #[.int .i64 u.k, .string u.name, .int .i64 u.dims, .int .i64 u.elem, .int .i64 u.at_] 32)).heap.size = w.heap.size + 2 := by simp
  obtain ⟨W0, hW0⟩ : ∃ W0, ((w.alloc (.cells #[.int .i64 t.k, .string t.name, .int .i64 t.dims, .int .i64 t.elem, .int .i64 t.at_] 32)).alloc (.cells #[.int .i64 u.k, .string u.name, .int .i64 u.dims, .int .i64 u.elem, .int .i64 u.at_] 32)) = W0 := ⟨_, rfl⟩
  rw [hW0] at ho hbt hsz hbu
  have h' := h.only ho (fun _ _ h => h)
  obtain ⟨ao, cap, hL, z0, z1⟩ := h'.z
  by_cases hneg : nn < 0
  · rw [if_pos hneg]
    have d1 : decide (nn < 0) = true := by simpa using hneg
    have HH := Lib.hid h'
    have HO := Lib.hid ho
    clear h h' ho hbt hsz hL hbu z0 z1 hneg
    go_enter Try.func26, Try.ntmps26
    go_wp2
    try rw [hW0]
    go_ret2
    exact ⟨rfl, G, ⟨L, xs, HH.out, rfl⟩, HO.out.mono (fun _ h _ => h.elim), fun k hk => .inl hk⟩
  rw [if_neg hneg]
  have d1 : decide (nn < 0) = false := by simpa using hneg
  by_cases hbig : 1024 < nn
  · rw [if_pos (.inl hbig)]
    have d2 : decide (1024 < nn) = true := by simpa using hbig
    have HH := Lib.hid h'
    have HO := Lib.hid ho
    clear h h' ho hbt hsz hL hbu hneg hbig
    go_enter Try.func26, Try.ntmps26
    go_wp2
    go_region
    all_goals go_wp2
    all_goals go_ret2
    all_goals exact ⟨rfl, G, ⟨L, xs, HH.out.only (S := fun _ => False) ((Only.refl _ _).drew) (fun _ _ h => h), rfl⟩, (HO.out.mono (fun _ h _ => h.elim)).drew, fun k hk => .inl hk⟩
  have d2 : decide (1024 < nn) = false := by simpa using hbig
  by_cases hfull : most ≤ (xs.length : Int)
  · rw [if_pos (.inr hfull)]
    have d3 : decide (most ≤ (xs.length : Int)) = true := by simpa using hfull
    have HH := Lib.hid h'
    have HO := Lib.hid ho
    clear h h' ho hbt hsz hL hbu hneg hbig hfull
    go_enter Try.func26, Try.ntmps26
    go_wp2
    go_region
    all_goals go_wp2
    all_goals go_ret2
    all_goals exact ⟨rfl, G, ⟨L, xs, HH.out.only (S := fun _ => False) ((Only.refl _ _).drew) (fun _ _ h => h), rfl⟩, (HO.out.mono (fun _ h _ => h.elim)).drew, fun k hk => .inl hk⟩
  rw [if_neg (fun hq => hq.elim hbig hfull)]
  have d3 : decide (most ≤ (xs.length : Int)) = false := by simpa using hfull
  obtain ⟨n, rfl⟩ : ∃ n : Nat, nn = (n : Int) := ⟨nn.toNat, by omega⟩
  have hn : n ≤ 1024 := by omega
  rw [show ((n : Int)).toNat = n from rfl]
  have hx0 := cells5T hbt
  obtain ⟨x0, x1, x2, x3, x4⟩ := hx0
  have ho1 := ((Only.refl (fun _ => False) W0).alloc (.cells #[.int .i64 t.k, .string t.name, .int .i64 t.dims, .int .i64 t.elem, .int .i64 t.at_, .slice none 0 0] 56)).drew
  have hb1 : (W0.alloc (.cells #[.int .i64 t.k, .string t.name, .int .i64 t.dims, .int .i64 t.elem, .int .i64 t.at_, .slice none 0 0] 56)).drew.heap[W0.heap.size]? = some (.cells #[.int .i64 t.k, .string t.name, .int .i64 t.dims, .int .i64 t.elem, .int .i64 t.at_, .slice none 0 0] 56 (0, 0)) := heap_alloc_new W0 (.cells #[.int .i64 t.k, .string t.name, .int .i64 t.dims, .int .i64 t.elem, .int .i64 t.at_, .slice none 0 0] 56)
  obtain ⟨W1, hW1⟩ : ∃ W1, (W0.alloc (.cells #[.int .i64 t.k, .string t.name, .int .i64 t.dims, .int .i64 t.elem, .int .i64 t.at_, .slice none 0 0] 56)).drew = W1 := ⟨_, rfl⟩
  have hM0 : W1.heap.size = W0.heap.size + 1 := by rw [← hW1]; show (W0.alloc _).heap.size = _; simp
  rw [hW1] at ho1 hb1
  obtain ⟨ob, hob⟩ : ∃ ob, W0.heap.size = ob := ⟨_, rfl⟩
  obtain ⟨M, hM⟩ : ∃ M, W1.heap.size = M := ⟨_, rfl⟩
  rw [hob] at hb1 hM0 hsz
  rw [hM] at hM0
  have HB1 := Lib.hid hb1
  have HW1 := Lib.hid hW1
  have HHW := Lib.hid (h'.only ho1 (fun _ _ h => h))
  have HO01 := Lib.hid (ho.trans ho1 (fun _ h _ => h))
  have HMO := Lib.hid hM0
  have HOB0 := Lib.hid hsz
  have HMW1 := Lib.hid hM
  have HLL := Lib.hid hL
  have HHL := Lib.hid h
  have HBU := Lib.hid (ho1.heap hbu (fun h => h))
  have HROOM := Lib.hid (show (xs.length : Int) < most from by omega)
  have HN := Lib.hid hn
  clear h h' ho hbt hsz ho1 hb1 hL hM hM0 hn hW1 hbu hneg hbig hfull
  go_enter Try.func26, Try.ntmps26
  go_wp2
  go_region
  all_goals go_wp2_with (fail)
  rw [HW1.out]
  clear z0 z1 x0 x1 x2 x3 x4 hW0 hob
  go_loopw [11] (fun iv wr => ∃ (j : Nat) (vo : Value), iv = .int .i64 j ∧ j ≤ n ∧ Hid (wr.heap[ob]? = some (.cells #[.int .i64 t.k, .string t.name, .int .i64 t.dims, .int .i64 t.elem, .int .i64 t.at_, vo] 56 (0, 0))) ∧ Hid (RowG 34 3 cellsVa wr M vo ((List.replicate n (firstZ u)).take j)) ∧ Hid (Only (fun k => k = ob) W1 wr)) (fun iv _ => n - (intOf iv).toNat)
  case atStart => exact ⟨0, _, rfl, Nat.zero_le _, HB1, Lib.hid (RowG.nil _ _), Lib.hid (Only.refl _ _)⟩
  case round =>
    obtain ⟨j, vo, rfl, hj, HL, HROW, HON⟩ := hrel
    obtain ⟨al, cl, rfl, -, -⟩ := slice_of_owns HROW.out
    have hww : Only (fun _ => False) w wr := Only.trans HO01.out HON.out (fun i e hl => by have := HOB0.out; omega)
    have HMW := Lib.hid (show M ≤ wr.heap.size from by have := HON.out.size; have := HMW1.out; omega)
    have HOB := Lib.hid (show ob < M from by have := HMO.out; omega)
    by_cases hlt : j < n
    · have hjz : (j : Int) < (n : Int) := by omega
      have hj0 : (0 : Int) ≤ (j : Int) := by omega
      have HTB := Lib.hid (show w.heap.size + 1 < M from by have := HMO.out; have := HOB0.out; omega)
      have hbu9 := HON.out.heap HBU.out (show ¬ (w.heap.size + 1 = ob) from by have := HOB0.out; omega)
      obtain ⟨y0, y1, y2, y3, y4⟩ := cells5T hbu9
      have hstep : (List.replicate n (firstZ u)).take (j + 1) = (List.replicate n (firstZ u)).take j ++ [firstZ u] := by rw [List.take_succ_eq_append_getElem (by rw [List.length_replicate]; exact hlt), List.getElem_replicate]
      have hlen : ((List.replicate n (firstZ u)).take j).length ≤ 1024 := by rw [List.length_take, List.length_replicate]; have := HN.out; omega
      obtain ⟨us, hus⟩ : ∃ us, (List.replicate n (firstZ u)).take j = us := ⟨_, rfl⟩
      rw [hus] at HROW hstep hlen
      have hcl : (Value.slice al (((List.replicate n (firstZ u)).take j).length) cl) = .slice al us.length cl := by rw [hus]
      rw [hus] at HL
      have CF := Lib.hid (fun W => refFirst14 u W)
      unfold valT valVa at CF
      obtain ⟨q, hq⟩ : ∃ q, firstZ u = q := ⟨_, rfl⟩
      have hstep2 : (List.replicate n (firstZ u)).take (j + 1) = us ++ [q] := by rw [hstep, hq]
      rw [hq] at CF
      have hl5 : wr.drew.cell? ⟨ob, 5, none⟩ = some (.slice al us.length cl) := cell_blk HL.out 5
      have hy0 : wr.drew.cell? ⟨w.heap.size + 1, 0, none⟩ = some (.int .i64 u.k) := y0
      have hy1 : wr.drew.cell? ⟨w.heap.size + 1, 1, none⟩ = some (.string u.name) := y1
      have hy2 : wr.drew.cell? ⟨w.heap.size + 1, 2, none⟩ = some (.int .i64 u.dims) := y2
      have hy3 : wr.drew.cell? ⟨w.heap.size + 1, 3, none⟩ = some (.int .i64 u.elem) := y3
      have hy4 : wr.drew.cell? ⟨w.heap.size + 1, 4, none⟩ = some (.int .i64 u.at_) := y4
      have hSd : (fun wc => wc.cell? ⟨ob, 5, none⟩ = some (.slice al us.length cl) ∧ wc.cell? ⟨w.heap.size + 1, 0, none⟩ = some (.int .i64 u.k) ∧ wc.cell? ⟨w.heap.size + 1, 1, none⟩ = some (.string u.name) ∧ wc.cell? ⟨w.heap.size + 1, 2, none⟩ = some (.int .i64 u.dims) ∧ wc.cell? ⟨w.heap.size + 1, 3, none⟩ = some (.int .i64 u.elem) ∧ wc.cell? ⟨w.heap.size + 1, 4, none⟩ = some (.int .i64 u.at_)) wr.drew := ⟨hl5, hy0, hy1, hy2, hy3, hy4⟩
      have HST := Lib.hid hstep2
      clear y0 y1 y2 y3 y4 hq hus hstep hstep2 hcl hww hbu9
      try rw [hus]
      go_wp2_with (fail)
      refine wp_till 7 (fun wc => wc.cell? ⟨ob, 5, none⟩ = some (.slice al us.length cl) ∧ wc.cell? ⟨w.heap.size + 1, 0, none⟩ = some (.int .i64 u.k) ∧ wc.cell? ⟨w.heap.size + 1, 1, none⟩ = some (.string u.name) ∧ wc.cell? ⟨w.heap.size + 1, 2, none⟩ = some (.int .i64 u.dims) ∧ wc.cell? ⟨w.heap.size + 1, 3, none⟩ = some (.int .i64 u.elem) ∧ wc.cell? ⟨w.heap.size + 1, 4, none⟩ = some (.int .i64 u.at_)) (by kernel_rfl) ?_
      refine Till.take (i := 0) (v := ?_) (by simp only [List.getElem?_toArray, List.getElem?_cons_succ, List.getElem?_cons_zero]; rfl) (by kernel_rfl) (by kernel_rfl) (by kernel_rfl) (by kernel_rfl) (by kernel_rfl) (by exact fun _ _ _ h => h) (Or.inl ⟨by rfl, ?_⟩) (by assumption) ?_
      rotate_left 1
      · (intro w hSw; (try dsimp only at hSw); go_simp; try with_reducible rfl)
      try simp only [Act.put, List.setIfInBounds_toArray, List.set_cons_zero, List.set_cons_succ]
      refine Till.take (i := 1) (v := ?_) (by simp only [List.getElem?_toArray, List.getElem?_cons_succ, List.getElem?_cons_zero]; rfl) (by kernel_rfl) (by kernel_rfl) (by kernel_rfl) (by kernel_rfl) (by kernel_rfl) (by exact fun _ _ _ h => h) (Or.inl ⟨by rfl, ?_⟩) (by assumption) ?_
      rotate_left 1
      · (intro w hSw; (try dsimp only at hSw); go_simp; try with_reducible rfl)
      try simp only [Act.put, List.setIfInBounds_toArray, List.set_cons_zero, List.set_cons_succ]
      refine Till.take (i := 2) (v := ?_) (by simp only [List.getElem?_toArray, List.getElem?_cons_succ, List.getElem?_cons_zero]; rfl) (by kernel_rfl) (by kernel_rfl) (by kernel_rfl) (by kernel_rfl) (by kernel_rfl) (by exact fun _ _ _ h => h) (Or.inl ⟨by rfl, ?_⟩) (by assumption) ?_
      rotate_left 1
      · (intro w hSw; (try dsimp only at hSw); go_simp; try with_reducible rfl)
      try simp only [Act.put, List.setIfInBounds_toArray, List.set_cons_zero, List.set_cons_succ]
      refine Till.step (i := 3) (by kernel_rfl) (by simp only [List.getElem?_toArray, List.getElem?_cons_succ, List.getElem?_cons_zero]; rfl) (fun K hK => ?_)
      go_simp
      (refine (CF.out _).mono ?_; rintro e1 w1 ⟨rfl, ho1⟩; have HA1 := Lib.hid ((Only.refl (fun _ => False) _).drew.trans ho1 (fun _ h _ => h)); clear ho1)
      go_wp2_with fail
      refine hK.out _ _ ?_ ?_
      · exact fun _ => ⟨HA1.out.cell hl5 (fun h => h), HA1.out.cell hy0 (fun h => h), HA1.out.cell hy1 (fun h => h), HA1.out.cell hy2 (fun h => h), HA1.out.cell hy3 (fun h => h), HA1.out.cell hy4 (fun h => h)⟩
      clear hK K
      try simp only [Act.put, List.setIfInBounds_toArray, List.set_cons_zero, List.set_cons_succ]
      refine Till.step (i := 4) (by kernel_rfl) (by simp only [List.getElem?_toArray, List.getElem?_cons_succ, List.getElem?_cons_zero]; rfl) (fun K hK => ?_)
      go_simp
      refine hK.out _ _ ?_ ?_
      · exact fun _ => ⟨(HA1.out.alloc (.cells #[.int .i64 q.k, .int .i64 q.n, .int .i64 q.r] 34)).cell hl5 (fun h => h), (HA1.out.alloc (.cells #[.int .i64 q.k, .int .i64 q.n, .int .i64 q.r] 34)).cell hy0 (fun h => h), (HA1.out.alloc (.cells #[.int .i64 q.k, .int .i64 q.n, .int .i64 q.r] 34)).cell hy1 (fun h => h), (HA1.out.alloc (.cells #[.int .i64 q.k, .int .i64 q.n, .int .i64 q.r] 34)).cell hy2 (fun h => h), (HA1.out.alloc (.cells #[.int .i64 q.k, .int .i64 q.n, .int .i64 q.r] 34)).cell hy3 (fun h => h), (HA1.out.alloc (.cells #[.int .i64 q.k, .int .i64 q.n, .int .i64 q.r] 34)).cell hy4 (fun h => h)⟩
      clear hK K
      try simp only [Act.put, List.setIfInBounds_toArray, List.set_cons_zero, List.set_cons_succ]
      refine Till.step (i := 5) (by kernel_rfl) (by simp only [List.getElem?_toArray, List.getElem?_cons_succ, List.getElem?_cons_zero]; rfl) (fun K hK => ?_)
      (have HROW1 := Lib.hid (RowG.only HROW.out (HA1.out.alloc (.cells #[.int .i64 q.k, .int .i64 q.n, .int .i64 q.r] 34)) (fun _ _ h => h)); refine step_append_src rfl (.tmp 36) (.tmp 39) 54 rfl 34 i0 (.agg #[.int .i64 0, .int .i64 0, .int .i64 0]) 3 24 Try.underlying54 hi hz0 hz1 hz2 rfl (by decide) M (.slice al us.length cl) us.length (us.flatMap cellsVa) rfl (by exact HROW1.out) (by have := HA1.out.size; have := HMW.out; simp; omega) (.slice (some ⟨w1.heap.size, 0, none⟩) 1 1) 1 (cellsVa q) rfl (by exact Src.val (w := w1) q rfl) (by unfold maxLen; omega) (by omega) ?_; intro v' w3 hown hgrow hnew; have hal1 := (Only.refl (fun _ => False) w1).alloc (.cells #[.int .i64 q.k, .int .i64 q.n, .int .i64 q.r] 34); have hos := (Only.refl (fun k => (Value.slice al us.length cl).ownBlock = some k) _).grown hgrow (fun k hk _ => hk); have hrow6 : RowG 34 3 cellsVa w3 M v' (us ++ [q]) := RowG.more hown; obtain ⟨an, cn, ev, -, -⟩ := slice_of_owns hrow6; obtain ⟨ln, hln⟩ : ∃ ln, (us ++ [q]).length = ln := ⟨_, rfl⟩; rw [hln] at ev; subst ev; clear hln; have HA3 := Lib.hid (((HA1.out.trans hal1 (fun _ h _ => h)).mono (T := fun k => (Value.slice al us.length cl).ownBlock = some k) (fun _ h _ => h.elim)).trans hos (fun k hk _ => hk)); have HROW6 := Lib.hid hrow6; have hown3 : ∀ k, (Value.slice al us.length cl).ownBlock = some k → M ≤ k ∧ k < wr.heap.size := fun k hk => RowG.ge HROW.out k hk; have HGE := Lib.hid hown3; have hkk : ((fun wc => wc.cell? ⟨ob, 5, none⟩ = some (.slice al us.length cl) ∧ wc.cell? ⟨w.heap.size + 1, 0, none⟩ = some (.int .i64 u.k) ∧ wc.cell? ⟨w.heap.size + 1, 1, none⟩ = some (.string u.name) ∧ wc.cell? ⟨w.heap.size + 1, 2, none⟩ = some (.int .i64 u.dims) ∧ wc.cell? ⟨w.heap.size + 1, 3, none⟩ = some (.int .i64 u.elem) ∧ wc.cell? ⟨w.heap.size + 1, 4, none⟩ = some (.int .i64 u.at_)) w3) := ⟨HA3.out.cell hl5 (show ¬ ((Value.slice al us.length cl).ownBlock = some ob) from fun e => by have := (hown3 _ e).1; have := HOB.out; omega), HA3.out.cell hy0 (show ¬ ((Value.slice al us.length cl).ownBlock = some (w.heap.size + 1)) from fun e => by have := (hown3 _ e).1; have := HTB.out; omega), HA3.out.cell hy1 (show ¬ ((Value.slice al us.length cl).ownBlock = some (w.heap.size + 1)) from fun e => by have := (hown3 _ e).1; have := HTB.out; omega), HA3.out.cell hy2 (show ¬ ((Value.slice al us.length cl).ownBlock = some (w.heap.size + 1)) from fun e => by have := (hown3 _ e).1; have := HTB.out; omega), HA3.out.cell hy3 (show ¬ ((Value.slice al us.length cl).ownBlock = some (w.heap.size + 1)) from fun e => by have := (hown3 _ e).1; have := HTB.out; omega), HA3.out.cell hy4 (show ¬ ((Value.slice al us.length cl).ownBlock = some (w.heap.size + 1)) from fun e => by have := (hown3 _ e).1; have := HTB.out; omega)⟩; have HLO := Lib.hid (HA3.out.heap HL.out (show ¬ ((Value.slice al us.length cl).ownBlock = some ob) from fun e => by have := (hown3 _ e).1; have := HOB.out; omega)); have hfr := frozen_blk HLO.out 5; clear hown hgrow hnew hal1 hos hrow6 hown3)
      refine hK.out _ _ ?_ ?_
      · exact fun _ => hkk
      clear hK K
      try simp only [Act.put, List.setIfInBounds_toArray, List.set_cons_zero, List.set_cons_succ]
      refine Till.step (i := 6) (by kernel_rfl) (by simp only [List.getElem?_toArray, List.getElem?_cons_succ, List.getElem?_cons_zero]; rfl) (fun K hK => ?_)
      go_simp
      refine hK.out _ _ ?_ ?_
      · exact fun _ => hkk
      clear hK K
      try simp only [Act.put, List.setIfInBounds_toArray, List.set_cons_zero, List.set_cons_succ]
      refine Till.step (i := 7) (by kernel_rfl) (by simp only [List.getElem?_toArray, List.getElem?_cons_succ, List.getElem?_cons_zero]; rfl) (fun K hK => ?_)
      go_simp
      refine hK.out _ _ ?_ ?_
      · exact fun h => by cases h
      clear hK K
      try simp only [Act.put, List.setIfInBounds_toArray, List.set_cons_zero, List.set_cons_succ]
      refine Till.done (by kernel_rfl) ?_ _
      have hl9 := heap_setCell_at (i := 5) (u := .slice an ln cn) HLO.out
      simp only [List.setIfInBounds_toArray, List.set_cons_zero, List.set_cons_succ] at hl9
      have hot := (Only.refl (fun k => k = ob) w3).setCell (p := ⟨ob, 5, none⟩) (fun _ => rfl) (.slice an ln cn)
      have hrow9 := RowG.only HROW6.out hot (fun k hk e => by have := (RowG.ge HROW6.out _ hk).1; have := HOB.out; omega)
      have hon9 := Only.trans (HON.out.trans HA3.out (fun i hi hl => by have := (HGE.out _ hi).1; have := HMW1.out; omega)) hot (fun _ h _ => h)
      have HL9 := Lib.hid hl9
      have HROW9 := Lib.hid hrow9
      have HON9 := Lib.hid hon9
      clear hl9 hot hrow9 hon9 hkk hl5 hy0 hy1 hy2 hy3 hy4 hfr hSd
      have hn9 := HN.out
      go_wp2
      go_roundw
      case rel => exact ⟨j + 1, _, by go_num, by omega, HL9, Lib.hid (by rw [HST.out]; exact HROW9.out), HON9⟩
      case measure => simp [intOf]; omega
    · have hje : j = n := by omega
      have hnj : ¬ ((j : Int) < (n : Int)) := by omega
      have hfull : (List.replicate n (firstZ u)).take j = List.replicate n (firstZ u) := List.take_of_length_le (by rw [List.length_replicate]; omega)
      obtain ⟨ln, hln⟩ : ∃ ln, ((List.replicate n (firstZ u)).take j).length = ln := ⟨_, rfl⟩
      have hlnv : (List.replicate n (firstZ u)).length = ln := by rw [← hln, hfull]
      rw [hfull, hlnv] at HROW
      rw [hln] at HL
      have h2 := HHW.out.only HON.out (fun k hk e => by have := HHL.out.lt k hk; have := HOB0.out; omega)
      rw [HLL.out] at h2
      have HBP := Lib.hid h2.blk
      have HROWL := Lib.hid (show RowG 56 6 cellsOx (wr.drew.alloc (.cells #[.int .i64 t.k, .string t.name, .int .i64 t.dims, .int .i64 t.elem, .int .i64 t.at_, .slice al ln cl] 56)) 0 (.slice ao xs.length cap) xs from RowG.only h2.row (((Only.refl (fun _ => False) wr).drew).alloc (.cells #[.int .i64 t.k, .string t.name, .int .i64 t.dims, .int .i64 t.elem, .int .i64 t.at_, .slice al ln cl] 56)) (fun _ _ h => h))
      have hgl := fun k hk => h2.gL k hk
      have hgp := HHL.out.lt _ HHL.out.gp
      have HGLP := Lib.hid (show ¬ ((Value.slice ao xs.length cap).ownBlock = some p) from fun e => (hgl p e).2 rfl)
      have HGLO := Lib.hid (show ¬ ((Value.slice ao xs.length cap).ownBlock = some ob) from fun e => by have := HHL.out.lt _ (hgl ob e).1; have := HOB0.out; omega)
      have hzp : wr.drew.cell? ⟨p, 0, none⟩ = some (.slice ao xs.length cap) := cell_blk h2.blk 0
      have hx0 : wr.drew.cell? ⟨ob, 0, none⟩ = some (.int .i64 t.k) := cell_blk HL.out 0
      have hx1 : wr.drew.cell? ⟨ob, 1, none⟩ = some (.string t.name) := cell_blk HL.out 1
      have hx2 : wr.drew.cell? ⟨ob, 2, none⟩ = some (.int .i64 t.dims) := cell_blk HL.out 2
      have hx3 : wr.drew.cell? ⟨ob, 3, none⟩ = some (.int .i64 t.elem) := cell_blk HL.out 3
      have hx4 : wr.drew.cell? ⟨ob, 4, none⟩ = some (.int .i64 t.at_) := cell_blk HL.out 4
      have hx5 : wr.drew.cell? ⟨ob, 5, none⟩ = some (.slice al ln cl) := cell_blk HL.out 5
      have hSd : (fun wc => wc.cell? ⟨p, 0, none⟩ = some (.slice ao xs.length cap) ∧ wc.cell? ⟨ob, 0, none⟩ = some (.int .i64 t.k) ∧ wc.cell? ⟨ob, 1, none⟩ = some (.string t.name) ∧ wc.cell? ⟨ob, 2, none⟩ = some (.int .i64 t.dims) ∧ wc.cell? ⟨ob, 3, none⟩ = some (.int .i64 t.elem) ∧ wc.cell? ⟨ob, 4, none⟩ = some (.int .i64 t.at_) ∧ wc.cell? ⟨ob, 5, none⟩ = some (.slice al ln cl)) wr.drew := ⟨hzp, hx0, hx1, hx2, hx3, hx4, hx5⟩
      have hfew := h2.few
      have HWW := Lib.hid hww
      have HLN := Lib.hid hlnv
      have HJ := Lib.hid hje
      clear h2 hgl hgp hfull hln hlnv hww hlt hj hje
      go_wp2_with (fail)
      refine wp_till 10 (fun wc => wc.cell? ⟨p, 0, none⟩ = some (.slice ao xs.length cap) ∧ wc.cell? ⟨ob, 0, none⟩ = some (.int .i64 t.k) ∧ wc.cell? ⟨ob, 1, none⟩ = some (.string t.name) ∧ wc.cell? ⟨ob, 2, none⟩ = some (.int .i64 t.dims) ∧ wc.cell? ⟨ob, 3, none⟩ = some (.int .i64 t.elem) ∧ wc.cell? ⟨ob, 4, none⟩ = some (.int .i64 t.at_) ∧ wc.cell? ⟨ob, 5, none⟩ = some (.slice al ln cl)) (by kernel_rfl) ?_
      refine Till.take (i := 0) (v := ?_) (by simp only [List.getElem?_toArray, List.getElem?_cons_succ, List.getElem?_cons_zero]; rfl) (by kernel_rfl) (by kernel_rfl) (by kernel_rfl) (by kernel_rfl) (by kernel_rfl) (by exact fun _ _ _ h => h) (Or.inl ⟨by rfl, ?_⟩) (by assumption) ?_
      rotate_left 1
      · (intro w hSw; (try dsimp only at hSw); go_simp; try with_reducible rfl)
      try simp only [Act.put, List.setIfInBounds_toArray, List.set_cons_zero, List.set_cons_succ]
      refine Till.take (i := 1) (v := ?_) (by simp only [List.getElem?_toArray, List.getElem?_cons_succ, List.getElem?_cons_zero]; rfl) (by kernel_rfl) (by kernel_rfl) (by kernel_rfl) (by kernel_rfl) (by kernel_rfl) (by exact fun _ _ _ h => h) (Or.inl ⟨by rfl, ?_⟩) (by assumption) ?_
      rotate_left 1
      · (intro w hSw; (try dsimp only at hSw); go_simp; try with_reducible rfl)
      try simp only [Act.put, List.setIfInBounds_toArray, List.set_cons_zero, List.set_cons_succ]
      refine Till.take (i := 2) (v := ?_) (by simp only [List.getElem?_toArray, List.getElem?_cons_succ, List.getElem?_cons_zero]; rfl) (by kernel_rfl) (by kernel_rfl) (by kernel_rfl) (by kernel_rfl) (by kernel_rfl) (by exact fun _ _ _ h => h) (Or.inl ⟨by rfl, ?_⟩) (by assumption) ?_
      rotate_left 1
      · (intro w hSw; (try dsimp only at hSw); go_simp; try with_reducible rfl)
      try simp only [Act.put, List.setIfInBounds_toArray, List.set_cons_zero, List.set_cons_succ]
      refine Till.take (i := 3) (v := ?_) (by simp only [List.getElem?_toArray, List.getElem?_cons_succ, List.getElem?_cons_zero]; rfl) (by kernel_rfl) (by kernel_rfl) (by kernel_rfl) (by kernel_rfl) (by kernel_rfl) (by exact fun _ _ _ h => h) (Or.inl ⟨by rfl, ?_⟩) (by assumption) ?_
      rotate_left 1
      · (intro w hSw; (try dsimp only at hSw); go_simp; try with_reducible rfl)
      try simp only [Act.put, List.setIfInBounds_toArray, List.set_cons_zero, List.set_cons_succ]
      refine Till.take (i := 4) (v := ?_) (by simp only [List.getElem?_toArray, List.getElem?_cons_succ, List.getElem?_cons_zero]; rfl) (by kernel_rfl) (by kernel_rfl) (by kernel_rfl) (by kernel_rfl) (by kernel_rfl) (by exact fun _ _ _ h => h) (Or.inl ⟨by rfl, ?_⟩) (by assumption) ?_
      rotate_left 1
      · (intro w hSw; (try dsimp only at hSw); go_simp; try with_reducible rfl)
      try simp only [Act.put, List.setIfInBounds_toArray, List.set_cons_zero, List.set_cons_succ]
      refine Till.take (i := 5) (v := ?_) (by simp only [List.getElem?_toArray, List.getElem?_cons_succ, List.getElem?_cons_zero]; rfl) (by kernel_rfl) (by kernel_rfl) (by kernel_rfl) (by kernel_rfl) (by kernel_rfl) (by exact fun _ _ _ h => h) (Or.inl ⟨by rfl, ?_⟩) (by assumption) ?_
      rotate_left 1
      · (intro w hSw; (try dsimp only at hSw); go_simp; try with_reducible rfl)
      try simp only [Act.put, List.setIfInBounds_toArray, List.set_cons_zero, List.set_cons_succ]
      refine Till.step (i := 6) (by kernel_rfl) (by simp only [List.getElem?_toArray, List.getElem?_cons_succ, List.getElem?_cons_zero]; rfl) (fun K hK => ?_)
      go_simp
      refine hK.out _ _ ?_ ?_
      · exact fun _ => ⟨(((Only.refl (fun _ => False) wr).drew).alloc (.cells #[.int .i64 t.k, .string t.name, .int .i64 t.dims, .int .i64 t.elem, .int .i64 t.at_, .slice al ln cl] 56)).cell hzp (fun h => h), (((Only.refl (fun _ => False) wr).drew).alloc (.cells #[.int .i64 t.k, .string t.name, .int .i64 t.dims, .int .i64 t.elem, .int .i64 t.at_, .slice al ln cl] 56)).cell hx0 (fun h => h), (((Only.refl (fun _ => False) wr).drew).alloc (.cells #[.int .i64 t.k, .string t.name, .int .i64 t.dims, .int .i64 t.elem, .int .i64 t.at_, .slice al ln cl] 56)).cell hx1 (fun h => h), (((Only.refl (fun _ => False) wr).drew).alloc (.cells #[.int .i64 t.k, .string t.name, .int .i64 t.dims, .int .i64 t.elem, .int .i64 t.at_, .slice al ln cl] 56)).cell hx2 (fun h => h), (((Only.refl (fun _ => False) wr).drew).alloc (.cells #[.int .i64 t.k, .string t.name, .int .i64 t.dims, .int .i64 t.elem, .int .i64 t.at_, .slice al ln cl] 56)).cell hx3 (fun h => h), (((Only.refl (fun _ => False) wr).drew).alloc (.cells #[.int .i64 t.k, .string t.name, .int .i64 t.dims, .int .i64 t.elem, .int .i64 t.at_, .slice al ln cl] 56)).cell hx4 (fun h => h), (((Only.refl (fun _ => False) wr).drew).alloc (.cells #[.int .i64 t.k, .string t.name, .int .i64 t.dims, .int .i64 t.elem, .int .i64 t.at_, .slice al ln cl] 56)).cell hx5 (fun h => h)⟩
      clear hK K
      try simp only [Act.put, List.setIfInBounds_toArray, List.set_cons_zero, List.set_cons_succ]
      refine Till.step (i := 7) (by kernel_rfl) (by simp only [List.getElem?_toArray, List.getElem?_cons_succ, List.getElem?_cons_zero]; rfl) (fun K hK => ?_)
      (refine step_append_src rfl (.tmp 46) (.tmp 48) 39 rfl 56 i1 (.agg #[.int .i64 0, .string ⟨#[]⟩, .int .i64 0, .int .i64 0, .int .i64 0, .slice none 0 0]) 6 72 Try.underlying39 ji jz0 jz1 jz2 rfl (by decide) 0 (.slice ao xs.length cap) xs.length (xs.flatMap cellsOx) rfl (by exact HROWL.out) (Nat.zero_le _) (.slice (some ⟨wr.drew.heap.size, 0, none⟩) 1 1) 1 [.int .i64 t.k, .string t.name, .int .i64 t.dims, .int .i64 t.elem, .int .i64 t.at_, .slice al ln cl] rfl (by exact Src.obj (w := wr.drew) t al ln cl rfl) (by unfold maxLen; omega) (by omega) ?_; intro v' w3 hown hgrow hnew; have hal1 := ((Only.refl (fun _ => False) wr).drew).alloc (.cells #[.int .i64 t.k, .string t.name, .int .i64 t.dims, .int .i64 t.elem, .int .i64 t.at_, .slice al ln cl] 56); have hos := (Only.refl (fun k => (Value.slice ao xs.length cap).ownBlock = some k) _).grown hgrow (fun k hk _ => hk); have HA4 := Lib.hid ((hal1.mono (T := fun k => (Value.slice ao xs.length cap).ownBlock = some k) (fun _ h _ => h.elim)).trans hos (fun k hk _ => hk)); have hown' : w3.ownsRow 0 56 6 v' (xs.length + 1) (xs.flatMap cellsOx ++ cellsOx ⟨t, .slice al ln cl, (List.replicate n (firstZ u))⟩) := hown; have hrow6 : RowG 56 6 cellsOx w3 0 v' (xs ++ [⟨t, .slice al ln cl, (List.replicate n (firstZ u))⟩]) := RowG.more hown'; obtain ⟨an, cn, ev, -, -⟩ := slice_of_owns hrow6; obtain ⟨lx, hlx⟩ : ∃ lx, (xs ++ [(⟨t, .slice al ln cl, (List.replicate n (firstZ u))⟩ : ObX)]).length = lx := ⟨_, rfl⟩; rw [hlx] at ev; subst ev; have HLX := Lib.hid hlx; have HROW6 := Lib.hid hrow6; have HNEW := Lib.hid hnew; have hkk : ((fun wc => wc.cell? ⟨p, 0, none⟩ = some (.slice ao xs.length cap) ∧ wc.cell? ⟨ob, 0, none⟩ = some (.int .i64 t.k) ∧ wc.cell? ⟨ob, 1, none⟩ = some (.string t.name) ∧ wc.cell? ⟨ob, 2, none⟩ = some (.int .i64 t.dims) ∧ wc.cell? ⟨ob, 3, none⟩ = some (.int .i64 t.elem) ∧ wc.cell? ⟨ob, 4, none⟩ = some (.int .i64 t.at_) ∧ wc.cell? ⟨ob, 5, none⟩ = some (.slice al ln cl)) w3) := ⟨HA4.out.cell hzp (HGLP.out), HA4.out.cell hx0 (HGLO.out), HA4.out.cell hx1 (HGLO.out), HA4.out.cell hx2 (HGLO.out), HA4.out.cell hx3 (HGLO.out), HA4.out.cell hx4 (HGLO.out), HA4.out.cell hx5 (HGLO.out)⟩; have hblk := HA4.out.heap HBP.out HGLP.out; have HBP3 := Lib.hid hblk; have hfr := frozen_blk hblk 0; clear hown hown' hgrow hnew hal1 hos hrow6 hlx hblk)
      refine hK.out _ _ ?_ ?_
      · exact fun _ => hkk
      clear hK K
      try simp only [Act.put, List.setIfInBounds_toArray, List.set_cons_zero, List.set_cons_succ]
      refine Till.step (i := 8) (by kernel_rfl) (by simp only [List.getElem?_toArray, List.getElem?_cons_succ, List.getElem?_cons_zero]; rfl) (fun K hK => ?_)
      go_simp
      refine hK.out _ _ ?_ ?_
      · exact fun _ => hkk
      clear hK K
      try simp only [Act.put, List.setIfInBounds_toArray, List.set_cons_zero, List.set_cons_succ]
      refine Till.step (i := 9) (by kernel_rfl) (by simp only [List.getElem?_toArray, List.getElem?_cons_succ, List.getElem?_cons_zero]; rfl) (fun K hK => ?_)
      go_simp
      refine hK.out _ _ ?_ ?_
      · exact fun _ => hkk
      clear hK K
      try simp only [Act.put, List.setIfInBounds_toArray, List.set_cons_zero, List.set_cons_succ]
      refine Till.step (i := 10) (by kernel_rfl) (by simp only [List.getElem?_toArray, List.getElem?_cons_succ, List.getElem?_cons_zero]; rfl) (fun K hK => ?_)
      go_simp
      refine hK.out _ _ ?_ ?_
      · exact fun h => by cases h
      clear hK K
      try simp only [Act.put, List.setIfInBounds_toArray, List.set_cons_zero, List.set_cons_succ]
      refine Till.done (by kernel_rfl) ?_ _
      have hz5 := cell_blk (heap_setCell_at (i := 0) (u := .slice an lx cn) HBP3.out) 0
      simp only [List.setIfInBounds_toArray, List.set_cons_zero, List.set_cons_succ, List.getElem?_toArray, List.getElem?_cons_zero] at hz5
      go_wp2
      go_ret2
      obtain rfl := HLL.out
      have hp := HHL.out.lt _ HHL.out.gp
      have hset := (Only.refl (fun k => k = p) w3).setCell (p := ⟨p, 0, none⟩) (fun _ => rfl) (.slice an lx cn)
      have hO : Only (fun k => (Value.slice ao xs.length cap).ownBlock = some k ∨ k = p) w (w3.setCell ⟨p, 0, none⟩ (.slice an lx cn)) := Only.trans (HWW.out.mono (fun _ h _ => h.elim)) (Only.trans (HA4.out.mono (fun k h _ => .inl h)) (hset.mono (fun k h _ => .inr h)) (fun _ h _ => h)) (fun _ h _ => h)
      have hb5 := heap_setCell_at (i := 0) (u := .slice an lx cn) HBP3.out
      simp only [List.setIfInBounds_toArray, List.set_cons_zero, List.set_cons_succ] at hb5
      have hwsz := HWW.out.size
      have hasz : (wr.alloc (.cells #[.int .i64 t.k, .string t.name, .int .i64 t.dims, .int .i64 t.elem, .int .i64 t.at_, .slice al ln cl] 56)).drew.heap.size = wr.heap.size + 1 := by show (wr.alloc _).heap.size = _; simp
      have hnew : ∀ k, (Value.slice an lx cn).ownBlock = some k → (Value.slice ao xs.length cap).ownBlock = some k ∨ wr.heap.size + 1 ≤ k := fun k hk => by have := HNEW.out k hk; rwa [hasz] at this
      have hgl := fun k hk => (HHL.out.gL k hk)
      have hxb : ∀ k, (Value.slice al ln cl).ownBlock = some k → M ≤ k ∧ k < wr.heap.size := fun k hk => by have := RowG.ge HROW.out k hk; exact this
      have hMw : w.heap.size ≤ M := by have := HMO.out; have := HOB0.out; omega
      have hrow5 := RowG.only HROW6.out hset (fun k hk e => by subst e; rcases hnew k hk with e | e; exact (hgl k e).2 rfl; omega)
      have hd5 := RowG.base (RowG.only (RowG.only (HROW.out) HA4.out (fun k hk e => by have := (hxb k hk).1; have := HHL.out.lt k (hgl k e).1; omega)) hset (fun k hk e => by have := (hxb k hk).1; omega)) hMw
      have hadd := HHL.out.add ⟨t, .slice al ln cl, List.replicate n (firstZ u)⟩ hO hb5 hrow5 (fun k hk => by rcases hnew k hk with e | e; exact .inl e; exact .inr (by omega)) hd5 (fun k hk e => by have := hxb k hk; rcases hnew k e with e | e; have := HHL.out.lt k (hgl k e).1; omega; omega) HROOM.out (by have := HN.out; rw [List.length_replicate]; exact this)
      refine ⟨?_, _, ⟨_, _, hadd, by rw [List.map_append]; rfl⟩, hO.mono (fun k hk _ => by rcases hk with hk | hk; exact (hgl k hk).1; rw [hk]; exact HHL.out.gp), fun k hk => hk.elim .inl (fun h => .inr h.1)⟩
      have hlx : (lx : Int) = (xs.length : Int) + 1 := by have := HLX.out; rw [List.length_append, List.length_singleton] at this; omega
      rw [← hlx]
      rfl
end
end Go.Proofs.Ytebeoganblcblaa
