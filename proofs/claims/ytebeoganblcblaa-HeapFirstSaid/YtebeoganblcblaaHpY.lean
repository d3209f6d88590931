/- The law's play of one call at both heaps. Condition: both are there, and hold the same. -/
import Derived.Test.YtebeoganblcblaaHpP
import Derived.Test.YtebeoganblcblaaHpO
import Derived.Test.YtebeoganblcblaaHpQ
import Derived.Deep.QuietTactic
import Derived.Deep.RegionHeld3
namespace Go.Proofs.Ytebeoganblcblaa
open Go.RowKit
set_option linter.unusedVariables false
set_option linter.unusedSimpArgs false

/-- What a call leaves. -/
def playZ (os : List ObjV) (most : Int) (x : Op14) : List ObjV :=
  if x.what = 0 then (makeZ os most x.t x.data).1 else if x.what = 1 then (arrayZ os most x.t x.of x.n).1 else if x.what = 2 then (setZ os x.n x.i x.v).1 else os
/-- Both heaps, apart. -/
structure Both14 (w : World) (G H : Nat → Prop) (p q : Nat) (os : List ObjV) (most : Int) : Prop where
  hp : HeapP w G p os most
  hr : HeapR w H q os most
  apart : ∀ k, G k → ¬ H k
theorem Both14.only {w w' : World} {G H S : Nat → Prop} {p q : Nat} {os : List ObjV} {most : Int} (h : Both14 w G H p q os most) (ho : Only S w w') (hs : ∀ k, G k ∨ H k → ¬ S k) : Both14 w' G H p q os most :=
  ⟨HeapP.only h.hp ho (fun k hk => hs k (.inl hk)), HeapR.only h.hr ho (fun k hk => hs k (.inr hk)), h.apart⟩
def Both14To (w : World) (G H : Nat → Prop) (p q : Nat) (os : List ObjV) (most : Int) (w' : World) : Prop :=
  ∃ G' H', Both14 w' G' H' p q os most ∧ (∀ k, G' k ∨ H' k → (G k ∨ H k) ∨ w.heap.size ≤ k) ∧ Only (fun k => G k ∨ H k) w w'
theorem Both14To.base {w0 w w' : World} {G H : Nat → Prop} {p q : Nat} {os : List ObjV} {most : Int} (ho : Only (fun _ => False) w0 w) (h : Both14To w G H p q os most w') : Both14To w0 G H p q os most w' := by
  obtain ⟨G', H', h1, h2, h3⟩ := h
  exact ⟨G', H', h1, fun k hk => (h2 k hk).elim .inl (fun h => .inr (Nat.le_trans ho.size h)), Only.trans (ho.mono (fun _ h _ => h.elim)) h3 (fun _ h _ => h)⟩
/-- One call at each, one behind the other. -/
theorem Both14.both {w w1 w2 : World} {G H : Nat → Prop} {p q : Nat} {os os' : List ObjV} {most : Int} (h : Both14 w G H p q os most) (h1 : HpTo HeapP w G p os' most w1) (h2 : HpTo HeapR w1 H q os' most w2) : Both14To w G H p q os' most w2 := by
  obtain ⟨G1, a1, b1, c1⟩ := h1
  obtain ⟨H1, a2, b2, c2⟩ := h2
  have hg : ∀ k, G k → k < w.heap.size := HeapP.lt h.hp
  have hh : ∀ k, H k → k < w.heap.size := HeapR.lt h.hr
  have hg1 : ∀ k, G1 k → k < w1.heap.size := HeapP.lt a1
  have hGH : ∀ k, G1 k → ¬ H k := fun k hk hq => by
    rcases c1 k hk with e | e
    · exact h.apart k e hq
    · have := hh k hq; omega
  refine ⟨G1, H1, ⟨HeapP.only a1 b2 hGH, a2, fun k hk hq => ?_⟩, fun k hk => ?_, Only.trans (b1.mono (fun _ h _ => .inl h)) (b2.mono (fun _ h _ => .inr h) : Only (fun k => G k ∨ H k) w1 w2) (fun _ h _ => h)⟩
  · rcases c2 k hq with e | e
    · exact hGH k hk e
    · have := hg1 k hk; omega
  · rcases hk with hk | hk
    · rcases c1 k hk with e | e
      · exact .inl (.inl e)
      · exact .inr e
    · rcases c2 k hk with e | e
      · exact .inl (.inr e)
      · exact .inr (Nat.le_trans b1.size e)

theorem cells17 {w : World} {b : Nat} {x : Op14} {T : TypeId} (h : w.heap[b]? = some (.cells #[.int .i64 x.what, .int .i64 x.t.k, .string x.t.name, .int .i64 x.t.dims, .int .i64 x.t.elem, .int .i64 x.t.at_, .int .i64 x.of.k, .string x.of.name, .int .i64 x.of.dims, .int .i64 x.of.elem, .int .i64 x.of.at_, .int .i64 x.n, .int .i64 x.i, .int .i64 x.v.k, .int .i64 x.v.n, .int .i64 x.v.r, x.dv] T (0, 0))) :
    w.cell? ⟨b, 0, none⟩ = some (.int .i64 x.what) ∧ w.cell? ⟨b, 1, none⟩ = some (.int .i64 x.t.k) ∧ w.cell? ⟨b, 2, none⟩ = some (.string x.t.name) ∧ w.cell? ⟨b, 3, none⟩ = some (.int .i64 x.t.dims) ∧ w.cell? ⟨b, 4, none⟩ = some (.int .i64 x.t.elem) ∧ w.cell? ⟨b, 5, none⟩ = some (.int .i64 x.t.at_) ∧ w.cell? ⟨b, 6, none⟩ = some (.int .i64 x.of.k) ∧ w.cell? ⟨b, 7, none⟩ = some (.string x.of.name) ∧ w.cell? ⟨b, 8, none⟩ = some (.int .i64 x.of.dims) ∧ w.cell? ⟨b, 9, none⟩ = some (.int .i64 x.of.elem) ∧ w.cell? ⟨b, 10, none⟩ = some (.int .i64 x.of.at_) ∧ w.cell? ⟨b, 11, none⟩ = some (.int .i64 x.n) ∧ w.cell? ⟨b, 12, none⟩ = some (.int .i64 x.i) ∧ w.cell? ⟨b, 13, none⟩ = some (.int .i64 x.v.k) ∧ w.cell? ⟨b, 14, none⟩ = some (.int .i64 x.v.n) ∧ w.cell? ⟨b, 15, none⟩ = some (.int .i64 x.v.r) ∧ w.cell? ⟨b, 16, none⟩ = some (x.dv) := ⟨cell_blk h 0, cell_blk h 1, cell_blk h 2, cell_blk h 3, cell_blk h 4, cell_blk h 5, cell_blk h 6, cell_blk h 7, cell_blk h 8, cell_blk h 9, cell_blk h 10, cell_blk h 11, cell_blk h 12, cell_blk h 13, cell_blk h 14, cell_blk h 15, cell_blk h 16⟩
set_option maxHeartbeats 16000000 in
set_option maxRecDepth 100000 in
theorem play14 {w : World} {G H : Nat → Prop} {p q : Nat} {os : List ObjV} {most : Int} (h : Both14 w G H p q os most) (x : Op14) (ht : ∀ W, Only G w W → Types W x.dv x.data) :
    Calls Try.prog 11 #[.pointer (some ⟨p, 0, none⟩), .pointer (some ⟨q, 0, none⟩), valOp x] w fun e w' => e = .returned (.bool true) ∧ Both14To w G H p q (playZ os most x) most w' := by
  have ho := (Only.refl (fun _ => False) w).alloc (.cells #[.int .i64 x.what, .int .i64 x.t.k, .string x.t.name, .int .i64 x.t.dims, .int .i64 x.t.elem, .int .i64 x.t.at_, .int .i64 x.of.k, .string x.of.name, .int .i64 x.of.dims, .int .i64 x.of.elem, .int .i64 x.of.at_, .int .i64 x.n, .int .i64 x.i, .int .i64 x.v.k, .int .i64 x.v.n, .int .i64 x.v.r, x.dv] 37)
  have hb := heap_alloc_new w (.cells #[.int .i64 x.what, .int .i64 x.t.k, .string x.t.name, .int .i64 x.t.dims, .int .i64 x.t.elem, .int .i64 x.t.at_, .int .i64 x.of.k, .string x.of.name, .int .i64 x.of.dims, .int .i64 x.of.elem, .int .i64 x.of.at_, .int .i64 x.n, .int .i64 x.i, .int .i64 x.v.k, .int .i64 x.v.n, .int .i64 x.v.r, x.dv] 37)
  obtain ⟨W0, hW0⟩ : ∃ W0, w.alloc (.cells #[.int .i64 x.what, .int .i64 x.t.k, .string x.t.name, .int .i64 x.t.dims, .int .i64 x.t.elem, .int .i64 x.t.at_, .int .i64 x.of.k, .string x.of.name, .int .i64 x.of.dims, .int .i64 x.of.elem, .int .i64 x.of.at_, .int .i64 x.n, .int .i64 x.i, .int .i64 x.v.k, .int .i64 x.v.n, .int .i64 x.v.r, x.dv] 37) = W0 := ⟨_, rfl⟩
  rw [hW0] at ho hb
  have h0 := h.only ho (fun _ _ h => h)
  have ht0 := fun W (hq : Only G W0 W) => ht W (Only.trans (ho.mono (fun _ h _ => h.elim)) hq (fun _ h _ => h))
  have hgl : ∀ k, G k ∨ H k → k < w.heap.size := fun k hk => hk.elim (HeapP.lt h.hp k) (HeapR.lt h.hr k)
  have HH := Lib.hid h0
  have HT := Lib.hid ht0
  have HO := Lib.hid ho
  have HB := Lib.hid hb
  have HGL := Lib.hid hgl
  have HW0 := Lib.hid hW0
  have HNB := Lib.hid (show ¬ G w.heap.size ∧ ¬ H w.heap.size from ⟨fun hq => by have := hgl _ (.inl hq); omega, fun hq => by have := hgl _ (.inr hq); omega⟩)
  clear h h0 ht ht0 ho hb hgl
  unfold playZ valOp
  by_cases hw0 : x.what = 0
  · rw [if_pos hw0]
    have w0 : (x.what == 0) = true := by simp [hw0]
    clear hw0
    obtain ⟨z, hz⟩ : ∃ z, makeZ os most x.t x.data = z := ⟨_, rfl⟩
    have C1 := Lib.hid (progMakeR HH.out.hp x.t x.dv x.data (HT.out W0 (Only.refl _ _)) (far_of_stay HT.out))
    have C2 := Lib.hid (fun (w1 : World) (hr : HeapR w1 H q os most) (htw : Types w1 x.dv x.data) => refMakeR hr x.t x.dv x.data htw)
    rw [hz] at C1
    rw [hz]
    simp only [hz] at C2
    obtain ⟨zo, za, ze⟩ := z
    simp only at C1 C2
    clear hz
    obtain ⟨k0, k1, k2, k3, k4, k5, -, -, -, -, -, -, -, -, -, -, k16⟩ := cells17 HB.out
    unfold valT at C1 C2
    skip
    go_enter Try.func11, Try.ntmps11
    go_wp2_with (fail)
    try rw [HW0.out]
    clear hW0
    refine C1.out.mono ?_
    rintro e w1 ⟨rfl, hto⟩
    have HTO := Lib.hid hto
    obtain ⟨G1, a1, b1, c1⟩ := hto
    clear k0 k1 k2 k3 k4 k5 k16
    have hb1 := b1.heap HB.out HNB.out.1
    obtain ⟨k0, k1, k2, k3, k4, k5, -, -, -, -, -, -, -, -, -, -, k16⟩ := cells17 hb1
    have hr1 := HeapR.only HH.out.hr b1 (fun k hk hq => HH.out.apart k hq hk)
    have ht1 := HT.out w1 b1
    have C2w := Lib.hid (C2.out w1 hr1 ht1)
    clear a1 b1 c1 hb1 hr1 C2 ht1
    go_wp2_with (fail)
    refine C2w.out.mono ?_
    rintro e w2 ⟨rfl, hto2⟩
    have HTO2 := Lib.hid hto2
    clear hto2 k0 k1 k2 k3 k4 k5 k16
    go_wp2
    go_ret
    exact ⟨rfl, (HH.out.both HTO.out HTO2.out).base HO.out⟩
  by_cases hw1 : x.what = 1
  · rw [if_neg hw0, if_pos hw1]
    have w0 : (x.what == 0) = false := by rw [beq_eq_false_iff_ne]; exact hw0
    have w1 : (x.what == 1) = true := by simp [hw1]
    clear hw0 hw1
    obtain ⟨z, hz⟩ : ∃ z, arrayZ os most x.t x.of x.n = z := ⟨_, rfl⟩
    have C1 := Lib.hid (progArrayR HH.out.hp x.t x.of x.n)
    have C2 := Lib.hid (fun (w1 : World) (hr : HeapR w1 H q os most) => refArrayR hr x.t x.of x.n)
    rw [hz] at C1
    rw [hz]
    simp only [hz] at C2
    obtain ⟨zo, za, ze⟩ := z
    simp only at C1 C2
    clear hz
    obtain ⟨k0, k1, k2, k3, k4, k5, k6, k7, k8, k9, k10, k11, -, -, -, -, -⟩ := cells17 HB.out
    unfold valT at C1 C2
    skip
    go_enter Try.func11, Try.ntmps11
    go_wp2_with (fail)
    try rw [HW0.out]
    clear hW0
    refine C1.out.mono ?_
    rintro e w1 ⟨rfl, hto⟩
    have HTO := Lib.hid hto
    obtain ⟨G1, a1, b1, c1⟩ := hto
    clear k0 k1 k2 k3 k4 k5 k6 k7 k8 k9 k10 k11
    have hb1 := b1.heap HB.out HNB.out.1
    obtain ⟨k0, k1, k2, k3, k4, k5, k6, k7, k8, k9, k10, k11, -, -, -, -, -⟩ := cells17 hb1
    have hr1 := HeapR.only HH.out.hr b1 (fun k hk hq => HH.out.apart k hq hk)
    have C2w := Lib.hid (C2.out w1 hr1)
    clear a1 b1 c1 hb1 hr1 C2
    go_wp2_with (fail)
    refine C2w.out.mono ?_
    rintro e w2 ⟨rfl, hto2⟩
    have HTO2 := Lib.hid hto2
    clear hto2 k0 k1 k2 k3 k4 k5 k6 k7 k8 k9 k10 k11
    go_wp2
    go_ret
    exact ⟨rfl, (HH.out.both HTO.out HTO2.out).base HO.out⟩
  by_cases hw2 : x.what = 2
  · rw [if_neg hw0, if_neg hw1, if_pos hw2]
    have w0 : (x.what == 0) = false := by rw [beq_eq_false_iff_ne]; exact hw0
    have w1 : (x.what == 1) = false := by rw [beq_eq_false_iff_ne]; exact hw1
    have w2 : (x.what == 2) = true := by simp [hw2]
    clear hw0 hw1 hw2
    obtain ⟨z, hz⟩ : ∃ z, setZ os x.n x.i x.v = z := ⟨_, rfl⟩
    have hd0 := HH.out.only (Only.refl (fun _ => False) W0).drew (fun _ _ h => h)
    have C1 := Lib.hid (progSetR hd0.hp x.n x.i x.v)
    have C2 := Lib.hid (fun (w1 : World) (hr : HeapR w1 H q os most) => refSetR hr x.n x.i x.v)
    rw [hz] at C1
    rw [hz]
    simp only [hz] at C2
    obtain ⟨zo, ze⟩ := z
    simp only at C1 C2
    have HD := Lib.hid hd0
    clear hz hd0
    unfold valVa at C1 C2
    have hbd : W0.drew.heap[w.heap.size]? = some (.cells #[.int .i64 x.what, .int .i64 x.t.k, .string x.t.name, .int .i64 x.t.dims, .int .i64 x.t.elem, .int .i64 x.t.at_, .int .i64 x.of.k, .string x.of.name, .int .i64 x.of.dims, .int .i64 x.of.elem, .int .i64 x.of.at_, .int .i64 x.n, .int .i64 x.i, .int .i64 x.v.k, .int .i64 x.v.n, .int .i64 x.v.r, x.dv] 37 (0, 0)) := HB.out
    obtain ⟨k0, -, -, -, -, -, -, -, -, -, -, -, -, -, -, -, -⟩ := cells17 HB.out
    have hS : (fun wc => wc.cell? ⟨w.heap.size, 11, none⟩ = some (.int .i64 x.n) ∧ wc.cell? ⟨w.heap.size, 12, none⟩ = some (.int .i64 x.i) ∧ wc.cell? ⟨w.heap.size, 13, none⟩ = some (.int .i64 x.v.k) ∧ wc.cell? ⟨w.heap.size, 14, none⟩ = some (.int .i64 x.v.n) ∧ wc.cell? ⟨w.heap.size, 15, none⟩ = some (.int .i64 x.v.r)) W0.drew := (let c := cells17 (hbd); ⟨c.2.2.2.2.2.2.2.2.2.2.2.1, c.2.2.2.2.2.2.2.2.2.2.2.2.1, c.2.2.2.2.2.2.2.2.2.2.2.2.2.1, c.2.2.2.2.2.2.2.2.2.2.2.2.2.2.1, c.2.2.2.2.2.2.2.2.2.2.2.2.2.2.2.1⟩)
    go_enter Try.func11, Try.ntmps11
    go_wp2_with (fail)
    try rw [HW0.out]
    clear hW0
    refine wp_region_held_drew (S := fun wc => wc.cell? ⟨w.heap.size, 11, none⟩ = some (.int .i64 x.n) ∧ wc.cell? ⟨w.heap.size, 12, none⟩ = some (.int .i64 x.i) ∧ wc.cell? ⟨w.heap.size, 13, none⟩ = some (.int .i64 x.v.k) ∧ wc.cell? ⟨w.heap.size, 14, none⟩ = some (.int .i64 x.v.n) ∧ wc.cell? ⟨w.heap.size, 15, none⟩ = some (.int .i64 x.v.r)) (by kernel_rfl) hS (fun hHeld => ?_)
    refine wpAnyH_take (i := 0) (v := ?_) (by simp only [List.getElem?_toArray, List.getElem?_cons_succ, List.getElem?_cons_zero]; rfl) (by kernel_rfl) (by kernel_rfl) (by kernel_rfl) (by exact fun _ _ _ h => h) (Or.inl ⟨by rfl, ?_⟩) (by assumption) ?_
    rotate_left 1
    · (intro w hSw; (try dsimp only at hSw); go_simp; try with_reducible rfl)
    try simp only [Act.put, List.setIfInBounds_toArray, List.set_cons_zero, List.set_cons_succ]
    refine wpAnyH_take (i := 1) (v := ?_) (by simp only [List.getElem?_toArray, List.getElem?_cons_succ, List.getElem?_cons_zero]; rfl) (by kernel_rfl) (by kernel_rfl) (by kernel_rfl) (by exact fun _ _ _ h => h) (Or.inl ⟨by rfl, ?_⟩) (by assumption) ?_
    rotate_left 1
    · (intro w hSw; (try dsimp only at hSw); go_simp; try with_reducible rfl)
    try simp only [Act.put, List.setIfInBounds_toArray, List.set_cons_zero, List.set_cons_succ]
    refine wpAnyH_take (i := 2) (v := ?_) (by simp only [List.getElem?_toArray, List.getElem?_cons_succ, List.getElem?_cons_zero]; rfl) (by kernel_rfl) (by kernel_rfl) (by kernel_rfl) (by exact fun _ _ _ h => h) (Or.inl ⟨by rfl, ?_⟩) (by assumption) ?_
    rotate_left 1
    · (intro w hSw; (try dsimp only at hSw); go_simp; try with_reducible rfl)
    try simp only [Act.put, List.setIfInBounds_toArray, List.set_cons_zero, List.set_cons_succ]
    refine wpAnyH_take (i := 3) (v := ?_) (by simp only [List.getElem?_toArray, List.getElem?_cons_succ, List.getElem?_cons_zero]; rfl) (by kernel_rfl) (by kernel_rfl) (by kernel_rfl) (by exact fun _ _ _ h => h) (Or.inl ⟨by rfl, ?_⟩) (by assumption) ?_
    rotate_left 1
    · (intro w hSw; (try dsimp only at hSw); go_simp; try with_reducible rfl)
    try simp only [Act.put, List.setIfInBounds_toArray, List.set_cons_zero, List.set_cons_succ]
    refine wpAnyH_take (i := 4) (v := ?_) (by simp only [List.getElem?_toArray, List.getElem?_cons_succ, List.getElem?_cons_zero]; rfl) (by kernel_rfl) (by kernel_rfl) (by kernel_rfl) (by exact fun _ _ _ h => h) (Or.inl ⟨by rfl, ?_⟩) (by assumption) ?_
    rotate_left 1
    · (intro w hSw; (try dsimp only at hSw); go_simp; try with_reducible rfl)
    try simp only [Act.put, List.setIfInBounds_toArray, List.set_cons_zero, List.set_cons_succ]
    refine wpAnyH_take (i := 5) (v := ?_) (by simp only [List.getElem?_toArray, List.getElem?_cons_succ, List.getElem?_cons_zero]; rfl) (by kernel_rfl) (by kernel_rfl) (by kernel_rfl) (by exact fun _ _ _ h => h) (Or.inl ⟨by rfl, ?_⟩) (by assumption) ?_
    rotate_left 1
    · (intro w hSw; (try dsimp only at hSw); go_simp; try with_reducible rfl)
    try simp only [Act.put, List.setIfInBounds_toArray, List.set_cons_zero, List.set_cons_succ]
    refine wpAnyH_take (i := 6) (v := ?_) (by simp only [List.getElem?_toArray, List.getElem?_cons_succ, List.getElem?_cons_zero]; rfl) (by kernel_rfl) (by kernel_rfl) (by kernel_rfl) (by exact fun _ _ _ h => h) (Or.inl ⟨by rfl, ?_⟩) (by assumption) ?_
    rotate_left 1
    · (intro w hSw; (try dsimp only at hSw); go_simp; try with_reducible rfl)
    try simp only [Act.put, List.setIfInBounds_toArray, List.set_cons_zero, List.set_cons_succ]
    refine wpAnyH_take (i := 8) (v := ?_) (by simp only [List.getElem?_toArray, List.getElem?_cons_succ, List.getElem?_cons_zero]; rfl) (by kernel_rfl) (by kernel_rfl) (by kernel_rfl) (by exact fun _ _ _ h => h) (Or.inl ⟨by rfl, ?_⟩) (by assumption) ?_
    rotate_left 1
    · (intro w hSw; (try dsimp only at hSw); go_simp; try with_reducible rfl)
    try simp only [Act.put, List.setIfInBounds_toArray, List.set_cons_zero, List.set_cons_succ]
    refine wpAnyH_take (i := 9) (v := ?_) (by simp only [List.getElem?_toArray, List.getElem?_cons_succ, List.getElem?_cons_zero]; rfl) (by kernel_rfl) (by kernel_rfl) (by kernel_rfl) (by exact fun _ _ _ h => h) (Or.inl ⟨by rfl, ?_⟩) (by assumption) ?_
    rotate_left 1
    · (intro w hSw; (try dsimp only at hSw); go_simp; try with_reducible rfl)
    try simp only [Act.put, List.setIfInBounds_toArray, List.set_cons_zero, List.set_cons_succ]
    refine wpAnyH_take (i := 10) (v := ?_) (by simp only [List.getElem?_toArray, List.getElem?_cons_succ, List.getElem?_cons_zero]; rfl) (by kernel_rfl) (by kernel_rfl) (by kernel_rfl) (by exact fun _ _ _ h => h) (Or.inl ⟨by rfl, ?_⟩) (by assumption) ?_
    rotate_left 1
    · (intro w hSw; (try dsimp only at hSw); go_simp; try with_reducible rfl)
    try simp only [Act.put, List.setIfInBounds_toArray, List.set_cons_zero, List.set_cons_succ]
    refine wpAnyH_take (i := 11) (v := ?_) (by simp only [List.getElem?_toArray, List.getElem?_cons_succ, List.getElem?_cons_zero]; rfl) (by kernel_rfl) (by kernel_rfl) (by kernel_rfl) (by exact fun _ _ _ h => h) (Or.inl ⟨by rfl, ?_⟩) (by assumption) ?_
    rotate_left 1
    · (intro w hSw; (try dsimp only at hSw); go_simp; try with_reducible rfl)
    try simp only [Act.put, List.setIfInBounds_toArray, List.set_cons_zero, List.set_cons_succ]
    refine wpAnyH_take (i := 12) (v := ?_) (by simp only [List.getElem?_toArray, List.getElem?_cons_succ, List.getElem?_cons_zero]; rfl) (by kernel_rfl) (by kernel_rfl) (by kernel_rfl) (by exact fun _ _ _ h => h) (Or.inl ⟨by rfl, ?_⟩) (by assumption) ?_
    rotate_left 1
    · (intro w hSw; (try dsimp only at hSw); go_simp; try with_reducible rfl)
    try simp only [Act.put, List.setIfInBounds_toArray, List.set_cons_zero, List.set_cons_succ]
    refine wpAnyH_take (i := 13) (v := ?_) (by simp only [List.getElem?_toArray, List.getElem?_cons_succ, List.getElem?_cons_zero]; rfl) (by kernel_rfl) (by kernel_rfl) (by kernel_rfl) (by exact fun _ _ _ h => h) (Or.inl ⟨by rfl, ?_⟩) (by assumption) ?_
    rotate_left 1
    · (intro w hSw; (try dsimp only at hSw); go_simp; try with_reducible rfl)
    try simp only [Act.put, List.setIfInBounds_toArray, List.set_cons_zero, List.set_cons_succ]
    refine wpAnyH_take (i := 14) (v := ?_) (by simp only [List.getElem?_toArray, List.getElem?_cons_succ, List.getElem?_cons_zero]; rfl) (by kernel_rfl) (by kernel_rfl) (by kernel_rfl) (by exact fun _ _ _ h => h) (Or.inl ⟨by rfl, ?_⟩) (by assumption) ?_
    rotate_left 1
    · (intro w hSw; (try dsimp only at hSw); go_simp; try with_reducible rfl)
    try simp only [Act.put, List.setIfInBounds_toArray, List.set_cons_zero, List.set_cons_succ]
    refine wpAnyH_ready (rs := [7]) (by kernel_rfl) (by simp) ?_
    refine AllReadyH.cons (by simp only [List.getElem?_toArray, List.getElem?_cons_succ, List.getElem?_cons_zero]; rfl) (fun K hK => ?_) AllReadyH.nil
    go_simp
    (refine C1.out.mono ?_; rintro e w1 ⟨rfl, hto⟩; have HTO := Lib.hid hto; obtain ⟨G1, a1, b1, c1⟩ := hto; have hb1 := b1.heap hbd HNB.out.1; have HB1 := Lib.hid hb1; have hr1 := HeapR.only HD.out.hr b1 (fun k hk hq => HD.out.apart k hq hk); have C2w := Lib.hid (C2.out w1 hr1); clear a1 b1 c1 hb1 hr1)
    go_wp2_with fail
    refine hK.out _ _ ?_ (fun hHeld2 => ?_)
    · exact (let c := cells17 (HB1.out); ⟨c.2.2.2.2.2.2.2.2.2.2.2.1, c.2.2.2.2.2.2.2.2.2.2.2.2.1, c.2.2.2.2.2.2.2.2.2.2.2.2.2.1, c.2.2.2.2.2.2.2.2.2.2.2.2.2.2.1, c.2.2.2.2.2.2.2.2.2.2.2.2.2.2.2.1⟩)
    clear hK K
    try simp only [Act.put, List.setIfInBounds_toArray, List.set_cons_zero, List.set_cons_succ]
    clear hHeld
    have hHeld := hHeld2
    clear hHeld2
    refine wpAnyH_ready (rs := [15]) (by kernel_rfl) (by simp) ?_
    refine AllReadyH.cons (by simp only [List.getElem?_toArray, List.getElem?_cons_succ, List.getElem?_cons_zero]; rfl) (fun K hK => ?_) AllReadyH.nil
    go_simp
    (refine C2w.out.mono ?_; rintro e w2 ⟨rfl, hto2⟩; have HTO2 := Lib.hid hto2; obtain ⟨H1, a2, b2, c2⟩ := hto2; have HB2 := Lib.hid (b2.heap HB1.out HNB.out.2); clear a2 b2 c2)
    go_wp2_with fail
    refine hK.out _ _ ?_ (fun hHeld2 => ?_)
    · exact (let c := cells17 (HB2.out); ⟨c.2.2.2.2.2.2.2.2.2.2.2.1, c.2.2.2.2.2.2.2.2.2.2.2.2.1, c.2.2.2.2.2.2.2.2.2.2.2.2.2.1, c.2.2.2.2.2.2.2.2.2.2.2.2.2.2.1, c.2.2.2.2.2.2.2.2.2.2.2.2.2.2.2.1⟩)
    clear hK K
    try simp only [Act.put, List.setIfInBounds_toArray, List.set_cons_zero, List.set_cons_succ]
    clear hHeld
    have hHeld := hHeld2
    clear hHeld2
    refine wpAnyH_take (i := 16) (v := ?_) (by simp only [List.getElem?_toArray, List.getElem?_cons_succ, List.getElem?_cons_zero]; rfl) (by kernel_rfl) (by kernel_rfl) (by kernel_rfl) (by exact fun _ _ _ h => h) (Or.inl ⟨by rfl, ?_⟩) (by assumption) ?_
    rotate_left 1
    · (intro w hSw; (try dsimp only at hSw); go_simp; try with_reducible rfl)
    try simp only [Act.put, List.setIfInBounds_toArray, List.set_cons_zero, List.set_cons_succ]
    refine wpAnyH_take (i := 17) (v := ?_) (by simp only [List.getElem?_toArray, List.getElem?_cons_succ, List.getElem?_cons_zero]; rfl) (by kernel_rfl) (by kernel_rfl) (by kernel_rfl) (by exact fun _ _ _ h => h) (Or.inl ⟨by rfl, ?_⟩) (by assumption) ?_
    rotate_left 1
    · (intro w hSw; (try dsimp only at hSw); go_simp; try with_reducible rfl)
    try simp only [Act.put, List.setIfInBounds_toArray, List.set_cons_zero, List.set_cons_succ]
    refine wpAnyH_done (by kernel_rfl) ?_ _
    clear hHeld hS hbd k0
    go_wp2
    go_ret
    exact ⟨rfl, (HD.out.both HTO.out HTO2.out).base ((HO.out).trans (Only.refl (fun _ => False) W0).drew (fun _ h _ => h))⟩
  rw [if_neg hw0, if_neg hw1, if_neg hw2]
  have w0 : (x.what == 0) = false := by rw [beq_eq_false_iff_ne]; exact hw0
  have w1 : (x.what == 1) = false := by rw [beq_eq_false_iff_ne]; exact hw1
  have w2 : (x.what == 2) = false := by rw [beq_eq_false_iff_ne]; exact hw2
  clear hw0 hw1 hw2
  have CG := Lib.hid (fun (W : World) (hp : HeapP W G p os most) => progGetR hp x.n x.i)
  have CH := Lib.hid (fun (W : World) (hr : HeapR W H q os most) => refGetR hr x.n x.i)
  have CT := Lib.hid (fun (W : World) (hp : HeapP W G p os most) => progTypeR hp x.n)
  have CU := Lib.hid (fun (W : World) (hr : HeapR W H q os most) => refTypeR hr x.n)
  have CL := Lib.hid (fun (W : World) (hp : HeapP W G p os most) => progLenR hp x.n)
  have CM := Lib.hid (fun (W : World) (hr : HeapR W H q os most) => refLenR hr x.n)
  generalize getZ os x.n x.i = z at *
  obtain ⟨a, ea⟩ := z
  generalize typeZ14 os x.n = z at *
  obtain ⟨t, et⟩ := z
  generalize lenZ14 os x.n = ln at *
  simp only at CG CH CT CU
  have e1 : ∀ W, (binOp .eql 34 (.agg #[.int .i64 a.k, .int .i64 a.n, .int .i64 a.r]) (.agg #[.int .i64 a.k, .int .i64 a.n, .int .i64 a.r])).run Try.prog W = .ok (.bool true) W := fun W => by have := eql_val a a W; rw [show decide (a = a) = true by simp] at this; exact this
  have e2 : ∀ W, (binOp .eql 32 (.agg #[.int .i64 t.k, .string t.name, .int .i64 t.dims, .int .i64 t.elem, .int .i64 t.at_]) (.agg #[.int .i64 t.k, .string t.name, .int .i64 t.dims, .int .i64 t.elem, .int .i64 t.at_])).run Try.prog W = .ok (.bool true) W := fun W => by have := eql_type t t W; rw [eqT_self] at this; exact this
  have E1 := Lib.hid e1
  have E2 := Lib.hid e2
  clear e1 e2
  unfold valVa at CG CH
  unfold valT at CT CU
  obtain ⟨k0, -, -, -, -, -, -, -, -, -, -, k11, k12, -, -, -, -⟩ := cells17 HB.out
  go_enter Try.func11, Try.ntmps11
  go_wp2_with (fail)
  try rw [HW0.out]
  clear hW0 w0 w1 w2 k0 k11 k12
  refine (CG.out _ HH.out.hp).mono ?_
  rintro e v1 ⟨rfl, ho1⟩
  have hn1 := heap_alloc_new v1 (.cells #[.int .i64 a.k, .int .i64 a.n, .int .i64 a.r] 34)
  have hs1 := Only.alloc ho1 (.cells #[.int .i64 a.k, .int .i64 a.n, .int .i64 a.r] 34)
  have hx1 := hs1.heap HB.out (fun h => h)
  obtain ⟨-, -, -, -, -, -, -, -, -, -, -, k11, k12, -, -, -, -⟩ := cells17 hx1
  have hh1 := HH.out.only hs1 (fun _ _ h => h)
  go_wp2_with (fail)
  refine (CH.out _ hh1.hr).mono ?_
  rintro e v2 ⟨rfl, hq2⟩
  have ho2 := hs1.trans hq2 (fun _ h _ => h)
  have ha2 := hq2.heap hn1 (fun h => h)
  clear hn1 hs1 hx1 hh1 k11 k12
  have hn2 := heap_alloc_new v2 (.cells #[.int .i64 a.k, .int .i64 a.n, .int .i64 a.r] 34)
  have hs2 := Only.alloc ho2 (.cells #[.int .i64 a.k, .int .i64 a.n, .int .i64 a.r] 34)
  have hx2 := hs2.heap HB.out (fun h => h)
  obtain ⟨-, -, -, -, -, -, -, -, -, -, -, k11, k12, -, -, -, -⟩ := cells17 hx2
  have hh2 := HH.out.only hs2 (fun _ _ h => h)
  go_wp2_with (fail)
  refine (CT.out _ hh2.hp).mono ?_
  rintro e v3 ⟨rfl, hq3⟩
  have ho3 := hs2.trans hq3 (fun _ h _ => h)
  have ha3 := (hq3.heap ((Only.refl (fun _ => False) v2).alloc (.cells #[.int .i64 a.k, .int .i64 a.n, .int .i64 a.r] 34) |>.heap ha2 (fun h => h)) (fun h => h))
  have hb3 := hq3.heap hn2 (fun h => h)
  clear hn2 hs2 hx2 hh2 k11 k12 ha2 hq2
  have hn3 := heap_alloc_new v3 (.cells #[.int .i64 t.k, .string t.name, .int .i64 t.dims, .int .i64 t.elem, .int .i64 t.at_] 32)
  have hs3 := Only.alloc ho3 (.cells #[.int .i64 t.k, .string t.name, .int .i64 t.dims, .int .i64 t.elem, .int .i64 t.at_] 32)
  have hx3 := hs3.heap HB.out (fun h => h)
  obtain ⟨-, -, -, -, -, -, -, -, -, -, -, k11, k12, -, -, -, -⟩ := cells17 hx3
  have hh3 := HH.out.only hs3 (fun _ _ h => h)
  go_wp2_with (fail)
  refine (CU.out _ hh3.hr).mono ?_
  rintro e v4 ⟨rfl, hq4⟩
  have ho4 := hs3.trans hq4 (fun _ h _ => h)
  have hal3 := (Only.refl (fun _ => False) v3).alloc (.cells #[.int .i64 t.k, .string t.name, .int .i64 t.dims, .int .i64 t.elem, .int .i64 t.at_] 32)
  have ha4 := hq4.heap (hal3.heap ha3 (fun h => h)) (fun h => h)
  have hb4 := hq4.heap (hal3.heap hb3 (fun h => h)) (fun h => h)
  have hc4 := hq4.heap hn3 (fun h => h)
  clear hn3 hs3 hx3 hh3 k11 k12 ha3 hb3 hq3 hal3
  have hal4 := (Only.refl (fun _ => False) v4).alloc (.cells #[.int .i64 t.k, .string t.name, .int .i64 t.dims, .int .i64 t.elem, .int .i64 t.at_] 32)
  have hd := heap_alloc_new v4 (.cells #[.int .i64 t.k, .string t.name, .int .i64 t.dims, .int .i64 t.elem, .int .i64 t.at_] 32)
  obtain ⟨v5, hv5⟩ : ∃ x, x = (v4.alloc (.cells #[.int .i64 t.k, .string t.name, .int .i64 t.dims, .int .i64 t.elem, .int .i64 t.at_] 32)).drew := ⟨_, rfl⟩
  have hd5 : v5.heap[v4.heap.size]? = some (.cells #[.int .i64 t.k, .string t.name, .int .i64 t.dims, .int .i64 t.elem, .int .i64 t.at_] 32 (0, 0)) := by rw [hv5]; exact hd
  have ho5 : Only (fun _ => False) W0 v5 := by rw [hv5]; exact (Only.alloc ho4 _).drew
  have h45 : Only (fun _ => False) v4 v5 := by rw [hv5]; exact hal4.drew
  have ha5 := h45.heap ha4 (fun h => h)
  have hb5 := h45.heap hb4 (fun h => h)
  have hc5 := h45.heap hc4 (fun h => h)
  have hx5 := ho5.heap HB.out (fun h => h)
  generalize hba : v1.heap.size = ba at *
  generalize hbb : v2.heap.size = bb at *
  generalize hbt : v3.heap.size = bt at *
  generalize hbu : v4.heap.size = bu at *
  have hS : (fun wc => wc.cell? ⟨w.heap.size, 11, none⟩ = some (.int .i64 x.n) ∧ wc.cell? ⟨ba, 0, none⟩ = some (.int .i64 a.k) ∧ wc.cell? ⟨ba, 1, none⟩ = some (.int .i64 a.n) ∧ wc.cell? ⟨ba, 2, none⟩ = some (.int .i64 a.r) ∧ wc.cell? ⟨bb, 0, none⟩ = some (.int .i64 a.k) ∧ wc.cell? ⟨bb, 1, none⟩ = some (.int .i64 a.n) ∧ wc.cell? ⟨bb, 2, none⟩ = some (.int .i64 a.r) ∧ wc.cell? ⟨bt, 0, none⟩ = some (.int .i64 t.k) ∧ wc.cell? ⟨bt, 1, none⟩ = some (.string t.name) ∧ wc.cell? ⟨bt, 2, none⟩ = some (.int .i64 t.dims) ∧ wc.cell? ⟨bt, 3, none⟩ = some (.int .i64 t.elem) ∧ wc.cell? ⟨bt, 4, none⟩ = some (.int .i64 t.at_) ∧ wc.cell? ⟨bu, 0, none⟩ = some (.int .i64 t.k) ∧ wc.cell? ⟨bu, 1, none⟩ = some (.string t.name) ∧ wc.cell? ⟨bu, 2, none⟩ = some (.int .i64 t.dims) ∧ wc.cell? ⟨bu, 3, none⟩ = some (.int .i64 t.elem) ∧ wc.cell? ⟨bu, 4, none⟩ = some (.int .i64 t.at_)) v5 := ⟨cell_blk ((Only.refl (fun _ => False) v5).heap hx5 (fun h => h)) 11, cell_blk ((Only.refl (fun _ => False) v5).heap ha5 (fun h => h)) 0, cell_blk ((Only.refl (fun _ => False) v5).heap ha5 (fun h => h)) 1, cell_blk ((Only.refl (fun _ => False) v5).heap ha5 (fun h => h)) 2, cell_blk ((Only.refl (fun _ => False) v5).heap hb5 (fun h => h)) 0, cell_blk ((Only.refl (fun _ => False) v5).heap hb5 (fun h => h)) 1, cell_blk ((Only.refl (fun _ => False) v5).heap hb5 (fun h => h)) 2, cell_blk ((Only.refl (fun _ => False) v5).heap hc5 (fun h => h)) 0, cell_blk ((Only.refl (fun _ => False) v5).heap hc5 (fun h => h)) 1, cell_blk ((Only.refl (fun _ => False) v5).heap hc5 (fun h => h)) 2, cell_blk ((Only.refl (fun _ => False) v5).heap hc5 (fun h => h)) 3, cell_blk ((Only.refl (fun _ => False) v5).heap hc5 (fun h => h)) 4, cell_blk ((Only.refl (fun _ => False) v5).heap hd5 (fun h => h)) 0, cell_blk ((Only.refl (fun _ => False) v5).heap hd5 (fun h => h)) 1, cell_blk ((Only.refl (fun _ => False) v5).heap hd5 (fun h => h)) 2, cell_blk ((Only.refl (fun _ => False) v5).heap hd5 (fun h => h)) 3, cell_blk ((Only.refl (fun _ => False) v5).heap hd5 (fun h => h)) 4⟩
  have hfive : ∀ W, Only (fun _ => False) v5 W → (fun wc => wc.cell? ⟨w.heap.size, 11, none⟩ = some (.int .i64 x.n) ∧ wc.cell? ⟨ba, 0, none⟩ = some (.int .i64 a.k) ∧ wc.cell? ⟨ba, 1, none⟩ = some (.int .i64 a.n) ∧ wc.cell? ⟨ba, 2, none⟩ = some (.int .i64 a.r) ∧ wc.cell? ⟨bb, 0, none⟩ = some (.int .i64 a.k) ∧ wc.cell? ⟨bb, 1, none⟩ = some (.int .i64 a.n) ∧ wc.cell? ⟨bb, 2, none⟩ = some (.int .i64 a.r) ∧ wc.cell? ⟨bt, 0, none⟩ = some (.int .i64 t.k) ∧ wc.cell? ⟨bt, 1, none⟩ = some (.string t.name) ∧ wc.cell? ⟨bt, 2, none⟩ = some (.int .i64 t.dims) ∧ wc.cell? ⟨bt, 3, none⟩ = some (.int .i64 t.elem) ∧ wc.cell? ⟨bt, 4, none⟩ = some (.int .i64 t.at_) ∧ wc.cell? ⟨bu, 0, none⟩ = some (.int .i64 t.k) ∧ wc.cell? ⟨bu, 1, none⟩ = some (.string t.name) ∧ wc.cell? ⟨bu, 2, none⟩ = some (.int .i64 t.dims) ∧ wc.cell? ⟨bu, 3, none⟩ = some (.int .i64 t.elem) ∧ wc.cell? ⟨bu, 4, none⟩ = some (.int .i64 t.at_)) W := fun W hW => ⟨cell_blk (hW.heap hx5 (fun h => h)) 11, cell_blk (hW.heap ha5 (fun h => h)) 0, cell_blk (hW.heap ha5 (fun h => h)) 1, cell_blk (hW.heap ha5 (fun h => h)) 2, cell_blk (hW.heap hb5 (fun h => h)) 0, cell_blk (hW.heap hb5 (fun h => h)) 1, cell_blk (hW.heap hb5 (fun h => h)) 2, cell_blk (hW.heap hc5 (fun h => h)) 0, cell_blk (hW.heap hc5 (fun h => h)) 1, cell_blk (hW.heap hc5 (fun h => h)) 2, cell_blk (hW.heap hc5 (fun h => h)) 3, cell_blk (hW.heap hc5 (fun h => h)) 4, cell_blk (hW.heap hd5 (fun h => h)) 0, cell_blk (hW.heap hd5 (fun h => h)) 1, cell_blk (hW.heap hd5 (fun h => h)) 2, cell_blk (hW.heap hd5 (fun h => h)) 3, cell_blk (hW.heap hd5 (fun h => h)) 4⟩
  have HF := Lib.hid hfive
  have HH5 := Lib.hid (HH.out.only ho5 (fun _ _ h => h))
  have HO5 := Lib.hid ho5
  clear ha4 hb4 hc4 hd hal4 h45 hd5 ha5 hb5 hc5 hx5 ho4 hq4 ho1 ho2 ho3 ho5 hfive
  have e1 := E1.out
  have e2 := E2.out
  go_wp2_with (fail)
  refine wp_region_held_drew (S := fun wc => wc.cell? ⟨w.heap.size, 11, none⟩ = some (.int .i64 x.n) ∧ wc.cell? ⟨ba, 0, none⟩ = some (.int .i64 a.k) ∧ wc.cell? ⟨ba, 1, none⟩ = some (.int .i64 a.n) ∧ wc.cell? ⟨ba, 2, none⟩ = some (.int .i64 a.r) ∧ wc.cell? ⟨bb, 0, none⟩ = some (.int .i64 a.k) ∧ wc.cell? ⟨bb, 1, none⟩ = some (.int .i64 a.n) ∧ wc.cell? ⟨bb, 2, none⟩ = some (.int .i64 a.r) ∧ wc.cell? ⟨bt, 0, none⟩ = some (.int .i64 t.k) ∧ wc.cell? ⟨bt, 1, none⟩ = some (.string t.name) ∧ wc.cell? ⟨bt, 2, none⟩ = some (.int .i64 t.dims) ∧ wc.cell? ⟨bt, 3, none⟩ = some (.int .i64 t.elem) ∧ wc.cell? ⟨bt, 4, none⟩ = some (.int .i64 t.at_) ∧ wc.cell? ⟨bu, 0, none⟩ = some (.int .i64 t.k) ∧ wc.cell? ⟨bu, 1, none⟩ = some (.string t.name) ∧ wc.cell? ⟨bu, 2, none⟩ = some (.int .i64 t.dims) ∧ wc.cell? ⟨bu, 3, none⟩ = some (.int .i64 t.elem) ∧ wc.cell? ⟨bu, 4, none⟩ = some (.int .i64 t.at_)) (by kernel_rfl) (by rw [← hv5]; exact hS) (fun hHeld => ?_)
  refine wpAnyH_take (i := 0) (v := ?_) (by simp only [List.getElem?_toArray, List.getElem?_cons_succ, List.getElem?_cons_zero]; rfl) (by kernel_rfl) (by kernel_rfl) (by kernel_rfl) (by exact fun _ _ _ h => h) (Or.inl ⟨by rfl, ?_⟩) (by assumption) ?_
  rotate_left 1
  · (intro w hSw; (try dsimp only at hSw); go_simp; try with_reducible rfl)
  try simp only [Act.put, List.setIfInBounds_toArray, List.set_cons_zero, List.set_cons_succ]
  refine wpAnyH_take (i := 1) (v := ?_) (by simp only [List.getElem?_toArray, List.getElem?_cons_succ, List.getElem?_cons_zero]; rfl) (by kernel_rfl) (by kernel_rfl) (by kernel_rfl) (by exact fun _ _ _ h => h) (Or.inl ⟨by rfl, ?_⟩) (by assumption) ?_
  rotate_left 1
  · (intro w hSw; (try dsimp only at hSw); go_simp; try with_reducible rfl)
  try simp only [Act.put, List.setIfInBounds_toArray, List.set_cons_zero, List.set_cons_succ]
  refine wpAnyH_take (i := 2) (v := ?_) (by simp only [List.getElem?_toArray, List.getElem?_cons_succ, List.getElem?_cons_zero]; rfl) (by kernel_rfl) (by kernel_rfl) (by kernel_rfl) (by exact fun _ _ _ h => h) (Or.inl ⟨by rfl, ?_⟩) (by assumption) ?_
  rotate_left 1
  · (intro w hSw; (try dsimp only at hSw); go_simp; try with_reducible rfl)
  try simp only [Act.put, List.setIfInBounds_toArray, List.set_cons_zero, List.set_cons_succ]
  refine wpAnyH_take (i := 3) (v := ?_) (by simp only [List.getElem?_toArray, List.getElem?_cons_succ, List.getElem?_cons_zero]; rfl) (by kernel_rfl) (by kernel_rfl) (by kernel_rfl) (by exact fun _ _ _ h => h) (Or.inl ⟨by rfl, ?_⟩) (by assumption) ?_
  rotate_left 1
  · (intro w hSw; (try dsimp only at hSw); go_simp; try with_reducible rfl)
  try simp only [Act.put, List.setIfInBounds_toArray, List.set_cons_zero, List.set_cons_succ]
  refine wpAnyH_take (i := 4) (v := ?_) (by simp only [List.getElem?_toArray, List.getElem?_cons_succ, List.getElem?_cons_zero]; rfl) (by kernel_rfl) (by kernel_rfl) (by kernel_rfl) (by exact fun _ _ _ h => h) (Or.inl ⟨by rfl, ?_⟩) (by assumption) ?_
  rotate_left 1
  · (intro w hSw; (try dsimp only at hSw); go_simp; try with_reducible rfl)
  try simp only [Act.put, List.setIfInBounds_toArray, List.set_cons_zero, List.set_cons_succ]
  refine wpAnyH_take (i := 5) (v := ?_) (by simp only [List.getElem?_toArray, List.getElem?_cons_succ, List.getElem?_cons_zero]; rfl) (by kernel_rfl) (by kernel_rfl) (by kernel_rfl) (by exact fun _ _ _ h => h) (Or.inl ⟨by rfl, ?_⟩) (by assumption) ?_
  rotate_left 1
  · (intro w hSw; (try dsimp only at hSw); go_simp; try with_reducible rfl)
  try simp only [Act.put, List.setIfInBounds_toArray, List.set_cons_zero, List.set_cons_succ]
  refine wpAnyH_take (i := 6) (v := ?_) (by simp only [List.getElem?_toArray, List.getElem?_cons_succ, List.getElem?_cons_zero]; rfl) (by kernel_rfl) (by kernel_rfl) (by kernel_rfl) (by exact fun _ _ _ h => h) (Or.inl ⟨by rfl, ?_⟩) (by assumption) ?_
  rotate_left 1
  · (intro w hSw; (try dsimp only at hSw); go_simp; try with_reducible rfl)
  try simp only [Act.put, List.setIfInBounds_toArray, List.set_cons_zero, List.set_cons_succ]
  refine wpAnyH_take (i := 7) (v := ?_) (by simp only [List.getElem?_toArray, List.getElem?_cons_succ, List.getElem?_cons_zero]; rfl) (by kernel_rfl) (by kernel_rfl) (by kernel_rfl) (by exact fun _ _ _ h => h) (Or.inl ⟨by rfl, ?_⟩) (by assumption) ?_
  rotate_left 1
  · (intro w hSw; (try dsimp only at hSw); go_simp; try with_reducible rfl)
  try simp only [Act.put, List.setIfInBounds_toArray, List.set_cons_zero, List.set_cons_succ]
  refine wpAnyH_take (i := 8) (v := ?_) (by simp only [List.getElem?_toArray, List.getElem?_cons_succ, List.getElem?_cons_zero]; rfl) (by kernel_rfl) (by kernel_rfl) (by kernel_rfl) (by exact fun _ _ _ h => h) (Or.inl ⟨by rfl, ?_⟩) (by assumption) ?_
  rotate_left 1
  · (intro w hSw; (try dsimp only at hSw); go_simp; try with_reducible rfl)
  try simp only [Act.put, List.setIfInBounds_toArray, List.set_cons_zero, List.set_cons_succ]
  refine wpAnyH_take (i := 9) (v := ?_) (by simp only [List.getElem?_toArray, List.getElem?_cons_succ, List.getElem?_cons_zero]; rfl) (by kernel_rfl) (by kernel_rfl) (by kernel_rfl) (by exact fun _ _ _ h => h) (Or.inl ⟨by rfl, ?_⟩) (by assumption) ?_
  rotate_left 1
  · (intro w hSw; (try dsimp only at hSw); go_simp; try with_reducible rfl)
  try simp only [Act.put, List.setIfInBounds_toArray, List.set_cons_zero, List.set_cons_succ]
  refine wpAnyH_take (i := 10) (v := ?_) (by simp only [List.getElem?_toArray, List.getElem?_cons_succ, List.getElem?_cons_zero]; rfl) (by kernel_rfl) (by kernel_rfl) (by kernel_rfl) (by exact fun _ _ _ h => h) (Or.inl ⟨by rfl, ?_⟩) (by assumption) ?_
  rotate_left 1
  · (intro w hSw; (try dsimp only at hSw); go_simp; try with_reducible rfl)
  try simp only [Act.put, List.setIfInBounds_toArray, List.set_cons_zero, List.set_cons_succ]
  refine wpAnyH_take (i := 11) (v := ?_) (by simp only [List.getElem?_toArray, List.getElem?_cons_succ, List.getElem?_cons_zero]; rfl) (by kernel_rfl) (by kernel_rfl) (by kernel_rfl) (by exact fun _ _ _ h => h) (Or.inl ⟨by rfl, ?_⟩) (by assumption) ?_
  rotate_left 1
  · (intro w hSw; (try dsimp only at hSw); go_simp; try with_reducible rfl)
  try simp only [Act.put, List.setIfInBounds_toArray, List.set_cons_zero, List.set_cons_succ]
  refine wpAnyH_take (i := 12) (v := ?_) (by simp only [List.getElem?_toArray, List.getElem?_cons_succ, List.getElem?_cons_zero]; rfl) (by kernel_rfl) (by kernel_rfl) (by kernel_rfl) (by exact fun _ _ _ h => h) (Or.inl ⟨by rfl, ?_⟩) (by assumption) ?_
  rotate_left 1
  · (intro w hSw; (try dsimp only at hSw); go_simp; try with_reducible rfl)
  try simp only [Act.put, List.setIfInBounds_toArray, List.set_cons_zero, List.set_cons_succ]
  refine wpAnyH_take (i := 13) (v := ?_) (by simp only [List.getElem?_toArray, List.getElem?_cons_succ, List.getElem?_cons_zero]; rfl) (by kernel_rfl) (by kernel_rfl) (by kernel_rfl) (by exact fun _ _ _ h => h) (Or.inl ⟨by rfl, ?_⟩) (by assumption) ?_
  rotate_left 1
  · (intro w hSw; (try dsimp only at hSw); go_simp; try with_reducible rfl)
  try simp only [Act.put, List.setIfInBounds_toArray, List.set_cons_zero, List.set_cons_succ]
  refine wpAnyH_take (i := 14) (v := ?_) (by simp only [List.getElem?_toArray, List.getElem?_cons_succ, List.getElem?_cons_zero]; rfl) (by kernel_rfl) (by kernel_rfl) (by kernel_rfl) (by exact fun _ _ _ h => h) (Or.inl ⟨by rfl, ?_⟩) (by assumption) ?_
  rotate_left 1
  · (intro w hSw; (try dsimp only at hSw); go_simp; try with_reducible rfl)
  try simp only [Act.put, List.setIfInBounds_toArray, List.set_cons_zero, List.set_cons_succ]
  refine wpAnyH_take (i := 15) (v := ?_) (by simp only [List.getElem?_toArray, List.getElem?_cons_succ, List.getElem?_cons_zero]; rfl) (by kernel_rfl) (by kernel_rfl) (by kernel_rfl) (by exact fun _ _ _ h => h) (Or.inl ⟨by rfl, ?_⟩) (by assumption) ?_
  rotate_left 1
  · (intro w hSw; (try dsimp only at hSw); go_simp; try with_reducible rfl)
  try simp only [Act.put, List.setIfInBounds_toArray, List.set_cons_zero, List.set_cons_succ]
  refine wpAnyH_take (i := 16) (v := ?_) (by simp only [List.getElem?_toArray, List.getElem?_cons_succ, List.getElem?_cons_zero]; rfl) (by kernel_rfl) (by kernel_rfl) (by kernel_rfl) (by exact fun _ _ _ h => h) (Or.inl ⟨by rfl, ?_⟩) (by assumption) ?_
  rotate_left 1
  · (intro w hSw; (try dsimp only at hSw); go_simp; try with_reducible rfl)
  try simp only [Act.put, List.setIfInBounds_toArray, List.set_cons_zero, List.set_cons_succ]
  refine wpAnyH_take (i := 17) (v := ?_) (by simp only [List.getElem?_toArray, List.getElem?_cons_succ, List.getElem?_cons_zero]; rfl) (by kernel_rfl) (by kernel_rfl) (by kernel_rfl) (by exact fun _ _ _ h => h) (Or.inl ⟨by rfl, ?_⟩) (by assumption) ?_
  rotate_left 1
  · (intro w hSw; (try dsimp only at hSw); go_simp; try with_reducible rfl)
  try simp only [Act.put, List.setIfInBounds_toArray, List.set_cons_zero, List.set_cons_succ]
  refine wpAnyH_take (i := 18) (v := ?_) (by simp only [List.getElem?_toArray, List.getElem?_cons_succ, List.getElem?_cons_zero]; rfl) (by kernel_rfl) (by kernel_rfl) (by kernel_rfl) (by exact fun _ _ _ h => h) (Or.inl ⟨by rfl, ?_⟩) (by assumption) ?_
  rotate_left 1
  · (intro w hSw; (try dsimp only at hSw); go_simp; try with_reducible rfl)
  try simp only [Act.put, List.setIfInBounds_toArray, List.set_cons_zero, List.set_cons_succ]
  refine wpAnyH_take (i := 19) (v := ?_) (by simp only [List.getElem?_toArray, List.getElem?_cons_succ, List.getElem?_cons_zero]; rfl) (by kernel_rfl) (by kernel_rfl) (by kernel_rfl) (by exact fun _ _ _ h => h) (Or.inl ⟨by rfl, ?_⟩) (by assumption) ?_
  rotate_left 1
  · (intro w hSw; (try dsimp only at hSw); go_simp; try with_reducible rfl)
  try simp only [Act.put, List.setIfInBounds_toArray, List.set_cons_zero, List.set_cons_succ]
  refine wpAnyH_take (i := 20) (v := ?_) (by simp only [List.getElem?_toArray, List.getElem?_cons_succ, List.getElem?_cons_zero]; rfl) (by kernel_rfl) (by kernel_rfl) (by kernel_rfl) (by exact fun _ _ _ h => h) (Or.inl ⟨by rfl, ?_⟩) (by assumption) ?_
  rotate_left 1
  · (intro w hSw; (try dsimp only at hSw); go_simp; try with_reducible rfl)
  try simp only [Act.put, List.setIfInBounds_toArray, List.set_cons_zero, List.set_cons_succ]
  refine wpAnyH_take (i := 21) (v := ?_) (by simp only [List.getElem?_toArray, List.getElem?_cons_succ, List.getElem?_cons_zero]; rfl) (by kernel_rfl) (by kernel_rfl) (by kernel_rfl) (by exact fun _ _ _ h => h) (Or.inl ⟨by rfl, ?_⟩) (by assumption) ?_
  rotate_left 1
  · (intro w hSw; (try dsimp only at hSw); go_simp; try with_reducible rfl)
  try simp only [Act.put, List.setIfInBounds_toArray, List.set_cons_zero, List.set_cons_succ]
  refine wpAnyH_take (i := 23) (v := ?_) (by simp only [List.getElem?_toArray, List.getElem?_cons_succ, List.getElem?_cons_zero]; rfl) (by kernel_rfl) (by kernel_rfl) (by kernel_rfl) (by exact fun _ _ _ h => h) (Or.inl ⟨by rfl, ?_⟩) (by assumption) ?_
  rotate_left 1
  · (intro w hSw; (try dsimp only at hSw); go_simp; try with_reducible rfl)
  try simp only [Act.put, List.setIfInBounds_toArray, List.set_cons_zero, List.set_cons_succ]
  refine wpAnyH_take (i := 24) (v := ?_) (by simp only [List.getElem?_toArray, List.getElem?_cons_succ, List.getElem?_cons_zero]; rfl) (by kernel_rfl) (by kernel_rfl) (by kernel_rfl) (by exact fun _ _ _ h => h) (Or.inl ⟨by rfl, ?_⟩) (by assumption) ?_
  rotate_left 1
  · (intro w hSw; (try dsimp only at hSw); go_simp; try with_reducible rfl)
  try simp only [Act.put, List.setIfInBounds_toArray, List.set_cons_zero, List.set_cons_succ]
  refine wpAnyH_take (i := 25) (v := ?_) (by simp only [List.getElem?_toArray, List.getElem?_cons_succ, List.getElem?_cons_zero]; rfl) (by kernel_rfl) (by kernel_rfl) (by kernel_rfl) (by exact fun _ _ _ h => h) (Or.inl ⟨by rfl, ?_⟩) (by assumption) ?_
  rotate_left 1
  · (intro w hSw; (try dsimp only at hSw); go_simp; try with_reducible rfl)
  try simp only [Act.put, List.setIfInBounds_toArray, List.set_cons_zero, List.set_cons_succ]
  refine wpAnyH_ready (rs := [22]) (by kernel_rfl) (by simp) ?_
  refine AllReadyH.cons (by simp only [List.getElem?_toArray, List.getElem?_cons_succ, List.getElem?_cons_zero]; rfl) (fun K hK => ?_) AllReadyH.nil
  go_simp
  (rw [← hv5]; refine (CL.out _ HH5.out.hp).mono ?_; rintro e v6 ⟨rfl, hq6⟩; have HQ6 := Lib.hid hq6; clear hq6)
  go_wp2_with fail
  refine hK.out _ _ ?_ (fun hHeld2 => ?_)
  · exact HF.out _ HQ6.out
  clear hK K
  try simp only [Act.put, List.setIfInBounds_toArray, List.set_cons_zero, List.set_cons_succ]
  clear hHeld
  have hHeld := hHeld2
  clear hHeld2
  refine wpAnyH_ready (rs := [26]) (by kernel_rfl) (by simp) ?_
  refine AllReadyH.cons (by simp only [List.getElem?_toArray, List.getElem?_cons_succ, List.getElem?_cons_zero]; rfl) (fun K hK => ?_) AllReadyH.nil
  go_simp
  (refine (CM.out _ (HH5.out.only HQ6.out (fun _ _ h => h)).hr).mono ?_; rintro e v7 ⟨rfl, hq7⟩; subst hq7)
  go_wp2_with fail
  refine hK.out _ _ ?_ (fun hHeld2 => ?_)
  · exact HF.out _ HQ6.out
  clear hK K
  try simp only [Act.put, List.setIfInBounds_toArray, List.set_cons_zero, List.set_cons_succ]
  clear hHeld
  have hHeld := hHeld2
  clear hHeld2
  refine wpAnyH_take (i := 27) (v := ?_) (by simp only [List.getElem?_toArray, List.getElem?_cons_succ, List.getElem?_cons_zero]; rfl) (by kernel_rfl) (by kernel_rfl) (by kernel_rfl) (by exact fun _ _ _ h => h) (Or.inl ⟨by rfl, ?_⟩) (by assumption) ?_
  rotate_left 1
  · (intro w hSw; (try dsimp only at hSw); go_simp; try with_reducible rfl)
  try simp only [Act.put, List.setIfInBounds_toArray, List.set_cons_zero, List.set_cons_succ]
  refine wpAnyH_take (i := 28) (v := ?_) (by simp only [List.getElem?_toArray, List.getElem?_cons_succ, List.getElem?_cons_zero]; rfl) (by kernel_rfl) (by kernel_rfl) (by kernel_rfl) (by exact fun _ _ _ h => h) (Or.inl ⟨by rfl, ?_⟩) (by assumption) ?_
  rotate_left 1
  · (intro w hSw; (try dsimp only at hSw); go_simp; try with_reducible rfl)
  try simp only [Act.put, List.setIfInBounds_toArray, List.set_cons_zero, List.set_cons_succ]
  refine wpAnyH_take (i := 29) (v := ?_) (by simp only [List.getElem?_toArray, List.getElem?_cons_succ, List.getElem?_cons_zero]; rfl) (by kernel_rfl) (by kernel_rfl) (by kernel_rfl) (by exact fun _ _ _ h => h) (Or.inl ⟨by rfl, ?_⟩) (by assumption) ?_
  rotate_left 1
  · (intro w hSw; (try dsimp only at hSw); go_simp; try with_reducible rfl)
  try simp only [Act.put, List.setIfInBounds_toArray, List.set_cons_zero, List.set_cons_succ]
  refine wpAnyH_done (by kernel_rfl) ?_ _
  go_wp2
  go_ret
  exact ⟨rfl, G, H, HH5.out.only HQ6.out (fun _ _ h => h), fun k hk => .inl hk, ((HO.out.trans HO5.out (fun _ h _ => h)).trans HQ6.out (fun _ h _ => h)).mono (fun _ h _ => h.elim)⟩
end Go.Proofs.Ytebeoganblcblaa
