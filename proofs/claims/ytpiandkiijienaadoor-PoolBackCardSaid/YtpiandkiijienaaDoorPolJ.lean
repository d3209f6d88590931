/- The document's own read: a constant's bytes behind its tag. No condition. -/
import Derived.Test.YtpiandkiijienaaDoorPolG
import Derived.Test.YtpiandkiijienaaDoorRefR
import Derived.Test.YtpiandkiijienaaDoorTxtM
import Derived.WalkKit
namespace Go.Proofs.YtpiandkiijienaaDoor
open Go.RowKit
set_option linter.unusedVariables false
set_option linter.unusedSimpArgs false

/-- A block that holds one constant. -/
def C5 (w : World) (b : Nat) (c : ConstV) : Prop := w.heap[b]? = some (.cells #[.int .i64 c.tag, .string c.text, .int .i64 c.n, .int .i64 c.a, .int .i64 c.b] 45 (0, 0))
theorem C5.cells {w : World} {b : Nat} {c : ConstV} (h : C5 w b c) : w.cell? ⟨b, 0, none⟩ = some (.int .i64 c.tag) ∧ w.cell? ⟨b, 1, none⟩ = some (.string c.text) ∧ w.cell? ⟨b, 2, none⟩ = some (.int .i64 c.n) ∧ w.cell? ⟨b, 3, none⟩ = some (.int .i64 c.a) ∧ w.cell? ⟨b, 4, none⟩ = some (.int .i64 c.b) :=
  ⟨by rw [cell_blk h]; rfl, by rw [cell_blk h]; rfl, by rw [cell_blk h]; rfl, by rw [cell_blk h]; rfl, by rw [cell_blk h]; rfl⟩
theorem C5.free {w : World} {b : Nat} {c : ConstV} (h : C5 w b c) : w.frozen? ⟨b, 0, none⟩ = false ∧ w.frozen? ⟨b, 1, none⟩ = false ∧ w.frozen? ⟨b, 2, none⟩ = false ∧ w.frozen? ⟨b, 3, none⟩ = false ∧ w.frozen? ⟨b, 4, none⟩ = false :=
  ⟨frozen_blk h 0, frozen_blk h 1, frozen_blk h 2, frozen_blk h 3, frozen_blk h 4⟩
/-- What read leaves. -/
def ReadTo (w : World) (rb : Nat) (v : Value) (zs : List Int) (k : Nat) (tag : Int) (e : Ending) (w' : World) : Prop :=
  ∃ c k' e0, e = .returned (.tuple #[.agg #[.int .i64 c.tag, .string c.text, .int .i64 c.n, .int .i64 c.a, .int .i64 c.b], .int .i64 e0]) ∧ RdC zs k tag c k' e0 ∧ Only (fun j => j = rb) w w' ∧ (e0 = 0 → Rf w' rb v zs k')

theorem uAt_lt {zs : List Int} (hz : Bytish zs) (k n : Nat) (h : k + n ≤ zs.length) : 0 ≤ uAt zs k n ∧ uAt zs k n < 256 ^ n := valB_lt n _ (by simp; omega) ((hz.drop k).take n)
theorem Rf.bytish {w : World} {rb : Nat} {v : Value} {zs : List Int} {k : Nat} (h : Rf w rb v zs k) : Bytish zs := by obtain ⟨_, _, _, _, _, _, h, _⟩ := h.byt; exact h
theorem C5.only {S : Nat → Prop} {w w' : World} {b : Nat} {c : ConstV} (h : C5 w b c) (ho : Only S w w') (hs : ¬ S b) : C5 w' b c := ho.heap h hs

theorem rfU_ok (rb : Nat) (v : Value) (zs : List Int) (k n : Nat) (w : World) (h : Rf w rb v zs k) (hn1 : 1 ≤ n) (hn8 : n ≤ 8) (hroom : k + n ≤ zs.length) :
    Calls Tryd.prog 31 #[.pointer (some ⟨rb, 0, none⟩), .int .i64 n] w fun e w' => e = .returned (.tuple #[.int .u64 (uAt zs k n), .int .i64 0]) ∧ RfTo w rb v zs (k + n) w' := rfUintOk rb v zs k n w h hn1 hn8 hroom
theorem rfU_short (rb : Nat) (v : Value) (zs : List Int) (k n : Nat) (w : World) (h : Rf w rb v zs k) (hn1 : 1 ≤ n) (hn8 : n ≤ 8) (hroom : zs.length < k + n) :
    Calls Tryd.prog 31 #[.pointer (some ⟨rb, 0, none⟩), .int .i64 n] w fun e w' => e = .returned (.tuple #[.int .u64 0, .int .i64 3]) ∧ RfTo w rb v zs k w' := by
  have he : rdErr0 n ((zs.length : Int) - k) = 3 := by unfold rdErr0; rw [if_neg (by omega), if_pos (by omega)]
  have := rfUintErr rb v zs k n w h (by rw [he]; decide)
  rw [he] at this
  exact this.mono fun e w' hh => ⟨hh.1, RfTo.of_drawn h hh.2⟩
theorem rfI_ok (rb : Nat) (v : Value) (zs : List Int) (k n : Nat) (w : World) (h : Rf w rb v zs k) (hn1 : 1 ≤ n) (hn8 : n ≤ 8) (hroom : k + n ≤ zs.length) :
    Calls Tryd.prog 54 #[.pointer (some ⟨rb, 0, none⟩), .int .i64 n] w fun e w' => e = .returned (.tuple #[.int .i64 (sgn n (uAt zs k n)), .int .i64 0]) ∧ RfTo w rb v zs (k + n) w' := by
  have he : rdErr0 n ((zs.length : Int) - k) = 0 := by unfold rdErr0; rw [if_neg (by omega), if_neg (by omega)]
  have := rfInt rb v zs k n w h
  rw [he] at this
  simp only [rdI, rdK, if_true, Int.toNat_natCast] at this
  exact this
theorem rfI_short (rb : Nat) (v : Value) (zs : List Int) (k n : Nat) (w : World) (h : Rf w rb v zs k) (hn1 : 1 ≤ n) (hn8 : n ≤ 8) (hroom : zs.length < k + n) :
    Calls Tryd.prog 54 #[.pointer (some ⟨rb, 0, none⟩), .int .i64 n] w fun e w' => e = .returned (.tuple #[.int .i64 0, .int .i64 3]) ∧ RfTo w rb v zs k w' := by
  have he : rdErr0 n ((zs.length : Int) - k) = 3 := by unfold rdErr0; rw [if_neg (by omega), if_pos (by omega)]
  have := rfInt rb v zs k n w h
  rw [he] at this
  simp only [rdI, rdK, show ¬ ((3 : Int) = 0) by decide, if_false] at this
  exact this
theorem rfB_ok (rb : Nat) (v : Value) (zs : List Int) (k n : Nat) (w : World) (h : Rf w rb v zs k) (hroom : k + n ≤ zs.length) :
    Calls Tryd.prog 52 #[.pointer (some ⟨rb, 0, none⟩), .int .i64 n] w fun e w' => ∃ v', e = .returned (.tuple #[v', .int .i64 0]) ∧ RfTo w rb v zs (k + n) w' ∧ Row w' w.heap.size v' ((zs.drop k).take n) := by
  have he : rdErr1 n ((zs.length : Int) - k) = 0 := by unfold rdErr1; rw [if_neg (by omega), if_neg (by omega)]
  have := rfBytes rb v zs k n w h
  rw [he] at this
  simp only [rdPart, rdK, if_true, Int.toNat_natCast] at this
  exact this
theorem rfB_short (rb : Nat) (v : Value) (zs : List Int) (k n : Nat) (w : World) (h : Rf w rb v zs k) (hroom : zs.length < k + n) :
    Calls Tryd.prog 52 #[.pointer (some ⟨rb, 0, none⟩), .int .i64 n] w fun e w' => ∃ v', e = .returned (.tuple #[v', .int .i64 3]) ∧ RfTo w rb v zs k w' := by
  have he : rdErr1 n ((zs.length : Int) - k) = 3 := by unfold rdErr1; rw [if_neg (by omega), if_pos (by omega)]
  have := rfBytes rb v zs k n w h
  rw [he] at this
  simp only [rdPart, rdK, show ¬ ((3 : Int) = 0) by decide, if_false] at this
  exact this.mono fun e w' ⟨v', h1, h2, _⟩ => ⟨v', h1, h2⟩

/-- The world in which read's two constants are laid: the result's, the one that is filled. -/
theorem Rf.two {w : World} {rb : Nat} {v : Value} {zs : List Int} {k : Nat} (h : Rf w rb v zs k) (a b : Obj) : Rf ((w.alloc a).alloc b) rb v zs k :=
  h.only (((Only.refl (fun _ => False) w).alloc a).alloc b) (fun h => h) (fun _ _ _ h => h)
theorem two_left {w w1 : World} {rb : Nat} (hrb : rb < w.heap.size) (c d : ConstV) (h : Only (fun j => j = rb) ((w.alloc (.cells #[.int .i64 c.tag, .string c.text, .int .i64 c.n, .int .i64 c.a, .int .i64 c.b] 45)).alloc (.cells #[.int .i64 d.tag, .string d.text, .int .i64 d.n, .int .i64 d.a, .int .i64 d.b] 45)) w1) :
    C5 w1 w.heap.size c ∧ C5 w1 (w.heap.size + 1) d ∧ Only (fun j => j = rb) w w1 := by
  have h1 : C5 ((w.alloc (.cells #[.int .i64 c.tag, .string c.text, .int .i64 c.n, .int .i64 c.a, .int .i64 c.b] 45)).alloc (.cells #[.int .i64 d.tag, .string d.text, .int .i64 d.n, .int .i64 d.a, .int .i64 d.b] 45)) w.heap.size c :=
    ((Only.refl (fun _ => False) _).alloc _).heap (heap_alloc_new w _) (fun h => h)
  have h2 : C5 ((w.alloc (.cells #[.int .i64 c.tag, .string c.text, .int .i64 c.n, .int .i64 c.a, .int .i64 c.b] 45)).alloc (.cells #[.int .i64 d.tag, .string d.text, .int .i64 d.n, .int .i64 d.a, .int .i64 d.b] 45)) (w.heap.size + 1) d := by
    have := heap_alloc_new (w.alloc (.cells #[.int .i64 c.tag, .string c.text, .int .i64 c.n, .int .i64 c.a, .int .i64 c.b] 45)) (.cells #[.int .i64 d.tag, .string d.text, .int .i64 d.n, .int .i64 d.a, .int .i64 d.b] 45)
    rwa [show (w.alloc (.cells #[.int .i64 c.tag, .string c.text, .int .i64 c.n, .int .i64 c.a, .int .i64 c.b] 45)).heap.size = w.heap.size + 1 by simp] at this
  exact ⟨h.heap h1 (by omega), h.heap h2 (by omega), (((Only.refl _ w).alloc _).alloc _).trans h (fun _ h _ => h)⟩
/-- What was written behind the reader's call does not touch the reader. -/
theorem Rf.high {w w1 w' : World} {rb : Nat} {v : Value} {zs : List Int} {k k' : Nat} (h0 : Rf w rb v zs k) (h : Rf w1 rb v zs k') (ho : Only (fun j => w.heap.size ≤ j) w1 w') : Rf w' rb v zs k' :=
  h.only ho (by have := h0.lt; omega) (fun b hb hz => by have := h0.byt.lt b hb hz; omega)

set_option maxHeartbeats 2000000 in
set_option maxRecDepth 100000 in
theorem refReadNone (rb : Nat) (v : Value) (zs : List Int) (k : Nat) (tag : Int) (w : World) (h : Rf w rb v zs k) (h1 : tag ≠ 1) (h3 : tag ≠ 3) (h5 : tag ≠ 5) (h7 : tag ≠ 7) (h9 : ¬ (tag = 9 ∨ tag = 10 ∨ tag = 12)) :
    Calls Tryd.prog 32 #[.pointer (some ⟨rb, 0, none⟩), .int .i64 tag] w (ReadTo w rb v zs k tag) := by
  have hrd : RdC zs k tag ⟨tag, noText, 0, 0, 0⟩ k 40 := by unfold RdC; rw [if_neg h1, if_neg h3, if_neg h5, if_neg h7, if_neg h9]
  have b1 : (tag == 1) = false := by simpa using h1
  have b3 : (tag == 3) = false := by simpa using h3
  have b5 : (tag == 5) = false := by simpa using h5
  have b7 : (tag == 7) = false := by simpa using h7
  have b9 : (tag == 9) = false := by simp only [beq_eq_false_iff_ne]; omega
  have b10 : (tag == 10) = false := by simp only [beq_eq_false_iff_ne]; omega
  have b12 : (tag == 12) = false := by simp only [beq_eq_false_iff_ne]; omega
  clear h1 h3 h5 h7 h9
  go_enter Tryd.func32, Tryd.ntmps32
  go_wp2
  have hC : C5 ((w.alloc (.cells #[.int .i64 tag, .string { data := #[] }, .int .i64 0, .int .i64 0, .int .i64 0] 45)).alloc (.cells #[.int .i64 tag, .string { data := #[] }, .int .i64 0, .int .i64 0, .int .i64 0] 45)) w.heap.size ⟨tag, noText, 0, 0, 0⟩ :=
    ((Only.refl (fun _ => False) _).alloc _).heap (heap_alloc_new w _) (fun h => h)
  obtain ⟨k0, k1, k2, k3, k4⟩ := hC.cells
  refine bodyPost_ret (v := .tuple #[.agg #[.int .i64 tag, .string noText, .int .i64 0, .int .i64 0, .int .i64 0], .int .i64 40]) (by simp [results, Tryd.results32, go_sem, noText]) rfl ?_
  exact ⟨_, k, 40, rfl, hrd, ((Only.refl _ w).alloc _).alloc _, fun h => absurd h (by decide)⟩

set_option maxHeartbeats 4000000 in
set_option maxRecDepth 100000 in
theorem refReadIntOk (rb : Nat) (v : Value) (zs : List Int) (k : Nat) (w : World) (h : Rf w rb v zs k) (hk : k + 4 ≤ zs.length) :
    Calls Tryd.prog 32 #[.pointer (some ⟨rb, 0, none⟩), .int .i64 3] w (ReadTo w rb v zs k 3) := by
  have hrd : RdC zs k 3 ⟨3, noText, (sgn 4 (uAt zs k 4)), 0, 0⟩ (k + 4) 0 := by
    unfold RdC
    rw [if_neg (by decide), if_pos rfl]
    exact .inr ⟨hk, rfl, rfl, rfl⟩
  have Hrd := Lib.hid hrd
  have hrb := h.lt
  clear hrd
  go_enter Tryd.func32, Tryd.ntmps32
  go_wp2_with (go_at_call 54; refine (rfI_ok rb v zs k 4 _ (h.two _ _) (by decide) (by decide) (by omega)).mono ?_; rintro e w1 ⟨rfl, hto⟩; obtain ⟨hA, hB, ho1⟩ := two_left hrb ⟨0, noText, 0, 0, 0⟩ ⟨3, noText, 0, 0, 0⟩ hto.2; obtain ⟨k0, k1, k2, k3, k4⟩ := hA.cells; obtain ⟨l0, l1, l2, l3, l4⟩ := hB.cells; obtain ⟨f0, f1, f2, f3, f4⟩ := hA.free; obtain ⟨g0, g1, g2, g3, g4⟩ := hB.free)
  refine bodyPost_ret (v := .tuple #[.agg #[.int .i64 3, .string noText, .int .i64 (sgn 4 (uAt zs k 4)), .int .i64 0, .int .i64 0], .int .i64 0]) (by simp [results, Tryd.results32, go_sem, noText, k0, k1, k2, k3, k4, l0, l1, l2, l3, l4]) rfl ?_
  refine ⟨⟨3, noText, (sgn 4 (uAt zs k 4)), 0, 0⟩, k + 4, 0, rfl, Hrd.out, ?_, fun hh => ?_⟩
  · repeat (refine Only.setCell ?_ (fun hl => absurd hl (by simp)) _)
    exact ho1
  · refine h.high hto.1 ?_
    repeat (refine Only.setCell ?_ (fun _ => by simp) _)
    exact Only.refl _ _


set_option maxHeartbeats 4000000 in
set_option maxRecDepth 100000 in
theorem refReadIntShort (rb : Nat) (v : Value) (zs : List Int) (k : Nat) (w : World) (h : Rf w rb v zs k) (hk : zs.length < k + 4) :
    Calls Tryd.prog 32 #[.pointer (some ⟨rb, 0, none⟩), .int .i64 3] w (ReadTo w rb v zs k 3) := by
  have hrd : RdC zs k 3 ⟨3, noText, 0, 0, 0⟩ k 3 := by
    unfold RdC
    rw [if_neg (by decide), if_pos rfl]
    exact .inl ⟨hk, rfl⟩
  have Hrd := Lib.hid hrd
  have hrb := h.lt
  clear hrd
  go_enter Tryd.func32, Tryd.ntmps32
  go_wp2_with (go_at_call 54; refine (rfI_short rb v zs k 4 _ (h.two _ _) (by decide) (by decide) (by omega)).mono ?_; rintro e w1 ⟨rfl, hto⟩; obtain ⟨hA, hB, ho1⟩ := two_left hrb ⟨0, noText, 0, 0, 0⟩ ⟨3, noText, 0, 0, 0⟩ hto.2; obtain ⟨k0, k1, k2, k3, k4⟩ := hA.cells; obtain ⟨l0, l1, l2, l3, l4⟩ := hB.cells; obtain ⟨f0, f1, f2, f3, f4⟩ := hA.free; obtain ⟨g0, g1, g2, g3, g4⟩ := hB.free)
  refine bodyPost_ret (v := .tuple #[.agg #[.int .i64 3, .string noText, .int .i64 0, .int .i64 0, .int .i64 0], .int .i64 3]) (by simp [results, Tryd.results32, go_sem, noText, k0, k1, k2, k3, k4, l0, l1, l2, l3, l4]) rfl ?_
  refine ⟨⟨3, noText, 0, 0, 0⟩, k, 3, rfl, Hrd.out, ?_, fun hh => ?_⟩
  · repeat (refine Only.setCell ?_ (fun hl => absurd hl (by simp)) _)
    exact ho1
  · exact absurd hh (by decide)


set_option maxHeartbeats 4000000 in
set_option maxRecDepth 100000 in
theorem refReadLongOk (rb : Nat) (v : Value) (zs : List Int) (k : Nat) (w : World) (h : Rf w rb v zs k) (hk : k + 8 ≤ zs.length) :
    Calls Tryd.prog 32 #[.pointer (some ⟨rb, 0, none⟩), .int .i64 5] w (ReadTo w rb v zs k 5) := by
  have hrd : RdC zs k 5 ⟨5, noText, (sgn 8 (uAt zs k 8)), 0, 0⟩ (k + 8) 0 := by
    unfold RdC
    rw [if_neg (by decide), if_neg (by decide), if_pos rfl]
    exact .inr ⟨hk, rfl, rfl, rfl⟩
  have Hrd := Lib.hid hrd
  have hrb := h.lt
  clear hrd
  go_enter Tryd.func32, Tryd.ntmps32
  go_wp2_with (go_at_call 54; refine (rfI_ok rb v zs k 8 _ (h.two _ _) (by decide) (by decide) (by omega)).mono ?_; rintro e w1 ⟨rfl, hto⟩; obtain ⟨hA, hB, ho1⟩ := two_left hrb ⟨0, noText, 0, 0, 0⟩ ⟨5, noText, 0, 0, 0⟩ hto.2; obtain ⟨k0, k1, k2, k3, k4⟩ := hA.cells; obtain ⟨l0, l1, l2, l3, l4⟩ := hB.cells; obtain ⟨f0, f1, f2, f3, f4⟩ := hA.free; obtain ⟨g0, g1, g2, g3, g4⟩ := hB.free)
  refine bodyPost_ret (v := .tuple #[.agg #[.int .i64 5, .string noText, .int .i64 (sgn 8 (uAt zs k 8)), .int .i64 0, .int .i64 0], .int .i64 0]) (by simp [results, Tryd.results32, go_sem, noText, k0, k1, k2, k3, k4, l0, l1, l2, l3, l4]) rfl ?_
  refine ⟨⟨5, noText, (sgn 8 (uAt zs k 8)), 0, 0⟩, k + 8, 0, rfl, Hrd.out, ?_, fun hh => ?_⟩
  · repeat (refine Only.setCell ?_ (fun hl => absurd hl (by simp)) _)
    exact ho1
  · refine h.high hto.1 ?_
    repeat (refine Only.setCell ?_ (fun _ => by simp) _)
    exact Only.refl _ _


set_option maxHeartbeats 4000000 in
set_option maxRecDepth 100000 in
theorem refReadLongShort (rb : Nat) (v : Value) (zs : List Int) (k : Nat) (w : World) (h : Rf w rb v zs k) (hk : zs.length < k + 8) :
    Calls Tryd.prog 32 #[.pointer (some ⟨rb, 0, none⟩), .int .i64 5] w (ReadTo w rb v zs k 5) := by
  have hrd : RdC zs k 5 ⟨5, noText, 0, 0, 0⟩ k 3 := by
    unfold RdC
    rw [if_neg (by decide), if_neg (by decide), if_pos rfl]
    exact .inl ⟨hk, rfl⟩
  have Hrd := Lib.hid hrd
  have hrb := h.lt
  clear hrd
  go_enter Tryd.func32, Tryd.ntmps32
  go_wp2_with (go_at_call 54; refine (rfI_short rb v zs k 8 _ (h.two _ _) (by decide) (by decide) (by omega)).mono ?_; rintro e w1 ⟨rfl, hto⟩; obtain ⟨hA, hB, ho1⟩ := two_left hrb ⟨0, noText, 0, 0, 0⟩ ⟨5, noText, 0, 0, 0⟩ hto.2; obtain ⟨k0, k1, k2, k3, k4⟩ := hA.cells; obtain ⟨l0, l1, l2, l3, l4⟩ := hB.cells; obtain ⟨f0, f1, f2, f3, f4⟩ := hA.free; obtain ⟨g0, g1, g2, g3, g4⟩ := hB.free)
  refine bodyPost_ret (v := .tuple #[.agg #[.int .i64 5, .string noText, .int .i64 0, .int .i64 0, .int .i64 0], .int .i64 3]) (by simp [results, Tryd.results32, go_sem, noText, k0, k1, k2, k3, k4, l0, l1, l2, l3, l4]) rfl ?_
  refine ⟨⟨5, noText, 0, 0, 0⟩, k, 3, rfl, Hrd.out, ?_, fun hh => ?_⟩
  · repeat (refine Only.setCell ?_ (fun hl => absurd hl (by simp)) _)
    exact ho1
  · exact absurd hh (by decide)


set_option maxHeartbeats 4000000 in
set_option maxRecDepth 100000 in
theorem refReadClassOk (rb : Nat) (v : Value) (zs : List Int) (k : Nat) (w : World) (h : Rf w rb v zs k) (hk : k + 2 ≤ zs.length) :
    Calls Tryd.prog 32 #[.pointer (some ⟨rb, 0, none⟩), .int .i64 7] w (ReadTo w rb v zs k 7) := by
  have hrd : RdC zs k 7 ⟨7, noText, 0, (uAt zs k 2), 0⟩ (k + 2) 0 := by
    unfold RdC
    rw [if_neg (by decide), if_neg (by decide), if_neg (by decide), if_pos rfl]
    exact .inr ⟨hk, rfl, rfl, rfl⟩
  have Hrd := Lib.hid hrd
  have hrb := h.lt
  have hub := uAt_lt h.bytish k 2 (by omega)
  simp only [Int.reducePow] at hub
  obtain ⟨hu0a, hu1a⟩ := hub
  clear hrd
  go_enter Tryd.func32, Tryd.ntmps32
  go_wp2_with (go_at_call 31; refine (rfU_ok rb v zs k 2 _ (h.two _ _) (by decide) (by decide) (by omega)).mono ?_; rintro e w1 ⟨rfl, hto⟩; obtain ⟨hA, hB, ho1⟩ := two_left hrb ⟨0, noText, 0, 0, 0⟩ ⟨7, noText, 0, 0, 0⟩ hto.2; obtain ⟨k0, k1, k2, k3, k4⟩ := hA.cells; obtain ⟨l0, l1, l2, l3, l4⟩ := hB.cells; obtain ⟨f0, f1, f2, f3, f4⟩ := hA.free; obtain ⟨g0, g1, g2, g3, g4⟩ := hB.free)
  refine bodyPost_ret (v := .tuple #[.agg #[.int .i64 7, .string noText, .int .i64 0, .int .i64 (uAt zs k 2), .int .i64 0], .int .i64 0]) (by simp [results, Tryd.results32, go_sem, noText, k0, k1, k2, k3, k4, l0, l1, l2, l3, l4]) rfl ?_
  refine ⟨⟨7, noText, 0, (uAt zs k 2), 0⟩, k + 2, 0, rfl, Hrd.out, ?_, fun hh => ?_⟩
  · repeat (refine Only.setCell ?_ (fun hl => absurd hl (by simp)) _)
    exact ho1
  · refine h.high hto.1 ?_
    repeat (refine Only.setCell ?_ (fun _ => by simp) _)
    exact Only.refl _ _


set_option maxHeartbeats 4000000 in
set_option maxRecDepth 100000 in
theorem refReadClassShort (rb : Nat) (v : Value) (zs : List Int) (k : Nat) (w : World) (h : Rf w rb v zs k) (hk : zs.length < k + 2) :
    Calls Tryd.prog 32 #[.pointer (some ⟨rb, 0, none⟩), .int .i64 7] w (ReadTo w rb v zs k 7) := by
  have hrd : RdC zs k 7 ⟨7, noText, 0, 0, 0⟩ k 3 := by
    unfold RdC
    rw [if_neg (by decide), if_neg (by decide), if_neg (by decide), if_pos rfl]
    exact .inl ⟨hk, rfl⟩
  have Hrd := Lib.hid hrd
  have hrb := h.lt
  clear hrd
  go_enter Tryd.func32, Tryd.ntmps32
  go_wp2_with (go_at_call 31; refine (rfU_short rb v zs k 2 _ (h.two _ _) (by decide) (by decide) (by omega)).mono ?_; rintro e w1 ⟨rfl, hto⟩; obtain ⟨hA, hB, ho1⟩ := two_left hrb ⟨0, noText, 0, 0, 0⟩ ⟨7, noText, 0, 0, 0⟩ hto.2; obtain ⟨k0, k1, k2, k3, k4⟩ := hA.cells; obtain ⟨l0, l1, l2, l3, l4⟩ := hB.cells; obtain ⟨f0, f1, f2, f3, f4⟩ := hA.free; obtain ⟨g0, g1, g2, g3, g4⟩ := hB.free)
  refine bodyPost_ret (v := .tuple #[.agg #[.int .i64 7, .string noText, .int .i64 0, .int .i64 0, .int .i64 0], .int .i64 3]) (by simp [results, Tryd.results32, go_sem, noText, k0, k1, k2, k3, k4, l0, l1, l2, l3, l4]) rfl ?_
  refine ⟨⟨7, noText, 0, 0, 0⟩, k, 3, rfl, Hrd.out, ?_, fun hh => ?_⟩
  · repeat (refine Only.setCell ?_ (fun hl => absurd hl (by simp)) _)
    exact ho1
  · exact absurd hh (by decide)


set_option maxHeartbeats 4000000 in
set_option maxRecDepth 100000 in
theorem refReadPair9Short (rb : Nat) (v : Value) (zs : List Int) (k : Nat) (w : World) (h : Rf w rb v zs k) (hk : zs.length < k + 2) :
    Calls Tryd.prog 32 #[.pointer (some ⟨rb, 0, none⟩), .int .i64 9] w (ReadTo w rb v zs k 9) := by
  have hrd : RdC zs k 9 ⟨9, noText, 0, 0, 0⟩ k 3 := by
    unfold RdC
    rw [if_neg (by decide), if_neg (by decide), if_neg (by decide), if_neg (by decide), if_pos (by decide)]
    exact .inl ⟨by omega, rfl⟩
  have Hrd := Lib.hid hrd
  have hrb := h.lt
  clear hrd
  go_enter Tryd.func32, Tryd.ntmps32
  go_wp2_with (go_at_call 31; refine (rfU_short rb v zs k 2 _ (h.two _ _) (by decide) (by decide) (by omega)).mono ?_; rintro e w1 ⟨rfl, hto⟩; obtain ⟨hA, hB, ho1⟩ := two_left hrb ⟨0, noText, 0, 0, 0⟩ ⟨9, noText, 0, 0, 0⟩ hto.2; obtain ⟨k0, k1, k2, k3, k4⟩ := hA.cells; obtain ⟨l0, l1, l2, l3, l4⟩ := hB.cells; obtain ⟨f0, f1, f2, f3, f4⟩ := hA.free; obtain ⟨g0, g1, g2, g3, g4⟩ := hB.free)
  refine bodyPost_ret (v := .tuple #[.agg #[.int .i64 9, .string noText, .int .i64 0, .int .i64 0, .int .i64 0], .int .i64 3]) (by simp [results, Tryd.results32, go_sem, noText, k0, k1, k2, k3, k4, l0, l1, l2, l3, l4]) rfl ?_
  refine ⟨⟨9, noText, 0, 0, 0⟩, k, 3, rfl, Hrd.out, ?_, fun hh => ?_⟩
  · repeat (refine Only.setCell ?_ (fun hl => absurd hl (by simp)) _)
    exact ho1
  · exact absurd hh (by decide)


set_option maxHeartbeats 4000000 in
set_option maxRecDepth 100000 in
theorem refReadPair9Cut (rb : Nat) (v : Value) (zs : List Int) (k : Nat) (w : World) (h : Rf w rb v zs k) (hk : k + 2 ≤ zs.length) (hk2 : zs.length < k + 4) :
    Calls Tryd.prog 32 #[.pointer (some ⟨rb, 0, none⟩), .int .i64 9] w (ReadTo w rb v zs k 9) := by
  have hrd : RdC zs k 9 ⟨9, noText, 0, (uAt zs k 2), 0⟩ k 3 := by
    unfold RdC
    rw [if_neg (by decide), if_neg (by decide), if_neg (by decide), if_neg (by decide), if_pos (by decide)]
    exact .inl ⟨by omega, rfl⟩
  have Hrd := Lib.hid hrd
  have hrb := h.lt
  have hub := uAt_lt h.bytish k 2 (by omega)
  simp only [Int.reducePow] at hub
  obtain ⟨hu0a, hu1a⟩ := hub
  clear hrd
  go_enter Tryd.func32, Tryd.ntmps32
  go_wp2_with (fail)
  refine (rfU_ok rb v zs k 2 _ (h.two _ _) (by decide) (by decide) (by omega)).mono ?_
  rintro e w1 ⟨rfl, hto⟩
  obtain ⟨hA, hB, ho1⟩ := two_left hrb ⟨0, noText, 0, 0, 0⟩ ⟨9, noText, 0, 0, 0⟩ hto.2
  obtain ⟨k0, k1, k2, k3, k4⟩ := hA.cells; obtain ⟨l0, l1, l2, l3, l4⟩ := hB.cells; obtain ⟨f0, f1, f2, f3, f4⟩ := hA.free; obtain ⟨g0, g1, g2, g3, g4⟩ := hB.free
  go_wp2_with (fail)
  refine (rfU_short rb v zs (k + 2) 2 _ hto.1 (by decide) (by decide) (by omega)).mono ?_
  rintro e w2 ⟨rfl, hto2⟩
  clear k0 k1 k2 k3 k4 l0 l1 l2 l3 l4 f0 f1 f2 f3 f4 g0 g1 g2 g3 g4
  have hA2 := hA.only hto2.2 (by omega); have hB2 := hB.only hto2.2 (by omega); obtain ⟨k0, k1, k2, k3, k4⟩ := hA2.cells; obtain ⟨l0, l1, l2, l3, l4⟩ := hB2.cells; obtain ⟨f0, f1, f2, f3, f4⟩ := hA2.free; obtain ⟨g0, g1, g2, g3, g4⟩ := hB2.free
  go_wp2
  refine bodyPost_ret (v := .tuple #[.agg #[.int .i64 9, .string noText, .int .i64 0, .int .i64 (uAt zs k 2), .int .i64 0], .int .i64 3]) (by simp [results, Tryd.results32, go_sem, noText, k0, k1, k2, k3, k4, l0, l1, l2, l3, l4]) rfl ?_
  refine ⟨⟨9, noText, 0, (uAt zs k 2), 0⟩, k, 3, rfl, Hrd.out, ?_, fun hh => ?_⟩
  · repeat (refine Only.setCell ?_ (fun hl => absurd hl (by simp)) _)
    exact (ho1.trans hto2.2 (fun _ h _ => h))
  · exact absurd hh (by decide)


set_option maxHeartbeats 4000000 in
set_option maxRecDepth 100000 in
theorem refReadPair9Ok (rb : Nat) (v : Value) (zs : List Int) (k : Nat) (w : World) (h : Rf w rb v zs k) (hk : k + 4 ≤ zs.length) :
    Calls Tryd.prog 32 #[.pointer (some ⟨rb, 0, none⟩), .int .i64 9] w (ReadTo w rb v zs k 9) := by
  have hrd : RdC zs k 9 ⟨9, noText, 0, (uAt zs k 2), (uAt zs (k + 2) 2)⟩ (k + 4) 0 := by
    unfold RdC
    rw [if_neg (by decide), if_neg (by decide), if_neg (by decide), if_neg (by decide), if_pos (by decide)]
    exact .inr ⟨hk, rfl, rfl, rfl⟩
  have Hrd := Lib.hid hrd
  have hrb := h.lt
  have hub := uAt_lt h.bytish k 2 (by omega)
  simp only [Int.reducePow] at hub
  obtain ⟨hu0a, hu1a⟩ := hub
  have hub := uAt_lt h.bytish (k + 2) 2 (by omega)
  simp only [Int.reducePow] at hub
  obtain ⟨hu0b, hu1b⟩ := hub
  clear hrd
  go_enter Tryd.func32, Tryd.ntmps32
  go_wp2_with (fail)
  refine (rfU_ok rb v zs k 2 _ (h.two _ _) (by decide) (by decide) (by omega)).mono ?_
  rintro e w1 ⟨rfl, hto⟩
  obtain ⟨hA, hB, ho1⟩ := two_left hrb ⟨0, noText, 0, 0, 0⟩ ⟨9, noText, 0, 0, 0⟩ hto.2
  obtain ⟨k0, k1, k2, k3, k4⟩ := hA.cells; obtain ⟨l0, l1, l2, l3, l4⟩ := hB.cells; obtain ⟨f0, f1, f2, f3, f4⟩ := hA.free; obtain ⟨g0, g1, g2, g3, g4⟩ := hB.free
  go_wp2_with (fail)
  refine (rfU_ok rb v zs (k + 2) 2 _ hto.1 (by decide) (by decide) (by omega)).mono ?_
  rintro e w2 ⟨rfl, hto2⟩
  clear k0 k1 k2 k3 k4 l0 l1 l2 l3 l4 f0 f1 f2 f3 f4 g0 g1 g2 g3 g4
  have hA2 := hA.only hto2.2 (by omega); have hB2 := hB.only hto2.2 (by omega); obtain ⟨k0, k1, k2, k3, k4⟩ := hA2.cells; obtain ⟨l0, l1, l2, l3, l4⟩ := hB2.cells; obtain ⟨f0, f1, f2, f3, f4⟩ := hA2.free; obtain ⟨g0, g1, g2, g3, g4⟩ := hB2.free
  go_wp2
  refine bodyPost_ret (v := .tuple #[.agg #[.int .i64 9, .string noText, .int .i64 0, .int .i64 (uAt zs k 2), .int .i64 (uAt zs (k + 2) 2)], .int .i64 0]) (by simp [results, Tryd.results32, go_sem, noText, k0, k1, k2, k3, k4, l0, l1, l2, l3, l4]) rfl ?_
  refine ⟨⟨9, noText, 0, (uAt zs k 2), (uAt zs (k + 2) 2)⟩, k + 4, 0, rfl, Hrd.out, ?_, fun hh => ?_⟩
  · repeat (refine Only.setCell ?_ (fun hl => absurd hl (by simp)) _)
    exact (ho1.trans hto2.2 (fun _ h _ => h))
  · refine h.high hto2.1 ?_
    repeat (refine Only.setCell ?_ (fun _ => by simp) _)
    exact Only.refl _ _


set_option maxHeartbeats 4000000 in
set_option maxRecDepth 100000 in
theorem refReadPair10Short (rb : Nat) (v : Value) (zs : List Int) (k : Nat) (w : World) (h : Rf w rb v zs k) (hk : zs.length < k + 2) :
    Calls Tryd.prog 32 #[.pointer (some ⟨rb, 0, none⟩), .int .i64 10] w (ReadTo w rb v zs k 10) := by
  have hrd : RdC zs k 10 ⟨10, noText, 0, 0, 0⟩ k 3 := by
    unfold RdC
    rw [if_neg (by decide), if_neg (by decide), if_neg (by decide), if_neg (by decide), if_pos (by decide)]
    exact .inl ⟨by omega, rfl⟩
  have Hrd := Lib.hid hrd
  have hrb := h.lt
  clear hrd
  go_enter Tryd.func32, Tryd.ntmps32
  go_wp2_with (go_at_call 31; refine (rfU_short rb v zs k 2 _ (h.two _ _) (by decide) (by decide) (by omega)).mono ?_; rintro e w1 ⟨rfl, hto⟩; obtain ⟨hA, hB, ho1⟩ := two_left hrb ⟨0, noText, 0, 0, 0⟩ ⟨10, noText, 0, 0, 0⟩ hto.2; obtain ⟨k0, k1, k2, k3, k4⟩ := hA.cells; obtain ⟨l0, l1, l2, l3, l4⟩ := hB.cells; obtain ⟨f0, f1, f2, f3, f4⟩ := hA.free; obtain ⟨g0, g1, g2, g3, g4⟩ := hB.free)
  refine bodyPost_ret (v := .tuple #[.agg #[.int .i64 10, .string noText, .int .i64 0, .int .i64 0, .int .i64 0], .int .i64 3]) (by simp [results, Tryd.results32, go_sem, noText, k0, k1, k2, k3, k4, l0, l1, l2, l3, l4]) rfl ?_
  refine ⟨⟨10, noText, 0, 0, 0⟩, k, 3, rfl, Hrd.out, ?_, fun hh => ?_⟩
  · repeat (refine Only.setCell ?_ (fun hl => absurd hl (by simp)) _)
    exact ho1
  · exact absurd hh (by decide)


set_option maxHeartbeats 4000000 in
set_option maxRecDepth 100000 in
theorem refReadPair10Cut (rb : Nat) (v : Value) (zs : List Int) (k : Nat) (w : World) (h : Rf w rb v zs k) (hk : k + 2 ≤ zs.length) (hk2 : zs.length < k + 4) :
    Calls Tryd.prog 32 #[.pointer (some ⟨rb, 0, none⟩), .int .i64 10] w (ReadTo w rb v zs k 10) := by
  have hrd : RdC zs k 10 ⟨10, noText, 0, (uAt zs k 2), 0⟩ k 3 := by
    unfold RdC
    rw [if_neg (by decide), if_neg (by decide), if_neg (by decide), if_neg (by decide), if_pos (by decide)]
    exact .inl ⟨by omega, rfl⟩
  have Hrd := Lib.hid hrd
  have hrb := h.lt
  have hub := uAt_lt h.bytish k 2 (by omega)
  simp only [Int.reducePow] at hub
  obtain ⟨hu0a, hu1a⟩ := hub
  clear hrd
  go_enter Tryd.func32, Tryd.ntmps32
  go_wp2_with (fail)
  refine (rfU_ok rb v zs k 2 _ (h.two _ _) (by decide) (by decide) (by omega)).mono ?_
  rintro e w1 ⟨rfl, hto⟩
  obtain ⟨hA, hB, ho1⟩ := two_left hrb ⟨0, noText, 0, 0, 0⟩ ⟨10, noText, 0, 0, 0⟩ hto.2
  obtain ⟨k0, k1, k2, k3, k4⟩ := hA.cells; obtain ⟨l0, l1, l2, l3, l4⟩ := hB.cells; obtain ⟨f0, f1, f2, f3, f4⟩ := hA.free; obtain ⟨g0, g1, g2, g3, g4⟩ := hB.free
  go_wp2_with (fail)
  refine (rfU_short rb v zs (k + 2) 2 _ hto.1 (by decide) (by decide) (by omega)).mono ?_
  rintro e w2 ⟨rfl, hto2⟩
  clear k0 k1 k2 k3 k4 l0 l1 l2 l3 l4 f0 f1 f2 f3 f4 g0 g1 g2 g3 g4
  have hA2 := hA.only hto2.2 (by omega); have hB2 := hB.only hto2.2 (by omega); obtain ⟨k0, k1, k2, k3, k4⟩ := hA2.cells; obtain ⟨l0, l1, l2, l3, l4⟩ := hB2.cells; obtain ⟨f0, f1, f2, f3, f4⟩ := hA2.free; obtain ⟨g0, g1, g2, g3, g4⟩ := hB2.free
  go_wp2
  refine bodyPost_ret (v := .tuple #[.agg #[.int .i64 10, .string noText, .int .i64 0, .int .i64 (uAt zs k 2), .int .i64 0], .int .i64 3]) (by simp [results, Tryd.results32, go_sem, noText, k0, k1, k2, k3, k4, l0, l1, l2, l3, l4]) rfl ?_
  refine ⟨⟨10, noText, 0, (uAt zs k 2), 0⟩, k, 3, rfl, Hrd.out, ?_, fun hh => ?_⟩
  · repeat (refine Only.setCell ?_ (fun hl => absurd hl (by simp)) _)
    exact (ho1.trans hto2.2 (fun _ h _ => h))
  · exact absurd hh (by decide)


set_option maxHeartbeats 4000000 in
set_option maxRecDepth 100000 in
theorem refReadPair10Ok (rb : Nat) (v : Value) (zs : List Int) (k : Nat) (w : World) (h : Rf w rb v zs k) (hk : k + 4 ≤ zs.length) :
    Calls Tryd.prog 32 #[.pointer (some ⟨rb, 0, none⟩), .int .i64 10] w (ReadTo w rb v zs k 10) := by
  have hrd : RdC zs k 10 ⟨10, noText, 0, (uAt zs k 2), (uAt zs (k + 2) 2)⟩ (k + 4) 0 := by
    unfold RdC
    rw [if_neg (by decide), if_neg (by decide), if_neg (by decide), if_neg (by decide), if_pos (by decide)]
    exact .inr ⟨hk, rfl, rfl, rfl⟩
  have Hrd := Lib.hid hrd
  have hrb := h.lt
  have hub := uAt_lt h.bytish k 2 (by omega)
  simp only [Int.reducePow] at hub
  obtain ⟨hu0a, hu1a⟩ := hub
  have hub := uAt_lt h.bytish (k + 2) 2 (by omega)
  simp only [Int.reducePow] at hub
  obtain ⟨hu0b, hu1b⟩ := hub
  clear hrd
  go_enter Tryd.func32, Tryd.ntmps32
  go_wp2_with (fail)
  refine (rfU_ok rb v zs k 2 _ (h.two _ _) (by decide) (by decide) (by omega)).mono ?_
  rintro e w1 ⟨rfl, hto⟩
  obtain ⟨hA, hB, ho1⟩ := two_left hrb ⟨0, noText, 0, 0, 0⟩ ⟨10, noText, 0, 0, 0⟩ hto.2
  obtain ⟨k0, k1, k2, k3, k4⟩ := hA.cells; obtain ⟨l0, l1, l2, l3, l4⟩ := hB.cells; obtain ⟨f0, f1, f2, f3, f4⟩ := hA.free; obtain ⟨g0, g1, g2, g3, g4⟩ := hB.free
  go_wp2_with (fail)
  refine (rfU_ok rb v zs (k + 2) 2 _ hto.1 (by decide) (by decide) (by omega)).mono ?_
  rintro e w2 ⟨rfl, hto2⟩
  clear k0 k1 k2 k3 k4 l0 l1 l2 l3 l4 f0 f1 f2 f3 f4 g0 g1 g2 g3 g4
  have hA2 := hA.only hto2.2 (by omega); have hB2 := hB.only hto2.2 (by omega); obtain ⟨k0, k1, k2, k3, k4⟩ := hA2.cells; obtain ⟨l0, l1, l2, l3, l4⟩ := hB2.cells; obtain ⟨f0, f1, f2, f3, f4⟩ := hA2.free; obtain ⟨g0, g1, g2, g3, g4⟩ := hB2.free
  go_wp2
  refine bodyPost_ret (v := .tuple #[.agg #[.int .i64 10, .string noText, .int .i64 0, .int .i64 (uAt zs k 2), .int .i64 (uAt zs (k + 2) 2)], .int .i64 0]) (by simp [results, Tryd.results32, go_sem, noText, k0, k1, k2, k3, k4, l0, l1, l2, l3, l4]) rfl ?_
  refine ⟨⟨10, noText, 0, (uAt zs k 2), (uAt zs (k + 2) 2)⟩, k + 4, 0, rfl, Hrd.out, ?_, fun hh => ?_⟩
  · repeat (refine Only.setCell ?_ (fun hl => absurd hl (by simp)) _)
    exact (ho1.trans hto2.2 (fun _ h _ => h))
  · refine h.high hto2.1 ?_
    repeat (refine Only.setCell ?_ (fun _ => by simp) _)
    exact Only.refl _ _


set_option maxHeartbeats 4000000 in
set_option maxRecDepth 100000 in
theorem refReadPair12Short (rb : Nat) (v : Value) (zs : List Int) (k : Nat) (w : World) (h : Rf w rb v zs k) (hk : zs.length < k + 2) :
    Calls Tryd.prog 32 #[.pointer (some ⟨rb, 0, none⟩), .int .i64 12] w (ReadTo w rb v zs k 12) := by
  have hrd : RdC zs k 12 ⟨12, noText, 0, 0, 0⟩ k 3 := by
    unfold RdC
    rw [if_neg (by decide), if_neg (by decide), if_neg (by decide), if_neg (by decide), if_pos (by decide)]
    exact .inl ⟨by omega, rfl⟩
  have Hrd := Lib.hid hrd
  have hrb := h.lt
  clear hrd
  go_enter Tryd.func32, Tryd.ntmps32
  go_wp2_with (go_at_call 31; refine (rfU_short rb v zs k 2 _ (h.two _ _) (by decide) (by decide) (by omega)).mono ?_; rintro e w1 ⟨rfl, hto⟩; obtain ⟨hA, hB, ho1⟩ := two_left hrb ⟨0, noText, 0, 0, 0⟩ ⟨12, noText, 0, 0, 0⟩ hto.2; obtain ⟨k0, k1, k2, k3, k4⟩ := hA.cells; obtain ⟨l0, l1, l2, l3, l4⟩ := hB.cells; obtain ⟨f0, f1, f2, f3, f4⟩ := hA.free; obtain ⟨g0, g1, g2, g3, g4⟩ := hB.free)
  refine bodyPost_ret (v := .tuple #[.agg #[.int .i64 12, .string noText, .int .i64 0, .int .i64 0, .int .i64 0], .int .i64 3]) (by simp [results, Tryd.results32, go_sem, noText, k0, k1, k2, k3, k4, l0, l1, l2, l3, l4]) rfl ?_
  refine ⟨⟨12, noText, 0, 0, 0⟩, k, 3, rfl, Hrd.out, ?_, fun hh => ?_⟩
  · repeat (refine Only.setCell ?_ (fun hl => absurd hl (by simp)) _)
    exact ho1
  · exact absurd hh (by decide)


set_option maxHeartbeats 4000000 in
set_option maxRecDepth 100000 in
theorem refReadPair12Cut (rb : Nat) (v : Value) (zs : List Int) (k : Nat) (w : World) (h : Rf w rb v zs k) (hk : k + 2 ≤ zs.length) (hk2 : zs.length < k + 4) :
    Calls Tryd.prog 32 #[.pointer (some ⟨rb, 0, none⟩), .int .i64 12] w (ReadTo w rb v zs k 12) := by
  have hrd : RdC zs k 12 ⟨12, noText, 0, (uAt zs k 2), 0⟩ k 3 := by
    unfold RdC
    rw [if_neg (by decide), if_neg (by decide), if_neg (by decide), if_neg (by decide), if_pos (by decide)]
    exact .inl ⟨by omega, rfl⟩
  have Hrd := Lib.hid hrd
  have hrb := h.lt
  have hub := uAt_lt h.bytish k 2 (by omega)
  simp only [Int.reducePow] at hub
  obtain ⟨hu0a, hu1a⟩ := hub
  clear hrd
  go_enter Tryd.func32, Tryd.ntmps32
  go_wp2_with (fail)
  refine (rfU_ok rb v zs k 2 _ (h.two _ _) (by decide) (by decide) (by omega)).mono ?_
  rintro e w1 ⟨rfl, hto⟩
  obtain ⟨hA, hB, ho1⟩ := two_left hrb ⟨0, noText, 0, 0, 0⟩ ⟨12, noText, 0, 0, 0⟩ hto.2
  obtain ⟨k0, k1, k2, k3, k4⟩ := hA.cells; obtain ⟨l0, l1, l2, l3, l4⟩ := hB.cells; obtain ⟨f0, f1, f2, f3, f4⟩ := hA.free; obtain ⟨g0, g1, g2, g3, g4⟩ := hB.free
  go_wp2_with (fail)
  refine (rfU_short rb v zs (k + 2) 2 _ hto.1 (by decide) (by decide) (by omega)).mono ?_
  rintro e w2 ⟨rfl, hto2⟩
  clear k0 k1 k2 k3 k4 l0 l1 l2 l3 l4 f0 f1 f2 f3 f4 g0 g1 g2 g3 g4
  have hA2 := hA.only hto2.2 (by omega); have hB2 := hB.only hto2.2 (by omega); obtain ⟨k0, k1, k2, k3, k4⟩ := hA2.cells; obtain ⟨l0, l1, l2, l3, l4⟩ := hB2.cells; obtain ⟨f0, f1, f2, f3, f4⟩ := hA2.free; obtain ⟨g0, g1, g2, g3, g4⟩ := hB2.free
  go_wp2
  refine bodyPost_ret (v := .tuple #[.agg #[.int .i64 12, .string noText, .int .i64 0, .int .i64 (uAt zs k 2), .int .i64 0], .int .i64 3]) (by simp [results, Tryd.results32, go_sem, noText, k0, k1, k2, k3, k4, l0, l1, l2, l3, l4]) rfl ?_
  refine ⟨⟨12, noText, 0, (uAt zs k 2), 0⟩, k, 3, rfl, Hrd.out, ?_, fun hh => ?_⟩
  · repeat (refine Only.setCell ?_ (fun hl => absurd hl (by simp)) _)
    exact (ho1.trans hto2.2 (fun _ h _ => h))
  · exact absurd hh (by decide)


set_option maxHeartbeats 4000000 in
set_option maxRecDepth 100000 in
theorem refReadPair12Ok (rb : Nat) (v : Value) (zs : List Int) (k : Nat) (w : World) (h : Rf w rb v zs k) (hk : k + 4 ≤ zs.length) :
    Calls Tryd.prog 32 #[.pointer (some ⟨rb, 0, none⟩), .int .i64 12] w (ReadTo w rb v zs k 12) := by
  have hrd : RdC zs k 12 ⟨12, noText, 0, (uAt zs k 2), (uAt zs (k + 2) 2)⟩ (k + 4) 0 := by
    unfold RdC
    rw [if_neg (by decide), if_neg (by decide), if_neg (by decide), if_neg (by decide), if_pos (by decide)]
    exact .inr ⟨hk, rfl, rfl, rfl⟩
  have Hrd := Lib.hid hrd
  have hrb := h.lt
  have hub := uAt_lt h.bytish k 2 (by omega)
  simp only [Int.reducePow] at hub
  obtain ⟨hu0a, hu1a⟩ := hub
  have hub := uAt_lt h.bytish (k + 2) 2 (by omega)
  simp only [Int.reducePow] at hub
  obtain ⟨hu0b, hu1b⟩ := hub
  clear hrd
  go_enter Tryd.func32, Tryd.ntmps32
  go_wp2_with (fail)
  refine (rfU_ok rb v zs k 2 _ (h.two _ _) (by decide) (by decide) (by omega)).mono ?_
  rintro e w1 ⟨rfl, hto⟩
  obtain ⟨hA, hB, ho1⟩ := two_left hrb ⟨0, noText, 0, 0, 0⟩ ⟨12, noText, 0, 0, 0⟩ hto.2
  obtain ⟨k0, k1, k2, k3, k4⟩ := hA.cells; obtain ⟨l0, l1, l2, l3, l4⟩ := hB.cells; obtain ⟨f0, f1, f2, f3, f4⟩ := hA.free; obtain ⟨g0, g1, g2, g3, g4⟩ := hB.free
  go_wp2_with (fail)
  refine (rfU_ok rb v zs (k + 2) 2 _ hto.1 (by decide) (by decide) (by omega)).mono ?_
  rintro e w2 ⟨rfl, hto2⟩
  clear k0 k1 k2 k3 k4 l0 l1 l2 l3 l4 f0 f1 f2 f3 f4 g0 g1 g2 g3 g4
  have hA2 := hA.only hto2.2 (by omega); have hB2 := hB.only hto2.2 (by omega); obtain ⟨k0, k1, k2, k3, k4⟩ := hA2.cells; obtain ⟨l0, l1, l2, l3, l4⟩ := hB2.cells; obtain ⟨f0, f1, f2, f3, f4⟩ := hA2.free; obtain ⟨g0, g1, g2, g3, g4⟩ := hB2.free
  go_wp2
  refine bodyPost_ret (v := .tuple #[.agg #[.int .i64 12, .string noText, .int .i64 0, .int .i64 (uAt zs k 2), .int .i64 (uAt zs (k + 2) 2)], .int .i64 0]) (by simp [results, Tryd.results32, go_sem, noText, k0, k1, k2, k3, k4, l0, l1, l2, l3, l4]) rfl ?_
  refine ⟨⟨12, noText, 0, (uAt zs k 2), (uAt zs (k + 2) 2)⟩, k + 4, 0, rfl, Hrd.out, ?_, fun hh => ?_⟩
  · repeat (refine Only.setCell ?_ (fun hl => absurd hl (by simp)) _)
    exact (ho1.trans hto2.2 (fun _ h _ => h))
  · refine h.high hto2.1 ?_
    repeat (refine Only.setCell ?_ (fun _ => by simp) _)
    exact Only.refl _ _


set_option maxHeartbeats 4000000 in
set_option maxRecDepth 100000 in
theorem refReadTextShort (rb : Nat) (v : Value) (zs : List Int) (k : Nat) (w : World) (h : Rf w rb v zs k) (hk : zs.length < k + 2) :
    Calls Tryd.prog 32 #[.pointer (some ⟨rb, 0, none⟩), .int .i64 1] w (ReadTo w rb v zs k 1) := by
  have hrd : RdC zs k 1 ⟨1, noText, 0, 0, 0⟩ k 3 := by
    unfold RdC
    rw [if_pos rfl]
    exact .inl ⟨hk, rfl⟩
  have Hrd := Lib.hid hrd
  have hrb := h.lt
  clear hrd
  go_enter Tryd.func32, Tryd.ntmps32
  go_wp2_with (go_at_call 31; refine (rfU_short rb v zs k 2 _ (h.two _ _) (by decide) (by decide) (by omega)).mono ?_; rintro e w1 ⟨rfl, hto⟩; obtain ⟨hA, hB, ho1⟩ := two_left hrb ⟨0, noText, 0, 0, 0⟩ ⟨1, noText, 0, 0, 0⟩ hto.2; obtain ⟨k0, k1, k2, k3, k4⟩ := hA.cells; obtain ⟨l0, l1, l2, l3, l4⟩ := hB.cells; obtain ⟨f0, f1, f2, f3, f4⟩ := hA.free; obtain ⟨g0, g1, g2, g3, g4⟩ := hB.free)
  refine bodyPost_ret (v := .tuple #[.agg #[.int .i64 1, .string noText, .int .i64 0, .int .i64 0, .int .i64 0], .int .i64 3]) (by simp [results, Tryd.results32, go_sem, noText, k0, k1, k2, k3, k4, l0, l1, l2, l3, l4]) rfl ?_
  refine ⟨⟨1, noText, 0, 0, 0⟩, k, 3, rfl, Hrd.out, ?_, fun hh => ?_⟩
  · repeat (refine Only.setCell ?_ (fun hl => absurd hl (by simp)) _)
    exact ho1
  · exact absurd hh (by decide)


set_option maxHeartbeats 4000000 in
set_option maxRecDepth 100000 in
theorem refReadTextLong (rb : Nat) (v : Value) (zs : List Int) (k : Nat) (w : World) (h : Rf w rb v zs k) (hk : k + 2 ≤ zs.length) (hu : 256 < uAt zs k 2) :
    Calls Tryd.prog 32 #[.pointer (some ⟨rb, 0, none⟩), .int .i64 1] w (ReadTo w rb v zs k 1) := by
  have hrd : RdC zs k 1 ⟨1, noText, 0, 0, 0⟩ k 20 := by
    unfold RdC
    rw [if_pos rfl]
    exact .inr (.inl ⟨hk, hu, rfl⟩)
  have Hrd := Lib.hid hrd
  have hrb := h.lt
  have hub := uAt_lt h.bytish k 2 (by omega)
  simp only [Int.reducePow] at hub
  obtain ⟨hu0a, hu1a⟩ := hub
  clear hrd
  go_enter Tryd.func32, Tryd.ntmps32
  go_wp2_with (go_at_call 31; refine (rfU_ok rb v zs k 2 _ (h.two _ _) (by decide) (by decide) (by omega)).mono ?_; rintro e w1 ⟨rfl, hto⟩; obtain ⟨hA, hB, ho1⟩ := two_left hrb ⟨0, noText, 0, 0, 0⟩ ⟨1, noText, 0, 0, 0⟩ hto.2; obtain ⟨k0, k1, k2, k3, k4⟩ := hA.cells; obtain ⟨l0, l1, l2, l3, l4⟩ := hB.cells; obtain ⟨f0, f1, f2, f3, f4⟩ := hA.free; obtain ⟨g0, g1, g2, g3, g4⟩ := hB.free)
  refine bodyPost_ret (v := .tuple #[.agg #[.int .i64 1, .string noText, .int .i64 0, .int .i64 0, .int .i64 0], .int .i64 20]) (by simp [results, Tryd.results32, go_sem, noText, k0, k1, k2, k3, k4, l0, l1, l2, l3, l4]) rfl ?_
  refine ⟨⟨1, noText, 0, 0, 0⟩, k, 20, rfl, Hrd.out, ?_, fun hh => ?_⟩
  · repeat (refine Only.setCell ?_ (fun hl => absurd hl (by simp)) _)
    exact ho1
  · exact absurd hh (by decide)


set_option maxHeartbeats 4000000 in
set_option maxRecDepth 100000 in
theorem refReadTextCut (rb : Nat) (v : Value) (zs : List Int) (k : Nat) (w : World) (h : Rf w rb v zs k) (hk : k + 2 ≤ zs.length) (hu : uAt zs k 2 ≤ 256) (hc : zs.length < k + 2 + (uAt zs k 2).toNat) :
    Calls Tryd.prog 32 #[.pointer (some ⟨rb, 0, none⟩), .int .i64 1] w (ReadTo w rb v zs k 1) := by
  have hrd : RdC zs k 1 ⟨1, noText, 0, 0, 0⟩ k 3 := by
    unfold RdC
    rw [if_pos rfl]
    exact .inr (.inr (.inl ⟨hk, hu, hc, rfl⟩))
  have Hrd := Lib.hid hrd
  have hrb := h.lt
  obtain ⟨n, hun⟩ : ∃ n : Nat, uAt zs k 2 = (n : Int) := ⟨(uAt zs k 2).toNat, by have := (uAt_lt h.bytish k 2 (by omega)).1; omega⟩
  have hn256 : n ≤ 256 := by omega
  have hnz : (n : Int) ≤ 256 := by omega
  have htn : (uAt zs k 2).toNat = n := by omega
  rw [htn] at hc
  have Hun := Lib.hid hun
  clear hun htn
  clear hrd
  go_enter Tryd.func32, Tryd.ntmps32
  go_wp2_with (fail)
  refine (rfU_ok rb v zs k 2 _ (h.two _ _) (by decide) (by decide) (by omega)).mono ?_
  rintro e w1 ⟨rfl, hto⟩
  obtain ⟨hA, hB, ho1⟩ := two_left hrb ⟨0, noText, 0, 0, 0⟩ ⟨1, noText, 0, 0, 0⟩ hto.2
  obtain ⟨k0, k1, k2, k3, k4⟩ := hA.cells; obtain ⟨l0, l1, l2, l3, l4⟩ := hB.cells; obtain ⟨f0, f1, f2, f3, f4⟩ := hA.free; obtain ⟨g0, g1, g2, g3, g4⟩ := hB.free
  rw [Hun.out]
  go_wp2_with (fail)
  refine (rfB_short rb v zs (k + 2) n _ hto.1 (by omega)).mono ?_
  rintro e w2 ⟨v2, rfl, hto2⟩
  clear k0 k1 k2 k3 k4 l0 l1 l2 l3 l4 f0 f1 f2 f3 f4 g0 g1 g2 g3 g4
  have hA2 := hA.only hto2.2 (by omega); have hB2 := hB.only hto2.2 (by omega); obtain ⟨k0, k1, k2, k3, k4⟩ := hA2.cells; obtain ⟨l0, l1, l2, l3, l4⟩ := hB2.cells; obtain ⟨f0, f1, f2, f3, f4⟩ := hA2.free; obtain ⟨g0, g1, g2, g3, g4⟩ := hB2.free
  go_wp2
  refine bodyPost_ret (v := .tuple #[.agg #[.int .i64 1, .string noText, .int .i64 0, .int .i64 0, .int .i64 0], .int .i64 3]) (by simp [results, Tryd.results32, go_sem, noText, k0, k1, k2, k3, k4, l0, l1, l2, l3, l4]) rfl ?_
  refine ⟨⟨1, noText, 0, 0, 0⟩, k, 3, rfl, Hrd.out, ?_, fun hh => ?_⟩
  · repeat (refine Only.setCell ?_ (fun hl => absurd hl (by simp)) _)
    exact (ho1.trans hto2.2 (fun _ h _ => h))
  · exact absurd hh (by decide)


set_option maxHeartbeats 4000000 in
set_option maxRecDepth 100000 in
theorem refReadTextOk (rb : Nat) (v : Value) (zs : List Int) (k : Nat) (w : World) (h : Rf w rb v zs k) (hk : k + 2 ≤ zs.length) (hu : uAt zs k 2 ≤ 256) (hc : k + 2 + (uAt zs k 2).toNat ≤ zs.length) :
    Calls Tryd.prog 32 #[.pointer (some ⟨rb, 0, none⟩), .int .i64 1] w (ReadTo w rb v zs k 1) := by
  have hrb := h.lt
  obtain ⟨n, hun⟩ : ∃ n : Nat, uAt zs k 2 = (n : Int) := ⟨(uAt zs k 2).toNat, by have := (uAt_lt h.bytish k 2 (by omega)).1; omega⟩
  have hn256 : n ≤ 256 := by omega
  have hnz : (n : Int) ≤ 256 := by omega
  have htn : (uAt zs k 2).toNat = n := by omega
  rw [htn] at hc
  have Hun := Lib.hid hun
  have Htn := Lib.hid htn
  clear hun htn
  go_enter Tryd.func32, Tryd.ntmps32
  go_wp2_with (fail)
  refine (rfU_ok rb v zs k 2 _ (h.two _ _) (by decide) (by decide) (by omega)).mono ?_
  rintro e w1 ⟨rfl, hto⟩
  obtain ⟨hA, hB, ho1⟩ := two_left hrb ⟨0, noText, 0, 0, 0⟩ ⟨1, noText, 0, 0, 0⟩ hto.2
  obtain ⟨k0, k1, k2, k3, k4⟩ := hA.cells; obtain ⟨l0, l1, l2, l3, l4⟩ := hB.cells; obtain ⟨f0, f1, f2, f3, f4⟩ := hA.free; obtain ⟨g0, g1, g2, g3, g4⟩ := hB.free
  rw [Hun.out]
  go_wp2_with (fail)
  refine (rfB_ok rb v zs (k + 2) n _ hto.1 (by omega)).mono ?_
  rintro e w2 ⟨v2, rfl, hto2, hr2⟩
  have hb2 := hr2.bytes ((h.bytish.drop _).take _)
  go_wp2_with (fail)
  refine (refDecode v2 _ w2 hb2 (by simp; omega)).mono ?_
  rintro e w3 ⟨ys, e0, rfl, hd, ho3⟩
  have hrd : RdC zs k 1 ⟨1, strOfNums ys, 0, 0, 0⟩ (k + 2 + n) e0 := by
    unfold RdC
    rw [if_pos rfl]
    exact .inr (.inr (.inr ⟨hk, hu, by rw [Htn.out]; omega, ys, by rw [Htn.out]; exact hd, rfl, by rw [Htn.out]⟩))
  have Hrd := Lib.hid hrd
  clear hb2 hr2 hd hrd
  clear k0 k1 k2 k3 k4 l0 l1 l2 l3 l4 f0 f1 f2 f3 f4 g0 g1 g2 g3 g4
  have hA2 := hA.only (hto2.2.trans (ho3.mono (T := fun j => j = rb) (fun _ h _ => h.elim)) (fun _ h _ => h)) (by omega); have hB2 := hB.only (hto2.2.trans (ho3.mono (T := fun j => j = rb) (fun _ h _ => h.elim)) (fun _ h _ => h)) (by omega); obtain ⟨k0, k1, k2, k3, k4⟩ := hA2.cells; obtain ⟨l0, l1, l2, l3, l4⟩ := hB2.cells; obtain ⟨f0, f1, f2, f3, f4⟩ := hA2.free; obtain ⟨g0, g1, g2, g3, g4⟩ := hB2.free
  go_wp2
  refine bodyPost_ret (v := .tuple #[.agg #[.int .i64 1, .string (strOfNums ys), .int .i64 0, .int .i64 0, .int .i64 0], .int .i64 e0]) (by simp [results, Tryd.results32, go_sem, noText, k0, k1, k2, k3, k4, l0, l1, l2, l3, l4]) rfl ?_
  refine ⟨⟨1, (strOfNums ys), 0, 0, 0⟩, k + 2 + n, e0, rfl, Hrd.out, ?_, fun hh => ?_⟩
  · repeat (refine Only.setCell ?_ (fun hl => absurd hl (by simp)) _)
    exact (ho1.trans (hto2.2.trans (ho3.mono (T := fun j => j = rb) (fun _ h _ => h.elim)) (fun _ h _ => h)) (fun _ h _ => h))
  · refine h.high (hto2.1.only ho3 (fun h => h) (fun _ _ _ h => h)) ?_
    repeat (refine Only.setCell ?_ (fun _ => by simp) _)
    exact Only.refl _ _

end Go.Proofs.YtpiandkiijienaaDoor
