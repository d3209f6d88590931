/- The document's own reader (understudyref01), by the same words as the program's. No condition beyond a reader that was made. -/
import Derived.Test.YtodhdiccfobcfaaGreatDoorGWire
import Derived.Deep.RegionHeld
namespace Go.Proofs.YtodhdiccfobcfaaGreatDoor
open Go.RowKit
set_option linter.unusedSimpArgs false

theorem wrapU_val (n : Nat) (h1 : 1 ≤ n) (h8 : n ≤ 8) (v : Int) (h0 : 0 ≤ v) (hv : v < 256 ^ n) : IntKind.u64.wrap v = v := by
  rw [wrapU]
  rcases width_cases h1 h8 with rfl | rfl | rfl | rfl | rfl | rfl | rfl | rfl <;> simp only [Int.reducePow] at * <;> omega

/-- The reference's reader at block rb: the bytes that it was given, its place. -/
structure Rf (w : World) (rb : Nat) (v : Value) (zs : List Int) (k : Nat) : Prop where
  blk : w.heap[rb]? = some (.cells #[v, .int .i64 k] 78 (0, 0))
  byt : Bytes w v zs
  apart : ∀ b, v.ownBlock = some b → zs ≠ [] → b ≠ rb
  le : k ≤ zs.length
  lim : zs.length ≤ 140737488355328

def RfTo (w : World) (rb : Nat) (v : Value) (zs : List Int) (k : Nat) (w' : World) : Prop := Rf w' rb v zs k ∧ Only (fun b => b = rb) w w'

theorem Rf.only {S : Nat → Prop} {w w' : World} {rb : Nat} {v : Value} {zs : List Int} {k : Nat} (h : Rf w rb v zs k) (ho : Only S w w') (h1 : ¬ S rb) (h2 : ∀ k, v.ownBlock = some k → zs ≠ [] → ¬ S k) : Rf w' rb v zs k :=
  ⟨ho.heap h.blk h1, h.byt.only ho h2, h.apart, h.le, h.lim⟩
theorem Rf.drawn {w w' : World} {rb : Nat} {v : Value} {zs : List Int} {k : Nat} (h : Rf w rb v zs k) (hd : Drawn w w') : Rf w' rb v zs k :=
  h.only (hd.only (S := fun _ => False)) (fun h => h) (fun _ _ _ h => h)
theorem Rf.lt {w : World} {rb : Nat} {v : Value} {zs : List Int} {k : Nat} (h : Rf w rb v zs k) : rb < w.heap.size := heap_lt h.blk
theorem Rf.set {w : World} {rb : Nat} {v : Value} {zs : List Int} {k k' : Nat} (h : Rf w rb v zs k) (hl : k' ≤ zs.length) : RfTo w rb v zs k' (w.setCell ⟨rb, 1, none⟩ (.int .i64 k')) := by
  have ho : Only (fun b => b = rb) w (w.setCell ⟨rb, 1, none⟩ (.int .i64 k')) := Only.setCell (S := fun b => b = rb) (Only.refl _ _) (fun _ => rfl) _
  refine ⟨⟨?_, h.byt.only ho (fun b hb hz => h.apart b hb hz), h.apart, hl, h.lim⟩, ho⟩
  have := heap_setCell_at (i := 1) (u := .int .i64 k') h.blk
  rw [this]
  simp
theorem RfTo.trans {w w1 w2 : World} {rb : Nat} {v : Value} {zs : List Int} {k k' : Nat} (h : RfTo w rb v zs k w1) (h2 : RfTo w1 rb v zs k' w2) : RfTo w rb v zs k' w2 :=
  ⟨h2.1, h.2.trans h2.2 (fun _ hi _ => hi)⟩
theorem RfTo.of_drawn {w w' : World} {rb : Nat} {v : Value} {zs : List Int} {k : Nat} (h : Rf w rb v zs k) (hd : Drawn w w') : RfTo w rb v zs k w' := ⟨h.drawn hd, hd.only⟩

set_option maxHeartbeats 2000000 in
theorem rfUintOk (rb : Nat) (v : Value) (zs : List Int) (k n : Nat) (w : World) (h : Rf w rb v zs k) (hn1 : 1 ≤ n) (hn8 : n ≤ 8) (hroom : k + n ≤ zs.length) :
    Calls Tryz.prog 63 #[.pointer (some ⟨rb, 0, none⟩), .int .i64 n] w fun e w' =>
      e = .returned (.tuple #[.int .u64 (valB ((zs.drop k).take n)), .int .i64 0]) ∧ RfTo w rb v zs (k + n) w' := by
  obtain ⟨ao, cap, rfl, hq1, hq2, hq3, hbz, hcells⟩ := id h.byt
  have hlim := h.lim
  obtain ⟨x, rfl⟩ : ∃ x, ao = some x := by cases ao with | none => have := hq3 rfl; omega | some x => exact ⟨x, rfl⟩
  have hc := hcells x rfl
  obtain ⟨b, o, rfl⟩ : ∃ b o, x = ⟨b, o, none⟩ := ⟨_, _, plain_of_cell (hc 0 (by omega))⟩
  have hbr : b ≠ rb := h.apart b rfl (by intro e; subst e; simp at hroom; omega)
  have h0 := cell_blk h.blk 0
  have h1 := cell_blk h.blk 1
  simp at h0 h1
  have hn1' : (1 : Int) ≤ n := by omega
  have hn8' : (n : Int) ≤ 8 := by omega
  clear hcells hq3
  have Hc := Lib.hid hc
  clear hc
  go_enter Tryz.func63, Tryz.ntmps63
  go_wp2
  go_quiet (fail)
  go_wp2
  have hto := fun q => RfTo.of_drawn h ⟨q, rfl⟩
  have hz' : ∀ j, j < n → 0 ≤ (zs.drop k).getD j 0 ∧ (zs.drop k).getD j 0 < 256 := fun j hj => (hbz.drop k).getD (by simp; omega)
  have hlen : n ≤ (zs.drop k).length := by simp; omega
  have Hg := Lib.hid (show ∀ j, zs.getD (k + j) 0 = (zs.drop k).getD j 0 from fun j => by simp [List.getD])
  have hval := valB_lt n ((zs.drop k).take n) (by simp; omega) ((hbz.drop k).take n)
  generalize hys : zs.drop k = ys at *
  have Hys := Lib.hid hys
  clear hys
  go_loopw [6, 7] (fun x i wr => ∃ j : Nat, j ≤ n ∧ i = .int .i64 j ∧ x = .int .u64 (IntKind.u64.wrap (valB (ys.take j))) ∧ RfTo w rb (.slice (some ⟨b, o, none⟩) zs.length cap) zs k wr) (fun _ i _ => n - (intOf i).toNat)
  case atStart => exact ⟨0, Nat.zero_le _, rfl, by simp [valB, wrapU0], hto _⟩
  case round =>
    obtain ⟨j, hj, rfl, rfl, hr⟩ := hrel
    clear hto
    by_cases hlt : j < n
    · have g0 := cell_blk hr.1.blk 0
      have g1 := cell_blk hr.1.blk 1
      simp at g0 g1
      have gc : wr.cell? ⟨b, o + (k + j), none⟩ = some (.int .u8 (ys.getD j 0)) := by
        rw [← add_lit, hr.2.cell (Hc.out (k + j) (by omega)) (by rw [add_block]; exact hbr), Hg.out]
      have hz1 := hz' j hlt
      have HS := Lib.hid (stepU _ (valB (ys.take j)) (ys.getD j 0) rfl hz1.1 hz1.2)
      have HT := Lib.hid (valB_take ys j (by omega))
      clear hz' hval
      generalize valB (ys.take j) = val at *
      generalize ys.getD j 0 = c at *
      go_wp2
      have e1 : IntKind.i64.wrap ((k : Int) + j) = (k : Int) + j := IntWalk.i64_in _ (by omega)
      have e2 : (0 : Int) ≤ (k : Int) + j := by omega
      have e3 : ((k : Int) + j).toNat = k + j := by omega
      have e4 : (k : Int) + j < zs.length := by omega
      go_quiet (fail)
      clear e1 e2 e3 e4
      go_wp2
      go_roundw
      case rel => exact ⟨j + 1, by omega, by go_num, by rw [HT.out, ← HS.out], hr.1.drawn ⟨_, rfl⟩, hr.2.drewN _⟩
      case measure => simp [intOf]; omega
    · have hjn : j = n := by omega
      subst hjn
      have g1 := cell_blk hr.1.blk 1
      have f1 := frozen_blk hr.1.blk 1
      simp at g1
      have hset := RfTo.trans hr (hr.1.set (k' := k + j) (by omega))
      rw [Int.natCast_add] at hset
      have HV := Lib.hid (wrapU_val j hn1 hn8 _ hval.1 hval.2)
      clear hval
      go_wp2
      go_ret2
      refine ⟨?_, hset⟩
      show Ending.returned (.tuple #[.int .u64 (IntKind.u64.wrap (valB (ys.take j))), .int .i64 0]) = _
      rw [HV.out, Hys.out]

set_option maxHeartbeats 1000000 in
theorem rfUintErr (rb : Nat) (v : Value) (zs : List Int) (k : Nat) (n : Int) (w : World) (h : Rf w rb v zs k) (he : rdErr0 n ((zs.length : Int) - k) ≠ 0) :
    Calls Tryz.prog 63 #[.pointer (some ⟨rb, 0, none⟩), .int .i64 n] w fun e w' =>
      e = .returned (.tuple #[.int .u64 0, .int .i64 (rdErr0 n ((zs.length : Int) - k))]) ∧ Drawn w w' := by
  obtain ⟨ao, cap, rfl, hq1, hq2, hq3, hbz, hcells⟩ := id h.byt
  have hlim := h.lim
  have hle := h.le
  have h0 := cell_blk h.blk 0
  have h1 := cell_blk h.blk 1
  simp at h0 h1
  clear h hcells hq3
  unfold rdErr0 at he ⊢
  by_cases hn : n < 1 ∨ 8 < n
  · rw [if_pos hn]
    clear he
    rcases hn with hn | hn
    · go_enter Tryz.func63, Tryz.ntmps63
      go_wp2
      go_ret2
      exact ⟨rfl, Drawn.refl _⟩
    · have hn' : ¬ n < 1 := by omega
      go_enter Tryz.func63, Tryz.ntmps63
      go_wp2
      go_ret2
      exact ⟨rfl, Drawn.refl _⟩
  · rw [if_neg hn] at he ⊢
    have hlt : (zs.length : Int) - k < n := by
      by_cases hlt : (zs.length : Int) - k < n
      · exact hlt
      · rw [if_neg hlt] at he; exact absurd rfl he
    rw [if_pos hlt]
    clear he
    have hn1 : 1 ≤ n := by omega
    have hn8 : n ≤ 8 := by omega
    clear hn
    go_enter Tryz.func63, Tryz.ntmps63
    go_wp2
    go_quiet (fail)
    go_wp2
    go_ret2
    exact ⟨rfl, _, rfl⟩

theorem rfUint (rb : Nat) (v : Value) (zs : List Int) (k : Nat) (n : Int) (w : World) (h : Rf w rb v zs k) :
    Calls Tryz.prog 63 #[.pointer (some ⟨rb, 0, none⟩), .int .i64 n] w fun e w' =>
      e = .returned (.tuple #[.int .u64 (rdU zs k n (rdErr0 n ((zs.length : Int) - k))), .int .i64 (rdErr0 n ((zs.length : Int) - k))]) ∧ RfTo w rb v zs (rdK k n (rdErr0 n ((zs.length : Int) - k))) w' := by
  unfold rdU rdK
  by_cases he : rdErr0 n ((zs.length : Int) - k) = 0
  · obtain ⟨e1, e2, e3⟩ := rdErr0_zero he
    obtain ⟨m, rfl⟩ := Int.eq_ofNat_of_zero_le (show 0 ≤ n by omega)
    rw [if_pos he, if_pos he, he]
    exact rfUintOk rb v zs k m w h (by omega) (by omega) (by omega)
  · rw [if_neg he, if_neg he]
    exact (rfUintErr rb v zs k n w h he).mono fun e w' ⟨a, b⟩ => ⟨a, RfTo.of_drawn h b⟩

set_option maxHeartbeats 4000000 in
theorem rfInt (rb : Nat) (v : Value) (zs : List Int) (k : Nat) (n : Int) (w : World) (h : Rf w rb v zs k) :
    Calls Tryz.prog 97 #[.pointer (some ⟨rb, 0, none⟩), .int .i64 n] w fun e w' =>
      e = .returned (.tuple #[.int .i64 (rdI zs k n (rdErr0 n ((zs.length : Int) - k))), .int .i64 (rdErr0 n ((zs.length : Int) - k))]) ∧ RfTo w rb v zs (rdK k n (rdErr0 n ((zs.length : Int) - k))) w' := by
  have hU := rfUint rb v zs k n w h
  unfold rdU at hU
  unfold rdI
  by_cases he : rdErr0 n ((zs.length : Int) - k) = 0
  · obtain ⟨e1, e2, e3⟩ := rdErr0_zero he
    obtain ⟨m, rfl⟩ := Int.eq_ofNat_of_zero_le (show 0 ≤ n by omega)
    rw [if_pos he, he] at hU
    rw [if_pos he, he]
    clear he
    rw [show ((m : Int)).toNat = m by omega] at *
    have hbz : Bytish zs := by obtain ⟨_, _, _, _, _, _, hb, _⟩ := h.byt; exact hb
    have hval := valB_lt m ((zs.drop k).take m) (by simp; omega) ((hbz.drop k).take m)
    generalize valB ((zs.drop k).take m) = val at *
    have HU := Lib.hid hU
    have hm1 : 1 ≤ m := by omega
    have hm8 : m ≤ 8 := by omega
    clear hU hbz e1 e2 e3 h
    rcases width_cases hm1 hm8 with rfl | rfl | rfl | rfl | rfl | rfl | rfl | rfl
    all_goals
      simp only [Int.reducePow] at hval
      clear hm1 hm8
      go_enter Tryz.func97, Tryz.ntmps97
      go_wp2_with (go_at_call 63; refine HU.out.mono ?_; rintro e w1 ⟨rfl, hto⟩)
    all_goals go_ret2
    all_goals refine ⟨?_, hto⟩
    all_goals refine congrArg (fun z => Ending.returned (.tuple #[.int .i64 z, .int .i64 0])) ?_
    all_goals unfold sgn
    all_goals simp only [Nat.reduceMul, Nat.reduceSub, Int.reducePow, beq_iff_eq, beq_eq_false_iff_ne, wrapI] at *
    all_goals split <;> omega
  · rw [if_neg he] at hU ⊢
    have hne : (rdErr0 n ((zs.length : Int) - k) == 0) = false := by simpa using he
    have hne' : (rdErr0 n ((zs.length : Int) - k) != 0) = true := by simpa using he
    have HU := Lib.hid hU
    clear hU he
    go_enter Tryz.func97, Tryz.ntmps97
    go_wp2_with (go_at_call 63; refine HU.out.mono ?_; rintro e w1 ⟨rfl, hto⟩)
    go_ret2
    exact ⟨rfl, hto⟩

set_option maxHeartbeats 2000000 in
set_option maxRecDepth 100000 in
theorem rfBytesOk (rb : Nat) (v : Value) (zs : List Int) (k n : Nat) (w : World) (h : Rf w rb v zs k) (hn1 : 1 ≤ n) (hroom : k + n ≤ zs.length) :
    Calls Tryz.prog 95 #[.pointer (some ⟨rb, 0, none⟩), .int .i64 n] w fun e w' =>
      ∃ v', e = .returned (.tuple #[v', .int .i64 0]) ∧ RfTo w rb v zs (k + n) w' ∧ w'.ownsRow w.heap.size 5 1 v' n (((zs.drop k).take n).map (Value.int .u8)) := by
  obtain ⟨i0, hi, hz0, hz1, hz2⟩ := info_parts info_u8
  obtain ⟨ao, cap, rfl, hq1, hq2, hq3, hbz, hcells⟩ := id h.byt
  have hlim := h.lim
  obtain ⟨x, rfl⟩ : ∃ x, ao = some x := by cases ao with | none => have := hq3 rfl; omega | some x => exact ⟨x, rfl⟩
  have hc := hcells x rfl
  obtain ⟨b, o, rfl⟩ : ∃ b o, x = ⟨b, o, none⟩ := ⟨_, _, plain_of_cell (hc 0 (by omega))⟩
  have h0 := cell_blk h.blk 0
  have h1 := cell_blk h.blk 1
  have f1 := frozen_blk h.blk 1
  have hrb := h.lt
  have hck : ¬ cap = k := by omega
  simp at h0 h1
  clear hcells hq3
  have hq2' : cap ≤ 9223372036854775807 := by unfold maxLen at hq2; omega
  have hlen : ((zs.drop k).take n).length = n := by simp; omega
  have hsrc : Src w.drew 1 (.slice (some ⟨b, o + k, none⟩) n (cap - k)) n (((zs.drop k).take n).map (Value.int .u8)) := by
    refine ⟨by simp; omega, ints_oneCell _ _, _, _, rfl, (fun e => by cases e), fun ad hd j u hu => ?_⟩
    cases hd
    have hj : j < n := by have := (List.getElem?_eq_some_iff.1 hu).1; simp at this; omega
    rw [add_lit, Nat.add_assoc, ← add_lit]
    show w.cell? _ = _
    rw [hc (k + j) (by omega), ← hu]
    simp [List.getD, List.getElem?_take, List.getElem?_drop, hj, List.getElem?_eq_getElem (show k + j < zs.length by omega)]
  have Hsrc := Lib.hid hsrc
  clear hsrc hc
  have hkn : k + n - k = n := by omega
  go_enter Tryz.func95, Tryz.ntmps95
  go_wp2
  go_quiet (fail)
  go_wp2
  have hd : Drawn w (w.drewN nq) := ⟨nq, rfl⟩
  have hsz : (w.drewN nq).heap.size = w.heap.size := rfl
  have Hsrc2 := Lib.hid (show Src (w.drewN nq).drew 1 (.slice (some ⟨b, o + k, none⟩) n (cap - k)) n (((zs.drop k).take n).map (Value.int .u8)) from Hsrc.out)
  have g0 : (w.drewN nq).cell? ⟨rb, 0, none⟩ = some (.slice (some ⟨b, o, none⟩) zs.length cap) := h0
  have g1 : (w.drewN nq).cell? ⟨rb, 1, none⟩ = some (.int .i64 k) := h1
  have hrf := h.drawn hd
  have Hsz := Lib.hid hsz
  rw [← Hsz.out] at hrb
  clear hsz h0 h1 Hsrc
  generalize w.drewN nq = w2 at *
  have e1 : IntKind.i64.wrap ((k : Int) + n) = (k : Int) + n := IntWalk.i64_in _ (by omega)
  have e2 : (0 : Int) ≤ (k : Int) + n := by omega
  have e3 : ((k : Int) + n).toNat = k + n := by omega
  have e4 : (k : Int) + n ≤ cap := by omega
  refine wp_region_held_drew (S := fun w' => w'.cell? ⟨rb, 0, none⟩ = some (.slice (some ⟨b, o, none⟩) zs.length cap) ∧ w'.cell? ⟨rb, 1, none⟩ = some (.int .i64 k)) (by kernel_rfl) ⟨g0, g1⟩ (fun hHeld => ?_)
  refine wpAnyH_take (i := 1) (v := ?_) (by simp only [List.getElem?_toArray, List.getElem?_cons_succ, List.getElem?_cons_zero]; rfl) (by kernel_rfl) (by kernel_rfl) (by kernel_rfl) (by exact fun _ _ _ h => h) (Or.inl ⟨by rfl, ?_⟩) (by assumption) ?_
  rotate_left 1
  · (intro w hSw; (try dsimp only at hSw); go_simp; try with_reducible rfl)
  try simp only [Act.put, List.setIfInBounds_toArray, List.set_cons_zero, List.set_cons_succ]
  refine wpAnyH_take (i := 2) (v := ?_) (by simp only [List.getElem?_toArray, List.getElem?_cons_succ, List.getElem?_cons_zero]; rfl) (by kernel_rfl) (by kernel_rfl) (by kernel_rfl) (by exact fun _ _ _ h => h) (Or.inl ⟨by rfl, ?_⟩) (by assumption) ?_
  rotate_left 1
  · (intro w hSw; (try dsimp only at hSw); go_simp; try with_reducible rfl)
  try simp only [Act.put, List.setIfInBounds_toArray, List.set_cons_zero, List.set_cons_succ]
  refine wpAnyH_take (i := 3) (v := ?_) (by simp only [List.getElem?_toArray, List.getElem?_cons_succ, List.getElem?_cons_zero]; rfl) (by kernel_rfl) (by kernel_rfl) (by kernel_rfl) (by exact fun _ _ _ h => h) (Or.inl ⟨by rfl, ?_⟩) (by assumption) ?_
  rotate_left 1
  · (intro w hSw; (try dsimp only at hSw); go_simp; try with_reducible rfl)
  try simp only [Act.put, List.setIfInBounds_toArray, List.set_cons_zero, List.set_cons_succ]
  refine wpAnyH_take (i := 4) (v := ?_) (by simp only [List.getElem?_toArray, List.getElem?_cons_succ, List.getElem?_cons_zero]; rfl) (by kernel_rfl) (by kernel_rfl) (by kernel_rfl) (by exact fun _ _ _ h => h) (Or.inl ⟨by rfl, ?_⟩) (by assumption) ?_
  rotate_left 1
  · (intro w hSw; (try dsimp only at hSw); go_simp; try with_reducible rfl)
  try simp only [Act.put, List.setIfInBounds_toArray, List.set_cons_zero, List.set_cons_succ]
  refine wpAnyH_take (i := 5) (v := ?_) (by simp only [List.getElem?_toArray, List.getElem?_cons_succ, List.getElem?_cons_zero]; rfl) (by kernel_rfl) (by kernel_rfl) (by kernel_rfl) (by exact fun _ _ _ h => h) (Or.inl ⟨by rfl, ?_⟩) (by assumption) ?_
  rotate_left 1
  · (intro w hSw; (try dsimp only at hSw); go_simp; try with_reducible rfl)
  try simp only [Act.put, List.setIfInBounds_toArray, List.set_cons_zero, List.set_cons_succ]
  refine wpAnyH_take (i := 6) (v := ?_) (by simp only [List.getElem?_toArray, List.getElem?_cons_succ, List.getElem?_cons_zero]; rfl) (by kernel_rfl) (by kernel_rfl) (by kernel_rfl) (by exact fun _ _ _ h => h) (Or.inl ⟨by rfl, ?_⟩) (by assumption) ?_
  rotate_left 1
  · (intro w hSw; (try dsimp only at hSw); go_simp; try with_reducible rfl)
  try simp only [Act.put, List.setIfInBounds_toArray, List.set_cons_zero, List.set_cons_succ]
  refine wpAnyH_take (i := 7) (v := ?_) (by simp only [List.getElem?_toArray, List.getElem?_cons_succ, List.getElem?_cons_zero]; rfl) (by kernel_rfl) (by kernel_rfl) (by kernel_rfl) (by exact fun _ _ _ h => h) (Or.inl ⟨by rfl, ?_⟩) (by assumption) ?_
  rotate_left 1
  · (intro w hSw; (try dsimp only at hSw); go_simp; try with_reducible rfl)
  try simp only [Act.put, List.setIfInBounds_toArray, List.set_cons_zero, List.set_cons_succ]
  refine wpAnyH_take (i := 8) (v := ?_) (by simp only [List.getElem?_toArray, List.getElem?_cons_succ, List.getElem?_cons_zero]; rfl) (by kernel_rfl) (by kernel_rfl) (by kernel_rfl) (by exact fun _ _ _ h => h) (Or.inl ⟨by rfl, ?_⟩) (by assumption) ?_
  rotate_left 1
  · (intro w hSw; (try dsimp only at hSw); go_simp; try with_reducible rfl)
  try simp only [Act.put, List.setIfInBounds_toArray, List.set_cons_zero, List.set_cons_succ]
  refine wpAnyH_take (i := 9) (v := ?_) (by simp only [List.getElem?_toArray, List.getElem?_cons_succ, List.getElem?_cons_zero]; rfl) (by kernel_rfl) (by kernel_rfl) (by kernel_rfl) (by exact fun _ _ _ h => h) (Or.inl ⟨by rfl, ?_⟩) (by assumption) ?_
  rotate_left 1
  · (intro w hSw; (try dsimp only at hSw); go_simp; try with_reducible rfl)
  try simp only [Act.put, List.setIfInBounds_toArray, List.set_cons_zero, List.set_cons_succ]
  refine wpAnyH_take (i := 10) (v := ?_) (by simp only [List.getElem?_toArray, List.getElem?_cons_succ, List.getElem?_cons_zero]; rfl) (by kernel_rfl) (by kernel_rfl) (by kernel_rfl) (by exact fun _ _ _ h => h) (Or.inl ⟨by rfl, ?_⟩) (by assumption) ?_
  rotate_left 1
  · (intro w hSw; (try dsimp only at hSw); go_simp; try with_reducible rfl)
  try simp only [Act.put, List.setIfInBounds_toArray, List.set_cons_zero, List.set_cons_succ]
  refine wpAnyH_take (i := 11) (v := ?_) (by simp only [List.getElem?_toArray, List.getElem?_cons_succ, List.getElem?_cons_zero]; rfl) (by kernel_rfl) (by kernel_rfl) (by kernel_rfl) (by exact fun _ _ _ h => h) (Or.inl ⟨by rfl, ?_⟩) (by assumption) ?_
  rotate_left 1
  · (intro w hSw; (try dsimp only at hSw); go_simp; try with_reducible rfl)
  try simp only [Act.put, List.setIfInBounds_toArray, List.set_cons_zero, List.set_cons_succ]
  refine wpAnyH_take (i := 12) (v := ?_) (by simp only [List.getElem?_toArray, List.getElem?_cons_succ, List.getElem?_cons_zero]; rfl) (by kernel_rfl) (by kernel_rfl) (by kernel_rfl) (by exact fun _ _ _ h => h) (Or.inl ⟨by rfl, ?_⟩) (by assumption) ?_
  rotate_left 1
  · (intro w hSw; (try dsimp only at hSw); go_simp; try with_reducible rfl)
  try simp only [Act.put, List.setIfInBounds_toArray, List.set_cons_zero, List.set_cons_succ]
  refine wpAnyH_take (i := 13) (v := ?_) (by simp only [List.getElem?_toArray, List.getElem?_cons_succ, List.getElem?_cons_zero]; rfl) (by kernel_rfl) (by kernel_rfl) (by kernel_rfl) (by exact fun _ _ _ h => h) (Or.inl ⟨by rfl, ?_⟩) (by assumption) ?_
  rotate_left 1
  · (intro w hSw; (try dsimp only at hSw); go_simp; try with_reducible rfl)
  try simp only [Act.put, List.setIfInBounds_toArray, List.set_cons_zero, List.set_cons_succ]
  refine wpAnyH_take (i := 14) (v := ?_) (by simp only [List.getElem?_toArray, List.getElem?_cons_succ, List.getElem?_cons_zero]; rfl) (by kernel_rfl) (by kernel_rfl) (by kernel_rfl) (by exact fun _ _ _ h => h) (Or.inl ⟨by rfl, ?_⟩) (by assumption) ?_
  rotate_left 1
  · (intro w hSw; (try dsimp only at hSw); go_simp; try with_reducible rfl)
  try simp only [Act.put, List.setIfInBounds_toArray, List.set_cons_zero, List.set_cons_succ]
  refine wpAnyH_take (i := 15) (v := ?_) (by simp only [List.getElem?_toArray, List.getElem?_cons_succ, List.getElem?_cons_zero]; rfl) (by kernel_rfl) (by kernel_rfl) (by kernel_rfl) (by exact fun _ _ _ h => h) (Or.inl ⟨by rfl, ?_⟩) (by assumption) ?_
  rotate_left 1
  · (intro w hSw; (try dsimp only at hSw); go_simp; try with_reducible rfl)
  try simp only [Act.put, List.setIfInBounds_toArray, List.set_cons_zero, List.set_cons_succ]
  refine wpAnyH_ready (rs := [0]) (by kernel_rfl) (by simp) ?_
  refine AllReadyH.cons (by simp only [List.getElem?_toArray, List.getElem?_cons_succ, List.getElem?_cons_zero]; rfl) (fun K hK => ?_) AllReadyH.nil
  go_simp
  refine hK.out _ _ ?_ (fun hHeld2 => ?_)
  · exact ⟨(World.cell?_alloc_lt _ _ _ hrb).trans g0, (World.cell?_alloc_lt _ _ _ hrb).trans g1⟩
  clear hK K
  try simp only [Act.put, List.setIfInBounds_toArray, List.set_cons_zero, List.set_cons_succ]
  clear hHeld
  have hHeld := hHeld2
  clear hHeld2
  refine wpAnyH_ready (rs := [16]) (by kernel_rfl) (by simp) ?_
  refine AllReadyH.cons (by simp only [List.getElem?_toArray, List.getElem?_cons_succ, List.getElem?_cons_zero]; rfl) (fun K hK => ?_) AllReadyH.nil
  (refine step_append_src rfl (.tmp 21) (.tmp 36) 27 rfl 5 i0 (.int .u8 0) 1 1 Tryz.underlying27 hi hz0 hz1 hz2 rfl (by decide) w2.heap.size (.slice (some ⟨w2.heap.size, 0, none⟩) 0 0) 0 [] rfl (by exact World.ownsRow_made _ #[] 0 (Nat.le_refl _) (Nat.zero_le _) rfl) (by simp) (.slice (some ⟨b, o + k, none⟩) n (cap - k)) n (((zs.drop k).take n).map (Value.int .u8)) rfl (by exact Hsrc2.out.alloc _) (by unfold maxLen; omega) (by omega) ?_; intro v' w1 hown1 hgrow1 hnew1; have hbel := Below.grown (B := w2.heap.size) (((Below.drew (Below.refl _ w2)).alloc (Nat.le_refl _) _)) hgrow1 (by simp) (fun k hk => by simp [Value.ownBlock] at hk; omega); have x0 := (hbel.cell (p := ⟨rb, 0, none⟩) hrb).trans g0; have x1 := (hbel.cell (p := ⟨rb, 1, none⟩) hrb).trans g1)
  refine hK.out _ _ ?_ (fun hHeld2 => ?_)
  · exact ⟨x0, x1⟩
  clear hK K
  try simp only [Act.put, List.setIfInBounds_toArray, List.set_cons_zero, List.set_cons_succ]
  clear hHeld
  have hHeld := hHeld2
  clear hHeld2
  refine wpAnyH_take (i := 17) (v := ?_) (by simp only [List.getElem?_toArray, List.getElem?_cons_succ, List.getElem?_cons_zero]; rfl) (by kernel_rfl) (by kernel_rfl) (by kernel_rfl) (by exact fun _ _ _ h => h) (Or.inl ⟨by rfl, ?_⟩) (by assumption) ?_
  rotate_left 1
  · (intro w hSw; (try dsimp only at hSw); go_simp; try with_reducible rfl)
  try simp only [Act.put, List.setIfInBounds_toArray, List.set_cons_zero, List.set_cons_succ]
  refine wpAnyH_done (by kernel_rfl) ?_ _
  have fz := (hbel.frozen (p := ⟨rb, 1, none⟩) hrb).trans (frozen_blk hrf.blk 1)
  have hrf2 := hrf.only (Only.of_below hbel (fun _ => False)) (fun h => h) (fun _ _ _ h => h)
  have hset := hrf2.set (k' := k + n) (by omega)
  rw [Int.natCast_add] at hset
  have ho := (hd.only (S := fun b => b = rb)).trans (Only.of_below hbel (fun b => b = rb)) (fun _ hi _ => hi)
  have Hown := Lib.hid hown1
  clear hrf hrf2 hHeld hown1 hgrow1 hnew1 e1 e2 e3 e4 hkn g0 g1
  go_wp2
  go_ret2
  exact ⟨_, rfl, ⟨hset.1, ho.trans hset.2 (fun _ hi _ => hi)⟩, by have h3 := hset.2.owns Hown.out (fun b hb e => by have := (Hown.out.lt b hb).1; omega); rw [Hsz.out] at h3; simpa using h3⟩

set_option maxHeartbeats 2000000 in
set_option maxRecDepth 100000 in
theorem rfBytesZeroN (rb : Nat) (w : World) (h : Rf w rb (.slice none 0 0) [] 0)  :
    Calls Tryz.prog 95 #[.pointer (some ⟨rb, 0, none⟩), .int .i64 0] w fun e w' =>
      ∃ v', e = .returned (.tuple #[v', .int .i64 0]) ∧ RfTo w rb (.slice none 0 0) [] 0 w' ∧ w'.ownsRow w.heap.size 5 1 v' 0 [] := by
  obtain ⟨i0, hi, hz0, hz1, hz2⟩ := info_parts info_u8
  have hle := h.le
  have h0 := cell_blk h.blk 0
  have h1 := cell_blk h.blk 1
  have hrb := h.lt
  simp at h0 h1
  go_enter Tryz.func95, Tryz.ntmps95
  go_wp2
  go_quiet (fail)
  go_wp2
  have hd : Drawn w (w.drewN nq) := ⟨nq, rfl⟩
  have hsz : (w.drewN nq).heap.size = w.heap.size := rfl
  have g0 : (w.drewN nq).cell? ⟨rb, 0, none⟩ = some (.slice none 0 0) := h0
  have g1 : (w.drewN nq).cell? ⟨rb, 1, none⟩ = some (.int .i64 0) := h1
  have hrf := h.drawn hd
  have Hsz := Lib.hid hsz
  rw [← Hsz.out] at hrb
  clear hsz h0 h1
  generalize w.drewN nq = w2 at *
  have e1 : IntKind.i64.wrap 0 = 0 := IntWalk.i64_in _ (by omega)
  refine wp_region_held_drew (S := fun w' => w'.cell? ⟨rb, 0, none⟩ = some (.slice none 0 0) ∧ w'.cell? ⟨rb, 1, none⟩ = some (.int .i64 0)) (by kernel_rfl) ⟨g0, g1⟩ (fun hHeld => ?_)
  refine wpAnyH_take (i := 1) (v := ?_) (by simp only [List.getElem?_toArray, List.getElem?_cons_succ, List.getElem?_cons_zero]; rfl) (by kernel_rfl) (by kernel_rfl) (by kernel_rfl) (by exact fun _ _ _ h => h) (Or.inl ⟨by rfl, ?_⟩) (by assumption) ?_
  rotate_left 1
  · (intro w hSw; (try dsimp only at hSw); go_simp; try with_reducible rfl)
  try simp only [Act.put, List.setIfInBounds_toArray, List.set_cons_zero, List.set_cons_succ]
  refine wpAnyH_take (i := 2) (v := ?_) (by simp only [List.getElem?_toArray, List.getElem?_cons_succ, List.getElem?_cons_zero]; rfl) (by kernel_rfl) (by kernel_rfl) (by kernel_rfl) (by exact fun _ _ _ h => h) (Or.inl ⟨by rfl, ?_⟩) (by assumption) ?_
  rotate_left 1
  · (intro w hSw; (try dsimp only at hSw); go_simp; try with_reducible rfl)
  try simp only [Act.put, List.setIfInBounds_toArray, List.set_cons_zero, List.set_cons_succ]
  refine wpAnyH_take (i := 3) (v := ?_) (by simp only [List.getElem?_toArray, List.getElem?_cons_succ, List.getElem?_cons_zero]; rfl) (by kernel_rfl) (by kernel_rfl) (by kernel_rfl) (by exact fun _ _ _ h => h) (Or.inl ⟨by rfl, ?_⟩) (by assumption) ?_
  rotate_left 1
  · (intro w hSw; (try dsimp only at hSw); go_simp; try with_reducible rfl)
  try simp only [Act.put, List.setIfInBounds_toArray, List.set_cons_zero, List.set_cons_succ]
  refine wpAnyH_take (i := 4) (v := ?_) (by simp only [List.getElem?_toArray, List.getElem?_cons_succ, List.getElem?_cons_zero]; rfl) (by kernel_rfl) (by kernel_rfl) (by kernel_rfl) (by exact fun _ _ _ h => h) (Or.inl ⟨by rfl, ?_⟩) (by assumption) ?_
  rotate_left 1
  · (intro w hSw; (try dsimp only at hSw); go_simp; try with_reducible rfl)
  try simp only [Act.put, List.setIfInBounds_toArray, List.set_cons_zero, List.set_cons_succ]
  refine wpAnyH_take (i := 5) (v := ?_) (by simp only [List.getElem?_toArray, List.getElem?_cons_succ, List.getElem?_cons_zero]; rfl) (by kernel_rfl) (by kernel_rfl) (by kernel_rfl) (by exact fun _ _ _ h => h) (Or.inl ⟨by rfl, ?_⟩) (by assumption) ?_
  rotate_left 1
  · (intro w hSw; (try dsimp only at hSw); go_simp; try with_reducible rfl)
  try simp only [Act.put, List.setIfInBounds_toArray, List.set_cons_zero, List.set_cons_succ]
  refine wpAnyH_take (i := 6) (v := ?_) (by simp only [List.getElem?_toArray, List.getElem?_cons_succ, List.getElem?_cons_zero]; rfl) (by kernel_rfl) (by kernel_rfl) (by kernel_rfl) (by exact fun _ _ _ h => h) (Or.inl ⟨by rfl, ?_⟩) (by assumption) ?_
  rotate_left 1
  · (intro w hSw; (try dsimp only at hSw); go_simp; try with_reducible rfl)
  try simp only [Act.put, List.setIfInBounds_toArray, List.set_cons_zero, List.set_cons_succ]
  refine wpAnyH_take (i := 7) (v := ?_) (by simp only [List.getElem?_toArray, List.getElem?_cons_succ, List.getElem?_cons_zero]; rfl) (by kernel_rfl) (by kernel_rfl) (by kernel_rfl) (by exact fun _ _ _ h => h) (Or.inl ⟨by rfl, ?_⟩) (by assumption) ?_
  rotate_left 1
  · (intro w hSw; (try dsimp only at hSw); go_simp; try with_reducible rfl)
  try simp only [Act.put, List.setIfInBounds_toArray, List.set_cons_zero, List.set_cons_succ]
  refine wpAnyH_take (i := 8) (v := ?_) (by simp only [List.getElem?_toArray, List.getElem?_cons_succ, List.getElem?_cons_zero]; rfl) (by kernel_rfl) (by kernel_rfl) (by kernel_rfl) (by exact fun _ _ _ h => h) (Or.inl ⟨by rfl, ?_⟩) (by assumption) ?_
  rotate_left 1
  · (intro w hSw; (try dsimp only at hSw); go_simp; try with_reducible rfl)
  try simp only [Act.put, List.setIfInBounds_toArray, List.set_cons_zero, List.set_cons_succ]
  refine wpAnyH_take (i := 9) (v := ?_) (by simp only [List.getElem?_toArray, List.getElem?_cons_succ, List.getElem?_cons_zero]; rfl) (by kernel_rfl) (by kernel_rfl) (by kernel_rfl) (by exact fun _ _ _ h => h) (Or.inl ⟨by rfl, ?_⟩) (by assumption) ?_
  rotate_left 1
  · (intro w hSw; (try dsimp only at hSw); go_simp; try with_reducible rfl)
  try simp only [Act.put, List.setIfInBounds_toArray, List.set_cons_zero, List.set_cons_succ]
  refine wpAnyH_take (i := 10) (v := ?_) (by simp only [List.getElem?_toArray, List.getElem?_cons_succ, List.getElem?_cons_zero]; rfl) (by kernel_rfl) (by kernel_rfl) (by kernel_rfl) (by exact fun _ _ _ h => h) (Or.inl ⟨by rfl, ?_⟩) (by assumption) ?_
  rotate_left 1
  · (intro w hSw; (try dsimp only at hSw); go_simp; try with_reducible rfl)
  try simp only [Act.put, List.setIfInBounds_toArray, List.set_cons_zero, List.set_cons_succ]
  refine wpAnyH_take (i := 11) (v := ?_) (by simp only [List.getElem?_toArray, List.getElem?_cons_succ, List.getElem?_cons_zero]; rfl) (by kernel_rfl) (by kernel_rfl) (by kernel_rfl) (by exact fun _ _ _ h => h) (Or.inl ⟨by rfl, ?_⟩) (by assumption) ?_
  rotate_left 1
  · (intro w hSw; (try dsimp only at hSw); go_simp; try with_reducible rfl)
  try simp only [Act.put, List.setIfInBounds_toArray, List.set_cons_zero, List.set_cons_succ]
  refine wpAnyH_take (i := 12) (v := ?_) (by simp only [List.getElem?_toArray, List.getElem?_cons_succ, List.getElem?_cons_zero]; rfl) (by kernel_rfl) (by kernel_rfl) (by kernel_rfl) (by exact fun _ _ _ h => h) (Or.inl ⟨by rfl, ?_⟩) (by assumption) ?_
  rotate_left 1
  · (intro w hSw; (try dsimp only at hSw); go_simp; try with_reducible rfl)
  try simp only [Act.put, List.setIfInBounds_toArray, List.set_cons_zero, List.set_cons_succ]
  refine wpAnyH_take (i := 13) (v := ?_) (by simp only [List.getElem?_toArray, List.getElem?_cons_succ, List.getElem?_cons_zero]; rfl) (by kernel_rfl) (by kernel_rfl) (by kernel_rfl) (by exact fun _ _ _ h => h) (Or.inl ⟨by rfl, ?_⟩) (by assumption) ?_
  rotate_left 1
  · (intro w hSw; (try dsimp only at hSw); go_simp; try with_reducible rfl)
  try simp only [Act.put, List.setIfInBounds_toArray, List.set_cons_zero, List.set_cons_succ]
  refine wpAnyH_take (i := 14) (v := ?_) (by simp only [List.getElem?_toArray, List.getElem?_cons_succ, List.getElem?_cons_zero]; rfl) (by kernel_rfl) (by kernel_rfl) (by kernel_rfl) (by exact fun _ _ _ h => h) (Or.inl ⟨by rfl, ?_⟩) (by assumption) ?_
  rotate_left 1
  · (intro w hSw; (try dsimp only at hSw); go_simp; try with_reducible rfl)
  try simp only [Act.put, List.setIfInBounds_toArray, List.set_cons_zero, List.set_cons_succ]
  refine wpAnyH_take (i := 15) (v := ?_) (by simp only [List.getElem?_toArray, List.getElem?_cons_succ, List.getElem?_cons_zero]; rfl) (by kernel_rfl) (by kernel_rfl) (by kernel_rfl) (by exact fun _ _ _ h => h) (Or.inl ⟨by rfl, ?_⟩) (by assumption) ?_
  rotate_left 1
  · (intro w hSw; (try dsimp only at hSw); go_simp; try with_reducible rfl)
  try simp only [Act.put, List.setIfInBounds_toArray, List.set_cons_zero, List.set_cons_succ]
  refine wpAnyH_ready (rs := [0]) (by kernel_rfl) (by simp) ?_
  refine AllReadyH.cons (by simp only [List.getElem?_toArray, List.getElem?_cons_succ, List.getElem?_cons_zero]; rfl) (fun K hK => ?_) AllReadyH.nil
  go_simp
  refine hK.out _ _ ?_ (fun hHeld2 => ?_)
  · exact ⟨(World.cell?_alloc_lt _ _ _ hrb).trans g0, (World.cell?_alloc_lt _ _ _ hrb).trans g1⟩
  clear hK K
  try simp only [Act.put, List.setIfInBounds_toArray, List.set_cons_zero, List.set_cons_succ]
  clear hHeld
  have hHeld := hHeld2
  clear hHeld2
  refine wpAnyH_ready (rs := [16]) (by kernel_rfl) (by simp) ?_
  refine AllReadyH.cons (by simp only [List.getElem?_toArray, List.getElem?_cons_succ, List.getElem?_cons_zero]; rfl) (fun K hK => ?_) AllReadyH.nil
  (refine step_append_src rfl (.tmp 21) (.tmp 36) 27 rfl 5 i0 (.int .u8 0) 1 1 Tryz.underlying27 hi hz0 hz1 hz2 rfl (by decide) w2.heap.size (.slice (some ⟨w2.heap.size, 0, none⟩) 0 0) 0 [] rfl (by exact World.ownsRow_made _ #[] 0 (Nat.le_refl _) (Nat.zero_le _) rfl) (by simp) _ 0 [] rfl (by refine ⟨rfl, (fun _ h => by cases h), _, _, rfl, ?_, fun ad hd j u hu => by simp at hu⟩; intro e; first | (cases e; done) | exact ⟨rfl, by omega⟩) (by unfold maxLen; omega) (by omega) ?_; intro v' w1 hown1 hgrow1 hnew1; have hbel := Below.grown (B := w2.heap.size) (((Below.drew (Below.refl _ w2)).alloc (Nat.le_refl _) _)) hgrow1 (by simp) (fun k hk => by simp [Value.ownBlock] at hk; omega); have x0 := (hbel.cell (p := ⟨rb, 0, none⟩) hrb).trans g0; have x1 := (hbel.cell (p := ⟨rb, 1, none⟩) hrb).trans g1)
  refine hK.out _ _ ?_ (fun hHeld2 => ?_)
  · exact ⟨x0, x1⟩
  clear hK K
  try simp only [Act.put, List.setIfInBounds_toArray, List.set_cons_zero, List.set_cons_succ]
  clear hHeld
  have hHeld := hHeld2
  clear hHeld2
  refine wpAnyH_take (i := 17) (v := ?_) (by simp only [List.getElem?_toArray, List.getElem?_cons_succ, List.getElem?_cons_zero]; rfl) (by kernel_rfl) (by kernel_rfl) (by kernel_rfl) (by exact fun _ _ _ h => h) (Or.inl ⟨by rfl, ?_⟩) (by assumption) ?_
  rotate_left 1
  · (intro w hSw; (try dsimp only at hSw); go_simp; try with_reducible rfl)
  try simp only [Act.put, List.setIfInBounds_toArray, List.set_cons_zero, List.set_cons_succ]
  refine wpAnyH_done (by kernel_rfl) ?_ _
  have fz := (hbel.frozen (p := ⟨rb, 1, none⟩) hrb).trans (frozen_blk hrf.blk 1)
  have hrf2 := hrf.only (Only.of_below hbel (fun _ => False)) (fun h => h) (fun _ _ _ h => h)
  have hset := hrf2.set (k' := 0) hle
  have ho := (hd.only (S := fun b => b = rb)).trans (Only.of_below hbel (fun b => b = rb)) (fun _ hi _ => hi)
  have Hown := Lib.hid hown1
  clear hrf hrf2 hHeld hown1 hgrow1 hnew1 g0 g1 e1
  go_wp2
  go_ret2
  exact ⟨_, rfl, ⟨hset.1, ho.trans hset.2 (fun _ hi _ => hi)⟩, by have h3 := hset.2.owns Hown.out (fun b hb e => by have := (Hown.out.lt b hb).1; omega); rw [Hsz.out] at h3; simpa using h3⟩

set_option maxHeartbeats 2000000 in
set_option maxRecDepth 100000 in
theorem rfBytesZeroE (rb : Nat) (x : Addr) (zs : List Int) (w : World) (h : Rf w rb (.slice (some x) zs.length zs.length) zs zs.length) (hq2 : zs.length ≤ 9223372036854775807)  :
    Calls Tryz.prog 95 #[.pointer (some ⟨rb, 0, none⟩), .int .i64 0] w fun e w' =>
      ∃ v', e = .returned (.tuple #[v', .int .i64 0]) ∧ RfTo w rb (.slice (some x) zs.length zs.length) zs zs.length w' ∧ w'.ownsRow w.heap.size 5 1 v' 0 [] := by
  obtain ⟨i0, hi, hz0, hz1, hz2⟩ := info_parts info_u8
  have hle := h.le
  have h0 := cell_blk h.blk 0
  have h1 := cell_blk h.blk 1
  have hrb := h.lt
  simp at h0 h1
  go_enter Tryz.func95, Tryz.ntmps95
  go_wp2
  go_quiet (fail)
  go_wp2
  have hd : Drawn w (w.drewN nq) := ⟨nq, rfl⟩
  have hsz : (w.drewN nq).heap.size = w.heap.size := rfl
  have g0 : (w.drewN nq).cell? ⟨rb, 0, none⟩ = some (.slice (some x) zs.length zs.length) := h0
  have g1 : (w.drewN nq).cell? ⟨rb, 1, none⟩ = some (.int .i64 zs.length) := h1
  have hrf := h.drawn hd
  have Hsz := Lib.hid hsz
  rw [← Hsz.out] at hrb
  clear hsz h0 h1
  generalize w.drewN nq = w2 at *
  have e1 : IntKind.i64.wrap (zs.length : Int) = (zs.length : Int) := IntWalk.i64_in _ (by omega)
  refine wp_region_held_drew (S := fun w' => w'.cell? ⟨rb, 0, none⟩ = some (.slice (some x) zs.length zs.length) ∧ w'.cell? ⟨rb, 1, none⟩ = some (.int .i64 zs.length)) (by kernel_rfl) ⟨g0, g1⟩ (fun hHeld => ?_)
  refine wpAnyH_take (i := 1) (v := ?_) (by simp only [List.getElem?_toArray, List.getElem?_cons_succ, List.getElem?_cons_zero]; rfl) (by kernel_rfl) (by kernel_rfl) (by kernel_rfl) (by exact fun _ _ _ h => h) (Or.inl ⟨by rfl, ?_⟩) (by assumption) ?_
  rotate_left 1
  · (intro w hSw; (try dsimp only at hSw); go_simp; try with_reducible rfl)
  try simp only [Act.put, List.setIfInBounds_toArray, List.set_cons_zero, List.set_cons_succ]
  refine wpAnyH_take (i := 2) (v := ?_) (by simp only [List.getElem?_toArray, List.getElem?_cons_succ, List.getElem?_cons_zero]; rfl) (by kernel_rfl) (by kernel_rfl) (by kernel_rfl) (by exact fun _ _ _ h => h) (Or.inl ⟨by rfl, ?_⟩) (by assumption) ?_
  rotate_left 1
  · (intro w hSw; (try dsimp only at hSw); go_simp; try with_reducible rfl)
  try simp only [Act.put, List.setIfInBounds_toArray, List.set_cons_zero, List.set_cons_succ]
  refine wpAnyH_take (i := 3) (v := ?_) (by simp only [List.getElem?_toArray, List.getElem?_cons_succ, List.getElem?_cons_zero]; rfl) (by kernel_rfl) (by kernel_rfl) (by kernel_rfl) (by exact fun _ _ _ h => h) (Or.inl ⟨by rfl, ?_⟩) (by assumption) ?_
  rotate_left 1
  · (intro w hSw; (try dsimp only at hSw); go_simp; try with_reducible rfl)
  try simp only [Act.put, List.setIfInBounds_toArray, List.set_cons_zero, List.set_cons_succ]
  refine wpAnyH_take (i := 4) (v := ?_) (by simp only [List.getElem?_toArray, List.getElem?_cons_succ, List.getElem?_cons_zero]; rfl) (by kernel_rfl) (by kernel_rfl) (by kernel_rfl) (by exact fun _ _ _ h => h) (Or.inl ⟨by rfl, ?_⟩) (by assumption) ?_
  rotate_left 1
  · (intro w hSw; (try dsimp only at hSw); go_simp; try with_reducible rfl)
  try simp only [Act.put, List.setIfInBounds_toArray, List.set_cons_zero, List.set_cons_succ]
  refine wpAnyH_take (i := 5) (v := ?_) (by simp only [List.getElem?_toArray, List.getElem?_cons_succ, List.getElem?_cons_zero]; rfl) (by kernel_rfl) (by kernel_rfl) (by kernel_rfl) (by exact fun _ _ _ h => h) (Or.inl ⟨by rfl, ?_⟩) (by assumption) ?_
  rotate_left 1
  · (intro w hSw; (try dsimp only at hSw); go_simp; try with_reducible rfl)
  try simp only [Act.put, List.setIfInBounds_toArray, List.set_cons_zero, List.set_cons_succ]
  refine wpAnyH_take (i := 6) (v := ?_) (by simp only [List.getElem?_toArray, List.getElem?_cons_succ, List.getElem?_cons_zero]; rfl) (by kernel_rfl) (by kernel_rfl) (by kernel_rfl) (by exact fun _ _ _ h => h) (Or.inl ⟨by rfl, ?_⟩) (by assumption) ?_
  rotate_left 1
  · (intro w hSw; (try dsimp only at hSw); go_simp; try with_reducible rfl)
  try simp only [Act.put, List.setIfInBounds_toArray, List.set_cons_zero, List.set_cons_succ]
  refine wpAnyH_take (i := 7) (v := ?_) (by simp only [List.getElem?_toArray, List.getElem?_cons_succ, List.getElem?_cons_zero]; rfl) (by kernel_rfl) (by kernel_rfl) (by kernel_rfl) (by exact fun _ _ _ h => h) (Or.inl ⟨by rfl, ?_⟩) (by assumption) ?_
  rotate_left 1
  · (intro w hSw; (try dsimp only at hSw); go_simp; try with_reducible rfl)
  try simp only [Act.put, List.setIfInBounds_toArray, List.set_cons_zero, List.set_cons_succ]
  refine wpAnyH_take (i := 8) (v := ?_) (by simp only [List.getElem?_toArray, List.getElem?_cons_succ, List.getElem?_cons_zero]; rfl) (by kernel_rfl) (by kernel_rfl) (by kernel_rfl) (by exact fun _ _ _ h => h) (Or.inl ⟨by rfl, ?_⟩) (by assumption) ?_
  rotate_left 1
  · (intro w hSw; (try dsimp only at hSw); go_simp; try with_reducible rfl)
  try simp only [Act.put, List.setIfInBounds_toArray, List.set_cons_zero, List.set_cons_succ]
  refine wpAnyH_take (i := 9) (v := ?_) (by simp only [List.getElem?_toArray, List.getElem?_cons_succ, List.getElem?_cons_zero]; rfl) (by kernel_rfl) (by kernel_rfl) (by kernel_rfl) (by exact fun _ _ _ h => h) (Or.inl ⟨by rfl, ?_⟩) (by assumption) ?_
  rotate_left 1
  · (intro w hSw; (try dsimp only at hSw); go_simp; try with_reducible rfl)
  try simp only [Act.put, List.setIfInBounds_toArray, List.set_cons_zero, List.set_cons_succ]
  refine wpAnyH_take (i := 10) (v := ?_) (by simp only [List.getElem?_toArray, List.getElem?_cons_succ, List.getElem?_cons_zero]; rfl) (by kernel_rfl) (by kernel_rfl) (by kernel_rfl) (by exact fun _ _ _ h => h) (Or.inl ⟨by rfl, ?_⟩) (by assumption) ?_
  rotate_left 1
  · (intro w hSw; (try dsimp only at hSw); go_simp; try with_reducible rfl)
  try simp only [Act.put, List.setIfInBounds_toArray, List.set_cons_zero, List.set_cons_succ]
  refine wpAnyH_take (i := 11) (v := ?_) (by simp only [List.getElem?_toArray, List.getElem?_cons_succ, List.getElem?_cons_zero]; rfl) (by kernel_rfl) (by kernel_rfl) (by kernel_rfl) (by exact fun _ _ _ h => h) (Or.inl ⟨by rfl, ?_⟩) (by assumption) ?_
  rotate_left 1
  · (intro w hSw; (try dsimp only at hSw); go_simp; try with_reducible rfl)
  try simp only [Act.put, List.setIfInBounds_toArray, List.set_cons_zero, List.set_cons_succ]
  refine wpAnyH_take (i := 12) (v := ?_) (by simp only [List.getElem?_toArray, List.getElem?_cons_succ, List.getElem?_cons_zero]; rfl) (by kernel_rfl) (by kernel_rfl) (by kernel_rfl) (by exact fun _ _ _ h => h) (Or.inl ⟨by rfl, ?_⟩) (by assumption) ?_
  rotate_left 1
  · (intro w hSw; (try dsimp only at hSw); go_simp; try with_reducible rfl)
  try simp only [Act.put, List.setIfInBounds_toArray, List.set_cons_zero, List.set_cons_succ]
  refine wpAnyH_take (i := 13) (v := ?_) (by simp only [List.getElem?_toArray, List.getElem?_cons_succ, List.getElem?_cons_zero]; rfl) (by kernel_rfl) (by kernel_rfl) (by kernel_rfl) (by exact fun _ _ _ h => h) (Or.inl ⟨by rfl, ?_⟩) (by assumption) ?_
  rotate_left 1
  · (intro w hSw; (try dsimp only at hSw); go_simp; try with_reducible rfl)
  try simp only [Act.put, List.setIfInBounds_toArray, List.set_cons_zero, List.set_cons_succ]
  refine wpAnyH_take (i := 14) (v := ?_) (by simp only [List.getElem?_toArray, List.getElem?_cons_succ, List.getElem?_cons_zero]; rfl) (by kernel_rfl) (by kernel_rfl) (by kernel_rfl) (by exact fun _ _ _ h => h) (Or.inl ⟨by rfl, ?_⟩) (by assumption) ?_
  rotate_left 1
  · (intro w hSw; (try dsimp only at hSw); go_simp; try with_reducible rfl)
  try simp only [Act.put, List.setIfInBounds_toArray, List.set_cons_zero, List.set_cons_succ]
  refine wpAnyH_take (i := 15) (v := ?_) (by simp only [List.getElem?_toArray, List.getElem?_cons_succ, List.getElem?_cons_zero]; rfl) (by kernel_rfl) (by kernel_rfl) (by kernel_rfl) (by exact fun _ _ _ h => h) (Or.inl ⟨by rfl, ?_⟩) (by assumption) ?_
  rotate_left 1
  · (intro w hSw; (try dsimp only at hSw); go_simp; try with_reducible rfl)
  try simp only [Act.put, List.setIfInBounds_toArray, List.set_cons_zero, List.set_cons_succ]
  refine wpAnyH_ready (rs := [0]) (by kernel_rfl) (by simp) ?_
  refine AllReadyH.cons (by simp only [List.getElem?_toArray, List.getElem?_cons_succ, List.getElem?_cons_zero]; rfl) (fun K hK => ?_) AllReadyH.nil
  go_simp
  refine hK.out _ _ ?_ (fun hHeld2 => ?_)
  · exact ⟨(World.cell?_alloc_lt _ _ _ hrb).trans g0, (World.cell?_alloc_lt _ _ _ hrb).trans g1⟩
  clear hK K
  try simp only [Act.put, List.setIfInBounds_toArray, List.set_cons_zero, List.set_cons_succ]
  clear hHeld
  have hHeld := hHeld2
  clear hHeld2
  refine wpAnyH_ready (rs := [16]) (by kernel_rfl) (by simp) ?_
  refine AllReadyH.cons (by simp only [List.getElem?_toArray, List.getElem?_cons_succ, List.getElem?_cons_zero]; rfl) (fun K hK => ?_) AllReadyH.nil
  (refine step_append_src rfl (.tmp 21) (.tmp 36) 27 rfl 5 i0 (.int .u8 0) 1 1 Tryz.underlying27 hi hz0 hz1 hz2 rfl (by decide) w2.heap.size (.slice (some ⟨w2.heap.size, 0, none⟩) 0 0) 0 [] rfl (by exact World.ownsRow_made _ #[] 0 (Nat.le_refl _) (Nat.zero_le _) rfl) (by simp) _ 0 [] rfl (by refine ⟨rfl, (fun _ h => by cases h), _, _, rfl, ?_, fun ad hd j u hu => by simp at hu⟩; intro e; first | (cases e; done) | exact ⟨rfl, by omega⟩) (by unfold maxLen; omega) (by omega) ?_; intro v' w1 hown1 hgrow1 hnew1; have hbel := Below.grown (B := w2.heap.size) (((Below.drew (Below.refl _ w2)).alloc (Nat.le_refl _) _)) hgrow1 (by simp) (fun k hk => by simp [Value.ownBlock] at hk; omega); have x0 := (hbel.cell (p := ⟨rb, 0, none⟩) hrb).trans g0; have x1 := (hbel.cell (p := ⟨rb, 1, none⟩) hrb).trans g1)
  refine hK.out _ _ ?_ (fun hHeld2 => ?_)
  · exact ⟨x0, x1⟩
  clear hK K
  try simp only [Act.put, List.setIfInBounds_toArray, List.set_cons_zero, List.set_cons_succ]
  clear hHeld
  have hHeld := hHeld2
  clear hHeld2
  refine wpAnyH_take (i := 17) (v := ?_) (by simp only [List.getElem?_toArray, List.getElem?_cons_succ, List.getElem?_cons_zero]; rfl) (by kernel_rfl) (by kernel_rfl) (by kernel_rfl) (by exact fun _ _ _ h => h) (Or.inl ⟨by rfl, ?_⟩) (by assumption) ?_
  rotate_left 1
  · (intro w hSw; (try dsimp only at hSw); go_simp; try with_reducible rfl)
  try simp only [Act.put, List.setIfInBounds_toArray, List.set_cons_zero, List.set_cons_succ]
  refine wpAnyH_done (by kernel_rfl) ?_ _
  have fz := (hbel.frozen (p := ⟨rb, 1, none⟩) hrb).trans (frozen_blk hrf.blk 1)
  have hrf2 := hrf.only (Only.of_below hbel (fun _ => False)) (fun h => h) (fun _ _ _ h => h)
  have hset := hrf2.set (k' := zs.length) hle
  have ho := (hd.only (S := fun b => b = rb)).trans (Only.of_below hbel (fun b => b = rb)) (fun _ hi _ => hi)
  have Hown := Lib.hid hown1
  clear hrf hrf2 hHeld hown1 hgrow1 hnew1 g0 g1 e1
  go_wp2
  go_ret2
  exact ⟨_, rfl, ⟨hset.1, ho.trans hset.2 (fun _ hi _ => hi)⟩, by have h3 := hset.2.owns Hown.out (fun b hb e => by have := (Hown.out.lt b hb).1; omega); rw [Hsz.out] at h3; simpa using h3⟩

set_option maxHeartbeats 2000000 in
set_option maxRecDepth 100000 in
theorem rfBytesZeroS (rb : Nat) (x : Addr) (cap : Nat) (zs : List Int) (k : Nat) (w : World) (h : Rf w rb (.slice (some x) zs.length cap) zs k) (hq1 : zs.length ≤ cap) (hq2 : cap ≤ 9223372036854775807) (hck : ¬ cap = k) :
    Calls Tryz.prog 95 #[.pointer (some ⟨rb, 0, none⟩), .int .i64 0] w fun e w' =>
      ∃ v', e = .returned (.tuple #[v', .int .i64 0]) ∧ RfTo w rb (.slice (some x) zs.length cap) zs k w' ∧ w'.ownsRow w.heap.size 5 1 v' 0 [] := by
  obtain ⟨i0, hi, hz0, hz1, hz2⟩ := info_parts info_u8
  have hle := h.le
  have h0 := cell_blk h.blk 0
  have h1 := cell_blk h.blk 1
  have hrb := h.lt
  simp at h0 h1
  have hkc : (k : Int) ≤ cap := by omega
  have hkz : (0 : Int) ≤ (zs.length : Int) - k := by omega
  go_enter Tryz.func95, Tryz.ntmps95
  go_wp2
  go_quiet (fail)
  go_wp2
  have hd : Drawn w (w.drewN nq) := ⟨nq, rfl⟩
  have hsz : (w.drewN nq).heap.size = w.heap.size := rfl
  have g0 : (w.drewN nq).cell? ⟨rb, 0, none⟩ = some (.slice (some x) zs.length cap) := h0
  have g1 : (w.drewN nq).cell? ⟨rb, 1, none⟩ = some (.int .i64 k) := h1
  have hrf := h.drawn hd
  have Hsz := Lib.hid hsz
  rw [← Hsz.out] at hrb
  clear hsz h0 h1
  generalize w.drewN nq = w2 at *
  have e1 : IntKind.i64.wrap (k : Int) = (k : Int) := IntWalk.i64_in _ (by omega)
  refine wp_region_held_drew (S := fun w' => w'.cell? ⟨rb, 0, none⟩ = some (.slice (some x) zs.length cap) ∧ w'.cell? ⟨rb, 1, none⟩ = some (.int .i64 k)) (by kernel_rfl) ⟨g0, g1⟩ (fun hHeld => ?_)
  refine wpAnyH_take (i := 1) (v := ?_) (by simp only [List.getElem?_toArray, List.getElem?_cons_succ, List.getElem?_cons_zero]; rfl) (by kernel_rfl) (by kernel_rfl) (by kernel_rfl) (by exact fun _ _ _ h => h) (Or.inl ⟨by rfl, ?_⟩) (by assumption) ?_
  rotate_left 1
  · (intro w hSw; (try dsimp only at hSw); go_simp; try with_reducible rfl)
  try simp only [Act.put, List.setIfInBounds_toArray, List.set_cons_zero, List.set_cons_succ]
  refine wpAnyH_take (i := 2) (v := ?_) (by simp only [List.getElem?_toArray, List.getElem?_cons_succ, List.getElem?_cons_zero]; rfl) (by kernel_rfl) (by kernel_rfl) (by kernel_rfl) (by exact fun _ _ _ h => h) (Or.inl ⟨by rfl, ?_⟩) (by assumption) ?_
  rotate_left 1
  · (intro w hSw; (try dsimp only at hSw); go_simp; try with_reducible rfl)
  try simp only [Act.put, List.setIfInBounds_toArray, List.set_cons_zero, List.set_cons_succ]
  refine wpAnyH_take (i := 3) (v := ?_) (by simp only [List.getElem?_toArray, List.getElem?_cons_succ, List.getElem?_cons_zero]; rfl) (by kernel_rfl) (by kernel_rfl) (by kernel_rfl) (by exact fun _ _ _ h => h) (Or.inl ⟨by rfl, ?_⟩) (by assumption) ?_
  rotate_left 1
  · (intro w hSw; (try dsimp only at hSw); go_simp; try with_reducible rfl)
  try simp only [Act.put, List.setIfInBounds_toArray, List.set_cons_zero, List.set_cons_succ]
  refine wpAnyH_take (i := 4) (v := ?_) (by simp only [List.getElem?_toArray, List.getElem?_cons_succ, List.getElem?_cons_zero]; rfl) (by kernel_rfl) (by kernel_rfl) (by kernel_rfl) (by exact fun _ _ _ h => h) (Or.inl ⟨by rfl, ?_⟩) (by assumption) ?_
  rotate_left 1
  · (intro w hSw; (try dsimp only at hSw); go_simp; try with_reducible rfl)
  try simp only [Act.put, List.setIfInBounds_toArray, List.set_cons_zero, List.set_cons_succ]
  refine wpAnyH_take (i := 5) (v := ?_) (by simp only [List.getElem?_toArray, List.getElem?_cons_succ, List.getElem?_cons_zero]; rfl) (by kernel_rfl) (by kernel_rfl) (by kernel_rfl) (by exact fun _ _ _ h => h) (Or.inl ⟨by rfl, ?_⟩) (by assumption) ?_
  rotate_left 1
  · (intro w hSw; (try dsimp only at hSw); go_simp; try with_reducible rfl)
  try simp only [Act.put, List.setIfInBounds_toArray, List.set_cons_zero, List.set_cons_succ]
  refine wpAnyH_take (i := 6) (v := ?_) (by simp only [List.getElem?_toArray, List.getElem?_cons_succ, List.getElem?_cons_zero]; rfl) (by kernel_rfl) (by kernel_rfl) (by kernel_rfl) (by exact fun _ _ _ h => h) (Or.inl ⟨by rfl, ?_⟩) (by assumption) ?_
  rotate_left 1
  · (intro w hSw; (try dsimp only at hSw); go_simp; try with_reducible rfl)
  try simp only [Act.put, List.setIfInBounds_toArray, List.set_cons_zero, List.set_cons_succ]
  refine wpAnyH_take (i := 7) (v := ?_) (by simp only [List.getElem?_toArray, List.getElem?_cons_succ, List.getElem?_cons_zero]; rfl) (by kernel_rfl) (by kernel_rfl) (by kernel_rfl) (by exact fun _ _ _ h => h) (Or.inl ⟨by rfl, ?_⟩) (by assumption) ?_
  rotate_left 1
  · (intro w hSw; (try dsimp only at hSw); go_simp; try with_reducible rfl)
  try simp only [Act.put, List.setIfInBounds_toArray, List.set_cons_zero, List.set_cons_succ]
  refine wpAnyH_take (i := 8) (v := ?_) (by simp only [List.getElem?_toArray, List.getElem?_cons_succ, List.getElem?_cons_zero]; rfl) (by kernel_rfl) (by kernel_rfl) (by kernel_rfl) (by exact fun _ _ _ h => h) (Or.inl ⟨by rfl, ?_⟩) (by assumption) ?_
  rotate_left 1
  · (intro w hSw; (try dsimp only at hSw); go_simp; try with_reducible rfl)
  try simp only [Act.put, List.setIfInBounds_toArray, List.set_cons_zero, List.set_cons_succ]
  refine wpAnyH_take (i := 9) (v := ?_) (by simp only [List.getElem?_toArray, List.getElem?_cons_succ, List.getElem?_cons_zero]; rfl) (by kernel_rfl) (by kernel_rfl) (by kernel_rfl) (by exact fun _ _ _ h => h) (Or.inl ⟨by rfl, ?_⟩) (by assumption) ?_
  rotate_left 1
  · (intro w hSw; (try dsimp only at hSw); go_simp; try with_reducible rfl)
  try simp only [Act.put, List.setIfInBounds_toArray, List.set_cons_zero, List.set_cons_succ]
  refine wpAnyH_take (i := 10) (v := ?_) (by simp only [List.getElem?_toArray, List.getElem?_cons_succ, List.getElem?_cons_zero]; rfl) (by kernel_rfl) (by kernel_rfl) (by kernel_rfl) (by exact fun _ _ _ h => h) (Or.inl ⟨by rfl, ?_⟩) (by assumption) ?_
  rotate_left 1
  · (intro w hSw; (try dsimp only at hSw); go_simp; try with_reducible rfl)
  try simp only [Act.put, List.setIfInBounds_toArray, List.set_cons_zero, List.set_cons_succ]
  refine wpAnyH_take (i := 11) (v := ?_) (by simp only [List.getElem?_toArray, List.getElem?_cons_succ, List.getElem?_cons_zero]; rfl) (by kernel_rfl) (by kernel_rfl) (by kernel_rfl) (by exact fun _ _ _ h => h) (Or.inl ⟨by rfl, ?_⟩) (by assumption) ?_
  rotate_left 1
  · (intro w hSw; (try dsimp only at hSw); go_simp; try with_reducible rfl)
  try simp only [Act.put, List.setIfInBounds_toArray, List.set_cons_zero, List.set_cons_succ]
  refine wpAnyH_take (i := 12) (v := ?_) (by simp only [List.getElem?_toArray, List.getElem?_cons_succ, List.getElem?_cons_zero]; rfl) (by kernel_rfl) (by kernel_rfl) (by kernel_rfl) (by exact fun _ _ _ h => h) (Or.inl ⟨by rfl, ?_⟩) (by assumption) ?_
  rotate_left 1
  · (intro w hSw; (try dsimp only at hSw); go_simp; try with_reducible rfl)
  try simp only [Act.put, List.setIfInBounds_toArray, List.set_cons_zero, List.set_cons_succ]
  refine wpAnyH_take (i := 13) (v := ?_) (by simp only [List.getElem?_toArray, List.getElem?_cons_succ, List.getElem?_cons_zero]; rfl) (by kernel_rfl) (by kernel_rfl) (by kernel_rfl) (by exact fun _ _ _ h => h) (Or.inl ⟨by rfl, ?_⟩) (by assumption) ?_
  rotate_left 1
  · (intro w hSw; (try dsimp only at hSw); go_simp; try with_reducible rfl)
  try simp only [Act.put, List.setIfInBounds_toArray, List.set_cons_zero, List.set_cons_succ]
  refine wpAnyH_take (i := 14) (v := ?_) (by simp only [List.getElem?_toArray, List.getElem?_cons_succ, List.getElem?_cons_zero]; rfl) (by kernel_rfl) (by kernel_rfl) (by kernel_rfl) (by exact fun _ _ _ h => h) (Or.inl ⟨by rfl, ?_⟩) (by assumption) ?_
  rotate_left 1
  · (intro w hSw; (try dsimp only at hSw); go_simp; try with_reducible rfl)
  try simp only [Act.put, List.setIfInBounds_toArray, List.set_cons_zero, List.set_cons_succ]
  refine wpAnyH_take (i := 15) (v := ?_) (by simp only [List.getElem?_toArray, List.getElem?_cons_succ, List.getElem?_cons_zero]; rfl) (by kernel_rfl) (by kernel_rfl) (by kernel_rfl) (by exact fun _ _ _ h => h) (Or.inl ⟨by rfl, ?_⟩) (by assumption) ?_
  rotate_left 1
  · (intro w hSw; (try dsimp only at hSw); go_simp; try with_reducible rfl)
  try simp only [Act.put, List.setIfInBounds_toArray, List.set_cons_zero, List.set_cons_succ]
  refine wpAnyH_ready (rs := [0]) (by kernel_rfl) (by simp) ?_
  refine AllReadyH.cons (by simp only [List.getElem?_toArray, List.getElem?_cons_succ, List.getElem?_cons_zero]; rfl) (fun K hK => ?_) AllReadyH.nil
  go_simp
  refine hK.out _ _ ?_ (fun hHeld2 => ?_)
  · exact ⟨(World.cell?_alloc_lt _ _ _ hrb).trans g0, (World.cell?_alloc_lt _ _ _ hrb).trans g1⟩
  clear hK K
  try simp only [Act.put, List.setIfInBounds_toArray, List.set_cons_zero, List.set_cons_succ]
  clear hHeld
  have hHeld := hHeld2
  clear hHeld2
  refine wpAnyH_ready (rs := [16]) (by kernel_rfl) (by simp) ?_
  refine AllReadyH.cons (by simp only [List.getElem?_toArray, List.getElem?_cons_succ, List.getElem?_cons_zero]; rfl) (fun K hK => ?_) AllReadyH.nil
  (refine step_append_src rfl (.tmp 21) (.tmp 36) 27 rfl 5 i0 (.int .u8 0) 1 1 Tryz.underlying27 hi hz0 hz1 hz2 rfl (by decide) w2.heap.size (.slice (some ⟨w2.heap.size, 0, none⟩) 0 0) 0 [] rfl (by exact World.ownsRow_made _ #[] 0 (Nat.le_refl _) (Nat.zero_le _) rfl) (by simp) _ 0 [] rfl (by refine ⟨rfl, (fun _ h => by cases h), _, _, rfl, ?_, fun ad hd j u hu => by simp at hu⟩; intro e; first | (cases e; done) | exact ⟨rfl, by omega⟩) (by unfold maxLen; omega) (by omega) ?_; intro v' w1 hown1 hgrow1 hnew1; have hbel := Below.grown (B := w2.heap.size) (((Below.drew (Below.refl _ w2)).alloc (Nat.le_refl _) _)) hgrow1 (by simp) (fun k hk => by simp [Value.ownBlock] at hk; omega); have x0 := (hbel.cell (p := ⟨rb, 0, none⟩) hrb).trans g0; have x1 := (hbel.cell (p := ⟨rb, 1, none⟩) hrb).trans g1)
  refine hK.out _ _ ?_ (fun hHeld2 => ?_)
  · exact ⟨x0, x1⟩
  clear hK K
  try simp only [Act.put, List.setIfInBounds_toArray, List.set_cons_zero, List.set_cons_succ]
  clear hHeld
  have hHeld := hHeld2
  clear hHeld2
  refine wpAnyH_take (i := 17) (v := ?_) (by simp only [List.getElem?_toArray, List.getElem?_cons_succ, List.getElem?_cons_zero]; rfl) (by kernel_rfl) (by kernel_rfl) (by kernel_rfl) (by exact fun _ _ _ h => h) (Or.inl ⟨by rfl, ?_⟩) (by assumption) ?_
  rotate_left 1
  · (intro w hSw; (try dsimp only at hSw); go_simp; try with_reducible rfl)
  try simp only [Act.put, List.setIfInBounds_toArray, List.set_cons_zero, List.set_cons_succ]
  refine wpAnyH_done (by kernel_rfl) ?_ _
  have fz := (hbel.frozen (p := ⟨rb, 1, none⟩) hrb).trans (frozen_blk hrf.blk 1)
  have hrf2 := hrf.only (Only.of_below hbel (fun _ => False)) (fun h => h) (fun _ _ _ h => h)
  have hset := hrf2.set (k' := k) hle
  have ho := (hd.only (S := fun b => b = rb)).trans (Only.of_below hbel (fun b => b = rb)) (fun _ hi _ => hi)
  have Hown := Lib.hid hown1
  clear hrf hrf2 hHeld hown1 hgrow1 hnew1 g0 g1 e1
  go_wp2
  go_ret2
  exact ⟨_, rfl, ⟨hset.1, ho.trans hset.2 (fun _ hi _ => hi)⟩, by have h3 := hset.2.owns Hown.out (fun b hb e => by have := (Hown.out.lt b hb).1; omega); rw [Hsz.out] at h3; simpa using h3⟩

set_option maxHeartbeats 1000000 in
set_option maxRecDepth 100000 in
theorem rfBytes (rb : Nat) (v : Value) (zs : List Int) (k : Nat) (n : Int) (w : World) (h : Rf w rb v zs k) :
    Calls Tryz.prog 95 #[.pointer (some ⟨rb, 0, none⟩), .int .i64 n] w fun e w' =>
      ∃ v', e = .returned (.tuple #[v', .int .i64 (rdErr1 n ((zs.length : Int) - k))]) ∧ RfTo w rb v zs (rdK k n (rdErr1 n ((zs.length : Int) - k))) w' ∧
        w'.ownsRow w.heap.size 5 1 v' (rdPart zs k n (rdErr1 n ((zs.length : Int) - k))).length ((rdPart zs k n (rdErr1 n ((zs.length : Int) - k))).map (Value.int .u8)) := by
  unfold rdPart rdK
  by_cases he : rdErr1 n ((zs.length : Int) - k) = 0
  · obtain ⟨e1, e3⟩ := rdErr1_zero he
    obtain ⟨m, rfl⟩ := Int.eq_ofNat_of_zero_le (show 0 ≤ n by omega)
    rw [if_pos he, if_pos he, he, show ((m : Int)).toNat = m by omega]
    have hlen : ((zs.drop k).take m).length = m := by simp; omega
    by_cases hm : 1 ≤ m
    · rw [hlen]
      exact rfBytesOk rb v zs k m w h hm (by omega)
    · have hm0 : m = 0 := by omega
      subst hm0
      obtain ⟨ao, cap, rfl, hq1, hq2, hq3, hbz, hcells⟩ := id h.byt
      have hq2' : cap ≤ 9223372036854775807 := by unfold maxLen at hq2; omega
      simp only [List.take_zero, List.length_nil, List.map_nil, Nat.add_zero]
      cases ao with
      | none =>
        have hc0 := hq3 rfl
        subst hc0
        have hzs : zs = [] := List.eq_nil_of_length_eq_zero (by omega)
        subst hzs
        have hk0 : k = 0 := by have := h.le; simp at this; omega
        subst hk0
        exact rfBytesZeroN rb w h
      | some x =>
        by_cases hck : cap = k
        · have hcz : cap = zs.length := by have := h.le; omega
          have hkz : k = zs.length := by omega
          subst hcz
          subst hkz
          exact rfBytesZeroE rb x zs w h hq2'
        · exact rfBytesZeroS rb x cap zs k w h hq1 hq2' hck
  · rw [if_neg he, if_neg he]
    obtain ⟨ao, cap, rfl, hq1, hq2, hq3, hbz, hcells⟩ := id h.byt
    have hle := h.le
    have hlim := h.lim
    have h0 := cell_blk h.blk 0
    have h1 := cell_blk h.blk 1
    simp at h0 h1
    clear hcells
    unfold rdErr1 at he ⊢
    by_cases hn : n < 0
    · rw [if_pos hn]
      clear he
      go_enter Tryz.func95, Tryz.ntmps95
      go_wp2
      go_ret2
      exact ⟨_, rfl, RfTo.of_drawn h (Drawn.refl _), World.ownsRow_nil _ _ _ _⟩
    · rw [if_neg hn] at he ⊢
      have hlt : (zs.length : Int) - k < n := by
        by_cases hlt : (zs.length : Int) - k < n
        · exact hlt
        · rw [if_neg hlt] at he; exact absurd rfl he
      rw [if_pos hlt]
      clear he
      go_enter Tryz.func95, Tryz.ntmps95
      go_wp2
      go_quiet (fail)
      go_wp2
      go_ret2
      exact ⟨_, rfl, RfTo.of_drawn h ⟨_, rfl⟩, World.ownsRow_nil _ _ _ _⟩
end Go.Proofs.YtodhdiccfobcfaaGreatDoor
