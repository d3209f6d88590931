/- The document's own reader (understudyref01), by the same words as the program's. No condition beyond a reader that was made. -/
import Derived.Test.YtadgbkjjeigpjaaDoorGWire
import Derived.Deep.RegionHeld
namespace Go.Proofs.YtadgbkjjeigpjaaDoor
open Go.RowKit
set_option linter.unusedSimpArgs false

theorem wrapU_val (n : Nat) (h1 : 1 ≤ n) (h8 : n ≤ 8) (v : Int) (h0 : 0 ≤ v) (hv : v < 256 ^ n) : IntKind.u64.wrap v = v := by
  rw [wrapU]
  rcases width_cases h1 h8 with rfl | rfl | rfl | rfl | rfl | rfl | rfl | rfl <;> simp only [Int.reducePow] at * <;> omega

/-- The reference's reader at block rb: the bytes that it was given, its place. -/
structure Rf (w : World) (rb : Nat) (v : Value) (zs : List Int) (k : Nat) : Prop where
  blk : w.heap[rb]? = some (.cells #[v, .int .i64 k] 52 (0, 0))
  byt : Bytes w v zs
  apart : ∀ b, v.ownBlock = some b → zs ≠ [] → b ≠ rb
  le : k ≤ zs.length
  lim : zs.length ≤ 140737488355328

def RfTo (w : World) (rb : Nat) (v : Value) (zs : List Int) (k : Nat) (w' : World) : Prop := Rf w' rb v zs k ∧ Only (fun b => b = rb) w w'

theorem Rf.only {S : Nat → Prop} {w w' : World} {rb : Nat} {v : Value} {zs : List Int} {k : Nat} (h : Rf w rb v zs k) (ho : Only S w w') (h1 : ¬ S rb) (h2 : ∀ k, v.ownBlock = some k → zs ≠ [] → ¬ S k) : Rf w' rb v zs k :=
  ⟨ho.heap h.blk h1, h.byt.only ho h2, h.apart, h.le, h.lim⟩
theorem Rf.drawn {w w' : World} {rb : Nat} {v : Value} {zs : List Int} {k : Nat} (h : Rf w rb v zs k) (hd : Drawn w w') : Rf w' rb v zs k :=
  h.only (hd.only (S := fun _ => False)) (fun h => h) (fun _ _ _ h => h)
theorem Rf.lt {w : World} {rb : Nat} {v : Value} {zs : List Int} {k : Nat} (h : Rf w rb v zs k) : rb < w.heap.size := heap_lt h.blk
theorem Rf.set {w : World} {rb : Nat} {v : Value} {zs : List Int} {k k' : Nat} (h : Rf w rb v zs k) (hl : k' ≤ zs.length) : RfTo w rb v zs k' (w.setCell ⟨rb, 1, none⟩ (.int .i64 k')) := by
  have ho : Only (fun b => b = rb) w (w.setCell ⟨rb, 1, none⟩ (.int .i64 k')) := Only.setCell (S := fun b => b = rb) (Only.refl _ _) (fun _ => rfl) _
  refine ⟨⟨?_, h.byt.only ho (fun b hb hz => h.apart b hb hz), h.apart, hl, h.lim⟩, ho⟩
  have := heap_setCell_at (i := 1) (u := .int .i64 k') h.blk
  rw [this]
  simp
theorem RfTo.trans {w w1 w2 : World} {rb : Nat} {v : Value} {zs : List Int} {k k' : Nat} (h : RfTo w rb v zs k w1) (h2 : RfTo w1 rb v zs k' w2) : RfTo w rb v zs k' w2 :=
  ⟨h2.1, h.2.trans h2.2 (fun _ hi _ => hi)⟩
theorem RfTo.of_drawn {w w' : World} {rb : Nat} {v : Value} {zs : List Int} {k : Nat} (h : Rf w rb v zs k) (hd : Drawn w w') : RfTo w rb v zs k w' := ⟨h.drawn hd, hd.only⟩

set_option maxHeartbeats 2000000 in
theorem rfUintOk (rb : Nat) (v : Value) (zs : List Int) (k n : Nat) (w : World) (h : Rf w rb v zs k) (hn1 : 1 ≤ n) (hn8 : n ≤ 8) (hroom : k + n ≤ zs.length) :
    Calls Tryd.prog 34 #[.pointer (some ⟨rb, 0, none⟩), .int .i64 n] w fun e w' =>
      e = .returned (.tuple #[.int .u64 (valB ((zs.drop k).take n)), .int .i64 0]) ∧ RfTo w rb v zs (k + n) w' := by
  obtain ⟨ao, cap, rfl, hq1, hq2, hq3, hbz, hcells⟩ := id h.byt
  have hlim := h.lim
  obtain ⟨x, rfl⟩ : ∃ x, ao = some x := by cases ao with | none => have := hq3 rfl; omega | some x => exact ⟨x, rfl⟩
  have hc := hcells x rfl
  obtain ⟨b, o, rfl⟩ : ∃ b o, x = ⟨b, o, none⟩ := ⟨_, _, plain_of_cell (hc 0 (by omega))⟩
  have hbr : b ≠ rb := h.apart b rfl (by intro e; subst e; simp at hroom; omega)
  have h0 := cell_blk h.blk 0
  have h1 := cell_blk h.blk 1
  simp at h0 h1
  have hn1' : (1 : Int) ≤ n := by omega
  have hn8' : (n : Int) ≤ 8 := by omega
  clear hcells hq3
  have Hc := Lib.hid hc
  clear hc
  go_enter Tryd.func34, Tryd.ntmps34
  go_wp2
  go_quiet (fail)
  go_wp2
  have hto := fun q => RfTo.of_drawn h ⟨q, rfl⟩
  have hz' : ∀ j, j < n → 0 ≤ (zs.drop k).getD j 0 ∧ (zs.drop k).getD j 0 < 256 := fun j hj => (hbz.drop k).getD (by simp; omega)
  have hlen : n ≤ (zs.drop k).length := by simp; omega
  have Hg := Lib.hid (show ∀ j, zs.getD (k + j) 0 = (zs.drop k).getD j 0 from fun j => by simp [List.getD])
  have hval := valB_lt n ((zs.drop k).take n) (by simp; omega) ((hbz.drop k).take n)
  generalize hys : zs.drop k = ys at *
  have Hys := Lib.hid hys
  clear hys
  go_loopw [6, 7] (fun x i wr => ∃ j : Nat, j ≤ n ∧ i = .int .i64 j ∧ x = .int .u64 (IntKind.u64.wrap (valB (ys.take j))) ∧ RfTo w rb (.slice (some ⟨b, o, none⟩) zs.length cap) zs k wr) (fun _ i _ => n - (intOf i).toNat)
  case atStart => exact ⟨0, Nat.zero_le _, rfl, by simp [valB, wrapU0], hto _⟩
  case round =>
    obtain ⟨j, hj, rfl, rfl, hr⟩ := hrel
    clear hto
    by_cases hlt : j < n
    · have g0 := cell_blk hr.1.blk 0
      have g1 := cell_blk hr.1.blk 1
      simp at g0 g1
      have gc : wr.cell? ⟨b, o + (k + j), none⟩ = some (.int .u8 (ys.getD j 0)) := by
        rw [← add_lit, hr.2.cell (Hc.out (k + j) (by omega)) (by rw [add_block]; exact hbr), Hg.out]
      have hz1 := hz' j hlt
      have HS := Lib.hid (stepU _ (valB (ys.take j)) (ys.getD j 0) rfl hz1.1 hz1.2)
      have HT := Lib.hid (valB_take ys j (by omega))
      clear hz' hval
      generalize valB (ys.take j) = val at *
      generalize ys.getD j 0 = c at *
      go_wp2
      have e1 : IntKind.i64.wrap ((k : Int) + j) = (k : Int) + j := IntWalk.i64_in _ (by omega)
      have e2 : (0 : Int) ≤ (k : Int) + j := by omega
      have e3 : ((k : Int) + j).toNat = k + j := by omega
      have e4 : (k : Int) + j < zs.length := by omega
      go_quiet (fail)
      clear e1 e2 e3 e4
      go_wp2
      go_roundw
      case rel => exact ⟨j + 1, by omega, by go_num, by rw [HT.out, ← HS.out], hr.1.drawn ⟨_, rfl⟩, hr.2.drewN _⟩
      case measure => simp [intOf]; omega
    · have hjn : j = n := by omega
      subst hjn
      have g1 := cell_blk hr.1.blk 1
      have f1 := frozen_blk hr.1.blk 1
      simp at g1
      have hset := RfTo.trans hr (hr.1.set (k' := k + j) (by omega))
      rw [Int.natCast_add] at hset
      have HV := Lib.hid (wrapU_val j hn1 hn8 _ hval.1 hval.2)
      clear hval
      go_wp2
      go_ret2
      refine ⟨?_, hset⟩
      show Ending.returned (.tuple #[.int .u64 (IntKind.u64.wrap (valB (ys.take j))), .int .i64 0]) = _
      rw [HV.out, Hys.out]

set_option maxHeartbeats 1000000 in
theorem rfUintErr (rb : Nat) (v : Value) (zs : List Int) (k : Nat) (n : Int) (w : World) (h : Rf w rb v zs k) (he : rdErr0 n ((zs.length : Int) - k) ≠ 0) :
    Calls Tryd.prog 34 #[.pointer (some ⟨rb, 0, none⟩), .int .i64 n] w fun e w' =>
      e = .returned (.tuple #[.int .u64 0, .int .i64 (rdErr0 n ((zs.length : Int) - k))]) ∧ Drawn w w' := by
  obtain ⟨ao, cap, rfl, hq1, hq2, hq3, hbz, hcells⟩ := id h.byt
  have hlim := h.lim
  have hle := h.le
  have h0 := cell_blk h.blk 0
  have h1 := cell_blk h.blk 1
  simp at h0 h1
  clear h hcells hq3
  unfold rdErr0 at he ⊢
  by_cases hn : n < 1 ∨ 8 < n
  · rw [if_pos hn]
    clear he
    rcases hn with hn | hn
    · go_enter Tryd.func34, Tryd.ntmps34
      go_wp2
      go_ret2
      exact ⟨rfl, Drawn.refl _⟩
    · have hn' : ¬ n < 1 := by omega
      go_enter Tryd.func34, Tryd.ntmps34
      go_wp2
      go_ret2
      exact ⟨rfl, Drawn.refl _⟩
  · rw [if_neg hn] at he ⊢
    have hlt : (zs.length : Int) - k < n := by
      by_cases hlt : (zs.length : Int) - k < n
      · exact hlt
      · rw [if_neg hlt] at he; exact absurd rfl he
    rw [if_pos hlt]
    clear he
    have hn1 : 1 ≤ n := by omega
    have hn8 : n ≤ 8 := by omega
    clear hn
    go_enter Tryd.func34, Tryd.ntmps34
    go_wp2
    go_quiet (fail)
    go_wp2
    go_ret2
    exact ⟨rfl, _, rfl⟩

theorem rfUint (rb : Nat) (v : Value) (zs : List Int) (k : Nat) (n : Int) (w : World) (h : Rf w rb v zs k) :
    Calls Tryd.prog 34 #[.pointer (some ⟨rb, 0, none⟩), .int .i64 n] w fun e w' =>
      e = .returned (.tuple #[.int .u64 (rdU zs k n (rdErr0 n ((zs.length : Int) - k))), .int .i64 (rdErr0 n ((zs.length : Int) - k))]) ∧ RfTo w rb v zs (rdK k n (rdErr0 n ((zs.length : Int) - k))) w' := by
  unfold rdU rdK
  by_cases he : rdErr0 n ((zs.length : Int) - k) = 0
  · obtain ⟨e1, e2, e3⟩ := rdErr0_zero he
    obtain ⟨m, rfl⟩ := Int.eq_ofNat_of_zero_le (show 0 ≤ n by omega)
    rw [if_pos he, if_pos he, he]
    exact rfUintOk rb v zs k m w h (by omega) (by omega) (by omega)
  · rw [if_neg he, if_neg he]
    exact (rfUintErr rb v zs k n w h he).mono fun e w' ⟨a, b⟩ => ⟨a, RfTo.of_drawn h b⟩

end Go.Proofs.YtadgbkjjeigpjaaDoor
