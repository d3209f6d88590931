/- The readers' calls, each for every argument; a new reader; that the program computes at all. No condition beyond a reader that was made, and the form's reach. -/
import Derived.Test.YtadgbkjjeigpjaaDoorWireB
import Derived.Test.YtadgbkjjeigpjaaDoorWireC
import Derived.Test.YtadgbkjjeigpjaaDoorClone
namespace Go.Proofs.YtadgbkjjeigpjaaDoor
open Go.RowKit

/-- A reader at block rb: its row, its bytes, its place. -/
structure Rd (w : World) (rb : Nat) (sv : Value) (zs : List Int) (k : Nat) : Prop where
  blk : w.heap[rb]? = some (.cells #[sv, .int .i64 k, .bool true] 77 (0, 0))
  own : w.ownsRow 0 5 1 sv zs.length (zs.map (Value.int .u8))
  apart : sv.ownBlock ≠ some rb
  byt : Bytish zs
  le : k ≤ zs.length
  lim : zs.length ≤ 140737488355328

theorem Rd.only {S : Nat → Prop} {w w' : World} {rb : Nat} {sv : Value} {zs : List Int} {k : Nat} (h : Rd w rb sv zs k) (ho : Only S w w') (h1 : ¬ S rb) (h2 : ∀ k, sv.ownBlock = some k → ¬ S k) : Rd w' rb sv zs k :=
  ⟨ho.heap h.blk h1, ho.owns h.own h2, h.apart, h.byt, h.le, h.lim⟩
theorem Rd.drawn {w w' : World} {rb : Nat} {sv : Value} {zs : List Int} {k : Nat} (h : Rd w rb sv zs k) (hd : Drawn w w') : Rd w' rb sv zs k :=
  h.only (hd.only (S := fun _ => False)) (fun h => h) (fun _ _ h => h)
theorem Rd.lt {w : World} {rb : Nat} {sv : Value} {zs : List Int} {k : Nat} (h : Rd w rb sv zs k) : rb < w.heap.size ∧ ∀ k, sv.ownBlock = some k → k < w.heap.size :=
  ⟨heap_lt h.blk, fun k hk => (h.own.lt k hk).2⟩
theorem Rd.moved {w w' : World} {rb : Nat} {sv : Value} {zs : List Int} {k m : Nat} (h : Rd w rb sv zs k) (hm : Moved rb ((k : Int) + m) w w') (hl : k + m ≤ zs.length) : Rd w' rb sv zs (k + m) := by
  have ho := hm.only
  obtain ⟨nq, rfl⟩ := hm
  refine ⟨?_, ho.owns h.own (fun b hb e => h.apart (by rw [hb, e])), h.apart, h.byt, hl, h.lim⟩
  have := heap_setCell_at (i := 1) (u := .int .i64 ((k : Int) + m)) h.blk
  simp only [World.drewN]
  rw [this]
  simp

/-- What a reader's call leaves. -/
def RdTo (w : World) (rb : Nat) (sv : Value) (zs : List Int) (k : Nat) (w' : World) : Prop := Rd w' rb sv zs k ∧ Only (fun b => b = rb) w w'
def rdK (k : Nat) (n err : Int) : Nat := if err = 0 then k + n.toNat else k
def rdPart (zs : List Int) (k : Nat) (n err : Int) : List Int := if err = 0 then (zs.drop k).take n.toNat else []
def rdU (zs : List Int) (k : Nat) (n err : Int) : Int := if err = 0 then valB ((zs.drop k).take n.toNat) else 0
def rdI (zs : List Int) (k : Nat) (n err : Int) : Int := if err = 0 then sgn n.toNat (valB ((zs.drop k).take n.toNat)) else 0

theorem rdErr0_zero {n left : Int} (h : rdErr0 n left = 0) : 1 ≤ n ∧ n ≤ 8 ∧ n ≤ left := by
  unfold rdErr0 at h
  split at h
  · cases h
  · split at h
    · cases h
    · omega
theorem rdErr1_zero {n left : Int} (h : rdErr1 n left = 0) : 0 ≤ n ∧ n ≤ left := by
  unfold rdErr1 at h
  split at h
  · cases h
  · split at h
    · cases h
    · omega

/-- What a reader's cells hold, for a walk. -/
theorem Rd.cells {w : World} {rb : Nat} {sv : Value} {zs : List Int} {k : Nat} (h : Rd w rb sv zs k) : ∃ ao cap, sv = .slice ao zs.length cap ∧ zs.length ≤ cap ∧ cap ≤ 9223372036854775807 ∧ (ao = none → cap = 0) ∧
    w.cell? ⟨rb, 0, none⟩ = some (.slice ao zs.length cap) ∧ w.cell? ⟨rb, 1, none⟩ = some (.int .i64 k) ∧ w.cell? ⟨rb, 2, none⟩ = some (.bool true) ∧ w.frozen? ⟨rb, 1, none⟩ = false ∧
    (0 < zs.length → ∃ g, ao = some ⟨g, 0, none⟩ ∧ g ≠ rb ∧ ∀ j, j < zs.length → w.cell? ⟨g, j, none⟩ = some (.int .u8 (zs.getD j 0))) := by
  have h0 := cell_blk h.blk 0
  have h1 := cell_blk h.blk 1
  have h2 := cell_blk h.blk 2
  have f1 := frozen_blk h.blk 1
  have hown := h.own
  rcases h.own.2 with ⟨rfl, hn⟩ | ⟨g, cap, cur, rfl, _, hg, hnc, hcm, _⟩
  · exact ⟨none, 0, by rw [hn], by omega, by omega, fun _ => rfl, by simpa [hn] using h0, by simpa using h1, by simpa using h2, f1, fun hp => by omega⟩
  · refine ⟨some ⟨g, 0, none⟩, cap, rfl, hnc, by unfold maxLen at hcm; omega, (fun e => by cases e), by simpa using h0, by simpa using h1, by simpa using h2, f1, fun _ => ⟨g, rfl, fun e => h.apart (by rw [e]; rfl), fun j hj => ?_⟩⟩
    rw [hown.cellAt j (by omega), List.getElem?_map, List.getElem?_eq_getElem hj]
    simp [List.getD, hj]

set_option maxHeartbeats 1000000 in
theorem rdUint (rb : Nat) (sv : Value) (zs : List Int) (k : Nat) (n : Int) (w : World) (h : Rd w rb sv zs k) (hn0 : -9223372036854775808 ≤ n) (hn1 : n ≤ 9223372036854775807) :
    Calls Tryd.prog 59 #[.pointer (some ⟨rb, 0, none⟩), .int .i64 n] w fun e w' =>
      e = .returned (.tuple #[.int .u64 (rdU zs k n (rdErr0 n ((zs.length : Int) - k))), .int .i64 (rdErr0 n ((zs.length : Int) - k))]) ∧ RdTo w rb sv zs (rdK k n (rdErr0 n ((zs.length : Int) - k))) w' := by
  obtain ⟨ao, cap, hsv, hc1, hc2, hc3, h0, h1, h2, f1, hrow⟩ := h.cells
  have hle := h.le
  unfold rdU rdK
  by_cases he : rdErr0 n ((zs.length : Int) - k) = 0
  · obtain ⟨e1, e2, e3⟩ := rdErr0_zero he
    obtain ⟨m, rfl⟩ := Int.eq_ofNat_of_zero_le (show 0 ≤ n by omega)
    obtain ⟨g, rfl, hg, hb⟩ := hrow (by omega)
    rw [if_pos he, if_pos he, he]
    have Hb := Lib.hid hb
    clear hrow he hb hsv
    go_enter Tryd.func59, Tryd.ntmps59
    go_wp2_with (first | (go_at_call 73; refine (readU rb g zs.length cap k m zs _ hc1 hc2 (by omega) (by omega) (by omega) rfl h.byt hg h0 h1 h2 f1 Hb.out).mono ?_; rintro e w' ⟨rfl, hmv⟩))
    go_ret2
    exact ⟨rfl, h.moved hmv (by omega), hmv.only⟩
  · rw [if_neg he, if_neg he]
    go_enter Tryd.func59, Tryd.ntmps59
    go_wp2_with (first | (go_at_call 73; refine (readUErr rb zs.length cap k n ao _ hc1 hc2 hle hn0 hn1 h0 h1 h2 he).mono ?_; rintro e w' ⟨rfl, hdr⟩))
    go_ret2
    exact ⟨rfl, h.drawn hdr, hdr.only⟩

theorem rdLeftM (rb : Nat) (sv : Value) (zs : List Int) (k : Nat) (w : World) (h : Rd w rb sv zs k) :
    Calls Tryd.prog 33 #[.pointer (some ⟨rb, 0, none⟩)] w fun e w' => e = .returned (.int .i64 ((zs.length : Int) - k)) ∧ Drawn w w' := by
  obtain ⟨ao, cap, hsv, hc1, hc2, hc3, h0, h1, h2, f1, hrow⟩ := h.cells
  exact rdLeft rb ao zs.length cap k w (by have := h.lim; omega) h.le h0 h1 h2

theorem newReader (v : Value) (zs : List Int) (w : World) (hb : Bytes w v zs) (hl : zs.length ≤ 140737488355328) :
    Calls Tryd.prog 12 #[v] w fun e w' => ∃ rb sv, e = .returned (.pointer (some ⟨rb, 0, none⟩)) ∧ Rd w' rb sv zs 0 ∧ Below w.heap.size w w' ∧ w.heap.size ≤ rb ∧ ∀ k, sv.ownBlock = some k → w.heap.size ≤ k := by
  have hbyt : Bytish zs := by obtain ⟨_, _, _, _, _, _, h, _⟩ := hb; exact h
  go_enter Tryd.func12, Tryd.ntmps12
  go_wp2_with (first | (go_at_call 29; refine (clone v zs _ hb hl).mono ?_; rintro e w1 ⟨v', rfl, hown, hbel⟩; obtain ⟨ao, cap, rfl, _, _⟩ := slice_of_owns hown))
  go_ret
  have hlt := hown.lt
  have ho := Only.alloc (Only.refl (fun _ => False) w1) (.cells #[.slice ao zs.length cap, .int .i64 0, .bool true] 77)
  refine ⟨w1.heap.size, _, rfl, ⟨heap_alloc_new w1 _, ho.owns (owns_base hown (fun _ _ => Nat.zero_le _)) (fun _ _ h => h), ?_, hbyt, Nat.zero_le _, hl⟩, hbel.trans (Below.mono ((Below.refl _ _).alloc (Nat.le_refl _) _) hbel.size), hbel.size, fun k hk => (hlt k hk).1⟩
  intro e
  have := (hlt _ e).2
  omega
end Go.Proofs.YtadgbkjjeigpjaaDoor
