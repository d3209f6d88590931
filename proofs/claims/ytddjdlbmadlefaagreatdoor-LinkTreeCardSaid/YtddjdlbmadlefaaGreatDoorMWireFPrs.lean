/- The readers' calls, each for every argument; a new reader; that the program computes at all. No condition beyond a reader that was made, and the form's reach. Reading the constants of a pool, as a relation over plain lists: one answer at each place. No condition. Bytes that are read in order, in plain words: a value and the place behind it, or the first error. What one call of a reader leaves. No condition. -/
import Derived.Test.YtddjdlbmadlefaaGreatDoorMWireAWireC
import Derived.Test.YtddjdlbmadlefaaGreatDoorMTxtPPolT
namespace Go.Proofs.YtddjdlbmadlefaaGreatDoor
open Go.RowKit

/-- A reader at block rb: its row, its bytes, its place. -/
structure Rd (w : World) (rb : Nat) (sv : Value) (zs : List Int) (k : Nat) : Prop where
  blk : w.heap[rb]? = some (.cells #[sv, .int .i64 k, .bool true] 373 (0, 0))
  own : w.ownsRow 0 5 1 sv zs.length (zs.map (Value.int .u8))
  apart : sv.ownBlock ≠ some rb
  byt : Bytish zs
  le : k ≤ zs.length
  lim : zs.length ≤ 140737488355328

theorem Rd.only {S : Nat → Prop} {w w' : World} {rb : Nat} {sv : Value} {zs : List Int} {k : Nat} (h : Rd w rb sv zs k) (ho : Only S w w') (h1 : ¬ S rb) (h2 : ∀ k, sv.ownBlock = some k → ¬ S k) : Rd w' rb sv zs k :=
  ⟨ho.heap h.blk h1, ho.owns h.own h2, h.apart, h.byt, h.le, h.lim⟩
theorem Rd.drawn {w w' : World} {rb : Nat} {sv : Value} {zs : List Int} {k : Nat} (h : Rd w rb sv zs k) (hd : Drawn w w') : Rd w' rb sv zs k :=
  h.only (hd.only (S := fun _ => False)) (fun h => h) (fun _ _ h => h)
theorem Rd.lt {w : World} {rb : Nat} {sv : Value} {zs : List Int} {k : Nat} (h : Rd w rb sv zs k) : rb < w.heap.size ∧ ∀ k, sv.ownBlock = some k → k < w.heap.size :=
  ⟨heap_lt h.blk, fun k hk => (h.own.lt k hk).2⟩
theorem Rd.moved {w w' : World} {rb : Nat} {sv : Value} {zs : List Int} {k m : Nat} (h : Rd w rb sv zs k) (hm : Moved rb ((k : Int) + m) w w') (hl : k + m ≤ zs.length) : Rd w' rb sv zs (k + m) := by
  have ho := hm.only
  obtain ⟨nq, rfl⟩ := hm
  refine ⟨?_, ho.owns h.own (fun b hb e => h.apart (by rw [hb, e])), h.apart, h.byt, hl, h.lim⟩
  have := heap_setCell_at (i := 1) (u := .int .i64 ((k : Int) + m)) h.blk
  simp only [World.drewN]
  rw [this]
  simp

/-- What a reader's call leaves. -/
def RdTo (w : World) (rb : Nat) (sv : Value) (zs : List Int) (k : Nat) (w' : World) : Prop := Rd w' rb sv zs k ∧ Only (fun b => b = rb) w w'
def rdK (k : Nat) (n err : Int) : Nat := if err = 0 then k + n.toNat else k
def rdPart (zs : List Int) (k : Nat) (n err : Int) : List Int := if err = 0 then (zs.drop k).take n.toNat else []
def rdU (zs : List Int) (k : Nat) (n err : Int) : Int := if err = 0 then valB ((zs.drop k).take n.toNat) else 0
def rdI (zs : List Int) (k : Nat) (n err : Int) : Int := if err = 0 then sgn n.toNat (valB ((zs.drop k).take n.toNat)) else 0

theorem rdErr0_zero {n left : Int} (h : rdErr0 n left = 0) : 1 ≤ n ∧ n ≤ 8 ∧ n ≤ left := by
  unfold rdErr0 at h
  split at h
  · cases h
  · split at h
    · cases h
    · omega
theorem rdErr1_zero {n left : Int} (h : rdErr1 n left = 0) : 0 ≤ n ∧ n ≤ left := by
  unfold rdErr1 at h
  split at h
  · cases h
  · split at h
    · cases h
    · omega

/-- What a reader's cells hold, for a walk. -/
theorem Rd.cells {w : World} {rb : Nat} {sv : Value} {zs : List Int} {k : Nat} (h : Rd w rb sv zs k) : ∃ ao cap, sv = .slice ao zs.length cap ∧ zs.length ≤ cap ∧ cap ≤ 9223372036854775807 ∧ (ao = none → cap = 0) ∧
    w.cell? ⟨rb, 0, none⟩ = some (.slice ao zs.length cap) ∧ w.cell? ⟨rb, 1, none⟩ = some (.int .i64 k) ∧ w.cell? ⟨rb, 2, none⟩ = some (.bool true) ∧ w.frozen? ⟨rb, 1, none⟩ = false ∧
    (0 < zs.length → ∃ g, ao = some ⟨g, 0, none⟩ ∧ g ≠ rb ∧ ∀ j, j < zs.length → w.cell? ⟨g, j, none⟩ = some (.int .u8 (zs.getD j 0))) := by
  have h0 := cell_blk h.blk 0
  have h1 := cell_blk h.blk 1
  have h2 := cell_blk h.blk 2
  have f1 := frozen_blk h.blk 1
  have hown := h.own
  rcases h.own.2 with ⟨rfl, hn⟩ | ⟨g, cap, cur, rfl, _, hg, hnc, hcm, _⟩
  · exact ⟨none, 0, by rw [hn], by omega, by omega, fun _ => rfl, by simpa [hn] using h0, by simpa using h1, by simpa using h2, f1, fun hp => by omega⟩
  · refine ⟨some ⟨g, 0, none⟩, cap, rfl, hnc, by unfold maxLen at hcm; omega, (fun e => by cases e), by simpa using h0, by simpa using h1, by simpa using h2, f1, fun _ => ⟨g, rfl, fun e => h.apart (by rw [e]; rfl), fun j hj => ?_⟩⟩
    rw [hown.cellAt j (by omega), List.getElem?_map, List.getElem?_eq_getElem hj]
    simp [List.getD, hj]

set_option maxHeartbeats 1000000 in
theorem rdUint (rb : Nat) (sv : Value) (zs : List Int) (k : Nat) (n : Int) (w : World) (h : Rd w rb sv zs k) (hn0 : -9223372036854775808 ≤ n) (hn1 : n ≤ 9223372036854775807) :
    Calls Tryz.prog 286 #[.pointer (some ⟨rb, 0, none⟩), .int .i64 n] w fun e w' =>
      e = .returned (.tuple #[.int .u64 (rdU zs k n (rdErr0 n ((zs.length : Int) - k))), .int .i64 (rdErr0 n ((zs.length : Int) - k))]) ∧ RdTo w rb sv zs (rdK k n (rdErr0 n ((zs.length : Int) - k))) w' := by
  obtain ⟨ao, cap, hsv, hc1, hc2, hc3, h0, h1, h2, f1, hrow⟩ := h.cells
  have hle := h.le
  unfold rdU rdK
  by_cases he : rdErr0 n ((zs.length : Int) - k) = 0
  · obtain ⟨e1, e2, e3⟩ := rdErr0_zero he
    obtain ⟨m, rfl⟩ := Int.eq_ofNat_of_zero_le (show 0 ≤ n by omega)
    obtain ⟨g, rfl, hg, hb⟩ := hrow (by omega)
    rw [if_pos he, if_pos he, he]
    have Hb := Lib.hid hb
    clear hrow he hb hsv
    go_enter Tryz.func286, Tryz.ntmps286
    go_wp2_with (first | (go_at_call 299; refine (readU rb g zs.length cap k m zs _ hc1 hc2 (by omega) (by omega) (by omega) rfl h.byt hg h0 h1 h2 f1 Hb.out).mono ?_; rintro e w' ⟨rfl, hmv⟩))
    go_ret2
    exact ⟨rfl, h.moved hmv (by omega), hmv.only⟩
  · rw [if_neg he, if_neg he]
    go_enter Tryz.func286, Tryz.ntmps286
    go_wp2_with (first | (go_at_call 299; refine (readUErr rb zs.length cap k n ao _ hc1 hc2 hle hn0 hn1 h0 h1 h2 he).mono ?_; rintro e w' ⟨rfl, hdr⟩))
    go_ret2
    exact ⟨rfl, h.drawn hdr, hdr.only⟩

set_option maxHeartbeats 1000000 in
theorem rdInt (rb : Nat) (sv : Value) (zs : List Int) (k : Nat) (n : Int) (w : World) (h : Rd w rb sv zs k) (hn0 : -9223372036854775808 ≤ n) (hn1 : n ≤ 9223372036854775807) :
    Calls Tryz.prog 310 #[.pointer (some ⟨rb, 0, none⟩), .int .i64 n] w fun e w' =>
      e = .returned (.tuple #[.int .i64 (rdI zs k n (rdErr0 n ((zs.length : Int) - k))), .int .i64 (rdErr0 n ((zs.length : Int) - k))]) ∧ RdTo w rb sv zs (rdK k n (rdErr0 n ((zs.length : Int) - k))) w' := by
  obtain ⟨ao, cap, hsv, hc1, hc2, hc3, h0, h1, h2, f1, hrow⟩ := h.cells
  have hle := h.le
  unfold rdI rdK
  by_cases he : rdErr0 n ((zs.length : Int) - k) = 0
  · obtain ⟨e1, e2, e3⟩ := rdErr0_zero he
    obtain ⟨m, rfl⟩ := Int.eq_ofNat_of_zero_le (show 0 ≤ n by omega)
    obtain ⟨g, rfl, hg, hb⟩ := hrow (by omega)
    rw [if_pos he, if_pos he, he]
    have Hb := Lib.hid hb
    clear hrow he hb hsv
    go_enter Tryz.func310, Tryz.ntmps310
    go_wp2_with (first | (go_at_call 316; refine (readI rb g zs.length cap k m zs _ hc1 hc2 (by omega) (by omega) (by omega) rfl h.byt hg h0 h1 h2 f1 Hb.out).mono ?_; rintro e w' ⟨rfl, hmv⟩))
    go_ret2
    exact ⟨rfl, h.moved hmv (by omega), hmv.only⟩
  · rw [if_neg he, if_neg he]
    go_enter Tryz.func310, Tryz.ntmps310
    go_wp2_with (first | (go_at_call 316; refine (readIErr rb zs.length cap k n ao _ hc1 hc2 hle hn0 hn1 h0 h1 h2 he).mono ?_; rintro e w' ⟨rfl, hdr⟩))
    go_ret2
    exact ⟨rfl, h.drawn hdr, hdr.only⟩


theorem rdAtM (rb : Nat) (sv : Value) (zs : List Int) (k : Nat) (w : World) (h : Rd w rb sv zs k) :
    Calls Tryz.prog 301 #[.pointer (some ⟨rb, 0, none⟩)] w fun e w' => e = .returned (.int .i64 k) ∧ w = w' := by
  obtain ⟨ao, cap, hsv, hc1, hc2, hc3, h0, h1, h2, f1, hrow⟩ := h.cells
  exact rdAt rb k w h1 h2
theorem rdLeftM (rb : Nat) (sv : Value) (zs : List Int) (k : Nat) (w : World) (h : Rd w rb sv zs k) :
    Calls Tryz.prog 315 #[.pointer (some ⟨rb, 0, none⟩)] w fun e w' => e = .returned (.int .i64 ((zs.length : Int) - k)) ∧ Drawn w w' := by
  obtain ⟨ao, cap, hsv, hc1, hc2, hc3, h0, h1, h2, f1, hrow⟩ := h.cells
  exact rdLeft rb ao zs.length cap k w (by have := h.lim; omega) h.le h0 h1 h2

theorem newReader (v : Value) (zs : List Int) (w : World) (hb : Bytes w v zs) (hl : zs.length ≤ 140737488355328) :
    Calls Tryz.prog 285 #[v] w fun e w' => ∃ rb sv, e = .returned (.pointer (some ⟨rb, 0, none⟩)) ∧ Rd w' rb sv zs 0 ∧ Below w.heap.size w w' ∧ w.heap.size ≤ rb ∧ ∀ k, sv.ownBlock = some k → w.heap.size ≤ k := by
  have hbyt : Bytish zs := by obtain ⟨_, _, _, _, _, _, h, _⟩ := hb; exact h
  go_enter Tryz.func285, Tryz.ntmps285
  go_wp2_with (first | (go_at_call 298; refine (clone v zs _ hb hl).mono ?_; rintro e w1 ⟨v', rfl, hown, hbel⟩; obtain ⟨ao, cap, rfl, _, _⟩ := slice_of_owns hown))
  go_ret
  have hlt := hown.lt
  have ho := Only.alloc (Only.refl (fun _ => False) w1) (.cells #[.slice ao zs.length cap, .int .i64 0, .bool true] 373)
  refine ⟨w1.heap.size, _, rfl, ⟨heap_alloc_new w1 _, ho.owns (owns_base hown (fun _ _ => Nat.zero_le _)) (fun _ _ h => h), ?_, hbyt, Nat.zero_le _, hl⟩, hbel.trans (Below.mono ((Below.refl _ _).alloc (Nat.le_refl _) _) hbel.size), hbel.size, fun k hk => (hlt k hk).1⟩
  intro e
  have := (hlt _ e).2
  omega
end Go.Proofs.YtddjdlbmadlefaaGreatDoor
namespace Go.Proofs.YtddjdlbmadlefaaGreatDoor
open Go.RowKit
set_option linter.unusedVariables false
set_option linter.unusedSimpArgs false

/-- The number that n bytes at the place k spell. -/
def uAt (zs : List Int) (k n : Nat) : Int := valB ((zs.drop k).take n)
def noText : ByteArray := ⟨#[]⟩
/-- A constant of one number. -/
def NumRd (zs : List Int) (k n : Nat) (mk : Int → ConstV) (c : ConstV) (k' : Nat) (e : Int) : Prop :=
  (zs.length < k + n ∧ e = 3) ∨ (k + n ≤ zs.length ∧ e = 0 ∧ c = mk (uAt zs k n) ∧ k' = k + n)
def PairRd (zs : List Int) (k : Nat) (tag : Int) (c : ConstV) (k' : Nat) (e : Int) : Prop :=
  (zs.length < k + 4 ∧ e = 3) ∨ (k + 4 ≤ zs.length ∧ e = 0 ∧ c = ⟨tag, noText, 0, uAt zs k 2, uAt zs (k + 2) 2⟩ ∧ k' = k + 4)
def TextRd (zs : List Int) (k : Nat) (c : ConstV) (k' : Nat) (e : Int) : Prop :=
  (zs.length < k + 2 ∧ e = 3) ∨ (k + 2 ≤ zs.length ∧ 256 < uAt zs k 2 ∧ e = 20) ∨ (k + 2 ≤ zs.length ∧ uAt zs k 2 ≤ 256 ∧ zs.length < k + 2 + (uAt zs k 2).toNat ∧ e = 3) ∨
  (k + 2 ≤ zs.length ∧ uAt zs k 2 ≤ 256 ∧ k + 2 + (uAt zs k 2).toNat ≤ zs.length ∧ ∃ ys, Dec ((zs.drop (k + 2)).take (uAt zs k 2).toNat) ys e ∧ c = ⟨1, strOfNums ys, 0, 0, 0⟩ ∧ k' = k + 2 + (uAt zs k 2).toNat)
/-- A constant's bytes behind its tag: the constant, the place behind it, the error (with an error the others say nothing). -/
def RdC (zs : List Int) (k : Nat) (tag : Int) (c : ConstV) (k' : Nat) (e : Int) : Prop :=
  if tag = 1 then TextRd zs k c k' e
  else if tag = 3 then NumRd zs k 4 (fun u => ⟨3, noText, sgn 4 u, 0, 0⟩) c k' e
  else if tag = 5 then NumRd zs k 8 (fun u => ⟨5, noText, sgn 8 u, 0, 0⟩) c k' e
  else if tag = 7 then NumRd zs k 2 (fun u => ⟨7, noText, 0, u, 0⟩) c k' e
  else if tag = 9 ∨ tag = 10 ∨ tag = 12 then PairRd zs k tag c k' e
  else e = 40
/-- A constant, its tag with it. -/
def RdOne (zs : List Int) (k : Nat) (c : ConstV) (k' : Nat) (e : Int) : Prop :=
  (zs.length < k + 1 ∧ e = 3) ∨ (k + 1 ≤ zs.length ∧ RdC zs (k + 1) (uAt zs k 1) c k' e)

theorem NumRd.unique {zs : List Int} {k n : Nat} {mk : Int → ConstV} {c c' : ConstV} {k1 k2 : Nat} {e e' : Int} (h : NumRd zs k n mk c k1 e) (h' : NumRd zs k n mk c' k2 e') : e = e' ∧ (e = 0 → c = c' ∧ k1 = k2) := by
  rcases h with ⟨h, rfl⟩ | ⟨h, rfl, rfl, rfl⟩ <;> rcases h' with ⟨h', rfl⟩ | ⟨h', rfl, rfl, rfl⟩
  · exact ⟨rfl, fun h => absurd h (by decide)⟩
  · omega
  · omega
  · exact ⟨rfl, fun _ => ⟨rfl, rfl⟩⟩
theorem PairRd.unique {zs : List Int} {k : Nat} {tag : Int} {c c' : ConstV} {k1 k2 : Nat} {e e' : Int} (h : PairRd zs k tag c k1 e) (h' : PairRd zs k tag c' k2 e') : e = e' ∧ (e = 0 → c = c' ∧ k1 = k2) := by
  rcases h with ⟨h, rfl⟩ | ⟨h, rfl, rfl, rfl⟩ <;> rcases h' with ⟨h', rfl⟩ | ⟨h', rfl, rfl, rfl⟩
  · exact ⟨rfl, fun h => absurd h (by decide)⟩
  · omega
  · omega
  · exact ⟨rfl, fun _ => ⟨rfl, rfl⟩⟩
theorem TextRd.unique {zs : List Int} {k : Nat} {c c' : ConstV} {k1 k2 : Nat} {e e' : Int} (h : TextRd zs k c k1 e) (h' : TextRd zs k c' k2 e') : e = e' ∧ (e = 0 → c = c' ∧ k1 = k2) := by
  rcases h with ⟨h, rfl⟩ | ⟨h, h2, rfl⟩ | ⟨h, h2, h3, rfl⟩ | ⟨h, h2, h3, ys, hd, rfl, rfl⟩ <;> rcases h' with ⟨h', rfl⟩ | ⟨h', h2', rfl⟩ | ⟨h', h2', h3', rfl⟩ | ⟨h', h2', h3', ys', hd', rfl, rfl⟩
  all_goals first
    | exact ⟨rfl, fun h => absurd h (by decide)⟩
    | omega
    | (obtain ⟨rfl, rfl⟩ := Dec.unique hd hd'; exact ⟨rfl, fun _ => ⟨rfl, rfl⟩⟩)
theorem RdC.unique {zs : List Int} {k : Nat} {tag : Int} {c c' : ConstV} {k1 k2 : Nat} {e e' : Int} (h : RdC zs k tag c k1 e) (h' : RdC zs k tag c' k2 e') : e = e' ∧ (e = 0 → c = c' ∧ k1 = k2) := by
  unfold RdC at h h'
  by_cases h1 : tag = 1
  · rw [if_pos h1] at h h'; exact h.unique h'
  rw [if_neg h1] at h h'
  by_cases h3 : tag = 3
  · rw [if_pos h3] at h h'; exact h.unique h'
  rw [if_neg h3] at h h'
  by_cases h5 : tag = 5
  · rw [if_pos h5] at h h'; exact h.unique h'
  rw [if_neg h5] at h h'
  by_cases h7 : tag = 7
  · rw [if_pos h7] at h h'; exact h.unique h'
  rw [if_neg h7] at h h'
  by_cases h9 : tag = 9 ∨ tag = 10 ∨ tag = 12
  · rw [if_pos h9] at h h'; exact h.unique h'
  rw [if_neg h9] at h h'
  subst h h'
  exact ⟨rfl, fun h => absurd h (by decide)⟩
theorem RdOne.unique {zs : List Int} {k : Nat} {c c' : ConstV} {k1 k2 : Nat} {e e' : Int} (h : RdOne zs k c k1 e) (h' : RdOne zs k c' k2 e') : e = e' ∧ (e = 0 → c = c' ∧ k1 = k2) := by
  rcases h with ⟨h, rfl⟩ | ⟨h, hr⟩ <;> rcases h' with ⟨h', rfl⟩ | ⟨h', hr'⟩
  · exact ⟨rfl, fun h => absurd h (by decide)⟩
  · omega
  · omega
  · exact hr.unique hr'

def zeroK : ConstV := ⟨0, noText, 0, 0, 0⟩
/-- So many constants were read, from the place 2 on; the next one begins at k. -/
inductive Reads (zs : List Int) : List ConstV → Nat → Prop
  | start : Reads zs [zeroK] 2
  | more {cs : List ConstV} {k k' : Nat} {c : ConstV} : Reads zs cs k → RdOne zs k c k' 0 → Reads zs (cs ++ [c]) k'
theorem Reads.ne_nil {zs : List Int} {cs : List ConstV} {k : Nat} (h : Reads zs cs k) : 0 < cs.length := by
  cases h with
  | start => simp
  | more _ _ => simp
theorem Reads.unique {zs : List Int} : ∀ {n : Nat} {cs ds : List ConstV} {k l : Nat}, cs.length = n → ds.length = n → Reads zs cs k → Reads zs ds l → cs = ds ∧ k = l
  | 0, cs, ds, k, l, hc, hd, h, h' => by have := h.ne_nil; omega
  | n + 1, cs, ds, k, l, hc, hd, h, h' => by
    cases h with
    | start =>
      cases h' with
      | start => exact ⟨rfl, rfl⟩
      | more h2 _ => have := h2.ne_nil; simp at hd hc; omega
    | more h1 r1 =>
      cases h' with
      | start => have := h1.ne_nil; simp at hd hc; omega
      | more h2 r2 =>
        simp only [List.length_append, List.length_cons, List.length_nil] at hc hd
        obtain ⟨rfl, rfl⟩ := Reads.unique (n := n) (by omega) (by omega) h1 h2
        obtain ⟨_, hu⟩ := r1.unique r2
        obtain ⟨rfl, rfl⟩ := hu rfl
        exact ⟨rfl, rfl⟩
/-- The first ones of what was read were read too. -/
theorem Reads.part {zs : List Int} {cs : List ConstV} {k : Nat} (h : Reads zs cs k) : ∀ {m : Nat}, 0 < m → m < cs.length → ∃ ds l c l', ds.length = m ∧ Reads zs ds l ∧ RdOne zs l c l' 0 := by
  induction h with
  | start => intro m h0 h1; simp at h1; omega
  | @more cs k k' c h1 r1 ih =>
    intro m h0 hm
    simp only [List.length_append, List.length_cons, List.length_nil] at hm
    by_cases e : m < cs.length
    · exact ih h0 e
    · exact ⟨cs, k, c, k', by omega, h1, r1⟩
/-- How it ends: an error at the next constant, or as many as were to be read. -/
def ReadsTo (zs : List Int) (N : Nat) (r : (List ConstV × Nat) ⊕ Int) : Prop :=
  (∃ ds k c k' e, Reads zs ds k ∧ ds.length < N ∧ RdOne zs k c k' e ∧ e ≠ 0 ∧ r = .inr e) ∨ (∃ ds k, Reads zs ds k ∧ ds.length = N ∧ r = .inl (ds, k))
theorem ReadsTo.unique {zs : List Int} {N : Nat} {r r' : (List ConstV × Nat) ⊕ Int} (h : ReadsTo zs N r) (h' : ReadsTo zs N r') : r = r' := by
  rcases h with ⟨ds, k, c, k', e, h1, h2, h3, h4, rfl⟩ | ⟨ds, k, h1, h2, rfl⟩ <;> rcases h' with ⟨ds', l, c', l', e', h1', h2', h3', h4', rfl⟩ | ⟨ds', l, h1', h2', rfl⟩
  · have hlen : ds.length = ds'.length := by
      rcases Nat.lt_trichotomy ds.length ds'.length with hl | hl | hl
      · obtain ⟨es, m, d, m', he, hr, ho⟩ := h1'.part h1.ne_nil hl
        obtain ⟨rfl, rfl⟩ := Reads.unique he rfl hr h1
        exact absurd (ho.unique h3).1.symm h4
      · exact hl
      · obtain ⟨es, m, d, m', he, hr, ho⟩ := h1.part h1'.ne_nil hl
        obtain ⟨rfl, rfl⟩ := Reads.unique he rfl hr h1'
        exact absurd (ho.unique h3').1.symm h4'
    obtain ⟨rfl, rfl⟩ := Reads.unique rfl hlen.symm h1 h1'
    rw [(h3.unique h3').1]
  · obtain ⟨es, m, d, m', he, hr, ho⟩ := h1'.part h1.ne_nil (by omega)
    obtain ⟨rfl, rfl⟩ := Reads.unique he rfl hr h1
    exact absurd (ho.unique h3).1.symm h4
  · obtain ⟨es, m, d, m', he, hr, ho⟩ := h1.part h1'.ne_nil (by omega)
    obtain ⟨rfl, rfl⟩ := Reads.unique he rfl hr h1'
    exact absurd (ho.unique h3').1.symm h4'
  · obtain ⟨rfl, rfl⟩ := Reads.unique h2 h2' h1 h1'
    rfl
end Go.Proofs.YtddjdlbmadlefaaGreatDoor
namespace Go.Proofs.YtddjdlbmadlefaaGreatDoor
open Go.RowKit
set_option linter.unusedVariables false
set_option linter.unusedSimpArgs false

theorem Rd.bytish {w : World} {rb : Nat} {sv : Value} {zs : List Int} {k : Nat} (h : Rd w rb sv zs k) : Bytish zs := h.byt
theorem uAt_lt' {zs : List Int} (hz : Bytish zs) (k n : Nat) (h : k + n ≤ zs.length) : 0 ≤ uAt zs k n ∧ uAt zs k n < 256 ^ n := valB_lt n _ (by simp; omega) ((hz.drop k).take n)
section
variable (rb : Nat) (sv : Value) (zs : List Int) (k n : Nat) (w : World)
theorem pdU_ok (h : Rd w rb sv zs k) (hn1 : 1 ≤ n) (hn8 : n ≤ 8) (hroom : k + n ≤ zs.length) :
    Calls Tryz.prog 286 #[.pointer (some ⟨rb, 0, none⟩), .int .i64 n] w fun e w' => e = .returned (.tuple #[.int .u64 (uAt zs k n), .int .i64 0]) ∧ RdTo w rb sv zs (k + n) w' := by
  have he : rdErr0 n ((zs.length : Int) - k) = 0 := by unfold rdErr0; rw [if_neg (by omega), if_neg (by omega)]
  have := rdUint rb sv zs k n w h (by omega) (by omega)
  rw [he] at this
  simp only [rdU, rdK, if_true, Int.toNat_natCast] at this
  exact this
theorem pdU_short (h : Rd w rb sv zs k) (hn1 : 1 ≤ n) (hn8 : n ≤ 8) (hroom : zs.length < k + n) :
    Calls Tryz.prog 286 #[.pointer (some ⟨rb, 0, none⟩), .int .i64 n] w fun e w' => e = .returned (.tuple #[.int .u64 0, .int .i64 3]) ∧ RdTo w rb sv zs k w' := by
  have he : rdErr0 n ((zs.length : Int) - k) = 3 := by unfold rdErr0; rw [if_neg (by omega), if_pos (by omega)]
  have := rdUint rb sv zs k n w h (by omega) (by omega)
  rw [he] at this
  simp only [rdU, rdK, show ¬ ((3 : Int) = 0) by decide, if_false] at this
  exact this
end

/-- What leaves by a panic with an error's number. -/
abbrev pan (z : Int) : Ending := .panicked [{ v := .iface 24 (.int .i64 z), recovered := false }]

/-- What reads: the bytes, a place; a value and the place behind it, or an error. -/
abbrev Pr (α : Type) := List Int → Nat → Except Int (α × Nat)
def retP {α : Type} (a : α) : Pr α := fun _ k => .ok (a, k)
def failP {α : Type} (e : Int) : Pr α := fun _ _ => .error e
def bindP {α β : Type} (p : Pr α) (f : α → Pr β) : Pr β := fun zs k => match p zs k with | .ok (a, k') => f a zs k' | .error e => .error e
def numP (n : Nat) : Pr Int := fun zs k => if k + n ≤ zs.length then .ok (uAt zs k n, k + n) else .error 3
def bytesP (n : Nat) : Pr (List Int) := fun zs k => if k + n ≤ zs.length then .ok ((zs.drop k).take n, k + n) else .error 3

def atP : Pr Nat := fun _ k => .ok (k, k)

def listP {α : Type} (p : Pr α) : Nat → Pr (List α)
  | 0 => retP []
  | n + 1 => bindP p fun a => bindP (listP p n) fun l => retP (a :: l)

theorem bindP_ok {α β : Type} {p : Pr α} {f : α → Pr β} {zs : List Int} {k k' : Nat} {a : α} (h : p zs k = .ok (a, k')) : bindP p f zs k = f a zs k' := by unfold bindP; rw [h]
theorem bindP_error {α β : Type} {p : Pr α} {f : α → Pr β} {zs : List Int} {k : Nat} {e : Int} (h : p zs k = .error e) : bindP p f zs k = .error e := by unfold bindP; rw [h]
theorem bindP_inv {α β : Type} {p : Pr α} {f : α → Pr β} {zs : List Int} {k k' : Nat} {b : β} (h : bindP p f zs k = .ok (b, k')) : ∃ a k1, p zs k = .ok (a, k1) ∧ f a zs k1 = .ok (b, k') := by
  unfold bindP at h
  split at h
  · rename_i a k1 e; exact ⟨a, k1, e, h⟩
  · cases h


/-- What a reading leaves: its value and the place behind it, or a refusal. -/
def RdE {α : Type} (V : α → Value) (rb : Nat) (sv : Value) (zs : List Int) (w : World) (r : Except Int (α × Nat)) (e : Ending) (w' : World) : Prop :=
  ((∃ a k, r = .ok (a, k) ∧ e = .returned (V a) ∧ Rd w' rb sv zs k) ∨ (∃ x, r = .error x ∧ e = pan x)) ∧ Only (fun j => j = rb) w w'
theorem RdE.ok {α : Type} {V : α → Value} {rb : Nat} {sv : Value} {zs : List Int} {w w' : World} {r : Except Int (α × Nat)} {a : α} {k : Nat} (h : r = .ok (a, k)) (hr : Rd w' rb sv zs k) (ho : Only (fun j => j = rb) w w') : RdE V rb sv zs w r (.returned (V a)) w' := ⟨.inl ⟨a, k, h, rfl, hr⟩, ho⟩
theorem RdE.no {α : Type} {V : α → Value} {rb : Nat} {sv : Value} {zs : List Int} {w w' : World} {r : Except Int (α × Nat)} {x : Int} (h : r = .error x) (ho : Only (fun j => j = rb) w w') : RdE V rb sv zs w r (pan x) w' := ⟨.inr ⟨x, h, rfl⟩, ho⟩
abbrev unitV : Unit → Value := fun _ => .tuple #[]
theorem Only.rb {w1 w2 : World} {rb : Nat} (h : Only (fun _ => False) w1 w2) : Only (fun j => j = rb) w1 w2 := h.mono (fun _ h _ => h.elim)
theorem Only.rbs {w0 w1 w2 : World} {rb : Nat} (h : Only (fun j => j = rb) w0 w1) (h2 : Only (fun j => j = rb) w1 w2) : Only (fun j => j = rb) w0 w2 := h.trans h2 (fun _ h _ => h)


theorem numP_val (zs : List Int) (k : Nat) {n : Nat} {x : Int} {k' : Nat} (hz : Bytish zs) (h : numP n zs k = .ok (x, k')) : 0 ≤ x ∧ x < 256 ^ n := by
  unfold numP at h
  split at h
  · rename_i hr
    injection h with h
    injection h with h1 h2
    subst h1
    exact uAt_lt' hz k n hr
  · cases h

/-- So much of a list is read. -/
def ListTo {α : Type} (p : Pr α) (n : Nat) (zs : List Int) (k : Nat) (l : List α) (k' : Nat) : Prop := listP p n zs k = bindP (listP p (n - l.length)) (fun r => retP (l ++ r)) zs k'
section
variable {α : Type} {p : Pr α} {n : Nat} {zs : List Int} {k k' k'' : Nat} {l : List α} {a : α} {e : Int}
theorem ListTo.start : ListTo p n zs k [] k := by
  unfold ListTo bindP retP
  simp only [List.length_nil, Nat.sub_zero, List.nil_append]
  cases listP p n zs k <;> rfl
theorem ListTo.more (h : ListTo p n zs k l k') (hl : l.length < n) (hp : p zs k' = .ok (a, k'')) : ListTo p n zs k (l ++ [a]) k'' := by
  unfold ListTo at *
  rw [h]
  obtain ⟨m, hm⟩ : ∃ m, n - l.length = m + 1 := ⟨n - l.length - 1, by omega⟩
  have hm2 : n - (l ++ [a]).length = m := by simp; omega
  rw [hm, hm2]
  simp only [listP, bindP, retP, hp]
  cases listP p m zs k'' with
  | error e => rfl
  | ok x => simp
theorem ListTo.fail (h : ListTo p n zs k l k') (hl : l.length < n) (hp : p zs k' = .error e) : listP p n zs k = .error e := by
  unfold ListTo at h
  rw [h]
  obtain ⟨m, hm⟩ : ∃ m, n - l.length = m + 1 := ⟨n - l.length - 1, by omega⟩
  rw [hm]
  simp only [listP, bindP, retP, hp]
theorem ListTo.done (h : ListTo p n zs k l k') (hl : l.length = n) : listP p n zs k = .ok (l, k') := by
  unfold ListTo at h
  rw [h, hl, Nat.sub_self]
  simp only [listP, bindP, retP, List.append_nil]
end

/-- Where a reading stands: at a place, or at its first error. -/
abbrev StZ := Except Int Nat
def runP {α : Type} (p : Pr α) (zs : List Int) : StZ → Except Int (α × Nat)
  | .ok k => p zs k
  | .error e => .error e
def withZ {α : Type} (a : α) : StZ → Except Int (α × Nat)
  | .ok k => .ok (a, k)
  | .error e => .error e
/-- A part is read: from one state to the next, with a value (any one behind an error). -/
def Nx {α : Type} (p : Pr α) (zs : List Int) (σ : StZ) (a : α) (σ' : StZ) : Prop := runP p zs σ = withZ a σ'
theorem Nx.bind {α β : Type} {p : Pr α} {f : α → Pr β} {zs : List Int} {σ σ' σ'' : StZ} {a : α} {b : β} (h : Nx p zs σ a σ') (h2 : Nx (f a) zs σ' b σ'') : Nx (bindP p f) zs σ b σ'' := by
  unfold Nx at *
  cases σ with
  | error e =>
    cases σ' with
    | error e' => simp only [runP, withZ] at h h2 ⊢; injection h with h; subst h; exact h2
    | ok k => simp only [runP, withZ] at h; cases h
  | ok k =>
    cases σ' with
    | error e' =>
      simp only [runP, withZ] at h h2 ⊢
      rw [bindP_error h]
      exact h2
    | ok k' =>
      simp only [runP, withZ] at h h2 ⊢
      rw [bindP_ok h]
      exact h2
theorem Nx.ret {α : Type} (a : α) (zs : List Int) (σ : StZ) : Nx (retP a) zs σ a σ := by cases σ <;> rfl
theorem Nx.bad {α : Type} (p : Pr α) (a : α) (zs : List Int) (e : Int) : Nx p zs (.error e) a (.error e) := rfl
theorem Nx.of_ok {α : Type} {p : Pr α} {zs : List Int} {k k' : Nat} {a : α} (h : p zs k = .ok (a, k')) : Nx p zs (.ok k) a (.ok k') := h
theorem Nx.of_error {α : Type} {p : Pr α} {zs : List Int} {k : Nat} {e : Int} (a : α) (h : p zs k = .error e) : Nx p zs (.ok k) a (.error e) := h
def failS (x : Int) : StZ → StZ
  | .ok k => if x = 0 then .ok k else .error x
  | .error e => .error e

theorem Nx.fail {α : Type} (a : α) {zs : List Int} {σ : StZ} {x : Int} (h : x ≠ 0) : Nx (failP x) zs σ a (failS x σ) := by
  unfold Nx
  cases σ with
  | ok k => simp only [failS, if_neg h]; rfl
  | error e => rfl

def StK (σ : StZ) (k : Nat) (e : Int) : Prop := match σ with
  | .ok k' => k' = k ∧ e = 0
  | .error x => e = x ∧ x ≠ 0
theorem Nx.at {σ : StZ} {k : Nat} {e : Int} (zs : List Int) (h : StK σ k e) : Nx atP zs σ k σ := by
  unfold Nx
  cases σ with
  | ok k' => obtain ⟨rfl, _⟩ := h; rfl
  | error e => rfl

/-- So much of a list is read, to a state. -/
def ListS {α : Type} (p : Pr α) (n : Nat) (zs : List Int) (σ0 : StZ) (l : List α) : StZ → Prop
  | .ok k => ∃ k0, σ0 = .ok k0 ∧ ListTo p n zs k0 l k
  | .error e => runP (listP p n) zs σ0 = .error e
section
variable {α : Type} {p : Pr α} {n : Nat} {zs : List Int} {σ0 σ σ' : StZ} {l : List α} {a : α}
theorem ListS.start : ListS p n zs σ0 [] σ0 := by
  cases σ0 with
  | ok k => exact ⟨k, rfl, ListTo.start⟩
  | error e => rfl
theorem ListS.more {k : Nat} (h : ListS p n zs σ0 l (.ok k)) (hl : l.length < n) (hp : Nx p zs (.ok k) a σ') : ListS p n zs σ0 (l ++ [a]) σ' := by
  obtain ⟨k0, rfl, h⟩ := h
  cases σ' with
  | ok k' => exact ⟨k0, rfl, h.more hl hp⟩
  | error e => exact h.fail hl hp
theorem ListS.done (h : ListS p n zs σ0 l σ) (hd : (∃ e, σ = .error e) ∨ l.length = n) : Nx (listP p n) zs σ0 l σ := by
  cases σ with
  | error e => exact h
  | ok k =>
    rcases hd with ⟨e, he⟩ | hd
    · cases he
    · obtain ⟨k0, rfl, h⟩ := h
      exact h.done hd
end
theorem nx_num_lt {n : Nat} {zs : List Int} {σ σ' : StZ} (hz : Bytish zs) : ∃ x σ', Nx (numP n) zs σ x σ' ∧ 0 ≤ x ∧ x < 256 ^ n ∧ (∀ e, σ' = .error e → x = 0) := by
  have hp : (0 : Int) < 256 ^ n := Int.pow_pos (by decide)
  cases σ with
  | error e => exact ⟨0, .error e, rfl, Int.le_refl _, hp, fun _ _ => rfl⟩
  | ok k =>
    unfold Nx runP numP
    by_cases hr : k + n ≤ zs.length
    · have := uAt_lt' hz k n hr
      exact ⟨uAt zs k n, .ok (k + n), by simp only [if_pos hr]; rfl, this.1, this.2, fun e he => by cases he⟩
    · exact ⟨0, .error 3, by simp only [if_neg hr]; rfl, Int.le_refl _, hp, fun _ _ => rfl⟩
end Go.Proofs.YtddjdlbmadlefaaGreatDoor
