/- The readers' small calls: what each answers and that each only reads. No condition. Reading a number: the program's readNumber at both kinds. No condition beyond a reader that was made. The writers' small calls. No condition beyond a writer that was made. Writing a number: the program's writeNumber at both kinds. No condition beyond a writer that was made. The writers' calls, each for every argument. No condition beyond a writer that was made. The readers' calls, each for every argument; a new reader; that the program computes at all. No condition beyond a reader that was made, and the form's reach. -/
import Derived.Test.YtadgbkjjeigpjaaDoorRows
import Derived.Test.YtadgbkjjeigpjaaDoorSep
import Derived.Deep.QuietTactic
import Derived.BigQuiet
import Derived.Test.YtadgbkjjeigpjaaDoorMem
import Derived.Test.YtadgbkjjeigpjaaDoorNum
import Derived.Test.YtadgbkjjeigpjaaDoorClone
import Derived.Deep.RegionLaw
namespace Go.Proofs.YtadgbkjjeigpjaaDoor
open Go.RowKit

/-- A reader's three fields. -/
def RdCells (w : World) (rb : Nat) (ao : Option Addr) (n cap : Nat) (at_ : Nat) : Prop :=
  w.cell? ⟨rb, 0, none⟩ = some (.slice ao n cap) ∧ w.cell? ⟨rb, 1, none⟩ = some (.int .i64 at_) ∧ w.cell? ⟨rb, 2, none⟩ = some (.bool true)

set_option maxHeartbeats 400000 in
theorem rdLeft (rb : Nat) (ao : Option Addr) (n cap k : Nat) (w : World) (hn : n ≤ 9223372036854775807) (hk : k ≤ n) (h0 : w.cell? ⟨rb, 0, none⟩ = some (.slice ao n cap)) (h1 : w.cell? ⟨rb, 1, none⟩ = some (.int .i64 k)) (h2 : w.cell? ⟨rb, 2, none⟩ = some (.bool true)) :
    Calls Tryd.prog 33 #[.pointer (some ⟨rb, 0, none⟩)] w fun e w' => e = .returned (.int .i64 ((n : Int) - k)) ∧ ∃ nq, w' = w.drewN nq := by
  go_enter Tryd.func33, Tryd.ntmps33
  go_wp2
  go_quiet (fail)
  go_wp2
  go_ret
  exact ⟨rfl, _, rfl⟩

/-- Why a number of n bytes can't be read, where so many are left; and why a list can't. -/
def rdErr0 (n left : Int) : Int := if n < 1 ∨ 8 < n then 1 else if left < n then 3 else 0
def rdErr1 (n left : Int) : Int := if n < 0 then 1 else if left < n then 3 else 0

set_option maxHeartbeats 1000000 in
theorem rdRefusal0 (rb : Nat) (ao : Option Addr) (n cap k : Nat) (m : Int) (w : World) (hn : n ≤ 9223372036854775807) (hk : k ≤ n) (hm0 : -9223372036854775808 ≤ m) (hm1 : m ≤ 9223372036854775807)
    (h0 : w.cell? ⟨rb, 0, none⟩ = some (.slice ao n cap)) (h1 : w.cell? ⟨rb, 1, none⟩ = some (.int .i64 k)) (h2 : w.cell? ⟨rb, 2, none⟩ = some (.bool true)) :
    Calls Tryd.prog 82 #[.pointer (some ⟨rb, 0, none⟩), .int .i64 0, .int .i64 m] w fun e w' => e = .returned (.int .i64 (rdErr0 m ((n : Int) - k))) ∧ ∃ nq, w' = w.drewN nq := by
  go_enter Tryd.func82, Tryd.ntmps82
  go_wp2_with (first | (go_at_call 33; refine (rdLeft rb ao n cap k _ hn hk h0 h1 h2).mono ?_; rintro e w' ⟨rfl, nq, rfl⟩) | go_in)
  all_goals go_ret
  all_goals refine ⟨congrArg (fun z => Ending.returned (.int .i64 z)) ?_, ?_⟩
  all_goals first | exact ⟨_, rfl⟩ | exact ⟨0, rfl⟩ | skip
  all_goals unfold rdErr0
  all_goals try simp only [Bool.not_eq_true', Bool.not_eq_false', decide_eq_true_eq, decide_eq_false_iff_not] at *
  all_goals (repeat' split) <;> omega

set_option maxHeartbeats 1000000 in
theorem rdRefusal1 (rb : Nat) (ao : Option Addr) (n cap k : Nat) (m : Int) (w : World) (hn : n ≤ 9223372036854775807) (hk : k ≤ n) (hm0 : -9223372036854775808 ≤ m) (hm1 : m ≤ 9223372036854775807)
    (h0 : w.cell? ⟨rb, 0, none⟩ = some (.slice ao n cap)) (h1 : w.cell? ⟨rb, 1, none⟩ = some (.int .i64 k)) (h2 : w.cell? ⟨rb, 2, none⟩ = some (.bool true)) :
    Calls Tryd.prog 82 #[.pointer (some ⟨rb, 0, none⟩), .int .i64 1, .int .i64 m] w fun e w' => e = .returned (.int .i64 (rdErr1 m ((n : Int) - k))) ∧ ∃ nq, w' = w.drewN nq := by
  go_enter Tryd.func82, Tryd.ntmps82
  go_wp2_with (first | (go_at_call 33; refine (rdLeft rb ao n cap k _ hn hk h0 h1 h2).mono ?_; rintro e w' ⟨rfl, nq, rfl⟩) | go_in)
  all_goals go_ret
  all_goals refine ⟨congrArg (fun z => Ending.returned (.int .i64 z)) ?_, ?_⟩
  all_goals first | exact ⟨_, rfl⟩ | exact ⟨0, rfl⟩ | skip
  all_goals unfold rdErr1
  all_goals try simp only [Bool.not_eq_true', Bool.not_eq_false', decide_eq_true_eq, decide_eq_false_iff_not] at *
  all_goals (repeat' split) <;> omega

/-- next: the next m bytes, a part of the reader's own. -/
theorem rdNext (rb g n cap k m : Nat) (w : World) (hn : n ≤ cap) (hc : cap ≤ 9223372036854775807) (hk : k + m ≤ n) (hm : 1 ≤ m)
    (h0 : w.cell? ⟨rb, 0, none⟩ = some (.slice (some ⟨g, 0, none⟩) n cap)) (h1 : w.cell? ⟨rb, 1, none⟩ = some (.int .i64 k)) (f1 : w.frozen? ⟨rb, 1, none⟩ = false) :
    Calls Tryd.prog 83 #[.pointer (some ⟨rb, 0, none⟩), .int .i64 m] w fun e w' =>
      e = .returned (.slice (some ⟨g, k, none⟩) m (cap - k)) ∧ ∃ nq, w' = (w.setCell ⟨rb, 1, none⟩ (.int .i64 ((k : Int) + m))).drewN nq := by
  have hck : ¬ cap = k := by omega
  go_enter Tryd.func83, Tryd.ntmps83
  go_wp2
  go_quiet (fail)
  go_wp2
  go_ret
  exact ⟨congrArg (fun q => Ending.returned (.slice (some ⟨g, k, none⟩) q (cap - k))) (by omega : k + m - k = m), _, rfl⟩

/-- next of no bytes. -/
theorem rdNext0 (rb n cap k : Nat) (ao : Option Addr) (w : World) (hn : n ≤ cap) (hc : cap ≤ 9223372036854775807) (hk : k ≤ n)
    (h0 : w.cell? ⟨rb, 0, none⟩ = some (.slice ao n cap)) (h1 : w.cell? ⟨rb, 1, none⟩ = some (.int .i64 k)) (f1 : w.frozen? ⟨rb, 1, none⟩ = false) :
    Calls Tryd.prog 83 #[.pointer (some ⟨rb, 0, none⟩), .int .i64 0] w fun e w' =>
      (∃ ao', e = .returned (.slice ao' 0 (cap - k)) ∧ (ao' = none → ao = none)) ∧ ∃ nq, w' = (w.setCell ⟨rb, 1, none⟩ (.int .i64 (k : Int))).drewN nq := by
  go_enter Tryd.func83, Tryd.ntmps83
  go_wp2
  go_quiet (fail)
  go_wp2
  all_goals go_ret
  all_goals exact ⟨⟨_, rfl, by cases ao <;> simp⟩, _, rfl⟩
end Go.Proofs.YtadgbkjjeigpjaaDoor
namespace Go.Proofs.YtadgbkjjeigpjaaDoor
open Go.RowKit

theorem cutU (x : Int) (n : Nat) (w : World) (hn : 1 ≤ n) (hn' : n ≤ 8) :
    Calls Tryd.prog 81 #[.int .u64 x, .int .i64 n] w fun e w' => e = .returned (.int .u64 (cutUv n x)) ∧ w = w' := by
  go_enter Tryd.func81, Tryd.ntmps81
  go_wp2
  go_ret
  exact ⟨rfl, rfl⟩
/-- A reader's place has been set; nothing else. -/
def Moved (rb : Nat) (k : Int) (w w' : World) : Prop := ∃ nq, w' = (w.setCell ⟨rb, 1, none⟩ (.int .i64 k)).drewN nq
theorem Moved.drawn {rb : Nat} {k : Int} {w w' w'' : World} (h : Moved rb k w w') (h' : Drawn w' w'') : Moved rb k w w'' := by
  obtain ⟨a, rfl⟩ := h; obtain ⟨b, rfl⟩ := h'; exact ⟨a + b, by simp [World.drewN, Nat.add_assoc]⟩
theorem Moved.after {rb : Nat} {k : Int} {w w' w'' : World} (h : Drawn w w') (h' : Moved rb k w' w'') : Moved rb k w w'' := by
  obtain ⟨a, rfl⟩ := h; obtain ⟨b, rfl⟩ := h'; exact ⟨a + b, by simp [World.drewN, World.setCell, Nat.add_assoc]⟩
theorem Moved.other {rb : Nat} {k : Int} {w w' : World} (h : Moved rb k w w') {a : Addr} (ha : a ≠ ⟨rb, 1, none⟩) : w'.cell? a = w.cell? a := by
  obtain ⟨n, rfl⟩ := h
  show (w.setCell _ _).cell? a = _
  exact World.cell?_setCell_other _ _ _ _ (fun e => ha e.symm)
theorem Moved.same {rb : Nat} {k : Int} {u : Value} {w w' : World} (h : Moved rb k w w') (hu : w.cell? ⟨rb, 1, none⟩ = some u) : w'.cell? ⟨rb, 1, none⟩ = some (.int .i64 k) := by
  obtain ⟨n, rfl⟩ := h
  show (w.setCell _ _).cell? _ = _
  exact World.cell?_setCell_same _ _ _ hu
theorem Moved.frozen {rb : Nat} {k : Int} {w w' : World} (h : Moved rb k w w') (a : Addr) : w'.frozen? a = w.frozen? a := by
  obtain ⟨n, rfl⟩ := h
  show (w.setCell _ _).frozen? _ = _
  simp
theorem Moved.only {rb : Nat} {k : Int} {w w' : World} (h : Moved rb k w w') : Only (fun b => b = rb) w w' := by
  obtain ⟨n, rfl⟩ := h
  exact (Only.setCell (S := fun b => b = rb) (Only.refl _ _) (fun _ => rfl) _).drewN n

set_option maxHeartbeats 1000000 in
theorem readU (rb g n cap k m : Nat) (zs : List Int) (w : World) (hn : n ≤ cap) (hc : cap ≤ 9223372036854775807) (hk : k + m ≤ n) (hm : 1 ≤ m) (hm8 : m ≤ 8) (hl : zs.length = n) (hz : Bytish zs) (hgr : g ≠ rb)
    (h0 : w.cell? ⟨rb, 0, none⟩ = some (.slice (some ⟨g, 0, none⟩) n cap)) (h1 : w.cell? ⟨rb, 1, none⟩ = some (.int .i64 k)) (h2 : w.cell? ⟨rb, 2, none⟩ = some (.bool true)) (f1 : w.frozen? ⟨rb, 1, none⟩ = false)
    (hb : ∀ j, j < n → w.cell? ⟨g, j, none⟩ = some (.int .u8 (zs.getD j 0))) :
    Calls Tryd.prog 73 #[.pointer (some ⟨rb, 0, none⟩), .int .i64 m] w fun e w' =>
      e = .returned (.tuple #[.int .u64 (valB ((zs.drop k).take m)), .int .i64 0]) ∧ Moved rb ((k : Int) + m) w w' := by
  have he : rdErr0 m ((n : Int) - k) = 0 := by unfold rdErr0; rw [if_neg (by omega), if_neg (by omega)]
  go_enter Tryd.func73, Tryd.ntmps73
  go_wp2_with (first | (go_at_call 82; go_loud (refine (rdRefusal0 rb _ n cap k m _ (by omega) (by omega) (by omega) (by omega) h0 h1 h2).mono ?_); rintro e w' ⟨rfl, nq, rfl⟩) | (go_at_call 83; go_loud (refine (rdNext rb g n cap k m _ hn hc hk hm (by exact h0) (by exact h1) (by exact f1)).mono ?_); rintro e w' ⟨rfl, hmv⟩))
  have hmv2 : Moved rb ((k : Int) + m) w w' := Moved.after ⟨nq, rfl⟩ hmv
  clear hmv
  have hcell : ∀ j, j < m → w'.cell? ⟨g, k + j, none⟩ = some (.int .u8 ((zs.drop k).getD j 0)) := by
    intro j hj
    rw [hmv2.other (by intro e; injection e with e1; exact hgr e1), hb (k + j) (by omega)]
    simp [List.getD]
  have hlen : ((zs.drop k).take m).length = m := by simp; omega
  have hL : m ≤ (zs.drop k).length := by simp; omega
  have hz' : ∀ j, j < m → 0 ≤ (zs.drop k).getD j 0 ∧ (zs.drop k).getD j 0 < 256 := fun j hj => (hz.drop k).getD (by omega)
  have hval := valB_lt m ((zs.drop k).take m) hlen ((hz.drop k).take m)
  have Hfin := Lib.hid (readU_val m hm hm8 _ hval.1 hval.2)
  generalize hys : zs.drop k = ys at *
  have Hys := Lib.hid hys
  clear hval hlen hys
  go_loop [7, 20] (fun x i => ∃ j : Nat, j ≤ m ∧ i = .int .i64 j ∧ x = .int .u64 (IntKind.u64.wrap (valB (ys.take j)))) (fun _ i => m - (intOf i).toNat)
  case atStart => exact ⟨0, Nat.zero_le _, rfl, by simp [valB, wrapU0]⟩
  case round =>
    obtain ⟨j, hj, rfl, rfl⟩ := hrel
    by_cases hlt : j < m
    · have hc1 := hcell j hlt
      have hz1 := hz' j hlt
      have HS := Lib.hid (stepU _ (valB (ys.take j)) (ys.getD j 0) rfl hz1.1 hz1.2)
      have HT := Lib.hid (valB_take ys j (by omega))
      clear hcell hz'
      generalize valB (ys.take j) = v at *
      generalize ys.getD j 0 = c at *
      go_wp2
      go_round
      case rel => exact ⟨j + 1, by omega, by go_num, by rw [HT.out, ← HS.out]⟩
      case measure => simp [intOf]; omega
    · have hjm : j = m := by omega
      subst hjm
      go_wp2_with (first | (go_at_call 81; go_loud (refine (cutU _ j _ hm hm8).mono ?_); rintro e w' ⟨rfl, rfl⟩))
      go_ret2
      refine ⟨?_, hmv2⟩
      show Ending.returned (.tuple #[.int .u64 (cutUv j (IntKind.u64.wrap (valB (ys.take j)))), .int .i64 0]) = _
      rw [Hfin.out, Hys.out]

set_option maxHeartbeats 1000000 in
theorem readUErr (rb n cap k : Nat) (m : Int) (ao : Option Addr) (w : World) (hn : n ≤ cap) (hc : cap ≤ 9223372036854775807) (hk : k ≤ n) (hm0 : -9223372036854775808 ≤ m) (hm1 : m ≤ 9223372036854775807)
    (h0 : w.cell? ⟨rb, 0, none⟩ = some (.slice ao n cap)) (h1 : w.cell? ⟨rb, 1, none⟩ = some (.int .i64 k)) (h2 : w.cell? ⟨rb, 2, none⟩ = some (.bool true)) (he : rdErr0 m ((n : Int) - k) ≠ 0) :
    Calls Tryd.prog 73 #[.pointer (some ⟨rb, 0, none⟩), .int .i64 m] w fun e w' =>
      e = .returned (.tuple #[.int .u64 0, .int .i64 (rdErr0 m ((n : Int) - k))]) ∧ Drawn w w' := by
  have hne : (rdErr0 m ((n : Int) - k) == 0) = false := by simpa using he
  have hne' : (rdErr0 m ((n : Int) - k) != 0) = true := by simpa using he
  clear he
  go_enter Tryd.func73, Tryd.ntmps73
  go_wp2_with (first | (go_at_call 82; go_loud (refine (rdRefusal0 rb _ n cap k m _ (by omega) (by omega) (by omega) (by omega) h0 h1 h2).mono ?_); rintro e w' ⟨rfl, nq, rfl⟩))
  go_ret2
  exact ⟨rfl, nq, rfl⟩

end Go.Proofs.YtadgbkjjeigpjaaDoor
namespace Go.Proofs.YtadgbkjjeigpjaaDoor
open Go.RowKit

/-- A writer at block wb: its slice, its bound, its bytes. -/
structure Wr (w : World) (wb : Nat) (sv : Value) (most : Nat) (bs : List Int) : Prop where
  blk : w.heap[wb]? = some (.cells #[sv, .int .i64 most, .bool true] 97 (0, 0))
  own : w.ownsRow 0 5 1 sv bs.length (bs.map (Value.int .u8))
  apart : sv.ownBlock ≠ some wb
  byt : Bytish bs
  fit : bs.length ≤ most
  lim : most ≤ 1048576

theorem Wr.only {S : Nat → Prop} {w w' : World} {wb : Nat} {sv : Value} {most : Nat} {bs : List Int} (h : Wr w wb sv most bs) (ho : Only S w w') (h1 : ¬ S wb) (h2 : ∀ k, sv.ownBlock = some k → ¬ S k) : Wr w' wb sv most bs :=
  ⟨ho.heap h.blk h1, ho.owns h.own h2, h.apart, h.byt, h.fit, h.lim⟩
theorem Wr.lt {w : World} {wb : Nat} {sv : Value} {most : Nat} {bs : List Int} (h : Wr w wb sv most bs) : wb < w.heap.size ∧ ∀ k, sv.ownBlock = some k → k < w.heap.size :=
  ⟨heap_lt h.blk, fun k hk => (h.own.lt k hk).2⟩
/-- The blocks that a writer's calls may write. -/
def WrS (wb : Nat) (sv : Value) : Nat → Prop := fun k => k = wb ∨ sv.ownBlock = some k
/-- What a call that writes leaves: the writer with more bytes, nothing else changed, its row its own or a new one. -/
def WrTo (w : World) (wb : Nat) (sv : Value) (most : Nat) (bs : List Int) (w' : World) : Prop :=
  ∃ sv', Wr w' wb sv' most bs ∧ Only (WrS wb sv) w w' ∧ (∀ k, sv'.ownBlock = some k → sv.ownBlock = some k ∨ w.heap.size ≤ k)

theorem newWriterOk (m : Nat) (w : World) (hm : m ≤ 1048576) :
    Calls Tryd.prog 41 #[.int .i64 m] w fun e w' => e = .returned (.tuple #[.pointer (some ⟨w.heap.size, 0, none⟩), .int .i64 0]) ∧ w' = w.alloc (.cells #[.slice none 0 0, .int .i64 m, .bool true] 97) := by
  go_enter Tryd.func41, Tryd.ntmps41
  go_wp2
  go_ret2
  exact ⟨rfl, rfl⟩
theorem newWriterErr (m : Int) (w : World) (hm : m < 0 ∨ 1048576 < m) :
    Calls Tryd.prog 41 #[.int .i64 m] w fun e w' => e = .returned (.tuple #[.pointer none, .int .i64 1]) ∧ w' = w := by
  rcases hm with hm | hm
  · go_enter Tryd.func41, Tryd.ntmps41
    go_wp2
    go_ret2
    exact ⟨rfl, rfl⟩
  · have hm' : ¬ m < 0 := by omega
    go_enter Tryd.func41, Tryd.ntmps41
    go_wp2
    go_ret2
    exact ⟨rfl, rfl⟩
theorem Wr.new (w : World) (m : Nat) (hm : m ≤ 1048576) : Wr (w.alloc (.cells #[.slice none 0 0, .int .i64 m, .bool true] 97)) w.heap.size (.slice none 0 0) m [] :=
  ⟨heap_alloc_new w _, World.ownsRow_nil _ _ _ _, by simp [Value.ownBlock], Bytish.nil, Nat.zero_le _, hm⟩

/-- Does a number fit n bytes: of either kind. -/
def fitU (n x : Int) : Bool := decide (1 ≤ n) && (decide (n ≤ 8) && (cutUv n.toNat x == x))
def fitI (n x : Int) : Bool := decide (1 ≤ n) && (decide (n ≤ 8) && (cutIv n.toNat x == x))

theorem fitsU (x n : Int) (w : World) :
    Calls Tryd.prog 72 #[.int .u64 x, .int .i64 n] w fun e w' => e = .returned (.bool (fitU n x)) ∧ w = w' := by
  by_cases h1 : 1 ≤ n
  · by_cases h8 : n ≤ 8
    · obtain ⟨m, rfl⟩ := Int.eq_ofNat_of_zero_le (show 0 ≤ n by omega)
      go_enter Tryd.func72, Tryd.ntmps72
      go_wp2_with (first | (go_at_call 81; go_loud (refine (cutU x m _ (by omega) (by omega)).mono ?_); rintro e w' ⟨rfl, rfl⟩) | go_in)
      go_ret
      refine ⟨?_, rfl⟩
      show Ending.returned (.bool _) = _
      simp [fitU, h1, h8]
    · go_enter Tryd.func72, Tryd.ntmps72
      go_wp2
      go_ret
      refine ⟨?_, rfl⟩
      show Ending.returned (.bool _) = _
      simp [fitU]
      intros
      omega
  · go_enter Tryd.func72, Tryd.ntmps72
    go_wp2
    go_ret
    refine ⟨?_, rfl⟩
    show Ending.returned (.bool _) = _
    simp [fitU]
    intros
    omega

/-- Why n bytes can't be written, where there is so much room. -/
def wrErr (right : Bool) (n room : Int) : Int := if right = false then 1 else if room < n then 2 else 0

set_option maxHeartbeats 1000000 in
theorem wrRefusal (what : Bool) (wb : Nat) (sv : Value) (most : Nat) (bs : List Int) (n : Int) (right : Bool) (w : World) (h : Wr w wb sv most bs) (hr : what = false → right = true) :
    Calls Tryd.prog 71 #[.pointer (some ⟨wb, 0, none⟩), .int .i64 (if what then 0 else 1), .int .i64 n, .bool right] w fun e w' => e = .returned (.int .i64 (wrErr right n ((most : Int) - bs.length))) ∧ Drawn w w' := by
  have h0 := cell_blk h.blk 0
  have h1 := cell_blk h.blk 1
  have h2 := cell_blk h.blk 2
  obtain ⟨ao, cap, rfl, hc1, hc2⟩ := slice_of_owns h.own
  have hfit := h.fit
  have hlim := h.lim
  simp at h0 h1 h2
  clear h
  cases right
  · have hw : what = true := by cases what <;> simp_all
    subst hw
    go_enter Tryd.func71, Tryd.ntmps71
    go_wp2
    go_ret
    exact ⟨by simp [wrErr], 0, rfl⟩
  · clear hr
    cases what <;> simp only [if_true, if_false, Bool.false_eq_true]
    all_goals
      go_enter Tryd.func71, Tryd.ntmps71
      go_wp2
      go_quiet (fail)
      go_wp2
    all_goals go_ret
    all_goals refine ⟨congrArg (fun z => Ending.returned (.int .i64 z)) ?_, _, rfl⟩
    all_goals unfold wrErr
    all_goals simp
    all_goals omega
end Go.Proofs.YtadgbkjjeigpjaaDoor
namespace Go.Proofs.YtadgbkjjeigpjaaDoor
open Go.RowKit

theorem Wr.blk1 {w w1 : World} {wb : Nat} {sv : Value} {most : Nat} {bs : List Int} (h : Wr w wb sv most bs) (o : Obj) (hgrow : (w.drew.alloc o).grownBy w1 sv.ownBlock) :
    w1.heap[wb]? = some (.cells #[sv, .int .i64 most, .bool true] 97 (0, 0)) := by
  rw [hgrow.block wb (by have := h.lt.1; simp; omega) (fun e => h.apart e.symm)]
  exact (Below.heap_alloc w.drew o wb h.lt.1).trans h.blk

/-- One byte more: behind the append and the store into the writer. -/
theorem Wr.push {w w1 : World} {wb : Nat} {sv v' : Value} {most : Nat} {bs : List Int} {z : Int} (h : Wr w wb sv most bs) (o : Obj) (hz : IsByte z) (hroom : bs.length + 1 ≤ most)
    (hown : w1.ownsRow 0 5 1 v' (bs.length + 1) (bs.map (Value.int .u8) ++ [.int .u8 z])) (hgrow : (w.drew.alloc o).grownBy w1 sv.ownBlock) (hnew : ∀ k, v'.ownBlock = some k → sv.ownBlock = some k ∨ (w.drew.alloc o).heap.size ≤ k) :
    WrTo w wb sv most (bs ++ [z]) (w1.setCell ⟨wb, 0, none⟩ v') := by
  have hlt := h.lt
  have hsz : (w.drew.alloc o).heap.size = w.heap.size + 1 := by simp
  have hblk : w1.heap[wb]? = some (.cells #[sv, .int .i64 most, .bool true] 97 (0, 0)) := by
    rw [hgrow.block wb (by omega) (fun e => h.apart e.symm)]
    exact (Below.heap_alloc w.drew o wb hlt.1).trans h.blk
  have hne : v'.ownBlock ≠ some wb := by
    intro e
    rcases hnew wb e with e2 | e2
    · exact h.apart e2
    · omega
  refine ⟨v', ⟨?_, ?_, hne, h.byt.append (fun y hy => by simp at hy; subst hy; exact hz), by simpa using hroom, h.lim⟩, ?_, fun k hk => ?_⟩
  · exact heap_setCell_at hblk
  · have := (Only.setCell (S := fun k => k = wb) (Only.refl _ w1) (p := ⟨wb, 0, none⟩) (fun _ => rfl) v').owns hown (fun k hk e => hne (by rw [hk, e]))
    simpa using this
  · exact ((((Only.refl _ w).drew).alloc o).grown hgrow (fun k hk _ => .inr hk)).setCell (fun _ => .inl rfl) v'
  · rcases hnew k hk with e | e
    · exact .inl e
    · exact .inr (by omega)

theorem WrTo.trans {w w1 w2 : World} {wb : Nat} {sv sv1 : Value} {most : Nat} {bs : List Int} (ho : Only (WrS wb sv) w w1) (hs : ∀ k, sv1.ownBlock = some k → sv.ownBlock = some k ∨ w.heap.size ≤ k)
    (h2 : WrTo w1 wb sv1 most bs w2) : WrTo w wb sv most bs w2 := by
  obtain ⟨sv2, hw, ho2, hs2⟩ := h2
  refine ⟨sv2, hw, ho.trans ho2 ?_, fun k hk => ?_⟩
  · rintro i (rfl | hi) hl
    · exact .inl rfl
    · rcases hs i hi with h | h
      · exact .inr h
      · omega
  · rcases hs2 k hk with h | h
    · exact hs k h
    · exact .inr (Nat.le_trans ho.size h)

theorem Wr.to {w : World} {wb : Nat} {sv : Value} {most : Nat} {bs : List Int} (h : Wr w wb sv most bs) : WrTo w wb sv most bs w := ⟨sv, h, Only.refl _ _, fun _ hk => .inl hk⟩

theorem WrTo.of_drawn {w w' : World} {wb : Nat} {sv : Value} {most : Nat} {bs : List Int} (h : Wr w wb sv most bs) (hd : Drawn w w') : WrTo w wb sv most bs w' :=
  ⟨sv, h.only (hd.only (S := fun _ => False)) (fun h => h) (fun _ _ h => h), hd.only, fun _ hk => .inl hk⟩

set_option maxHeartbeats 2000000 in
set_option maxRecDepth 100000 in
theorem writeU (wb : Nat) (sv : Value) (most : Nat) (bs : List Int) (n : Nat) (x : Int) (w : World) (h : Wr w wb sv most bs) (hn1 : 1 ≤ n) (hn8 : n ≤ 8) (hf : fitU n x = true) (hroom : bs.length + n ≤ most) :
    Calls Tryd.prog 58 #[.pointer (some ⟨wb, 0, none⟩), .int .i64 n, .int .u64 x] w fun e w' =>
      e = .returned (.int .i64 0) ∧ WrTo w wb sv most (bs ++ digs n x) w' := by
  obtain ⟨i0, hi, hz0, hz1, hz2⟩ := info_parts info_u8
  have herr : wrErr (fitU n x) n ((most : Int) - bs.length) = 0 := by unfold wrErr; rw [hf, if_neg (by simp), if_neg (by omega)]
  have Hf := Lib.hid hf
  clear hf
  have Herr := Lib.hid herr
  clear herr
  go_enter Tryd.func58, Tryd.ntmps58
  go_wp2_with (first | (go_at_call 72; go_loud (refine (fitsU x n _).mono ?_); rintro e w' ⟨rfl, rfl⟩) | (go_at_call 71; go_loud (refine (wrRefusal true wb sv most bs n (fitU n x) _ h (by intro h; cases h)).mono ?_); rintro e w' ⟨rfl, hdr⟩; rw [Herr.out]))
  have hto := WrTo.of_drawn h hdr
  clear hdr
  go_loopw [8] (fun i wr => ∃ j : Nat, j ≤ n ∧ i = .int .i64 ((n : Int) - 1 - j) ∧ WrTo w wb sv most (bs ++ digsTo n x j) wr) (fun i _ => (intOf i + 1).toNat)
  case atStart => exact ⟨0, Nat.zero_le _, by simp, by simpa [digsTo_zero] using hto⟩
  case round =>
    obtain ⟨j, hj, rfl, hto1⟩ := hrel
    clear hto
    by_cases hlt : j < n
    · obtain ⟨sv1, hw1, ho1, hs1'⟩ := hto1
      have h0 := cell_blk hw1.blk 0
      have f0 := frozen_blk hw1.blk 0
      obtain ⟨ao, cap, rfl, hc1, hc2⟩ := slice_of_owns hw1.own
      obtain ⟨i, hij⟩ : ∃ i : Nat, (n : Int) - 1 - j = i := ⟨n - 1 - j, by omega⟩
      rw [hij]
      have hi7 : i ≤ 7 := by omega
      have Hij := Lib.hid hij
      clear hij
      generalize hbs : bs ++ digsTo n x j = bs1 at *
      have Hbs := Lib.hid hbs
      clear hbs
      simp at h0
      have hwb := hw1.lt.1
      go_wp2
      have hs1 : IntKind.i64.wrap (8 * (i : Int)) = 8 * (i : Int) := IntWalk.i64_in _ (by omega)
      have hs2 : (0 : Int) ≤ 8 * (i : Int) := by omega
      have hs3 : (8 : Int) * (i : Int) ≤ 64 := by omega
      have hs4 : ((8 : Int) * (i : Int)).toNat = 8 * i := by omega
      have hzb := dig_byte x i
      have HZ := Lib.hid hzb
      clear hzb
      go_region_law ((refine step_append_two rfl (.tmp 28) (.tmp 34) 23 rfl 5 i0 (.int .u8 0) 1 1 Tryd.underlying23 hi hz0 hz1 hz2 rfl (by decide) 0 (.slice ao bs1.length cap) bs1.length (bs1.map (Value.int .u8)) (by simp [Act.eval]) (by exact hw1.own.alloc _) (Nat.zero_le _) ⟨wr.heap.size, 0, none⟩ 1 1 [.int .u8 (dig x i)] (by simp [Act.eval]) rfl (by exact cell_one_new _ _ _) (by intro u hu; simp at hu; subst hu; rfl) (by have := hw1.lim; have := hw1.fit; unfold maxLen; omega) (by have := hw1.lim; have := hw1.fit; omega) ?_; intro v' w1 hown1 hgrow1 hnew1; obtain ⟨ao', cap', rfl, _, _⟩ := slice_of_owns hown1; have hb1 := hw1.blk1 _ hgrow1; have h01 := cell_blk hb1 0; have f01 := frozen_blk hb1 0; simp at h01; have R := hw1.push _ HZ.out (by have hq := congrArg List.length Hbs.out; simp [digsTo_length] at hq; omega) hown1 hgrow1 hnew1; clear hown1 hgrow1 hnew1 hb1))
      all_goals
        have R2 := WrTo.trans ho1 hs1' R
        clear R hs1' hw1 h0 f0 h01 f01
        go_wp2
        go_roundw
        case rel => exact ⟨j + 1, by omega, congrArg (Value.int .i64) (by have := Hij.out; omega), by rw [digsTo_succ, ← List.append_assoc, Hbs.out, show n - 1 - j = i from by have := Hij.out; omega]; exact R2⟩
        case measure => simp [intOf]
    · have : j = n := by omega
      subst this
      go_wp2
      go_ret
      exact ⟨rfl, hto1⟩

set_option maxHeartbeats 1000000 in
theorem writeUErr (wb : Nat) (sv : Value) (most : Nat) (bs : List Int) (n x : Int) (w : World) (h : Wr w wb sv most bs) (he : wrErr (fitU n x) n ((most : Int) - bs.length) ≠ 0) :
    Calls Tryd.prog 58 #[.pointer (some ⟨wb, 0, none⟩), .int .i64 n, .int .u64 x] w fun e w' =>
      e = .returned (.int .i64 (wrErr (fitU n x) n ((most : Int) - bs.length))) ∧ Drawn w w' := by
  have hne : (wrErr (fitU n x) n ((most : Int) - bs.length) == 0) = false := by simpa using he
  have hne' : (wrErr (fitU n x) n ((most : Int) - bs.length) != 0) = true := by simpa using he
  clear he
  go_enter Tryd.func58, Tryd.ntmps58
  go_wp2_with (first | (go_at_call 72; refine (fitsU x n _).mono ?_; rintro e w' ⟨rfl, rfl⟩) | (go_at_call 71; refine (wrRefusal true wb sv most bs n (fitU n x) _ h (by intro h; cases h)).mono ?_; rintro e w' ⟨rfl, hdr⟩))
  go_ret
  exact ⟨rfl, hdr⟩
end Go.Proofs.YtadgbkjjeigpjaaDoor
namespace Go.Proofs.YtadgbkjjeigpjaaDoor
open Go.RowKit

theorem fitU_width {n x : Int} (h : fitU n x = true) : 1 ≤ n ∧ n ≤ 8 := by simp [fitU] at h; omega
theorem fitI_width {n x : Int} (h : fitI n x = true) : 1 ≤ n ∧ n ≤ 8 := by simp [fitI] at h; omega
theorem wrErr_zero {r : Bool} {n room : Int} (h : wrErr r n room = 0) : r = true ∧ n ≤ room := by
  unfold wrErr at h
  cases r
  · simp at h
  · simp only [Bool.true_eq_false, if_false] at h
    split at h
    · simp at h
    · exact ⟨rfl, by omega⟩
theorem WrTo.of_drawn' {w w' : World} {wb : Nat} {sv : Value} {most : Nat} {bs : List Int} (h : Wr w wb sv most bs) (hd : Drawn w w') : WrTo w wb sv most (bs ++ []) w' := by simpa using WrTo.of_drawn h hd

/-- The bytes that a call adds. -/
def addU (r : Bool) (n x room : Int) : List Int := if wrErr r n room = 0 then digs n.toNat x else []

set_option maxHeartbeats 1000000 in
theorem wrUint (wb : Nat) (sv : Value) (most : Nat) (bs : List Int) (n x : Int) (w : World) (h : Wr w wb sv most bs) :
    Calls Tryd.prog 42 #[.pointer (some ⟨wb, 0, none⟩), .int .i64 n, .int .u64 x] w fun e w' =>
      e = .returned (.int .i64 (wrErr (fitU n x) n ((most : Int) - bs.length))) ∧ WrTo w wb sv most (bs ++ addU (fitU n x) n x ((most : Int) - bs.length)) w' := by
  unfold addU
  by_cases he : wrErr (fitU n x) n ((most : Int) - bs.length) = 0
  · obtain ⟨hf, hr⟩ := wrErr_zero he
    obtain ⟨h1, h8⟩ := fitU_width hf
    obtain ⟨m, rfl⟩ := Int.eq_ofNat_of_zero_le (show 0 ≤ n by omega)
    rw [if_pos he, he]
    have Hf := Lib.hid hf
    clear hf he
    go_enter Tryd.func42, Tryd.ntmps42
    go_wp2_with (first | (go_at_call 58; refine (writeU wb sv most bs m x _ h (by omega) (by omega) Hf.out (by omega)).mono ?_; rintro e w' ⟨rfl, hto⟩))
    go_ret
    exact ⟨rfl, hto⟩
  · rw [if_neg he]
    go_enter Tryd.func42, Tryd.ntmps42
    go_wp2_with (first | (go_at_call 58; refine (writeUErr wb sv most bs n x _ h he).mono ?_; rintro e w' ⟨rfl, hdr⟩))
    go_ret
    exact ⟨rfl, WrTo.of_drawn' h hdr⟩

theorem fitU_iff (k : Nat) (h1 : 1 ≤ k) (h8 : k ≤ 8) (x : Int) (h0 : 0 ≤ x) : fitU k x = decide (x < 2 ^ (8 * k)) := by
  have hk : (k : Int).toNat = k := by omega
  have h1' : (1 : Int) ≤ k := by omega
  have h8' : (k : Int) ≤ 8 := by omega
  unfold fitU
  rw [hk, cutUv_eq k h1 h8, decide_eq_true h1', decide_eq_true h8', Bool.true_and, Bool.true_and]
  rcases width_cases h1 h8 with rfl | rfl | rfl | rfl | rfl | rfl | rfl | rfl <;> simp only [Nat.reduceMul, Int.reducePow, Bool.beq_eq_decide_eq] <;> congr 1 <;> apply propext <;> constructor <;> intro h <;> omega
theorem fitI_iff (k : Nat) (h1 : 1 ≤ k) (h8 : k ≤ 8) (x : Int) : fitI k x = decide (-(2 ^ (8 * k - 1)) ≤ x ∧ x < 2 ^ (8 * k - 1)) := by
  have hk : (k : Int).toNat = k := by omega
  have h1' : (1 : Int) ≤ k := by omega
  have h8' : (k : Int) ≤ 8 := by omega
  unfold fitI
  rw [hk, cutIv_eq k h1 h8, decide_eq_true h1', decide_eq_true h8', Bool.true_and, Bool.true_and]
  rcases width_cases h1 h8 with rfl | rfl | rfl | rfl | rfl | rfl | rfl | rfl <;> simp only [Nat.reduceMul, Nat.reduceSub, Int.reducePow, Bool.beq_eq_decide_eq] <;> congr 1 <;> apply propext <;> constructor <;> intro h <;> omega

/-- What a writer has written, as a new row. -/
theorem wrOut (wb : Nat) (sv : Value) (most : Nat) (bs : List Int) (w : World) (h : Wr w wb sv most bs) :
    Calls Tryd.prog 26 #[.pointer (some ⟨wb, 0, none⟩)] w fun e w' => ∃ v', e = .returned v' ∧ w'.ownsRow w.heap.size 5 1 v' bs.length (bs.map (Value.int .u8)) ∧ Below w.heap.size w w' := by
  have h0 := cell_blk h.blk 0
  have h2 := cell_blk h.blk 2
  have hb := Bytes.of_owns h.own h.byt
  have hl := h.fit
  have hm := h.lim
  obtain ⟨ao, cap, rfl, hc1, hc2⟩ := slice_of_owns h.own
  simp at h0 h2
  clear h
  go_enter Tryd.func26, Tryd.ntmps26
  go_wp2_with (first | (go_at_call 29; refine (clone _ bs _ hb (by omega)).mono ?_; rintro e w' ⟨v', rfl, hown, hbel⟩) | go_in)
  go_ret
  exact ⟨_, rfl, hown, hbel⟩

/-- Bytes behind bytes: behind the append and the store into the writer. -/
theorem Wr.more {w w1 : World} {wb : Nat} {sv v' : Value} {most : Nat} {bs zs : List Int} (h : Wr w wb sv most bs) (hz : Bytish zs) (hroom : bs.length + zs.length ≤ most)
    (hown : w1.ownsRow 0 5 1 v' (bs.length + zs.length) (bs.map (Value.int .u8) ++ zs.map (Value.int .u8))) (hgrow : w.grownBy w1 sv.ownBlock) (hnew : ∀ k, v'.ownBlock = some k → sv.ownBlock = some k ∨ w.heap.size ≤ k) :
    WrTo w wb sv most (bs ++ zs) (w1.setCell ⟨wb, 0, none⟩ v') := by
  have hlt := h.lt
  have hblk : w1.heap[wb]? = some (.cells #[sv, .int .i64 most, .bool true] 97 (0, 0)) := by
    rw [hgrow.block wb (by omega) (fun e => h.apart e.symm)]
    exact h.blk
  have hne : v'.ownBlock ≠ some wb := by
    intro e
    rcases hnew wb e with e2 | e2
    · exact h.apart e2
    · omega
  refine ⟨v', ⟨?_, ?_, hne, h.byt.append hz, by simpa using hroom, h.lim⟩, ?_, fun k hk => hnew k hk⟩
  · exact heap_setCell_at hblk
  · have := (Only.setCell (S := fun k => k = wb) (Only.refl _ w1) (p := ⟨wb, 0, none⟩) (fun _ => rfl) v').owns hown (fun k hk e => hne (by rw [hk, e]))
    simpa using this
  · exact ((Only.refl _ w).grown hgrow (fun k hk _ => .inr hk)).setCell (fun _ => .inl rfl) v'

def addB (zs : List Int) (err : Int) : List Int := if err = 0 then zs else []

end Go.Proofs.YtadgbkjjeigpjaaDoor
namespace Go.Proofs.YtadgbkjjeigpjaaDoor
open Go.RowKit

/-- A reader at block rb: its row, its bytes, its place. -/
structure Rd (w : World) (rb : Nat) (sv : Value) (zs : List Int) (k : Nat) : Prop where
  blk : w.heap[rb]? = some (.cells #[sv, .int .i64 k, .bool true] 77 (0, 0))
  own : w.ownsRow 0 5 1 sv zs.length (zs.map (Value.int .u8))
  apart : sv.ownBlock ≠ some rb
  byt : Bytish zs
  le : k ≤ zs.length
  lim : zs.length ≤ 140737488355328

theorem Rd.only {S : Nat → Prop} {w w' : World} {rb : Nat} {sv : Value} {zs : List Int} {k : Nat} (h : Rd w rb sv zs k) (ho : Only S w w') (h1 : ¬ S rb) (h2 : ∀ k, sv.ownBlock = some k → ¬ S k) : Rd w' rb sv zs k :=
  ⟨ho.heap h.blk h1, ho.owns h.own h2, h.apart, h.byt, h.le, h.lim⟩
theorem Rd.drawn {w w' : World} {rb : Nat} {sv : Value} {zs : List Int} {k : Nat} (h : Rd w rb sv zs k) (hd : Drawn w w') : Rd w' rb sv zs k :=
  h.only (hd.only (S := fun _ => False)) (fun h => h) (fun _ _ h => h)
theorem Rd.lt {w : World} {rb : Nat} {sv : Value} {zs : List Int} {k : Nat} (h : Rd w rb sv zs k) : rb < w.heap.size ∧ ∀ k, sv.ownBlock = some k → k < w.heap.size :=
  ⟨heap_lt h.blk, fun k hk => (h.own.lt k hk).2⟩
theorem Rd.moved {w w' : World} {rb : Nat} {sv : Value} {zs : List Int} {k m : Nat} (h : Rd w rb sv zs k) (hm : Moved rb ((k : Int) + m) w w') (hl : k + m ≤ zs.length) : Rd w' rb sv zs (k + m) := by
  have ho := hm.only
  obtain ⟨nq, rfl⟩ := hm
  refine ⟨?_, ho.owns h.own (fun b hb e => h.apart (by rw [hb, e])), h.apart, h.byt, hl, h.lim⟩
  have := heap_setCell_at (i := 1) (u := .int .i64 ((k : Int) + m)) h.blk
  simp only [World.drewN]
  rw [this]
  simp

/-- What a reader's call leaves. -/
def RdTo (w : World) (rb : Nat) (sv : Value) (zs : List Int) (k : Nat) (w' : World) : Prop := Rd w' rb sv zs k ∧ Only (fun b => b = rb) w w'
def rdK (k : Nat) (n err : Int) : Nat := if err = 0 then k + n.toNat else k
def rdPart (zs : List Int) (k : Nat) (n err : Int) : List Int := if err = 0 then (zs.drop k).take n.toNat else []
def rdU (zs : List Int) (k : Nat) (n err : Int) : Int := if err = 0 then valB ((zs.drop k).take n.toNat) else 0
def rdI (zs : List Int) (k : Nat) (n err : Int) : Int := if err = 0 then sgn n.toNat (valB ((zs.drop k).take n.toNat)) else 0

theorem rdErr0_zero {n left : Int} (h : rdErr0 n left = 0) : 1 ≤ n ∧ n ≤ 8 ∧ n ≤ left := by
  unfold rdErr0 at h
  split at h
  · cases h
  · split at h
    · cases h
    · omega
theorem rdErr1_zero {n left : Int} (h : rdErr1 n left = 0) : 0 ≤ n ∧ n ≤ left := by
  unfold rdErr1 at h
  split at h
  · cases h
  · split at h
    · cases h
    · omega

/-- What a reader's cells hold, for a walk. -/
theorem Rd.cells {w : World} {rb : Nat} {sv : Value} {zs : List Int} {k : Nat} (h : Rd w rb sv zs k) : ∃ ao cap, sv = .slice ao zs.length cap ∧ zs.length ≤ cap ∧ cap ≤ 9223372036854775807 ∧ (ao = none → cap = 0) ∧
    w.cell? ⟨rb, 0, none⟩ = some (.slice ao zs.length cap) ∧ w.cell? ⟨rb, 1, none⟩ = some (.int .i64 k) ∧ w.cell? ⟨rb, 2, none⟩ = some (.bool true) ∧ w.frozen? ⟨rb, 1, none⟩ = false ∧
    (0 < zs.length → ∃ g, ao = some ⟨g, 0, none⟩ ∧ g ≠ rb ∧ ∀ j, j < zs.length → w.cell? ⟨g, j, none⟩ = some (.int .u8 (zs.getD j 0))) := by
  have h0 := cell_blk h.blk 0
  have h1 := cell_blk h.blk 1
  have h2 := cell_blk h.blk 2
  have f1 := frozen_blk h.blk 1
  have hown := h.own
  rcases h.own.2 with ⟨rfl, hn⟩ | ⟨g, cap, cur, rfl, _, hg, hnc, hcm, _⟩
  · exact ⟨none, 0, by rw [hn], by omega, by omega, fun _ => rfl, by simpa [hn] using h0, by simpa using h1, by simpa using h2, f1, fun hp => by omega⟩
  · refine ⟨some ⟨g, 0, none⟩, cap, rfl, hnc, by unfold maxLen at hcm; omega, (fun e => by cases e), by simpa using h0, by simpa using h1, by simpa using h2, f1, fun _ => ⟨g, rfl, fun e => h.apart (by rw [e]; rfl), fun j hj => ?_⟩⟩
    rw [hown.cellAt j (by omega), List.getElem?_map, List.getElem?_eq_getElem hj]
    simp [List.getD, hj]

set_option maxHeartbeats 1000000 in
theorem rdUint (rb : Nat) (sv : Value) (zs : List Int) (k : Nat) (n : Int) (w : World) (h : Rd w rb sv zs k) (hn0 : -9223372036854775808 ≤ n) (hn1 : n ≤ 9223372036854775807) :
    Calls Tryd.prog 59 #[.pointer (some ⟨rb, 0, none⟩), .int .i64 n] w fun e w' =>
      e = .returned (.tuple #[.int .u64 (rdU zs k n (rdErr0 n ((zs.length : Int) - k))), .int .i64 (rdErr0 n ((zs.length : Int) - k))]) ∧ RdTo w rb sv zs (rdK k n (rdErr0 n ((zs.length : Int) - k))) w' := by
  obtain ⟨ao, cap, hsv, hc1, hc2, hc3, h0, h1, h2, f1, hrow⟩ := h.cells
  have hle := h.le
  unfold rdU rdK
  by_cases he : rdErr0 n ((zs.length : Int) - k) = 0
  · obtain ⟨e1, e2, e3⟩ := rdErr0_zero he
    obtain ⟨m, rfl⟩ := Int.eq_ofNat_of_zero_le (show 0 ≤ n by omega)
    obtain ⟨g, rfl, hg, hb⟩ := hrow (by omega)
    rw [if_pos he, if_pos he, he]
    have Hb := Lib.hid hb
    clear hrow he hb hsv
    go_enter Tryd.func59, Tryd.ntmps59
    go_wp2_with (first | (go_at_call 73; refine (readU rb g zs.length cap k m zs _ hc1 hc2 (by omega) (by omega) (by omega) rfl h.byt hg h0 h1 h2 f1 Hb.out).mono ?_; rintro e w' ⟨rfl, hmv⟩))
    go_ret2
    exact ⟨rfl, h.moved hmv (by omega), hmv.only⟩
  · rw [if_neg he, if_neg he]
    go_enter Tryd.func59, Tryd.ntmps59
    go_wp2_with (first | (go_at_call 73; refine (readUErr rb zs.length cap k n ao _ hc1 hc2 hle hn0 hn1 h0 h1 h2 he).mono ?_; rintro e w' ⟨rfl, hdr⟩))
    go_ret2
    exact ⟨rfl, h.drawn hdr, hdr.only⟩

theorem rdLeftM (rb : Nat) (sv : Value) (zs : List Int) (k : Nat) (w : World) (h : Rd w rb sv zs k) :
    Calls Tryd.prog 33 #[.pointer (some ⟨rb, 0, none⟩)] w fun e w' => e = .returned (.int .i64 ((zs.length : Int) - k)) ∧ Drawn w w' := by
  obtain ⟨ao, cap, hsv, hc1, hc2, hc3, h0, h1, h2, f1, hrow⟩ := h.cells
  exact rdLeft rb ao zs.length cap k w (by have := h.lim; omega) h.le h0 h1 h2

theorem newReader (v : Value) (zs : List Int) (w : World) (hb : Bytes w v zs) (hl : zs.length ≤ 140737488355328) :
    Calls Tryd.prog 12 #[v] w fun e w' => ∃ rb sv, e = .returned (.pointer (some ⟨rb, 0, none⟩)) ∧ Rd w' rb sv zs 0 ∧ Below w.heap.size w w' ∧ w.heap.size ≤ rb ∧ ∀ k, sv.ownBlock = some k → w.heap.size ≤ k := by
  have hbyt : Bytish zs := by obtain ⟨_, _, _, _, _, _, h, _⟩ := hb; exact h
  go_enter Tryd.func12, Tryd.ntmps12
  go_wp2_with (first | (go_at_call 29; refine (clone v zs _ hb hl).mono ?_; rintro e w1 ⟨v', rfl, hown, hbel⟩; obtain ⟨ao, cap, rfl, _, _⟩ := slice_of_owns hown))
  go_ret
  have hlt := hown.lt
  have ho := Only.alloc (Only.refl (fun _ => False) w1) (.cells #[.slice ao zs.length cap, .int .i64 0, .bool true] 77)
  refine ⟨w1.heap.size, _, rfl, ⟨heap_alloc_new w1 _, ho.owns (owns_base hown (fun _ _ => Nat.zero_le _)) (fun _ _ h => h), ?_, hbyt, Nat.zero_le _, hl⟩, hbel.trans (Below.mono ((Below.refl _ _).alloc (Nat.le_refl _) _) hbel.size), hbel.size, fun k hk => (hlt k hk).1⟩
  intro e
  have := (hlt _ e).2
  omega
end Go.Proofs.YtadgbkjjeigpjaaDoor
