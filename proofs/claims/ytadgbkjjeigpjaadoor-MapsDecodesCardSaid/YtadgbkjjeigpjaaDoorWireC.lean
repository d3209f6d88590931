/- The writers' small calls. No condition beyond a writer that was made. -/
import Derived.Test.YtadgbkjjeigpjaaDoorWireB
import Derived.Test.YtadgbkjjeigpjaaDoorClone
namespace Go.Proofs.YtadgbkjjeigpjaaDoor
open Go.RowKit

/-- A writer at block wb: its slice, its bound, its bytes. -/
structure Wr (w : World) (wb : Nat) (sv : Value) (most : Nat) (bs : List Int) : Prop where
  blk : w.heap[wb]? = some (.cells #[sv, .int .i64 most, .bool true] 97 (0, 0))
  own : w.ownsRow 0 5 1 sv bs.length (bs.map (Value.int .u8))
  apart : sv.ownBlock ≠ some wb
  byt : Bytish bs
  fit : bs.length ≤ most
  lim : most ≤ 1048576

theorem Wr.only {S : Nat → Prop} {w w' : World} {wb : Nat} {sv : Value} {most : Nat} {bs : List Int} (h : Wr w wb sv most bs) (ho : Only S w w') (h1 : ¬ S wb) (h2 : ∀ k, sv.ownBlock = some k → ¬ S k) : Wr w' wb sv most bs :=
  ⟨ho.heap h.blk h1, ho.owns h.own h2, h.apart, h.byt, h.fit, h.lim⟩
theorem Wr.lt {w : World} {wb : Nat} {sv : Value} {most : Nat} {bs : List Int} (h : Wr w wb sv most bs) : wb < w.heap.size ∧ ∀ k, sv.ownBlock = some k → k < w.heap.size :=
  ⟨heap_lt h.blk, fun k hk => (h.own.lt k hk).2⟩
/-- The blocks that a writer's calls may write. -/
def WrS (wb : Nat) (sv : Value) : Nat → Prop := fun k => k = wb ∨ sv.ownBlock = some k
/-- What a call that writes leaves: the writer with more bytes, nothing else changed, its row its own or a new one. -/
def WrTo (w : World) (wb : Nat) (sv : Value) (most : Nat) (bs : List Int) (w' : World) : Prop :=
  ∃ sv', Wr w' wb sv' most bs ∧ Only (WrS wb sv) w w' ∧ (∀ k, sv'.ownBlock = some k → sv.ownBlock = some k ∨ w.heap.size ≤ k)

theorem newWriterOk (m : Nat) (w : World) (hm : m ≤ 1048576) :
    Calls Tryd.prog 41 #[.int .i64 m] w fun e w' => e = .returned (.tuple #[.pointer (some ⟨w.heap.size, 0, none⟩), .int .i64 0]) ∧ w' = w.alloc (.cells #[.slice none 0 0, .int .i64 m, .bool true] 97) := by
  go_enter Tryd.func41, Tryd.ntmps41
  go_wp2
  go_ret2
  exact ⟨rfl, rfl⟩
theorem newWriterErr (m : Int) (w : World) (hm : m < 0 ∨ 1048576 < m) :
    Calls Tryd.prog 41 #[.int .i64 m] w fun e w' => e = .returned (.tuple #[.pointer none, .int .i64 1]) ∧ w' = w := by
  rcases hm with hm | hm
  · go_enter Tryd.func41, Tryd.ntmps41
    go_wp2
    go_ret2
    exact ⟨rfl, rfl⟩
  · have hm' : ¬ m < 0 := by omega
    go_enter Tryd.func41, Tryd.ntmps41
    go_wp2
    go_ret2
    exact ⟨rfl, rfl⟩
theorem Wr.new (w : World) (m : Nat) (hm : m ≤ 1048576) : Wr (w.alloc (.cells #[.slice none 0 0, .int .i64 m, .bool true] 97)) w.heap.size (.slice none 0 0) m [] :=
  ⟨heap_alloc_new w _, World.ownsRow_nil _ _ _ _, by simp [Value.ownBlock], Bytish.nil, Nat.zero_le _, hm⟩

/-- Does a number fit n bytes: of either kind. -/
def fitU (n x : Int) : Bool := decide (1 ≤ n) && (decide (n ≤ 8) && (cutUv n.toNat x == x))
def fitI (n x : Int) : Bool := decide (1 ≤ n) && (decide (n ≤ 8) && (cutIv n.toNat x == x))

theorem fitsU (x n : Int) (w : World) :
    Calls Tryd.prog 72 #[.int .u64 x, .int .i64 n] w fun e w' => e = .returned (.bool (fitU n x)) ∧ w = w' := by
  by_cases h1 : 1 ≤ n
  · by_cases h8 : n ≤ 8
    · obtain ⟨m, rfl⟩ := Int.eq_ofNat_of_zero_le (show 0 ≤ n by omega)
      go_enter Tryd.func72, Tryd.ntmps72
      go_wp2_with (first | (go_at_call 81; go_loud (refine (cutU x m _ (by omega) (by omega)).mono ?_); rintro e w' ⟨rfl, rfl⟩) | go_in)
      go_ret
      refine ⟨?_, rfl⟩
      show Ending.returned (.bool _) = _
      simp [fitU, h1, h8]
    · go_enter Tryd.func72, Tryd.ntmps72
      go_wp2
      go_ret
      refine ⟨?_, rfl⟩
      show Ending.returned (.bool _) = _
      simp [fitU]
      intros
      omega
  · go_enter Tryd.func72, Tryd.ntmps72
    go_wp2
    go_ret
    refine ⟨?_, rfl⟩
    show Ending.returned (.bool _) = _
    simp [fitU]
    intros
    omega

/-- Why n bytes can't be written, where there is so much room. -/
def wrErr (right : Bool) (n room : Int) : Int := if right = false then 1 else if room < n then 2 else 0

set_option maxHeartbeats 1000000 in
theorem wrRefusal (what : Bool) (wb : Nat) (sv : Value) (most : Nat) (bs : List Int) (n : Int) (right : Bool) (w : World) (h : Wr w wb sv most bs) (hr : what = false → right = true) :
    Calls Tryd.prog 71 #[.pointer (some ⟨wb, 0, none⟩), .int .i64 (if what then 0 else 1), .int .i64 n, .bool right] w fun e w' => e = .returned (.int .i64 (wrErr right n ((most : Int) - bs.length))) ∧ Drawn w w' := by
  have h0 := cell_blk h.blk 0
  have h1 := cell_blk h.blk 1
  have h2 := cell_blk h.blk 2
  obtain ⟨ao, cap, rfl, hc1, hc2⟩ := slice_of_owns h.own
  have hfit := h.fit
  have hlim := h.lim
  simp at h0 h1 h2
  clear h
  cases right
  · have hw : what = true := by cases what <;> simp_all
    subst hw
    go_enter Tryd.func71, Tryd.ntmps71
    go_wp2
    go_ret
    exact ⟨by simp [wrErr], 0, rfl⟩
  · clear hr
    cases what <;> simp only [if_true, if_false, Bool.false_eq_true]
    all_goals
      go_enter Tryd.func71, Tryd.ntmps71
      go_wp2
      go_quiet (fail)
      go_wp2
    all_goals go_ret
    all_goals refine ⟨congrArg (fun z => Ending.returned (.int .i64 z)) ?_, _, rfl⟩
    all_goals unfold wrErr
    all_goals simp
    all_goals omega
end Go.Proofs.YtadgbkjjeigpjaaDoor
