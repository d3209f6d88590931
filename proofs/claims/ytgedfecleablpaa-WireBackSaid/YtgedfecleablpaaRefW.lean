/- The document's own writer (understudyref01), by the same words as the program's. No condition beyond a writer that was made. -/
import Derived.Test.YtgedfecleablpaaWireE
namespace Go.Proofs.Ytgedfecleablpaa
open Go.RowKit

/-- The reference's writer at block wb. -/
structure Wf (w : World) (wb : Nat) (sv : Value) (most : Nat) (bs : List Int) : Prop where
  blk : w.heap[wb]? = some (.cells #[sv, .int .i64 most] 61 (0, 0))
  own : w.ownsRow 0 5 1 sv bs.length (bs.map (Value.int .u8))
  apart : sv.ownBlock ≠ some wb
  byt : Bytish bs
  fit : bs.length ≤ most
  lim : most ≤ 1048576

theorem Wf.only {S : Nat → Prop} {w w' : World} {wb : Nat} {sv : Value} {most : Nat} {bs : List Int} (h : Wf w wb sv most bs) (ho : Only S w w') (h1 : ¬ S wb) (h2 : ∀ k, sv.ownBlock = some k → ¬ S k) : Wf w' wb sv most bs :=
  ⟨ho.heap h.blk h1, ho.owns h.own h2, h.apart, h.byt, h.fit, h.lim⟩
theorem Wf.lt {w : World} {wb : Nat} {sv : Value} {most : Nat} {bs : List Int} (h : Wf w wb sv most bs) : wb < w.heap.size ∧ ∀ k, sv.ownBlock = some k → k < w.heap.size :=
  ⟨heap_lt h.blk, fun k hk => (h.own.lt k hk).2⟩
def WfTo (w : World) (wb : Nat) (sv : Value) (most : Nat) (bs : List Int) (w' : World) : Prop :=
  ∃ sv', Wf w' wb sv' most bs ∧ Only (WrS wb sv) w w' ∧ (∀ k, sv'.ownBlock = some k → sv.ownBlock = some k ∨ w.heap.size ≤ k)

theorem WfTo.trans {w w1 w2 : World} {wb : Nat} {sv sv1 : Value} {most : Nat} {bs : List Int} (ho : Only (WrS wb sv) w w1) (hs : ∀ k, sv1.ownBlock = some k → sv.ownBlock = some k ∨ w.heap.size ≤ k)
    (h2 : WfTo w1 wb sv1 most bs w2) : WfTo w wb sv most bs w2 := by
  obtain ⟨sv2, hw, ho2, hs2⟩ := h2
  refine ⟨sv2, hw, ho.trans ho2 ?_, fun k hk => ?_⟩
  · rintro i (rfl | hi) hl
    · exact .inl rfl
    · rcases hs i hi with h | h
      · exact .inr h
      · omega
  · rcases hs2 k hk with h | h
    · exact hs k h
    · exact .inr (Nat.le_trans ho.size h)
theorem WfTo.of_drawn {w w' : World} {wb : Nat} {sv : Value} {most : Nat} {bs : List Int} (h : Wf w wb sv most bs) (hd : Drawn w w') : WfTo w wb sv most bs w' :=
  ⟨sv, h.only (hd.only (S := fun _ => False)) (fun h => h) (fun _ _ h => h), hd.only, fun _ hk => .inl hk⟩
theorem WfTo.of_drawn' {w w' : World} {wb : Nat} {sv : Value} {most : Nat} {bs : List Int} (h : Wf w wb sv most bs) (hd : Drawn w w') : WfTo w wb sv most (bs ++ []) w' := by simpa using WfTo.of_drawn h hd

/-- Behind an append and the store into the writer. -/
theorem Wf.more {w w1 : World} {wb : Nat} {sv v' : Value} {most : Nat} {bs zs : List Int} (h : Wf w wb sv most bs) (hz : Bytish zs) (hroom : bs.length + zs.length ≤ most)
    (hown : w1.ownsRow 0 5 1 v' (bs.length + zs.length) (bs.map (Value.int .u8) ++ zs.map (Value.int .u8))) (hgrow : w.grownBy w1 sv.ownBlock) (hnew : ∀ k, v'.ownBlock = some k → sv.ownBlock = some k ∨ w.heap.size ≤ k) :
    WfTo w wb sv most (bs ++ zs) (w1.setCell ⟨wb, 0, none⟩ v') := by
  have hlt := h.lt
  have hblk : w1.heap[wb]? = some (.cells #[sv, .int .i64 most] 61 (0, 0)) := by
    rw [hgrow.block wb (by omega) (fun e => h.apart e.symm)]
    exact h.blk
  have hne : v'.ownBlock ≠ some wb := by
    intro e
    rcases hnew wb e with e2 | e2
    · exact h.apart e2
    · omega
  refine ⟨v', ⟨?_, ?_, hne, h.byt.append hz, by simpa using hroom, h.lim⟩, ?_, fun k hk => hnew k hk⟩
  · exact heap_setCell_at hblk
  · have := (Only.setCell (S := fun k => k = wb) (Only.refl _ w1) (p := ⟨wb, 0, none⟩) (fun _ => rfl) v').owns hown (fun k hk e => hne (by rw [hk, e]))
    simpa using this
  · exact ((Only.refl _ w).grown hgrow (fun k hk _ => .inr hk)).setCell (fun _ => .inl rfl) v'

theorem Wf.blk1 {w w1 : World} {wb : Nat} {sv : Value} {most : Nat} {bs : List Int} (h : Wf w wb sv most bs) (o : Obj) (hgrow : (w.drew.alloc o).grownBy w1 sv.ownBlock) :
    w1.heap[wb]? = some (.cells #[sv, .int .i64 most] 61 (0, 0)) := by
  rw [hgrow.block wb (by have := h.lt.1; simp; omega) (fun e => h.apart e.symm)]
  exact (Below.heap_alloc w.drew o wb h.lt.1).trans h.blk
theorem Wf.push {w w1 : World} {wb : Nat} {sv v' : Value} {most : Nat} {bs : List Int} {z : Int} (h : Wf w wb sv most bs) (o : Obj) (hz : IsByte z) (hroom : bs.length + 1 ≤ most)
    (hown : w1.ownsRow 0 5 1 v' (bs.length + 1) (bs.map (Value.int .u8) ++ [.int .u8 z])) (hgrow : (w.drew.alloc o).grownBy w1 sv.ownBlock) (hnew : ∀ k, v'.ownBlock = some k → sv.ownBlock = some k ∨ (w.drew.alloc o).heap.size ≤ k) :
    WfTo w wb sv most (bs ++ [z]) (w1.setCell ⟨wb, 0, none⟩ v') := by
  have ho : Only (WrS wb sv) w (w.drew.alloc o) := (Only.refl _ w).drew.alloc o
  have h' := h.only (Only.alloc ((Only.refl (fun _ => False) w).drew) o) (fun h => h) (fun _ _ h => h)
  exact WfTo.trans ho (fun _ hk => .inl hk) (h'.more (zs := [z]) (fun y hy => by simp at hy; subst hy; exact hz) hroom hown hgrow hnew)

theorem newRefOk (m : Nat) (w : World) (hm : m ≤ 1048576) :
    Calls Try.prog 19 #[.int .i64 m] w fun e w' => e = .returned (.tuple #[.pointer (some ⟨w.heap.size, 0, none⟩), .int .i64 0]) ∧ w' = w.alloc (.cells #[.slice none 0 0, .int .i64 m] 61) := by
  go_enter Try.func19, Try.ntmps19
  go_wp2
  go_ret2
  exact ⟨rfl, rfl⟩
theorem newRefErr (m : Int) (w : World) (hm : m < 0 ∨ 1048576 < m) :
    Calls Try.prog 19 #[.int .i64 m] w fun e w' => e = .returned (.tuple #[.pointer none, .int .i64 1]) ∧ w' = w := by
  rcases hm with hm | hm
  · go_enter Try.func19, Try.ntmps19
    go_wp2
    go_ret2
    exact ⟨rfl, rfl⟩
  · have hm' : ¬ m < 0 := by omega
    go_enter Try.func19, Try.ntmps19
    go_wp2
    go_ret2
    exact ⟨rfl, rfl⟩
theorem Wf.new (w : World) (m : Nat) (hm : m ≤ 1048576) : Wf (w.alloc (.cells #[.slice none 0 0, .int .i64 m] 61)) w.heap.size (.slice none 0 0) m [] :=
  ⟨heap_alloc_new w _, World.ownsRow_nil _ _ _ _, by simp [Value.ownBlock], Bytish.nil, Nat.zero_le _, hm⟩

set_option maxHeartbeats 2000000 in
theorem refUintOk (wb : Nat) (sv : Value) (most : Nat) (bs : List Int) (n : Nat) (x : Int) (w : World) (h : Wf w wb sv most bs) (hn1 : 1 ≤ n) (hn8 : n ≤ 8) (hx0 : 0 ≤ x) (hx : x < 2 ^ (8 * n)) (hroom : bs.length + n ≤ most) :
    Calls Try.prog 21 #[.pointer (some ⟨wb, 0, none⟩), .int .i64 n, .int .u64 x] w fun e w' =>
      e = .returned (.int .i64 0) ∧ WfTo w wb sv most (bs ++ digs n x) w' := by
  obtain ⟨i0, hi, hz0, hz1, hz2⟩ := info_parts info_u8
  have h0 := cell_blk h.blk 0
  have h1 := cell_blk h.blk 1
  obtain ⟨ao, cap, rfl, hc1, hc2⟩ := slice_of_owns h.own
  simp at h0 h1
  have hfit := h.fit
  have hlim := h.lim
  have hs1 : IntKind.i64.wrap (8 * (n : Int)) = 8 * (n : Int) := IntWalk.i64_in _ (by omega)
  have hs4 : ((8 : Int) * (n : Int)).toNat = 8 * n := by omega
  have hd : x / 2 ^ (8 * n) = 0 := Int.ediv_eq_zero_of_lt hx0 hx
  go_enter Try.func21, Try.ntmps21
  go_wp2
  all_goals
    clear hs1 hs4 hd
    go_quiet (fail)
    go_wp2
    clear h0 h1 hc1 hc2
    have hto := fun q => WfTo.of_drawn h ⟨q, rfl⟩
    go_loopw [7] (fun i wr => ∃ j : Nat, j ≤ n ∧ i = .int .i64 ((n : Int) - 1 - j) ∧ WfTo w wb (.slice ao bs.length cap) most (bs ++ digsTo n x j) wr) (fun i _ => (intOf i + 1).toNat)
    case atStart => exact ⟨0, Nat.zero_le _, by simp, by simpa [digsTo_zero] using hto _⟩
    case round =>
      obtain ⟨j, hj, rfl, hto1⟩ := hrel
      clear hto
      by_cases hlt : j < n
      · obtain ⟨sv1, hw1, ho1, hs1'⟩ := hto1
        have h0 := cell_blk hw1.blk 0
        have f0 := frozen_blk hw1.blk 0
        obtain ⟨ao1, cap1, rfl, hc1, hc2⟩ := slice_of_owns hw1.own
        obtain ⟨i, hij⟩ : ∃ i : Nat, (n : Int) - 1 - j = i := ⟨n - 1 - j, by omega⟩
        rw [hij]
        have hi7 : i ≤ 7 := by omega
        have Hij := Lib.hid hij
        clear hij
        generalize hbs : bs ++ digsTo n x j = bs1 at *
        have Hbs := Lib.hid hbs
        clear hbs
        simp at h0
        have hwb := hw1.lt.1
        go_wp2
        have hs1 : IntKind.i64.wrap (8 * (i : Int)) = 8 * (i : Int) := IntWalk.i64_in _ (by omega)
        have hs2 : (0 : Int) ≤ 8 * (i : Int) := by omega
        have hs3 : (8 : Int) * (i : Int) ≤ 64 := by omega
        have hs4 : ((8 : Int) * (i : Int)).toNat = 8 * i := by omega
        have HZ := Lib.hid (dig_byte x i)
        go_region_law ((refine step_append_src rfl (.tmp 47) (.tmp 53) 22 rfl 5 i0 (.int .u8 0) 1 1 Try.underlying22 hi hz0 hz1 hz2 rfl (by decide) 0 (.slice ao1 bs1.length cap1) bs1.length (bs1.map (Value.int .u8)) (by simp [Act.eval]) (by exact hw1.own.alloc _) (Nat.zero_le _) (.slice (some ⟨wr.heap.size, 0, none⟩) 1 1) 1 [.int .u8 (dig x i)] (by simp [Act.eval]) (by exact Src.one _ rfl) (by have := hw1.lim; have := hw1.fit; unfold maxLen; omega) (by have := hw1.lim; have := hw1.fit; omega) ?_; intro v' w1 hown1 hgrow1 hnew1; obtain ⟨ao', cap', rfl, _, _⟩ := slice_of_owns hown1; have hb1 := hw1.blk1 _ hgrow1; have h01 := cell_blk hb1 0; have f01 := frozen_blk hb1 0; simp at h01; have R := hw1.push _ HZ.out (by have hq := congrArg List.length Hbs.out; simp [digsTo_length] at hq; omega) hown1 hgrow1 hnew1; clear hown1 hgrow1 hnew1 hb1))
        all_goals
          have R2 := WfTo.trans ho1 hs1' R
          clear R hs1' hw1 h0 f0 h01 f01
          go_wp2
          go_roundw
          case rel => exact ⟨j + 1, by omega, congrArg (Value.int .i64) (by have := Hij.out; omega), by rw [digsTo_succ, ← List.append_assoc, Hbs.out, show n - 1 - j = i from by have := Hij.out; omega]; exact R2⟩
          case measure => simp [intOf]
      · have : j = n := by omega
        subst this
        go_wp2
        go_ret
        exact ⟨rfl, hto1⟩

/-- Why not, in one order of tests. -/
theorem refUintErr (wb : Nat) (sv : Value) (most : Nat) (bs : List Int) (n x : Int) (w : World) (h : Wf w wb sv most bs) (hx0 : 0 ≤ x) (hx1 : x ≤ 18446744073709551615) (he : wrErr (fitU n x) n ((most : Int) - bs.length) ≠ 0) :
    Calls Try.prog 21 #[.pointer (some ⟨wb, 0, none⟩), .int .i64 n, .int .u64 x] w fun e w' =>
      e = .returned (.int .i64 (wrErr (fitU n x) n ((most : Int) - bs.length))) ∧ Drawn w w' := by
  have h0 := cell_blk h.blk 0
  have h1 := cell_blk h.blk 1
  obtain ⟨ao, cap, rfl, hc1, hc2⟩ := slice_of_owns h.own
  simp at h0 h1
  have hfit := h.fit
  have hlim := h.lim
  clear h
  by_cases hn : n < 1 ∨ 8 < n
  · have hf : fitU n x = false := by
      cases hq : fitU n x
      · rfl
      · have := fitU_width hq; omega
    rw [hf]
    clear he hf
    rcases hn with hn | hn
    · go_enter Try.func21, Try.ntmps21
      go_wp2
      all_goals go_ret
      all_goals exact ⟨rfl, Drawn.refl _⟩
    · have hn' : ¬ n < 1 := by omega
      go_enter Try.func21, Try.ntmps21
      go_wp2
      all_goals go_ret
      all_goals exact ⟨rfl, Drawn.refl _⟩
  · obtain ⟨m, rfl⟩ := Int.eq_ofNat_of_zero_le (show 0 ≤ n by omega)
    have hn1 : 1 ≤ (m : Int) := by omega
    have hn8 : (m : Int) ≤ 8 := by omega
    have hs1 : IntKind.i64.wrap (8 * (m : Int)) = 8 * (m : Int) := IntWalk.i64_in _ (by omega)
    have hs4 : ((8 : Int) * (m : Int)).toNat = 8 * m := by omega
    have hff := fitU_iff m (by omega) (by omega) x hx0
    clear hn
    by_cases hf : x < 2 ^ (8 * m)
    · have hfu : fitU m x = true := by rw [hff]; exact decide_eq_true hf
      have hd : x / 2 ^ (8 * m) = 0 := Int.ediv_eq_zero_of_lt hx0 hf
      rw [hfu] at he ⊢
      have hr : wrErr true m ((most : Int) - bs.length) = 2 := by
        unfold wrErr at he ⊢
        simp only [Bool.true_eq_false, if_false] at he ⊢
        split at he
        · rename_i hlt; rw [if_pos hlt]
        · exact absurd rfl he
      have hlt : (most : Int) - bs.length < m := by
        unfold wrErr at hr
        simp only [Bool.true_eq_false, if_false] at hr
        split at hr
        · assumption
        · cases hr
      rw [hr]
      clear he hfu hff hr hf
      go_enter Try.func21, Try.ntmps21
      go_wp2
      all_goals
        go_quiet (fail)
        go_wp2
        go_ret
        exact ⟨rfl, _, rfl⟩
    · have hfu : fitU m x = false := by rw [hff]; exact decide_eq_false hf
      rw [hfu]
      have h8 : (m : Int) < 8 := by
        rcases width_cases (show 1 ≤ m by omega) (show m ≤ 8 by omega) with rfl | rfl | rfl | rfl | rfl | rfl | rfl | rfl <;> first | (simp; done) | (exfalso; simp only [Nat.reduceMul, Int.reducePow] at hf; omega)
      have hd : (x / 2 ^ (8 * m) != 0) = true := by
        rw [bne_iff_ne]
        intro e
        have h2 : (0 : Int) < 2 ^ (8 * m) := Int.pow_pos (by decide)
        have := Int.lt_ediv_add_one_mul_self x h2
        rw [e] at this
        omega
      clear he hff hfu
      go_enter Try.func21, Try.ntmps21
      go_wp2
      all_goals go_ret
      all_goals exact ⟨rfl, Drawn.refl _⟩

set_option maxHeartbeats 1000000 in
theorem refUint (wb : Nat) (sv : Value) (most : Nat) (bs : List Int) (n x : Int) (w : World) (h : Wf w wb sv most bs) (hx0 : 0 ≤ x) (hx1 : x ≤ 18446744073709551615) :
    Calls Try.prog 21 #[.pointer (some ⟨wb, 0, none⟩), .int .i64 n, .int .u64 x] w fun e w' =>
      e = .returned (.int .i64 (wrErr (fitU n x) n ((most : Int) - bs.length))) ∧ WfTo w wb sv most (bs ++ addU (fitU n x) n x ((most : Int) - bs.length)) w' := by
  unfold addU
  by_cases he : wrErr (fitU n x) n ((most : Int) - bs.length) = 0
  · obtain ⟨hf, hr⟩ := wrErr_zero he
    obtain ⟨h1, h8⟩ := fitU_width hf
    obtain ⟨m, rfl⟩ := Int.eq_ofNat_of_zero_le (show 0 ≤ n by omega)
    rw [if_pos he, he]
    have hlt : x < 2 ^ (8 * m) := by
      have := fitU_iff m (by omega) (by omega) x hx0
      rw [hf] at this
      exact of_decide_eq_true this.symm
    exact refUintOk wb sv most bs m x w h (by omega) (by omega) hx0 hlt (by omega)
  · rw [if_neg he]
    exact (refUintErr wb sv most bs n x w h hx0 hx1 he).mono fun e w' ⟨h1, h2⟩ => ⟨h1, WfTo.of_drawn' h h2⟩

/-- The number without a sign that has the same bytes. -/
def uval (n : Nat) (x : Int) : Int := if n < 8 ∧ x < 0 then x + 2 ^ (8 * n) else IntKind.u64.wrap x
theorem dig_wrap (x : Int) (i : Nat) (hi : i < 8) : dig (IntKind.u64.wrap x) i = dig x i := by
  unfold dig
  rw [IntKind.wrap_u8, IntKind.wrap_u8, wrapU]
  have : i = 0 ∨ i = 1 ∨ i = 2 ∨ i = 3 ∨ i = 4 ∨ i = 5 ∨ i = 6 ∨ i = 7 := by omega
  rcases this with rfl | rfl | rfl | rfl | rfl | rfl | rfl | rfl <;> simp only [Nat.reduceMul, Int.reducePow] <;> omega
theorem dig_add (n : Nat) (x : Int) (i : Nat) (hi : i < n) : dig (x + 2 ^ (8 * n)) i = dig x i := by
  unfold dig
  rw [IntKind.wrap_u8, IntKind.wrap_u8]
  have hp : (2 : Int) ^ (8 * n) = 2 ^ (8 * (n - i)) * 2 ^ (8 * i) := by rw [← Int.pow_add]; congr 1; omega
  have hq : (2 : Int) ^ (8 * (n - i)) = 2 ^ (8 * (n - i - 1)) * 256 := by rw [show (256 : Int) = 2 ^ 8 from rfl, ← Int.pow_add]; congr 1; omega
  have h0 : (2 : Int) ^ (8 * i) ≠ 0 := by have : (0 : Int) < 2 ^ (8 * i) := Int.pow_pos (by decide); omega
  rw [hp, Int.add_mul_ediv_right _ _ h0, hq]
  omega
theorem digs_uval (n : Nat) (h1 : 1 ≤ n) (h8 : n ≤ 8) (x : Int) : digs n (uval n x) = digs n x := by
  unfold digs digsTo
  apply List.map_congr_left
  intro t ht
  have := List.mem_range.1 ht
  unfold uval
  split
  · exact dig_add n x _ (by omega)
  · exact dig_wrap x _ (by omega)
theorem uval_range (n : Nat) (h1 : 1 ≤ n) (h8 : n ≤ 8) (x : Int) (hf : fitI n x = true) : 0 ≤ uval n x ∧ uval n x < 2 ^ (8 * n) := by
  rw [fitI_iff n h1 h8] at hf
  have hf := of_decide_eq_true hf
  unfold uval
  rw [wrapU]
  rcases width_cases h1 h8 with rfl | rfl | rfl | rfl | rfl | rfl | rfl | rfl <;> simp only [Nat.reduceMul, Nat.reduceSub, Int.reducePow] at * <;> split <;> omega
theorem uval_max (n : Nat) (h1 : 1 ≤ n) (h8 : n ≤ 8) (x : Int) (hf : fitI n x = true) : uval n x ≤ 18446744073709551615 := by
  have := (uval_range n h1 h8 x hf).2
  rcases width_cases h1 h8 with rfl | rfl | rfl | rfl | rfl | rfl | rfl | rfl <;> simp only [Nat.reduceMul, Int.reducePow] at * <;> omega

theorem use_at {p : Value} {n x y : Int} {m : Nat} {w : World} {R : Ending → World → Prop} (hR : Calls Try.prog 21 #[p, .int .i64 n, .int .u64 (uval m x)] w R) (hy : y = uval m x) :
    Calls Try.prog 21 #[p, .int .i64 n, .int .u64 y] w R := hy ▸ hR

set_option maxHeartbeats 8000000 in
theorem refInt (wb : Nat) (sv : Value) (most : Nat) (bs : List Int) (n x : Int) (w : World) (h : Wf w wb sv most bs) (hx0 : -9223372036854775808 ≤ x) (hx1 : x ≤ 9223372036854775807) :
    Calls Try.prog 23 #[.pointer (some ⟨wb, 0, none⟩), .int .i64 n, .int .i64 x] w fun e w' =>
      e = .returned (.int .i64 (wrErr (fitI n x) n ((most : Int) - bs.length))) ∧ WfTo w wb sv most (bs ++ addU (fitI n x) n x ((most : Int) - bs.length)) w' := by
  by_cases hn : n < 1 ∨ 8 < n
  · have hf : fitI n x = false := by
      cases hq : fitI n x
      · rfl
      · have := fitI_width hq; omega
    rw [hf]
    clear hf
    rcases hn with hn | hn
    · go_enter Try.func23, Try.ntmps23
      go_wp2
      all_goals go_ret
      all_goals exact ⟨rfl, WfTo.of_drawn' h (Drawn.refl _)⟩
    · have hn' : ¬ n < 1 := by omega
      go_enter Try.func23, Try.ntmps23
      go_wp2
      all_goals go_ret
      all_goals exact ⟨rfl, WfTo.of_drawn' h (Drawn.refl _)⟩
  · obtain ⟨m, rfl⟩ := Int.eq_ofNat_of_zero_le (show 0 ≤ n by omega)
    have h1 : 1 ≤ m := by omega
    have h8 : m ≤ 8 := by omega
    clear hn
    have hff := fitI_iff m h1 h8 x
    cases hfi : fitI (m : Int) x
    · rw [hfi] at hff
      clear hfi
      rcases width_cases h1 h8 with rfl | rfl | rfl | rfl | rfl | rfl | rfl | rfl
      all_goals
        simp only [Nat.reduceMul, Nat.reduceSub, Int.reducePow, Int.reduceNeg] at hff
        have hf := of_decide_eq_false hff.symm
        clear hff h1 h8
        try (exfalso; omega)
      all_goals
        go_enter Try.func23, Try.ntmps23
        go_wp2
        all_goals go_ret
        all_goals exact ⟨rfl, WfTo.of_drawn' h (Drawn.refl _)⟩
    · have hr := uval_range m h1 h8 x hfi
      have hm := uval_max m h1 h8 x hfi
      have hd := digs_uval m h1 h8 x
      have hfu : fitU m (uval m x) = true := by rw [fitU_iff m h1 h8 _ hr.1]; exact decide_eq_true hr.2
      have hadd : addU (fitU m (uval m x)) m (uval m x) ((most : Int) - bs.length) = addU true m x ((most : Int) - bs.length) := by
        rw [hfu]
        unfold addU
        rw [show ((m : Int)).toNat = m by omega, hd]
      have hR := refUint wb sv most bs m (uval m x) w h hr.1 hm
      rw [hadd, hfu] at hR
      have HR := Lib.hid hR
      rw [hfi] at hff
      clear hR hadd hfu hd hm hr hfi
      rcases width_cases h1 h8 with rfl | rfl | rfl | rfl | rfl | rfl | rfl | rfl
      all_goals
        simp only [Nat.reduceMul, Nat.reduceSub, Int.reducePow, Int.reduceNeg] at hff
        have hf := of_decide_eq_true hff.symm
        clear hff h1 h8
        by_cases hx : x < 0
      all_goals
        go_enter Try.func23, Try.ntmps23
        go_wp2_with fail
        refine (use_at HR.out ?hy).mono ?_
        case hy => first | (unfold uval; rw [if_neg (by omega), wrapU]; omega) | (simp [uval, hx]; done)
        rintro e w1 ⟨rfl, hto⟩
        go_wp2
        go_ret
        exact ⟨rfl, hto⟩
end Go.Proofs.Ytgedfecleablpaa
