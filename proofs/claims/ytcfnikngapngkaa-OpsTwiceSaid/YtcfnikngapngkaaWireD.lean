/- Writing a number: the program's writeNumber at both kinds. No condition beyond a writer that was made. -/
import Derived.Test.YtcfnikngapngkaaWireC
import Derived.Deep.RegionLaw
namespace Go.Proofs.Ytcfnikngapngkaa
open Go.RowKit

theorem Wr.blk1 {w w1 : World} {wb : Nat} {sv : Value} {most : Nat} {bs : List Int} (h : Wr w wb sv most bs) (o : Obj) (hgrow : (w.drew.alloc o).grownBy w1 sv.ownBlock) :
    w1.heap[wb]? = some (.cells #[sv, .int .i64 most, .bool true] 87 (0, 0)) := by
  rw [hgrow.block wb (by have := h.lt.1; simp; omega) (fun e => h.apart e.symm)]
  exact (Below.heap_alloc w.drew o wb h.lt.1).trans h.blk

/-- One byte more: behind the append and the store into the writer. -/
theorem Wr.push {w w1 : World} {wb : Nat} {sv v' : Value} {most : Nat} {bs : List Int} {z : Int} (h : Wr w wb sv most bs) (o : Obj) (hz : IsByte z) (hroom : bs.length + 1 ≤ most)
    (hown : w1.ownsRow 0 5 1 v' (bs.length + 1) (bs.map (Value.int .u8) ++ [.int .u8 z])) (hgrow : (w.drew.alloc o).grownBy w1 sv.ownBlock) (hnew : ∀ k, v'.ownBlock = some k → sv.ownBlock = some k ∨ (w.drew.alloc o).heap.size ≤ k) :
    WrTo w wb sv most (bs ++ [z]) (w1.setCell ⟨wb, 0, none⟩ v') := by
  have hlt := h.lt
  have hsz : (w.drew.alloc o).heap.size = w.heap.size + 1 := by simp
  have hblk : w1.heap[wb]? = some (.cells #[sv, .int .i64 most, .bool true] 87 (0, 0)) := by
    rw [hgrow.block wb (by omega) (fun e => h.apart e.symm)]
    exact (Below.heap_alloc w.drew o wb hlt.1).trans h.blk
  have hne : v'.ownBlock ≠ some wb := by
    intro e
    rcases hnew wb e with e2 | e2
    · exact h.apart e2
    · omega
  refine ⟨v', ⟨?_, ?_, hne, h.byt.append (fun y hy => by simp at hy; subst hy; exact hz), by simpa using hroom, h.lim⟩, ?_, fun k hk => ?_⟩
  · exact heap_setCell_at hblk
  · have := (Only.setCell (S := fun k => k = wb) (Only.refl _ w1) (p := ⟨wb, 0, none⟩) (fun _ => rfl) v').owns hown (fun k hk e => hne (by rw [hk, e]))
    simpa using this
  · exact ((((Only.refl _ w).drew).alloc o).grown hgrow (fun k hk _ => .inr hk)).setCell (fun _ => .inl rfl) v'
  · rcases hnew k hk with e | e
    · exact .inl e
    · exact .inr (by omega)

theorem WrTo.trans {w w1 w2 : World} {wb : Nat} {sv sv1 : Value} {most : Nat} {bs : List Int} (ho : Only (WrS wb sv) w w1) (hs : ∀ k, sv1.ownBlock = some k → sv.ownBlock = some k ∨ w.heap.size ≤ k)
    (h2 : WrTo w1 wb sv1 most bs w2) : WrTo w wb sv most bs w2 := by
  obtain ⟨sv2, hw, ho2, hs2⟩ := h2
  refine ⟨sv2, hw, ho.trans ho2 ?_, fun k hk => ?_⟩
  · rintro i (rfl | hi) hl
    · exact .inl rfl
    · rcases hs i hi with h | h
      · exact .inr h
      · omega
  · rcases hs2 k hk with h | h
    · exact hs k h
    · exact .inr (Nat.le_trans ho.size h)

theorem Wr.to {w : World} {wb : Nat} {sv : Value} {most : Nat} {bs : List Int} (h : Wr w wb sv most bs) : WrTo w wb sv most bs w := ⟨sv, h, Only.refl _ _, fun _ hk => .inl hk⟩

theorem WrTo.of_drawn {w w' : World} {wb : Nat} {sv : Value} {most : Nat} {bs : List Int} (h : Wr w wb sv most bs) (hd : Drawn w w') : WrTo w wb sv most bs w' :=
  ⟨sv, h.only (hd.only (S := fun _ => False)) (fun h => h) (fun _ _ h => h), hd.only, fun _ hk => .inl hk⟩

set_option maxHeartbeats 2000000 in
set_option maxRecDepth 100000 in
theorem writeU (wb : Nat) (sv : Value) (most : Nat) (bs : List Int) (n : Nat) (x : Int) (w : World) (h : Wr w wb sv most bs) (hn1 : 1 ≤ n) (hn8 : n ≤ 8) (hf : fitU n x = true) (hroom : bs.length + n ≤ most) :
    Calls Try.prog 39 #[.pointer (some ⟨wb, 0, none⟩), .int .i64 n, .int .u64 x] w fun e w' =>
      e = .returned (.int .i64 0) ∧ WrTo w wb sv most (bs ++ digs n x) w' := by
  obtain ⟨i0, hi, hz0, hz1, hz2⟩ := info_parts info_u8
  have herr : wrErr (fitU n x) n ((most : Int) - bs.length) = 0 := by unfold wrErr; rw [hf, if_neg (by simp), if_neg (by omega)]
  have Hf := Lib.hid hf
  clear hf
  have Herr := Lib.hid herr
  clear herr
  go_enter Try.func39, Try.ntmps39
  go_wp2_with (first | (go_at_call 48; go_loud (refine (fitsU x n _).mono ?_); rintro e w' ⟨rfl, rfl⟩) | (go_at_call 47; go_loud (refine (wrRefusal true wb sv most bs n (fitU n x) _ h (by intro h; cases h)).mono ?_); rintro e w' ⟨rfl, hdr⟩; rw [Herr.out]))
  have hto := WrTo.of_drawn h hdr
  clear hdr
  go_loopw [8] (fun i wr => ∃ j : Nat, j ≤ n ∧ i = .int .i64 ((n : Int) - 1 - j) ∧ WrTo w wb sv most (bs ++ digsTo n x j) wr) (fun i _ => (intOf i + 1).toNat)
  case atStart => exact ⟨0, Nat.zero_le _, by simp, by simpa [digsTo_zero] using hto⟩
  case round =>
    obtain ⟨j, hj, rfl, hto1⟩ := hrel
    clear hto
    by_cases hlt : j < n
    · obtain ⟨sv1, hw1, ho1, hs1'⟩ := hto1
      have h0 := cell_blk hw1.blk 0
      have f0 := frozen_blk hw1.blk 0
      obtain ⟨ao, cap, rfl, hc1, hc2⟩ := slice_of_owns hw1.own
      obtain ⟨i, hij⟩ : ∃ i : Nat, (n : Int) - 1 - j = i := ⟨n - 1 - j, by omega⟩
      rw [hij]
      have hi7 : i ≤ 7 := by omega
      have Hij := Lib.hid hij
      clear hij
      generalize hbs : bs ++ digsTo n x j = bs1 at *
      have Hbs := Lib.hid hbs
      clear hbs
      simp at h0
      have hwb := hw1.lt.1
      go_wp2
      have hs1 : IntKind.i64.wrap (8 * (i : Int)) = 8 * (i : Int) := IntWalk.i64_in _ (by omega)
      have hs2 : (0 : Int) ≤ 8 * (i : Int) := by omega
      have hs3 : (8 : Int) * (i : Int) ≤ 64 := by omega
      have hs4 : ((8 : Int) * (i : Int)).toNat = 8 * i := by omega
      have hzb := dig_byte x i
      have HZ := Lib.hid hzb
      clear hzb
      go_region_law ((refine step_append_two rfl (.tmp 28) (.tmp 34) 27 rfl 5 i0 (.int .u8 0) 1 1 Try.underlying27 hi hz0 hz1 hz2 rfl (by decide) 0 (.slice ao bs1.length cap) bs1.length (bs1.map (Value.int .u8)) (by simp [Act.eval]) (by exact hw1.own.alloc _) (Nat.zero_le _) ⟨wr.heap.size, 0, none⟩ 1 1 [.int .u8 (dig x i)] (by simp [Act.eval]) rfl (by exact cell_one_new _ _ _) (by intro u hu; simp at hu; subst hu; rfl) (by have := hw1.lim; have := hw1.fit; unfold maxLen; omega) (by have := hw1.lim; have := hw1.fit; omega) ?_; intro v' w1 hown1 hgrow1 hnew1; obtain ⟨ao', cap', rfl, _, _⟩ := slice_of_owns hown1; have hb1 := hw1.blk1 _ hgrow1; have h01 := cell_blk hb1 0; have f01 := frozen_blk hb1 0; simp at h01; have R := hw1.push _ HZ.out (by have hq := congrArg List.length Hbs.out; simp [digsTo_length] at hq; omega) hown1 hgrow1 hnew1; clear hown1 hgrow1 hnew1 hb1))
      all_goals
        have R2 := WrTo.trans ho1 hs1' R
        clear R hs1' hw1 h0 f0 h01 f01
        go_wp2
        go_roundw
        case rel => exact ⟨j + 1, by omega, congrArg (Value.int .i64) (by have := Hij.out; omega), by rw [digsTo_succ, ← List.append_assoc, Hbs.out, show n - 1 - j = i from by have := Hij.out; omega]; exact R2⟩
        case measure => simp [intOf]
    · have : j = n := by omega
      subst this
      go_wp2
      go_ret
      exact ⟨rfl, hto1⟩

set_option maxHeartbeats 1000000 in
theorem writeUErr (wb : Nat) (sv : Value) (most : Nat) (bs : List Int) (n x : Int) (w : World) (h : Wr w wb sv most bs) (he : wrErr (fitU n x) n ((most : Int) - bs.length) ≠ 0) :
    Calls Try.prog 39 #[.pointer (some ⟨wb, 0, none⟩), .int .i64 n, .int .u64 x] w fun e w' =>
      e = .returned (.int .i64 (wrErr (fitU n x) n ((most : Int) - bs.length))) ∧ Drawn w w' := by
  have hne : (wrErr (fitU n x) n ((most : Int) - bs.length) == 0) = false := by simpa using he
  have hne' : (wrErr (fitU n x) n ((most : Int) - bs.length) != 0) = true := by simpa using he
  clear he
  go_enter Try.func39, Try.ntmps39
  go_wp2_with (first | (go_at_call 48; refine (fitsU x n _).mono ?_; rintro e w' ⟨rfl, rfl⟩) | (go_at_call 47; refine (wrRefusal true wb sv most bs n (fitU n x) _ h (by intro h; cases h)).mono ?_; rintro e w' ⟨rfl, hdr⟩))
  go_ret
  exact ⟨rfl, hdr⟩
set_option maxHeartbeats 2000000 in
set_option maxRecDepth 100000 in
theorem writeI (wb : Nat) (sv : Value) (most : Nat) (bs : List Int) (n : Nat) (x : Int) (w : World) (h : Wr w wb sv most bs) (hn1 : 1 ≤ n) (hn8 : n ≤ 8) (hf : fitI n x = true) (hroom : bs.length + n ≤ most) :
    Calls Try.prog 49 #[.pointer (some ⟨wb, 0, none⟩), .int .i64 n, .int .i64 x] w fun e w' =>
      e = .returned (.int .i64 0) ∧ WrTo w wb sv most (bs ++ digs n x) w' := by
  obtain ⟨i0, hi, hz0, hz1, hz2⟩ := info_parts info_u8
  have herr : wrErr (fitI n x) n ((most : Int) - bs.length) = 0 := by unfold wrErr; rw [hf, if_neg (by simp), if_neg (by omega)]
  have Hf := Lib.hid hf
  clear hf
  have Herr := Lib.hid herr
  clear herr
  go_enter Try.func49, Try.ntmps49
  go_wp2_with (first | (go_at_call 53; go_loud (refine (fitsI x n _).mono ?_); rintro e w' ⟨rfl, rfl⟩) | (go_at_call 47; go_loud (refine (wrRefusal true wb sv most bs n (fitI n x) _ h (by intro h; cases h)).mono ?_); rintro e w' ⟨rfl, hdr⟩; rw [Herr.out]))
  have hto := WrTo.of_drawn h hdr
  clear hdr
  go_loopw [8] (fun i wr => ∃ j : Nat, j ≤ n ∧ i = .int .i64 ((n : Int) - 1 - j) ∧ WrTo w wb sv most (bs ++ digsTo n x j) wr) (fun i _ => (intOf i + 1).toNat)
  case atStart => exact ⟨0, Nat.zero_le _, by simp, by simpa [digsTo_zero] using hto⟩
  case round =>
    obtain ⟨j, hj, rfl, hto1⟩ := hrel
    clear hto
    by_cases hlt : j < n
    · obtain ⟨sv1, hw1, ho1, hs1'⟩ := hto1
      have h0 := cell_blk hw1.blk 0
      have f0 := frozen_blk hw1.blk 0
      obtain ⟨ao, cap, rfl, hc1, hc2⟩ := slice_of_owns hw1.own
      obtain ⟨i, hij⟩ : ∃ i : Nat, (n : Int) - 1 - j = i := ⟨n - 1 - j, by omega⟩
      rw [hij]
      have hi7 : i ≤ 7 := by omega
      have Hij := Lib.hid hij
      clear hij
      generalize hbs : bs ++ digsTo n x j = bs1 at *
      have Hbs := Lib.hid hbs
      clear hbs
      simp at h0
      have hwb := hw1.lt.1
      go_wp2
      have hs1 : IntKind.i64.wrap (8 * (i : Int)) = 8 * (i : Int) := IntWalk.i64_in _ (by omega)
      have hs2 : (0 : Int) ≤ 8 * (i : Int) := by omega
      have hs3 : (8 : Int) * (i : Int) ≤ 64 := by omega
      have hs4 : ((8 : Int) * (i : Int)).toNat = 8 * i := by omega
      have hzb := dig_byte x i
      have HZ := Lib.hid hzb
      clear hzb
      go_region_law ((refine step_append_two rfl (.tmp 28) (.tmp 34) 27 rfl 5 i0 (.int .u8 0) 1 1 Try.underlying27 hi hz0 hz1 hz2 rfl (by decide) 0 (.slice ao bs1.length cap) bs1.length (bs1.map (Value.int .u8)) (by simp [Act.eval]) (by exact hw1.own.alloc _) (Nat.zero_le _) ⟨wr.heap.size, 0, none⟩ 1 1 [.int .u8 (dig x i)] (by simp [Act.eval]) rfl (by exact cell_one_new _ _ _) (by intro u hu; simp at hu; subst hu; rfl) (by have := hw1.lim; have := hw1.fit; unfold maxLen; omega) (by have := hw1.lim; have := hw1.fit; omega) ?_; intro v' w1 hown1 hgrow1 hnew1; obtain ⟨ao', cap', rfl, _, _⟩ := slice_of_owns hown1; have hb1 := hw1.blk1 _ hgrow1; have h01 := cell_blk hb1 0; have f01 := frozen_blk hb1 0; simp at h01; have R := hw1.push _ HZ.out (by have hq := congrArg List.length Hbs.out; simp [digsTo_length] at hq; omega) hown1 hgrow1 hnew1; clear hown1 hgrow1 hnew1 hb1))
      all_goals
        have R2 := WrTo.trans ho1 hs1' R
        clear R hs1' hw1 h0 f0 h01 f01
        go_wp2
        go_roundw
        case rel => exact ⟨j + 1, by omega, congrArg (Value.int .i64) (by have := Hij.out; omega), by rw [digsTo_succ, ← List.append_assoc, Hbs.out, show n - 1 - j = i from by have := Hij.out; omega]; exact R2⟩
        case measure => simp [intOf]
    · have : j = n := by omega
      subst this
      go_wp2
      go_ret
      exact ⟨rfl, hto1⟩

set_option maxHeartbeats 1000000 in
theorem writeIErr (wb : Nat) (sv : Value) (most : Nat) (bs : List Int) (n x : Int) (w : World) (h : Wr w wb sv most bs) (he : wrErr (fitI n x) n ((most : Int) - bs.length) ≠ 0) :
    Calls Try.prog 49 #[.pointer (some ⟨wb, 0, none⟩), .int .i64 n, .int .i64 x] w fun e w' =>
      e = .returned (.int .i64 (wrErr (fitI n x) n ((most : Int) - bs.length))) ∧ Drawn w w' := by
  have hne : (wrErr (fitI n x) n ((most : Int) - bs.length) == 0) = false := by simpa using he
  have hne' : (wrErr (fitI n x) n ((most : Int) - bs.length) != 0) = true := by simpa using he
  clear he
  go_enter Try.func49, Try.ntmps49
  go_wp2_with (first | (go_at_call 53; refine (fitsI x n _).mono ?_; rintro e w' ⟨rfl, rfl⟩) | (go_at_call 47; refine (wrRefusal true wb sv most bs n (fitI n x) _ h (by intro h; cases h)).mono ?_; rintro e w' ⟨rfl, hdr⟩))
  go_ret
  exact ⟨rfl, hdr⟩
end Go.Proofs.Ytcfnikngapngkaa
