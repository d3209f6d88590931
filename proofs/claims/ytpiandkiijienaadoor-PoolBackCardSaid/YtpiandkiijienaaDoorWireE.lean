/- The writers' calls, each for every argument. No condition beyond a writer that was made. -/
import Derived.Test.YtpiandkiijienaaDoorWireD
namespace Go.Proofs.YtpiandkiijienaaDoor
open Go.RowKit

theorem fitU_width {n x : Int} (h : fitU n x = true) : 1 ≤ n ∧ n ≤ 8 := by simp [fitU] at h; omega
theorem fitI_width {n x : Int} (h : fitI n x = true) : 1 ≤ n ∧ n ≤ 8 := by simp [fitI] at h; omega
theorem wrErr_zero {r : Bool} {n room : Int} (h : wrErr r n room = 0) : r = true ∧ n ≤ room := by
  unfold wrErr at h
  cases r
  · simp at h
  · simp only [Bool.true_eq_false, if_false] at h
    split at h
    · simp at h
    · exact ⟨rfl, by omega⟩
theorem WrTo.of_drawn' {w w' : World} {wb : Nat} {sv : Value} {most : Nat} {bs : List Int} (h : Wr w wb sv most bs) (hd : Drawn w w') : WrTo w wb sv most (bs ++ []) w' := by simpa using WrTo.of_drawn h hd

/-- The bytes that a call adds. -/
def addU (r : Bool) (n x room : Int) : List Int := if wrErr r n room = 0 then digs n.toNat x else []

set_option maxHeartbeats 1000000 in
theorem wrUint (wb : Nat) (sv : Value) (most : Nat) (bs : List Int) (n x : Int) (w : World) (h : Wr w wb sv most bs) :
    Calls Tryd.prog 23 #[.pointer (some ⟨wb, 0, none⟩), .int .i64 n, .int .u64 x] w fun e w' =>
      e = .returned (.int .i64 (wrErr (fitU n x) n ((most : Int) - bs.length))) ∧ WrTo w wb sv most (bs ++ addU (fitU n x) n x ((most : Int) - bs.length)) w' := by
  unfold addU
  by_cases he : wrErr (fitU n x) n ((most : Int) - bs.length) = 0
  · obtain ⟨hf, hr⟩ := wrErr_zero he
    obtain ⟨h1, h8⟩ := fitU_width hf
    obtain ⟨m, rfl⟩ := Int.eq_ofNat_of_zero_le (show 0 ≤ n by omega)
    rw [if_pos he, he]
    have Hf := Lib.hid hf
    clear hf he
    go_enter Tryd.func23, Tryd.ntmps23
    go_wp2_with (first | (go_at_call 40; refine (writeU wb sv most bs m x _ h (by omega) (by omega) Hf.out (by omega)).mono ?_; rintro e w' ⟨rfl, hto⟩))
    go_ret
    exact ⟨rfl, hto⟩
  · rw [if_neg he]
    go_enter Tryd.func23, Tryd.ntmps23
    go_wp2_with (first | (go_at_call 40; refine (writeUErr wb sv most bs n x _ h he).mono ?_; rintro e w' ⟨rfl, hdr⟩))
    go_ret
    exact ⟨rfl, WrTo.of_drawn' h hdr⟩

set_option maxHeartbeats 1000000 in
theorem wrInt (wb : Nat) (sv : Value) (most : Nat) (bs : List Int) (n x : Int) (w : World) (h : Wr w wb sv most bs) :
    Calls Tryd.prog 44 #[.pointer (some ⟨wb, 0, none⟩), .int .i64 n, .int .i64 x] w fun e w' =>
      e = .returned (.int .i64 (wrErr (fitI n x) n ((most : Int) - bs.length))) ∧ WrTo w wb sv most (bs ++ addU (fitI n x) n x ((most : Int) - bs.length)) w' := by
  unfold addU
  by_cases he : wrErr (fitI n x) n ((most : Int) - bs.length) = 0
  · obtain ⟨hf, hr⟩ := wrErr_zero he
    obtain ⟨h1, h8⟩ := fitI_width hf
    obtain ⟨m, rfl⟩ := Int.eq_ofNat_of_zero_le (show 0 ≤ n by omega)
    rw [if_pos he, he]
    have Hf := Lib.hid hf
    clear hf he
    go_enter Tryd.func44, Tryd.ntmps44
    go_wp2_with (first | (go_at_call 67; refine (writeI wb sv most bs m x _ h (by omega) (by omega) Hf.out (by omega)).mono ?_; rintro e w' ⟨rfl, hto⟩))
    go_ret
    exact ⟨rfl, hto⟩
  · rw [if_neg he]
    go_enter Tryd.func44, Tryd.ntmps44
    go_wp2_with (first | (go_at_call 67; refine (writeIErr wb sv most bs n x _ h he).mono ?_; rintro e w' ⟨rfl, hdr⟩))
    go_ret
    exact ⟨rfl, WrTo.of_drawn' h hdr⟩


theorem fitU_iff (k : Nat) (h1 : 1 ≤ k) (h8 : k ≤ 8) (x : Int) (h0 : 0 ≤ x) : fitU k x = decide (x < 2 ^ (8 * k)) := by
  have hk : (k : Int).toNat = k := by omega
  have h1' : (1 : Int) ≤ k := by omega
  have h8' : (k : Int) ≤ 8 := by omega
  unfold fitU
  rw [hk, cutUv_eq k h1 h8, decide_eq_true h1', decide_eq_true h8', Bool.true_and, Bool.true_and]
  rcases width_cases h1 h8 with rfl | rfl | rfl | rfl | rfl | rfl | rfl | rfl <;> simp only [Nat.reduceMul, Int.reducePow, Bool.beq_eq_decide_eq] <;> congr 1 <;> apply propext <;> constructor <;> intro h <;> omega
theorem fitI_iff (k : Nat) (h1 : 1 ≤ k) (h8 : k ≤ 8) (x : Int) : fitI k x = decide (-(2 ^ (8 * k - 1)) ≤ x ∧ x < 2 ^ (8 * k - 1)) := by
  have hk : (k : Int).toNat = k := by omega
  have h1' : (1 : Int) ≤ k := by omega
  have h8' : (k : Int) ≤ 8 := by omega
  unfold fitI
  rw [hk, cutIv_eq k h1 h8, decide_eq_true h1', decide_eq_true h8', Bool.true_and, Bool.true_and]
  rcases width_cases h1 h8 with rfl | rfl | rfl | rfl | rfl | rfl | rfl | rfl <;> simp only [Nat.reduceMul, Nat.reduceSub, Int.reducePow, Bool.beq_eq_decide_eq] <;> congr 1 <;> apply propext <;> constructor <;> intro h <;> omega

/-- What a writer has written, as a new row. -/
theorem wrOut (wb : Nat) (sv : Value) (most : Nat) (bs : List Int) (w : World) (h : Wr w wb sv most bs) :
    Calls Tryd.prog 25 #[.pointer (some ⟨wb, 0, none⟩)] w fun e w' => ∃ v', e = .returned v' ∧ w'.ownsRow w.heap.size 5 1 v' bs.length (bs.map (Value.int .u8)) ∧ Below w.heap.size w w' := by
  have h0 := cell_blk h.blk 0
  have h2 := cell_blk h.blk 2
  have hb := Bytes.of_owns h.own h.byt
  have hl := h.fit
  have hm := h.lim
  obtain ⟨ao, cap, rfl, hc1, hc2⟩ := slice_of_owns h.own
  simp at h0 h2
  clear h
  go_enter Tryd.func25, Tryd.ntmps25
  go_wp2_with (first | (go_at_call 46; refine (clone _ bs _ hb (by omega)).mono ?_; rintro e w' ⟨v', rfl, hown, hbel⟩) | go_in)
  go_ret
  exact ⟨_, rfl, hown, hbel⟩

/-- Bytes behind bytes: behind the append and the store into the writer. -/
theorem Wr.more {w w1 : World} {wb : Nat} {sv v' : Value} {most : Nat} {bs zs : List Int} (h : Wr w wb sv most bs) (hz : Bytish zs) (hroom : bs.length + zs.length ≤ most)
    (hown : w1.ownsRow 0 5 1 v' (bs.length + zs.length) (bs.map (Value.int .u8) ++ zs.map (Value.int .u8))) (hgrow : w.grownBy w1 sv.ownBlock) (hnew : ∀ k, v'.ownBlock = some k → sv.ownBlock = some k ∨ w.heap.size ≤ k) :
    WrTo w wb sv most (bs ++ zs) (w1.setCell ⟨wb, 0, none⟩ v') := by
  have hlt := h.lt
  have hblk : w1.heap[wb]? = some (.cells #[sv, .int .i64 most, .bool true] 85 (0, 0)) := by
    rw [hgrow.block wb (by omega) (fun e => h.apart e.symm)]
    exact h.blk
  have hne : v'.ownBlock ≠ some wb := by
    intro e
    rcases hnew wb e with e2 | e2
    · exact h.apart e2
    · omega
  refine ⟨v', ⟨?_, ?_, hne, h.byt.append hz, by simpa using hroom, h.lim⟩, ?_, fun k hk => hnew k hk⟩
  · exact heap_setCell_at hblk
  · have := (Only.setCell (S := fun k => k = wb) (Only.refl _ w1) (p := ⟨wb, 0, none⟩) (fun _ => rfl) v').owns hown (fun k hk e => hne (by rw [hk, e]))
    simpa using this
  · exact ((Only.refl _ w).grown hgrow (fun k hk _ => .inr hk)).setCell (fun _ => .inl rfl) v'

def addB (zs : List Int) (err : Int) : List Int := if err = 0 then zs else []

set_option maxHeartbeats 1000000 in
theorem wrBytes (wb : Nat) (sv : Value) (most : Nat) (bs : List Int) (v : Value) (zs : List Int) (w : World) (h : Wr w wb sv most bs) (hb : Bytes w v zs) :
    Calls Tryd.prog 43 #[.pointer (some ⟨wb, 0, none⟩), v] w fun e w' =>
      e = .returned (.int .i64 (wrErr true zs.length ((most : Int) - bs.length))) ∧ WrTo w wb sv most (bs ++ addB zs (wrErr true zs.length ((most : Int) - bs.length))) w' := by
  obtain ⟨i0, hi, hz0, hz1, hz2⟩ := info_parts info_u8
  have hbyt : Bytish zs := by obtain ⟨_, _, _, _, _, _, h, _⟩ := hb; exact h
  obtain ⟨ao, cap, hv, hcap, hcm, hn, _, hcells⟩ := id hb
  have hfit := h.fit
  have hlim := h.lim
  have hcap' : zs.length ≤ 9223372036854775807 := by unfold maxLen at hcm; omega
  unfold addB
  by_cases he : wrErr true zs.length ((most : Int) - bs.length) = 0
  · obtain ⟨_, hr⟩ := wrErr_zero he
    simp only [he, if_true]
    have He := Lib.hid he
    have Hb := Lib.hid hb
    clear he hb hcells
    subst hv
    go_enter Tryd.func43, Tryd.ntmps43
    go_wp2_with (first | (go_at_call 62; refine (wrRefusal false wb sv most bs zs.length true _ h (fun _ => rfl)).mono ?_; rintro e w' ⟨rfl, hdr⟩; rw [He.out]; have h1 := h.only (hdr.only (S := fun _ => False)) (fun h => h) (fun _ _ h => h); have hb1 := Hb.out.only (hdr.only (S := fun _ => False)) (fun _ _ _ h => h); have h0 := cell_blk h1.blk 0; have f0 := frozen_blk h1.blk 0; simp at h0) | (at_builtin; refine wpList_append_src rfl (.tmp 17) (.tmp 18) 28 rfl 5 i0 (.int .u8 0) 1 1 Tryd.underlying28 hi hz0 hz1 hz2 rfl (by decide) 0 sv bs.length (bs.map (Value.int .u8)) rfl (by exact h1.own) (Nat.zero_le _) (.slice ao zs.length cap) zs.length (zs.map (Value.int .u8)) rfl (Src.of_bytes (by exact hb1)) (by unfold maxLen; omega) (by omega) ?next))
    case next =>
      intro v' w1 hown1 hgrow1 hnew1
      obtain ⟨ao', cap', rfl, _, _⟩ := slice_of_owns hown1
      have R := h1.more hbyt (by omega) hown1 hgrow1 hnew1
      have hb2 : w1.heap[wb]? = some (.cells #[sv, .int .i64 most, .bool true] 85 (0, 0)) := by
        rw [hgrow1.block wb h1.lt.1 (fun e => h.apart e.symm)]
        exact h1.blk
      have h01 := cell_blk hb2 0
      have f01 := frozen_blk hb2 0
      simp at h01
      have R2 := WrTo.trans (hdr.only (S := WrS wb sv)) (fun k hk => .inl hk) R
      clear R h1 hb1 h0 f0 hown1 hgrow1 hnew1 hb2
      go_wp2
      go_ret
      exact ⟨rfl, R2⟩
  · simp only [he, if_false]
    have hne : (wrErr true zs.length ((most : Int) - bs.length) == 0) = false := by simpa using he
    have hne' : (wrErr true zs.length ((most : Int) - bs.length) != 0) = true := by simpa using he
    clear he hcells
    subst hv
    go_enter Tryd.func43, Tryd.ntmps43
    go_wp2_with (first | (go_at_call 62; refine (wrRefusal false wb sv most bs zs.length true _ h (fun _ => rfl)).mono ?_; rintro e w' ⟨rfl, hdr⟩))
    go_ret
    exact ⟨rfl, WrTo.of_drawn' h hdr⟩
end Go.Proofs.YtpiandkiijienaaDoor
