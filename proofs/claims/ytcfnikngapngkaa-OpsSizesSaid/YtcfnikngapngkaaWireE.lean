/- The writers' calls, each for every argument. No condition beyond a writer that was made. -/
import Derived.Test.YtcfnikngapngkaaWireD
namespace Go.Proofs.Ytcfnikngapngkaa
open Go.RowKit

theorem fitU_width {n x : Int} (h : fitU n x = true) : 1 ≤ n ∧ n ≤ 8 := by simp [fitU] at h; omega
theorem fitI_width {n x : Int} (h : fitI n x = true) : 1 ≤ n ∧ n ≤ 8 := by simp [fitI] at h; omega
theorem wrErr_zero {r : Bool} {n room : Int} (h : wrErr r n room = 0) : r = true ∧ n ≤ room := by
  unfold wrErr at h
  cases r
  · simp at h
  · simp only [Bool.true_eq_false, if_false] at h
    split at h
    · simp at h
    · exact ⟨rfl, by omega⟩
theorem WrTo.of_drawn' {w w' : World} {wb : Nat} {sv : Value} {most : Nat} {bs : List Int} (h : Wr w wb sv most bs) (hd : Drawn w w') : WrTo w wb sv most (bs ++ []) w' := by simpa using WrTo.of_drawn h hd

/-- The bytes that a call adds. -/
def addU (r : Bool) (n x room : Int) : List Int := if wrErr r n room = 0 then digs n.toNat x else []

set_option maxHeartbeats 1000000 in
theorem wrUint (wb : Nat) (sv : Value) (most : Nat) (bs : List Int) (n x : Int) (w : World) (h : Wr w wb sv most bs) :
    Calls Try.prog 30 #[.pointer (some ⟨wb, 0, none⟩), .int .i64 n, .int .u64 x] w fun e w' =>
      e = .returned (.int .i64 (wrErr (fitU n x) n ((most : Int) - bs.length))) ∧ WrTo w wb sv most (bs ++ addU (fitU n x) n x ((most : Int) - bs.length)) w' := by
  unfold addU
  by_cases he : wrErr (fitU n x) n ((most : Int) - bs.length) = 0
  · obtain ⟨hf, hr⟩ := wrErr_zero he
    obtain ⟨h1, h8⟩ := fitU_width hf
    obtain ⟨m, rfl⟩ := Int.eq_ofNat_of_zero_le (show 0 ≤ n by omega)
    rw [if_pos he, he]
    have Hf := Lib.hid hf
    clear hf he
    go_enter Try.func30, Try.ntmps30
    go_wp2_with (first | (go_at_call 39; refine (writeU wb sv most bs m x _ h (by omega) (by omega) Hf.out (by omega)).mono ?_; rintro e w' ⟨rfl, hto⟩))
    go_ret
    exact ⟨rfl, hto⟩
  · rw [if_neg he]
    go_enter Try.func30, Try.ntmps30
    go_wp2_with (first | (go_at_call 39; refine (writeUErr wb sv most bs n x _ h he).mono ?_; rintro e w' ⟨rfl, hdr⟩))
    go_ret
    exact ⟨rfl, WrTo.of_drawn' h hdr⟩

set_option maxHeartbeats 1000000 in
theorem wrInt (wb : Nat) (sv : Value) (most : Nat) (bs : List Int) (n x : Int) (w : World) (h : Wr w wb sv most bs) :
    Calls Try.prog 40 #[.pointer (some ⟨wb, 0, none⟩), .int .i64 n, .int .i64 x] w fun e w' =>
      e = .returned (.int .i64 (wrErr (fitI n x) n ((most : Int) - bs.length))) ∧ WrTo w wb sv most (bs ++ addU (fitI n x) n x ((most : Int) - bs.length)) w' := by
  unfold addU
  by_cases he : wrErr (fitI n x) n ((most : Int) - bs.length) = 0
  · obtain ⟨hf, hr⟩ := wrErr_zero he
    obtain ⟨h1, h8⟩ := fitI_width hf
    obtain ⟨m, rfl⟩ := Int.eq_ofNat_of_zero_le (show 0 ≤ n by omega)
    rw [if_pos he, he]
    have Hf := Lib.hid hf
    clear hf he
    go_enter Try.func40, Try.ntmps40
    go_wp2_with (first | (go_at_call 49; refine (writeI wb sv most bs m x _ h (by omega) (by omega) Hf.out (by omega)).mono ?_; rintro e w' ⟨rfl, hto⟩))
    go_ret
    exact ⟨rfl, hto⟩
  · rw [if_neg he]
    go_enter Try.func40, Try.ntmps40
    go_wp2_with (first | (go_at_call 49; refine (writeIErr wb sv most bs n x _ h he).mono ?_; rintro e w' ⟨rfl, hdr⟩))
    go_ret
    exact ⟨rfl, WrTo.of_drawn' h hdr⟩


theorem fitU_iff (k : Nat) (h1 : 1 ≤ k) (h8 : k ≤ 8) (x : Int) (h0 : 0 ≤ x) : fitU k x = decide (x < 2 ^ (8 * k)) := by
  have hk : (k : Int).toNat = k := by omega
  have h1' : (1 : Int) ≤ k := by omega
  have h8' : (k : Int) ≤ 8 := by omega
  unfold fitU
  rw [hk, cutUv_eq k h1 h8, decide_eq_true h1', decide_eq_true h8', Bool.true_and, Bool.true_and]
  rcases width_cases h1 h8 with rfl | rfl | rfl | rfl | rfl | rfl | rfl | rfl <;> simp only [Nat.reduceMul, Int.reducePow, Bool.beq_eq_decide_eq] <;> congr 1 <;> apply propext <;> constructor <;> intro h <;> omega
theorem fitI_iff (k : Nat) (h1 : 1 ≤ k) (h8 : k ≤ 8) (x : Int) : fitI k x = decide (-(2 ^ (8 * k - 1)) ≤ x ∧ x < 2 ^ (8 * k - 1)) := by
  have hk : (k : Int).toNat = k := by omega
  have h1' : (1 : Int) ≤ k := by omega
  have h8' : (k : Int) ≤ 8 := by omega
  unfold fitI
  rw [hk, cutIv_eq k h1 h8, decide_eq_true h1', decide_eq_true h8', Bool.true_and, Bool.true_and]
  rcases width_cases h1 h8 with rfl | rfl | rfl | rfl | rfl | rfl | rfl | rfl <;> simp only [Nat.reduceMul, Nat.reduceSub, Int.reducePow, Bool.beq_eq_decide_eq] <;> congr 1 <;> apply propext <;> constructor <;> intro h <;> omega

/-- What a writer has written, as a new row. -/
theorem wrOut (wb : Nat) (sv : Value) (most : Nat) (bs : List Int) (w : World) (h : Wr w wb sv most bs) :
    Calls Try.prog 32 #[.pointer (some ⟨wb, 0, none⟩)] w fun e w' => ∃ v', e = .returned v' ∧ w'.ownsRow w.heap.size 5 1 v' bs.length (bs.map (Value.int .u8)) ∧ Below w.heap.size w w' := by
  have h0 := cell_blk h.blk 0
  have h2 := cell_blk h.blk 2
  have hb := Bytes.of_owns h.own h.byt
  have hl := h.fit
  have hm := h.lim
  obtain ⟨ao, cap, rfl, hc1, hc2⟩ := slice_of_owns h.own
  simp at h0 h2
  clear h
  go_enter Try.func32, Try.ntmps32
  go_wp2_with (first | (go_at_call 35; refine (clone _ bs _ hb (by omega)).mono ?_; rintro e w' ⟨v', rfl, hown, hbel⟩) | go_in)
  go_ret
  exact ⟨_, rfl, hown, hbel⟩

/-- Bytes behind bytes: behind the append and the store into the writer. -/
theorem Wr.more {w w1 : World} {wb : Nat} {sv v' : Value} {most : Nat} {bs zs : List Int} (h : Wr w wb sv most bs) (hz : Bytish zs) (hroom : bs.length + zs.length ≤ most)
    (hown : w1.ownsRow 0 5 1 v' (bs.length + zs.length) (bs.map (Value.int .u8) ++ zs.map (Value.int .u8))) (hgrow : w.grownBy w1 sv.ownBlock) (hnew : ∀ k, v'.ownBlock = some k → sv.ownBlock = some k ∨ w.heap.size ≤ k) :
    WrTo w wb sv most (bs ++ zs) (w1.setCell ⟨wb, 0, none⟩ v') := by
  have hlt := h.lt
  have hblk : w1.heap[wb]? = some (.cells #[sv, .int .i64 most, .bool true] 87 (0, 0)) := by
    rw [hgrow.block wb (by omega) (fun e => h.apart e.symm)]
    exact h.blk
  have hne : v'.ownBlock ≠ some wb := by
    intro e
    rcases hnew wb e with e2 | e2
    · exact h.apart e2
    · omega
  refine ⟨v', ⟨?_, ?_, hne, h.byt.append hz, by simpa using hroom, h.lim⟩, ?_, fun k hk => hnew k hk⟩
  · exact heap_setCell_at hblk
  · have := (Only.setCell (S := fun k => k = wb) (Only.refl _ w1) (p := ⟨wb, 0, none⟩) (fun _ => rfl) v').owns hown (fun k hk e => hne (by rw [hk, e]))
    simpa using this
  · exact ((Only.refl _ w).grown hgrow (fun k hk _ => .inr hk)).setCell (fun _ => .inl rfl) v'

def addB (zs : List Int) (err : Int) : List Int := if err = 0 then zs else []

end Go.Proofs.Ytcfnikngapngkaa
