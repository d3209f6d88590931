/- The program's Sum: a closure that goes on with one sum. No condition. -/
import Derived.Test.YtfbkmgjgklkjiaaSumR
import Derived.WalkKit
import Derived.BigCall
namespace Go.Proofs.Ytfbkmgjgklkjiaa
open Go.RowKit
set_option linter.unusedVariables false
set_option linter.unusedSimpArgs false

/-- A bit out of the sum, the byte's bits being in it already. -/
theorem xor_half (a b : Nat) : (a ^^^ b) / 2 = (a / 2) ^^^ (b / 2) := by
  have := Nat.shiftRight_xor_distrib (a := a) (b := b) (i := 1)
  simpa [Nat.shiftRight_eq_div_pow] using this
theorem xor_odd (s x : Nat) : (s ^^^ x) % 2 = (s + x % 2) % 2 := by
  have h := @Nat.xor_mod_two_eq_one s x
  by_cases h1 : (s ^^^ x) % 2 = 1
  · have := h.1 h1; omega
  · have := (not_congr h).1 h1; omega
/-- One bit further. -/
def tabBit (r : Nat) : Nat := if r % 2 = 1 then (r / 2) ^^^ poly else r / 2
theorem tab_bit (s x : Nat) : tabBit (s ^^^ x) = crcBit s (x % 2) ^^^ (x / 2) := by
  unfold tabBit crcBit
  rw [xor_odd, xor_half]
  split
  · rw [Nat.xor_assoc, Nat.xor_assoc, Nat.xor_comm (x / 2) poly]
  · rfl
theorem and_one_nat (r : Nat) (h : r < 4294967296) : bits .and .u32 (r : Int) 1 = ((r % 2 : Nat) : Int) := by
  have := u32_and_nat r 1 h (by decide)
  rw [show ((1 : Nat) : Int) = 1 from rfl] at this
  rw [this, Nat.and_one_is_mod]
theorem feed_turn (r : Nat) (h : r < 4294967296) : bits .xor .u32 ((r : Int) / 2) 3988292384 = (((r / 2) ^^^ poly : Nat) : Int) := sum_turn r h
theorem feed_none (r : Nat) (h : r < 4294967296) : bits .xor .u32 ((r : Int) / 2) 0 = ((r / 2 : Nat) : Int) := by
  have := u32_xor_nat (r / 2) 0 (by omega) (by decide)
  rw [Int.natCast_ediv] at this
  simpa using this

/-- A cell that holds a sum that is not yet at its end. -/
def Rest (w : World) (cb s : Nat) : Prop := w.heap[cb]? = some (.cells #[.int .u32 (s : Int)] 23 (0, 0))
theorem Rest.only {S : Nat → Prop} {w w' : World} {cb s : Nat} (h : Rest w cb s) (ho : Only S w w') (hs : ¬ S cb) : Rest w' cb s := ho.heap h hs
theorem Rest.set {w : World} {cb s : Nat} (h : Rest w cb s) (t : Nat) : Rest (w.setCell ⟨cb, 0, none⟩ (.int .u32 (t : Int))) cb t := by
  unfold Rest
  rw [heap_setCell_at h]
  simp
theorem only_cellAt {w w' : World} {cb : Nat} (h : Only (fun k => k = cb) w w') (u : Value) : Only (fun k => k = cb) w (w'.setCell ⟨cb, 0, none⟩ u) := h.setCell (fun _ => rfl) u

theorem summing (w : World) :
    Calls Try.prog 16 #[] w fun e w' => e = .returned (.func (.func 25) #[] #[.pointer (some ⟨w.heap.size, 0, none⟩)]) ∧ Rest w' w.heap.size 4294967295 ∧ Only (fun _ => False) w w' ∧ w.heap.size < w'.heap.size := by
  have hmf : ∀ (fn : Fn) (first cap : Array Value) (w : World), (Instr.makeFunc fn first cap).run Try.prog w = .ok (.func fn first cap) w := fun _ _ _ _ => rfl
  go_enter Try.func16, Try.ntmps16
  go_wp2
  go_ret
  exact ⟨rfl, heap_alloc_new w _, (Only.refl _ _).alloc _, by simp⟩

set_option maxHeartbeats 4000000 in
theorem summing1 (v : Value) (zs : List Int) (cb s : Nat) (w : World) (hb : Bytes w v zs) (hl : zs.length ≤ 140737488355328) (hr : Rest w cb s) (hs : s < 4294967296) (hv : ∀ k, v.ownBlock = some k → zs ≠ [] → k ≠ cb) :
    Calls Try.prog 25 #[v, .pointer (some ⟨cb, 0, none⟩)] w fun e w' => e = .returned (.int .u32 ((crcL s zs ^^^ 4294967295 : Nat) : Int)) ∧ Rest w' cb (crcL s zs) ∧ Only (fun k => k = cb) w w' := by
  obtain ⟨ao, cap, rfl, hq1, hq2, hq3, hbz, hcells⟩ := id hb
  have Hb := Lib.hid hb
  have Hv := Lib.hid hv
  clear hb hcells hq3 hv
  go_enter Try.func25, Try.ntmps25
  go_wp2
  go_loopw [8] (fun i wr => ∃ j : Nat, j ≤ zs.length ∧ i = .int .i64 j ∧ Rest wr cb (crcL s (zs.take j)) ∧ Only (fun k => k = cb) w wr) (fun i _ => zs.length - (intOf i).toNat)
  case atStart => exact ⟨0, Nat.zero_le _, rfl, hr, Only.refl _ _⟩
  case round =>
    obtain ⟨j, hj, rfl, hrj, hoj⟩ := hrel
    have hslt := crcL_lt (zs.take j) (s := s) hs
    by_cases hlt : j < zs.length
    · obtain ⟨b, o, rfl⟩ := Bytes.addr Hb.out (by omega)
      have gc := (cellOf Hb.out j hlt)
      have gc := hoj.cell gc (by exact Hv.out b rfl (by intro e; rw [e] at hlt; simp at hlt))
      have hz := hbz.getD hlt
      have hnext : crcL s (zs.take (j + 1)) = crcByte (crcL s (zs.take j)) (zs.getD j 0).toNat := by
        rw [List.take_add_one, List.getElem?_eq_getElem hlt]
        show crcL _ (zs.take j ++ [zs[j]]) = _
        rw [crcL_snoc]
        simp [List.getD, hlt]
      have hjz : (j : Int) < (zs.length : Int) := by omega
      obtain ⟨s0, hs0⟩ : ∃ s0, crcL s (zs.take j) = s0 := ⟨_, rfl⟩
      obtain ⟨x0, hx0⟩ : ∃ x0 : Nat, zs.getD j 0 = (x0 : Int) := ⟨(zs.getD j 0).toNat, by omega⟩
      rw [hs0] at hnext hslt hrj
      rw [hx0] at gc hz hnext
      rw [Int.toNat_natCast] at hnext
      have Hn := Lib.hid hnext
      clear hnext hs0 hx0
      have hc := cell_blk hrj 0
      have hf := frozen_blk hrj 0
      simp at hc
      have hx := u32_xor_nat s0 x0 hslt (by omega)
      have hxl : s0 ^^^ x0 < 4294967296 := Nat.xor_lt_two_pow (n := 32) hslt (by omega)
      have Hr := Lib.hid (hrj.set (s0 ^^^ x0))
      have Ho := Lib.hid (only_cellAt hoj (.int .u32 ((s0 ^^^ x0 : Nat) : Int)))
      clear hrj hoj hr
      go_wp2
      clear gc hc hf hx
      go_loopw [16] (fun k wi => ∃ (m sm xm : Nat), m ≤ 8 ∧ k = .int .i64 m ∧ Rest wi cb (sm ^^^ xm) ∧ sm < 4294967296 ∧ xm < 2 ^ (8 - m) ∧ crcBits (8 - m) sm xm = crcByte s0 x0 ∧ Only (fun k => k = cb) w wi) (fun k _ => 8 - (intOf k).toNat)
      case atStart => exact ⟨0, s0, x0, by omega, rfl, Hr.out, hslt, by omega, rfl, Ho.out⟩
      case round =>
        obtain ⟨m, sm, xm, hm, rfl, hrm, hsm, hxm, hcr, hom⟩ := hrel
        clear Hr Ho
        by_cases hm8 : m < 8
        · have hstep : crcBits (8 - (m + 1)) (crcBit sm (xm % 2)) (xm / 2) = crcByte s0 x0 := by
            rw [← hcr, show 8 - m = (8 - (m + 1)) + 1 by omega]
            rfl
          have hlt2 := crcBit_lt (s := sm) (xm % 2) hsm
          have hxm2 : xm / 2 < 2 ^ (8 - (m + 1)) := by
            have : 2 ^ (8 - m) = 2 * 2 ^ (8 - (m + 1)) := by rw [show 8 - m = (8 - (m + 1)) + 1 by omega, Nat.pow_succ]; omega
            omega
          have hx256 : xm < 4294967296 := Nat.lt_of_lt_of_le hxm (Nat.le_trans (Nat.pow_le_pow_right (by decide) (Nat.sub_le 8 m)) (by decide))
          have htb := tab_bit sm xm
          obtain ⟨r, hr⟩ : ∃ r, sm ^^^ xm = r := ⟨_, rfl⟩
          have hrl : r < 4294967296 := by rw [← hr]; exact Nat.xor_lt_two_pow (n := 32) hsm hx256
          rw [hr] at hrm htb
          have hc := cell_blk hrm 0
          have hf := frozen_blk hrm 0
          simp at hc
          have hand := and_one_nat r hrl
          have hmz : (m : Int) < 8 := by omega
          have Hs := Lib.hid hstep
          have Hl := Lib.hid hlt2
          have Hx := Lib.hid hxm2
          have Htb := Lib.hid htb
          have Ho := Lib.hid hom
          have Hr := Lib.hid hrm
          clear hstep hlt2 hcr hr hxm2 htb hom hrm
          by_cases hb1 : r % 2 = 1
          · rw [hb1] at hand
            have hft := feed_turn r hrl
            have Hc := Lib.hid (show tabBit r = (r / 2) ^^^ poly from by unfold tabBit; rw [if_pos hb1])
            go_wp2
            go_roundw
            case rel => exact ⟨m + 1, crcBit sm (xm % 2), xm / 2, by omega, by go_num, by rw [← Htb.out, Hc.out]; exact (Hr.out).set _, Hl.out, Hx.out, Hs.out, only_cellAt Ho.out _⟩
            case measure => simp [intOf]; omega
          · have hb0 : r % 2 = 0 := by omega
            rw [hb0] at hand
            have hft := feed_none r hrl
            have Hc := Lib.hid (show tabBit r = r / 2 from by unfold tabBit; rw [if_neg hb1])
            go_wp2
            go_roundw
            case rel => exact ⟨m + 1, crcBit sm (xm % 2), xm / 2, by omega, by go_num, by rw [← Htb.out, Hc.out]; exact (Hr.out).set _, Hl.out, Hx.out, Hs.out, only_cellAt Ho.out _⟩
            case measure => simp [intOf]; omega
        · have hm8' : m = 8 := by omega
          subst hm8'
          have hx0 : xm = 0 := by simp at hxm; exact hxm
          subst hx0
          have hfin : sm = crcByte s0 x0 := hcr
          rw [Nat.xor_zero] at hrm
          have Hf := Lib.hid hfin
          clear hcr hfin
          go_wp2
          go_roundw
          case rel => exact ⟨j + 1, by omega, by go_num, by rw [Hn.out, ← Hf.out]; exact hrm, hom⟩
          case measure => simp [intOf]; omega
    · have hjn : j = zs.length := by omega
      subst hjn
      rw [List.take_length] at hslt hrj
      have hlast := sum_last _ hslt
      have hc := cell_blk hrj 0
      simp at hc
      go_wp2
      go_ret
      exact ⟨rfl, hrj, hoj⟩

theorem crc_of (zs : List Int) : crc zs = crcL 4294967295 zs ^^^ 4294967295 := rfl

set_option maxHeartbeats 1000000 in
theorem sumOf (v : Value) (zs : List Int) (w : World) (hb : Bytes w v zs) (hl : zs.length ≤ 140737488355328) :
    Calls Try.prog 9 #[v] w fun e w' => e = .returned (.int .u32 (crc zs)) ∧ Only (fun _ => False) w w' := by
  have Hb := Lib.hid hb
  have Hlt := Lib.hid hb.lt
  obtain ⟨ao, cap, rfl, hq1, hq2, hq3, hbz, hcells⟩ := id hb
  clear hb hcells hq3
  go_enter Try.func9, Try.ntmps9
  go_wp2_with (first | (go_at_call 16; refine (summing _).mono ?_; rintro e w1 ⟨rfl, hr, ho, hs⟩) | (go_at_call 25; refine (summing1 _ zs w.heap.size 4294967295 w1 ((Hb.out).only ho (fun _ _ _ h => h)) hl hr (by decide) (fun k hk hn => by have := Hlt.out k hk hn; omega)).mono ?_; rintro e w2 ⟨rfl, hr2, ho2⟩))
  go_ret
  exact ⟨rfl, ho.trans ho2 (fun k hk hl => by omega)⟩
end Go.Proofs.Ytfbkmgjgklkjiaa
