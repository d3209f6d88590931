/- The document's own Sum: what it answers. No condition. -/
import Derived.Test.YtfbkmgjgklkjiaaSumP
import Derived.Test.YtfbkmgjgklkjiaaMem
import Derived.Laws.BitsAllLaws
import Derived.Deep.QuietTactic
import Derived.BigQuiet
import Derived.WalkKit
namespace Go.Proofs.Ytfbkmgjgklkjiaa
open Go.RowKit
set_option linter.unusedVariables false
set_option linter.unusedSimpArgs false

theorem sum_one (s x : Nat) (hs : s < 4294967296) (hx : x < 256) : bits .and .u32 (bits .xor .u32 (s : Int) (x : Int)) 1 = (((s + x % 2) % 2 : Nat) : Int) := by
  rw [u32_xor_nat s x hs (by omega)]
  have := u32_and_nat (s ^^^ x) 1 (Nat.xor_lt_two_pow (n := 32) hs (by omega)) (by decide)
  rw [show ((1 : Nat) : Int) = 1 from rfl] at this
  rw [this, Nat.and_one_is_mod]
  have h := @Nat.xor_mod_two_eq_one s x
  have e : (s ^^^ x) % 2 = (s + x % 2) % 2 := by
    by_cases h1 : (s ^^^ x) % 2 = 1
    · have := h.1 h1; omega
    · have := (not_congr h).1 h1; omega
  rw [e]
theorem sum_turn (s : Nat) (hs : s < 4294967296) : bits .xor .u32 ((s : Int) / 2) 3988292384 = (((s / 2) ^^^ poly : Nat) : Int) := by
  have := u32_xor_nat (s / 2) poly (by omega) (by decide)
  rw [Int.natCast_ediv] at this
  exact this
theorem sum_last (s : Nat) (hs : s < 4294967296) : bits .xor .u32 (s : Int) 4294967295 = ((s ^^^ 4294967295 : Nat) : Int) := u32_xor_nat s 4294967295 hs (by decide)

set_option maxHeartbeats 4000000 in
theorem refSum (v : Value) (zs : List Int) (w : World) (hb : Bytes w v zs) (hl : zs.length ≤ 140737488355328) :
    Calls Try.prog 10 #[v] w fun e w' => e = .returned (.int .u32 (crc zs)) ∧ w = w' := by
  obtain ⟨ao, cap, rfl, hq1, hq2, hq3, hbz, hcells⟩ := id hb
  have Hb := Lib.hid hb
  clear hb hcells hq3
  go_enter Try.func10, Try.ntmps10
  go_wp2
  go_loop [3, 4] (fun s i => ∃ j : Nat, j ≤ zs.length ∧ i = .int .i64 j ∧ s = .int .u32 (crcL 4294967295 (zs.take j))) (fun _ i => zs.length - (intOf i).toNat)
  case atStart => exact ⟨0, Nat.zero_le _, rfl, by simp [crcL]⟩
  case round =>
    obtain ⟨j, hj, rfl, rfl⟩ := hrel
    have hslt := crcL_lt (zs.take j) (s := 4294967295) (by decide)
    by_cases hlt : j < zs.length
    · obtain ⟨b, o, rfl⟩ := Bytes.addr Hb.out (by omega)
      have gc := cellOf Hb.out j hlt
      have hz := hbz.getD hlt
      have hnext : crcL 4294967295 (zs.take (j + 1)) = crcByte (crcL 4294967295 (zs.take j)) (zs.getD j 0).toNat := by
        rw [List.take_add_one, List.getElem?_eq_getElem hlt]
        show crcL _ (zs.take j ++ [zs[j]]) = _
        rw [crcL_snoc]
        simp [List.getD, hlt]
      have hjz : (j : Int) < (zs.length : Int) := by omega
      obtain ⟨s0, hs0⟩ : ∃ s0, crcL 4294967295 (zs.take j) = s0 := ⟨_, rfl⟩
      obtain ⟨x0, hx0⟩ : ∃ x0 : Nat, zs.getD j 0 = (x0 : Int) := ⟨(zs.getD j 0).toNat, by omega⟩
      rw [hs0] at hnext hslt ⊢
      rw [hx0] at gc hz hnext
      rw [Int.toNat_natCast] at hnext
      have Hn := Lib.hid hnext
      clear hnext hs0 hx0
      go_wp2
      go_loop [3, 5, 6] (fun s x k => ∃ (m sm xm : Nat), m ≤ 8 ∧ k = .int .i64 m ∧ s = .int .u32 sm ∧ x = .int .u8 xm ∧ sm < 4294967296 ∧ xm < 256 ∧ crcBits (8 - m) sm xm = crcByte s0 x0) (fun _ _ k => 8 - (intOf k).toNat)
      case atStart => exact ⟨0, s0, x0, by omega, rfl, rfl, rfl, hslt, by omega, rfl⟩
      case round =>
        obtain ⟨m, sm, xm, hm, rfl, rfl, rfl, hsm, hxm, hcr⟩ := hrel
        by_cases hm8 : m < 8
        · have hone := sum_one sm xm hsm hxm
          have hstep : crcBits (8 - (m + 1)) (crcBit sm (xm % 2)) (xm / 2) = crcByte s0 x0 := by
            rw [← hcr, show 8 - m = (8 - (m + 1)) + 1 by omega]
            rfl
          have hlt2 := crcBit_lt (s := sm) (xm % 2) hsm
          have hturn := sum_turn sm hsm
          have hmz : (m : Int) < 8 := by omega
          have Hs := Lib.hid hstep
          have Hl := Lib.hid hlt2
          clear hstep hlt2 hcr
          by_cases hb1 : (sm + xm % 2) % 2 = 1
          · rw [hb1] at hone
            have Hc := Lib.hid (show crcBit sm (xm % 2) = (sm / 2) ^^^ poly from by unfold crcBit; rw [if_pos hb1])
            go_wp2
            go_round
            case rel => exact ⟨m + 1, crcBit sm (xm % 2), xm / 2, by omega, by go_num, by rw [Hc.out], by rw [Int.natCast_ediv]; rfl, Hl.out, by omega, Hs.out⟩
            case measure => simp [intOf]; omega
          · have hb0 : (sm + xm % 2) % 2 = 0 := by omega
            rw [hb0] at hone
            have Hc := Lib.hid (show crcBit sm (xm % 2) = sm / 2 from by unfold crcBit; rw [if_neg hb1])
            go_wp2
            go_round
            case rel => exact ⟨m + 1, crcBit sm (xm % 2), xm / 2, by omega, by go_num, by rw [Hc.out, Int.natCast_ediv]; rfl, by rw [Int.natCast_ediv]; rfl, Hl.out, by omega, Hs.out⟩
            case measure => simp [intOf]; omega
        · have hm8' : m = 8 := by omega
          subst hm8'
          have hfin : sm = crcByte s0 x0 := hcr
          have Hf := Lib.hid hfin
          clear hcr hfin
          go_wp2
          go_round
          case rel => exact ⟨j + 1, by omega, by go_num, by rw [Hn.out, Hf.out]⟩
          case measure => simp [intOf]; omega
    · have hjn : j = zs.length := by omega
      subst hjn
      rw [List.take_length] at hslt ⊢
      have hlast := sum_last _ hslt
      go_wp2
      go_ret
      exact ⟨rfl, rfl⟩
end Go.Proofs.Ytfbkmgjgklkjiaa
