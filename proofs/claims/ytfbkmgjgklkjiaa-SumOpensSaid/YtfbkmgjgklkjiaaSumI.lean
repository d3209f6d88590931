/- The program's Wrap and Open: what they answer. The bound is the form's own reach. -/
import Derived.Test.YtfbkmgjgklkjiaaSumH
import Derived.Test.YtfbkmgjgklkjiaaSumG
namespace Go.Proofs.Ytfbkmgjgklkjiaa
open Go.RowKit
set_option linter.unusedVariables false
set_option linter.unusedSimpArgs false

theorem clone_row {w w' : World} {v : Value} {zs : List Int} (h : w'.ownsRow w.heap.size 5 1 v zs.length (zs.map (Value.int .u8))) : Row w' w.heap.size v zs := h

set_option maxHeartbeats 2000000 in
theorem wrapLong (v : Value) (zs : List Int) (w : World) (hb : Bytes w v zs) (hl : zs.length ≤ 140737488355328) (hlong : 1048576 < zs.length) :
    Calls Try.prog 12 #[v] w fun e w' => e = .returned (.tuple #[.slice none 0 0, .int .i64 2]) ∧ Only (fun _ => False) w w' := by
  obtain ⟨ao, cap, rfl, hq1, hq2, hq3, hbz, hcells⟩ := id hb
  have hlz : (1048576 : Int) < (zs.length : Int) := by omega
  clear hb hcells hq3
  go_enter Try.func12, Try.ntmps12
  go_wp2_with (first | (go_at_call 17; refine (sizeOfLong _ _ hlz).mono ?_; rintro e w' ⟨rfl, rfl⟩) | (go_at_call 18; refine (whichFault _ 2 (by decide) _).mono ?_; rintro e w1 ⟨rfl, ho⟩))
  go_ret2
  exact ⟨rfl, ho⟩

set_option maxHeartbeats 2000000 in
theorem wrapOk (v : Value) (zs : List Int) (w : World) (hb : Bytes w v zs) (hl : zs.length ≤ 1048576) :
    Calls Try.prog 12 #[v] w fun e w' => ∃ v', e = .returned (.tuple #[v', .int .i64 0]) ∧ Only (fun _ => False) w w' ∧ Row w' w.heap.size v' (frame zs) := by
  obtain ⟨ao, cap, rfl, hq1, hq2, hq3, hbz, hcells⟩ := id hb
  have hlz : (zs.length : Int) ≤ 1048576 := by omega
  have Hb := Lib.hid hb
  clear hb hcells hq3
  go_enter Try.func12, Try.ntmps12
  go_wp2_with (first | (go_at_call 17; refine (sizeOf _ _ (by omega) hlz).mono ?_; rintro e w' ⟨rfl, rfl⟩) | (go_at_call 19; refine (field _ _ (by omega) (by omega)).mono ?_; rintro e w1 ⟨v1, rfl, hr1, ho1⟩; obtain ⟨ao1, cap1, rfl, _, _⟩ := slice_of_owns hr1))
  have hb1 := hr1.bytes (be4_byte _)
  refine (sealOf _ _ (be4 zs.length) zs _ hb1 ((Hb.out).only ho1 (fun _ _ _ h => h)) (by rw [be4_len]; decide) (by omega)).mono ?_
  rintro e w2 ⟨v2, rfl, hr2, ho2⟩
  have hon2 := ho1.trans ho2 (fun _ h => h.elim)
  have hb1' := hb1.only ho2 (fun _ _ _ h => h)
  have hb2' := hr2.bytes (le4_byte _)
  have hb0' := (Hb.out).only hon2 (fun _ _ _ h => h)
  obtain ⟨ao2, cap2, rfl, _, _⟩ := slice_of_owns hr2
  have Hb1 := Lib.hid hb1'
  have Hb2 := Lib.hid hb2'
  have Hb0 := Lib.hid hb0'
  clear hb1 hb1' hb2' hb0' hr1 hr2
  go_wp2_with (fail)
  have hsB : ∀ o, Only (fun _ => False) w2 (w2.alloc o) := fun o => (Only.refl _ _).alloc o
  refine (concat3 w2.heap.size _ _ _ (be4 zs.length) zs (le4 (crc (be4 zs.length ++ zs))) _ (heap_alloc_new w2 _) ((Hb1.out).only (hsB _) (fun _ _ _ h => h)) ((Hb0.out).only (hsB _) (fun _ _ _ h => h)) ((Hb2.out).only (hsB _) (fun _ _ _ h => h)) (by rw [be4_len, le4_len]; omega) (by rw [be4_len]; decide)).mono ?_
  rintro e w3 ⟨v3, rfl, hr3, ho3⟩
  have hon3 := hon2.trans ((hsB _).trans ho3 (fun _ h => h.elim)) (fun _ h => h.elim)
  have hs2 := hon2.size
  go_wp2
  go_ret2
  refine ⟨v3, rfl, hon3, owns_base hr3 (fun k hk => ?_)⟩
  have := (hr3.ge k hk).1
  simp at this
  omega

theorem le4_leV {zs : List Int} (hz : Bytish zs) (h : 4 ≤ zs.length) : le4 (leV zs) = zs.take 4 := by
  match zs, h with
  | a :: b :: c :: d :: r, _ =>
    have ha := hz a (by simp)
    have hb := hz b (by simp)
    have hc := hz c (by simp)
    have hd := hz d (by simp)
    unfold IsByte at *
    simp only [le4, leV, List.getD_cons_zero, List.getD_cons_succ, List.take_succ_cons, List.take_zero, List.cons.injEq, and_true]
    omega

theorem leV_take {zs : List Int} (h : 4 ≤ zs.length) : leV (zs.take 4) = leV zs := by
  match zs, h with
  | a :: b :: c :: d :: r, _ => rfl
theorem le4_iff {zs : List Int} {c : Nat} (h : 4 ≤ zs.length) (hc : c < 4294967296) (e : zs.take 4 = le4 (c : Int)) : leV zs = (c : Int) := by
  rw [← leV_take h, e, ← List.append_nil (le4 (c : Int)), leV_le4 (by omega) (by omega)]
/-- What Open leaves. -/
def OpenTo (w : World) (zs : List Int) (e : Ending) (w' : World) : Prop := ∃ v', e = .returned (.tuple #[v', .int .i64 (openZ zs).2.1, .int .i64 (openZ zs).2.2]) ∧ Only (fun _ => False) w w' ∧ Row w' w.heap.size v' (openZ zs).1

set_option maxHeartbeats 4000000 in
theorem openOf (v : Value) (zs : List Int) (w : World) (hb : Bytes w v zs) (hl : zs.length ≤ 281474976710656) :
    Calls Try.prog 14 #[v] w (OpenTo w zs) := by
  have Hb := Lib.hid hb
  obtain ⟨ao, cap, rfl, hq1, hq2, hq3, hbz, hcells⟩ := id hb
  clear hb hcells hq3
  by_cases h4 : zs.length < 4
  · have ho : openZ zs = ([], 0, 3) := by unfold openZ; rw [if_pos h4]
    have Ho := Lib.hid ho
    clear ho
    go_enter Try.func14, Try.ntmps14
    go_wp2_with (first | (go_at_call 22; refine (firstShort _ zs _ Hb.out h4).mono ?_; rintro e w1 ⟨rfl, ho1⟩) | (go_at_call 18; refine (whichFault _ 3 (by decide) _).mono ?_; rintro e w2 ⟨rfl, ho2⟩))
    go_ret3
    refine ⟨_, by rw [Ho.out]; rfl, ho1.trans ho2 (fun _ h => h.elim), by rw [Ho.out]; exact World.ownsRow_nil _ _ _ _⟩
  by_cases hbig : 1048576 < beV zs
  · have ho : openZ zs = ([], 0, 2) := by unfold openZ; rw [if_neg h4, if_pos hbig]
    have Ho := Lib.hid ho
    clear ho
    go_enter Try.func14, Try.ntmps14
    go_wp2_with (first | (go_at_call 22; refine (firstLong _ zs _ Hb.out hl (by omega) hbig).mono ?_; rintro e w1 ⟨rfl, ho1⟩) | (go_at_call 18; refine (whichFault _ 2 (by decide) _).mono ?_; rintro e w2 ⟨rfl, ho2⟩))
    go_ret3
    refine ⟨_, by rw [Ho.out]; rfl, ho1.trans ho2 (fun _ h => h.elim), by rw [Ho.out]; exact World.ownsRow_nil _ _ _ _⟩
  by_cases hcut : (zs.length : Int) < beV zs + 8
  · have ho : openZ zs = ([], 0, 3) := by unfold openZ; rw [if_neg h4, if_neg hbig, if_pos hcut]
    have Ho := Lib.hid ho
    clear ho
    go_enter Try.func14, Try.ntmps14
    go_wp2_with (first | (go_at_call 22; refine (firstCut _ zs _ Hb.out hl (by omega) (by omega) hcut).mono ?_; rintro e w1 ⟨rfl, ho1⟩) | (go_at_call 18; refine (whichFault _ 3 (by decide) _).mono ?_; rintro e w2 ⟨rfl, ho2⟩))
    go_ret3
    refine ⟨_, by rw [Ho.out]; rfl, ho1.trans ho2 (fun _ h => h.elim), by rw [Ho.out]; exact World.ownsRow_nil _ _ _ _⟩
  obtain ⟨b, o, rfl⟩ := Bytes.addr Hb.out (by omega)
  have hnn := beV_nonneg hbz (by omega)
  obtain ⟨n, hn⟩ : ∃ n : Nat, beV zs = (n : Int) := ⟨(beV zs).toNat, by omega⟩
  have hok := firstOk _ zs w Hb.out hl (by omega) (by omega) (by omega)
  rw [hn] at hok hbig hcut
  have hlen8 : (zs.take (n + 8)).length = n + 8 := by simp; omega
  have hb8 : Bytes w (.slice (some ⟨b, o, none⟩) (zs.take (n + 8)).length cap) (zs.take (n + 8)) := by
    rw [hlen8]
    exact Bytes.first Hb.out (n + 8) (by omega)
  have htk : (zs.take (n + 8)).take (n + 4) = zs.take (n + 4) := by rw [List.take_take, Nat.min_eq_left (by omega)]
  have hdr : (zs.take (n + 8)).drop (n + 4) = (zs.drop (n + 4)).take 4 := by rw [List.drop_take, show n + 8 - (n + 4) = 4 by omega]
  have hmid : ((zs.take (n + 8)).drop 4).take n = (zs.drop 4).take n := by rw [List.drop_take, List.take_take, Nat.min_eq_left (by omega)]
  have hle := le4_leV (hbz.drop (n + 4)) (by simp; omega)
  have hcl := crc_lt (zs.take (n + 4))
  have h8z : (n : Int) + 8 ≤ (zs.length : Int) := by omega
  have hcapz : (n : Int) + 8 ≤ (cap : Int) := by omega
  have p8 : (0 : Int) ≤ (n : Int) + 8 := by omega
  have t8 : ((n : Int) + 8).toNat = n + 8 := by omega
  have hoz : openZ zs = if leV (zs.drop (n + 4)) ≠ crc (zs.take (n + 4)) then ([], (n : Int) + 8, 30) else ((zs.drop 4).take n, (n : Int) + 8, 0) := by
    unfold openZ
    rw [if_neg h4, if_neg (by omega), if_neg (by omega), hn, Int.toNat_natCast]
  have hsrc : Bytes w (.slice (some ⟨b, o + 4, none⟩) n (cap - 4)) ((zs.drop 4).take n) := by
    have h1 := Bytes.behind Hb.out 4 (by omega)
    rw [← List.length_drop] at h1
    exact Bytes.first h1 n (by simp; omega)
  have hnl : ((zs.drop 4).take n).length = n := by simp; omega
  have Hb8 := Lib.hid hb8
  have Hl8 := Lib.hid hlen8
  have Hsrc := Lib.hid hsrc
  have Hnl := Lib.hid hnl
  have hn6 : n ≤ 1048576 := by omega
  by_cases hs : leV (zs.drop (n + 4)) = crc (zs.take (n + 4))
  · have ho : openZ zs = ((zs.drop 4).take n, (n : Int) + 8, 0) := by rw [hoz, if_neg (by simpa using hs)]
    have Ho := Lib.hid ho
    have Hhe := Lib.hid (show (zs.take (n + 8)).drop (n + 4) = le4 (crc ((zs.take (n + 8)).take (n + 4))) by rw [hdr, htk, ← hle, hs])
    clear ho hoz hs hcl hle hmid hdr htk hb8 hlen8 hsrc hnl hn hnn
    go_enter Try.func14, Try.ntmps14
    go_wp2_with (first | (go_at_call 22; go_loud (refine hok.mono ?_); rintro e w1 ⟨rfl, ho1⟩) | (go_at_call 23; go_loud (refine (contentRight b o n cap (zs.take (n + 8)) w1 ((Hb8.out).only ho1 (fun _ _ _ h => h)) Hl8.out hn6 Hhe.out).mono ?_); rintro e w2 ⟨rfl, ho2⟩; have hon2 := ho1.trans ho2 (fun _ h => h.elim)) | (go_at_call 24; go_loud (refine (clone _ _ _ ((Hsrc.out).only hon2 (fun _ _ _ h => h)) (by rw [Hnl.out]; omega)).mono ?_); rintro e w3 ⟨v3, rfl, hown, hbel⟩) | (go_at_call 18; go_loud (refine (whichNil _).mono ?_); rintro e w4 ⟨rfl, ho4⟩))
    go_ret3
    have hon3 := hon2.trans (Only.of_below hbel (fun _ => False)) (fun _ h => h.elim)
    have hs2 := hon2.size
    refine ⟨v3, by rw [Ho.out]; rfl, hon3.trans ho4 (fun _ h => h.elim), ?_⟩
    rw [Ho.out]
    have hr4 : Row w4 w2.heap.size v3 ((zs.drop 4).take n) := (clone_row hown).only ho4 (fun _ _ h => h)
    exact owns_base hr4 (fun k hk => Nat.le_trans hs2 (Row.ge hr4 k hk).1)
  · have ho : openZ zs = ([], (n : Int) + 8, 30) := by rw [hoz, if_pos (by simpa using hs)]
    have Ho := Lib.hid ho
    have Hhe := Lib.hid (show (zs.take (n + 8)).drop (n + 4) ≠ le4 (crc ((zs.take (n + 8)).take (n + 4))) by
      rw [hdr, htk]
      exact fun e => hs (le4_iff (by simp; omega) hcl e))
    clear ho hoz hs hcl hle hmid hdr htk hb8 hlen8 hsrc hnl hn hnn
    go_enter Try.func14, Try.ntmps14
    go_wp2_with (first | (go_at_call 22; go_loud (refine hok.mono ?_); rintro e w1 ⟨rfl, ho1⟩) | (go_at_call 23; go_loud (refine (contentWrong b o n cap (zs.take (n + 8)) w1 ((Hb8.out).only ho1 (fun _ _ _ h => h)) Hl8.out hn6 Hhe.out).mono ?_); rintro e w2 ⟨rfl, ho2⟩; have hon2 := ho1.trans ho2 (fun _ h => h.elim)) | (go_at_call 24; go_loud (refine (clone _ [] _ ⟨none, 0, rfl, Nat.le_refl _, Nat.zero_le _, fun _ => rfl, Bytish.nil, fun x hx => by cases hx⟩ (by simp)).mono ?_); rintro e w3 ⟨v3, rfl, hown, hbel⟩) | (go_at_call 18; go_loud (refine (whichFault _ 30 (by decide) _).mono ?_); rintro e w4 ⟨rfl, ho4⟩))
    go_ret3
    have hon3 := hon2.trans (Only.of_below hbel (fun _ => False)) (fun _ h => h.elim)
    have hs2 := hon2.size
    refine ⟨v3, by rw [Ho.out]; rfl, hon3.trans ho4 (fun _ h => h.elim), ?_⟩
    rw [Ho.out]
    have hr4 : Row w4 w2.heap.size v3 [] := (clone_row hown).only ho4 (fun _ _ h => h)
    exact owns_base hr4 (fun k hk => Nat.le_trans hs2 (Row.ge hr4 k hk).1)
end Go.Proofs.Ytfbkmgjgklkjiaa
