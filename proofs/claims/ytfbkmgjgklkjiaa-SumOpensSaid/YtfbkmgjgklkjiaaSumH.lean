/- bytes.Equal; the size of the frame that stands first; what stands in a frame. The bound is the form's own reach. -/
import Derived.Test.YtfbkmgjgklkjiaaSumE
import Derived.Test.YtfbkmgjgklkjiaaSumF
import Derived.Test.YtfbkmgjgklkjiaaSumL
import Derived.Test.YtfbkmgjgklkjiaaWireF
import Derived.Lib.Bytes
import Derived.Deep.RegionWith
import Derived.Deep.QuietTactic
import Derived.BigQuiet
namespace Go.Proofs.Ytfbkmgjgklkjiaa
open Go.RowKit
set_option linter.unusedVariables false
set_option linter.unusedSimpArgs false

theorem strOfNums_inj {xs ys : List Int} (hx : Bytish xs) (hy : Bytish ys) (h : (strOfNums xs).toList = (strOfNums ys).toList) : xs = ys := by
  have e := congrArg (fun s => s.map (fun u => (u.toNat : Int))) h
  simp only [Lib.strOfNums_toList, Lib.bytesOf, List.map_map] at e
  have g : ∀ zs : List Int, Bytish zs → zs.map ((fun u : UInt8 => (u.toNat : Int)) ∘ fun n : Int => UInt8.ofNat n.toNat) = zs := fun zs hz => by
    conv => rhs; rw [← List.map_id zs]
    apply List.map_congr_left
    intro z hzm
    have := hz z hzm
    unfold IsByte at this
    simp only [Function.comp, id, UInt8.toNat_ofNat']
    omega
  rwa [g xs hx, g ys hy] at e
theorem equalT (va vb : Value) (xs : List Int) (w : World) (ha : Bytes w va xs) (hb : Bytes w vb xs) :
    Calls Try.prog 34 #[va, vb] w fun e w' => e = .returned (.bool true) ∧ w = w' := by
  have ca := conv8 ha
  have cb := conv8 hb
  clear ha hb
  go_enter Try.func34, Try.ntmps34
  go_wp2
  go_ret
  exact ⟨rfl, rfl⟩
theorem equalF (va vb : Value) (xs ys : List Int) (w : World) (ha : Bytes w va xs) (hb : Bytes w vb ys) (hx : Bytish xs) (hy : Bytish ys) (hne : xs ≠ ys) :
    Calls Try.prog 34 #[va, vb] w fun e w' => e = .returned (.bool false) ∧ w = w' := by
  have hs : ((strOfNums xs).toList == (strOfNums ys).toList) = false := beq_eq_false_iff_ne.2 (fun h => hne (strOfNums_inj hx hy h))
  have ca := conv8 ha
  have cb := conv8 hb
  clear ha hb hx hy hne
  go_enter Try.func34, Try.ntmps34
  go_wp2
  go_ret
  exact ⟨rfl, rfl⟩

/-- The names of the three parts of a frame. -/
def pNumber : ByteArray := { data := #[110, 117, 109, 98, 101, 114] }
def pBytes : ByteArray := { data := #[98, 121, 116, 101, 115] }
def pSum : ByteArray := { data := #[115, 117, 109] }
def fv (p : ByteArray) (k : Int) : Value := .iface 57 (.agg #[.string p, .int .i64 k])

theorem valB4 {zs : List Int} (h : 4 ≤ zs.length) : valB (zs.take 4) = beV zs := by
  match zs, h with
  | a :: b :: c :: d :: r, _ =>
    simp [valB, beV, List.getD]
    omega

set_option maxHeartbeats 2000000 in
theorem firstShort (v : Value) (zs : List Int) (w : World) (hb : Bytes w v zs) (h4 : zs.length < 4) :
    Calls Try.prog 22 #[v] w fun e w' => e = .returned (.tuple #[.int .i64 0, .iface 57 (.agg #[.string { data := #[110, 117, 109, 98, 101, 114] }, .int .i64 3])]) ∧ Only (fun _ => False) w w' := by
  obtain ⟨ao, cap, rfl, hq1, hq2, hq3, hbz, hcells⟩ := id hb
  have herr : rdErr0 4 ((zs.length : Int) - ((0 : Nat) : Int)) = 3 := by unfold rdErr0; rw [if_neg (by omega), if_pos (by omega)]
  have hu : rdU zs 0 4 3 = 0 := rfl
  have hlz : (zs.length : Int) < 4 := by omega
  have Hb := Lib.hid hb
  have Herr := Lib.hid herr
  have Hu := Lib.hid hu
  clear hb hcells hq3 herr hu
  unfold maxLen at hq2
  go_enter Try.func22, Try.ntmps22
  go_wp2_with (first | (go_at_call 32; refine (newReader _ zs _ Hb.out (by omega)).mono ?_; rintro e w1 ⟨rb, sv, rfl, hrd, hbel, hge, hgs⟩) | (go_at_call 33; refine (rdUint rb sv zs 0 4 _ hrd (by omega) (by omega)).mono ?_; rintro e w2 ⟨rfl, hto⟩; rw [Herr.out, Hu.out]))
  go_ret2
  exact ⟨rfl, (Only.of_below hbel (fun _ => False)).trans hto.2 (fun k hk hl => by omega)⟩

/-- Four bytes there: the number is read. -/
theorem beV_nonneg {zs : List Int} (hz : Bytish zs) (h : 4 ≤ zs.length) : 0 ≤ beV zs ∧ beV zs < 4294967296 := by
  have s0 := hz.getD (j := 0) (by omega)
  have s1 := hz.getD (j := 1) (by omega)
  have s2 := hz.getD (j := 2) (by omega)
  have s3 := hz.getD (j := 3) (by omega)
  unfold beV
  omega

set_option maxHeartbeats 2000000 in
theorem firstLong (v : Value) (zs : List Int) (w : World) (hb : Bytes w v zs) (hl : zs.length ≤ 281474976710656) (h4 : 4 ≤ zs.length) (hn : 1048576 < beV zs) :
    Calls Try.prog 22 #[v] w fun e w' => e = .returned (.tuple #[.int .i64 0, .iface 57 (.agg #[.string { data := #[110, 117, 109, 98, 101, 114] }, .int .i64 2])]) ∧ Only (fun _ => False) w w' := by
  obtain ⟨ao, cap, rfl, hq1, hq2, hq3, hbz, hcells⟩ := id hb
  have hl4 : (zs.take 4).length = 4 := by simp; omega
  have hbf := Bytes.first hb 4 h4
  have herr : rdErr0 4 (((zs.take 4).length : Int) - ((0 : Nat) : Int)) = 0 := by rw [hl4]; rfl
  have hu : rdU (zs.take 4) 0 4 0 = beV zs := by
    unfold rdU
    rw [if_pos rfl, ← valB4 h4]
    simp [List.take_take]
  have hlz : (4 : Int) ≤ (zs.length : Int) := by omega
  have Hb := Lib.hid hbf
  have Herr := Lib.hid herr
  have Hu := Lib.hid hu
  have Hl4 := Lib.hid hl4
  clear hb hbf hcells hq3 herr hu hl4
  unfold maxLen at hq2
  go_enter Try.func22, Try.ntmps22
  go_wp2_with (first | (go_at_call 32; refine (newReader _ (zs.take 4) _ Hb.out (by rw [Hl4.out]; omega)).mono ?_; rintro e w1 ⟨rb, sv, rfl, hrd, hbel, hge, hgs⟩) | (go_at_call 33; refine (rdUint rb sv (zs.take 4) 0 4 _ hrd (by omega) (by omega)).mono ?_; rintro e w2 ⟨rfl, hto⟩; rw [Herr.out, Hu.out]) | (go_at_call 17; refine (sizeOfLong (beV zs) _ hn).mono ?_; rintro e w' ⟨rfl, rfl⟩))
  go_ret2
  exact ⟨rfl, (Only.of_below hbel (fun _ => False)).trans hto.2 (fun k hk hl => by omega)⟩

set_option maxHeartbeats 2000000 in
theorem firstCut (v : Value) (zs : List Int) (w : World) (hb : Bytes w v zs) (hl : zs.length ≤ 281474976710656) (h4 : 4 ≤ zs.length) (hn : beV zs ≤ 1048576) (hc : (zs.length : Int) < beV zs + 8) :
    Calls Try.prog 22 #[v] w fun e w' => e = .returned (.tuple #[.int .i64 0, .iface 57 (.agg #[.string { data := #[98, 121, 116, 101, 115] }, .int .i64 3])]) ∧ Only (fun _ => False) w w' := by
  obtain ⟨ao, cap, rfl, hq1, hq2, hq3, hbz, hcells⟩ := id hb
  have hl4 : (zs.take 4).length = 4 := by simp; omega
  have hbf := Bytes.first hb 4 h4
  have herr : rdErr0 4 (((zs.take 4).length : Int) - ((0 : Nat) : Int)) = 0 := by rw [hl4]; rfl
  have hu : rdU (zs.take 4) 0 4 0 = beV zs := by
    unfold rdU
    rw [if_pos rfl, ← valB4 h4]
    simp [List.take_take]
  have hlz : (4 : Int) ≤ (zs.length : Int) := by omega
  have hn0 := (beV_nonneg hbz h4).1
  have Hb := Lib.hid hbf
  have Herr := Lib.hid herr
  have Hu := Lib.hid hu
  have Hl4 := Lib.hid hl4
  clear hb hbf hcells hq3 herr hu hl4
  unfold maxLen at hq2
  go_enter Try.func22, Try.ntmps22
  go_wp2_with (first | (go_at_call 32; refine (newReader _ (zs.take 4) _ Hb.out (by rw [Hl4.out]; omega)).mono ?_; rintro e w1 ⟨rb, sv, rfl, hrd, hbel, hge, hgs⟩) | (go_at_call 33; refine (rdUint rb sv (zs.take 4) 0 4 _ hrd (by omega) (by omega)).mono ?_; rintro e w2 ⟨rfl, hto⟩; rw [Herr.out, Hu.out]) | (go_at_call 17; refine (sizeOf (beV zs) _ hn0 hn).mono ?_; rintro e w' ⟨rfl, rfl⟩))
  go_ret2
  exact ⟨rfl, (Only.of_below hbel (fun _ => False)).trans hto.2 (fun k hk hl => by omega)⟩

set_option maxHeartbeats 2000000 in
theorem firstOk (v : Value) (zs : List Int) (w : World) (hb : Bytes w v zs) (hl : zs.length ≤ 281474976710656) (h4 : 4 ≤ zs.length) (hn : beV zs ≤ 1048576) (hc : beV zs + 8 ≤ (zs.length : Int)) :
    Calls Try.prog 22 #[v] w fun e w' => e = .returned (.tuple #[.int .i64 (beV zs + 8), .nilIface]) ∧ Only (fun _ => False) w w' := by
  obtain ⟨ao, cap, rfl, hq1, hq2, hq3, hbz, hcells⟩ := id hb
  have hl4 : (zs.take 4).length = 4 := by simp; omega
  have hbf := Bytes.first hb 4 h4
  have herr : rdErr0 4 (((zs.take 4).length : Int) - ((0 : Nat) : Int)) = 0 := by rw [hl4]; rfl
  have hu : rdU (zs.take 4) 0 4 0 = beV zs := by
    unfold rdU
    rw [if_pos rfl, ← valB4 h4]
    simp [List.take_take]
  have hlz : (4 : Int) ≤ (zs.length : Int) := by omega
  have hn0 := (beV_nonneg hbz h4).1
  have Hb := Lib.hid hbf
  have Herr := Lib.hid herr
  have Hu := Lib.hid hu
  have Hl4 := Lib.hid hl4
  clear hb hbf hcells hq3 herr hu hl4
  unfold maxLen at hq2
  go_enter Try.func22, Try.ntmps22
  go_wp2_with (first | (go_at_call 32; refine (newReader _ (zs.take 4) _ Hb.out (by rw [Hl4.out]; omega)).mono ?_; rintro e w1 ⟨rb, sv, rfl, hrd, hbel, hge, hgs⟩) | (go_at_call 33; refine (rdUint rb sv (zs.take 4) 0 4 _ hrd (by omega) (by omega)).mono ?_; rintro e w2 ⟨rfl, hto⟩; rw [Herr.out, Hu.out]) | (go_at_call 17; refine (sizeOf (beV zs) _ hn0 hn).mono ?_; rintro e w' ⟨rfl, rfl⟩))
  go_ret2
  exact ⟨rfl, (Only.of_below hbel (fun _ => False)).trans hto.2 (fun k hk hl => by omega)⟩

theorem take_parts (zs : List Int) (m : Nat) : zs.take 4 ++ (zs.drop 4).take m = zs.take (m + 4) := by
  rw [Nat.add_comm m 4, List.take_add]

set_option maxHeartbeats 4000000 in
theorem contentRight (b o m cap : Nat) (zs : List Int) (w : World) (hb : Bytes w (.slice (some ⟨b, o, none⟩) zs.length cap) zs) (hL : zs.length = m + 8) (hl : m ≤ 1048576) (he : zs.drop (m + 4) = le4 (crc (zs.take (m + 4)))) :
    Calls Try.prog 23 #[.slice (some ⟨b, o, none⟩) (m + 8) cap] w fun e w' => e = .returned (.tuple #[.slice (some ⟨b, o + 4, none⟩) m (cap - 4), .nilIface]) ∧ Only (fun _ => False) w w' := by
  obtain ⟨_, _, hq, hq1, hq2, _, hbz, _⟩ := id hb
  injection hq with hqa hqb hqc
  subst hqc
  unfold maxLen at hq2
  have hn := Bytes.first hb 4 (by omega)
  have hd4 : (zs.drop 4).length = m + 4 := by simp; omega
  have hc := Bytes.behind hb 4 (by omega)
  rw [← List.length_drop] at hc
  have hc := Bytes.first hc m (by omega)
  have ht := Bytes.behind hb (m + 4) (by omega)
  rw [hL, show m + 8 - (m + 4) = 4 by omega] at ht
  have hnl : (zs.take 4).length ≤ 140737488355328 := by simp; omega
  have hcl : ((zs.drop 4).take m).length ≤ 140737488355328 := by simp; omega
  have hcap : m + 8 ≤ cap := by omega
  have Hn := Lib.hid hn
  have Hc := Lib.hid hc
  have Ht := Lib.hid ht
  have He := Lib.hid he
  have Hnl := Lib.hid hnl
  have Hcl := Lib.hid hcl
  have hk : ¬ cap = 4 := by omega
  clear hqa hqb hb hn hc ht he hnl hcl hd4 hL hq1
  have t4 : ((m : Int) + 4).toNat = m + 4 := by omega
  have p4 : (0 : Int) ≤ (m : Int) + 4 := by omega
  have q4 : (m : Int) + 4 ≤ (m : Int) + 8 := by omega
  have r4 : m + 4 - 4 = m := by omega
  have s4 : m + 8 - (m + 4) = 4 := by omega
  have k4 : ¬ cap = m + 4 := by omega
  go_enter Try.func23, Try.ntmps23
  go_wp2
  rw [show (m : Int) + 8 - 4 = (m : Int) + 4 by omega]
  go_quiet (fail)
  go_wp2
  go_region_with (first | (go_at_call 21; refine (sealOf _ _ (zs.take 4) ((zs.drop 4).take m) _ ((Hn.out).only ((Only.refl (fun _ => False) w).drewN _) (fun _ _ _ h => h)) ((Hc.out).only ((Only.refl (fun _ => False) w).drewN _) (fun _ _ _ h => h)) Hnl.out Hcl.out).mono ?_; rintro e w1 ⟨v', rfl, hrow, ho⟩; rw [take_parts, ← He.out] at hrow) | (go_at_call 34; refine (equalT _ v' (zs.drop (m + 4)) w1 ((Ht.out).only (((Only.refl (fun _ => False) w).drewN _).trans ho (fun _ h => h.elim)) (fun _ _ _ h => h)) (hrow.bytes (hbz.drop _))).mono ?_; rintro e w' ⟨rfl, rfl⟩))
  all_goals
    go_wp2
    go_ret2
    exact ⟨rfl, ((Only.refl (fun _ => False) w).drewN _).trans ho (fun _ h => h.elim)⟩

theorem le4_ne {zs : List Int} {m : Nat} (he : zs.drop (m + 4) ≠ le4 (crc (zs.take (m + 4)))) : zs.drop (m + 4) ≠ le4 (crc (zs.take 4 ++ (zs.drop 4).take m)) := by rw [take_parts]; exact he
set_option maxHeartbeats 4000000 in
theorem contentWrong (b o m cap : Nat) (zs : List Int) (w : World) (hb : Bytes w (.slice (some ⟨b, o, none⟩) zs.length cap) zs) (hL : zs.length = m + 8) (hl : m ≤ 1048576) (he : zs.drop (m + 4) ≠ le4 (crc (zs.take (m + 4)))) :
    Calls Try.prog 23 #[.slice (some ⟨b, o, none⟩) (m + 8) cap] w fun e w' => e = .returned (.tuple #[.slice none 0 0, .iface 57 (.agg #[.string { data := #[115, 117, 109] }, .int .i64 30])]) ∧ Only (fun _ => False) w w' := by
  obtain ⟨_, _, hq, hq1, hq2, _, hbz, _⟩ := id hb
  injection hq with hqa hqb hqc
  subst hqc
  unfold maxLen at hq2
  have hn := Bytes.first hb 4 (by omega)
  have hd4 : (zs.drop 4).length = m + 4 := by simp; omega
  have hc := Bytes.behind hb 4 (by omega)
  rw [← List.length_drop] at hc
  have hc := Bytes.first hc m (by omega)
  have ht := Bytes.behind hb (m + 4) (by omega)
  rw [hL, show m + 8 - (m + 4) = 4 by omega] at ht
  have hnl : (zs.take 4).length ≤ 140737488355328 := by simp; omega
  have hcl : ((zs.drop 4).take m).length ≤ 140737488355328 := by simp; omega
  have hcap : m + 8 ≤ cap := by omega
  have Hn := Lib.hid hn
  have Hc := Lib.hid hc
  have Ht := Lib.hid ht
  have He := Lib.hid (le4_ne he)
  have Hnl := Lib.hid hnl
  have Hcl := Lib.hid hcl
  have hk : ¬ cap = 4 := by omega
  clear hqa hqb hb hn hc ht he hnl hcl hd4 hL hq1
  have t4 : ((m : Int) + 4).toNat = m + 4 := by omega
  have p4 : (0 : Int) ≤ (m : Int) + 4 := by omega
  have q4 : (m : Int) + 4 ≤ (m : Int) + 8 := by omega
  have r4 : m + 4 - 4 = m := by omega
  have s4 : m + 8 - (m + 4) = 4 := by omega
  have k4 : ¬ cap = m + 4 := by omega
  go_enter Try.func23, Try.ntmps23
  go_wp2
  rw [show (m : Int) + 8 - 4 = (m : Int) + 4 by omega]
  go_quiet (fail)
  go_wp2
  go_region_with (first | (go_at_call 21; refine (sealOf _ _ (zs.take 4) ((zs.drop 4).take m) _ ((Hn.out).only ((Only.refl (fun _ => False) w).drewN _) (fun _ _ _ h => h)) ((Hc.out).only ((Only.refl (fun _ => False) w).drewN _) (fun _ _ _ h => h)) Hnl.out Hcl.out).mono ?_; rintro e w1 ⟨v', rfl, hrow, ho⟩) | (go_at_call 34; refine (equalF _ v' (zs.drop (m + 4)) (le4 (crc (zs.take 4 ++ (zs.drop 4).take m))) w1 ((Ht.out).only (((Only.refl (fun _ => False) w).drewN _).trans ho (fun _ h => h.elim)) (fun _ _ _ h => h)) (hrow.bytes (le4_byte _)) (hbz.drop _) (le4_byte _) He.out).mono ?_; rintro e w' ⟨rfl, rfl⟩))
  all_goals
    go_wp2
    go_ret2
    exact ⟨rfl, ((Only.refl (fun _ => False) w).drewN _).trans ho (fun _ h => h.elim)⟩
end Go.Proofs.Ytfbkmgjgklkjiaa
