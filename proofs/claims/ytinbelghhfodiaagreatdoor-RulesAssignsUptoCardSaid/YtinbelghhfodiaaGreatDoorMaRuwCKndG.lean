import Derived.Test.YtinbelghhfodiaaGreatDoorMaTkH
import Derived.Test.YtinbelghhfodiaaGreatDoorMaRuwARulE
import Derived.Test.YtinbelghhfodiaaGreatDoorMaRulH
import Derived.Test.YtinbelghhfodiaaGreatDoorMaKndFMapF
namespace Go.Proofs.YtinbelghhfodiaaGreatDoor
set_option maxHeartbeats 16000000
open Lib (hid)
open Go.RowKit
set_option linter.unusedVariables false
set_option linter.unusedSimpArgs false
section
variable {w : World} {yb qb : Nat} {ks : List KindV} {p : RPlcV} (h : RPlaceP w yb qb ks p)
include h
set_option maxRecDepth 100000 in
theorem rAssign11 (hk : ks.length ≤ 64) (la sa lb sb : List TypeV) (fa fb : Bool) (v1 v2 u1 u2 : Value) (k1 : Types w v1 la) (k2 : Types w v2 sa) (k3 : Types w u1 lb) (k4 : Types w u2 sb)
  (m1 : la.length ≤ 9223372036854775806) (m2 : sa.length ≤ 9223372036854775806) (m3 : lb.length ≤ 9223372036854775806) (m4 : sb.length ≤ 9223372036854775806) :
  Calls Tryz.prog 7 #[.pointer (some ⟨yb, 0, none⟩), .agg #[v1, v2, .bool fa], .agg #[u1, u2, .bool fb]] w fun e w' => e = .returned (.bool (frZ ks la sa lb sb fa fb)) ∧ Only (fun _ => False) w w' := by
 obtain ⟨a1, c1, rfl, -⟩ := id k1
 obtain ⟨a2, c2, rfl, -⟩ := id k2
 obtain ⟨a3, c3, rfl, -⟩ := id k3
 obtain ⟨a4, c4, rfl, -⟩ := id k4
 have ho := ((Only.refl (fun _ => False) w).alloc (.cells #[.slice a1 la.length c1, .slice a2 sa.length c2, .bool fa] 25)).alloc (.cells #[.slice a3 lb.length c3, .slice a4 sb.length c4, .bool fb] 25)
 have ha : ((w.alloc (.cells #[.slice a1 la.length c1, .slice a2 sa.length c2, .bool fa] 25)).alloc (.cells #[.slice a3 lb.length c3, .slice a4 sb.length c4, .bool fb] 25)).heap[w.heap.size]? = some (.cells #[.slice a1 la.length c1, .slice a2 sa.length c2, .bool fa] 25 (0, 0)) := ((Only.refl (fun _ => False) _).alloc _).heap (heap_alloc_new w _) (fun h => h)
 have hb : ((w.alloc (.cells #[.slice a1 la.length c1, .slice a2 sa.length c2, .bool fa] 25)).alloc (.cells #[.slice a3 lb.length c3, .slice a4 sb.length c4, .bool fb] 25)).heap[w.heap.size + 1]? = some (.cells #[.slice a3 lb.length c3, .slice a4 sb.length c4, .bool fb] 25 (0, 0)) := by
  have := heap_alloc_new (w.alloc (.cells #[.slice a1 la.length c1, .slice a2 sa.length c2, .bool fa] 25)) (.cells #[.slice a3 lb.length c3, .slice a4 sb.length c4, .bool fb] 25)
  rwa [World.size_alloc] at this
 obtain ⟨W0, hW0⟩ : ∃ W0, (w.alloc (.cells #[.slice a1 la.length c1, .slice a2 sa.length c2, .bool fa] 25)).alloc (.cells #[.slice a3 lb.length c3, .slice a4 sb.length c4, .bool fb] 25) = W0 := ⟨_, rfl⟩
 rw [hW0] at ho ha hb
 obtain ⟨vc, vt, vm, pv, tv, sv, h1, -, h2, -⟩ := h.only ho
 have CX := hid (fun s t W (hW : Only (fun _ => False) W0 W) => refAssign tv (treeZ ks) s t W (h2.only hW) (by rw [treeZ_len]; omega))
 obtain ⟨aT, kT, rfl, -⟩ := id h2
 have z12 := cell_blk h1 12
 simp only [List.getElem?_toArray, List.getElem?_cons_zero, List.getElem?_cons_succ] at z12
 have HZ12 := hid z12
 have HL1 := hid (k1.only ho)
 have HL2 := hid (k2.only ho)
 have HM1 := hid (k3.only ho)
 have HM2 := hid (k4.only ho)
 have HA := hid ha
 have HB := hid hb
 have HO := hid ho
 have HW0 := hid hW0
 obtain ⟨d0, d1, d2⟩ := cells3 ha
 obtain ⟨e0, e1, e2⟩ := cells3 hb
 have HFR := hid (show frZ ks la sa lb sb fa fb = (!(fa && !fb) && (all2 (assignZ (treeZ ks)) la lb && all2 (assignZ (treeZ ks)) sa sb)) from rfl)
 obtain ⟨rz, hrz⟩ : ∃ x, frZ ks la sa lb sb fa fb = x := ⟨_, rfl⟩
 rw [hrz] at HFR ⊢
 clear h h1 h2 k1 k2 k3 k4 ho ha hb hW0 z12 hrz
 by_cases hl : la.length = lb.length
 ·have hlb : ((la.length : Int) != (lb.length : Int)) = false := by rw [bne_eq_false_iff_eq]; omega
  have HLL := hid hl
  clear hl
  by_cases hs : sa.length = sb.length
  ·have hsb : ((sa.length : Int) != (sb.length : Int)) = false := by rw [bne_eq_false_iff_eq]; omega
   have HLS := hid hs
   clear hs
   by_cases hf : (fa && !fb) = true
   ·simp only [Bool.and_eq_true, Bool.not_eq_true'] at hf
    obtain ⟨rfl, rfl⟩ := hf
    go_enter Tryz.func7, Tryz.ntmps7
    go_upto_region 1 with fail
    rw [HW0.out]
    go_wp2
    go_ret
    exact ⟨by rw [HFR.out]; rfl, HO.out⟩
   ·have hfz : (!(fa && !fb)) = true := by cases fa <;> cases fb <;> simp at hf ⊢
    have HFZ := hid (show rz = (all2 (assignZ (treeZ ks)) la lb && all2 (assignZ (treeZ ks)) sa sb) by rw [HFR.out, hfz, Bool.true_and])
    have hfd : fa = false ∨ (fa = true ∧ fb = true) := by cases fa <;> cases fb <;> simp at hf ⊢
    clear hf hfz HFR
    rcases hfd with rfl | ⟨rfl, rfl⟩
    all_goals
     go_enter Tryz.func7, Tryz.ntmps7
     go_upto_region 1 with fail
     rw [HW0.out]
     go_wp2
     go_loopw [7] (fun i wr => ∃ j : Nat, i = .int .i64 j ∧ j ≤ la.length ∧ all2 (assignZ (treeZ ks)) la lb = all2 (assignZ (treeZ ks)) (la.drop j) (lb.drop j) ∧ Only (fun _ => False) W0 wr) (fun i _ => la.length - (intOf i).toNat)
     case atStart => exact ⟨0, rfl, Nat.zero_le _, rfl, Only.refl _ _⟩
     case round =>
      obtain ⟨j, rfl, hj, hat, hon⟩ := hrel
      have HON := hid hon
      obtain ⟨fa0, fa1, fa2⟩ := cells3 (hon.heap HA.out (fun h => h))
      obtain ⟨fb0, fb1, fb2⟩ := cells3 (hon.heap HB.out (fun h => h))
      by_cases hlt : j < la.length
      ·have hltm : j < lb.length := by have := HLL.out; omega
       obtain ⟨bb, ob, rfl, cc⟩ := Sl.at (HL1.out.only hon) hlt
       obtain ⟨bm, om, rfl, cd⟩ := Sl.at (HM1.out.only hon) hltm
       have hjz : (j : Int) < (la.length : Int) := by omega
       have hjm : (j : Int) < (lb.length : Int) := by omega
       have hj0 : (0 : Int) ≤ (j : Int) := by omega
       have z12 := hon.cell HZ12.out (fun h => h)
       have f0 := fa0
       have g0 := fb0
       have hd2 := all2_at (p := assignZ (treeZ ks)) hlt hltm
       have hca := fun W (hW : Only (fun _ => False) wr W) => CX.out (la.getD j default) (lb.getD j default) W (hon.trans hW (fun _ h _ => h))
       obtain ⟨q0, q1, q2, q3, q4⟩ := cc
       have HQ := hid cd
       generalize la.getD j default = s at *
       generalize lb.getD j default = t at *
       obtain ⟨sk, sn, sd, se, sa_⟩ := s
       obtain ⟨tk, tn, td, te, ta⟩ := t
       simp only at q0 q1 q2 q3 q4
       obtain ⟨r0, r1, r2, r3, r4⟩ := HQ.out
       simp only at r0 r1 r2 r3 r4
       have CA := hid hca
       unfold valT at CA
       simp only at CA
       obtain ⟨bz, hbz⟩ : ∃ x, assignZ (treeZ ks) ⟨sk, sn, sd, se, sa_⟩ ⟨tk, tn, td, te, ta⟩ = x := ⟨_, rfl⟩
       rw [hbz] at CA hd2
       have HD2 := hid hd2
       have HAT := hid hat
       clear hca HQ hbz hat hd2 hon fa0 fa1 fa2 fb0 fb1 fb2
       go_upto_region 6 with fail
       refine wp_region_held_drew (S := fun W => W.cell? ⟨yb, 12, none⟩ = some (.slice aT (treeZ ks).length kT) ∧ W.cell? ⟨w.heap.size, 0, none⟩ = some (.slice (some ⟨bb, ob, none⟩) la.length c1) ∧ W.cell? ⟨w.heap.size + 1, 0, none⟩ = some (.slice (some ⟨bm, om, none⟩) lb.length c3) ∧ W.cell? ⟨bb, ob + j * 5, none⟩ = some (.int .i64 sk) ∧ W.cell? ⟨bb, ob + j * 5 + 1, none⟩ = some (.string sn) ∧ W.cell? ⟨bb, ob + j * 5 + 2, none⟩ = some (.int .i64 sd) ∧ W.cell? ⟨bb, ob + j * 5 + 3, none⟩ = some (.int .i64 se) ∧ W.cell? ⟨bb, ob + j * 5 + 4, none⟩ = some (.int .i64 sa_) ∧ W.cell? ⟨bm, om + j * 5, none⟩ = some (.int .i64 tk) ∧ W.cell? ⟨bm, om + j * 5 + 1, none⟩ = some (.string tn) ∧ W.cell? ⟨bm, om + j * 5 + 2, none⟩ = some (.int .i64 td) ∧ W.cell? ⟨bm, om + j * 5 + 3, none⟩ = some (.int .i64 te) ∧ W.cell? ⟨bm, om + j * 5 + 4, none⟩ = some (.int .i64 ta)) (by kernel_rfl) ⟨((Only.refl (fun _ => False) wr).drew).cell z12 (fun h => h), ((Only.refl (fun _ => False) wr).drew).cell f0 (fun h => h), ((Only.refl (fun _ => False) wr).drew).cell g0 (fun h => h), ((Only.refl (fun _ => False) wr).drew).cell q0 (fun h => h), ((Only.refl (fun _ => False) wr).drew).cell q1 (fun h => h), ((Only.refl (fun _ => False) wr).drew).cell q2 (fun h => h), ((Only.refl (fun _ => False) wr).drew).cell q3 (fun h => h), ((Only.refl (fun _ => False) wr).drew).cell q4 (fun h => h), ((Only.refl (fun _ => False) wr).drew).cell r0 (fun h => h), ((Only.refl (fun _ => False) wr).drew).cell r1 (fun h => h), ((Only.refl (fun _ => False) wr).drew).cell r2 (fun h => h), ((Only.refl (fun _ => False) wr).drew).cell r3 (fun h => h), ((Only.refl (fun _ => False) wr).drew).cell r4 (fun h => h)⟩ (fun hHeld => ?_)
       refine tk2 0 (h := ?_)
       refine tk2 1 (h := ?_)
       refine tk2 2 (h := ?_)
       refine tk2 3 (h := ?_)
       refine tk2 4 (h := ?_)
       refine tk2 5 (h := ?_)
       refine tk2 6 (h := ?_)
       refine tk2 7 (h := ?_)
       refine tk2 8 (h := ?_)
       refine tk2 9 (h := ?_)
       refine tk2 10 (h := ?_)
       refine tk2 11 (h := ?_)
       refine tk2 12 (h := ?_)
       refine tk2 13 (h := ?_)
       refine tkR 14 (h := fun K hK => ?_)
       go_simp
       (refine (CA.out _ (Only.refl (fun _ => False) wr).drew).mono ?_; rintro e5 w5 ⟨rfl, ho5⟩; have HO5 := hid ((Only.refl (fun _ => False) wr).drew.trans ho5 (fun _ h _ => h)); clear ho5)
       go_wp2_with fail
       refine hK.out _ _ ?_ (fun hHeld2 => ?_)
       ·exact ⟨(HO5.out).cell z12 (fun h => h), (HO5.out).cell f0 (fun h => h), (HO5.out).cell g0 (fun h => h), (HO5.out).cell q0 (fun h => h), (HO5.out).cell q1 (fun h => h), (HO5.out).cell q2 (fun h => h), (HO5.out).cell q3 (fun h => h), (HO5.out).cell q4 (fun h => h), (HO5.out).cell r0 (fun h => h), (HO5.out).cell r1 (fun h => h), (HO5.out).cell r2 (fun h => h), (HO5.out).cell r3 (fun h => h), (HO5.out).cell r4 (fun h => h)⟩
       clear hK K
       try simp only [Act.put, sIB, sC0, sCS]
       clear hHeld
       have hHeld := hHeld2
       clear hHeld2
       refine tk2 15 (h := ?_)
       refine wpAnyH_done (by kernel_rfl) ?_ _
       have HO6 := hid (HON.out.trans HO5.out (fun _ h _ => h))
       clear hHeld q0 q1 q2 q3 q4 r0 r1 r2 r3 r4 z12 f0 g0
       cases bz
       ·have HR := hid (show all2 (assignZ (treeZ ks)) la lb = false by rw [HAT.out, HD2.out]; rfl)
        have HOZ := hid (HO.out.trans HO6.out (fun _ h _ => h))
        go_wp2
        go_ret
        exact ⟨by rw [HFZ.out, HR.out]; rfl, HOZ.out⟩
       ·have HR := hid (show all2 (assignZ (treeZ ks)) la lb = all2 (assignZ (treeZ ks)) (la.drop (j + 1)) (lb.drop (j + 1)) by rw [HAT.out, HD2.out]; rfl)
        go_wp2
        go_roundw
        case rel => exact ⟨j + 1, by go_num, by omega, HR.out, HO6.out⟩
        case measure => simp [intOf]; omega
      ·have HR0 := hid (show all2 (assignZ (treeZ ks)) la lb = true by rw [hat]; exact all2_end (by omega) (by have := HLL.out; omega))
       have hjn : ¬ (j : Int) < (la.length : Int) := by omega
       clear hat hlt hon
       obtain ⟨wo, hwo⟩ : ∃ x, x = wr := ⟨_, rfl⟩
       subst hwo
       go_wp2
       go_loopw [8] (fun i wr => ∃ j : Nat, i = .int .i64 j ∧ j ≤ sa.length ∧ all2 (assignZ (treeZ ks)) sa sb = all2 (assignZ (treeZ ks)) (sa.drop j) (sb.drop j) ∧ Only (fun _ => False) W0 wr) (fun i _ => sa.length - (intOf i).toNat)
       case atStart => exact ⟨0, rfl, Nat.zero_le _, rfl, HON.out⟩
       case round =>
        obtain ⟨j, rfl, hj, hat, hon⟩ := hrel
        have HON := hid hon
        obtain ⟨fa0, fa1, fa2⟩ := cells3 (hon.heap HA.out (fun h => h))
        obtain ⟨fb0, fb1, fb2⟩ := cells3 (hon.heap HB.out (fun h => h))
        by_cases hlt : j < sa.length
        ·have hltm : j < sb.length := by have := HLS.out; omega
         obtain ⟨bb, ob, rfl, cc⟩ := Sl.at (HL2.out.only hon) hlt
         obtain ⟨bm, om, rfl, cd⟩ := Sl.at (HM2.out.only hon) hltm
         have hjz : (j : Int) < (sa.length : Int) := by omega
         have hjm : (j : Int) < (sb.length : Int) := by omega
         have hj0 : (0 : Int) ≤ (j : Int) := by omega
         have z12 := hon.cell HZ12.out (fun h => h)
         have f0 := fa1
         have g0 := fb1
         have hd2 := all2_at (p := assignZ (treeZ ks)) hlt hltm
         have hca := fun W (hW : Only (fun _ => False) wr W) => CX.out (sa.getD j default) (sb.getD j default) W (hon.trans hW (fun _ h _ => h))
         obtain ⟨q0, q1, q2, q3, q4⟩ := cc
         have HQ := hid cd
         generalize sa.getD j default = s at *
         generalize sb.getD j default = t at *
         obtain ⟨sk, sn, sd, se, sa_⟩ := s
         obtain ⟨tk, tn, td, te, ta⟩ := t
         simp only at q0 q1 q2 q3 q4
         obtain ⟨r0, r1, r2, r3, r4⟩ := HQ.out
         simp only at r0 r1 r2 r3 r4
         have CA := hid hca
         unfold valT at CA
         simp only at CA
         obtain ⟨bz, hbz⟩ : ∃ x, assignZ (treeZ ks) ⟨sk, sn, sd, se, sa_⟩ ⟨tk, tn, td, te, ta⟩ = x := ⟨_, rfl⟩
         rw [hbz] at CA hd2
         have HD2 := hid hd2
         have HAT := hid hat
         clear hca HQ hbz hat hd2 hon fa0 fa1 fa2 fb0 fb1 fb2
         go_upto_region 11 with fail
         refine wp_region_held_drew (S := fun W => W.cell? ⟨yb, 12, none⟩ = some (.slice aT (treeZ ks).length kT) ∧ W.cell? ⟨w.heap.size, 1, none⟩ = some (.slice (some ⟨bb, ob, none⟩) sa.length c2) ∧ W.cell? ⟨w.heap.size + 1, 1, none⟩ = some (.slice (some ⟨bm, om, none⟩) sb.length c4) ∧ W.cell? ⟨bb, ob + j * 5, none⟩ = some (.int .i64 sk) ∧ W.cell? ⟨bb, ob + j * 5 + 1, none⟩ = some (.string sn) ∧ W.cell? ⟨bb, ob + j * 5 + 2, none⟩ = some (.int .i64 sd) ∧ W.cell? ⟨bb, ob + j * 5 + 3, none⟩ = some (.int .i64 se) ∧ W.cell? ⟨bb, ob + j * 5 + 4, none⟩ = some (.int .i64 sa_) ∧ W.cell? ⟨bm, om + j * 5, none⟩ = some (.int .i64 tk) ∧ W.cell? ⟨bm, om + j * 5 + 1, none⟩ = some (.string tn) ∧ W.cell? ⟨bm, om + j * 5 + 2, none⟩ = some (.int .i64 td) ∧ W.cell? ⟨bm, om + j * 5 + 3, none⟩ = some (.int .i64 te) ∧ W.cell? ⟨bm, om + j * 5 + 4, none⟩ = some (.int .i64 ta)) (by kernel_rfl) ⟨((Only.refl (fun _ => False) wr).drew).cell z12 (fun h => h), ((Only.refl (fun _ => False) wr).drew).cell f0 (fun h => h), ((Only.refl (fun _ => False) wr).drew).cell g0 (fun h => h), ((Only.refl (fun _ => False) wr).drew).cell q0 (fun h => h), ((Only.refl (fun _ => False) wr).drew).cell q1 (fun h => h), ((Only.refl (fun _ => False) wr).drew).cell q2 (fun h => h), ((Only.refl (fun _ => False) wr).drew).cell q3 (fun h => h), ((Only.refl (fun _ => False) wr).drew).cell q4 (fun h => h), ((Only.refl (fun _ => False) wr).drew).cell r0 (fun h => h), ((Only.refl (fun _ => False) wr).drew).cell r1 (fun h => h), ((Only.refl (fun _ => False) wr).drew).cell r2 (fun h => h), ((Only.refl (fun _ => False) wr).drew).cell r3 (fun h => h), ((Only.refl (fun _ => False) wr).drew).cell r4 (fun h => h)⟩ (fun hHeld => ?_)
         refine tk2 0 (h := ?_)
         refine tk2 1 (h := ?_)
         refine tk2 2 (h := ?_)
         refine tk2 3 (h := ?_)
         refine tk2 4 (h := ?_)
         refine tk2 5 (h := ?_)
         refine tk2 6 (h := ?_)
         refine tk2 7 (h := ?_)
         refine tk2 8 (h := ?_)
         refine tk2 9 (h := ?_)
         refine tk2 10 (h := ?_)
         refine tk2 11 (h := ?_)
         refine tk2 12 (h := ?_)
         refine tk2 13 (h := ?_)
         refine tkR 14 (h := fun K hK => ?_)
         go_simp
         (refine (CA.out _ (Only.refl (fun _ => False) wr).drew).mono ?_; rintro e5 w5 ⟨rfl, ho5⟩; have HO5 := hid ((Only.refl (fun _ => False) wr).drew.trans ho5 (fun _ h _ => h)); clear ho5)
         go_wp2_with fail
         refine hK.out _ _ ?_ (fun hHeld2 => ?_)
         ·exact ⟨(HO5.out).cell z12 (fun h => h), (HO5.out).cell f0 (fun h => h), (HO5.out).cell g0 (fun h => h), (HO5.out).cell q0 (fun h => h), (HO5.out).cell q1 (fun h => h), (HO5.out).cell q2 (fun h => h), (HO5.out).cell q3 (fun h => h), (HO5.out).cell q4 (fun h => h), (HO5.out).cell r0 (fun h => h), (HO5.out).cell r1 (fun h => h), (HO5.out).cell r2 (fun h => h), (HO5.out).cell r3 (fun h => h), (HO5.out).cell r4 (fun h => h)⟩
         clear hK K
         try simp only [Act.put, sIB, sC0, sCS]
         clear hHeld
         have hHeld := hHeld2
         clear hHeld2
         refine tk2 15 (h := ?_)
         refine wpAnyH_done (by kernel_rfl) ?_ _
         have HO6 := hid (HON.out.trans HO5.out (fun _ h _ => h))
         clear hHeld q0 q1 q2 q3 q4 r0 r1 r2 r3 r4 z12 f0 g0
         cases bz
         ·have HR := hid (show all2 (assignZ (treeZ ks)) sa sb = false by rw [HAT.out, HD2.out]; rfl)
          have HOZ := hid (HO.out.trans HO6.out (fun _ h _ => h))
          go_wp2
          go_ret
          exact ⟨by rw [HFZ.out, HR0.out, HR.out]; rfl, HOZ.out⟩
         ·have HR := hid (show all2 (assignZ (treeZ ks)) sa sb = all2 (assignZ (treeZ ks)) (sa.drop (j + 1)) (sb.drop (j + 1)) by rw [HAT.out, HD2.out]; rfl)
          go_wp2
          go_roundw
          case rel => exact ⟨j + 1, by go_num, by omega, HR.out, HO6.out⟩
          case measure => simp [intOf]; omega
        ·have HR1 := hid (show all2 (assignZ (treeZ ks)) sa sb = true by rw [hat]; exact all2_end (by omega) (by have := HLS.out; omega))
         have hjn : ¬ (j : Int) < (sa.length : Int) := by omega
         clear hat hlt hon
         have HOZ := hid (HO.out.trans HON.out (fun _ h _ => h))
         go_wp2
         go_ret
         exact ⟨by rw [HFZ.out, HR0.out, HR1.out]; rfl, HOZ.out⟩
  ·have hsb : ((sa.length : Int) != (sb.length : Int)) = true := by rw [bne_iff_ne]; omega
   have HR := hid (all2_len (assignZ (treeZ ks)) sa sb hs)
   clear hs
   go_enter Tryz.func7, Tryz.ntmps7
   go_upto_region 1 with fail
   rw [HW0.out]
   go_wp2
   go_ret
   exact ⟨by rw [HFR.out, HR.out, Bool.and_false, Bool.and_false]; rfl, HO.out⟩
 ·have hlb : ((la.length : Int) != (lb.length : Int)) = true := by rw [bne_iff_ne]; omega
  have HR := hid (all2_len (assignZ (treeZ ks)) la lb hl)
  clear hl
  go_enter Tryz.func7, Tryz.ntmps7
  go_upto_region 1 with fail
  rw [HW0.out]
  go_wp2
  go_ret
  exact ⟨by rw [HFR.out, HR.out, Bool.false_and, Bool.and_false]; rfl, HO.out⟩
end
theorem belowN_mono {l : List PairV} {b : ByteArray} : ∀ {n m : Nat} {a : ByteArray}, n ≤ m → belowN l b n a = true → belowN l b m a = true
 | 0, m, a, _, h => by
  have h' : a = b := by simpa [belowN] using h
  subst h'
  exact belowN_same l a m
 | n + 1, 0, a, hm, _ => by omega
 | n + 1, m + 1, a, hm, h => by
  by_cases hab : a = b
  ·subst hab
   exact belowN_same l a _
  ·rcases pairOf_cases l a with hp | ⟨j, hj, hp⟩
   ·rw [belowN_none hab hp] at h
    cases h
   ·rw [belowN_step hab hp] at h ⊢
    exact belowN_mono (by omega) h
theorem belowN_add {l : List PairV} {b c : ByteArray} : ∀ {n m : Nat} {a : ByteArray}, belowN l b n a = true → belowN l c m b = true → belowN l c (n + m) a = true
 | 0, m, a, h, hb => by
  have h' : a = b := by simpa [belowN] using h
  subst h'
  rw [Nat.zero_add]
  exact hb
 | n + 1, m, a, h, hb => by
  by_cases hab : a = b
  ·subst hab
   exact belowN_mono (by omega) hb
  ·rcases pairOf_cases l a with hp | ⟨j, hj, hp⟩
   ·rw [belowN_none hab hp] at h
    cases h
   ·rw [belowN_step hab hp] at h
    by_cases hac : a = c
    ·subst hac
     exact belowN_same l a _
    ·rw [show n + 1 + m = (n + m) + 1 by omega, belowN_step hac hp]
     exact belowN_add h hb
def RootedL (l : List PairV) : Prop := ∀ i, i < l.length → (l.getD i default).name ≠ ⟨#[]⟩ ∧ ((l.getD i default).super = ⟨#[]⟩ ∨ ∃ k, k < i ∧ (l.getD k default).name = (l.getD i default).super) ∧ ∀ k, k < l.length → k ≠ i → (l.getD k default).name ≠ (l.getD i default).name
theorem pairFrom_le {x : ByteArray} : ∀ (l : List PairV) (i k : Nat), k < l.length → (l.getD k default).name = x → ∃ j : Nat, j ≤ k ∧ pairFrom x i l = ((i + j : Nat) : Int)
 | [], i, k, hk, _ => by cases hk
 | p :: r, i, k, hk, h => by
  by_cases hp : p.name = x
  ·exact ⟨0, by omega, by rw [pairFrom, if_pos hp]; rfl⟩
  ·cases k with
   | zero => exact absurd (by simpa using h) hp
   | succ k =>
    obtain ⟨j, h1, h2⟩ := pairFrom_le r (i + 1) k (by simpa using hk) (by simpa using h)
    exact ⟨j + 1, by omega, by rw [pairFrom, if_neg hp, h2]; congr 1; omega⟩
theorem pairOf_le {x : ByteArray} {l : List PairV} {k : Nat} (hk : k < l.length) (h : (l.getD k default).name = x) : ∃ j : Nat, j ≤ k ∧ pairOf l x = (j : Int) := by
 obtain ⟨j, h1, h2⟩ := pairFrom_le l 0 k hk h
 exact ⟨j, h1, by rw [pairOf, h2, Nat.zero_add]⟩
theorem pairFrom_name {x : ByteArray} : ∀ (l : List PairV) (i j : Nat), pairFrom x i l = ((i + j : Nat) : Int) → j < l.length → (l.getD j default).name = x
 | [], i, j, h, hj => by cases hj
 | p :: r, i, j, h, hj => by
  by_cases hp : p.name = x
  ·rw [pairFrom, if_pos hp] at h
   obtain rfl : j = 0 := by omega
   simpa using hp
  ·rw [pairFrom, if_neg hp] at h
   rcases pairFrom_range (x := x) r (i + 1) with h1 | ⟨q, hq, h1⟩
   ·omega
   ·obtain rfl : j = q + 1 := by omega
    have := pairFrom_name r (i + 1) q h1 hq
    simpa using this
theorem pairOf_name {x : ByteArray} {l : List PairV} {j : Nat} (h : pairOf l x = (j : Int)) (hj : j < l.length) : (l.getD j default).name = x := pairFrom_name l 0 j (by rw [Nat.zero_add]; exact h) hj
theorem RootedL.steps {l : List PairV} (hr : RootedL l) {b : ByteArray} : ∀ (j : Nat) {n : Nat} {a : ByteArray}, j < l.length → pairOf l a = (j : Int) → belowN l b n a = true → belowN l b (j + 1) a = true := by
 intro j
 induction j using Nat.strongRecOn with
 | ind j ih =>
  intro n a hj hp h
  by_cases hab : a = b
  ·subst hab
   exact belowN_same l a _
  ·rw [belowN_step hab hp]
   cases n with
   | zero =>
    rw [belowN_last hab] at h
    cases h
   | succ n =>
    rw [belowN_step hab hp] at h
    obtain ⟨-, h2, -⟩ := hr j hj
    generalize (l.getD j default).super = s at *
    by_cases hsb : s = b
    ·subst hsb
     exact belowN_same l s _
    ·rcases pairOf_cases l s with hq | ⟨q, hq, hqp⟩
     ·rw [belowN_none hsb hq] at h
      cases h
     ·rcases h2 with rfl | ⟨k, hk, hks⟩
      ·exact absurd (pairOf_name hqp hq) (hr q hq).1
      ·obtain ⟨q', hq', hqp'⟩ := pairOf_le (by omega) hks
       obtain rfl : q = q' := by omega
       exact belowN_mono (by omega) (ih q (by omega) hq hqp h)
theorem RootedL.enough {l : List PairV} (hr : RootedL l) {a b : ByteArray} {n : Nat} (h : belowN l b n a = true) : belowZ l a b = true := by
 by_cases hab : a = b
 ·subst hab
  exact belowN_same l a _
 ·rcases pairOf_cases l a with hp | ⟨j, hj, hp⟩
  ·rw [belowN_none hab hp] at h
   cases h
  ·exact belowN_mono (by omega) (hr.steps j hj hp h)
theorem RootedL.on {l : List PairV} (hr : RootedL l) {a b c : ByteArray} (h : belowZ l a b = true) (h2 : belowZ l b c = true) : belowZ l a c = true := hr.enough (belowN_add h h2)
theorem assignZ_self (l : List PairV) (a : TypeV) : assignZ l a a = true := by
 unfold assignZ
 rw [if_pos (eqT_self a)]
 split <;> rfl
end Go.Proofs.YtinbelghhfodiaaGreatDoor
