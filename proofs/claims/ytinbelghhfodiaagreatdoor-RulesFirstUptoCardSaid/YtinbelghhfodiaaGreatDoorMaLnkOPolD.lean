import Derived.Test.YtinbelghhfodiaaGreatDoorMaLnkHLnkN
import Derived.BigQuiet
import Derived.Test.YtinbelghhfodiaaGreatDoorMaSepPolT
namespace Go.Proofs.YtinbelghhfodiaaGreatDoor
set_option maxHeartbeats 16000000
open Lib (hid)
open Go.RowKit
set_option linter.unusedVariables false
set_option linter.unusedSimpArgs false
def keepAt (ks : List KindV) (m : MethN) (u : Nat) : Bool := if hasZ (ks.getD u default).meths m.name m.desc < 0 then true else ((ks.getD u default).meths.getD (hasZ (ks.getD u default).meths m.name m.desc).toNat default).flags == m.flags
def keepsM (ks : List KindV) (x : Nat) (m : MethN) : Bool := if m.name = initB then true else (upZ ks (superZ ks x)).all (keepAt ks m)
def keepsZ (ks : List KindV) (x : Nat) : Bool := (ks.getD x default).meths.all (keepsM ks x)
theorem all_at {α : Type} [Inhabited α] {l : List α} {f : α → Bool} {j : Nat} (h : j < l.length) : (l.drop j).all f = (f (l.getD j default) && (l.drop (j + 1)).all f) := by
 rw [List.drop_eq_getElem_cons h, List.all_cons]
 rw [show l.getD j default = l[j] by simp [List.getD, h]]
set_option maxRecDepth 100000 in
theorem refKeeps (pb : Nat) (ks : List KindV) (cs : List ClassV) (x : Nat) (w : World) (hd : DocP w pb ks cs) (hs : SmallK ks) (he : EndsAll ks) (hx : x < ks.length) :
  Calls Tryz.prog 39 #[.pointer (some ⟨pb, 0, none⟩), .int .i64 x] w fun e w' => e = .returned (.bool (keepsZ ks x)) ∧ Only (fun _ => False) w w' := by
 have HD := hid hd
 have HS := hid hs
 have HE := hid he
 have hkl := hs.1
 obtain ⟨vl, vi, q0, q1, hk, hc⟩ := hd
 obtain ⟨ao, cap, rfl, p1, p2⟩ := hk.len
 obtain ⟨b, o, vf, vm, rfl, y, -, hm⟩ := hk.at hx
 have q2 := y.c3
 obtain ⟨am, cm, rfl, m1, m2, m3, -⟩ := id hm
 have hxz : (x : Int) < (ks.length : Int) := by omega
 have hx0 : (0 : Int) ≤ (x : Int) := by omega
 have HK0 : Hid (keepsZ ks x = ((ks.getD x default).meths.drop 0).all (keepsM ks x)) := hid (by rw [List.drop_zero]; rfl)
 have HM := hid hm
 have hml := (hs.2 _ (getD_mem hx)).2
 have C1 := hid (fun W (h : DocP W pb ks cs) => refSuperN pb ks cs x W h (by omega))
 have HSL := hid (superZ_lt ks x)
 have hli := lit_init
 have HKX : Hid (∀ m, keepsM ks x m = if m.name = initB then true else (upZ ks (superZ ks x)).all (keepAt ks m)) := hid (fun m => rfl)
 generalize keepsM ks x = fm at *
 generalize superZ ks x = sx at *
 generalize ks.getD x default = px at *
 generalize px.meths = ms at *
 generalize keepsZ ks x = kz at *
 clear hk hc q1 y hs he hm m3
 go_enter Tryz.func39, Tryz.ntmps39
 go_wp2
 clear q0 q2
 go_loopw [6] (fun iv wr => ∃ i : Nat, iv = .int .i64 i ∧ i ≤ ms.length ∧ Hid (kz = (ms.drop i).all fm) ∧ Hid (Only (fun _ => False) w wr)) (fun iv _ => ms.length - (intOf iv).toNat)
 case atStart => exact ⟨0, rfl, Nat.zero_le _, HK0, hid (Only.refl _ _)⟩
 case round =>
  obtain ⟨i, rfl, hi, HL, HO⟩ := hrel
  by_cases hlt : i < ms.length
  ·have hiz : (i : Int) < (ms.length : Int) := by omega
   have hi0 : (0 : Int) ≤ (i : Int) := by omega
   have HST := hid (all_at (f := fm) hlt)
   obtain ⟨bm, om, rfl, z⟩ := Sl.at (HM.out.only HO.out) hlt
   have C2 := hid (C1.out _ (HD.out.only HO.out))
   have HZ := hid z
   have HZW : Hid (∀ W, Only (fun _ => False) w W → MethNAt W bm om i (ms.getD i default)) := hid (fun W hW => by
    obtain ⟨b', o', hb', z'⟩ := Sl.at (HM.out.only hW) hlt
    injection hb' with hb'
    injection hb' with h1 h2 h3
    subst h1 h2
    exact z')
   have HFM := hid (HKX.out (ms.getD i default))
   generalize ms.getD i default = m at *
   clear z
   by_cases hni : m.name = initB
   ·have HL2 := hid (show kz = (ms.drop (i + 1)).all fm by rw [HL.out, HST.out, HFM.out, if_pos hni, Bool.true_and])
    have z0 := HZ.out.c0
    rw [hni] at z0
    unfold initB at z0
    clear hni
    go_wp2_with (fail)
    refine C2.out.mono ?_
    rintro e w2 ⟨rfl, hww⟩
    subst hww
    go_wp2
    go_loopw [7] (fun uv wr2 => uv = .int .i64 sx ∧ _ = wr2) (fun _ _ => 0)
    case atStart => exact ⟨rfl, rfl⟩
    case round =>
     obtain ⟨rfl, hww⟩ := hrel
     subst hww
     by_cases hx : 0 ≤ sx
     ·go_wp2
      go_roundw
      case rel => exact ⟨i + 1, by go_num, by omega, HL2, HO⟩
      case measure => simp [intOf]; omega
     ·go_wp2
      go_roundw
      case rel => exact ⟨i + 1, by go_num, by omega, HL2, HO⟩
      case measure => simp [intOf]; omega
   ·obtain ⟨n1, n2⟩ := toList_beq hni
    unfold initB at n1 n2
    rw [lit_init] at n1 n2
    have n3 : (m.name.toList != [60, 105, 110, 105, 116, 62]) = true := by rw [bne, n1]; rfl
    have HK1 : Hid (kz = ((upZ ks sx).all (keepAt ks m) && (ms.drop (i + 1)).all fm)) := hid (by rw [HL.out, HST.out, HFM.out, if_neg hni])
    obtain ⟨rest, hrest⟩ : ∃ rest, (ms.drop (i + 1)).all fm = rest := ⟨_, rfl⟩
    rw [hrest] at HK1
    have HRS := hid hrest
    clear hrest
    clear hni
    go_wp2_with (fail)
    refine C2.out.mono ?_
    rintro e w2 ⟨rfl, hww⟩
    subst hww
    go_wp2
    go_loopw [7] (fun uv wr2 => ∃ u : Int, uv = .int .i64 u ∧ u < ks.length ∧ Hid (kz = ((upZ ks u).all (keepAt ks m) && rest)) ∧ Hid (Only (fun _ => False) w wr2)) (fun uv _ => (upZ ks (intOf uv)).length)
    case atStart => exact ⟨sx, rfl, HSL.out, HK1, HO⟩
    case round =>
     obtain ⟨u, rfl, hul, HKU, HO2⟩ := hrel
     by_cases hu : 0 ≤ u
     ·obtain ⟨j, rfl⟩ := Int.eq_ofNat_of_zero_le hu
      have hjk : j < ks.length := by omega
      have hjz : (j : Int) < (ks.length : Int) := by omega
      have HUP := hid (upZ_step HE.out hjk)
      have HUL : Hid ((upZ ks (superZ ks j)).length < (upZ ks (j : Int)).length) := hid (by rw [HUP.out, List.length_cons]; omega)
      have HSJ := hid (superZ_lt ks j)
      have CS := hid (fun W (h : DocP W pb ks cs) => refSuperN pb ks cs j W h (by omega))
      have HAT : Hid (keepAt ks m j = _) := hid (by unfold keepAt; rfl)
      obtain ⟨vl, vi, q0, q1, hk, hc⟩ := HD.out.only HO2.out
      obtain ⟨ao2, cap2, hv2, r1, r2⟩ := hk.len
      subst hv2
      obtain ⟨b2, o2, vf2, vm2, rfl, y, -, hm2⟩ := hk.at hjk
      have q2 := y.c3
      obtain ⟨aj, cj, rfl, j1, j2, j3, -⟩ := id hm2
      have hmlj := (HS.out.2 _ (getD_mem hjk)).2
      obtain ⟨z0, z1, z2⟩ := HZW.out _ HO2.out
      have hO2 := HO2.out
      generalize superZ ks j = sj at *
      generalize ks.getD j default = pj at *
      have CH := hid (fun W (h : MethNs W (.slice aj pj.meths.length cj) pj.meths) => refHas _ pj.meths m.name m.desc W h (by omega))
      have HMJ : Hid (∀ W, Only (fun _ => False) wr W → MethNs W (.slice aj pj.meths.length cj) pj.meths) := hid (fun W h => hm2.only h)
      have hON := Only.refl (fun _ => False) wr
      rcases hasZ_cases pj.meths m.name m.desc with hh | ⟨a, ha, hh⟩
      ·have HKN := hid (show kz = ((upZ ks sj).all (keepAt ks m) && rest) by rw [HKU.out, HUP.out, List.all_cons, HAT.out, hh, if_pos (by decide), Bool.true_and])
       rw [hh] at CH
       have MKS : Hid (∀ W, Only (fun _ => False) wr W → (W.cell? ⟨pb, 0, none⟩ = some (.slice (some ⟨b2, o2, none⟩) ks.length cap2) ∧ W.cell? ⟨b2, o2 + j * 5 + 3, none⟩ = some (.slice aj pj.meths.length cj) ∧ W.cell? ⟨bm, om + i * 3, none⟩ = some (.string m.name) ∧ W.cell? ⟨bm, om + i * 3 + 1, none⟩ = some (.string m.desc) ∧ W.cell? ⟨bm, om + i * 3 + 2, none⟩ = some (.int .i64 m.flags)) ∧ Only (fun _ => False) wr W) := hid (fun W h => ⟨⟨h.cell q0 (fun h => h), h.cell q2 (fun h => h), h.cell z0 (fun h => h), h.cell z1 (fun h => h), h.cell z2 (fun h => h)⟩, h⟩)
       clear hh hk hc q1 y j3 hm2
       go_wp2
       go_region_held3 (fun W => (W.cell? ⟨pb, 0, none⟩ = some (.slice (some ⟨b2, o2, none⟩) ks.length cap2) ∧ W.cell? ⟨b2, o2 + j * 5 + 3, none⟩ = some (.slice aj pj.meths.length cj) ∧ W.cell? ⟨bm, om + i * 3, none⟩ = some (.string m.name) ∧ W.cell? ⟨bm, om + i * 3 + 1, none⟩ = some (.string m.desc) ∧ W.cell? ⟨bm, om + i * 3 + 2, none⟩ = some (.int .i64 m.flags)) ∧ Only (fun _ => False) wr W)
        (first | exact MKS.out _ hON.drew | exact MKS.out _ hON | exact hkp | exact MKS.out _ (And.right (by assumption)))
        (first | (go_at_call 40; refine (CH.out _ (HMJ.out _ (And.right (by assumption)))).mono ?_; rintro e w8 ⟨rfl, hww⟩; subst hww; have hkp := MKS.out _ (And.right (by assumption))))
       all_goals
        go_wp2
        go_quiet (fail)
        all_goals
         have HO9 := hid (HO2.out.trans (show Only (fun _ => False) wr (wr.drewN (1 + nq)) from (Only.refl _ wr).drewN _) (fun _ h _ => h))
         go_wp2_with (fail)
         refine (CS.out _ (HD.out.only HO9.out)).mono ?_
         rintro e w8 ⟨rfl, hww⟩
         subst hww
         go_wp2
         go_roundw
         case rel => exact ⟨_, rfl, HSJ.out, HKN, HO9⟩
         case measure => exact HUL.out
      ·obtain ⟨bt, ot, rfl, t0, t1, t2⟩ := Sl.at hm2 ha
       have ha0 : (0 : Int) ≤ (a : Int) := by omega
       have haz : (a : Int) < (pj.meths.length : Int) := by omega
       have HKA : Hid (keepAt ks m j = ((pj.meths.getD a default).flags == m.flags)) := hid (by rw [HAT.out, hh, if_neg (by omega), Int.toNat_natCast])
       rw [hh] at CH
       generalize (pj.meths.getD a default).flags = tf at *
       clear hh t0 t1
       have MKS : Hid (∀ W, Only (fun _ => False) wr W → (W.cell? ⟨pb, 0, none⟩ = some (.slice (some ⟨b2, o2, none⟩) ks.length cap2) ∧ W.cell? ⟨b2, o2 + j * 5 + 3, none⟩ = some (.slice (some ⟨bt, ot, none⟩) pj.meths.length cj) ∧ W.cell? ⟨bm, om + i * 3, none⟩ = some (.string m.name) ∧ W.cell? ⟨bm, om + i * 3 + 1, none⟩ = some (.string m.desc) ∧ W.cell? ⟨bm, om + i * 3 + 2, none⟩ = some (.int .i64 m.flags)) ∧ Only (fun _ => False) wr W) := hid (fun W h => ⟨⟨h.cell q0 (fun h => h), h.cell q2 (fun h => h), h.cell z0 (fun h => h), h.cell z1 (fun h => h), h.cell z2 (fun h => h)⟩, h⟩)
       clear hk hc q1 y j3
       go_wp2
       go_region_held3 (fun W => (W.cell? ⟨pb, 0, none⟩ = some (.slice (some ⟨b2, o2, none⟩) ks.length cap2) ∧ W.cell? ⟨b2, o2 + j * 5 + 3, none⟩ = some (.slice (some ⟨bt, ot, none⟩) pj.meths.length cj) ∧ W.cell? ⟨bm, om + i * 3, none⟩ = some (.string m.name) ∧ W.cell? ⟨bm, om + i * 3 + 1, none⟩ = some (.string m.desc) ∧ W.cell? ⟨bm, om + i * 3 + 2, none⟩ = some (.int .i64 m.flags)) ∧ Only (fun _ => False) wr W)
        (first | exact MKS.out _ hON.drew | exact MKS.out _ hON | exact hkp | exact MKS.out _ (And.right (by assumption)))
        (first | (go_at_call 40; refine (CH.out _ (HMJ.out _ (And.right (by assumption)))).mono ?_; rintro e w8 ⟨rfl, hww⟩; subst hww; have hkp := MKS.out _ (And.right (by assumption))))
       all_goals
        have u0 := MKS.out _ (Only.refl (fun _ => False) wr).drew
        obtain ⟨⟨v0, v2, w0, w1, w2⟩, -⟩ := u0
        have vt := ((Only.refl (fun _ => False) wr).drew).cell t2 (fun h => h)
        by_cases hfl : tf = m.flags
        ·have HKN := hid (show kz = ((upZ ks sj).all (keepAt ks m) && rest) by rw [HKU.out, HUP.out, List.all_cons, HKA.out, hfl, beq_self_eq_true, Bool.true_and])
         have hfb : (tf != m.flags) = false := by rw [bne_eq_false_iff_eq]; exact hfl
         clear hfl
         go_wp2
         go_quiet (fail)
         have HO9 := hid (HO2.out.trans (show Only (fun _ => False) wr (wr.drewN (1 + nq)) from (Only.refl _ wr).drewN _) (fun _ h _ => h))
         go_wp2_with (fail)
         refine (CS.out _ (HD.out.only HO9.out)).mono ?_
         rintro e w8 ⟨rfl, hww⟩
         subst hww
         go_wp2
         go_roundw
         case rel => exact ⟨_, rfl, HSJ.out, HKN, HO9⟩
         case measure => exact HUL.out
        ·have HKF := hid (show kz = false by rw [HKU.out, HUP.out, List.all_cons, HKA.out, show (tf == m.flags) = false by rw [beq_eq_false_iff_ne]; exact hfl, Bool.false_and, Bool.false_and])
         have hfb : (tf != m.flags) = true := by rw [bne_iff_ne]; exact hfl
         clear hfl
         go_wp2
         go_quiet (fail)
         have HO9 := hid (HO2.out.trans (show Only (fun _ => False) wr (wr.drew.drewN nq) from (Only.refl _ wr).drew.drewN _) (fun _ h _ => h))
         go_wp2
         go_ret
         rw [HKF.out]
         exact ⟨rfl, HO9.out⟩
     ·have HL2 := hid (show kz = (ms.drop (i + 1)).all fm by rw [HKU.out, upZ_end (by omega), HRS.out]; rfl)
      go_wp2
      go_roundw
      case rel => exact ⟨i + 1, by go_num, by omega, HL2, HO2⟩
      case measure => simp [intOf]; omega
  ·have hie : i = ms.length := by omega
   subst hie
   have HT := hid (show kz = true by rw [HL.out, List.drop_length]; rfl)
   go_wp2
   go_ret
   rw [HT.out]
   exact ⟨rfl, HO.out⟩
def FieldOK (fs : List MethN) (j : Nat) : Prop := (oneZ8 (nums (fs.getD j default).desc)).isSome = true ∧ plainN (nums (fs.getD j default).name) = true ∧ hasZ fs (fs.getD j default).name (fs.getD j default).desc = (j : Int)
def MethOK (ms : List MethN) (j : Nat) : Prop := ∃ x, Meth (nums (ms.getD j default).desc) x ∧ x.2.2 = 0 ∧ ((ms.getD j default).name = initB ∨ plainN (nums (ms.getD j default).name) = true) ∧ hasZ ms (ms.getD j default).name (ms.getD j default).desc = (j : Int) ∧ ((ms.getD j default).name = initB → (ms.getD j default).flags = 0 ∧ x.2.1.k = 8)
def MembersOK (k : KindV) : Prop := (∀ j, j < k.fields.length → FieldOK k.fields j) ∧ ∀ j, j < k.meths.length → MethOK k.meths j
theorem heap_drewN {w : World} {n b : Nat} {o : Option Obj} (h : w.heap[b]? = o) : (w.drewN n).heap[b]? = o := h
def Names (l : List MethN) : Prop := ∀ m ∈ l, m.name.size ≤ 281474976710656
set_option maxRecDepth 100000 in
theorem refMembers (pb : Nat) (k : KindV) (vf vm : Value) (w : World) (hf : MethNs w vf k.fields) (hm : MethNs w vm k.meths) (hfl : k.fields.length ≤ 1048576) (hml : k.meths.length ≤ 1048576) (hfd : Descs k.fields) (hmd : Descs k.meths) (hfn : Names k.fields) (hmn : Names k.meths) :
  Calls Tryz.prog 37 #[.pointer (some ⟨pb, 0, none⟩), .agg #[.string k.name, .string k.super, vf, vm, .int .i64 k.place]] w fun e w' => ∃ r, e = .returned (.bool r) ∧ (r = true ↔ MembersOK k) ∧ Only (fun _ => False) w w' := by
 obtain ⟨af, cf, rfl, p1, p2, p3, -⟩ := id hf
 obtain ⟨am, cm, rfl, m1, m2, m3, -⟩ := id hm
 have hr0 := heap_alloc_new w (.cells #[.string k.name, .string k.super, .slice af k.fields.length cf, .slice am k.meths.length cm, .int .i64 k.place] 77)
 have ho0 := (Only.refl (fun _ => False) w).alloc (.cells #[.string k.name, .string k.super, .slice af k.fields.length cf, .slice am k.meths.length cm, .int .i64 k.place] 77)
 have HF := hid hf
 have HM := hid hm
 have HFD := hid hfd
 have HMD := hid hmd
 have HFN := hid hfn
 have HMN := hid hmn
 have HR0 := hid hr0
 have HO0 := hid ho0
 have HOK : Hid (MembersOK k ↔ (∀ j, j < k.fields.length → FieldOK k.fields j) ∧ ∀ j, j < k.meths.length → MethOK k.meths j) := hid Iff.rfl
 generalize MembersOK k = ok at *
 clear hf hm hfd hmd hfn hmn hr0 ho0 p3 m3
 go_enter Tryz.func37, Tryz.ntmps37
 go_wp2
 go_loopw [5] (fun iv wr => ∃ j : Nat, iv = .int .i64 j ∧ j ≤ k.fields.length ∧ Hid (∀ i, i < j → FieldOK k.fields i) ∧ Hid (Only (fun _ => False) w wr) ∧ Hid (wr.heap[w.heap.size]? = some (.cells #[.string k.name, .string k.super, .slice af k.fields.length cf, .slice am k.meths.length cm, .int .i64 k.place] 77 (0, 0)))) (fun iv _ => k.fields.length - (intOf iv).toNat)
 case atStart => exact ⟨0, rfl, Nat.zero_le _, hid (fun i h => absurd h (Nat.not_lt_zero i)), HO0, HR0⟩
 case round =>
  obtain ⟨j, rfl, hj, HT, HO, HR⟩ := hrel
  obtain ⟨r0, r1, r2, r3, r4⟩ := cells5T HR.out
  by_cases hlt : j < k.fields.length
  ·have hjz : (j : Int) < (k.fields.length : Int) := by omega
   have hj0 : (0 : Int) ≤ (j : Int) := by omega
   obtain ⟨b, o, rfl, y0, y1, y2⟩ := Sl.at (HF.out.only HO.out) hlt
   have hdd := HFD.out _ (getD_memM hlt)
   have hnn := HFN.out _ (getD_memM hlt)
   have HFO : Hid (FieldOK k.fields j ↔ (oneZ8 (nums (k.fields.getD j default).desc)).isSome = true ∧ plainN (nums (k.fields.getD j default).name) = true ∧ hasZ k.fields (k.fields.getD j default).name (k.fields.getD j default).desc = (j : Int)) := hid Iff.rfl
   have CF0 := fun W => refField (k.fields.getD j default).desc W (by omega)
   have CP := hid (fun W => refPlainN (k.fields.getD j default).name W (by omega))
   have CH := hid (fun W (h : MethNs W (.slice (some ⟨b, o, none⟩) k.fields.length cf) k.fields) => refHas _ k.fields (k.fields.getD j default).name (k.fields.getD j default).desc W h (by omega))
   generalize k.fields.getD j default = m at *
   generalize plainN (nums m.name) = pl at *
   generalize hasZ k.fields m.name m.desc = hz at *
   clear r0 r1 r3 r4 hdd hnn
   cases hone : oneZ8 (nums m.desc) with
   | none =>
    have HB := hid (show ¬ ok from fun h => by have := (HFO.out.1 ((HOK.out.1 h).1 j hlt)).1; rw [hone] at this; cases this)
    rw [hone] at CF0
    unfold typO errO zeroT valT at CF0
    have CF := hid CF0
    clear CF0 hone
    go_wp2_with (fail)
    refine (CF.out _).mono ?_
    rintro e w3 ⟨rfl, ho3⟩
    have hal := (Only.refl (fun _ => False) w3).alloc (.cells #[.int .i64 0, .string ⟨#[]⟩, .int .i64 0, .int .i64 0, .int .i64 0] 33)
    have HO4 := hid ((HO.out.trans ho3 (fun _ h _ => h)).trans hal (fun _ h _ => h))
    have HR4 := hid (hal.heap (ho3.heap HR.out (fun h => h)) (fun h => h))
    obtain ⟨W, hW⟩ : ∃ W, w3.alloc (.cells #[.int .i64 0, .string ⟨#[]⟩, .int .i64 0, .int .i64 0, .int .i64 0] 33) = W := ⟨_, rfl⟩
    have HW := hid hW
    rw [hW] at HO4 HR4
    clear hal hW ho3 r2 y0 y1 y2
    obtain ⟨r0, r1, r2, r3, r4⟩ := cells5T HR4.out
    go_wp2
    rw [HW.out]
    go_quiet (fail)
    go_wp2
    go_ret
    exact ⟨false, rfl, ⟨(fun h => absurd h (by decide)), (fun h => absurd h HB.out)⟩, HO4.out.drewN _⟩
   | some t =>
    have HSM : Hid ((oneZ8 (nums m.desc)).isSome = true) := hid (by rw [hone]; rfl)
    rw [hone] at CF0
    unfold typO errO valT at CF0
    have CF := hid CF0
    clear CF0 hone
    go_wp2_with (fail)
    refine (CF.out _).mono ?_
    rintro e w3 ⟨rfl, ho3⟩
    have hal := (Only.refl (fun _ => False) w3).alloc (.cells #[.int .i64 t.k, .string t.name, .int .i64 t.dims, .int .i64 t.elem, .int .i64 t.at_] 33)
    have HO4 := hid ((HO.out.trans ho3 (fun _ h _ => h)).trans hal (fun _ h _ => h))
    have HR4 := hid (hal.heap (ho3.heap HR.out (fun h => h)) (fun h => h))
    have x0 := hal.cell (ho3.cell y0 (fun h => h)) (fun h => h)
    have x1 := hal.cell (ho3.cell y1 (fun h => h)) (fun h => h)
    obtain ⟨W, hW⟩ : ∃ W, w3.alloc (.cells #[.int .i64 t.k, .string t.name, .int .i64 t.dims, .int .i64 t.elem, .int .i64 t.at_] 33) = W := ⟨_, rfl⟩
    have HW := hid hW
    rw [hW] at HO4 HR4 x0 x1
    clear hal hW ho3 r2 y0 y1 y2
    obtain ⟨r0, r1, r2, r3, r4⟩ := cells5T HR4.out
    cases hpl : pl with
    | false =>
     have HB := hid (show ¬ ok from fun h => by have := (HFO.out.1 ((HOK.out.1 h).1 j hlt)).2.1; rw [hpl] at this; cases this)
     rw [hpl] at CP
     clear hpl
     go_wp2
     rw [HW.out]
     go_quiet (first | (go_at_call 36; exact Calls.quiet_of_same ((CP.out _).mono (fun _ _ h => ⟨h.1, h.2.symm⟩))) | (go_at_call 40; exact Calls.quiet_of_same ((CH.out _ (HF.out.only (HO4.out.drewN _))).mono (fun _ _ h => ⟨h.1, h.2.symm⟩))))
     go_wp2
     go_ret
     exact ⟨false, rfl, ⟨(fun h => absurd h (by decide)), (fun h => absurd h HB.out)⟩, HO4.out.drewN _⟩
    | true =>
     have HPT := hid hpl
     rw [hpl] at CP
     clear hpl
     by_cases hzj : hz = (j : Int)
     ·have HT2 : Hid (∀ i, i < j + 1 → FieldOK k.fields i) := hid (fun i hi => by
       by_cases e : i = j
       ·rw [e]; exact HFO.out.2 ⟨HSM.out, HPT.out, hzj⟩
       ·exact HT.out i (by omega))
      have hzb : (hz != (j : Int)) = false := by rw [bne_eq_false_iff_eq]; exact hzj
      clear hzj
      go_wp2
      rw [HW.out]
      go_quiet (first | (go_at_call 36; exact Calls.quiet_of_same ((CP.out _).mono (fun _ _ h => ⟨h.1, h.2.symm⟩))) | (go_at_call 40; exact Calls.quiet_of_same ((CH.out _ (HF.out.only (HO4.out.drewN _))).mono (fun _ _ h => ⟨h.1, h.2.symm⟩))))
      go_wp2
      go_roundw
      case rel => exact ⟨j + 1, by go_num, by omega, HT2, hid (HO4.out.drewN _), hid (heap_drewN HR4.out)⟩
      case measure => simp [intOf]; omega
     ·have HB := hid (show ¬ ok from fun h => hzj (HFO.out.1 ((HOK.out.1 h).1 j hlt)).2.2)
      have hzb : (hz != (j : Int)) = true := by rw [bne_iff_ne]; exact hzj
      clear hzj
      go_wp2
      rw [HW.out]
      go_quiet (first | (go_at_call 36; exact Calls.quiet_of_same ((CP.out _).mono (fun _ _ h => ⟨h.1, h.2.symm⟩))) | (go_at_call 40; exact Calls.quiet_of_same ((CH.out _ (HF.out.only (HO4.out.drewN _))).mono (fun _ _ h => ⟨h.1, h.2.symm⟩))))
      go_wp2
      go_ret
      exact ⟨false, rfl, ⟨(fun h => absurd h (by decide)), (fun h => absurd h HB.out)⟩, HO4.out.drewN _⟩
  ·obtain rfl : j = k.fields.length := by omega
   have HFT : Hid (∀ i, i < k.fields.length → FieldOK k.fields i) := hid (fun i hi => HT.out i (by omega))
   clear HT hlt hj r0 r1 r2 r3 r4
   have hr3 := (cells5T HR.out).2.2.1
   go_wp2
   clear hr3
   go_loopw [8] (fun iv wr => ∃ j : Nat, iv = .int .i64 j ∧ j ≤ k.meths.length ∧ Hid (∀ i, i < j → MethOK k.meths i) ∧ Hid (Only (fun _ => False) w wr) ∧ Hid (wr.heap[w.heap.size]? = some (.cells #[.string k.name, .string k.super, .slice af k.fields.length cf, .slice am k.meths.length cm, .int .i64 k.place] 77 (0, 0)))) (fun iv _ => k.meths.length - (intOf iv).toNat)
   case atStart => exact ⟨0, rfl, Nat.zero_le _, hid (fun i h => absurd h (Nat.not_lt_zero i)), HO, HR⟩
   case round =>
    clear HO HR
    obtain ⟨j, rfl, hj, HT, HO, HR⟩ := hrel
    obtain ⟨r0, r1, r2, r3, r4⟩ := cells5T HR.out
    by_cases hlt : j < k.meths.length
    ·have hjz : (j : Int) < (k.meths.length : Int) := by omega
     have hj0 : (0 : Int) ≤ (j : Int) := by omega
     obtain ⟨b, o, rfl, y0, y1, y2⟩ := Sl.at (HM.out.only HO.out) hlt
     have hdd := HMD.out _ (getD_memM hlt)
     have hnn := HMN.out _ (getD_memM hlt)
     have HMO : Hid (MethOK k.meths j ↔ ∃ x, Meth (nums (k.meths.getD j default).desc) x ∧ x.2.2 = 0 ∧ ((k.meths.getD j default).name = initB ∨ plainN (nums (k.meths.getD j default).name) = true) ∧ hasZ k.meths (k.meths.getD j default).name (k.meths.getD j default).desc = (j : Int) ∧ ((k.meths.getD j default).name = initB → (k.meths.getD j default).flags = 0 ∧ x.2.1.k = 8)) := hid Iff.rfl
     have CM : Hid (∀ W, Calls Tryz.prog 49 #[.string (k.meths.getD j default).desc] W (fun e w' => ∃ v l t er, e = .returned (.tuple #[v, .agg #[.int .i64 t.k, .string t.name, .int .i64 t.dims, .int .i64 t.elem, .int .i64 t.at_], .int .i64 er]) ∧ Meth (nums (k.meths.getD j default).desc) (l, t, er) ∧ Only (fun _ => False) W w')) := hid (fun W => by
      refine (refKMethod (k.meths.getD j default).desc W (by omega)).mono ?_
      rintro e w' ⟨v, ⟨l, t, er⟩, rfl, h2, h3, -⟩
      exact ⟨v, l, t, er, rfl, h2, h3⟩)
     have CP := hid (fun W => refPlainN (k.meths.getD j default).name W (by omega))
     have CH := hid (fun W (h : MethNs W (.slice (some ⟨b, o, none⟩) k.meths.length cm) k.meths) => refHas _ k.meths (k.meths.getD j default).name (k.meths.getD j default).desc W h (by omega))
     generalize k.meths.getD j default = m at *
     obtain ⟨nm, ds, fl⟩ := m
     simp only at HMO CM CP CH y0 y1 y2
     generalize hasZ k.meths nm ds = hz at *
     have hal0 := (Only.refl (fun _ => False) wr).alloc (.cells #[.string nm, .string ds, .int .i64 fl] 95)
     have hx0 := heap_alloc_new wr (.cells #[.string nm, .string ds, .int .i64 fl] 95)
     have x1 : (wr.alloc (.cells #[.string nm, .string ds, .int .i64 fl] 95)).cell? ⟨wr.heap.size, 1, none⟩ = some (.string ds) := cell_blk hx0 1
     have HAL := hid hal0
     have HX := hid hx0
     clear hdd hnn hal0 hx0
     go_wp2_with (fail)
     refine (CM.out _).mono ?_
     rintro e w3 ⟨v, l, t, er, rfl, hme, ho3⟩
     have hal := (Only.refl (fun _ => False) w3).alloc (.cells #[.int .i64 t.k, .string t.name, .int .i64 t.dims, .int .i64 t.elem, .int .i64 t.at_] 33)
     have hty := heap_alloc_new w3 (.cells #[.int .i64 t.k, .string t.name, .int .i64 t.dims, .int .i64 t.elem, .int .i64 t.at_] 33)
     have HO4 := hid (((HO.out.trans HAL.out (fun _ h _ => h)).trans ho3 (fun _ h _ => h)).trans hal (fun _ h _ => h))
     have HR4 := hid (hal.heap (ho3.heap (HAL.out.heap HR.out (fun h => h)) (fun h => h)) (fun h => h))
     have hx4 := hal.heap (ho3.heap HX.out (fun h => h)) (fun h => h)
     have q0 : (w3.alloc (.cells #[.int .i64 t.k, .string t.name, .int .i64 t.dims, .int .i64 t.elem, .int .i64 t.at_] 33)).cell? ⟨wr.heap.size, 0, none⟩ = some (.string nm) := cell_blk hx4 0
     have HME := hid hme
     clear hal ho3 r0 r1 r2 r3 r4 y0 y1 y2 x1 hme HX q0
     obtain ⟨r0, r1, r2, r3, r4⟩ := cells5T HR4.out
     have x0 : (w3.alloc (.cells #[.int .i64 t.k, .string t.name, .int .i64 t.dims, .int .i64 t.elem, .int .i64 t.at_] 33)).cell? ⟨wr.heap.size, 0, none⟩ = some (.string nm) := cell_blk hx4 0
     have x1 : (w3.alloc (.cells #[.int .i64 t.k, .string t.name, .int .i64 t.dims, .int .i64 t.elem, .int .i64 t.at_] 33)).cell? ⟨wr.heap.size, 1, none⟩ = some (.string ds) := cell_blk hx4 1
     have x2 : (w3.alloc (.cells #[.int .i64 t.k, .string t.name, .int .i64 t.dims, .int .i64 t.elem, .int .i64 t.at_] 33)).cell? ⟨wr.heap.size, 2, none⟩ = some (.int .i64 fl) := cell_blk hx4 2
     obtain ⟨t0, t1, t2, t3, t4⟩ := cells5T hty
     clear hx4 hty
     have hli := lit_init
     by_cases her : er = 0
     ·subst her
      by_cases hni : nm = initB
      ·unfold initB at hni
       subst hni
       by_cases hzj : hz = (j : Int)
       ·have hzb : (hz != (j : Int)) = false := by rw [bne_eq_false_iff_eq]; exact hzj
        by_cases hfl : fl = 0
        ·subst hfl
         by_cases htk : t.k = 8
         ·have HT2 : Hid (∀ i, i < j + 1 → MethOK k.meths i) := hid (fun i hi => by
           by_cases e : i = j
           ·rw [e]; exact HMO.out.2 ⟨_, HME.out, rfl, .inl rfl, hzj, (fun _ => ⟨rfl, htk⟩)⟩
           ·exact HT.out i (by omega))
          have htb : (t.k != 8) = false := by rw [bne_eq_false_iff_eq]; exact htk
          clear hzj htk
          go_wp2_with (fail)
          refine (CH.out _ (HM.out.only HO4.out)).mono ?_
          rintro e w8 ⟨rfl, hww⟩
          subst hww
          go_wp2
          go_roundw
          case rel => exact ⟨j + 1, by go_num, by omega, HT2, HO4, HR4⟩
          case measure => simp [intOf]; omega
         ·have HB := hid (show ¬ ok from fun h => by obtain ⟨x', h1', h2', h3', h4', h5'⟩ := HMO.out.1 ((HOK.out.1 h).2 j hlt); obtain rfl := Meth.unique h1' HME.out; exact htk (h5' rfl).2)
          have htb : (t.k != 8) = true := by rw [bne_iff_ne]; exact htk
          clear hzj htk
          go_wp2_with (fail)
          refine (CH.out _ (HM.out.only HO4.out)).mono ?_
          rintro e w8 ⟨rfl, hww⟩
          subst hww
          go_wp2
          go_ret
          exact ⟨false, rfl, ⟨(fun h => absurd h (by decide)), (fun h => absurd h HB.out)⟩, HO4.out⟩
        ·have HB := hid (show ¬ ok from fun h => by obtain ⟨x', h1', h2', h3', h4', h5'⟩ := HMO.out.1 ((HOK.out.1 h).2 j hlt); obtain rfl := Meth.unique h1' HME.out; exact hfl (h5' rfl).1)
         have hfb : (fl != 0) = true := by rw [bne_iff_ne]; exact hfl
         clear hzj hfl
         go_wp2_with (fail)
         refine (CH.out _ (HM.out.only HO4.out)).mono ?_
         rintro e w8 ⟨rfl, hww⟩
         subst hww
         go_wp2
         go_ret
         exact ⟨false, rfl, ⟨(fun h => absurd h (by decide)), (fun h => absurd h HB.out)⟩, HO4.out⟩
       ·have HB := hid (show ¬ ok from fun h => by obtain ⟨x', _, _, _, h4, _⟩ := HMO.out.1 ((HOK.out.1 h).2 j hlt); exact hzj h4)
        have hzb : (hz != (j : Int)) = true := by rw [bne_iff_ne]; exact hzj
        clear hzj
        go_wp2_with (fail)
        refine (CH.out _ (HM.out.only HO4.out)).mono ?_
        rintro e w8 ⟨rfl, hww⟩
        subst hww
        go_wp2
        go_ret
        exact ⟨false, rfl, ⟨(fun h => absurd h (by decide)), (fun h => absurd h HB.out)⟩, HO4.out⟩
      ·have HNI := hid hni
       obtain ⟨n1, n2⟩ := toList_beq hni
       unfold initB at n1 n2
       rw [lit_init] at n1 n2
       clear hni
       cases hpl : plainN (nums nm) with
       | false =>
        have HB := hid (show ¬ ok from fun h => by obtain ⟨x', _, _, h3', _, _⟩ := HMO.out.1 ((HOK.out.1 h).2 j hlt); exact h3'.elim HNI.out (fun h => by rw [hpl] at h; cases h))
        rw [hpl] at CP
        clear hpl
        go_wp2_with (fail)
        refine (CP.out _).mono ?_
        rintro e w8 ⟨rfl, hww⟩
        subst hww
        go_wp2
        go_ret
        exact ⟨false, rfl, ⟨(fun h => absurd h (by decide)), (fun h => absurd h HB.out)⟩, HO4.out⟩
       | true =>
        have HPT := hid hpl
        rw [hpl] at CP
        clear hpl
        by_cases hzj : hz = (j : Int)
        ·have hzb : (hz != (j : Int)) = false := by rw [bne_eq_false_iff_eq]; exact hzj
         have HT2 : Hid (∀ i, i < j + 1 → MethOK k.meths i) := hid (fun i hi => by
          by_cases e : i = j
          ·rw [e]; exact HMO.out.2 ⟨_, HME.out, rfl, .inr HPT.out, hzj, (fun e => absurd e HNI.out)⟩
          ·exact HT.out i (by omega))
         clear hzj
         go_wp2_with (fail)
         refine (CP.out _).mono ?_
         rintro e w8 ⟨rfl, hww⟩
         subst hww
         go_wp2_with (fail)
         refine (CH.out _ (HM.out.only HO4.out)).mono ?_
         rintro e w8 ⟨rfl, hww⟩
         subst hww
         go_wp2
         go_roundw
         case rel => exact ⟨j + 1, by go_num, by omega, HT2, HO4, HR4⟩
         case measure => simp [intOf]; omega
        ·have HB := hid (show ¬ ok from fun h => by obtain ⟨x', _, _, _, h4, _⟩ := HMO.out.1 ((HOK.out.1 h).2 j hlt); exact hzj h4)
         have hzb : (hz != (j : Int)) = true := by rw [bne_iff_ne]; exact hzj
         clear hzj
         go_wp2_with (fail)
         refine (CP.out _).mono ?_
         rintro e w8 ⟨rfl, hww⟩
         subst hww
         go_wp2_with (fail)
         refine (CH.out _ (HM.out.only HO4.out)).mono ?_
         rintro e w8 ⟨rfl, hww⟩
         subst hww
         go_wp2
         go_ret
         exact ⟨false, rfl, ⟨(fun h => absurd h (by decide)), (fun h => absurd h HB.out)⟩, HO4.out⟩
     ·have HB := hid (show ¬ ok from fun h => by obtain ⟨x', h1', h2', h3', h4', h5'⟩ := HMO.out.1 ((HOK.out.1 h).2 j hlt); obtain rfl := Meth.unique h1' HME.out; exact her h2')
      have heb : (er != 0) = true := by rw [bne_iff_ne]; exact her
      clear her
      go_wp2
      go_ret
      exact ⟨false, rfl, ⟨(fun h => absurd h (by decide)), (fun h => absurd h HB.out)⟩, HO4.out⟩
    ·have HT3 : Hid ok := hid (HOK.out.2 ⟨HFT.out, fun i hi => HT.out i (by omega)⟩)
     clear HT
     go_wp2
     go_ret
     exact ⟨true, rfl, ⟨(fun _ => HT3.out), (fun _ => rfl)⟩, HO.out⟩
theorem refText (v : Value) (cs : List ConstV) (i : Int) (w : World) (hp : Pool w v cs) :
  Calls Tryz.prog 58 #[v, .int .i64 i] w fun e w' => e = .returned (.tuple #[.string (textZ cs i).1, .bool (textZ cs i).2]) ∧ w = w' := by
 have cI := refIs v cs i 1 w hp
 obtain ⟨ao, cap, rfl, h1, h2, h3, h4, h5⟩ := id hp
 obtain ⟨q, hq⟩ : ∃ q, isZ cs i 1 = q := ⟨_, rfl⟩
 rw [hq] at cI
 cases q with
 | true =>
  obtain ⟨j, rfl, hj1, hj2, _⟩ := isZ_lt hq
  obtain ⟨b, o, rfl, hc⟩ := Pool.at hp hj2
  have g1 := hc.c1
  have hZ : textZ cs (j : Int) = ((cs.getD j default).text, true) := by unfold textZ; rw [if_pos hq]; rfl
  rw [hZ]
  have hjz : (j : Int) < (cs.length : Int) := by omega
  clear h3 h4 h5 hp hq hc hZ
  generalize (cs.getD j default).text = x at *
  go_enter Tryz.func58, Tryz.ntmps58
  go_wp2_with (fail)
  refine cI.mono ?_
  rintro e w1 ⟨rfl, rfl⟩
  clear cI
  go_wp2
  go_ret2
  exact ⟨rfl, rfl⟩
 | false =>
  have hZ : textZ cs i = (noT, false) := by unfold textZ; rw [if_neg (by rw [hq]; simp)]
  rw [hZ]
  clear h3 h4 h5 hp hq hZ
  go_enter Tryz.func58, Tryz.ntmps58
  go_wp2_with (fail)
  refine cI.mono ?_
  rintro e w1 ⟨rfl, rfl⟩
  clear cI
  go_wp2
  go_ret2
  exact ⟨rfl, rfl⟩
theorem refClass (v : Value) (cs : List ConstV) (i : Int) (w : World) (hp : Pool w v cs) :
  Calls Tryz.prog 24 #[v, .int .i64 i] w fun e w' => e = .returned (.tuple #[.string (classZ cs i).1, .bool (classZ cs i).2]) ∧ w = w' := by
 have cI := refIs v cs i 7 w hp
 obtain ⟨ao, cap, rfl, h1, h2, h3, h4, h5⟩ := id hp
 obtain ⟨q, hq⟩ : ∃ q, isZ cs i 7 = q := ⟨_, rfl⟩
 rw [hq] at cI
 cases q with
 | true =>
  obtain ⟨j, rfl, hj1, hj2, _⟩ := isZ_lt hq
  obtain ⟨b, o, rfl, hc⟩ := Pool.at hp hj2
  have g3 := hc.c3
  have hZ : classZ cs (j : Int) = textZ cs (cs.getD j default).a := by unfold classZ; rw [if_pos hq]; rfl
  have cT := refText _ cs (cs.getD j default).a w hp
  rw [hZ]
  have hjz : (j : Int) < (cs.length : Int) := by omega
  clear h3 h4 h5 hp hq hc hZ
  generalize (cs.getD j default).a = x at *
  go_enter Tryz.func24, Tryz.ntmps24
  go_wp2_with (fail)
  refine cI.mono ?_
  rintro e w1 ⟨rfl, rfl⟩
  clear cI
  go_wp2_with (fail)
  refine cT.mono ?_
  rintro e w1 ⟨rfl, rfl⟩
  clear cT
  go_wp2
  go_ret2
  exact ⟨rfl, rfl⟩
 | false =>
  have hZ : classZ cs i = (noT, false) := by unfold classZ; rw [if_neg (by rw [hq]; simp)]
  rw [hZ]
  clear h3 h4 h5 hp hq hZ
  go_enter Tryz.func24, Tryz.ntmps24
  go_wp2_with (fail)
  refine cI.mono ?_
  rintro e w1 ⟨rfl, rfl⟩
  clear cI
  go_wp2
  go_ret2
  exact ⟨rfl, rfl⟩
end Go.Proofs.YtinbelghhfodiaaGreatDoor
