import Derived.Test.YtinbelghhfodiaaGreatDoorMaTkH
import Derived.Test.YtinbelghhfodiaaGreatDoorMaLpRg
namespace Go.Proofs.YtinbelghhfodiaaGreatDoor
set_option maxHeartbeats 32000000
open Lib (hid)
open Go.RowKit Go.Maps
set_option linter.unusedVariables false
set_option linter.unusedSimpArgs false
theorem alloc_sz9 (w : World) (o : Obj) : (w.alloc o).heap.size = w.heap.size + 1 := by simp
theorem keepA {w W w1 : World} {a0 a1 a2 a3 : Addr} {v0 v1 v2 v3 : Value} (h : (W.cell? a0 = some v0 ∧ W.cell? a1 = some v1 ∧ W.cell? a2 = some v2 ∧ W.cell? a3 = some v3) ∧ Only (fun _ => False) w W) (ho : Only (fun _ => False) W w1) :
  (w1.cell? a0 = some v0 ∧ w1.cell? a1 = some v1 ∧ w1.cell? a2 = some v2 ∧ w1.cell? a3 = some v3) ∧ Only (fun _ => False) w w1 :=
 ⟨⟨ho.cell h.1.1 (fun h => h), ho.cell h.1.2.1 (fun h => h), ho.cell h.1.2.2.1 (fun h => h), ho.cell h.1.2.2.2 (fun h => h)⟩, h.2.trans ho (fun _ h _ => h)⟩
theorem keepS {w W : World} {b X : Nat} {v0 v1 v2 v3 : Value} {t : TypeId} {z : Array Value} (h : (W.cell? ⟨b, 0, none⟩ = some v0 ∧ W.cell? ⟨b, 1, none⟩ = some v1 ∧ W.cell? ⟨b, 2, none⟩ = some v2 ∧ W.cell? ⟨b, 3, none⟩ = some v3) ∧ Only (fun _ => False) w W)
  (hX : W.heap[X]? = some (.cells z t (0, 0))) (hge : w.heap.size ≤ X) (hr : Only (fun k => k = X) W W) (hne : b ≠ X) (x0 x1 x2 x3 x4 : Value) :
  ((((((W.setCell ⟨X, 0, none⟩ x0).setCell ⟨X, 1, none⟩ x1).setCell ⟨X, 2, none⟩ x2).setCell ⟨X, 3, none⟩ x3).setCell ⟨X, 4, none⟩ x4).cell? ⟨b, 0, none⟩ = some v0 ∧ (((((W.setCell ⟨X, 0, none⟩ x0).setCell ⟨X, 1, none⟩ x1).setCell ⟨X, 2, none⟩ x2).setCell ⟨X, 3, none⟩ x3).setCell ⟨X, 4, none⟩ x4).cell? ⟨b, 1, none⟩ = some v1 ∧
   (((((W.setCell ⟨X, 0, none⟩ x0).setCell ⟨X, 1, none⟩ x1).setCell ⟨X, 2, none⟩ x2).setCell ⟨X, 3, none⟩ x3).setCell ⟨X, 4, none⟩ x4).cell? ⟨b, 2, none⟩ = some v2 ∧ (((((W.setCell ⟨X, 0, none⟩ x0).setCell ⟨X, 1, none⟩ x1).setCell ⟨X, 2, none⟩ x2).setCell ⟨X, 3, none⟩ x3).setCell ⟨X, 4, none⟩ x4).cell? ⟨b, 3, none⟩ = some v3) ∧
  Only (fun _ => False) w (((((W.setCell ⟨X, 0, none⟩ x0).setCell ⟨X, 1, none⟩ x1).setCell ⟨X, 2, none⟩ x2).setCell ⟨X, 3, none⟩ x3).setCell ⟨X, 4, none⟩ x4) := by
 have ho := only5T (a0 := x0) (a1 := x1) (a2 := x2) (a3 := x3) (a4 := x4) hr (fun _ => rfl)
 exact ⟨⟨ho.cell h.1.1 hne, ho.cell h.1.2.1 hne, ho.cell h.1.2.2.1 hne, ho.cell h.1.2.2.2 hne⟩, h.2.trans ho (fun k hk hl => by subst hk; omega)⟩
section
variable {G : Nat → Prop} {fv : Nat → Value} {w : World} {pb : Nat} {ks : List KindV} {cl : Nat → ClassV} {sl : Nat → Nat → Int} (h : ProgG G fv w pb ks cl sl) (hg : GoodK ks)
 {lb i : Nat} {c : ClassV} {vp vf vm vof vom : Value} (hl : w.heap[lb]? = some (listedO i c vp vf vm vof vom)) (hp : Pool w vp c.pool) {k : KindV} (hks : k.super = (classZ c.pool c.super).1) (hsz : k.super.size ≤ 256) (hms : MemS w vom k.meths (fun _ => 0)) (h64 : k.meths.length ≤ 64)
include h hg
theorem pLookAny (c n d : ByteArray) (hc : c.size ≤ maxLen) :
  Calls Tryz.prog 138 #[.pointer (some ⟨pb, 0, none⟩), .string c, .string n, .string d] w (MemTo w (lookZ ks c n d)) := by
 by_cases hn : n = initB
 ·subst hn
  exact pLookI h hg c d
 ·exact pLook h hg c n d hc hn
include hl hp hks hsz hms h64
set_option maxRecDepth 100000 in
theorem pAgrees : Calls Tryz.prog 109 #[.pointer (some ⟨pb, 0, none⟩), .pointer (some ⟨lb, 0, none⟩)] w fun e w' => e = .returned (.bool (agreesZ ks k)) ∧ Only (fun _ => False) w w' := by
 have CM := hid (lMethods (lb := lb) hl)
 have CS := hid (fun (W : World) (ho : Only (fun _ => False) w W) => lSuper (ho.heap hl (fun h => h)) (hp.only ho (fun _ _ h => h)))
 rw [← hks] at CS
 have H := hid h
 have HG := hid hg
 have HV := hid hms
 have HSZ := hid hsz
 have HAZ : Hid (agreesZ ks k = (k.meths.drop 0).all (agreeM ks k.super)) := hid rfl
 obtain ⟨su, hsu⟩ : ∃ su, k.super = su := ⟨_, rfl⟩
 rw [hsu] at CS HSZ HAZ
 obtain ⟨l, hll⟩ : ∃ l, k.meths = l := ⟨_, rfl⟩
 rw [hll] at HV HAZ h64
 generalize agreesZ ks k = az at *
 obtain ⟨ao, cap, rfl, -, -, -, -⟩ := id HV.out
 have hlz : ((l.length : Nat) : Int) ≤ 64 := by omega
 clear h hg hl hp hks hsz hms hsu hll
 go_enter Tryz.func109, Tryz.ntmps109
 go_wp2_with (fail)
 refine CM.out.mono ?_
 rintro e w1 ⟨rfl, ho1⟩
 have HO1 := hid ho1
 clear CM ho1
 go_wp2
 go_loopw [6, 7, 8, 12] (fun _ _ _ iv wr => ∃ j : Nat, iv = .int .i64 j ∧ j ≤ l.length ∧ Hid (az = (l.drop j).all (agreeM ks su)) ∧ Hid (Only (fun _ => False) w wr)) (fun _ _ _ iv _ => l.length - (Lib.intOf iv).toNat)
 case atStart => exact ⟨0, rfl, Nat.zero_le _, HAZ, HO1⟩
 case round =>
  obtain ⟨j, rfl, hj, HT, HO⟩ := hrel
  by_cases hlt : j < l.length
  ·have hjz : (j : Int) < (l.length : Int) := by omega
   have hj0 : (0 : Int) ≤ (j : Int) := by omega
   obtain ⟨b, o, rfl, y0, y1, y2, y3⟩ := Sl.at (HV.out.only HO.out) hlt
   have HN := hid (all_at (f := agreeM ks su) hlt)
   rw [← HT.out] at HN
   obtain ⟨m, hm⟩ : ∃ m, l.getD j default = m := ⟨_, rfl⟩
   rw [hm] at y0 y1 y2 HN
   clear hm
   have y3 : wr.cell? ⟨b, o + j * 4 + 3, none⟩ = some (.int .i64 0) := y3
   have hal := (Only.refl (fun _ => False) wr).alloc (.cells #[.string m.name, .string m.desc, .int .i64 m.flags, .int .i64 0] 146)
   obtain ⟨t0, t1, t2, t3⟩ := cells4L (heap_alloc_new wr (.cells #[.string m.name, .string m.desc, .int .i64 m.flags, .int .i64 0] 146))
   have hgz : wr.heap.size < (wr.alloc (.cells #[.string m.name, .string m.desc, .int .i64 m.flags, .int .i64 0] 146)).heap.size := by rw [alloc_sz9]; omega
   obtain ⟨wb, hwb⟩ : ∃ wb, wr.alloc (.cells #[.string m.name, .string m.desc, .int .i64 m.flags, .int .i64 0] 146) = wb := ⟨_, rfl⟩
   rw [hwb] at hal t0 t1 t2 t3 hgz
   have HWB := hid hwb
   have hoB := HO.out.trans hal (fun _ h _ => h)
   have HS0 := hid (show (fun wc => (wc.cell? ⟨wr.heap.size, 0, none⟩ = some (.string m.name) ∧ wc.cell? ⟨wr.heap.size, 1, none⟩ = some (.string m.desc) ∧ wc.cell? ⟨wr.heap.size, 2, none⟩ = some (.int .i64 m.flags) ∧ wc.cell? ⟨wr.heap.size, 3, none⟩ = some (.int .i64 0)) ∧ Only (fun _ => False) w wc) (wb.drewN 1) from ⟨⟨t0, t1, t2, t3⟩, hoB.drewN 1⟩)
   have CL := hid (fun (W : World) (ho : Only (fun _ => False) w W) => pLookAny (H.out.only ho) HG.out su m.name m.desc (by have := HSZ.out; unfold maxLen; omega))
   obtain ⟨oz, hoz⟩ : ∃ oz, lookZ ks su m.name m.desc = oz := ⟨_, rfl⟩
   have HAM : Hid (agreeM ks su m = agreeO oz m) := hid (by rw [← hoz]; rfl)
   rw [hoz] at CL
   obtain ⟨a, ha⟩ : ∃ a, memO oz = a := ⟨_, rfl⟩
   obtain ⟨er, her⟩ : ∃ er, errM oz = er := ⟨_, rfl⟩
   have HM := hid ha
   have HER := hid her
   have HGZ := hid hgz
   clear hal t0 t1 t2 t3 hwb hoB hoz ha her hgz
   go_wp2
   rw [HWB.out]
   refine wp_region_held_drew (S := fun wc => (wc.cell? ⟨wr.heap.size, 0, none⟩ = some (.string m.name) ∧ wc.cell? ⟨wr.heap.size, 1, none⟩ = some (.string m.desc) ∧ wc.cell? ⟨wr.heap.size, 2, none⟩ = some (.int .i64 m.flags) ∧ wc.cell? ⟨wr.heap.size, 3, none⟩ = some (.int .i64 0)) ∧ Only (fun _ => False) w wc) (by kernel_rfl) HS0.out (fun hHeld => ?_)
   refine tk2 0 (h := ?_)
   refine tk2 1 (h := ?_)
   refine tk2 3 (h := ?_)
   refine tk2 4 (h := ?_)
   refine tk2 5 (h := ?_)
   refine tk2 6 (h := ?_)
   refine wpAnyH_ready (rs := [2, 11]) (by kernel_rfl) (by simp) ?_
   refine AllReadyH.cons (by simp only [List.getElem?_toArray, List.getElem?_cons_succ, List.getElem?_cons_zero]; rfl) (fun K hK => ?_) (AllReadyH.cons (by simp only [List.getElem?_toArray, List.getElem?_cons_succ, List.getElem?_cons_zero]; rfl) (fun K hK => ?_) (AllReadyH.nil))
   ·go_simp
    refine (CS.out _ hHeld.2).mono ?_
    rintro e w2 ⟨rfl, ho⟩
    have HQ := hid (keepA hHeld ho)
    clear ho
    go_wp2_with fail
    refine hK.out _ _ ?_ (fun hHeld2 => ?_)
    ·exact HQ.out
    clear hK K
    try simp only [Act.put, sIB, sC0, sCS]
    clear hHeld
    have hHeld := hHeld2
    clear hHeld2
    refine wpAnyH_ready (rs := [7, 11]) (by kernel_rfl) (by simp) ?_
    refine AllReadyH.cons (by simp only [List.getElem?_toArray, List.getElem?_cons_succ, List.getElem?_cons_zero]; rfl) (fun K hK => ?_) (AllReadyH.cons (by simp only [List.getElem?_toArray, List.getElem?_cons_succ, List.getElem?_cons_zero]; rfl) (fun K hK => ?_) (AllReadyH.nil))
    ·go_simp
     refine (CL.out _ hHeld.2).mono ?_
     rintro e w3 ⟨rfl, ho⟩
     have HQ := hid (keepA hHeld ho)
     clear ho
     rw [HM.out, HER.out]
     unfold valM
     go_wp2_with fail
     refine hK.out _ _ ?_ (fun hHeld2 => ?_)
     ·exact HQ.out
     clear hK K
     try simp only [Act.put, sIB, sC0, sCS]
     clear hHeld
     have hHeld := hHeld2
     clear hHeld2
     refine tk2 8 (h := ?_)
     refine tk2 9 (h := ?_)
     refine tk2 10 (h := ?_)
     refine tkR 11 (h := fun K hK => ?_)
     have HQB := hid (And.intro hHeld.2.size (Nat.ne_of_lt (World.block_lt_of_cell? _ _ hHeld.1.1)))
     go_simp
     have HQ := hid (keepA hHeld ((Only.refl (fun _ => False) w3).alloc (.cells #[.int .i64 0, .int .i64 0, .string ⟨#[]⟩, .bool false, .int .i64 0] 138)))
     have HX := hid (heap_alloc_new w3 (.cells #[.int .i64 0, .int .i64 0, .string ⟨#[]⟩, .bool false, .int .i64 0] 138))
     refine hK.out _ _ ?_ (fun hHeld2 => ?_)
     ·exact HQ.out
     clear hK K
     try simp only [Act.put, sIB, sC0, sCS]
     clear hHeld
     have hHeld := hHeld2
     clear hHeld2
     obtain ⟨X, hX⟩ : ∃ x, w3.heap.size = x := ⟨_, rfl⟩
     obtain ⟨wx, hwx⟩ : ∃ x, w3.alloc (.cells #[.int .i64 0, .int .i64 0, .string ⟨#[]⟩, .bool false, .int .i64 0] 138) = x := ⟨_, rfl⟩
     have HXX := hid HX.out
     clear HX
     have HX := hid (show wx.heap[X]? = some (.cells #[.int .i64 0, .int .i64 0, .string ⟨#[]⟩, .bool false, .int .i64 0] 138 (0, 0)) from by rw [← hwx, ← hX]; exact HXX.out)
     have HXG := hid (show w.heap.size ≤ X by rw [← hX]; exact HQB.out.1); have HNX0 := hid (show wr.heap.size ≠ X by rw [← hX]; exact HQB.out.2)
     rw [hX, hwx]
     replace hHeld : (fun wc => (wc.cell? ⟨wr.heap.size, 0, none⟩ = some (.string m.name) ∧ wc.cell? ⟨wr.heap.size, 1, none⟩ = some (.string m.desc) ∧ wc.cell? ⟨wr.heap.size, 2, none⟩ = some (.int .i64 m.flags) ∧ wc.cell? ⟨wr.heap.size, 3, none⟩ = some (.int .i64 0)) ∧ Only (fun _ => False) w wc) wx := by rw [← hwx]; exact hHeld
     dsimp only at hHeld
     clear HXX hX hwx
     obtain ⟨x0, x1, x2, x3, x4⟩ := cells5T HX.out
     obtain ⟨v0, v1, v2, v3, v4⟩ := marks5T HX.out
     refine tkR 12 (h := fun K hK => ?_)
     go_simp
     have HQ := hid (keepS hHeld HX.out HXG.out (Only.refl (fun k => k = X) wx) HNX0.out (.int .i64 a.cls) (.int .i64 a.place) (.string a.desc) (.bool a.static) (.int .i64 a.slot))
     refine hK.out _ _ ?_ (fun hHeld2 => ?_)
     ·exact HQ.out
     clear hK K
     try simp only [Act.put, sIB, sC0, sCS]
     clear hHeld
     have hHeld := hHeld2
     clear hHeld2
     refine tk2 13 (h := ?_)
     refine wpAnyH_done (by kernel_rfl) ?_ _
     have HXF := hid (store5T (a0 := (.int .i64 a.cls)) (a1 := (.int .i64 a.place)) (a2 := (.string a.desc)) (a3 := (.bool a.static)) (a4 := (.int .i64 a.slot)) HX.out)
     obtain ⟨wf, hwf⟩ : ∃ x, (((((wx.setCell ⟨X, 0, none⟩ (.int .i64 a.cls)).setCell ⟨X, 1, none⟩ (.int .i64 a.place)).setCell ⟨X, 2, none⟩ (.string a.desc)).setCell ⟨X, 3, none⟩ (.bool a.static)).setCell ⟨X, 4, none⟩ (.int .i64 a.slot)) = x := ⟨_, rfl⟩
     rw [hwf] at HXF hHeld ⊢
     clear hwf x0 x1 x2 x3 x4 v0 v1 v2 v3 v4 HX
     have x3 := cell_blk HXF.out 3
     have HS5 := hid (show (fun wc => (wc.cell? ⟨X, 3, none⟩ = some (.bool a.static) ∧ wc.cell? ⟨wr.heap.size, 0, none⟩ = some (.string m.name) ∧ wc.cell? ⟨wr.heap.size, 1, none⟩ = some (.string m.desc) ∧ wc.cell? ⟨wr.heap.size, 2, none⟩ = some (.int .i64 m.flags) ∧ wc.cell? ⟨wr.heap.size, 3, none⟩ = some (.int .i64 0)) ∧ Only (fun _ => False) w wc) (wf.drewN 1) from ⟨⟨x3, hHeld.1⟩, hHeld.2.drewN 1⟩)
     have HOF := hid hHeld.2
     clear x3 hHeld HQ HXF
     have HRES := hid HN.out
     rw [HAM.out] at HRES
     cases oz with
     | none =>
      have h1 : a = zeroM := HM.out.symm
      have h2 : er = 91 := HER.out.symm
      subst h1
      subst h2
      have HNX := hid (show az = (l.drop (j + 1)).all (agreeM ks su) from HRES.out)
      go_wp2
      refine wp_region_held_drew (S := fun wc => (wc.cell? ⟨X, 3, none⟩ = some (.bool zeroM.static) ∧ wc.cell? ⟨wr.heap.size, 0, none⟩ = some (.string m.name) ∧ wc.cell? ⟨wr.heap.size, 1, none⟩ = some (.string m.desc) ∧ wc.cell? ⟨wr.heap.size, 2, none⟩ = some (.int .i64 m.flags) ∧ wc.cell? ⟨wr.heap.size, 3, none⟩ = some (.int .i64 0)) ∧ Only (fun _ => False) w wc) (by kernel_rfl) HS5.out (fun hHeld => ?_)
      refine tk2 0 (h := ?_)
      refine tk2 1 (h := ?_)
      refine tk2 2 (h := ?_)
      refine tk3 3 (h := ?_)
      refine tk3 4 (h := ?_)
      refine tk3 5 (h := ?_)
      refine tk3 6 (h := ?_)
      refine tk3 7 (h := ?_)
      refine tk2 8 (h := ?_)
      refine wpAnyH_done (by kernel_rfl) ?_ _
      have HF := hid hHeld.2
      clear hHeld HS5
      go_wp2
      go_roundw
      case rel => exact ⟨j + 1, by go_num, by omega, HNX, HF⟩
      case measure => simp [Lib.intOf]; omega
     | some a' =>
      have h1 : a' = a := HM.out
      have h2 : er = 0 := HER.out.symm
      subst h1
      subst h2
      have HRE2 := hid (show az = ((a'.static == (m.flags == 8)) && (l.drop (j + 1)).all (agreeM ks su)) from HRES.out)
      go_wp2
      refine wp_region_held_drew (S := fun wc => (wc.cell? ⟨X, 3, none⟩ = some (.bool a'.static) ∧ wc.cell? ⟨wr.heap.size, 0, none⟩ = some (.string m.name) ∧ wc.cell? ⟨wr.heap.size, 1, none⟩ = some (.string m.desc) ∧ wc.cell? ⟨wr.heap.size, 2, none⟩ = some (.int .i64 m.flags) ∧ wc.cell? ⟨wr.heap.size, 3, none⟩ = some (.int .i64 0)) ∧ Only (fun _ => False) w wc) (by kernel_rfl) HS5.out (fun hHeld => ?_)
      refine tk2 0 (h := ?_)
      refine tk2 1 (h := ?_)
      refine tk2 2 (h := ?_)
      refine tk2 3 (h := ?_)
      refine tk2 4 (h := ?_)
      refine tk2 5 (h := ?_)
      refine tkR 6 (h := fun K hK => ?_)
      go_simp
      (refine (pStatic m 0 _).mono ?_; rintro e w6 ⟨rfl, ho⟩; have HQ5 := hid (show (fun wc => (wc.cell? ⟨X, 3, none⟩ = some (.bool a'.static) ∧ wc.cell? ⟨wr.heap.size, 0, none⟩ = some (.string m.name) ∧ wc.cell? ⟨wr.heap.size, 1, none⟩ = some (.string m.desc) ∧ wc.cell? ⟨wr.heap.size, 2, none⟩ = some (.int .i64 m.flags) ∧ wc.cell? ⟨wr.heap.size, 3, none⟩ = some (.int .i64 0)) ∧ Only (fun _ => False) w wc) w6 from ⟨⟨ho.cell hHeld.1.1 (fun h => h), ho.cell hHeld.1.2.1 (fun h => h), ho.cell hHeld.1.2.2.1 (fun h => h), ho.cell hHeld.1.2.2.2.1 (fun h => h), ho.cell hHeld.1.2.2.2.2 (fun h => h)⟩, hHeld.2.trans ho (fun _ h _ => h)⟩); clear ho)
      go_wp2_with fail
      refine hK.out _ _ ?_ (fun hHeld2 => ?_)
      ·exact HQ5.out
      clear hK K
      try simp only [Act.put, sIB, sC0, sCS]
      clear hHeld
      have hHeld := hHeld2
      clear hHeld2
      refine tk2 7 (h := ?_)
      refine tk2 8 (h := ?_)
      refine wpAnyH_done (by kernel_rfl) ?_ _
      have HF := hid hHeld.2
      clear hHeld HS5 HQ5
      generalize a'.static = sa at *
      generalize (m.flags == 8) = sb at *
      cases sa <;> cases sb
      all_goals first
       | (have HNX := hid (show az = (l.drop (j + 1)).all (agreeM ks su) from HRE2.out); go_wp2; go_roundw; (case rel => exact ⟨j + 1, by go_num, by omega, HNX, HF⟩); (case measure => simp [Lib.intOf]; omega))
       | (have HNX := hid (show az = false from HRE2.out); go_wp2; go_ret; rw [HNX.out]; exact ⟨rfl, HF.out⟩)
    ·have HQB := hid (And.intro hHeld.2.size (Nat.ne_of_lt (World.block_lt_of_cell? _ _ hHeld.1.1)))
     go_simp
     have HQ := hid (keepA hHeld ((Only.refl (fun _ => False) w2).alloc (.cells #[.int .i64 0, .int .i64 0, .string ⟨#[]⟩, .bool false, .int .i64 0] 138)))
     have HX := hid (heap_alloc_new w2 (.cells #[.int .i64 0, .int .i64 0, .string ⟨#[]⟩, .bool false, .int .i64 0] 138))
     refine hK.out _ _ ?_ (fun hHeld2 => ?_)
     ·exact HQ.out
     clear hK K
     try simp only [Act.put, sIB, sC0, sCS]
     clear hHeld
     have hHeld := hHeld2
     clear hHeld2
     obtain ⟨X, hX⟩ : ∃ x, w2.heap.size = x := ⟨_, rfl⟩
     obtain ⟨wx, hwx⟩ : ∃ x, w2.alloc (.cells #[.int .i64 0, .int .i64 0, .string ⟨#[]⟩, .bool false, .int .i64 0] 138) = x := ⟨_, rfl⟩
     have HXX := hid HX.out
     clear HX
     have HX := hid (show wx.heap[X]? = some (.cells #[.int .i64 0, .int .i64 0, .string ⟨#[]⟩, .bool false, .int .i64 0] 138 (0, 0)) from by rw [← hwx, ← hX]; exact HXX.out)
     have HXG := hid (show w.heap.size ≤ X by rw [← hX]; exact HQB.out.1); have HNX0 := hid (show wr.heap.size ≠ X by rw [← hX]; exact HQB.out.2)
     rw [hX, hwx]
     replace hHeld : (fun wc => (wc.cell? ⟨wr.heap.size, 0, none⟩ = some (.string m.name) ∧ wc.cell? ⟨wr.heap.size, 1, none⟩ = some (.string m.desc) ∧ wc.cell? ⟨wr.heap.size, 2, none⟩ = some (.int .i64 m.flags) ∧ wc.cell? ⟨wr.heap.size, 3, none⟩ = some (.int .i64 0)) ∧ Only (fun _ => False) w wc) wx := by rw [← hwx]; exact hHeld
     dsimp only at hHeld
     clear HXX hX hwx
     refine tkR 7 (h := fun K hK => ?_)
     go_simp
     refine (CL.out _ hHeld.2).mono ?_
     rintro e w3 ⟨rfl, ho⟩
     have HQ := hid (keepA hHeld ho)
     have HX := hid (ho.heap HX.out (fun h => h))
     clear ho
     rw [HM.out, HER.out]
     unfold valM
     go_wp2_with fail
     refine hK.out _ _ ?_ (fun hHeld2 => ?_)
     ·exact HQ.out
     clear hK K
     try simp only [Act.put, sIB, sC0, sCS]
     clear hHeld
     have hHeld := hHeld2
     clear hHeld2
     refine tk2 8 (h := ?_)
     refine tk2 9 (h := ?_)
     refine tk2 10 (h := ?_)
     obtain ⟨x0, x1, x2, x3, x4⟩ := cells5T HX.out
     obtain ⟨v0, v1, v2, v3, v4⟩ := marks5T HX.out
     refine tkR 12 (h := fun K hK => ?_)
     go_simp
     have HQ := hid (keepS hHeld HX.out HXG.out (Only.refl (fun k => k = X) w3) HNX0.out (.int .i64 a.cls) (.int .i64 a.place) (.string a.desc) (.bool a.static) (.int .i64 a.slot))
     refine hK.out _ _ ?_ (fun hHeld2 => ?_)
     ·exact HQ.out
     clear hK K
     try simp only [Act.put, sIB, sC0, sCS]
     clear hHeld
     have hHeld := hHeld2
     clear hHeld2
     refine tk2 13 (h := ?_)
     refine wpAnyH_done (by kernel_rfl) ?_ _
     have HXF := hid (store5T (a0 := (.int .i64 a.cls)) (a1 := (.int .i64 a.place)) (a2 := (.string a.desc)) (a3 := (.bool a.static)) (a4 := (.int .i64 a.slot)) HX.out)
     obtain ⟨wf, hwf⟩ : ∃ x, (((((w3.setCell ⟨X, 0, none⟩ (.int .i64 a.cls)).setCell ⟨X, 1, none⟩ (.int .i64 a.place)).setCell ⟨X, 2, none⟩ (.string a.desc)).setCell ⟨X, 3, none⟩ (.bool a.static)).setCell ⟨X, 4, none⟩ (.int .i64 a.slot)) = x := ⟨_, rfl⟩
     rw [hwf] at HXF hHeld ⊢
     clear hwf x0 x1 x2 x3 x4 v0 v1 v2 v3 v4 HX
     have x3 := cell_blk HXF.out 3
     have HS5 := hid (show (fun wc => (wc.cell? ⟨X, 3, none⟩ = some (.bool a.static) ∧ wc.cell? ⟨wr.heap.size, 0, none⟩ = some (.string m.name) ∧ wc.cell? ⟨wr.heap.size, 1, none⟩ = some (.string m.desc) ∧ wc.cell? ⟨wr.heap.size, 2, none⟩ = some (.int .i64 m.flags) ∧ wc.cell? ⟨wr.heap.size, 3, none⟩ = some (.int .i64 0)) ∧ Only (fun _ => False) w wc) (wf.drewN 1) from ⟨⟨x3, hHeld.1⟩, hHeld.2.drewN 1⟩)
     have HOF := hid hHeld.2
     clear x3 hHeld HQ HXF
     have HRES := hid HN.out
     rw [HAM.out] at HRES
     cases oz with
     | none =>
      have h1 : a = zeroM := HM.out.symm
      have h2 : er = 91 := HER.out.symm
      subst h1
      subst h2
      have HNX := hid (show az = (l.drop (j + 1)).all (agreeM ks su) from HRES.out)
      go_wp2
      refine wp_region_held_drew (S := fun wc => (wc.cell? ⟨X, 3, none⟩ = some (.bool zeroM.static) ∧ wc.cell? ⟨wr.heap.size, 0, none⟩ = some (.string m.name) ∧ wc.cell? ⟨wr.heap.size, 1, none⟩ = some (.string m.desc) ∧ wc.cell? ⟨wr.heap.size, 2, none⟩ = some (.int .i64 m.flags) ∧ wc.cell? ⟨wr.heap.size, 3, none⟩ = some (.int .i64 0)) ∧ Only (fun _ => False) w wc) (by kernel_rfl) HS5.out (fun hHeld => ?_)
      refine tk2 0 (h := ?_)
      refine tk2 1 (h := ?_)
      refine tk2 2 (h := ?_)
      refine tk3 3 (h := ?_)
      refine tk3 4 (h := ?_)
      refine tk3 5 (h := ?_)
      refine tk3 6 (h := ?_)
      refine tk3 7 (h := ?_)
      refine tk2 8 (h := ?_)
      refine wpAnyH_done (by kernel_rfl) ?_ _
      have HF := hid hHeld.2
      clear hHeld HS5
      go_wp2
      go_roundw
      case rel => exact ⟨j + 1, by go_num, by omega, HNX, HF⟩
      case measure => simp [Lib.intOf]; omega
     | some a' =>
      have h1 : a' = a := HM.out
      have h2 : er = 0 := HER.out.symm
      subst h1
      subst h2
      have HRE2 := hid (show az = ((a'.static == (m.flags == 8)) && (l.drop (j + 1)).all (agreeM ks su)) from HRES.out)
      go_wp2
      refine wp_region_held_drew (S := fun wc => (wc.cell? ⟨X, 3, none⟩ = some (.bool a'.static) ∧ wc.cell? ⟨wr.heap.size, 0, none⟩ = some (.string m.name) ∧ wc.cell? ⟨wr.heap.size, 1, none⟩ = some (.string m.desc) ∧ wc.cell? ⟨wr.heap.size, 2, none⟩ = some (.int .i64 m.flags) ∧ wc.cell? ⟨wr.heap.size, 3, none⟩ = some (.int .i64 0)) ∧ Only (fun _ => False) w wc) (by kernel_rfl) HS5.out (fun hHeld => ?_)
      refine tk2 0 (h := ?_)
      refine tk2 1 (h := ?_)
      refine tk2 2 (h := ?_)
      refine tk2 3 (h := ?_)
      refine tk2 4 (h := ?_)
      refine tk2 5 (h := ?_)
      refine tkR 6 (h := fun K hK => ?_)
      go_simp
      (refine (pStatic m 0 _).mono ?_; rintro e w6 ⟨rfl, ho⟩; have HQ5 := hid (show (fun wc => (wc.cell? ⟨X, 3, none⟩ = some (.bool a'.static) ∧ wc.cell? ⟨wr.heap.size, 0, none⟩ = some (.string m.name) ∧ wc.cell? ⟨wr.heap.size, 1, none⟩ = some (.string m.desc) ∧ wc.cell? ⟨wr.heap.size, 2, none⟩ = some (.int .i64 m.flags) ∧ wc.cell? ⟨wr.heap.size, 3, none⟩ = some (.int .i64 0)) ∧ Only (fun _ => False) w wc) w6 from ⟨⟨ho.cell hHeld.1.1 (fun h => h), ho.cell hHeld.1.2.1 (fun h => h), ho.cell hHeld.1.2.2.1 (fun h => h), ho.cell hHeld.1.2.2.2.1 (fun h => h), ho.cell hHeld.1.2.2.2.2 (fun h => h)⟩, hHeld.2.trans ho (fun _ h _ => h)⟩); clear ho)
      go_wp2_with fail
      refine hK.out _ _ ?_ (fun hHeld2 => ?_)
      ·exact HQ5.out
      clear hK K
      try simp only [Act.put, sIB, sC0, sCS]
      clear hHeld
      have hHeld := hHeld2
      clear hHeld2
      refine tk2 7 (h := ?_)
      refine tk2 8 (h := ?_)
      refine wpAnyH_done (by kernel_rfl) ?_ _
      have HF := hid hHeld.2
      clear hHeld HS5 HQ5
      generalize a'.static = sa at *
      generalize (m.flags == 8) = sb at *
      cases sa <;> cases sb
      all_goals first
       | (have HNX := hid (show az = (l.drop (j + 1)).all (agreeM ks su) from HRE2.out); go_wp2; go_roundw; (case rel => exact ⟨j + 1, by go_num, by omega, HNX, HF⟩); (case measure => simp [Lib.intOf]; omega))
       | (have HNX := hid (show az = false from HRE2.out); go_wp2; go_ret; rw [HNX.out]; exact ⟨rfl, HF.out⟩)
   ·have HQB := hid (And.intro hHeld.2.size (Nat.ne_of_lt (World.block_lt_of_cell? _ _ hHeld.1.1)))
    go_simp
    have HQ := hid (keepA hHeld ((Only.refl (fun _ => False) (wb.drewN 1)).alloc (.cells #[.int .i64 0, .int .i64 0, .string ⟨#[]⟩, .bool false, .int .i64 0] 138)))
    have HX := hid (heap_alloc_new (wb.drewN 1) (.cells #[.int .i64 0, .int .i64 0, .string ⟨#[]⟩, .bool false, .int .i64 0] 138))
    refine hK.out _ _ ?_ (fun hHeld2 => ?_)
    ·exact HQ.out
    clear hK K
    try simp only [Act.put, sIB, sC0, sCS]
    clear hHeld
    have hHeld := hHeld2
    clear hHeld2
    obtain ⟨X, hX⟩ : ∃ x, wb.heap.size = x := ⟨_, rfl⟩
    obtain ⟨wx, hwx⟩ : ∃ x, (wb.alloc (.cells #[.int .i64 0, .int .i64 0, .string ⟨#[]⟩, .bool false, .int .i64 0] 138)).drew = x := ⟨_, rfl⟩
    have HXX := hid HX.out
    clear HX
    have HX := hid (show wx.heap[X]? = some (.cells #[.int .i64 0, .int .i64 0, .string ⟨#[]⟩, .bool false, .int .i64 0] 138 (0, 0)) from by rw [← hwx, ← hX]; exact HXX.out)
    have HXG := hid (show w.heap.size ≤ X by rw [← hX]; exact HQB.out.1); have HNX0 := hid (show wr.heap.size ≠ X by rw [← hX]; exact HQB.out.2)
    rw [hX, hwx]
    replace hHeld : (fun wc => (wc.cell? ⟨wr.heap.size, 0, none⟩ = some (.string m.name) ∧ wc.cell? ⟨wr.heap.size, 1, none⟩ = some (.string m.desc) ∧ wc.cell? ⟨wr.heap.size, 2, none⟩ = some (.int .i64 m.flags) ∧ wc.cell? ⟨wr.heap.size, 3, none⟩ = some (.int .i64 0)) ∧ Only (fun _ => False) w wc) wx := by rw [← hwx]; exact hHeld
    dsimp only at hHeld
    clear HXX hX hwx
    refine tkR 2 (h := fun K hK => ?_)
    go_simp
    refine (CS.out _ hHeld.2).mono ?_
    rintro e w2 ⟨rfl, ho⟩
    have HQ := hid (keepA hHeld ho)
    have HX := hid (ho.heap HX.out (fun h => h))
    clear ho
    go_wp2_with fail
    refine hK.out _ _ ?_ (fun hHeld2 => ?_)
    ·exact HQ.out
    clear hK K
    try simp only [Act.put, sIB, sC0, sCS]
    clear hHeld
    have hHeld := hHeld2
    clear hHeld2
    refine tkR 7 (h := fun K hK => ?_)
    go_simp
    refine (CL.out _ hHeld.2).mono ?_
    rintro e w3 ⟨rfl, ho⟩
    have HQ := hid (keepA hHeld ho)
    have HX := hid (ho.heap HX.out (fun h => h))
    clear ho
    rw [HM.out, HER.out]
    unfold valM
    go_wp2_with fail
    refine hK.out _ _ ?_ (fun hHeld2 => ?_)
    ·exact HQ.out
    clear hK K
    try simp only [Act.put, sIB, sC0, sCS]
    clear hHeld
    have hHeld := hHeld2
    clear hHeld2
    refine tk2 8 (h := ?_)
    refine tk2 9 (h := ?_)
    refine tk2 10 (h := ?_)
    obtain ⟨x0, x1, x2, x3, x4⟩ := cells5T HX.out
    obtain ⟨v0, v1, v2, v3, v4⟩ := marks5T HX.out
    refine tkR 12 (h := fun K hK => ?_)
    go_simp
    have HQ := hid (keepS hHeld HX.out HXG.out (Only.refl (fun k => k = X) w3) HNX0.out (.int .i64 a.cls) (.int .i64 a.place) (.string a.desc) (.bool a.static) (.int .i64 a.slot))
    refine hK.out _ _ ?_ (fun hHeld2 => ?_)
    ·exact HQ.out
    clear hK K
    try simp only [Act.put, sIB, sC0, sCS]
    clear hHeld
    have hHeld := hHeld2
    clear hHeld2
    refine tk2 13 (h := ?_)
    refine wpAnyH_done (by kernel_rfl) ?_ _
    have HXF := hid (store5T (a0 := (.int .i64 a.cls)) (a1 := (.int .i64 a.place)) (a2 := (.string a.desc)) (a3 := (.bool a.static)) (a4 := (.int .i64 a.slot)) HX.out)
    obtain ⟨wf, hwf⟩ : ∃ x, (((((w3.setCell ⟨X, 0, none⟩ (.int .i64 a.cls)).setCell ⟨X, 1, none⟩ (.int .i64 a.place)).setCell ⟨X, 2, none⟩ (.string a.desc)).setCell ⟨X, 3, none⟩ (.bool a.static)).setCell ⟨X, 4, none⟩ (.int .i64 a.slot)) = x := ⟨_, rfl⟩
    rw [hwf] at HXF hHeld ⊢
    clear hwf x0 x1 x2 x3 x4 v0 v1 v2 v3 v4 HX
    have x3 := cell_blk HXF.out 3
    have HS5 := hid (show (fun wc => (wc.cell? ⟨X, 3, none⟩ = some (.bool a.static) ∧ wc.cell? ⟨wr.heap.size, 0, none⟩ = some (.string m.name) ∧ wc.cell? ⟨wr.heap.size, 1, none⟩ = some (.string m.desc) ∧ wc.cell? ⟨wr.heap.size, 2, none⟩ = some (.int .i64 m.flags) ∧ wc.cell? ⟨wr.heap.size, 3, none⟩ = some (.int .i64 0)) ∧ Only (fun _ => False) w wc) (wf.drewN 1) from ⟨⟨x3, hHeld.1⟩, hHeld.2.drewN 1⟩)
    have HOF := hid hHeld.2
    clear x3 hHeld HQ HXF
    have HRES := hid HN.out
    rw [HAM.out] at HRES
    cases oz with
    | none =>
     have h1 : a = zeroM := HM.out.symm
     have h2 : er = 91 := HER.out.symm
     subst h1
     subst h2
     have HNX := hid (show az = (l.drop (j + 1)).all (agreeM ks su) from HRES.out)
     go_wp2
     refine wp_region_held_drew (S := fun wc => (wc.cell? ⟨X, 3, none⟩ = some (.bool zeroM.static) ∧ wc.cell? ⟨wr.heap.size, 0, none⟩ = some (.string m.name) ∧ wc.cell? ⟨wr.heap.size, 1, none⟩ = some (.string m.desc) ∧ wc.cell? ⟨wr.heap.size, 2, none⟩ = some (.int .i64 m.flags) ∧ wc.cell? ⟨wr.heap.size, 3, none⟩ = some (.int .i64 0)) ∧ Only (fun _ => False) w wc) (by kernel_rfl) HS5.out (fun hHeld => ?_)
     refine tk2 0 (h := ?_)
     refine tk2 1 (h := ?_)
     refine tk2 2 (h := ?_)
     refine tk3 3 (h := ?_)
     refine tk3 4 (h := ?_)
     refine tk3 5 (h := ?_)
     refine tk3 6 (h := ?_)
     refine tk3 7 (h := ?_)
     refine tk2 8 (h := ?_)
     refine wpAnyH_done (by kernel_rfl) ?_ _
     have HF := hid hHeld.2
     clear hHeld HS5
     go_wp2
     go_roundw
     case rel => exact ⟨j + 1, by go_num, by omega, HNX, HF⟩
     case measure => simp [Lib.intOf]; omega
    | some a' =>
     have h1 : a' = a := HM.out
     have h2 : er = 0 := HER.out.symm
     subst h1
     subst h2
     have HRE2 := hid (show az = ((a'.static == (m.flags == 8)) && (l.drop (j + 1)).all (agreeM ks su)) from HRES.out)
     go_wp2
     refine wp_region_held_drew (S := fun wc => (wc.cell? ⟨X, 3, none⟩ = some (.bool a'.static) ∧ wc.cell? ⟨wr.heap.size, 0, none⟩ = some (.string m.name) ∧ wc.cell? ⟨wr.heap.size, 1, none⟩ = some (.string m.desc) ∧ wc.cell? ⟨wr.heap.size, 2, none⟩ = some (.int .i64 m.flags) ∧ wc.cell? ⟨wr.heap.size, 3, none⟩ = some (.int .i64 0)) ∧ Only (fun _ => False) w wc) (by kernel_rfl) HS5.out (fun hHeld => ?_)
     refine tk2 0 (h := ?_)
     refine tk2 1 (h := ?_)
     refine tk2 2 (h := ?_)
     refine tk2 3 (h := ?_)
     refine tk2 4 (h := ?_)
     refine tk2 5 (h := ?_)
     refine tkR 6 (h := fun K hK => ?_)
     go_simp
     (refine (pStatic m 0 _).mono ?_; rintro e w6 ⟨rfl, ho⟩; have HQ5 := hid (show (fun wc => (wc.cell? ⟨X, 3, none⟩ = some (.bool a'.static) ∧ wc.cell? ⟨wr.heap.size, 0, none⟩ = some (.string m.name) ∧ wc.cell? ⟨wr.heap.size, 1, none⟩ = some (.string m.desc) ∧ wc.cell? ⟨wr.heap.size, 2, none⟩ = some (.int .i64 m.flags) ∧ wc.cell? ⟨wr.heap.size, 3, none⟩ = some (.int .i64 0)) ∧ Only (fun _ => False) w wc) w6 from ⟨⟨ho.cell hHeld.1.1 (fun h => h), ho.cell hHeld.1.2.1 (fun h => h), ho.cell hHeld.1.2.2.1 (fun h => h), ho.cell hHeld.1.2.2.2.1 (fun h => h), ho.cell hHeld.1.2.2.2.2 (fun h => h)⟩, hHeld.2.trans ho (fun _ h _ => h)⟩); clear ho)
     go_wp2_with fail
     refine hK.out _ _ ?_ (fun hHeld2 => ?_)
     ·exact HQ5.out
     clear hK K
     try simp only [Act.put, sIB, sC0, sCS]
     clear hHeld
     have hHeld := hHeld2
     clear hHeld2
     refine tk2 7 (h := ?_)
     refine tk2 8 (h := ?_)
     refine wpAnyH_done (by kernel_rfl) ?_ _
     have HF := hid hHeld.2
     clear hHeld HS5 HQ5
     generalize a'.static = sa at *
     generalize (m.flags == 8) = sb at *
     cases sa <;> cases sb
     all_goals first
      | (have HNX := hid (show az = (l.drop (j + 1)).all (agreeM ks su) from HRE2.out); go_wp2; go_roundw; (case rel => exact ⟨j + 1, by go_num, by omega, HNX, HF⟩); (case measure => simp [Lib.intOf]; omega))
      | (have HNX := hid (show az = false from HRE2.out); go_wp2; go_ret; rw [HNX.out]; exact ⟨rfl, HF.out⟩)
  ·obtain rfl : j = l.length := by omega
   have HR := hid (show az = true by rw [HT.out, List.drop_of_length_le (Nat.le_refl _)]; rfl)
   clear hlt hj
   go_wp2
   go_ret
   rw [HR.out]
   exact ⟨rfl, HO.out⟩
end
end Go.Proofs.YtinbelghhfodiaaGreatDoor
