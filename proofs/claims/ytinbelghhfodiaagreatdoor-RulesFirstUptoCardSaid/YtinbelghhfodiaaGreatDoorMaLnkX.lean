import Derived.Test.YtinbelghhfodiaaGreatDoorMaTlk
import Derived.Test.YtinbelghhfodiaaGreatDoorMaTkH
import Derived.Test.YtinbelghhfodiaaGreatDoorMaLnkVLnkW
import Derived.Test.YtinbelghhfodiaaGreatDoorMaLpSLpU
import Derived.Test.YtinbelghhfodiaaGreatDoorMaTillPolI
import Derived.Test.YtinbelghhfodiaaGreatDoorMaClsGLpE
namespace Go.Proofs.YtinbelghhfodiaaGreatDoor
set_option maxHeartbeats 64000000
open Lib (hid)
open Go.RowKit
set_option linter.unusedVariables false
set_option linter.unusedSimpArgs false
theorem keepL {w0 W W' : World} {b : Nat} {v0 v1 v2 v3 v4 : Value} (h : (W.cell? ⟨b, 0, none⟩ = some v0 ∧ W.cell? ⟨b, 1, none⟩ = some v1 ∧ W.cell? ⟨b, 2, none⟩ = some v2 ∧ W.cell? ⟨b, 3, none⟩ = some v3 ∧ W.cell? ⟨b, 4, none⟩ = some v4) ∧ Only (fun _ => False) w0 W) (ho : Only (fun _ => False) W W') : (W'.cell? ⟨b, 0, none⟩ = some v0 ∧ W'.cell? ⟨b, 1, none⟩ = some v1 ∧ W'.cell? ⟨b, 2, none⟩ = some v2 ∧ W'.cell? ⟨b, 3, none⟩ = some v3 ∧ W'.cell? ⟨b, 4, none⟩ = some v4) ∧ Only (fun _ => False) w0 W' :=
 ⟨⟨ho.cell h.1.1 (fun h => h), ho.cell h.1.2.1 (fun h => h), ho.cell h.1.2.2.1 (fun h => h), ho.cell h.1.2.2.2.1 (fun h => h), ho.cell h.1.2.2.2.2 (fun h => h)⟩, h.2.trans ho (fun _ h _ => h)⟩
theorem keepLS {w0 W : World} {b X : Nat} {v0 v1 v2 v3 v4 : Value} {t : TypeId} {z : Array Value} (h : (W.cell? ⟨b, 0, none⟩ = some v0 ∧ W.cell? ⟨b, 1, none⟩ = some v1 ∧ W.cell? ⟨b, 2, none⟩ = some v2 ∧ W.cell? ⟨b, 3, none⟩ = some v3 ∧ W.cell? ⟨b, 4, none⟩ = some v4) ∧ Only (fun _ => False) w0 W) (hX : W.heap[X]? = some (.cells z t (0, 0))) (hge : w0.heap.size ≤ X) (hr : Only (fun k => k = X) W W) (hne : b ≠ X) (x0 x1 x2 x3 x4 : Value) :
  ((((((W.setCell ⟨X, 0, none⟩ x0).setCell ⟨X, 1, none⟩ x1).setCell ⟨X, 2, none⟩ x2).setCell ⟨X, 3, none⟩ x3).setCell ⟨X, 4, none⟩ x4).cell? ⟨b, 0, none⟩ = some v0 ∧ (((((W.setCell ⟨X, 0, none⟩ x0).setCell ⟨X, 1, none⟩ x1).setCell ⟨X, 2, none⟩ x2).setCell ⟨X, 3, none⟩ x3).setCell ⟨X, 4, none⟩ x4).cell? ⟨b, 1, none⟩ = some v1 ∧ (((((W.setCell ⟨X, 0, none⟩ x0).setCell ⟨X, 1, none⟩ x1).setCell ⟨X, 2, none⟩ x2).setCell ⟨X, 3, none⟩ x3).setCell ⟨X, 4, none⟩ x4).cell? ⟨b, 2, none⟩ = some v2 ∧ (((((W.setCell ⟨X, 0, none⟩ x0).setCell ⟨X, 1, none⟩ x1).setCell ⟨X, 2, none⟩ x2).setCell ⟨X, 3, none⟩ x3).setCell ⟨X, 4, none⟩ x4).cell? ⟨b, 3, none⟩ = some v3 ∧ (((((W.setCell ⟨X, 0, none⟩ x0).setCell ⟨X, 1, none⟩ x1).setCell ⟨X, 2, none⟩ x2).setCell ⟨X, 3, none⟩ x3).setCell ⟨X, 4, none⟩ x4).cell? ⟨b, 4, none⟩ = some v4) ∧ Only (fun _ => False) w0 (((((W.setCell ⟨X, 0, none⟩ x0).setCell ⟨X, 1, none⟩ x1).setCell ⟨X, 2, none⟩ x2).setCell ⟨X, 3, none⟩ x3).setCell ⟨X, 4, none⟩ x4) := by
 have ho := only5T (a0 := x0) (a1 := x1) (a2 := x2) (a3 := x3) (a4 := x4) hr (fun _ => rfl)
 exact ⟨⟨ho.cell h.1.1 hne, ho.cell h.1.2.1 hne, ho.cell h.1.2.2.1 hne, ho.cell h.1.2.2.2.1 hne, ho.cell h.1.2.2.2.2 hne⟩, h.2.trans ho (fun k hk hl => by subst hk; omega)⟩
theorem fin_load {w wr : World} {R B1 B2 : Nat} {u1 u2 x0 x1 x2 x3 x4 : Value} {l1 l2 : List MethN} (h1 : MeRow wr B1 u1 l1) (h2 : MeRow wr B2 u2 l2) (hb1 : R < B1) (hb2 : R < B2) (hR : w.heap.size ≤ R) (ho : Only (fun _ => False) w wr) :
  MeRow (((((wr.setCell ⟨R, 0, none⟩ x0).setCell ⟨R, 1, none⟩ x1).setCell ⟨R, 2, none⟩ x2).setCell ⟨R, 3, none⟩ x3).setCell ⟨R, 4, none⟩ x4) w.heap.size u1 l1 ∧ MeRow (((((wr.setCell ⟨R, 0, none⟩ x0).setCell ⟨R, 1, none⟩ x1).setCell ⟨R, 2, none⟩ x2).setCell ⟨R, 3, none⟩ x3).setCell ⟨R, 4, none⟩ x4) w.heap.size u2 l2 ∧
   Only (fun _ => False) w (((((wr.setCell ⟨R, 0, none⟩ x0).setCell ⟨R, 1, none⟩ x1).setCell ⟨R, 2, none⟩ x2).setCell ⟨R, 3, none⟩ x3).setCell ⟨R, 4, none⟩ x4) := by
 have hon := only5T (a0 := x0) (a1 := x1) (a2 := x2) (a3 := x3) (a4 := x4) (Only.refl (fun k => k = R) wr) (fun _ => rfl)
 exact ⟨(h1.only hon (fun k hk e => by have := (h1.ge _ hk).1; omega)).lower (by omega), (h2.only hon (fun k hk e => by have := (h2.ge _ hk).1; omega)).lower (by omega), ho.trans hon (fun k hk hl => by subst hk; omega)⟩
theorem info5_kind : (Tryz.prog.info? 77).map (·.size) = some 5 := by kernel_rfl
theorem kind_alone {fn : Func} {p : Tmp} (hr : fn.results = #[.cell p 77]) {w : World} {b : Nat} {a0 a1 a2 a3 a4 : Value} {tmps : Array Value} (h : w.heap[b]? = some (.cells #[a0, a1, a2, a3, a4] 77 (0, 0))) (ht : tmps.getD p undef = .pointer (some ⟨b, 0, none⟩)) :
  (results fn tmps).run Tryz.prog w = .ok (.agg #[a0, a1, a2, a3, a4]) w :=
 results_cell_row hr tmps w b 77 _ (0, 0) _ ht h Tryz.underlying77 rfl info5_kind
set_option maxRecDepth 100000 in
theorem refLoad (c : ClassV) (vp vf vm : Value) (pl : Int) (w : World) (hc : ClassM w vp vf vm c) (hfs : c.fields.length ≤ 64) (hms : c.methods.length ≤ 64) :
  Calls Tryz.prog 35 #[.agg #[vp, .int .i64 c.this, .int .i64 c.super, vf, vm], .int .i64 pl] w fun e w' => ∃ uf um, e = .returned (.agg #[.string (classZ c.pool c.this).1, .string (classZ c.pool c.super).1, uf, um, .int .i64 pl]) ∧ MeRow w' w.heap.size uf (fieldK c) ∧ MeRow w' w.heap.size um (methsK c) ∧ Only (fun _ => False) w w' := by
 obtain ⟨i0, hi, hz0, hz1, hz2⟩ := info_parts info_methn
 have hcw := hc
 obtain ⟨hpool, hfields, ⟨g, hslm, hins, hmr⟩, hthis, hsuper⟩ := hc
 obtain ⟨nf, hnf⟩ : ∃ nf, c.fields.length = nf := ⟨_, rfl⟩
 obtain ⟨nm, hnm⟩ : ∃ nm, c.methods.length = nm := ⟨_, rfl⟩
 rw [hnm] at hslm
 obtain ⟨aof, kof, eof, -⟩ := id hfields.1
 rw [hnf] at eof
 subst eof
 obtain ⟨aom, kom, rfl, -⟩ := id hslm
 obtain ⟨aop, kop, rfl, -⟩ := id hpool
 have hb1 := heap_alloc_new w (.cells #[(.slice aop c.pool.length kop), .int .i64 c.this, .int .i64 c.super, (.slice aof nf kof), (.slice aom nm kom)] 84)
 have ha1 := (Only.refl (fun _ => False) w).alloc (.cells #[(.slice aop c.pool.length kop), .int .i64 c.this, .int .i64 c.super, (.slice aof nf kof), (.slice aom nm kom)] 84)
 have ha2 := (Only.refl (fun _ => False) (w.alloc (.cells #[(.slice aop c.pool.length kop), .int .i64 c.this, .int .i64 c.super, (.slice aof nf kof), (.slice aom nm kom)] 84))).alloc (.cells #[.string ⟨#[]⟩, .string ⟨#[]⟩, .slice none 0 0, .slice none 0 0, .int .i64 0] 77)
 have hr1 := heap_alloc_new (w.alloc (.cells #[(.slice aop c.pool.length kop), .int .i64 c.this, .int .i64 c.super, (.slice aof nf kof), (.slice aom nm kom)] 84)) (.cells #[.string ⟨#[]⟩, .string ⟨#[]⟩, .slice none 0 0, .slice none 0 0, .int .i64 0] 77)
 rw [World.size_alloc] at hr1
 have hs1 : ((w.alloc (.cells #[(.slice aop c.pool.length kop), .int .i64 c.this, .int .i64 c.super, (.slice aof nf kof), (.slice aom nm kom)] 84)).alloc (.cells #[.string ⟨#[]⟩, .string ⟨#[]⟩, .slice none 0 0, .slice none 0 0, .int .i64 0] 77)).heap.size = w.heap.size + 2 := by simp
 have hb2 := ha2.heap hb1 (fun h => h)
 have ho1 := ha1.trans ha2 (fun _ h _ => h)
 obtain ⟨W1, hW1⟩ : ∃ x, (w.alloc (.cells #[(.slice aop c.pool.length kop), .int .i64 c.this, .int .i64 c.super, (.slice aof nf kof), (.slice aom nm kom)] 84)).alloc (.cells #[.string ⟨#[]⟩, .string ⟨#[]⟩, .slice none 0 0, .slice none 0 0, .int .i64 0] 77) = x := ⟨_, rfl⟩
 rw [hW1] at hr1 hs1 hb2 ho1
 have CN := hid (fun W (hW : Only (fun _ => False) W1 W) => refClsName (.slice aop c.pool.length kop) (.slice aof nf kof) (.slice aom nm kom) c.pool c.this c.super W (hpool.only (ho1.trans hW (fun _ h _ => h)) (fun _ _ h => h)))
 have CS := hid (fun W (hW : Only (fun _ => False) W1 W) => refClsSuper (.slice aop c.pool.length kop) (.slice aof nf kof) (.slice aom nm kom) c.pool c.this c.super W (hpool.only (ho1.trans hW (fun _ h _ => h)) (fun _ _ h => h)))
 obtain ⟨q0, q1, q2, q3, q4⟩ := cells5T hb2
 have HS0 := hid (show (fun wc => (wc.cell? ⟨w.heap.size, 0, none⟩ = some ((.slice aop c.pool.length kop)) ∧ wc.cell? ⟨w.heap.size, 1, none⟩ = some (.int .i64 c.this) ∧ wc.cell? ⟨w.heap.size, 2, none⟩ = some (.int .i64 c.super) ∧ wc.cell? ⟨w.heap.size, 3, none⟩ = some ((.slice aof nf kof)) ∧ wc.cell? ⟨w.heap.size, 4, none⟩ = some ((.slice aom nm kom))) ∧ Only (fun _ => False) W1 wc) (W1.drewN 1) from ⟨⟨q0, q1, q2, q3, q4⟩, (Only.refl _ _).drewN 1⟩)
 generalize (classZ c.pool c.this).1 = nmz at *
 generalize (classZ c.pool c.super).1 = suz at *
 have HN := hid (And.intro hnf hnm)
 have HFEW := hid (show nf ≤ 64 ∧ nm ≤ 64 from ⟨by omega, by omega⟩)
 have HFLD := hid hfields
 have HSLM := hid hslm
 have HPOOL := hid hpool
 have HO1 := hid ho1
 have HB1 := hid hb2
 have HR1 := hid hr1
 have HS1 := hid hs1
 have HW1 := hid hW1
 clear hcw hnf hnm hfields hslm hins hmr hpool hthis hsuper hb1 ha1 ha2 hr1 hs1 hb2 ho1 hW1 q0 q1 q2 q3 q4 hfs hms
 go_enter Tryz.func35, Tryz.ntmps35
 go_wp2
 rw [HW1.out]
 refine wp_region_held_drew (S := fun wc => (wc.cell? ⟨w.heap.size, 0, none⟩ = some ((.slice aop c.pool.length kop)) ∧ wc.cell? ⟨w.heap.size, 1, none⟩ = some (.int .i64 c.this) ∧ wc.cell? ⟨w.heap.size, 2, none⟩ = some (.int .i64 c.super) ∧ wc.cell? ⟨w.heap.size, 3, none⟩ = some ((.slice aof nf kof)) ∧ wc.cell? ⟨w.heap.size, 4, none⟩ = some ((.slice aom nm kom))) ∧ Only (fun _ => False) W1 wc) (by kernel_rfl) HS0.out (fun hHeld => ?_)
 refine tk2 0 (h := ?_)
 refine tk2 2 (h := ?_)
 refine tk2 4 (h := ?_)
 refine wpAnyH_ready (rs := [1, 6]) (by kernel_rfl) (by simp) ?_
 refine AllReadyH.cons (by simp only [List.getElem?_toArray, List.getElem?_cons_succ, List.getElem?_cons_zero]; rfl) (fun K hK => ?_) (AllReadyH.cons (by simp only [List.getElem?_toArray, List.getElem?_cons_succ, List.getElem?_cons_zero]; rfl) (fun K hK => ?_) (AllReadyH.nil))
 ·go_simp
  refine (CN.out _ hHeld.2).mono ?_
  rintro e w2 ⟨rfl, ho⟩
  have HQ := hid (keepL hHeld ho)
  clear ho
  go_wp2_with fail
  refine hK.out _ _ ?_ (fun hHeld2 => ?_)
  ·exact HQ.out
  clear hK K
  try simp only [Act.put, sIB, sC0, sCS]
  clear hHeld
  have hHeld := hHeld2
  clear hHeld2
  refine wpAnyH_ready (rs := [3, 6]) (by kernel_rfl) (by simp) ?_
  refine AllReadyH.cons (by simp only [List.getElem?_toArray, List.getElem?_cons_succ, List.getElem?_cons_zero]; rfl) (fun K hK => ?_) (AllReadyH.cons (by simp only [List.getElem?_toArray, List.getElem?_cons_succ, List.getElem?_cons_zero]; rfl) (fun K hK => ?_) (AllReadyH.nil))
  ·go_simp
   refine (CS.out _ hHeld.2).mono ?_
   rintro e w3 ⟨rfl, ho⟩
   have HQ := hid (keepL hHeld ho)
   clear ho
   go_wp2_with fail
   refine hK.out _ _ ?_ (fun hHeld2 => ?_)
   ·exact HQ.out
   clear hK K
   try simp only [Act.put, sIB, sC0, sCS]
   clear hHeld
   have hHeld := hHeld2
   clear hHeld2
   refine tk2 5 (h := ?_)
   refine tkR 6 (h := fun K hK => ?_)
   have HQB := hid (And.intro hHeld.2.size (Nat.ne_of_lt (World.block_lt_of_cell? _ _ hHeld.1.1)))
   go_simp
   have HQ := hid (keepL hHeld ((Only.refl (fun _ => False) w3).alloc (.cells #[.string ⟨#[]⟩, .string ⟨#[]⟩, .slice none 0 0, .slice none 0 0, .int .i64 0] 77)))
   have HX := hid (heap_alloc_new w3 (.cells #[.string ⟨#[]⟩, .string ⟨#[]⟩, .slice none 0 0, .slice none 0 0, .int .i64 0] 77))
   refine hK.out _ _ ?_ (fun hHeld2 => ?_)
   ·exact HQ.out
   clear hK K
   try simp only [Act.put, sIB, sC0, sCS]
   clear hHeld
   have hHeld := hHeld2
   clear hHeld2
   obtain ⟨X, hX⟩ : ∃ x, w3.heap.size = x := ⟨_, rfl⟩
   obtain ⟨wx, hwx⟩ : ∃ x, w3.alloc (.cells #[.string ⟨#[]⟩, .string ⟨#[]⟩, .slice none 0 0, .slice none 0 0, .int .i64 0] 77) = x := ⟨_, rfl⟩
   have HXX := hid HX.out
   clear HX
   have HX := hid (show wx.heap[X]? = some (.cells #[.string ⟨#[]⟩, .string ⟨#[]⟩, .slice none 0 0, .slice none 0 0, .int .i64 0] 77 (0, 0)) from by rw [← hwx, ← hX]; exact HXX.out)
   have HXG := hid (show W1.heap.size ≤ X by rw [← hX]; exact HQB.out.1)
   have HNX0 := hid (show w.heap.size ≠ X by rw [← hX]; exact HQB.out.2)
   rw [hX, hwx]
   replace hHeld : (fun wc => (wc.cell? ⟨w.heap.size, 0, none⟩ = some ((.slice aop c.pool.length kop)) ∧ wc.cell? ⟨w.heap.size, 1, none⟩ = some (.int .i64 c.this) ∧ wc.cell? ⟨w.heap.size, 2, none⟩ = some (.int .i64 c.super) ∧ wc.cell? ⟨w.heap.size, 3, none⟩ = some ((.slice aof nf kof)) ∧ wc.cell? ⟨w.heap.size, 4, none⟩ = some ((.slice aom nm kom))) ∧ Only (fun _ => False) W1 wc) wx := by rw [← hwx]; exact hHeld
   dsimp only at hHeld
   clear HXX hX hwx
   obtain ⟨x0, x1, x2, x3, x4⟩ := cells5T HX.out
   obtain ⟨v0, v1, v2, v3, v4⟩ := marks5T HX.out
   refine tkR 7 (h := fun K hK => ?_)
   go_simp
   have HQ := hid (keepLS hHeld HX.out HXG.out (Only.refl (fun k => k = X) wx) HNX0.out (.string nmz) (.string suz) (.slice none 0 0) (.slice none 0 0) (.int .i64 pl))
   refine hK.out _ _ ?_ (fun hHeld2 => ?_)
   ·exact HQ.out
   clear hK K
   try simp only [Act.put, sIB, sC0, sCS]
   clear hHeld
   have hHeld := hHeld2
   clear hHeld2
   refine wpAnyH_done (by kernel_rfl) ?_ _
   have HXF := hid (store5T (a0 := (.string nmz)) (a1 := (.string suz)) (a2 := (.slice none 0 0)) (a3 := (.slice none 0 0)) (a4 := (.int .i64 pl)) HX.out)
   obtain ⟨wf, hwf⟩ : ∃ x, (((((wx.setCell ⟨X, 0, none⟩ (.string nmz)).setCell ⟨X, 1, none⟩ (.string suz)).setCell ⟨X, 2, none⟩ (.slice none 0 0)).setCell ⟨X, 3, none⟩ (.slice none 0 0)).setCell ⟨X, 4, none⟩ (.int .i64 pl)) = x := ⟨_, rfl⟩
   rw [hwf] at HXF hHeld ⊢
   have HWF := hid hHeld.2
   clear hwf x0 x1 x2 x3 x4 v0 v1 v2 v3 v4 HX HQ hHeld
   have HWW := hid (HO1.out.trans HWF.out (fun _ h _ => h))
   have HXW := hid (show w.heap.size < X ∧ X ≠ w.heap.size + 1 from by have := HXG.out; have := HS1.out; omega)
   have HXL := hid (heap_lt HXF.out)
   have HBS := hid (show w.heap.size < wf.heap.size ∧ w.heap.size + 1 < wf.heap.size ∧ X < wf.heap.size from by have := HXL.out; have := HXG.out; have := HS1.out; omega)
   have HBX := hid (HWF.out.heap HB1.out (fun h => h))
   have HRX := hid (HWF.out.heap HR1.out (fun h => h))
   go_wp2
   go_loopw [6, 7, 8, 9, 10] (fun iv _ _ _ _ wr => ∃ (j : Nat) (vo : Value), iv = .int .i64 j ∧ j ≤ nf ∧ Hid (wr.heap[X]? = some (.cells #[.string nmz, .string suz, vo, .slice none 0 0, .int .i64 pl] 77 (0, 0))) ∧ Hid (MeRow wr wf.heap.size vo ((c.fields.map (fun f => methK c.pool f.name f.desc f.flags)).take j)) ∧ Hid (Only (fun k => k = X) wf wr)) (fun iv _ _ _ _ _ => nf - (intOf iv).toNat)
   case atStart => exact ⟨0, _, rfl, Nat.zero_le _, HXF, hid (MeRow.nil _ _), hid (Only.refl _ _)⟩
   case round =>
    obtain ⟨j, vo, rfl, hj, HL, HROW, HON⟩ := hrel
    obtain ⟨al, cl, rfl⟩ := HROW.out.slice
    have hww : Only (fun _ => False) w wr := Only.trans HWW.out HON.out (fun i e hl => by have := HXW.out; omega)
    have hbx := HON.out.heap HBX.out (by exact HNX0.out)
    have HBR := hid hbx
    have hb0 := cell_blk hbx 0
    have hb3 := cell_blk hbx 3
    by_cases hlt : j < nf
    ·have hjz : (j : Int) < (nf : Int) := by omega
     have hj0 : (0 : Int) ≤ (j : Int) := by omega
     have h64 : nf ≤ 64 := by have := HFEW.out; omega
     have hstep := map_take_step (fun f => methK c.pool f.name f.desc f.flags) (l := c.fields) (j := j) (by have := HN.out; omega)
     have hlen : ((c.fields.map (fun f => methK c.pool f.name f.desc f.flags)).take j).length ≤ 64 := by rw [List.length_take, List.length_map]; have := HN.out; have := HFEW.out; omega
     obtain ⟨us, hus⟩ : ∃ us, (c.fields.map (fun f => methK c.pool f.name f.desc f.flags)).take j = us := ⟨_, rfl⟩
     rw [hus] at HROW HL hstep hlen
     obtain ⟨f, hf⟩ : ∃ f, f = c.fields.getD j default := ⟨_, rfl⟩
     have hsf := (HFLD.out.only hww).1
     have hs0 := HFLD.out.1
     rw [HN.out.1] at hsf hs0
     obtain ⟨b9, o9, e9, hat⟩ := Sl.at hsf hlt
     obtain ⟨b8, o8, e8, hat0⟩ := Sl.at hs0 hlt
     rw [e9] at e8
     injection e8 with e8
     injection e8 with e8 e7 _
     subst e8 e7
     subst e9
     have hlt9 : b9 < w.heap.size := World.block_lt_of_cell? _ _ hat0.c0
     rw [← hf] at hat hstep
     obtain ⟨r0, r1, r2⟩ := hat
     clear hsf hs0 hat0
     have HY0 := hid r0
     have HYN := hid (show ¬ ((Value.slice al us.length cl).ownBlock = some b9) from fun e => by have := (MeRow.ge HROW.out _ e).1; have := HBS.out; omega)
     obtain ⟨tn, htn⟩ : ∃ x, textZ c.pool f.name = x := ⟨_, rfl⟩
     obtain ⟨td, htd⟩ : ∃ x, textZ c.pool f.desc = x := ⟨_, rfl⟩
     obtain ⟨p, hp⟩ : ∃ p : MethN, p = ⟨tn.1, td.1, f.flags⟩ := ⟨_, rfl⟩
     have HP := hid (show p = methK c.pool f.name f.desc f.flags by rw [hp, ← htn, ← htd]; rfl)
     have hpn : p.name = tn.1 := by rw [hp]
     have hpd : p.desc = td.1 := by rw [hp]
     have hpf : p.flags = f.flags := by rw [hp]
     have CN := hid (fun W (hW : Only (fun _ => False) wr W) => refText (.slice aop c.pool.length kop) c.pool f.name W (HPOOL.out.only (hww.trans hW (fun _ h _ => h)) (fun _ _ h => h)))
     have CD := hid (fun W (hW : Only (fun _ => False) wr W) => refText (.slice aop c.pool.length kop) c.pool f.desc W (HPOOL.out.only (hww.trans hW (fun _ h _ => h)) (fun _ _ h => h)))
     rw [htn, ← hpn] at CN
     rw [htd, ← hpd] at CD
     have hl2 := cell_blk HL.out 2
     have HSD := hid (fun W (hW : Only (fun _ => False) wr W) => show (fun wc => wc.cell? ⟨X, 2, none⟩ = some (.slice al us.length cl) ∧ wc.cell? ⟨w.heap.size, 3, none⟩ = some (.slice (some ⟨b9, o9, none⟩) nf kof) ∧ wc.cell? ⟨b9, o9 + j * 3, none⟩ = some (.int .i64 f.flags)) W from ⟨hW.cell hl2 (fun h => h), hW.cell hb3 (fun h => h), hW.cell r0 (fun h => h)⟩)
     have HST := hid hstep
     have HPF := hid hpf
     generalize tn.2 = tn2 at *
     generalize td.2 = td2 at *
     clear hstep hus htn htd hp hpn hpd hpf hww hbx hf hlt9 hl2
     go_wp2
     go_quiet (exact Calls.quiet_of_same ((CN.out _ (by exact ⟨rfl, rfl, rfl, Nat.le_refl _, fun _ _ _ => rfl⟩)).mono (fun _ _ h => ⟨h.1, h.2.symm⟩)))
     go_wp2
     go_quiet (exact (CD.out _ (by exact ⟨rfl, rfl, rfl, Nat.le_refl _, fun _ _ _ => rfl⟩)).mono (fun _ _ h => ⟨h.1, _, h.2.symm⟩))
     go_wp2
     refine wp_till 14 (fun wc => wc.cell? ⟨X, 2, none⟩ = some (.slice al us.length cl) ∧ wc.cell? ⟨w.heap.size, 3, none⟩ = some (.slice (some ⟨b9, o9, none⟩) nf kof) ∧ wc.cell? ⟨b9, o9 + j * 3, none⟩ = some (.int .i64 f.flags)) (by kernel_rfl) ?_
     refine Till.tk 0 (hS := by first | assumption | exact HSD.out _ (by exact ⟨rfl, rfl, rfl, Nat.le_refl _, fun _ _ _ => rfl⟩)) (h := ?_)
     refine Till.tk 1 (hS := by first | assumption | exact HSD.out _ (by exact ⟨rfl, rfl, rfl, Nat.le_refl _, fun _ _ _ => rfl⟩)) (h := ?_)
     refine Till.tk 2 (hS := by first | assumption | exact HSD.out _ (by exact ⟨rfl, rfl, rfl, Nat.le_refl _, fun _ _ _ => rfl⟩)) (h := ?_)
     refine Till.tk 3 (hS := by first | assumption | exact HSD.out _ (by exact ⟨rfl, rfl, rfl, Nat.le_refl _, fun _ _ _ => rfl⟩)) (h := ?_)
     refine Till.tk 4 (hS := by first | assumption | exact HSD.out _ (by exact ⟨rfl, rfl, rfl, Nat.le_refl _, fun _ _ _ => rfl⟩)) (h := ?_)
     refine Till.tk 5 (hS := by first | assumption | exact HSD.out _ (by exact ⟨rfl, rfl, rfl, Nat.le_refl _, fun _ _ _ => rfl⟩)) (h := ?_)
     refine Till.tk 6 (hS := by first | assumption | exact HSD.out _ (by exact ⟨rfl, rfl, rfl, Nat.le_refl _, fun _ _ _ => rfl⟩)) (h := ?_)
     refine Till.tk 7 (hS := by first | assumption | exact HSD.out _ (by exact ⟨rfl, rfl, rfl, Nat.le_refl _, fun _ _ _ => rfl⟩)) (h := ?_)
     refine Till.tk 8 (hS := by first | assumption | exact HSD.out _ (by exact ⟨rfl, rfl, rfl, Nat.le_refl _, fun _ _ _ => rfl⟩)) (h := ?_)
     refine Till.tk 9 (hS := by first | assumption | exact HSD.out _ (by exact ⟨rfl, rfl, rfl, Nat.le_refl _, fun _ _ _ => rfl⟩)) (h := ?_)
     refine Till.tk 10 (hS := by first | assumption | exact HSD.out _ (by exact ⟨rfl, rfl, rfl, Nat.le_refl _, fun _ _ _ => rfl⟩)) (h := ?_)
     refine Till.ts 11 (h := fun K hK => ?_)
     go_simp
     refine hK.out _ _ ?_ ?_
     ·exact fun _ => HSD.out _ (Only.alloc (by exact ⟨rfl, rfl, rfl, Nat.le_refl _, fun _ _ _ => rfl⟩) _)
     clear hK K
     try simp only [Act.put, sIB, sC0, sCS]
     refine Till.ts 12 (h := fun K hK => ?_)
     (refine step_append_src rfl (.tmp 54) (.tmp 64) 75 rfl 95 i0 (.agg #[.string ⟨#[]⟩, .string ⟨#[]⟩, .int .i64 0]) 3 40 Tryz.underlying75 hi hz0 hz1 hz2 rfl (by decide) wf.heap.size (.slice al us.length cl) us.length (us.flatMap cellsMe) rfl (by exact MeRow.only HROW.out (Only.alloc (by exact ⟨rfl, rfl, rfl, Nat.le_refl _, fun _ _ _ => rfl⟩) _) (fun _ _ h => h)) (by have := HON.out.size; simp; omega) (.slice (some ⟨wr.heap.size, 0, none⟩) 1 1) 1 (cellsMe p) rfl (by rw [← HPF.out]; exact Src.methn (m := wr.heap.size) p rfl) (by unfold maxLen; omega) (by omega) ?_; intro v' w3 hown hgrow hnew; have hos := (Only.refl (fun k => (Value.slice al us.length cl).ownBlock = some k) _).grown hgrow (fun k hk _ => hk); have hrow6 : MeRow w3 wf.heap.size v' (us ++ [p]) := MeRow.more hown; obtain ⟨an, cn, ev⟩ := hrow6.slice; obtain ⟨ln, hln⟩ : ∃ ln, (us ++ [p]).length = ln := ⟨_, rfl⟩; rw [hln] at ev; subst ev; clear hln; have HA3 := hid (Only.trans (T := fun k => (Value.slice al us.length cl).ownBlock = some k) (Only.alloc (S := fun k => (Value.slice al us.length cl).ownBlock = some k) (a := wr) (by exact ⟨rfl, rfl, rfl, Nat.le_refl _, fun _ _ _ => rfl⟩) _) hos (fun k hk _ => hk)); have HROW6 := hid hrow6; have hown3 : ∀ k, (Value.slice al us.length cl).ownBlock = some k → wf.heap.size ≤ k ∧ k < wr.heap.size := fun k hk => MeRow.ge HROW.out k hk; have HGE := hid hown3; have hlo := HA3.out.heap HL.out (fun e => by have := (hown3 _ e).1; have := HBS.out; omega); have hbo := HA3.out.heap HBR.out (fun e => by have := (hown3 _ e).1; have := HBS.out; omega); have hk2 := cell_blk hlo 2; have fl2 := frozen_blk hlo 2; have hk3 := cell_blk hbo 3; have hkf := HA3.out.cell HY0.out HYN.out; have HLO := hid hlo; clear hown hgrow hnew hos hrow6 hown3 hlo hbo)
     refine hK.out _ _ ?_ ?_
     ·exact fun _ => ⟨hk2, hk3, hkf⟩
     clear hK K
     try simp only [Act.put, sIB, sC0, sCS]
     refine Till.ts 13 (h := fun K hK => ?_)
     go_simp
     refine hK.out _ _ ?_ ?_
     ·exact fun _ => ⟨hk2, hk3, hkf⟩
     clear hK K
     try simp only [Act.put, sIB, sC0, sCS]
     refine Till.ts 14 (h := fun K hK => ?_)
     go_simp
     refine hK.out _ _ ?_ ?_
     ·exact fun h => by cases h
     clear hK K
     try simp only [Act.put, sIB, sC0, sCS]
     refine Till.done (by kernel_rfl) ?_ _
     have hl9 := heap_setCell_at (i := 2) (u := .slice an ln cn) HLO.out
     simp only [List.setIfInBounds_toArray, List.set_cons_zero, List.set_cons_succ] at hl9
     have hot := (Only.refl (fun k => k = X) w3).setCell (p := ⟨X, 2, none⟩) (fun _ => rfl) (.slice an ln cn)
     have hrow9 := MeRow.only HROW6.out hot (fun k hk e => by have := (MeRow.ge HROW6.out _ hk).1; have := HBS.out; omega)
     have hon9 := Only.trans (HON.out.trans HA3.out (fun i hi hl => by have := (HGE.out _ hi).1; omega)) hot (fun _ h _ => h)
     have HL9 := hid hl9
     have HROW9 := hid hrow9
     have HON9 := hid hon9
     clear hl9 hot hrow9 hon9 hk2 hk3 hkf fl2 hb0 hb3 r0 r1 r2 HLO HA3 HGE HROW6
     go_wp2
     go_roundw
     case rel => exact ⟨j + 1, _, by go_num, by omega, HL9, hid (by rw [HST.out, ← HP.out]; exact HROW9.out), HON9⟩
     case measure => simp [intOf]; omega
    ·have hje : nf = j := by omega
     subst hje
     have hlm : (c.fields.map (fun f => methK c.pool f.name f.desc f.flags)).length = nf := by rw [List.length_map]; exact HN.out.1
     rw [List.take_of_length_le (Nat.le_of_eq hlm), hlm] at HL
     rw [List.take_of_length_le (Nat.le_of_eq hlm), hlm] at HROW
     obtain ⟨wg, hwg⟩ : ∃ x, x = wr := ⟨_, rfl⟩
     subst hwg
     obtain ⟨ufa, hua⟩ : ∃ x, x = al := ⟨_, rfl⟩
     subst hua
     obtain ⟨ufc, huc⟩ : ∃ x, x = cl := ⟨_, rfl⟩
     subst huc
     have HROWF := hid HROW.out
     have HONF := hid HON.out
     have HXG2 := hid HL.out
     have HWG := hid hww
     have HBG := hid hbx
     have HRG := hid (HON.out.heap HRX.out (by have := HXW.out; omega))
     have HGW := hid (show wf.heap.size ≤ wg.heap.size from HON.out.size)
     have HBS0 := hid HBS.out
     clear HBS
     have HBS := hid (show w.heap.size < wg.heap.size ∧ w.heap.size + 1 < wg.heap.size ∧ X < wg.heap.size from by have := HBS0.out; have := HGW.out; omega)
     clear HL HROW HON hww hbx HBR hlm hlt hj
     go_wp2
     go_loopw [11, 12, 13, 14, 15] (fun iv _ _ _ _ wr => ∃ (j : Nat) (vo : Value), iv = .int .i64 j ∧ j ≤ nm ∧ Hid (wr.heap[X]? = some (.cells #[.string nmz, .string suz, .slice ufa nf ufc, vo, .int .i64 pl] 77 (0, 0))) ∧ Hid (MeRow wr wg.heap.size vo ((c.methods.map (fun f => methK c.pool f.name f.desc f.flags)).take j)) ∧ Hid (Only (fun k => k = X) wg wr)) (fun iv _ _ _ _ _ => nm - (intOf iv).toNat)
     case atStart => exact ⟨0, _, rfl, Nat.zero_le _, HXG2, hid (MeRow.nil _ _), hid (Only.refl _ _)⟩
     case round =>
      obtain ⟨j, vo, rfl, hj, HL, HROW, HON⟩ := hrel
      obtain ⟨al, cl, rfl⟩ := HROW.out.slice
      have hww : Only (fun _ => False) w wr := Only.trans HWG.out HON.out (fun i e hl => by have := HXW.out; omega)
      have hbx := HON.out.heap HBG.out (by exact HNX0.out)
      have HBR := hid hbx
      have hb0 := cell_blk hbx 0
      have hb3 := cell_blk hbx 4
      by_cases hlt : j < nm
      ·have hjz : (j : Int) < (nm : Int) := by omega
       have hj0 : (0 : Int) ≤ (j : Int) := by omega
       have h64 : nm ≤ 64 := by have := HFEW.out; omega
       have hstep := map_take_step (fun f => methK c.pool f.name f.desc f.flags) (l := c.methods) (j := j) (by have := HN.out; omega)
       have hlen : ((c.methods.map (fun f => methK c.pool f.name f.desc f.flags)).take j).length ≤ 64 := by rw [List.length_take, List.length_map]; have := HN.out; have := HFEW.out; omega
       obtain ⟨us, hus⟩ : ∃ us, (c.methods.map (fun f => methK c.pool f.name f.desc f.flags)).take j = us := ⟨_, rfl⟩
       rw [hus] at HROW HL hstep hlen
       obtain ⟨f, hf⟩ : ∃ f, f = c.methods.getD j default := ⟨_, rfl⟩
       obtain ⟨b9, o9, e9, hat⟩ := Sl.at (Sl.imp HSLM.out (fun _ _ _ _ _ k => k.only hww)) (i := j) hlt
       obtain ⟨b8, o8, e8, hat0⟩ := Sl.at HSLM.out (i := j) hlt
       rw [e9] at e8
       injection e8 with e8
       injection e8 with e8 e7 _
       subst e8 e7
       subst e9
       have hlt9 : b9 < w.heap.size := World.block_lt_of_cell? _ _ hat0.c0
       rw [← hf] at hat hstep
       obtain ⟨r0, r1, r2, r3, r4, r5, r6, r7⟩ := hat
       clear hat0 r3 r4 r5 r6 r7
       have HY0 := hid r0
       have HYN := hid (show ¬ ((Value.slice al us.length cl).ownBlock = some b9) from fun e => by have := (MeRow.ge HROW.out _ e).1; have := HBS.out; have := HGW.out; omega)
       obtain ⟨tn, htn⟩ : ∃ x, textZ c.pool f.name = x := ⟨_, rfl⟩
       obtain ⟨td, htd⟩ : ∃ x, textZ c.pool f.desc = x := ⟨_, rfl⟩
       obtain ⟨p, hp⟩ : ∃ p : MethN, p = ⟨tn.1, td.1, f.flags⟩ := ⟨_, rfl⟩
       have HP := hid (show p = methK c.pool f.name f.desc f.flags by rw [hp, ← htn, ← htd]; rfl)
       have hpn : p.name = tn.1 := by rw [hp]
       have hpd : p.desc = td.1 := by rw [hp]
       have hpf : p.flags = f.flags := by rw [hp]
       have CN := hid (fun W (hW : Only (fun _ => False) wr W) => refText (.slice aop c.pool.length kop) c.pool f.name W (HPOOL.out.only (hww.trans hW (fun _ h _ => h)) (fun _ _ h => h)))
       have CD := hid (fun W (hW : Only (fun _ => False) wr W) => refText (.slice aop c.pool.length kop) c.pool f.desc W (HPOOL.out.only (hww.trans hW (fun _ h _ => h)) (fun _ _ h => h)))
       rw [htn, ← hpn] at CN
       rw [htd, ← hpd] at CD
       have hl2 := cell_blk HL.out 3
       have HSD := hid (fun W (hW : Only (fun _ => False) wr W) => show (fun wc => wc.cell? ⟨X, 3, none⟩ = some (.slice al us.length cl) ∧ wc.cell? ⟨w.heap.size, 4, none⟩ = some (.slice (some ⟨b9, o9, none⟩) nm kom) ∧ wc.cell? ⟨b9, o9 + j * 8, none⟩ = some (.int .i64 f.flags)) W from ⟨hW.cell hl2 (fun h => h), hW.cell hb3 (fun h => h), hW.cell r0 (fun h => h)⟩)
       have HST := hid hstep
       have HPF := hid hpf
       generalize tn.2 = tn2 at *
       generalize td.2 = td2 at *
       clear hstep hus htn htd hp hpn hpd hpf hww hbx hf hlt9 hl2
       go_wp2
       go_quiet (exact Calls.quiet_of_same ((CN.out _ (by exact ⟨rfl, rfl, rfl, Nat.le_refl _, fun _ _ _ => rfl⟩)).mono (fun _ _ h => ⟨h.1, h.2.symm⟩)))
       go_wp2
       go_quiet (exact (CD.out _ (by exact ⟨rfl, rfl, rfl, Nat.le_refl _, fun _ _ _ => rfl⟩)).mono (fun _ _ h => ⟨h.1, _, h.2.symm⟩))
       go_wp2
       refine wp_till 14 (fun wc => wc.cell? ⟨X, 3, none⟩ = some (.slice al us.length cl) ∧ wc.cell? ⟨w.heap.size, 4, none⟩ = some (.slice (some ⟨b9, o9, none⟩) nm kom) ∧ wc.cell? ⟨b9, o9 + j * 8, none⟩ = some (.int .i64 f.flags)) (by kernel_rfl) ?_
       refine Till.tk 0 (hS := by first | assumption | exact HSD.out _ (by exact ⟨rfl, rfl, rfl, Nat.le_refl _, fun _ _ _ => rfl⟩)) (h := ?_)
       refine Till.tk 1 (hS := by first | assumption | exact HSD.out _ (by exact ⟨rfl, rfl, rfl, Nat.le_refl _, fun _ _ _ => rfl⟩)) (h := ?_)
       refine Till.tk 2 (hS := by first | assumption | exact HSD.out _ (by exact ⟨rfl, rfl, rfl, Nat.le_refl _, fun _ _ _ => rfl⟩)) (h := ?_)
       refine Till.tk 3 (hS := by first | assumption | exact HSD.out _ (by exact ⟨rfl, rfl, rfl, Nat.le_refl _, fun _ _ _ => rfl⟩)) (h := ?_)
       refine Till.tk 4 (hS := by first | assumption | exact HSD.out _ (by exact ⟨rfl, rfl, rfl, Nat.le_refl _, fun _ _ _ => rfl⟩)) (h := ?_)
       refine Till.tk 5 (hS := by first | assumption | exact HSD.out _ (by exact ⟨rfl, rfl, rfl, Nat.le_refl _, fun _ _ _ => rfl⟩)) (h := ?_)
       refine Till.tk 6 (hS := by first | assumption | exact HSD.out _ (by exact ⟨rfl, rfl, rfl, Nat.le_refl _, fun _ _ _ => rfl⟩)) (h := ?_)
       refine Till.tk 7 (hS := by first | assumption | exact HSD.out _ (by exact ⟨rfl, rfl, rfl, Nat.le_refl _, fun _ _ _ => rfl⟩)) (h := ?_)
       refine Till.tk 8 (hS := by first | assumption | exact HSD.out _ (by exact ⟨rfl, rfl, rfl, Nat.le_refl _, fun _ _ _ => rfl⟩)) (h := ?_)
       refine Till.tk 9 (hS := by first | assumption | exact HSD.out _ (by exact ⟨rfl, rfl, rfl, Nat.le_refl _, fun _ _ _ => rfl⟩)) (h := ?_)
       refine Till.tk 10 (hS := by first | assumption | exact HSD.out _ (by exact ⟨rfl, rfl, rfl, Nat.le_refl _, fun _ _ _ => rfl⟩)) (h := ?_)
       refine Till.ts 11 (h := fun K hK => ?_)
       go_simp
       refine hK.out _ _ ?_ ?_
       ·exact fun _ => HSD.out _ (Only.alloc (by exact ⟨rfl, rfl, rfl, Nat.le_refl _, fun _ _ _ => rfl⟩) _)
       clear hK K
       try simp only [Act.put, sIB, sC0, sCS]
       refine Till.ts 12 (h := fun K hK => ?_)
       (refine step_append_src rfl (.tmp 99) (.tmp 109) 75 rfl 95 i0 (.agg #[.string ⟨#[]⟩, .string ⟨#[]⟩, .int .i64 0]) 3 40 Tryz.underlying75 hi hz0 hz1 hz2 rfl (by decide) wg.heap.size (.slice al us.length cl) us.length (us.flatMap cellsMe) rfl (by exact MeRow.only HROW.out (Only.alloc (by exact ⟨rfl, rfl, rfl, Nat.le_refl _, fun _ _ _ => rfl⟩) _) (fun _ _ h => h)) (by have := HON.out.size; simp; omega) (.slice (some ⟨wr.heap.size, 0, none⟩) 1 1) 1 (cellsMe p) rfl (by rw [← HPF.out]; exact Src.methn (m := wr.heap.size) p rfl) (by unfold maxLen; omega) (by omega) ?_; intro v' w3 hown hgrow hnew; have hos := (Only.refl (fun k => (Value.slice al us.length cl).ownBlock = some k) _).grown hgrow (fun k hk _ => hk); have hrow6 : MeRow w3 wg.heap.size v' (us ++ [p]) := MeRow.more hown; obtain ⟨an, cn, ev⟩ := hrow6.slice; obtain ⟨ln, hln⟩ : ∃ ln, (us ++ [p]).length = ln := ⟨_, rfl⟩; rw [hln] at ev; subst ev; clear hln; have HA3 := hid (Only.trans (T := fun k => (Value.slice al us.length cl).ownBlock = some k) (Only.alloc (S := fun k => (Value.slice al us.length cl).ownBlock = some k) (a := wr) (by exact ⟨rfl, rfl, rfl, Nat.le_refl _, fun _ _ _ => rfl⟩) _) hos (fun k hk _ => hk)); have HROW6 := hid hrow6; have hown3 : ∀ k, (Value.slice al us.length cl).ownBlock = some k → wg.heap.size ≤ k ∧ k < wr.heap.size := fun k hk => MeRow.ge HROW.out k hk; have HGE := hid hown3; have hlo := HA3.out.heap HL.out (fun e => by have := (hown3 _ e).1; have := HBS.out; omega); have hbo := HA3.out.heap HBR.out (fun e => by have := (hown3 _ e).1; have := HBS.out; omega); have hk2 := cell_blk hlo 3; have fl2 := frozen_blk hlo 3; have hk3 := cell_blk hbo 4; have hkf := HA3.out.cell HY0.out HYN.out; have HLO := hid hlo; clear hown hgrow hnew hos hrow6 hown3 hlo hbo)
       refine hK.out _ _ ?_ ?_
       ·exact fun _ => ⟨hk2, hk3, hkf⟩
       clear hK K
       try simp only [Act.put, sIB, sC0, sCS]
       refine Till.ts 13 (h := fun K hK => ?_)
       go_simp
       refine hK.out _ _ ?_ ?_
       ·exact fun _ => ⟨hk2, hk3, hkf⟩
       clear hK K
       try simp only [Act.put, sIB, sC0, sCS]
       refine Till.ts 14 (h := fun K hK => ?_)
       go_simp
       refine hK.out _ _ ?_ ?_
       ·exact fun h => by cases h
       clear hK K
       try simp only [Act.put, sIB, sC0, sCS]
       refine Till.done (by kernel_rfl) ?_ _
       have hl9 := heap_setCell_at (i := 3) (u := .slice an ln cn) HLO.out
       simp only [List.setIfInBounds_toArray, List.set_cons_zero, List.set_cons_succ] at hl9
       have hot := (Only.refl (fun k => k = X) w3).setCell (p := ⟨X, 3, none⟩) (fun _ => rfl) (.slice an ln cn)
       have hrow9 := MeRow.only HROW6.out hot (fun k hk e => by have := (MeRow.ge HROW6.out _ hk).1; have := HBS.out; omega)
       have hon9 := Only.trans (HON.out.trans HA3.out (fun i hi hl => by have := (HGE.out _ hi).1; omega)) hot (fun _ h _ => h)
       have HL9 := hid hl9
       have HROW9 := hid hrow9
       have HON9 := hid hon9
       clear hl9 hot hrow9 hon9 hk2 hk3 hkf fl2 hb0 hb3 r0 r1 r2 HLO HA3 HGE HROW6
       go_wp2
       go_roundw
       case rel => exact ⟨j + 1, _, by go_num, by omega, HL9, hid (by rw [HST.out, ← HP.out]; exact HROW9.out), HON9⟩
       case measure => simp [intOf]; omega
      ·have hje : nm = j := by omega
       subst hje
       have hlm : (c.methods.map (fun f => methK c.pool f.name f.desc f.flags)).length = nm := by rw [List.length_map]; exact HN.out.2
       rw [List.take_of_length_le (Nat.le_of_eq hlm), hlm] at HL
       rw [List.take_of_length_le (Nat.le_of_eq hlm), hlm] at HROW
       have HFIN := hid (HROWF.out.only HON.out (fun k hk e => by have := (MeRow.ge HROWF.out _ hk).1; have := HBS0.out; omega))
       have hrr := HON.out.heap HRG.out (by have := HXW.out; omega)
       obtain ⟨x0, x1, x2, x3, x4⟩ := cells5T HL.out
       obtain ⟨t0, t1, t2, t3, t4⟩ := cells5T hrr
       obtain ⟨v0, v1, v2, v3, v4⟩ := marks5T hrr
       have HRR := hid hrr
       have HFL := hid (fun x0 x1 x2 x3 x4 => fin_load (R := w.heap.size + 1) (x0 := x0) (x1 := x1) (x2 := x2) (x3 := x3) (x4 := x4) HFIN.out HROW.out HBS0.out.2.1 HBS.out.2.1 (by omega) hww)
       clear hrr hww hbx hlm hlt hj hb0
       go_wp2
       have hst := store5T (a0 := .string nmz) (a1 := .string suz) (a2 := .slice ufa nf ufc) (a3 := .slice al nm cl) (a4 := .int .i64 pl) HRR.out
       refine bodyPost_ret (kind_alone (b := w.heap.size + 1) Tryz.results35 hst rfl) rfl ⟨_, _, rfl, HFL.out _ _ _ _ _⟩
  ·have HQB := hid (And.intro hHeld.2.size (Nat.ne_of_lt (World.block_lt_of_cell? _ _ hHeld.1.1)))
   go_simp
   have HQ := hid (keepL hHeld ((Only.refl (fun _ => False) w2).alloc (.cells #[.string ⟨#[]⟩, .string ⟨#[]⟩, .slice none 0 0, .slice none 0 0, .int .i64 0] 77)))
   have HX := hid (heap_alloc_new w2 (.cells #[.string ⟨#[]⟩, .string ⟨#[]⟩, .slice none 0 0, .slice none 0 0, .int .i64 0] 77))
   refine hK.out _ _ ?_ (fun hHeld2 => ?_)
   ·exact HQ.out
   clear hK K
   try simp only [Act.put, sIB, sC0, sCS]
   clear hHeld
   have hHeld := hHeld2
   clear hHeld2
   obtain ⟨X, hX⟩ : ∃ x, w2.heap.size = x := ⟨_, rfl⟩
   obtain ⟨wx, hwx⟩ : ∃ x, w2.alloc (.cells #[.string ⟨#[]⟩, .string ⟨#[]⟩, .slice none 0 0, .slice none 0 0, .int .i64 0] 77) = x := ⟨_, rfl⟩
   have HXX := hid HX.out
   clear HX
   have HX := hid (show wx.heap[X]? = some (.cells #[.string ⟨#[]⟩, .string ⟨#[]⟩, .slice none 0 0, .slice none 0 0, .int .i64 0] 77 (0, 0)) from by rw [← hwx, ← hX]; exact HXX.out)
   have HXG := hid (show W1.heap.size ≤ X by rw [← hX]; exact HQB.out.1)
   have HNX0 := hid (show w.heap.size ≠ X by rw [← hX]; exact HQB.out.2)
   rw [hX, hwx]
   replace hHeld : (fun wc => (wc.cell? ⟨w.heap.size, 0, none⟩ = some ((.slice aop c.pool.length kop)) ∧ wc.cell? ⟨w.heap.size, 1, none⟩ = some (.int .i64 c.this) ∧ wc.cell? ⟨w.heap.size, 2, none⟩ = some (.int .i64 c.super) ∧ wc.cell? ⟨w.heap.size, 3, none⟩ = some ((.slice aof nf kof)) ∧ wc.cell? ⟨w.heap.size, 4, none⟩ = some ((.slice aom nm kom))) ∧ Only (fun _ => False) W1 wc) wx := by rw [← hwx]; exact hHeld
   dsimp only at hHeld
   clear HXX hX hwx
   refine tkR 3 (h := fun K hK => ?_)
   go_simp
   refine (CS.out _ hHeld.2).mono ?_
   rintro e w3 ⟨rfl, ho⟩
   have HQ := hid (keepL hHeld ho)
   have HX := hid (ho.heap HX.out (fun h => h))
   clear ho
   go_wp2_with fail
   refine hK.out _ _ ?_ (fun hHeld2 => ?_)
   ·exact HQ.out
   clear hK K
   try simp only [Act.put, sIB, sC0, sCS]
   clear hHeld
   have hHeld := hHeld2
   clear hHeld2
   refine tk2 5 (h := ?_)
   obtain ⟨x0, x1, x2, x3, x4⟩ := cells5T HX.out
   obtain ⟨v0, v1, v2, v3, v4⟩ := marks5T HX.out
   refine tkR 7 (h := fun K hK => ?_)
   go_simp
   have HQ := hid (keepLS hHeld HX.out HXG.out (Only.refl (fun k => k = X) w3) HNX0.out (.string nmz) (.string suz) (.slice none 0 0) (.slice none 0 0) (.int .i64 pl))
   refine hK.out _ _ ?_ (fun hHeld2 => ?_)
   ·exact HQ.out
   clear hK K
   try simp only [Act.put, sIB, sC0, sCS]
   clear hHeld
   have hHeld := hHeld2
   clear hHeld2
   refine wpAnyH_done (by kernel_rfl) ?_ _
   have HXF := hid (store5T (a0 := (.string nmz)) (a1 := (.string suz)) (a2 := (.slice none 0 0)) (a3 := (.slice none 0 0)) (a4 := (.int .i64 pl)) HX.out)
   obtain ⟨wf, hwf⟩ : ∃ x, (((((w3.setCell ⟨X, 0, none⟩ (.string nmz)).setCell ⟨X, 1, none⟩ (.string suz)).setCell ⟨X, 2, none⟩ (.slice none 0 0)).setCell ⟨X, 3, none⟩ (.slice none 0 0)).setCell ⟨X, 4, none⟩ (.int .i64 pl)) = x := ⟨_, rfl⟩
   rw [hwf] at HXF hHeld ⊢
   have HWF := hid hHeld.2
   clear hwf x0 x1 x2 x3 x4 v0 v1 v2 v3 v4 HX HQ hHeld
   have HWW := hid (HO1.out.trans HWF.out (fun _ h _ => h))
   have HXW := hid (show w.heap.size < X ∧ X ≠ w.heap.size + 1 from by have := HXG.out; have := HS1.out; omega)
   have HXL := hid (heap_lt HXF.out)
   have HBS := hid (show w.heap.size < wf.heap.size ∧ w.heap.size + 1 < wf.heap.size ∧ X < wf.heap.size from by have := HXL.out; have := HXG.out; have := HS1.out; omega)
   have HBX := hid (HWF.out.heap HB1.out (fun h => h))
   have HRX := hid (HWF.out.heap HR1.out (fun h => h))
   go_wp2
   go_loopw [6, 7, 8, 9, 10] (fun iv _ _ _ _ wr => ∃ (j : Nat) (vo : Value), iv = .int .i64 j ∧ j ≤ nf ∧ Hid (wr.heap[X]? = some (.cells #[.string nmz, .string suz, vo, .slice none 0 0, .int .i64 pl] 77 (0, 0))) ∧ Hid (MeRow wr wf.heap.size vo ((c.fields.map (fun f => methK c.pool f.name f.desc f.flags)).take j)) ∧ Hid (Only (fun k => k = X) wf wr)) (fun iv _ _ _ _ _ => nf - (intOf iv).toNat)
   case atStart => exact ⟨0, _, rfl, Nat.zero_le _, HXF, hid (MeRow.nil _ _), hid (Only.refl _ _)⟩
   case round =>
    obtain ⟨j, vo, rfl, hj, HL, HROW, HON⟩ := hrel
    obtain ⟨al, cl, rfl⟩ := HROW.out.slice
    have hww : Only (fun _ => False) w wr := Only.trans HWW.out HON.out (fun i e hl => by have := HXW.out; omega)
    have hbx := HON.out.heap HBX.out (by exact HNX0.out)
    have HBR := hid hbx
    have hb0 := cell_blk hbx 0
    have hb3 := cell_blk hbx 3
    by_cases hlt : j < nf
    ·have hjz : (j : Int) < (nf : Int) := by omega
     have hj0 : (0 : Int) ≤ (j : Int) := by omega
     have h64 : nf ≤ 64 := by have := HFEW.out; omega
     have hstep := map_take_step (fun f => methK c.pool f.name f.desc f.flags) (l := c.fields) (j := j) (by have := HN.out; omega)
     have hlen : ((c.fields.map (fun f => methK c.pool f.name f.desc f.flags)).take j).length ≤ 64 := by rw [List.length_take, List.length_map]; have := HN.out; have := HFEW.out; omega
     obtain ⟨us, hus⟩ : ∃ us, (c.fields.map (fun f => methK c.pool f.name f.desc f.flags)).take j = us := ⟨_, rfl⟩
     rw [hus] at HROW HL hstep hlen
     obtain ⟨f, hf⟩ : ∃ f, f = c.fields.getD j default := ⟨_, rfl⟩
     have hsf := (HFLD.out.only hww).1
     have hs0 := HFLD.out.1
     rw [HN.out.1] at hsf hs0
     obtain ⟨b9, o9, e9, hat⟩ := Sl.at hsf hlt
     obtain ⟨b8, o8, e8, hat0⟩ := Sl.at hs0 hlt
     rw [e9] at e8
     injection e8 with e8
     injection e8 with e8 e7 _
     subst e8 e7
     subst e9
     have hlt9 : b9 < w.heap.size := World.block_lt_of_cell? _ _ hat0.c0
     rw [← hf] at hat hstep
     obtain ⟨r0, r1, r2⟩ := hat
     clear hsf hs0 hat0
     have HY0 := hid r0
     have HYN := hid (show ¬ ((Value.slice al us.length cl).ownBlock = some b9) from fun e => by have := (MeRow.ge HROW.out _ e).1; have := HBS.out; omega)
     obtain ⟨tn, htn⟩ : ∃ x, textZ c.pool f.name = x := ⟨_, rfl⟩
     obtain ⟨td, htd⟩ : ∃ x, textZ c.pool f.desc = x := ⟨_, rfl⟩
     obtain ⟨p, hp⟩ : ∃ p : MethN, p = ⟨tn.1, td.1, f.flags⟩ := ⟨_, rfl⟩
     have HP := hid (show p = methK c.pool f.name f.desc f.flags by rw [hp, ← htn, ← htd]; rfl)
     have hpn : p.name = tn.1 := by rw [hp]
     have hpd : p.desc = td.1 := by rw [hp]
     have hpf : p.flags = f.flags := by rw [hp]
     have CN := hid (fun W (hW : Only (fun _ => False) wr W) => refText (.slice aop c.pool.length kop) c.pool f.name W (HPOOL.out.only (hww.trans hW (fun _ h _ => h)) (fun _ _ h => h)))
     have CD := hid (fun W (hW : Only (fun _ => False) wr W) => refText (.slice aop c.pool.length kop) c.pool f.desc W (HPOOL.out.only (hww.trans hW (fun _ h _ => h)) (fun _ _ h => h)))
     rw [htn, ← hpn] at CN
     rw [htd, ← hpd] at CD
     have hl2 := cell_blk HL.out 2
     have HSD := hid (fun W (hW : Only (fun _ => False) wr W) => show (fun wc => wc.cell? ⟨X, 2, none⟩ = some (.slice al us.length cl) ∧ wc.cell? ⟨w.heap.size, 3, none⟩ = some (.slice (some ⟨b9, o9, none⟩) nf kof) ∧ wc.cell? ⟨b9, o9 + j * 3, none⟩ = some (.int .i64 f.flags)) W from ⟨hW.cell hl2 (fun h => h), hW.cell hb3 (fun h => h), hW.cell r0 (fun h => h)⟩)
     have HST := hid hstep
     have HPF := hid hpf
     generalize tn.2 = tn2 at *
     generalize td.2 = td2 at *
     clear hstep hus htn htd hp hpn hpd hpf hww hbx hf hlt9 hl2
     go_wp2
     go_quiet (exact Calls.quiet_of_same ((CN.out _ (by exact ⟨rfl, rfl, rfl, Nat.le_refl _, fun _ _ _ => rfl⟩)).mono (fun _ _ h => ⟨h.1, h.2.symm⟩)))
     go_wp2
     go_quiet (exact (CD.out _ (by exact ⟨rfl, rfl, rfl, Nat.le_refl _, fun _ _ _ => rfl⟩)).mono (fun _ _ h => ⟨h.1, _, h.2.symm⟩))
     go_wp2
     refine wp_till 14 (fun wc => wc.cell? ⟨X, 2, none⟩ = some (.slice al us.length cl) ∧ wc.cell? ⟨w.heap.size, 3, none⟩ = some (.slice (some ⟨b9, o9, none⟩) nf kof) ∧ wc.cell? ⟨b9, o9 + j * 3, none⟩ = some (.int .i64 f.flags)) (by kernel_rfl) ?_
     refine Till.tk 0 (hS := by first | assumption | exact HSD.out _ (by exact ⟨rfl, rfl, rfl, Nat.le_refl _, fun _ _ _ => rfl⟩)) (h := ?_)
     refine Till.tk 1 (hS := by first | assumption | exact HSD.out _ (by exact ⟨rfl, rfl, rfl, Nat.le_refl _, fun _ _ _ => rfl⟩)) (h := ?_)
     refine Till.tk 2 (hS := by first | assumption | exact HSD.out _ (by exact ⟨rfl, rfl, rfl, Nat.le_refl _, fun _ _ _ => rfl⟩)) (h := ?_)
     refine Till.tk 3 (hS := by first | assumption | exact HSD.out _ (by exact ⟨rfl, rfl, rfl, Nat.le_refl _, fun _ _ _ => rfl⟩)) (h := ?_)
     refine Till.tk 4 (hS := by first | assumption | exact HSD.out _ (by exact ⟨rfl, rfl, rfl, Nat.le_refl _, fun _ _ _ => rfl⟩)) (h := ?_)
     refine Till.tk 5 (hS := by first | assumption | exact HSD.out _ (by exact ⟨rfl, rfl, rfl, Nat.le_refl _, fun _ _ _ => rfl⟩)) (h := ?_)
     refine Till.tk 6 (hS := by first | assumption | exact HSD.out _ (by exact ⟨rfl, rfl, rfl, Nat.le_refl _, fun _ _ _ => rfl⟩)) (h := ?_)
     refine Till.tk 7 (hS := by first | assumption | exact HSD.out _ (by exact ⟨rfl, rfl, rfl, Nat.le_refl _, fun _ _ _ => rfl⟩)) (h := ?_)
     refine Till.tk 8 (hS := by first | assumption | exact HSD.out _ (by exact ⟨rfl, rfl, rfl, Nat.le_refl _, fun _ _ _ => rfl⟩)) (h := ?_)
     refine Till.tk 9 (hS := by first | assumption | exact HSD.out _ (by exact ⟨rfl, rfl, rfl, Nat.le_refl _, fun _ _ _ => rfl⟩)) (h := ?_)
     refine Till.tk 10 (hS := by first | assumption | exact HSD.out _ (by exact ⟨rfl, rfl, rfl, Nat.le_refl _, fun _ _ _ => rfl⟩)) (h := ?_)
     refine Till.ts 11 (h := fun K hK => ?_)
     go_simp
     refine hK.out _ _ ?_ ?_
     ·exact fun _ => HSD.out _ (Only.alloc (by exact ⟨rfl, rfl, rfl, Nat.le_refl _, fun _ _ _ => rfl⟩) _)
     clear hK K
     try simp only [Act.put, sIB, sC0, sCS]
     refine Till.ts 12 (h := fun K hK => ?_)
     (refine step_append_src rfl (.tmp 54) (.tmp 64) 75 rfl 95 i0 (.agg #[.string ⟨#[]⟩, .string ⟨#[]⟩, .int .i64 0]) 3 40 Tryz.underlying75 hi hz0 hz1 hz2 rfl (by decide) wf.heap.size (.slice al us.length cl) us.length (us.flatMap cellsMe) rfl (by exact MeRow.only HROW.out (Only.alloc (by exact ⟨rfl, rfl, rfl, Nat.le_refl _, fun _ _ _ => rfl⟩) _) (fun _ _ h => h)) (by have := HON.out.size; simp; omega) (.slice (some ⟨wr.heap.size, 0, none⟩) 1 1) 1 (cellsMe p) rfl (by rw [← HPF.out]; exact Src.methn (m := wr.heap.size) p rfl) (by unfold maxLen; omega) (by omega) ?_; intro v' w3 hown hgrow hnew; have hos := (Only.refl (fun k => (Value.slice al us.length cl).ownBlock = some k) _).grown hgrow (fun k hk _ => hk); have hrow6 : MeRow w3 wf.heap.size v' (us ++ [p]) := MeRow.more hown; obtain ⟨an, cn, ev⟩ := hrow6.slice; obtain ⟨ln, hln⟩ : ∃ ln, (us ++ [p]).length = ln := ⟨_, rfl⟩; rw [hln] at ev; subst ev; clear hln; have HA3 := hid (Only.trans (T := fun k => (Value.slice al us.length cl).ownBlock = some k) (Only.alloc (S := fun k => (Value.slice al us.length cl).ownBlock = some k) (a := wr) (by exact ⟨rfl, rfl, rfl, Nat.le_refl _, fun _ _ _ => rfl⟩) _) hos (fun k hk _ => hk)); have HROW6 := hid hrow6; have hown3 : ∀ k, (Value.slice al us.length cl).ownBlock = some k → wf.heap.size ≤ k ∧ k < wr.heap.size := fun k hk => MeRow.ge HROW.out k hk; have HGE := hid hown3; have hlo := HA3.out.heap HL.out (fun e => by have := (hown3 _ e).1; have := HBS.out; omega); have hbo := HA3.out.heap HBR.out (fun e => by have := (hown3 _ e).1; have := HBS.out; omega); have hk2 := cell_blk hlo 2; have fl2 := frozen_blk hlo 2; have hk3 := cell_blk hbo 3; have hkf := HA3.out.cell HY0.out HYN.out; have HLO := hid hlo; clear hown hgrow hnew hos hrow6 hown3 hlo hbo)
     refine hK.out _ _ ?_ ?_
     ·exact fun _ => ⟨hk2, hk3, hkf⟩
     clear hK K
     try simp only [Act.put, sIB, sC0, sCS]
     refine Till.ts 13 (h := fun K hK => ?_)
     go_simp
     refine hK.out _ _ ?_ ?_
     ·exact fun _ => ⟨hk2, hk3, hkf⟩
     clear hK K
     try simp only [Act.put, sIB, sC0, sCS]
     refine Till.ts 14 (h := fun K hK => ?_)
     go_simp
     refine hK.out _ _ ?_ ?_
     ·exact fun h => by cases h
     clear hK K
     try simp only [Act.put, sIB, sC0, sCS]
     refine Till.done (by kernel_rfl) ?_ _
     have hl9 := heap_setCell_at (i := 2) (u := .slice an ln cn) HLO.out
     simp only [List.setIfInBounds_toArray, List.set_cons_zero, List.set_cons_succ] at hl9
     have hot := (Only.refl (fun k => k = X) w3).setCell (p := ⟨X, 2, none⟩) (fun _ => rfl) (.slice an ln cn)
     have hrow9 := MeRow.only HROW6.out hot (fun k hk e => by have := (MeRow.ge HROW6.out _ hk).1; have := HBS.out; omega)
     have hon9 := Only.trans (HON.out.trans HA3.out (fun i hi hl => by have := (HGE.out _ hi).1; omega)) hot (fun _ h _ => h)
     have HL9 := hid hl9
     have HROW9 := hid hrow9
     have HON9 := hid hon9
     clear hl9 hot hrow9 hon9 hk2 hk3 hkf fl2 hb0 hb3 r0 r1 r2 HLO HA3 HGE HROW6
     go_wp2
     go_roundw
     case rel => exact ⟨j + 1, _, by go_num, by omega, HL9, hid (by rw [HST.out, ← HP.out]; exact HROW9.out), HON9⟩
     case measure => simp [intOf]; omega
    ·have hje : nf = j := by omega
     subst hje
     have hlm : (c.fields.map (fun f => methK c.pool f.name f.desc f.flags)).length = nf := by rw [List.length_map]; exact HN.out.1
     rw [List.take_of_length_le (Nat.le_of_eq hlm), hlm] at HL
     rw [List.take_of_length_le (Nat.le_of_eq hlm), hlm] at HROW
     obtain ⟨wg, hwg⟩ : ∃ x, x = wr := ⟨_, rfl⟩
     subst hwg
     obtain ⟨ufa, hua⟩ : ∃ x, x = al := ⟨_, rfl⟩
     subst hua
     obtain ⟨ufc, huc⟩ : ∃ x, x = cl := ⟨_, rfl⟩
     subst huc
     have HROWF := hid HROW.out
     have HONF := hid HON.out
     have HXG2 := hid HL.out
     have HWG := hid hww
     have HBG := hid hbx
     have HRG := hid (HON.out.heap HRX.out (by have := HXW.out; omega))
     have HGW := hid (show wf.heap.size ≤ wg.heap.size from HON.out.size)
     have HBS0 := hid HBS.out
     clear HBS
     have HBS := hid (show w.heap.size < wg.heap.size ∧ w.heap.size + 1 < wg.heap.size ∧ X < wg.heap.size from by have := HBS0.out; have := HGW.out; omega)
     clear HL HROW HON hww hbx HBR hlm hlt hj
     go_wp2
     go_loopw [11, 12, 13, 14, 15] (fun iv _ _ _ _ wr => ∃ (j : Nat) (vo : Value), iv = .int .i64 j ∧ j ≤ nm ∧ Hid (wr.heap[X]? = some (.cells #[.string nmz, .string suz, .slice ufa nf ufc, vo, .int .i64 pl] 77 (0, 0))) ∧ Hid (MeRow wr wg.heap.size vo ((c.methods.map (fun f => methK c.pool f.name f.desc f.flags)).take j)) ∧ Hid (Only (fun k => k = X) wg wr)) (fun iv _ _ _ _ _ => nm - (intOf iv).toNat)
     case atStart => exact ⟨0, _, rfl, Nat.zero_le _, HXG2, hid (MeRow.nil _ _), hid (Only.refl _ _)⟩
     case round =>
      obtain ⟨j, vo, rfl, hj, HL, HROW, HON⟩ := hrel
      obtain ⟨al, cl, rfl⟩ := HROW.out.slice
      have hww : Only (fun _ => False) w wr := Only.trans HWG.out HON.out (fun i e hl => by have := HXW.out; omega)
      have hbx := HON.out.heap HBG.out (by exact HNX0.out)
      have HBR := hid hbx
      have hb0 := cell_blk hbx 0
      have hb3 := cell_blk hbx 4
      by_cases hlt : j < nm
      ·have hjz : (j : Int) < (nm : Int) := by omega
       have hj0 : (0 : Int) ≤ (j : Int) := by omega
       have h64 : nm ≤ 64 := by have := HFEW.out; omega
       have hstep := map_take_step (fun f => methK c.pool f.name f.desc f.flags) (l := c.methods) (j := j) (by have := HN.out; omega)
       have hlen : ((c.methods.map (fun f => methK c.pool f.name f.desc f.flags)).take j).length ≤ 64 := by rw [List.length_take, List.length_map]; have := HN.out; have := HFEW.out; omega
       obtain ⟨us, hus⟩ : ∃ us, (c.methods.map (fun f => methK c.pool f.name f.desc f.flags)).take j = us := ⟨_, rfl⟩
       rw [hus] at HROW HL hstep hlen
       obtain ⟨f, hf⟩ : ∃ f, f = c.methods.getD j default := ⟨_, rfl⟩
       obtain ⟨b9, o9, e9, hat⟩ := Sl.at (Sl.imp HSLM.out (fun _ _ _ _ _ k => k.only hww)) (i := j) hlt
       obtain ⟨b8, o8, e8, hat0⟩ := Sl.at HSLM.out (i := j) hlt
       rw [e9] at e8
       injection e8 with e8
       injection e8 with e8 e7 _
       subst e8 e7
       subst e9
       have hlt9 : b9 < w.heap.size := World.block_lt_of_cell? _ _ hat0.c0
       rw [← hf] at hat hstep
       obtain ⟨r0, r1, r2, r3, r4, r5, r6, r7⟩ := hat
       clear hat0 r3 r4 r5 r6 r7
       have HY0 := hid r0
       have HYN := hid (show ¬ ((Value.slice al us.length cl).ownBlock = some b9) from fun e => by have := (MeRow.ge HROW.out _ e).1; have := HBS.out; have := HGW.out; omega)
       obtain ⟨tn, htn⟩ : ∃ x, textZ c.pool f.name = x := ⟨_, rfl⟩
       obtain ⟨td, htd⟩ : ∃ x, textZ c.pool f.desc = x := ⟨_, rfl⟩
       obtain ⟨p, hp⟩ : ∃ p : MethN, p = ⟨tn.1, td.1, f.flags⟩ := ⟨_, rfl⟩
       have HP := hid (show p = methK c.pool f.name f.desc f.flags by rw [hp, ← htn, ← htd]; rfl)
       have hpn : p.name = tn.1 := by rw [hp]
       have hpd : p.desc = td.1 := by rw [hp]
       have hpf : p.flags = f.flags := by rw [hp]
       have CN := hid (fun W (hW : Only (fun _ => False) wr W) => refText (.slice aop c.pool.length kop) c.pool f.name W (HPOOL.out.only (hww.trans hW (fun _ h _ => h)) (fun _ _ h => h)))
       have CD := hid (fun W (hW : Only (fun _ => False) wr W) => refText (.slice aop c.pool.length kop) c.pool f.desc W (HPOOL.out.only (hww.trans hW (fun _ h _ => h)) (fun _ _ h => h)))
       rw [htn, ← hpn] at CN
       rw [htd, ← hpd] at CD
       have hl2 := cell_blk HL.out 3
       have HSD := hid (fun W (hW : Only (fun _ => False) wr W) => show (fun wc => wc.cell? ⟨X, 3, none⟩ = some (.slice al us.length cl) ∧ wc.cell? ⟨w.heap.size, 4, none⟩ = some (.slice (some ⟨b9, o9, none⟩) nm kom) ∧ wc.cell? ⟨b9, o9 + j * 8, none⟩ = some (.int .i64 f.flags)) W from ⟨hW.cell hl2 (fun h => h), hW.cell hb3 (fun h => h), hW.cell r0 (fun h => h)⟩)
       have HST := hid hstep
       have HPF := hid hpf
       generalize tn.2 = tn2 at *
       generalize td.2 = td2 at *
       clear hstep hus htn htd hp hpn hpd hpf hww hbx hf hlt9 hl2
       go_wp2
       go_quiet (exact Calls.quiet_of_same ((CN.out _ (by exact ⟨rfl, rfl, rfl, Nat.le_refl _, fun _ _ _ => rfl⟩)).mono (fun _ _ h => ⟨h.1, h.2.symm⟩)))
       go_wp2
       go_quiet (exact (CD.out _ (by exact ⟨rfl, rfl, rfl, Nat.le_refl _, fun _ _ _ => rfl⟩)).mono (fun _ _ h => ⟨h.1, _, h.2.symm⟩))
       go_wp2
       refine wp_till 14 (fun wc => wc.cell? ⟨X, 3, none⟩ = some (.slice al us.length cl) ∧ wc.cell? ⟨w.heap.size, 4, none⟩ = some (.slice (some ⟨b9, o9, none⟩) nm kom) ∧ wc.cell? ⟨b9, o9 + j * 8, none⟩ = some (.int .i64 f.flags)) (by kernel_rfl) ?_
       refine Till.tk 0 (hS := by first | assumption | exact HSD.out _ (by exact ⟨rfl, rfl, rfl, Nat.le_refl _, fun _ _ _ => rfl⟩)) (h := ?_)
       refine Till.tk 1 (hS := by first | assumption | exact HSD.out _ (by exact ⟨rfl, rfl, rfl, Nat.le_refl _, fun _ _ _ => rfl⟩)) (h := ?_)
       refine Till.tk 2 (hS := by first | assumption | exact HSD.out _ (by exact ⟨rfl, rfl, rfl, Nat.le_refl _, fun _ _ _ => rfl⟩)) (h := ?_)
       refine Till.tk 3 (hS := by first | assumption | exact HSD.out _ (by exact ⟨rfl, rfl, rfl, Nat.le_refl _, fun _ _ _ => rfl⟩)) (h := ?_)
       refine Till.tk 4 (hS := by first | assumption | exact HSD.out _ (by exact ⟨rfl, rfl, rfl, Nat.le_refl _, fun _ _ _ => rfl⟩)) (h := ?_)
       refine Till.tk 5 (hS := by first | assumption | exact HSD.out _ (by exact ⟨rfl, rfl, rfl, Nat.le_refl _, fun _ _ _ => rfl⟩)) (h := ?_)
       refine Till.tk 6 (hS := by first | assumption | exact HSD.out _ (by exact ⟨rfl, rfl, rfl, Nat.le_refl _, fun _ _ _ => rfl⟩)) (h := ?_)
       refine Till.tk 7 (hS := by first | assumption | exact HSD.out _ (by exact ⟨rfl, rfl, rfl, Nat.le_refl _, fun _ _ _ => rfl⟩)) (h := ?_)
       refine Till.tk 8 (hS := by first | assumption | exact HSD.out _ (by exact ⟨rfl, rfl, rfl, Nat.le_refl _, fun _ _ _ => rfl⟩)) (h := ?_)
       refine Till.tk 9 (hS := by first | assumption | exact HSD.out _ (by exact ⟨rfl, rfl, rfl, Nat.le_refl _, fun _ _ _ => rfl⟩)) (h := ?_)
       refine Till.tk 10 (hS := by first | assumption | exact HSD.out _ (by exact ⟨rfl, rfl, rfl, Nat.le_refl _, fun _ _ _ => rfl⟩)) (h := ?_)
       refine Till.ts 11 (h := fun K hK => ?_)
       go_simp
       refine hK.out _ _ ?_ ?_
       ·exact fun _ => HSD.out _ (Only.alloc (by exact ⟨rfl, rfl, rfl, Nat.le_refl _, fun _ _ _ => rfl⟩) _)
       clear hK K
       try simp only [Act.put, sIB, sC0, sCS]
       refine Till.ts 12 (h := fun K hK => ?_)
       (refine step_append_src rfl (.tmp 99) (.tmp 109) 75 rfl 95 i0 (.agg #[.string ⟨#[]⟩, .string ⟨#[]⟩, .int .i64 0]) 3 40 Tryz.underlying75 hi hz0 hz1 hz2 rfl (by decide) wg.heap.size (.slice al us.length cl) us.length (us.flatMap cellsMe) rfl (by exact MeRow.only HROW.out (Only.alloc (by exact ⟨rfl, rfl, rfl, Nat.le_refl _, fun _ _ _ => rfl⟩) _) (fun _ _ h => h)) (by have := HON.out.size; simp; omega) (.slice (some ⟨wr.heap.size, 0, none⟩) 1 1) 1 (cellsMe p) rfl (by rw [← HPF.out]; exact Src.methn (m := wr.heap.size) p rfl) (by unfold maxLen; omega) (by omega) ?_; intro v' w3 hown hgrow hnew; have hos := (Only.refl (fun k => (Value.slice al us.length cl).ownBlock = some k) _).grown hgrow (fun k hk _ => hk); have hrow6 : MeRow w3 wg.heap.size v' (us ++ [p]) := MeRow.more hown; obtain ⟨an, cn, ev⟩ := hrow6.slice; obtain ⟨ln, hln⟩ : ∃ ln, (us ++ [p]).length = ln := ⟨_, rfl⟩; rw [hln] at ev; subst ev; clear hln; have HA3 := hid (Only.trans (T := fun k => (Value.slice al us.length cl).ownBlock = some k) (Only.alloc (S := fun k => (Value.slice al us.length cl).ownBlock = some k) (a := wr) (by exact ⟨rfl, rfl, rfl, Nat.le_refl _, fun _ _ _ => rfl⟩) _) hos (fun k hk _ => hk)); have HROW6 := hid hrow6; have hown3 : ∀ k, (Value.slice al us.length cl).ownBlock = some k → wg.heap.size ≤ k ∧ k < wr.heap.size := fun k hk => MeRow.ge HROW.out k hk; have HGE := hid hown3; have hlo := HA3.out.heap HL.out (fun e => by have := (hown3 _ e).1; have := HBS.out; omega); have hbo := HA3.out.heap HBR.out (fun e => by have := (hown3 _ e).1; have := HBS.out; omega); have hk2 := cell_blk hlo 3; have fl2 := frozen_blk hlo 3; have hk3 := cell_blk hbo 4; have hkf := HA3.out.cell HY0.out HYN.out; have HLO := hid hlo; clear hown hgrow hnew hos hrow6 hown3 hlo hbo)
       refine hK.out _ _ ?_ ?_
       ·exact fun _ => ⟨hk2, hk3, hkf⟩
       clear hK K
       try simp only [Act.put, sIB, sC0, sCS]
       refine Till.ts 13 (h := fun K hK => ?_)
       go_simp
       refine hK.out _ _ ?_ ?_
       ·exact fun _ => ⟨hk2, hk3, hkf⟩
       clear hK K
       try simp only [Act.put, sIB, sC0, sCS]
       refine Till.ts 14 (h := fun K hK => ?_)
       go_simp
       refine hK.out _ _ ?_ ?_
       ·exact fun h => by cases h
       clear hK K
       try simp only [Act.put, sIB, sC0, sCS]
       refine Till.done (by kernel_rfl) ?_ _
       have hl9 := heap_setCell_at (i := 3) (u := .slice an ln cn) HLO.out
       simp only [List.setIfInBounds_toArray, List.set_cons_zero, List.set_cons_succ] at hl9
       have hot := (Only.refl (fun k => k = X) w3).setCell (p := ⟨X, 3, none⟩) (fun _ => rfl) (.slice an ln cn)
       have hrow9 := MeRow.only HROW6.out hot (fun k hk e => by have := (MeRow.ge HROW6.out _ hk).1; have := HBS.out; omega)
       have hon9 := Only.trans (HON.out.trans HA3.out (fun i hi hl => by have := (HGE.out _ hi).1; omega)) hot (fun _ h _ => h)
       have HL9 := hid hl9
       have HROW9 := hid hrow9
       have HON9 := hid hon9
       clear hl9 hot hrow9 hon9 hk2 hk3 hkf fl2 hb0 hb3 r0 r1 r2 HLO HA3 HGE HROW6
       go_wp2
       go_roundw
       case rel => exact ⟨j + 1, _, by go_num, by omega, HL9, hid (by rw [HST.out, ← HP.out]; exact HROW9.out), HON9⟩
       case measure => simp [intOf]; omega
      ·have hje : nm = j := by omega
       subst hje
       have hlm : (c.methods.map (fun f => methK c.pool f.name f.desc f.flags)).length = nm := by rw [List.length_map]; exact HN.out.2
       rw [List.take_of_length_le (Nat.le_of_eq hlm), hlm] at HL
       rw [List.take_of_length_le (Nat.le_of_eq hlm), hlm] at HROW
       have HFIN := hid (HROWF.out.only HON.out (fun k hk e => by have := (MeRow.ge HROWF.out _ hk).1; have := HBS0.out; omega))
       have hrr := HON.out.heap HRG.out (by have := HXW.out; omega)
       obtain ⟨x0, x1, x2, x3, x4⟩ := cells5T HL.out
       obtain ⟨t0, t1, t2, t3, t4⟩ := cells5T hrr
       obtain ⟨v0, v1, v2, v3, v4⟩ := marks5T hrr
       have HRR := hid hrr
       have HFL := hid (fun x0 x1 x2 x3 x4 => fin_load (R := w.heap.size + 1) (x0 := x0) (x1 := x1) (x2 := x2) (x3 := x3) (x4 := x4) HFIN.out HROW.out HBS0.out.2.1 HBS.out.2.1 (by omega) hww)
       clear hrr hww hbx hlm hlt hj hb0
       go_wp2
       have hst := store5T (a0 := .string nmz) (a1 := .string suz) (a2 := .slice ufa nf ufc) (a3 := .slice al nm cl) (a4 := .int .i64 pl) HRR.out
       refine bodyPost_ret (kind_alone (b := w.heap.size + 1) Tryz.results35 hst rfl) rfl ⟨_, _, rfl, HFL.out _ _ _ _ _⟩
 ·have HQB := hid (And.intro hHeld.2.size (Nat.ne_of_lt (World.block_lt_of_cell? _ _ hHeld.1.1)))
  go_simp
  have HQ := hid (keepL hHeld ((Only.refl (fun _ => False) (W1.drewN 1)).alloc (.cells #[.string ⟨#[]⟩, .string ⟨#[]⟩, .slice none 0 0, .slice none 0 0, .int .i64 0] 77)))
  have HX := hid (heap_alloc_new (W1.drewN 1) (.cells #[.string ⟨#[]⟩, .string ⟨#[]⟩, .slice none 0 0, .slice none 0 0, .int .i64 0] 77))
  refine hK.out _ _ ?_ (fun hHeld2 => ?_)
  ·exact HQ.out
  clear hK K
  try simp only [Act.put, sIB, sC0, sCS]
  clear hHeld
  have hHeld := hHeld2
  clear hHeld2
  obtain ⟨X, hX⟩ : ∃ x, W1.heap.size = x := ⟨_, rfl⟩
  obtain ⟨wx, hwx⟩ : ∃ x, (W1.alloc (.cells #[.string ⟨#[]⟩, .string ⟨#[]⟩, .slice none 0 0, .slice none 0 0, .int .i64 0] 77)).drew = x := ⟨_, rfl⟩
  have HXX := hid HX.out
  clear HX
  have HX := hid (show wx.heap[X]? = some (.cells #[.string ⟨#[]⟩, .string ⟨#[]⟩, .slice none 0 0, .slice none 0 0, .int .i64 0] 77 (0, 0)) from by rw [← hwx, ← hX]; exact HXX.out)
  have HXG := hid (show W1.heap.size ≤ X by rw [← hX]; exact HQB.out.1)
  have HNX0 := hid (show w.heap.size ≠ X by rw [← hX]; exact HQB.out.2)
  rw [hX, hwx]
  replace hHeld : (fun wc => (wc.cell? ⟨w.heap.size, 0, none⟩ = some ((.slice aop c.pool.length kop)) ∧ wc.cell? ⟨w.heap.size, 1, none⟩ = some (.int .i64 c.this) ∧ wc.cell? ⟨w.heap.size, 2, none⟩ = some (.int .i64 c.super) ∧ wc.cell? ⟨w.heap.size, 3, none⟩ = some ((.slice aof nf kof)) ∧ wc.cell? ⟨w.heap.size, 4, none⟩ = some ((.slice aom nm kom))) ∧ Only (fun _ => False) W1 wc) wx := by rw [← hwx]; exact hHeld
  dsimp only at hHeld
  clear HXX hX hwx
  refine tkR 1 (h := fun K hK => ?_)
  go_simp
  refine (CN.out _ hHeld.2).mono ?_
  rintro e w2 ⟨rfl, ho⟩
  have HQ := hid (keepL hHeld ho)
  have HX := hid (ho.heap HX.out (fun h => h))
  clear ho
  go_wp2_with fail
  refine hK.out _ _ ?_ (fun hHeld2 => ?_)
  ·exact HQ.out
  clear hK K
  try simp only [Act.put, sIB, sC0, sCS]
  clear hHeld
  have hHeld := hHeld2
  clear hHeld2
  refine tkR 3 (h := fun K hK => ?_)
  go_simp
  refine (CS.out _ hHeld.2).mono ?_
  rintro e w3 ⟨rfl, ho⟩
  have HQ := hid (keepL hHeld ho)
  have HX := hid (ho.heap HX.out (fun h => h))
  clear ho
  go_wp2_with fail
  refine hK.out _ _ ?_ (fun hHeld2 => ?_)
  ·exact HQ.out
  clear hK K
  try simp only [Act.put, sIB, sC0, sCS]
  clear hHeld
  have hHeld := hHeld2
  clear hHeld2
  refine tk2 5 (h := ?_)
  obtain ⟨x0, x1, x2, x3, x4⟩ := cells5T HX.out
  obtain ⟨v0, v1, v2, v3, v4⟩ := marks5T HX.out
  refine tkR 7 (h := fun K hK => ?_)
  go_simp
  have HQ := hid (keepLS hHeld HX.out HXG.out (Only.refl (fun k => k = X) w3) HNX0.out (.string nmz) (.string suz) (.slice none 0 0) (.slice none 0 0) (.int .i64 pl))
  refine hK.out _ _ ?_ (fun hHeld2 => ?_)
  ·exact HQ.out
  clear hK K
  try simp only [Act.put, sIB, sC0, sCS]
  clear hHeld
  have hHeld := hHeld2
  clear hHeld2
  refine wpAnyH_done (by kernel_rfl) ?_ _
  have HXF := hid (store5T (a0 := (.string nmz)) (a1 := (.string suz)) (a2 := (.slice none 0 0)) (a3 := (.slice none 0 0)) (a4 := (.int .i64 pl)) HX.out)
  obtain ⟨wf, hwf⟩ : ∃ x, (((((w3.setCell ⟨X, 0, none⟩ (.string nmz)).setCell ⟨X, 1, none⟩ (.string suz)).setCell ⟨X, 2, none⟩ (.slice none 0 0)).setCell ⟨X, 3, none⟩ (.slice none 0 0)).setCell ⟨X, 4, none⟩ (.int .i64 pl)) = x := ⟨_, rfl⟩
  rw [hwf] at HXF hHeld ⊢
  have HWF := hid hHeld.2
  clear hwf x0 x1 x2 x3 x4 v0 v1 v2 v3 v4 HX HQ hHeld
  have HWW := hid (HO1.out.trans HWF.out (fun _ h _ => h))
  have HXW := hid (show w.heap.size < X ∧ X ≠ w.heap.size + 1 from by have := HXG.out; have := HS1.out; omega)
  have HXL := hid (heap_lt HXF.out)
  have HBS := hid (show w.heap.size < wf.heap.size ∧ w.heap.size + 1 < wf.heap.size ∧ X < wf.heap.size from by have := HXL.out; have := HXG.out; have := HS1.out; omega)
  have HBX := hid (HWF.out.heap HB1.out (fun h => h))
  have HRX := hid (HWF.out.heap HR1.out (fun h => h))
  go_wp2
  go_loopw [6, 7, 8, 9, 10] (fun iv _ _ _ _ wr => ∃ (j : Nat) (vo : Value), iv = .int .i64 j ∧ j ≤ nf ∧ Hid (wr.heap[X]? = some (.cells #[.string nmz, .string suz, vo, .slice none 0 0, .int .i64 pl] 77 (0, 0))) ∧ Hid (MeRow wr wf.heap.size vo ((c.fields.map (fun f => methK c.pool f.name f.desc f.flags)).take j)) ∧ Hid (Only (fun k => k = X) wf wr)) (fun iv _ _ _ _ _ => nf - (intOf iv).toNat)
  case atStart => exact ⟨0, _, rfl, Nat.zero_le _, HXF, hid (MeRow.nil _ _), hid (Only.refl _ _)⟩
  case round =>
   obtain ⟨j, vo, rfl, hj, HL, HROW, HON⟩ := hrel
   obtain ⟨al, cl, rfl⟩ := HROW.out.slice
   have hww : Only (fun _ => False) w wr := Only.trans HWW.out HON.out (fun i e hl => by have := HXW.out; omega)
   have hbx := HON.out.heap HBX.out (by exact HNX0.out)
   have HBR := hid hbx
   have hb0 := cell_blk hbx 0
   have hb3 := cell_blk hbx 3
   by_cases hlt : j < nf
   ·have hjz : (j : Int) < (nf : Int) := by omega
    have hj0 : (0 : Int) ≤ (j : Int) := by omega
    have h64 : nf ≤ 64 := by have := HFEW.out; omega
    have hstep := map_take_step (fun f => methK c.pool f.name f.desc f.flags) (l := c.fields) (j := j) (by have := HN.out; omega)
    have hlen : ((c.fields.map (fun f => methK c.pool f.name f.desc f.flags)).take j).length ≤ 64 := by rw [List.length_take, List.length_map]; have := HN.out; have := HFEW.out; omega
    obtain ⟨us, hus⟩ : ∃ us, (c.fields.map (fun f => methK c.pool f.name f.desc f.flags)).take j = us := ⟨_, rfl⟩
    rw [hus] at HROW HL hstep hlen
    obtain ⟨f, hf⟩ : ∃ f, f = c.fields.getD j default := ⟨_, rfl⟩
    have hsf := (HFLD.out.only hww).1
    have hs0 := HFLD.out.1
    rw [HN.out.1] at hsf hs0
    obtain ⟨b9, o9, e9, hat⟩ := Sl.at hsf hlt
    obtain ⟨b8, o8, e8, hat0⟩ := Sl.at hs0 hlt
    rw [e9] at e8
    injection e8 with e8
    injection e8 with e8 e7 _
    subst e8 e7
    subst e9
    have hlt9 : b9 < w.heap.size := World.block_lt_of_cell? _ _ hat0.c0
    rw [← hf] at hat hstep
    obtain ⟨r0, r1, r2⟩ := hat
    clear hsf hs0 hat0
    have HY0 := hid r0
    have HYN := hid (show ¬ ((Value.slice al us.length cl).ownBlock = some b9) from fun e => by have := (MeRow.ge HROW.out _ e).1; have := HBS.out; omega)
    obtain ⟨tn, htn⟩ : ∃ x, textZ c.pool f.name = x := ⟨_, rfl⟩
    obtain ⟨td, htd⟩ : ∃ x, textZ c.pool f.desc = x := ⟨_, rfl⟩
    obtain ⟨p, hp⟩ : ∃ p : MethN, p = ⟨tn.1, td.1, f.flags⟩ := ⟨_, rfl⟩
    have HP := hid (show p = methK c.pool f.name f.desc f.flags by rw [hp, ← htn, ← htd]; rfl)
    have hpn : p.name = tn.1 := by rw [hp]
    have hpd : p.desc = td.1 := by rw [hp]
    have hpf : p.flags = f.flags := by rw [hp]
    have CN := hid (fun W (hW : Only (fun _ => False) wr W) => refText (.slice aop c.pool.length kop) c.pool f.name W (HPOOL.out.only (hww.trans hW (fun _ h _ => h)) (fun _ _ h => h)))
    have CD := hid (fun W (hW : Only (fun _ => False) wr W) => refText (.slice aop c.pool.length kop) c.pool f.desc W (HPOOL.out.only (hww.trans hW (fun _ h _ => h)) (fun _ _ h => h)))
    rw [htn, ← hpn] at CN
    rw [htd, ← hpd] at CD
    have hl2 := cell_blk HL.out 2
    have HSD := hid (fun W (hW : Only (fun _ => False) wr W) => show (fun wc => wc.cell? ⟨X, 2, none⟩ = some (.slice al us.length cl) ∧ wc.cell? ⟨w.heap.size, 3, none⟩ = some (.slice (some ⟨b9, o9, none⟩) nf kof) ∧ wc.cell? ⟨b9, o9 + j * 3, none⟩ = some (.int .i64 f.flags)) W from ⟨hW.cell hl2 (fun h => h), hW.cell hb3 (fun h => h), hW.cell r0 (fun h => h)⟩)
    have HST := hid hstep
    have HPF := hid hpf
    generalize tn.2 = tn2 at *
    generalize td.2 = td2 at *
    clear hstep hus htn htd hp hpn hpd hpf hww hbx hf hlt9 hl2
    go_wp2
    go_quiet (exact Calls.quiet_of_same ((CN.out _ (by exact ⟨rfl, rfl, rfl, Nat.le_refl _, fun _ _ _ => rfl⟩)).mono (fun _ _ h => ⟨h.1, h.2.symm⟩)))
    go_wp2
    go_quiet (exact (CD.out _ (by exact ⟨rfl, rfl, rfl, Nat.le_refl _, fun _ _ _ => rfl⟩)).mono (fun _ _ h => ⟨h.1, _, h.2.symm⟩))
    go_wp2
    refine wp_till 14 (fun wc => wc.cell? ⟨X, 2, none⟩ = some (.slice al us.length cl) ∧ wc.cell? ⟨w.heap.size, 3, none⟩ = some (.slice (some ⟨b9, o9, none⟩) nf kof) ∧ wc.cell? ⟨b9, o9 + j * 3, none⟩ = some (.int .i64 f.flags)) (by kernel_rfl) ?_
    refine Till.tk 0 (hS := by first | assumption | exact HSD.out _ (by exact ⟨rfl, rfl, rfl, Nat.le_refl _, fun _ _ _ => rfl⟩)) (h := ?_)
    refine Till.tk 1 (hS := by first | assumption | exact HSD.out _ (by exact ⟨rfl, rfl, rfl, Nat.le_refl _, fun _ _ _ => rfl⟩)) (h := ?_)
    refine Till.tk 2 (hS := by first | assumption | exact HSD.out _ (by exact ⟨rfl, rfl, rfl, Nat.le_refl _, fun _ _ _ => rfl⟩)) (h := ?_)
    refine Till.tk 3 (hS := by first | assumption | exact HSD.out _ (by exact ⟨rfl, rfl, rfl, Nat.le_refl _, fun _ _ _ => rfl⟩)) (h := ?_)
    refine Till.tk 4 (hS := by first | assumption | exact HSD.out _ (by exact ⟨rfl, rfl, rfl, Nat.le_refl _, fun _ _ _ => rfl⟩)) (h := ?_)
    refine Till.tk 5 (hS := by first | assumption | exact HSD.out _ (by exact ⟨rfl, rfl, rfl, Nat.le_refl _, fun _ _ _ => rfl⟩)) (h := ?_)
    refine Till.tk 6 (hS := by first | assumption | exact HSD.out _ (by exact ⟨rfl, rfl, rfl, Nat.le_refl _, fun _ _ _ => rfl⟩)) (h := ?_)
    refine Till.tk 7 (hS := by first | assumption | exact HSD.out _ (by exact ⟨rfl, rfl, rfl, Nat.le_refl _, fun _ _ _ => rfl⟩)) (h := ?_)
    refine Till.tk 8 (hS := by first | assumption | exact HSD.out _ (by exact ⟨rfl, rfl, rfl, Nat.le_refl _, fun _ _ _ => rfl⟩)) (h := ?_)
    refine Till.tk 9 (hS := by first | assumption | exact HSD.out _ (by exact ⟨rfl, rfl, rfl, Nat.le_refl _, fun _ _ _ => rfl⟩)) (h := ?_)
    refine Till.tk 10 (hS := by first | assumption | exact HSD.out _ (by exact ⟨rfl, rfl, rfl, Nat.le_refl _, fun _ _ _ => rfl⟩)) (h := ?_)
    refine Till.ts 11 (h := fun K hK => ?_)
    go_simp
    refine hK.out _ _ ?_ ?_
    ·exact fun _ => HSD.out _ (Only.alloc (by exact ⟨rfl, rfl, rfl, Nat.le_refl _, fun _ _ _ => rfl⟩) _)
    clear hK K
    try simp only [Act.put, sIB, sC0, sCS]
    refine Till.ts 12 (h := fun K hK => ?_)
    (refine step_append_src rfl (.tmp 54) (.tmp 64) 75 rfl 95 i0 (.agg #[.string ⟨#[]⟩, .string ⟨#[]⟩, .int .i64 0]) 3 40 Tryz.underlying75 hi hz0 hz1 hz2 rfl (by decide) wf.heap.size (.slice al us.length cl) us.length (us.flatMap cellsMe) rfl (by exact MeRow.only HROW.out (Only.alloc (by exact ⟨rfl, rfl, rfl, Nat.le_refl _, fun _ _ _ => rfl⟩) _) (fun _ _ h => h)) (by have := HON.out.size; simp; omega) (.slice (some ⟨wr.heap.size, 0, none⟩) 1 1) 1 (cellsMe p) rfl (by rw [← HPF.out]; exact Src.methn (m := wr.heap.size) p rfl) (by unfold maxLen; omega) (by omega) ?_; intro v' w3 hown hgrow hnew; have hos := (Only.refl (fun k => (Value.slice al us.length cl).ownBlock = some k) _).grown hgrow (fun k hk _ => hk); have hrow6 : MeRow w3 wf.heap.size v' (us ++ [p]) := MeRow.more hown; obtain ⟨an, cn, ev⟩ := hrow6.slice; obtain ⟨ln, hln⟩ : ∃ ln, (us ++ [p]).length = ln := ⟨_, rfl⟩; rw [hln] at ev; subst ev; clear hln; have HA3 := hid (Only.trans (T := fun k => (Value.slice al us.length cl).ownBlock = some k) (Only.alloc (S := fun k => (Value.slice al us.length cl).ownBlock = some k) (a := wr) (by exact ⟨rfl, rfl, rfl, Nat.le_refl _, fun _ _ _ => rfl⟩) _) hos (fun k hk _ => hk)); have HROW6 := hid hrow6; have hown3 : ∀ k, (Value.slice al us.length cl).ownBlock = some k → wf.heap.size ≤ k ∧ k < wr.heap.size := fun k hk => MeRow.ge HROW.out k hk; have HGE := hid hown3; have hlo := HA3.out.heap HL.out (fun e => by have := (hown3 _ e).1; have := HBS.out; omega); have hbo := HA3.out.heap HBR.out (fun e => by have := (hown3 _ e).1; have := HBS.out; omega); have hk2 := cell_blk hlo 2; have fl2 := frozen_blk hlo 2; have hk3 := cell_blk hbo 3; have hkf := HA3.out.cell HY0.out HYN.out; have HLO := hid hlo; clear hown hgrow hnew hos hrow6 hown3 hlo hbo)
    refine hK.out _ _ ?_ ?_
    ·exact fun _ => ⟨hk2, hk3, hkf⟩
    clear hK K
    try simp only [Act.put, sIB, sC0, sCS]
    refine Till.ts 13 (h := fun K hK => ?_)
    go_simp
    refine hK.out _ _ ?_ ?_
    ·exact fun _ => ⟨hk2, hk3, hkf⟩
    clear hK K
    try simp only [Act.put, sIB, sC0, sCS]
    refine Till.ts 14 (h := fun K hK => ?_)
    go_simp
    refine hK.out _ _ ?_ ?_
    ·exact fun h => by cases h
    clear hK K
    try simp only [Act.put, sIB, sC0, sCS]
    refine Till.done (by kernel_rfl) ?_ _
    have hl9 := heap_setCell_at (i := 2) (u := .slice an ln cn) HLO.out
    simp only [List.setIfInBounds_toArray, List.set_cons_zero, List.set_cons_succ] at hl9
    have hot := (Only.refl (fun k => k = X) w3).setCell (p := ⟨X, 2, none⟩) (fun _ => rfl) (.slice an ln cn)
    have hrow9 := MeRow.only HROW6.out hot (fun k hk e => by have := (MeRow.ge HROW6.out _ hk).1; have := HBS.out; omega)
    have hon9 := Only.trans (HON.out.trans HA3.out (fun i hi hl => by have := (HGE.out _ hi).1; omega)) hot (fun _ h _ => h)
    have HL9 := hid hl9
    have HROW9 := hid hrow9
    have HON9 := hid hon9
    clear hl9 hot hrow9 hon9 hk2 hk3 hkf fl2 hb0 hb3 r0 r1 r2 HLO HA3 HGE HROW6
    go_wp2
    go_roundw
    case rel => exact ⟨j + 1, _, by go_num, by omega, HL9, hid (by rw [HST.out, ← HP.out]; exact HROW9.out), HON9⟩
    case measure => simp [intOf]; omega
   ·have hje : nf = j := by omega
    subst hje
    have hlm : (c.fields.map (fun f => methK c.pool f.name f.desc f.flags)).length = nf := by rw [List.length_map]; exact HN.out.1
    rw [List.take_of_length_le (Nat.le_of_eq hlm), hlm] at HL
    rw [List.take_of_length_le (Nat.le_of_eq hlm), hlm] at HROW
    obtain ⟨wg, hwg⟩ : ∃ x, x = wr := ⟨_, rfl⟩
    subst hwg
    obtain ⟨ufa, hua⟩ : ∃ x, x = al := ⟨_, rfl⟩
    subst hua
    obtain ⟨ufc, huc⟩ : ∃ x, x = cl := ⟨_, rfl⟩
    subst huc
    have HROWF := hid HROW.out
    have HONF := hid HON.out
    have HXG2 := hid HL.out
    have HWG := hid hww
    have HBG := hid hbx
    have HRG := hid (HON.out.heap HRX.out (by have := HXW.out; omega))
    have HGW := hid (show wf.heap.size ≤ wg.heap.size from HON.out.size)
    have HBS0 := hid HBS.out
    clear HBS
    have HBS := hid (show w.heap.size < wg.heap.size ∧ w.heap.size + 1 < wg.heap.size ∧ X < wg.heap.size from by have := HBS0.out; have := HGW.out; omega)
    clear HL HROW HON hww hbx HBR hlm hlt hj
    go_wp2
    go_loopw [11, 12, 13, 14, 15] (fun iv _ _ _ _ wr => ∃ (j : Nat) (vo : Value), iv = .int .i64 j ∧ j ≤ nm ∧ Hid (wr.heap[X]? = some (.cells #[.string nmz, .string suz, .slice ufa nf ufc, vo, .int .i64 pl] 77 (0, 0))) ∧ Hid (MeRow wr wg.heap.size vo ((c.methods.map (fun f => methK c.pool f.name f.desc f.flags)).take j)) ∧ Hid (Only (fun k => k = X) wg wr)) (fun iv _ _ _ _ _ => nm - (intOf iv).toNat)
    case atStart => exact ⟨0, _, rfl, Nat.zero_le _, HXG2, hid (MeRow.nil _ _), hid (Only.refl _ _)⟩
    case round =>
     obtain ⟨j, vo, rfl, hj, HL, HROW, HON⟩ := hrel
     obtain ⟨al, cl, rfl⟩ := HROW.out.slice
     have hww : Only (fun _ => False) w wr := Only.trans HWG.out HON.out (fun i e hl => by have := HXW.out; omega)
     have hbx := HON.out.heap HBG.out (by exact HNX0.out)
     have HBR := hid hbx
     have hb0 := cell_blk hbx 0
     have hb3 := cell_blk hbx 4
     by_cases hlt : j < nm
     ·have hjz : (j : Int) < (nm : Int) := by omega
      have hj0 : (0 : Int) ≤ (j : Int) := by omega
      have h64 : nm ≤ 64 := by have := HFEW.out; omega
      have hstep := map_take_step (fun f => methK c.pool f.name f.desc f.flags) (l := c.methods) (j := j) (by have := HN.out; omega)
      have hlen : ((c.methods.map (fun f => methK c.pool f.name f.desc f.flags)).take j).length ≤ 64 := by rw [List.length_take, List.length_map]; have := HN.out; have := HFEW.out; omega
      obtain ⟨us, hus⟩ : ∃ us, (c.methods.map (fun f => methK c.pool f.name f.desc f.flags)).take j = us := ⟨_, rfl⟩
      rw [hus] at HROW HL hstep hlen
      obtain ⟨f, hf⟩ : ∃ f, f = c.methods.getD j default := ⟨_, rfl⟩
      obtain ⟨b9, o9, e9, hat⟩ := Sl.at (Sl.imp HSLM.out (fun _ _ _ _ _ k => k.only hww)) (i := j) hlt
      obtain ⟨b8, o8, e8, hat0⟩ := Sl.at HSLM.out (i := j) hlt
      rw [e9] at e8
      injection e8 with e8
      injection e8 with e8 e7 _
      subst e8 e7
      subst e9
      have hlt9 : b9 < w.heap.size := World.block_lt_of_cell? _ _ hat0.c0
      rw [← hf] at hat hstep
      obtain ⟨r0, r1, r2, r3, r4, r5, r6, r7⟩ := hat
      clear hat0 r3 r4 r5 r6 r7
      have HY0 := hid r0
      have HYN := hid (show ¬ ((Value.slice al us.length cl).ownBlock = some b9) from fun e => by have := (MeRow.ge HROW.out _ e).1; have := HBS.out; have := HGW.out; omega)
      obtain ⟨tn, htn⟩ : ∃ x, textZ c.pool f.name = x := ⟨_, rfl⟩
      obtain ⟨td, htd⟩ : ∃ x, textZ c.pool f.desc = x := ⟨_, rfl⟩
      obtain ⟨p, hp⟩ : ∃ p : MethN, p = ⟨tn.1, td.1, f.flags⟩ := ⟨_, rfl⟩
      have HP := hid (show p = methK c.pool f.name f.desc f.flags by rw [hp, ← htn, ← htd]; rfl)
      have hpn : p.name = tn.1 := by rw [hp]
      have hpd : p.desc = td.1 := by rw [hp]
      have hpf : p.flags = f.flags := by rw [hp]
      have CN := hid (fun W (hW : Only (fun _ => False) wr W) => refText (.slice aop c.pool.length kop) c.pool f.name W (HPOOL.out.only (hww.trans hW (fun _ h _ => h)) (fun _ _ h => h)))
      have CD := hid (fun W (hW : Only (fun _ => False) wr W) => refText (.slice aop c.pool.length kop) c.pool f.desc W (HPOOL.out.only (hww.trans hW (fun _ h _ => h)) (fun _ _ h => h)))
      rw [htn, ← hpn] at CN
      rw [htd, ← hpd] at CD
      have hl2 := cell_blk HL.out 3
      have HSD := hid (fun W (hW : Only (fun _ => False) wr W) => show (fun wc => wc.cell? ⟨X, 3, none⟩ = some (.slice al us.length cl) ∧ wc.cell? ⟨w.heap.size, 4, none⟩ = some (.slice (some ⟨b9, o9, none⟩) nm kom) ∧ wc.cell? ⟨b9, o9 + j * 8, none⟩ = some (.int .i64 f.flags)) W from ⟨hW.cell hl2 (fun h => h), hW.cell hb3 (fun h => h), hW.cell r0 (fun h => h)⟩)
      have HST := hid hstep
      have HPF := hid hpf
      generalize tn.2 = tn2 at *
      generalize td.2 = td2 at *
      clear hstep hus htn htd hp hpn hpd hpf hww hbx hf hlt9 hl2
      go_wp2
      go_quiet (exact Calls.quiet_of_same ((CN.out _ (by exact ⟨rfl, rfl, rfl, Nat.le_refl _, fun _ _ _ => rfl⟩)).mono (fun _ _ h => ⟨h.1, h.2.symm⟩)))
      go_wp2
      go_quiet (exact (CD.out _ (by exact ⟨rfl, rfl, rfl, Nat.le_refl _, fun _ _ _ => rfl⟩)).mono (fun _ _ h => ⟨h.1, _, h.2.symm⟩))
      go_wp2
      refine wp_till 14 (fun wc => wc.cell? ⟨X, 3, none⟩ = some (.slice al us.length cl) ∧ wc.cell? ⟨w.heap.size, 4, none⟩ = some (.slice (some ⟨b9, o9, none⟩) nm kom) ∧ wc.cell? ⟨b9, o9 + j * 8, none⟩ = some (.int .i64 f.flags)) (by kernel_rfl) ?_
      refine Till.tk 0 (hS := by first | assumption | exact HSD.out _ (by exact ⟨rfl, rfl, rfl, Nat.le_refl _, fun _ _ _ => rfl⟩)) (h := ?_)
      refine Till.tk 1 (hS := by first | assumption | exact HSD.out _ (by exact ⟨rfl, rfl, rfl, Nat.le_refl _, fun _ _ _ => rfl⟩)) (h := ?_)
      refine Till.tk 2 (hS := by first | assumption | exact HSD.out _ (by exact ⟨rfl, rfl, rfl, Nat.le_refl _, fun _ _ _ => rfl⟩)) (h := ?_)
      refine Till.tk 3 (hS := by first | assumption | exact HSD.out _ (by exact ⟨rfl, rfl, rfl, Nat.le_refl _, fun _ _ _ => rfl⟩)) (h := ?_)
      refine Till.tk 4 (hS := by first | assumption | exact HSD.out _ (by exact ⟨rfl, rfl, rfl, Nat.le_refl _, fun _ _ _ => rfl⟩)) (h := ?_)
      refine Till.tk 5 (hS := by first | assumption | exact HSD.out _ (by exact ⟨rfl, rfl, rfl, Nat.le_refl _, fun _ _ _ => rfl⟩)) (h := ?_)
      refine Till.tk 6 (hS := by first | assumption | exact HSD.out _ (by exact ⟨rfl, rfl, rfl, Nat.le_refl _, fun _ _ _ => rfl⟩)) (h := ?_)
      refine Till.tk 7 (hS := by first | assumption | exact HSD.out _ (by exact ⟨rfl, rfl, rfl, Nat.le_refl _, fun _ _ _ => rfl⟩)) (h := ?_)
      refine Till.tk 8 (hS := by first | assumption | exact HSD.out _ (by exact ⟨rfl, rfl, rfl, Nat.le_refl _, fun _ _ _ => rfl⟩)) (h := ?_)
      refine Till.tk 9 (hS := by first | assumption | exact HSD.out _ (by exact ⟨rfl, rfl, rfl, Nat.le_refl _, fun _ _ _ => rfl⟩)) (h := ?_)
      refine Till.tk 10 (hS := by first | assumption | exact HSD.out _ (by exact ⟨rfl, rfl, rfl, Nat.le_refl _, fun _ _ _ => rfl⟩)) (h := ?_)
      refine Till.ts 11 (h := fun K hK => ?_)
      go_simp
      refine hK.out _ _ ?_ ?_
      ·exact fun _ => HSD.out _ (Only.alloc (by exact ⟨rfl, rfl, rfl, Nat.le_refl _, fun _ _ _ => rfl⟩) _)
      clear hK K
      try simp only [Act.put, sIB, sC0, sCS]
      refine Till.ts 12 (h := fun K hK => ?_)
      (refine step_append_src rfl (.tmp 99) (.tmp 109) 75 rfl 95 i0 (.agg #[.string ⟨#[]⟩, .string ⟨#[]⟩, .int .i64 0]) 3 40 Tryz.underlying75 hi hz0 hz1 hz2 rfl (by decide) wg.heap.size (.slice al us.length cl) us.length (us.flatMap cellsMe) rfl (by exact MeRow.only HROW.out (Only.alloc (by exact ⟨rfl, rfl, rfl, Nat.le_refl _, fun _ _ _ => rfl⟩) _) (fun _ _ h => h)) (by have := HON.out.size; simp; omega) (.slice (some ⟨wr.heap.size, 0, none⟩) 1 1) 1 (cellsMe p) rfl (by rw [← HPF.out]; exact Src.methn (m := wr.heap.size) p rfl) (by unfold maxLen; omega) (by omega) ?_; intro v' w3 hown hgrow hnew; have hos := (Only.refl (fun k => (Value.slice al us.length cl).ownBlock = some k) _).grown hgrow (fun k hk _ => hk); have hrow6 : MeRow w3 wg.heap.size v' (us ++ [p]) := MeRow.more hown; obtain ⟨an, cn, ev⟩ := hrow6.slice; obtain ⟨ln, hln⟩ : ∃ ln, (us ++ [p]).length = ln := ⟨_, rfl⟩; rw [hln] at ev; subst ev; clear hln; have HA3 := hid (Only.trans (T := fun k => (Value.slice al us.length cl).ownBlock = some k) (Only.alloc (S := fun k => (Value.slice al us.length cl).ownBlock = some k) (a := wr) (by exact ⟨rfl, rfl, rfl, Nat.le_refl _, fun _ _ _ => rfl⟩) _) hos (fun k hk _ => hk)); have HROW6 := hid hrow6; have hown3 : ∀ k, (Value.slice al us.length cl).ownBlock = some k → wg.heap.size ≤ k ∧ k < wr.heap.size := fun k hk => MeRow.ge HROW.out k hk; have HGE := hid hown3; have hlo := HA3.out.heap HL.out (fun e => by have := (hown3 _ e).1; have := HBS.out; omega); have hbo := HA3.out.heap HBR.out (fun e => by have := (hown3 _ e).1; have := HBS.out; omega); have hk2 := cell_blk hlo 3; have fl2 := frozen_blk hlo 3; have hk3 := cell_blk hbo 4; have hkf := HA3.out.cell HY0.out HYN.out; have HLO := hid hlo; clear hown hgrow hnew hos hrow6 hown3 hlo hbo)
      refine hK.out _ _ ?_ ?_
      ·exact fun _ => ⟨hk2, hk3, hkf⟩
      clear hK K
      try simp only [Act.put, sIB, sC0, sCS]
      refine Till.ts 13 (h := fun K hK => ?_)
      go_simp
      refine hK.out _ _ ?_ ?_
      ·exact fun _ => ⟨hk2, hk3, hkf⟩
      clear hK K
      try simp only [Act.put, sIB, sC0, sCS]
      refine Till.ts 14 (h := fun K hK => ?_)
      go_simp
      refine hK.out _ _ ?_ ?_
      ·exact fun h => by cases h
      clear hK K
      try simp only [Act.put, sIB, sC0, sCS]
      refine Till.done (by kernel_rfl) ?_ _
      have hl9 := heap_setCell_at (i := 3) (u := .slice an ln cn) HLO.out
      simp only [List.setIfInBounds_toArray, List.set_cons_zero, List.set_cons_succ] at hl9
      have hot := (Only.refl (fun k => k = X) w3).setCell (p := ⟨X, 3, none⟩) (fun _ => rfl) (.slice an ln cn)
      have hrow9 := MeRow.only HROW6.out hot (fun k hk e => by have := (MeRow.ge HROW6.out _ hk).1; have := HBS.out; omega)
      have hon9 := Only.trans (HON.out.trans HA3.out (fun i hi hl => by have := (HGE.out _ hi).1; omega)) hot (fun _ h _ => h)
      have HL9 := hid hl9
      have HROW9 := hid hrow9
      have HON9 := hid hon9
      clear hl9 hot hrow9 hon9 hk2 hk3 hkf fl2 hb0 hb3 r0 r1 r2 HLO HA3 HGE HROW6
      go_wp2
      go_roundw
      case rel => exact ⟨j + 1, _, by go_num, by omega, HL9, hid (by rw [HST.out, ← HP.out]; exact HROW9.out), HON9⟩
      case measure => simp [intOf]; omega
     ·have hje : nm = j := by omega
      subst hje
      have hlm : (c.methods.map (fun f => methK c.pool f.name f.desc f.flags)).length = nm := by rw [List.length_map]; exact HN.out.2
      rw [List.take_of_length_le (Nat.le_of_eq hlm), hlm] at HL
      rw [List.take_of_length_le (Nat.le_of_eq hlm), hlm] at HROW
      have HFIN := hid (HROWF.out.only HON.out (fun k hk e => by have := (MeRow.ge HROWF.out _ hk).1; have := HBS0.out; omega))
      have hrr := HON.out.heap HRG.out (by have := HXW.out; omega)
      obtain ⟨x0, x1, x2, x3, x4⟩ := cells5T HL.out
      obtain ⟨t0, t1, t2, t3, t4⟩ := cells5T hrr
      obtain ⟨v0, v1, v2, v3, v4⟩ := marks5T hrr
      have HRR := hid hrr
      have HFL := hid (fun x0 x1 x2 x3 x4 => fin_load (R := w.heap.size + 1) (x0 := x0) (x1 := x1) (x2 := x2) (x3 := x3) (x4 := x4) HFIN.out HROW.out HBS0.out.2.1 HBS.out.2.1 (by omega) hww)
      clear hrr hww hbx hlm hlt hj hb0
      go_wp2
      have hst := store5T (a0 := .string nmz) (a1 := .string suz) (a2 := .slice ufa nf ufc) (a3 := .slice al nm cl) (a4 := .int .i64 pl) HRR.out
      refine bodyPost_ret (kind_alone (b := w.heap.size + 1) Tryz.results35 hst rfl) rfl ⟨_, _, rfl, HFL.out _ _ _ _ _⟩
end Go.Proofs.YtinbelghhfodiaaGreatDoor
