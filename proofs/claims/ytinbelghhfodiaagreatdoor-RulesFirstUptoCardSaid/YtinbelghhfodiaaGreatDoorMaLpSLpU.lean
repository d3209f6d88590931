import Derived.Test.YtinbelghhfodiaaGreatDoorMaTlk
import Derived.Test.YtinbelghhfodiaaGreatDoorMaLpTLpR
namespace Go.Proofs.YtinbelghhfodiaaGreatDoor
set_option maxHeartbeats 16000000
open Lib (hid)
open Go.RowKit Go.Maps
set_option linter.unusedVariables false
set_option linter.unusedSimpArgs false
structure ListedTo (w : World) (i : Nat) (c : ClassV) (fs ms : List MethN) (lb : Nat) (A B D vof vom : Value) (w' : World) : Prop where
 base : w.heap.size ≤ lb
 obj : w'.heap[lb]? = some (listedO i c A B D vof vom)
 own : ∀ k, vof.ownBlock = some k → w.heap.size ≤ k ∧ k < w'.heap.size ∧ k ≠ lb
 cls : ClassG (fun k => k < w.heap.size ∨ vof.ownBlock = some k) w' A B D c
 flds : FldS w' vof fs (fun _ => 0)
 meths : MemG (fun k => k < w.heap.size ∨ vof.ownBlock = some k) w' vom ms
 only : Only (fun _ => False) w w'
abbrev fieldK (c : ClassV) : List MethN := c.fields.map (fun f => methK c.pool f.name f.desc f.flags)
abbrev methsK (c : ClassV) : List MethN := c.methods.map (fun m => methK c.pool m.name m.desc m.flags)
theorem map_take_step {α : Type} [Inhabited α] (f : α → MethN) {l : List α} {j : Nat} (h : j < l.length) : (l.map f).take (j + 1) = (l.map f).take j ++ [f (l.getD j default)] := by
 rw [List.take_succ_eq_append_getElem (by rw [List.length_map]; exact h), List.getElem_map]
 simp [List.getD, h]
theorem MRow.slice {w : World} {B : Nat} {v : Value} {l : List MethN} (h : MRow w B v l) : ∃ ao cap, v = .slice ao l.length cap := by
 obtain ⟨ao, cap, e, -⟩ := slice_of_owns h
 exact ⟨ao, cap, e⟩
set_option maxRecDepth 100000 in
theorem pNewListed (c : ClassV) (vp vf vm : Value) (i : Nat) (w : World) (hc : ClassM w vp vf vm c) (hfew : FewC c) (hfs : c.fields.length ≤ 64) (hms : c.methods.length ≤ 64) :
  Calls Tryz.prog 66 #[valCls c vp vf vm, .int .i64 (i : Int)] w fun e w' => ∃ lb A B D vof vom, e = .returned (.pointer (some ⟨lb, 0, none⟩)) ∧ ListedTo w i c (fieldK c) (methsK c) lb A B D vof vom w' := by
 obtain ⟨i0, hi, hz0, hz1, hz2⟩ := info_parts info_member
 have ho0 := (Only.refl (fun _ => False) w).alloc (objCls c vp vf vm)
 have hx0 := heap_alloc_new w (objCls c vp vf vm)
 obtain ⟨W0, hW0⟩ : ∃ W0, w.alloc (objCls c vp vf vm) = W0 := ⟨_, rfl⟩
 have hs0 : (w.alloc (objCls c vp vf vm)).heap.size = w.heap.size + 1 := by simp
 rw [hW0] at ho0 hx0 hs0
 have C1 := hid (pCloneClass c vp vf vm W0 (by obtain ⟨a, b, d, e, f⟩ := hc; exact ⟨a.only ho0 (fun _ _ h => h), b.only ho0, d.only ho0, e, f⟩) hfew)
 obtain ⟨hpool, hfields, ⟨g, hslm, hins, hmr⟩, hthis, hsuper⟩ := hc
 obtain ⟨nf, hnf⟩ : ∃ nf, c.fields.length = nf := ⟨_, rfl⟩
 obtain ⟨nm, hnm⟩ : ∃ nm, c.methods.length = nm := ⟨_, rfl⟩
 rw [hnm] at hslm
 obtain ⟨q0, q1, q2, q3, q4⟩ := cells5T hx0
 obtain ⟨aof, kof, eof, -⟩ := id hfields.1
 rw [hnf] at eof
 subst eof
 obtain ⟨aom, kom, rfl, -⟩ := id hslm
 have HN := hid (And.intro hnf hnm)
 have HFEW := hid (show nf ≤ 64 ∧ nm ≤ 64 from ⟨by omega, by omega⟩)
 have HFLD := hid hfields
 have HSLM := hid hslm
 have HINS := hid hins
 have HPOOL := hid hpool
 have HO0 := hid ho0
 have HX0 := hid hx0
 have HW0 := hid hW0
 have HS0 := hid hs0
 clear hnf hnm hfields hslm hins hpool ho0 hx0 hs0 hW0 hfew hmr hfs hms hthis hsuper
 go_enter Tryz.func66, Tryz.ntmps66
 go_wp2_with (fail)
 rw [HW0.out]
 refine C1.out.mono ?_
 rintro e w2 ⟨A, B, D, rfl, hcl, ho2⟩
 obtain ⟨aA, kA, rfl, -⟩ := id hcl.pool
 obtain ⟨aB, kB, rfl, -⟩ := id hcl.fields.1
 obtain ⟨gm, hgm, -, -⟩ := id hcl.meths
 obtain ⟨aD, kD, rfl, -⟩ := id hgm
 clear hgm
 have hbx2 := ho2.heap HX0.out (fun h => h)
 have hbox := (Only.refl (fun _ => False) w2).alloc (.cells #[.int .i64 (i : Int), (.slice aA c.pool.length kA), .int .i64 c.this, .int .i64 c.super, (.slice aB c.fields.length kB), (.slice aD c.methods.length kD), .slice none 0 0, .slice none 0 0] 156)
 have hl2 := heap_alloc_new w2 (.cells #[.int .i64 (i : Int), (.slice aA c.pool.length kA), .int .i64 c.this, .int .i64 c.super, (.slice aB c.fields.length kB), (.slice aD c.methods.length kD), .slice none 0 0, .slice none 0 0] 156)
 have hs2 : (w2.alloc (.cells #[.int .i64 (i : Int), (.slice aA c.pool.length kA), .int .i64 c.this, .int .i64 c.super, (.slice aB c.fields.length kB), (.slice aD c.methods.length kD), .slice none 0 0, .slice none 0 0] 156)).heap.size = w2.heap.size + 1 := by simp
 have hwb := (HO0.out.trans ho2 (fun _ h _ => h)).trans hbox (fun _ h _ => h)
 have hcl2 : ClassG (fun k => k < w.heap.size ∨ w2.heap.size ≤ k) w2 (.slice aA c.pool.length kA) (.slice aB c.fields.length kB) (.slice aD c.methods.length kD) c := hcl.mono (fun k hk h => by have := HS0.out; omega)
 have HSZ := hid (show w.heap.size < w2.heap.size by have := ho2.size; have := HS0.out; omega)
 have HBX := hid (hbox.heap hbx2 (fun h => h))
 obtain ⟨z0, z1, z2, z3, z4⟩ := cells5T hbx2
 have hcl3 := hcl2.only hbox (fun _ h => h.elim)
 obtain ⟨x0, x1, x2, x3, x4⟩ := cells5T HBX.out
 obtain ⟨lb, hlb⟩ : ∃ lb, w2.heap.size = lb := ⟨_, rfl⟩
 obtain ⟨W2, hW2⟩ : ∃ W2, w2.alloc (.cells #[.int .i64 (i : Int), (.slice aA c.pool.length kA), .int .i64 c.this, .int .i64 c.super, (.slice aB c.fields.length kB), (.slice aD c.methods.length kD), .slice none 0 0, .slice none 0 0] 156) = W2 := ⟨_, rfl⟩
 rw [hW2] at hbox hl2 hs2 hwb HBX hcl3
 rw [hlb] at hl2 hs2 HSZ hcl3
 have HL0 := hid hl2
 have HWB := hid hwb
 have HCL := hid hcl3
 have HLB := hid (show w.heap.size < lb ∧ lb < W2.heap.size from ⟨HSZ.out, by omega⟩)
 have HW2 := hid hW2
 have HLE := hid hlb
 clear hbox hl2 hs2 hwb hcl2 hcl3 hcl hbx2 hlb hW2 ho2 C1 q0 q1 q2 q3 q4
 go_wp2
 rw [HW2.out, HLE.out]
 clear x0 x1 x2 x3 x4 z0 z1 z2 z3 z4
 go_loopw [18] (fun iv wr => ∃ (j : Nat) (vo : Value), iv = .int .i64 j ∧ j ≤ nf ∧ Hid (wr.heap[lb]? = some (.cells #[.int .i64 (i : Int), (.slice aA c.pool.length kA), .int .i64 c.this, .int .i64 c.super, (.slice aB c.fields.length kB), (.slice aD c.methods.length kD), vo, .slice none 0 0] 156 (0, 0))) ∧ Hid (MRow wr W2.heap.size vo ((c.fields.map (fun f => methK c.pool f.name f.desc f.flags)).take j)) ∧ Hid (Only (fun k => k = lb) W2 wr)) (fun iv _ => nf - (intOf iv).toNat)
 case atStart => exact ⟨0, _, rfl, Nat.zero_le _, HL0, hid (MRow.nil _ _), hid (Only.refl _ _)⟩
 case round =>
  obtain ⟨j, vo, rfl, hj, HL, HROW, HON⟩ := hrel
  obtain ⟨al, cl, rfl⟩ := HROW.out.slice
  have hww : Only (fun _ => False) w wr := Only.trans HWB.out HON.out (fun i e hl => by have := HLB.out; omega)
  have hbx := HON.out.heap HBX.out (by have := HLB.out; omega)
  by_cases hlt : j < nf
  ·have hjz : (j : Int) < (nf : Int) := by omega
   have hj0 : (0 : Int) ≤ (j : Int) := by omega
   have h64 : nf ≤ 64 := by have := HFEW.out; omega
   have hstep := map_take_step (fun f => methK c.pool f.name f.desc f.flags) (l := c.fields) (j := j) (by have := HN.out; omega)
   have hlen : ((c.fields.map (fun f => methK c.pool f.name f.desc f.flags)).take j).length ≤ 64 := by rw [List.length_take, List.length_map]; have := HN.out; have := HFEW.out; omega
   obtain ⟨us, hus⟩ : ∃ us, (c.fields.map (fun f => methK c.pool f.name f.desc f.flags)).take j = us := ⟨_, rfl⟩
   rw [hus] at HROW HL hstep hlen
   obtain ⟨f, hf⟩ : ∃ f, f = c.fields.getD j default := ⟨_, rfl⟩
   have hsf := (HFLD.out.only hww).1
   rw [HN.out.1] at hsf
   obtain ⟨b9, o9, rfl, hat⟩ := Sl.at hsf hlt
   clear hsf
   rw [← hf] at hat hstep
   obtain ⟨r0, r1, r2⟩ := hat
   obtain ⟨p, hp⟩ : ∃ p, p = methK c.pool f.name f.desc f.flags := ⟨_, rfl⟩
   have hal := (Only.refl (fun _ => False) wr).alloc (.cells #[.int .i64 f.flags, .int .i64 f.name, .int .i64 f.desc] 151)
   have hbt := heap_alloc_new wr (.cells #[.int .i64 f.flags, .int .i64 f.name, .int .i64 f.desc] 151)
   have hla := hal.heap HL.out (fun h => h)
   have CN := hid (fun W (hW : Only (fun _ => False) w W) => pNewMember vp c.pool f.name f.desc f.flags W (HPOOL.out.only hW (fun _ _ h => h)))
   rw [← hp] at CN
   have HP := hid (show p = methK c.pool f.name f.desc f.flags from hp)
   have HUS := hid hus
   have HST := hid hstep
   have hl6 : (wr.alloc (.cells #[.int .i64 f.flags, .int .i64 f.name, .int .i64 f.desc] 151)).cell? ⟨lb, 6, none⟩ = some (.slice al us.length cl) := cell_blk hla 6
   have hb0 : (wr.alloc (.cells #[.int .i64 f.flags, .int .i64 f.name, .int .i64 f.desc] 151)).cell? ⟨w.heap.size, 0, none⟩ = some vp := cell_blk (hal.heap hbx (fun h => h)) 0
   have hs0 : (wr.alloc (.cells #[.int .i64 f.flags, .int .i64 f.name, .int .i64 f.desc] 151)).cell? ⟨wr.heap.size, 0, none⟩ = some (.int .i64 f.flags) := cell_blk hbt 0
   have hs1 : (wr.alloc (.cells #[.int .i64 f.flags, .int .i64 f.name, .int .i64 f.desc] 151)).cell? ⟨wr.heap.size, 1, none⟩ = some (.int .i64 f.name) := cell_blk hbt 1
   have hs2 : (wr.alloc (.cells #[.int .i64 f.flags, .int .i64 f.name, .int .i64 f.desc] 151)).cell? ⟨wr.heap.size, 2, none⟩ = some (.int .i64 f.desc) := cell_blk hbt 2
   have HAL := hid hal
   have HWA := hid (hww.trans hal (fun _ h _ => h))
   clear hal hbt hbx hww hp hus hstep hf
   go_wp2
   have hSd : (wr.alloc (.cells #[.int .i64 f.flags, .int .i64 f.name, .int .i64 f.desc] 151)).drew.cell? ⟨lb, 6, none⟩ = some (.slice al us.length cl) ∧ (wr.alloc (.cells #[.int .i64 f.flags, .int .i64 f.name, .int .i64 f.desc] 151)).drew.cell? ⟨w.heap.size, 0, none⟩ = some vp ∧ (wr.alloc (.cells #[.int .i64 f.flags, .int .i64 f.name, .int .i64 f.desc] 151)).drew.cell? ⟨wr.heap.size, 1, none⟩ = some (.int .i64 f.name) ∧ (wr.alloc (.cells #[.int .i64 f.flags, .int .i64 f.name, .int .i64 f.desc] 151)).drew.cell? ⟨wr.heap.size, 2, none⟩ = some (.int .i64 f.desc) ∧ (wr.alloc (.cells #[.int .i64 f.flags, .int .i64 f.name, .int .i64 f.desc] 151)).drew.cell? ⟨wr.heap.size, 0, none⟩ = some (.int .i64 f.flags) := ⟨hl6, hb0, hs1, hs2, hs0⟩
   refine wp_till 18 (fun wc => wc.cell? ⟨lb, 6, none⟩ = some (.slice al us.length cl) ∧ wc.cell? ⟨w.heap.size, 0, none⟩ = some vp ∧ wc.cell? ⟨wr.heap.size, 1, none⟩ = some (.int .i64 f.name) ∧ wc.cell? ⟨wr.heap.size, 2, none⟩ = some (.int .i64 f.desc) ∧ wc.cell? ⟨wr.heap.size, 0, none⟩ = some (.int .i64 f.flags)) (by kernel_rfl) ?_
   refine Till.tk 0 (h := ?_)
   refine Till.tk 1 (h := ?_)
   refine Till.tk 2 (h := ?_)
   refine Till.tk 3 (h := ?_)
   refine Till.tk 4 (h := ?_)
   refine Till.tk 5 (h := ?_)
   refine Till.tk 6 (h := ?_)
   refine Till.tk 7 (h := ?_)
   refine Till.tk 8 (h := ?_)
   refine Till.tk 9 (h := ?_)
   refine Till.tk 10 (h := ?_)
   refine Till.tk 11 (h := ?_)
   refine Till.tk 12 (h := ?_)
   refine Till.ts 13 (h := fun K hK => ?_)
   go_simp
   (refine (CN.out _ HWA.out.drew).mono ?_; rintro e1 w1 ⟨rfl, ho1⟩; have HA1 := hid ((Only.refl (fun _ => False) _).drew.trans ho1 (fun _ h _ => h)); clear ho1)
   go_wp2_with fail
   refine hK.out _ _ ?_ ?_
   ·exact fun _ => ⟨HA1.out.cell hl6 (fun h => h), HA1.out.cell hb0 (fun h => h), HA1.out.cell hs1 (fun h => h), HA1.out.cell hs2 (fun h => h), HA1.out.cell hs0 (fun h => h)⟩
   clear hK K
   try simp only [Act.put, sIB, sC0, sCS]
   refine Till.ts 14 (h := fun K hK => ?_)
   go_simp
   refine hK.out _ _ ?_ ?_
   ·exact fun _ => ⟨(HA1.out.alloc _).cell hl6 (fun h => h), (HA1.out.alloc _).cell hb0 (fun h => h), (HA1.out.alloc _).cell hs1 (fun h => h), (HA1.out.alloc _).cell hs2 (fun h => h), (HA1.out.alloc _).cell hs0 (fun h => h)⟩
   clear hK K
   try simp only [Act.put, sIB, sC0, sCS]
   refine Till.ts 15 (h := fun K hK => ?_)
   (have HROW1 := hid (MRow.only HROW.out ((HAL.out.trans HA1.out (fun _ h _ => h)).alloc (.cells #[.string p.name, .string p.desc, .int .i64 p.flags, .int .i64 0] 146)) (fun _ _ h => h)); refine step_append_src rfl (.tmp 26) (.tmp 36) 124 rfl 146 i0 (.agg #[.string ⟨#[]⟩, .string ⟨#[]⟩, .int .i64 0, .int .i64 0]) 4 48 Tryz.underlying124 hi hz0 hz1 hz2 rfl (by decide) W2.heap.size (.slice al us.length cl) us.length (us.flatMap cellsMem) rfl (by exact HROW1.out) (by have := HA1.out.size; have := HAL.out.size; have := HON.out.size; simp; omega) (.slice (some ⟨w1.heap.size, 0, none⟩) 1 1) 1 (cellsMem p) rfl (by exact Src.member (w := w1) p rfl) (by unfold maxLen; omega) (by omega) ?_; intro v' w3 hown hgrow hnew; have hal1 := (Only.refl (fun _ => False) w1).alloc (.cells #[.string p.name, .string p.desc, .int .i64 p.flags, .int .i64 0] 146); have hos := (Only.refl (fun k => (Value.slice al us.length cl).ownBlock = some k) _).grown hgrow (fun k hk _ => hk); have hrow6 : MRow w3 W2.heap.size v' (us ++ [p]) := MRow.more hown; obtain ⟨an, cn, ev⟩ := hrow6.slice; obtain ⟨ln, hln⟩ : ∃ ln, (us ++ [p]).length = ln := ⟨_, rfl⟩; rw [hln] at ev; subst ev; clear hln; have HA3 := hid (((HA1.out.trans hal1 (fun _ h _ => h)).mono (T := fun k => (Value.slice al us.length cl).ownBlock = some k) (fun _ h _ => h.elim)).trans hos (fun k hk _ => hk)); have HROW6 := hid hrow6; have hown3 : ∀ k, (Value.slice al us.length cl).ownBlock = some k → W2.heap.size ≤ k ∧ k < wr.heap.size := fun k hk => MRow.ge HROW.out k hk; have HGE := hid hown3; have hk6 := HA3.out.cell hl6 (show ¬ ((Value.slice al us.length cl).ownBlock = some lb) from fun e => by have := (hown3 _ e).1; have := HLB.out; omega); have hkb := HA3.out.cell hb0 (show ¬ ((Value.slice al us.length cl).ownBlock = some w.heap.size) from fun e => by have := (hown3 _ e).1; have := HLB.out; omega); have hk1 := HA3.out.cell hs1 (show ¬ ((Value.slice al us.length cl).ownBlock = some wr.heap.size) from fun e => by have := (hown3 _ e).2; omega); have hk2 := HA3.out.cell hs2 (show ¬ ((Value.slice al us.length cl).ownBlock = some wr.heap.size) from fun e => by have := (hown3 _ e).2; omega); have hk0 := HA3.out.cell hs0 (show ¬ ((Value.slice al us.length cl).ownBlock = some wr.heap.size) from fun e => by have := (hown3 _ e).2; omega); have hlo := HA3.out.heap hla (fun e => by have := (hown3 _ e).1; have := HLB.out; omega); have fl6 := frozen_blk hlo 6; have HLO := hid hlo; clear hown hgrow hnew hal1 hos hrow6 hown3 hlo)
   refine hK.out _ _ ?_ ?_
   ·exact fun _ => ⟨hk6, hkb, hk1, hk2, hk0⟩
   clear hK K
   try simp only [Act.put, sIB, sC0, sCS]
   refine Till.ts 16 (h := fun K hK => ?_)
   go_simp
   refine hK.out _ _ ?_ ?_
   ·exact fun _ => ⟨hk6, hkb, hk1, hk2, hk0⟩
   clear hK K
   try simp only [Act.put, sIB, sC0, sCS]
   refine Till.ts 17 (h := fun K hK => ?_)
   go_simp
   refine hK.out _ _ ?_ ?_
   ·exact fun _ => ⟨hk6, hkb, hk1, hk2, hk0⟩
   clear hK K
   try simp only [Act.put, sIB, sC0, sCS]
   refine Till.ts 18 (h := fun K hK => ?_)
   go_simp
   refine hK.out _ _ ?_ ?_
   ·exact fun h => by cases h
   clear hK K
   try simp only [Act.put, sIB, sC0, sCS]
   refine Till.done (by kernel_rfl) ?_ _
   have hl9 := heap_setCell_at (i := 6) (u := .slice an ln cn) HLO.out
   simp only [List.setIfInBounds_toArray, List.set_cons_zero, List.set_cons_succ] at hl9
   have hot := (Only.refl (fun k => k = lb) w3).setCell (p := ⟨lb, 6, none⟩) (fun _ => rfl) (.slice an ln cn)
   have hrow9 := MRow.only HROW6.out hot (fun k hk e => by have := (MRow.ge HROW6.out _ hk).1; have := HLB.out; omega)
   have hon9 := Only.trans (HON.out.trans ((HAL.out.mono (T := fun k => (Value.slice al us.length cl).ownBlock = some k) (fun _ h _ => h.elim)).trans HA3.out (fun _ h _ => h)) (fun i hi hl => by
    have := (HGE.out _ hi).1
    omega)) hot (fun _ h _ => h)
   have HL9 := hid hl9
   have HROW9 := hid hrow9
   have HON9 := hid hon9
   clear hl9 hot hrow9 hon9 hk6 hkb hk1 hk2 hk0 hl6 hb0 hs0 hs1 hs2 hla fl6 hSd
   go_wp2
   go_roundw
   case rel => exact ⟨j + 1, _, by go_num, by omega, HL9, hid (by rw [HST.out, ← HP.out]; exact HROW9.out), HON9⟩
   case measure => simp [intOf]; omega
  ·have hje : nf = j := by omega
   subst hje
   have hlm : (c.fields.map (fun f => methK c.pool f.name f.desc f.flags)).length = nf := by rw [List.length_map]; exact HN.out.1
   rw [List.take_of_length_le (Nat.le_of_eq hlm), hlm] at HL
   rw [List.take_of_length_le (Nat.le_of_eq hlm), hlm] at HROW
   obtain ⟨vfa, hvfa⟩ : ∃ x, x = al := ⟨al, rfl⟩
   subst hvfa
   obtain ⟨vfc, hvfc⟩ : ∃ x, x = cl := ⟨cl, rfl⟩
   subst hvfc
   have HL1 := hid HL.out
   have HROWF := hid HROW.out
   have HON1 := hid HON.out
   have HLB1 := hid HLB.out
   have hsz3 := HON.out.size
   have HLB := hid (show w.heap.size < lb ∧ lb < wr.heap.size from ⟨HLB1.out.1, by have := HLB1.out; omega⟩)
   have HWB := hid hww
   have HBX := hid hbx
   obtain ⟨x0, x1, x2, x3, x4⟩ := cells5T hbx
   obtain ⟨W3, hW3⟩ : ∃ W3, W3 = wr := ⟨_, rfl⟩
   subst hW3
   have HL0 := hid HL1.out
   clear HL HROW HON hww hbx hsz3 hlm
   go_wp2
   clear x0 x1 x2 x3 x4
   go_loopw [44] (fun iv wr => ∃ (j : Nat) (vo : Value), iv = .int .i64 j ∧ j ≤ nm ∧ Hid (wr.heap[lb]? = some (.cells #[.int .i64 (i : Int), (.slice aA c.pool.length kA), .int .i64 c.this, .int .i64 c.super, (.slice aB c.fields.length kB), (.slice aD c.methods.length kD), .slice vfa nf vfc, vo] 156 (0, 0))) ∧ Hid (MRow wr W3.heap.size vo ((c.methods.map (fun m => methK c.pool m.name m.desc m.flags)).take j)) ∧ Hid (Only (fun k => k = lb) W3 wr)) (fun iv _ => nm - (intOf iv).toNat)
   case atStart => exact ⟨0, _, rfl, Nat.zero_le _, HL0, hid (MRow.nil _ _), hid (Only.refl _ _)⟩
   case round =>
    obtain ⟨j, vo, rfl, hj, HL, HROW, HON⟩ := hrel
    obtain ⟨al, cl, rfl⟩ := HROW.out.slice
    have hww : Only (fun _ => False) w wr := Only.trans HWB.out HON.out (fun i e hl => by have := HLB.out; omega)
    have hbx := HON.out.heap HBX.out (by have := HLB.out; omega)
    by_cases hlt : j < nm
    ·have hjz : (j : Int) < (nm : Int) := by omega
     have hj0 : (0 : Int) ≤ (j : Int) := by omega
     have h64 : nm ≤ 64 := by have := HFEW.out; omega
     have hstep := map_take_step (fun m => methK c.pool m.name m.desc m.flags) (l := c.methods) (j := j) (by have := HN.out; omega)
     have hlen : ((c.methods.map (fun m => methK c.pool m.name m.desc m.flags)).take j).length ≤ 64 := by rw [List.length_take, List.length_map]; have := HN.out; have := HFEW.out; omega
     obtain ⟨us, hus⟩ : ∃ us, (c.methods.map (fun m => methK c.pool m.name m.desc m.flags)).take j = us := ⟨_, rfl⟩
     rw [hus] at HROW HL hstep hlen
     obtain ⟨f, hf⟩ : ∃ f, f = c.methods.getD j default := ⟨_, rfl⟩
     have hinsj := HINS.out j (by have := HN.out; omega)
     obtain ⟨b9, o9, rfl, hat⟩ := Sl.at (Sl.imp HSLM.out (fun _ _ _ _ _ k => k.only hww)) (i := j) hlt
     rw [← hf] at hat hstep hinsj
     generalize (g j).1 = fa at *
     generalize (g j).2.1 = fb at *
     generalize (g j).2.2 = fc at *
     obtain ⟨ua, ka, rfl, -⟩ := id hinsj.1
     obtain ⟨ub, kb, rfl, -⟩ := id hinsj.2.1.1
     obtain ⟨uc, kc, rfl, -⟩ := id hinsj.2.2
     obtain ⟨r0, r1, r2, r3, r4, r5, r6, r7⟩ := hat
     clear hinsj
     obtain ⟨p, hp⟩ : ∃ p, p = methK c.pool f.name f.desc f.flags := ⟨_, rfl⟩
     have hal := (Only.refl (fun _ => False) wr).alloc (objMth f (.slice ua f.code.length ka) (.slice ub f.traps.length kb) (.slice uc f.maps.length kc))
     have hbt := heap_alloc_new wr (objMth f (.slice ua f.code.length ka) (.slice ub f.traps.length kb) (.slice uc f.maps.length kc))
     have hla := hal.heap HL.out (fun h => h)
     have CN := hid (fun W (hW : Only (fun _ => False) w W) => pNewMember vp c.pool f.name f.desc f.flags W (HPOOL.out.only hW (fun _ _ h => h)))
     rw [← hp] at CN
     have HP := hid (show p = methK c.pool f.name f.desc f.flags from hp)
     have HUS := hid hus
     have HST := hid hstep
     have hl6 : (wr.alloc (objMth f (.slice ua f.code.length ka) (.slice ub f.traps.length kb) (.slice uc f.maps.length kc))).cell? ⟨lb, 7, none⟩ = some (.slice al us.length cl) := cell_blk hla 7
     have hb0 : (wr.alloc (objMth f (.slice ua f.code.length ka) (.slice ub f.traps.length kb) (.slice uc f.maps.length kc))).cell? ⟨w.heap.size, 0, none⟩ = some vp := cell_blk (hal.heap hbx (fun h => h)) 0
     have hs0 : (wr.alloc (objMth f (.slice ua f.code.length ka) (.slice ub f.traps.length kb) (.slice uc f.maps.length kc))).cell? ⟨wr.heap.size, 0, none⟩ = some (.int .i64 f.flags) := cell_blk hbt 0
     have hs1 : (wr.alloc (objMth f (.slice ua f.code.length ka) (.slice ub f.traps.length kb) (.slice uc f.maps.length kc))).cell? ⟨wr.heap.size, 1, none⟩ = some (.int .i64 f.name) := cell_blk hbt 1
     have hs2 : (wr.alloc (objMth f (.slice ua f.code.length ka) (.slice ub f.traps.length kb) (.slice uc f.maps.length kc))).cell? ⟨wr.heap.size, 2, none⟩ = some (.int .i64 f.desc) := cell_blk hbt 2
     have HAL := hid hal
     have HWA := hid (hww.trans hal (fun _ h _ => h))
     clear hal hbt hbx hww hp hus hstep hf
     go_wp2
     have hSd : (wr.alloc (objMth f (.slice ua f.code.length ka) (.slice ub f.traps.length kb) (.slice uc f.maps.length kc))).drew.cell? ⟨lb, 7, none⟩ = some (.slice al us.length cl) ∧ (wr.alloc (objMth f (.slice ua f.code.length ka) (.slice ub f.traps.length kb) (.slice uc f.maps.length kc))).drew.cell? ⟨w.heap.size, 0, none⟩ = some vp ∧ (wr.alloc (objMth f (.slice ua f.code.length ka) (.slice ub f.traps.length kb) (.slice uc f.maps.length kc))).drew.cell? ⟨wr.heap.size, 1, none⟩ = some (.int .i64 f.name) ∧ (wr.alloc (objMth f (.slice ua f.code.length ka) (.slice ub f.traps.length kb) (.slice uc f.maps.length kc))).drew.cell? ⟨wr.heap.size, 2, none⟩ = some (.int .i64 f.desc) ∧ (wr.alloc (objMth f (.slice ua f.code.length ka) (.slice ub f.traps.length kb) (.slice uc f.maps.length kc))).drew.cell? ⟨wr.heap.size, 0, none⟩ = some (.int .i64 f.flags) := ⟨hl6, hb0, hs1, hs2, hs0⟩
     refine wp_till 18 (fun wc => wc.cell? ⟨lb, 7, none⟩ = some (.slice al us.length cl) ∧ wc.cell? ⟨w.heap.size, 0, none⟩ = some vp ∧ wc.cell? ⟨wr.heap.size, 1, none⟩ = some (.int .i64 f.name) ∧ wc.cell? ⟨wr.heap.size, 2, none⟩ = some (.int .i64 f.desc) ∧ wc.cell? ⟨wr.heap.size, 0, none⟩ = some (.int .i64 f.flags)) (by kernel_rfl) ?_
     refine Till.tk 0 (h := ?_)
     refine Till.tk 1 (h := ?_)
     refine Till.tk 2 (h := ?_)
     refine Till.tk 3 (h := ?_)
     refine Till.tk 4 (h := ?_)
     refine Till.tk 5 (h := ?_)
     refine Till.tk 6 (h := ?_)
     refine Till.tk 7 (h := ?_)
     refine Till.tk 8 (h := ?_)
     refine Till.tk 9 (h := ?_)
     refine Till.tk 10 (h := ?_)
     refine Till.tk 11 (h := ?_)
     refine Till.tk 12 (h := ?_)
     refine Till.ts 13 (h := fun K hK => ?_)
     go_simp
     (refine (CN.out _ HWA.out.drew).mono ?_; rintro e1 w1 ⟨rfl, ho1⟩; have HA1 := hid ((Only.refl (fun _ => False) _).drew.trans ho1 (fun _ h _ => h)); clear ho1)
     go_wp2_with fail
     refine hK.out _ _ ?_ ?_
     ·exact fun _ => ⟨HA1.out.cell hl6 (fun h => h), HA1.out.cell hb0 (fun h => h), HA1.out.cell hs1 (fun h => h), HA1.out.cell hs2 (fun h => h), HA1.out.cell hs0 (fun h => h)⟩
     clear hK K
     try simp only [Act.put, sIB, sC0, sCS]
     refine Till.ts 14 (h := fun K hK => ?_)
     go_simp
     refine hK.out _ _ ?_ ?_
     ·exact fun _ => ⟨(HA1.out.alloc _).cell hl6 (fun h => h), (HA1.out.alloc _).cell hb0 (fun h => h), (HA1.out.alloc _).cell hs1 (fun h => h), (HA1.out.alloc _).cell hs2 (fun h => h), (HA1.out.alloc _).cell hs0 (fun h => h)⟩
     clear hK K
     try simp only [Act.put, sIB, sC0, sCS]
     refine Till.ts 15 (h := fun K hK => ?_)
     (have HROW1 := hid (MRow.only HROW.out ((HAL.out.trans HA1.out (fun _ h _ => h)).alloc (.cells #[.string p.name, .string p.desc, .int .i64 p.flags, .int .i64 0] 146)) (fun _ _ h => h)); refine step_append_src rfl (.tmp 52) (.tmp 62) 124 rfl 146 i0 (.agg #[.string ⟨#[]⟩, .string ⟨#[]⟩, .int .i64 0, .int .i64 0]) 4 48 Tryz.underlying124 hi hz0 hz1 hz2 rfl (by decide) W3.heap.size (.slice al us.length cl) us.length (us.flatMap cellsMem) rfl (by exact HROW1.out) (by have := HA1.out.size; have := HAL.out.size; have := HON.out.size; simp; omega) (.slice (some ⟨w1.heap.size, 0, none⟩) 1 1) 1 (cellsMem p) rfl (by exact Src.member (w := w1) p rfl) (by unfold maxLen; omega) (by omega) ?_; intro v' w3 hown hgrow hnew; have hal1 := (Only.refl (fun _ => False) w1).alloc (.cells #[.string p.name, .string p.desc, .int .i64 p.flags, .int .i64 0] 146); have hos := (Only.refl (fun k => (Value.slice al us.length cl).ownBlock = some k) _).grown hgrow (fun k hk _ => hk); have hrow6 : MRow w3 W3.heap.size v' (us ++ [p]) := MRow.more hown; obtain ⟨an, cn, ev⟩ := hrow6.slice; obtain ⟨ln, hln⟩ : ∃ ln, (us ++ [p]).length = ln := ⟨_, rfl⟩; rw [hln] at ev; subst ev; clear hln; have HA3 := hid (((HA1.out.trans hal1 (fun _ h _ => h)).mono (T := fun k => (Value.slice al us.length cl).ownBlock = some k) (fun _ h _ => h.elim)).trans hos (fun k hk _ => hk)); have HROW6 := hid hrow6; have hown3 : ∀ k, (Value.slice al us.length cl).ownBlock = some k → W3.heap.size ≤ k ∧ k < wr.heap.size := fun k hk => MRow.ge HROW.out k hk; have HGE := hid hown3; have hk6 := HA3.out.cell hl6 (show ¬ ((Value.slice al us.length cl).ownBlock = some lb) from fun e => by have := (hown3 _ e).1; have := HLB.out; omega); have hkb := HA3.out.cell hb0 (show ¬ ((Value.slice al us.length cl).ownBlock = some w.heap.size) from fun e => by have := (hown3 _ e).1; have := HLB.out; omega); have hk1 := HA3.out.cell hs1 (show ¬ ((Value.slice al us.length cl).ownBlock = some wr.heap.size) from fun e => by have := (hown3 _ e).2; omega); have hk2 := HA3.out.cell hs2 (show ¬ ((Value.slice al us.length cl).ownBlock = some wr.heap.size) from fun e => by have := (hown3 _ e).2; omega); have hk0 := HA3.out.cell hs0 (show ¬ ((Value.slice al us.length cl).ownBlock = some wr.heap.size) from fun e => by have := (hown3 _ e).2; omega); have hlo := HA3.out.heap hla (fun e => by have := (hown3 _ e).1; have := HLB.out; omega); have fl6 := frozen_blk hlo 7; have HLO := hid hlo; clear hown hgrow hnew hal1 hos hrow6 hown3 hlo)
     refine hK.out _ _ ?_ ?_
     ·exact fun _ => ⟨hk6, hkb, hk1, hk2, hk0⟩
     clear hK K
     try simp only [Act.put, sIB, sC0, sCS]
     refine Till.ts 16 (h := fun K hK => ?_)
     go_simp
     refine hK.out _ _ ?_ ?_
     ·exact fun _ => ⟨hk6, hkb, hk1, hk2, hk0⟩
     clear hK K
     try simp only [Act.put, sIB, sC0, sCS]
     refine Till.ts 17 (h := fun K hK => ?_)
     go_simp
     refine hK.out _ _ ?_ ?_
     ·exact fun _ => ⟨hk6, hkb, hk1, hk2, hk0⟩
     clear hK K
     try simp only [Act.put, sIB, sC0, sCS]
     refine Till.ts 18 (h := fun K hK => ?_)
     go_simp
     refine hK.out _ _ ?_ ?_
     ·exact fun h => by cases h
     clear hK K
     try simp only [Act.put, sIB, sC0, sCS]
     refine Till.done (by kernel_rfl) ?_ _
     have hl9 := heap_setCell_at (i := 7) (u := .slice an ln cn) HLO.out
     simp only [List.setIfInBounds_toArray, List.set_cons_zero, List.set_cons_succ] at hl9
     have hot := (Only.refl (fun k => k = lb) w3).setCell (p := ⟨lb, 7, none⟩) (fun _ => rfl) (.slice an ln cn)
     have hrow9 := MRow.only HROW6.out hot (fun k hk e => by have := (MRow.ge HROW6.out _ hk).1; have := HLB.out; omega)
     have hon9 := Only.trans (HON.out.trans ((HAL.out.mono (T := fun k => (Value.slice al us.length cl).ownBlock = some k) (fun _ h _ => h.elim)).trans HA3.out (fun _ h _ => h)) (fun i hi hl => by
      have := (HGE.out _ hi).1
      omega)) hot (fun _ h _ => h)
     have HL9 := hid hl9
     have HROW9 := hid hrow9
     have HON9 := hid hon9
     clear hl9 hot hrow9 hon9 hk6 hkb hk1 hk2 hk0 hl6 hb0 hs0 hs1 hs2 hla fl6 hSd
     go_wp2
     go_roundw
     case rel => exact ⟨j + 1, _, by go_num, by omega, HL9, hid (by rw [HST.out, ← HP.out]; exact HROW9.out), HON9⟩
     case measure => simp [intOf]; omega
    ·have hje : nm = j := by omega
     subst hje
     have hlm : (c.methods.map (fun m => methK c.pool m.name m.desc m.flags)).length = nm := by rw [List.length_map]; exact HN.out.2
     have hrf := MRow.only HROWF.out HON.out (fun k hk e => by have := (MRow.ge HROWF.out _ hk).1; have := HLB1.out; omega)
     have hrm := HROW.out
     rw [List.take_of_length_le (Nat.le_of_eq hlm)] at hrm
     have hl := HL.out
     rw [List.take_of_length_le (Nat.le_of_eq hlm)] at hl
     have hgf := fun k hk => MRow.ge HROWF.out k hk
     have hgm := fun k hk => MRow.ge hrm k hk
     have h12 := HON1.out.trans HON.out (fun _ h _ => h)
     have hcls := (HCL.out.only h12 (fun k hk => .inr (by omega))).mono (G' := fun k => k < w.heap.size ∨ (Value.slice vfa nf vfc).ownBlock = some k) (fun k _ hk => hk.imp id (fun e => by have := (hgf k e).1; have := HLB1.out; omega))
     have HLT : Hid (ListedTo w i c (fieldK c) (methsK c) lb (.slice aA c.pool.length kA) (.slice aB c.fields.length kB) (.slice aD c.methods.length kD) _ _ wr) := hid ⟨Nat.le_of_lt HLB1.out.1, hl, fun k hk => ⟨by have := (hgf k hk).1; have := HLB1.out; omega, by have := (hgf k hk).2; have := HON.out.size; omega, fun e => by have := (hgf k hk).1; have := HLB1.out; omega⟩, hcls, hrf.flds, hrm.memG (G := fun k => k < w.heap.size ∨ (Value.slice vfa nf vfc).ownBlock = some k) (fun k hk hG => by
      have h1 := (hgm k hk).1
      have h3 := HLB.out
      rcases hG with h2 | h2
      ·omega
      ·have := (hgf k h2).2
       omega), hww⟩
     clear hrf hrm hl hgf hgm h12 hcls hlm hww hbx
     go_wp2
     go_ret
     exact ⟨_, _, _, _, _, _, rfl, HLT.out⟩
def GW (pb mb : Nat) (vl : Value) (n : Nat) (fv : Nat → Value) (b : Nat) : Prop := b = pb ∨ b = mb ∨ vl.ownBlock = some b ∨ ∃ i, i < n ∧ (fv i).ownBlock = some b
def setV {α : Type} (f : Nat → α) (n : Nat) (x : α) : Nat → α := fun i => if i = n then x else f i
theorem setV_at {α : Type} (f : Nat → α) (n : Nat) (x : α) : setV f n x n = x := if_pos rfl
theorem setV_lt {α : Type} (f : Nat → α) {n i : Nat} (x : α) (h : i < n) : setV f n x i = f i := if_neg (by omega)
theorem getD_app_lt {α : Type} {l : List α} {x d : α} {i : Nat} (h : i < l.length) : (l ++ [x]).getD i d = l.getD i d := by simp [List.getD, List.getElem?_append_left h]
theorem getD_app_eq {α : Type} {l : List α} {x d : α} {n : Nat} (h : l.length = n) : (l ++ [x]).getD n d = x := by subst h; simp [List.getD]
structure Gath (B : Nat) (w : World) (pb mb : Nat) (vl : Value) (ks : List KindV) (ivs : List Value) (fv : Nat → Value) (cl : Nat → ClassV) : Prop where
 obj : w.heap[pb]? = some (progO vl mb)
 names : NamesM w mb ks
 row : w.ownsRow B 143 1 vl ks.length ivs
 base : B ≤ w.heap.size
 ne : pb ≠ mb ∧ vl.ownBlock ≠ some pb ∧ vl.ownBlock ≠ some mb
 known : ∀ i, i < ks.length → KnownG (GW pb mb vl ks.length fv) w i (ivs.getD i .nilIface) (ks.getD i default) (cl i) (fv i)
 flds : ∀ i, i < ks.length → FldS w (fv i) (ks.getD i default).fields (fun _ => 0)
 own : ∀ i b, i < ks.length → (fv i).ownBlock = some b → b < w.heap.size ∧ b ≠ pb ∧ b ≠ mb ∧ vl.ownBlock ≠ some b
 apart : ∀ i j b, i < ks.length → j < ks.length → (fv i).ownBlock = some b → (fv j).ownBlock = some b → i = j
section
variable {B pb mb : Nat} {w : World} {vl : Value} {ks : List KindV} {ivs : List Value} {fv : Nat → Value} {cl : Nat → ClassV} (h : Gath B w pb mb vl ks ivs fv cl)
include h
theorem Gath.len : ivs.length = ks.length := by have := h.row.1; omega
theorem Gath.lt {b : Nat} (hb : GW pb mb vl ks.length fv b) : b < w.heap.size := by
 rcases hb with rfl | rfl | hb | ⟨i, hi, hb⟩
 ·exact heap_lt h.obj
 ·exact h.names.lt
 ·exact (World.ownsRow.lt h.row b hb).2
 ·exact (h.own i b hi hb).1
theorem Gath.only {w' : World} (ho : Only (fun _ => False) w w') : Gath B w' pb mb vl ks ivs fv cl :=
 ⟨ho.heap h.obj (fun h => h), h.names.only ho (fun h => h), ho.owns h.row (fun _ _ h => h), Nat.le_trans h.base ho.size, h.ne, fun i hi => (h.known i hi).only ho (fun _ h => h.elim), fun i hi => (h.flds i hi).only ho (fun _ _ h => h), fun i b hi hb => ⟨Nat.lt_of_lt_of_le (h.own i b hi hb).1 ho.size, (h.own i b hi hb).2⟩, h.apart⟩
theorem Gath.push {w2 w3 : World} (h12 : Only (fun _ => False) w w2) {k : KindV} {iv vof vl' : Value} {c : ClassV} {Gk : Nat → Prop} (ha : Added B w2 pb mb vl ks ivs k iv vl' w3)
  (hk : KnownG Gk w2 ks.length iv k c vof) (hG : ∀ b, GW pb mb vl ks.length fv b ∨ vof.ownBlock = some b → Gk b) (hf : FldS w2 vof k.fields (fun _ => 0)) (ho : ∀ b, vof.ownBlock = some b → w.heap.size ≤ b ∧ b < w2.heap.size) :
  Gath B w3 pb mb vl' (ks ++ [k]) (ivs ++ [iv]) (setV fv ks.length vof) (setV cl ks.length c) := by
 have hl : (ks ++ [k]).length = ks.length + 1 := by simp
 have hil := h.len
 have hsz := h12.size
 have hs3 := ha.only.size
 have hSG : ∀ b, b = pb ∨ b = mb ∨ vl.ownBlock = some b → GW pb mb vl ks.length fv b := fun b hb => by
  rcases hb with hb | hb | hb
  ·exact .inl hb
  ·exact .inr (.inl hb)
  ·exact .inr (.inr (.inl hb))
 have hGW : ∀ b, GW pb mb vl' (ks.length + 1) (setV fv ks.length vof) b → GW pb mb vl ks.length fv b ∨ w2.heap.size ≤ b ∨ vof.ownBlock = some b := fun b hb => by
  rcases hb with hb | hb | hb | ⟨i, hi, hb⟩
  ·exact .inl (.inl hb)
  ·exact .inl (.inr (.inl hb))
  ·rcases ha.own b hb with h1 | h1
   ·exact .inl (.inr (.inr (.inl h1)))
   ·exact .inr (.inl h1)
  ·by_cases hin : i = ks.length
   ·subst hin
    rw [setV_at] at hb
    exact .inr (.inr hb)
   ·rw [setV_lt _ _ (by omega)] at hb
    exact .inl (.inr (.inr (.inr ⟨i, by omega, hb⟩)))
 have hvl : ∀ b, vl'.ownBlock = some b → b < w.heap.size → vl.ownBlock = some b := fun b hb hlt => by
  rcases ha.own b hb with h1 | h1
  ·exact h1
  ·omega
 refine ⟨ha.obj, ha.names, by rw [hl]; exact ha.row, by have := h.base; omega, ⟨h.ne.1, fun e => ?_, fun e => ?_⟩, fun i hi => ?_, fun i hi => ?_, fun i b hi hb => ?_, fun i j b hi hj hbi hbj => ?_⟩
 ·exact h.ne.2.1 (hvl _ e (h.lt (.inl rfl)))
 ·exact h.ne.2.2 (hvl _ e (h.lt (.inr (.inl rfl))))
 ·rw [hl] at hi ⊢
  by_cases hin : i = ks.length
  ·subst hin
   rw [getD_app_eq hil, getD_app_eq rfl, setV_at, setV_at]
   refine ((hk.mono (G' := fun b => Gk b ∨ w2.heap.size ≤ b) (fun b hb hG' => hG'.elim id (fun h => by omega))).only ha.only (fun b hb => .inl (hG b (.inl (hSG b hb))))).mono (fun b _ hb => ?_)
   rcases hGW b hb with h1 | h1 | h1
   ·exact .inl (hG b (.inl h1))
   ·exact .inr h1
   ·exact .inl (hG b (.inr h1))
  ·have hi' : i < ks.length := by omega
   rw [getD_app_lt (by omega), getD_app_lt hi', setV_lt _ _ hi', setV_lt _ _ hi']
   refine ((((h.known i hi').mono (G' := fun b => GW pb mb vl ks.length fv b ∨ w.heap.size ≤ b) (fun b hb hG' => hG'.elim id (fun h => by omega))).only h12 (fun _ h => h.elim)).only ha.only (fun b hb => .inl (hSG b hb))).mono (fun b _ hb => ?_)
   rcases hGW b hb with h1 | h1 | h1
   ·exact .inl h1
   ·exact .inr (by omega)
   ·exact .inr (ho b h1).1
 ·rw [hl] at hi
  by_cases hin : i = ks.length
  ·subst hin
   rw [getD_app_eq rfl, setV_at]
   exact hf.only ha.only (fun b hb hS => by have := (ho b hb).1; have := h.lt (hSG b hS); omega)
  ·have hi' : i < ks.length := by omega
   rw [getD_app_lt hi', setV_lt _ _ hi']
   exact ((h.flds i hi').only h12 (fun _ _ h => h)).only ha.only (fun b hb hS => by
    obtain ⟨-, h1, h2, h3⟩ := h.own i b hi' hb
    rcases hS with h4 | h4 | h4
    ·exact h1 h4
    ·exact h2 h4
    ·exact h3 h4)
 ·rw [hl] at hi
  by_cases hin : i = ks.length
  ·subst hin
   rw [setV_at] at hb
   obtain ⟨h1, h2⟩ := ho b hb
   have hp := h.lt (b := pb) (.inl rfl)
   have hm := h.lt (b := mb) (.inr (.inl rfl))
   refine ⟨by omega, by omega, by omega, fun e => ?_⟩
   rcases ha.own b e with h3 | h3
   ·have := h.lt (b := b) (.inr (.inr (.inl h3))); omega
   ·omega
  ·have hi' : i < ks.length := by omega
   rw [setV_lt _ _ hi'] at hb
   obtain ⟨h0, h1, h2, h3⟩ := h.own i b hi' hb
   exact ⟨by omega, h1, h2, fun e => h3 (hvl b e h0)⟩
 ·rw [hl] at hi hj
  by_cases hin : i = ks.length
  ·by_cases hjn : j = ks.length
   ·omega
   ·subst hin
    rw [setV_at] at hbi
    rw [setV_lt _ _ (by omega)] at hbj
    have := (h.own j b (by omega) hbj).1
    have := (ho b hbi).1
    omega
  ·rw [setV_lt _ _ (by omega)] at hbi
   by_cases hjn : j = ks.length
   ·subst hjn
    rw [setV_at] at hbj
    have := (h.own i b (by omega) hbi).1
    have := (ho b hbj).1
    omega
   ·rw [setV_lt _ _ (by omega)] at hbj
    exact h.apart i j b (by omega) (by omega) hbi hbj
theorem Gath.prog : ProgG (fun b => ∃ i, i < ks.length ∧ (fv i).ownBlock = some b) fv w pb ks cl (fun _ _ => 0) := by
 have hmono : ∀ i, i < ks.length → KnownG (fun b => ∃ i, i < ks.length ∧ (fv i).ownBlock = some b) w i (ivs.getD i .nilIface) (ks.getD i default) (cl i) (fv i) := fun i hi => (h.known i hi).mono (fun b _ hb => .inr (.inr (.inr hb)))
 refine ⟨⟨vl, mb, h.obj, h.names, ?_, fun ⟨i, hi, hb⟩ => (h.own i pb hi hb).2.1 rfl, fun ⟨i, hi, hb⟩ => (h.own i mb hi hb).2.2.1 rfl⟩, h.flds, fun i b hi hb => ⟨(h.own i b hi hb).1, i, hi, hb⟩, h.apart⟩
 have hrow := h.row
 rcases hrow.2 with ⟨e, hn⟩ | ⟨g, cap, cur, e, hb, hg, hnc, hcm, hcs, htake⟩
 ·rw [e, hn]
  exact Sl.nil _
 ·subst e
  refine ⟨_, cap, rfl, hnc, by unfold maxLen at hcm; omega, (fun e => by cases e), fun x hx _ => ?_⟩
  cases hx
  refine ⟨g, 0, rfl, fun i hi => ⟨⟨_, ?_, hmono i hi⟩, fun ⟨j, hj, hbj⟩ => (h.own j g hj hbj).2.2.2 rfl⟩⟩
  have hc := hrow.cellAt i (by omega)
  rw [Nat.zero_add, hc]
  have hlt : i < ivs.length := by have := h.len; omega
  simp [List.getD, hlt]
end
end Go.Proofs.YtinbelghhfodiaaGreatDoor
