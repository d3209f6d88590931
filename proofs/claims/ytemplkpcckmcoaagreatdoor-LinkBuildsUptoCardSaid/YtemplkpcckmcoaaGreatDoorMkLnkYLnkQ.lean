import Derived.Test.YtemplkpcckmcoaaGreatDoorMkLnkX
import Derived.Test.YtemplkpcckmcoaaGreatDoorMkLpTcLnkV
import Derived.Test.YtemplkpcckmcoaaGreatDoorMkClsCClsE
import Derived.Test.YtemplkpcckmcoaaGreatDoorMkLnkOLnkP
import Derived.Test.YtemplkpcckmcoaaGreatDoorMkLpHLpI
namespace Go.Proofs.YtemplkpcckmcoaaGreatDoor
set_option maxHeartbeats 32000000
open Lib (hid)
open Go.RowKit
set_option linter.unusedVariables false
set_option linter.unusedSimpArgs false
theorem obj_row {w : World} {B pb : Nat} {v : Value} {l : List KdV} {z : Array Value} {T : TypeId} (h : KdRow w B v l) (hp : w.heap[pb]? = some (.cells z T (0, 0))) (hT : T ≠ 47) : ¬ v.ownBlock = some pb := fun hv => by
 rcases h.2 with ⟨rfl, -⟩ | ⟨g, cap, cur, rfl, -, hg, -⟩
 ·cases hv
 ·have e1 : g = pb := Option.some.inj hv
  subst e1
  rw [hp] at hg
  injection hg with hg
  injection hg with _ ht _
  exact hT ht
theorem obj_me {w : World} {B pb : Nat} {v : Value} {l : List MethN} {z : Array Value} {T : TypeId} (h : MeRow w B v l) (hp : w.heap[pb]? = some (.cells z T (0, 0))) (hT : T ≠ 55) : ¬ v.ownBlock = some pb := fun hv => by
 rcases h.2 with ⟨rfl, -⟩ | ⟨g, cap, cur, rfl, -, hg, -⟩
 ·cases hv
 ·have e1 : g = pb := Option.some.inj hv
  subst e1
  rw [hp] at hg
  injection hg with hg
  injection hg with _ ht _
  exact hT ht
theorem KdsIn.off {w w' : World} {B pb : Nat} {v : Value} {l : List KdV} {z : Array Value} (h : KdsIn w B v l) (hp : w.heap[pb]? = some (.cells z 43 (0, 0))) (ho : Only (fun k => k = pb) w w') : KdsIn w' B v l :=
 ⟨h.row.only ho (fun k hk e => by subst e; exact obj_row h.row hp (by decide) hk), fun x hx => ⟨(h.mem x hx).1.only ho (fun k hk e => by subst e; exact obj_me (h.mem x hx).1 hp (by decide) hk), (h.mem x hx).2.only ho (fun k hk e => by subst e; exact obj_me (h.mem x hx).2 hp (by decide) hk)⟩⟩
theorem kinds_take {cs : List ClassV} {j : Nat} (h : j < cs.length) : kindsZ (cs.take (j + 1)) = kindsZ (cs.take j) ++ [loadZ (cs.getD j default) j] := by
 rw [List.take_succ_eq_append_getElem h, kindsZ_snoc, List.length_take, Nat.min_eq_left (Nat.le_of_lt h)]
 rw [show cs.getD j default = cs[j] by simp [List.getD, h]]
def RefBuildTo (w : World) (cs : List ClassV) (e : Ending) (w' : World) : Prop :=
 Only (fun _ => False) w w' ∧ ((buildZ cs ≠ 0 ∧ e = .returned (.tuple #[.pointer none, .int .i64 (buildZ cs)])) ∨
  (buildZ cs = 0 ∧ ∃ pb, e = .returned (.tuple #[.pointer (some ⟨pb, 0, none⟩), .int .i64 0]) ∧ DocP w' pb (kindsZ cs) cs))
set_option maxRecDepth 100000 in
theorem refBuild (v : Value) (cs : List ClassV) (w : World) (hc : Classes w v cs) (ht : ∀ c ∈ cs, Texts c.pool) :
  Calls Tryz.prog 5 #[v] w (RefBuildTo w cs) := by
 obtain ⟨i0, hi, hz0, hz1, hz2⟩ := info_parts info_kindd
 have hc0 := hc
 obtain ⟨f, hsl, hcm⟩ := hc
 obtain ⟨ao, cap, rfl, p1, p2, p3, -⟩ := id hsl
 have HSL := hid hsl
 have HCM := hid hcm
 have HC0 := hid hc0
 have HT := hid ht
 clear hsl hcm hc0 ht p3
 go_enter Tryz.func5, Tryz.ntmps5
 by_cases h16 : 16 < cs.length
 ·have hz : (16 : Int) < (cs.length : Int) := by omega
  have HB := hid (build_long h16)
  clear h16
  go_wp2
  go_ret2
  exact ⟨Only.refl _ _, .inl ⟨by rw [HB.out]; decide, by rw [HB.out]; rfl⟩⟩
 have hz : ¬ (16 : Int) < (cs.length : Int) := by omega
 have H16 := hid h16
 have hcz : ((cs.length : Nat) : Int) ≤ 16 := by omega
 have HCL := hid (show cs.length ≤ 16 by omega)
 have CB := hid (refBuilt w)
 clear h16
 go_wp2_with (fail)
 refine CB.out.mono ?_
 rintro e w1 ⟨r1, l1, rfl, hl1, hk1, ho1⟩
 obtain ⟨a1, c1, e1⟩ := hk1.row.slice
 have hl13 : l1.length = 13 := by have := congrArg List.length hl1; rw [List.length_map, builtK_len] at this; exact this
 rw [hl13] at e1
 subst e1
 have ha2 := (Only.refl (fun _ => False) w1).alloc (.cells #[.slice a1 13 c1, .slice ao cs.length cap] 43)
 have hn2 := heap_alloc_new w1 (.cells #[.slice a1 13 c1, .slice ao cs.length cap] 43)
 obtain ⟨pb, hpb⟩ : ∃ x, w1.heap.size = x := ⟨_, rfl⟩
 obtain ⟨w2, hw2⟩ : ∃ x, w1.alloc (.cells #[.slice a1 13 c1, .slice ao cs.length cap] 43) = x := ⟨_, rfl⟩
 rw [hw2] at ha2 hn2
 rw [hpb] at hn2
 have HPB0 := hid hn2
 have HON0 := hid (ho1.trans ha2 (fun _ h _ => h))
 have HKD0 := hid (hk1.only ha2)
 have HL0 := hid (show l1.map KdV.k = kindsZ (cs.take 0) by rw [hl1]; rfl)
 have HL13 := hid hl13
 have HPBW := hid (show w.heap.size ≤ pb by rw [← hpb]; exact ho1.size)
 have HPB1 := hid hpb
 have HW2 := hid hw2
 clear hl1 hk1 ho1 ha2 hn2 hl13 hpb hw2 CB
 go_wp2
 rw [HW2.out, HPB1.out]
 clear hz
 go_loopw [5, 6] (fun iv _ wr => ∃ (j : Nat) (vl : Value) (l : List KdV), iv = .int .i64 j ∧ j ≤ cs.length ∧ Hid (errsC cs = errsC (cs.drop j)) ∧ Hid (wr.heap[pb]? = some (.cells #[vl, .slice ao cs.length cap] 43 (0, 0))) ∧ Hid (KdsIn wr w.heap.size vl l) ∧ Hid (l.map KdV.k = kindsZ (cs.take j)) ∧ Hid (Only (fun _ => False) w wr)) (fun iv _ _ => cs.length - (intOf iv).toNat)
 case atStart => exact ⟨0, _, l1, rfl, Nat.zero_le _, hid rfl, HPB0, HKD0, HL0, HON0⟩
 case round =>
  obtain ⟨j, vl, l, rfl, hj, HE, HPB, HKD, HLK, HON⟩ := hrel
  by_cases hlt : j < cs.length
  ·have hjz : (j : Int) < (cs.length : Int) := by omega
   have hj0 : (0 : Int) ≤ (j : Int) := by omega
   have HST := hid (errsC_at hlt)
   rw [← HE.out] at HST
   have HKT := hid (kinds_take hlt)
   obtain ⟨b, o, rfl, y⟩ := Sl.at HSL.out hlt
   obtain ⟨y0, y1, y2, y3, y4⟩ := y
   have HBW := hid (show b < w.heap.size from World.block_lt_of_cell? _ _ y0)
   have y0 := HON.out.cell y0 (fun h => h)
   have y1 := HON.out.cell y1 (fun h => h)
   have y2 := HON.out.cell y2 (fun h => h)
   have y3 := HON.out.cell y3 (fun h => h)
   have y4 := HON.out.cell y4 (fun h => h)
   have hcj := HCM.out j hlt
   have htj := HT.out (cs.getD j default) (by rw [show cs.getD j default = cs[j] by simp [List.getD, hlt]]; exact List.getElem_mem hlt)
   generalize (f j).1 = vp at *
   generalize (f j).2.1 = vf at *
   generalize (f j).2.2 = vm at *
   obtain ⟨c, hcc⟩ : ∃ c, cs.getD j default = c := ⟨_, rfl⟩
   rw [hcc] at y1 y2 hcj HST htj HKT
   clear hcc
   obtain ⟨z1, z2, rfl, -⟩ := id hcj.1
   obtain ⟨z3, z4, rfl, -⟩ := id hcj.2.1.1
   obtain ⟨gm, hgm, -, -⟩ := id hcj.2.2.1
   obtain ⟨z5, z6, rfl, -⟩ := id hgm
   clear hgm
   have hcw : ∀ W, Only (fun _ => False) wr W → ClassM W (.slice z1 c.pool.length z2) (.slice z3 c.fields.length z4) (.slice z5 c.methods.length z6) c := fun W hW => by
    obtain ⟨a1, a2, a3, a4, a5⟩ := hcj
    have hoa := HON.out.trans hW (fun _ h _ => h)
    exact ⟨a1.only hoa (fun _ _ h => h), a2.only hoa, a3.only hoa, a4, a5⟩
   have C1 := hid (refClsCheck _ _ _ c wr (hcw wr (Only.refl _ _)) htj)
   have HCW := hid hcw
   have HPL0 : Hid (loadZ c j = ⟨(classZ c.pool c.this).1, (classZ c.pool c.super).1, fieldK c, methsK c, (j : Int)⟩) := hid rfl
   have HFEW := hid (fun h0 => few_cls (c := c) h0)
   obtain ⟨np, hnp⟩ : ∃ x, c.pool.length = x := ⟨_, rfl⟩
   obtain ⟨nf, hnf⟩ : ∃ x, c.fields.length = x := ⟨_, rfl⟩
   obtain ⟨nm, hnm⟩ : ∃ x, c.methods.length = x := ⟨_, rfl⟩
   rw [hnp, hnf, hnm] at C1 HCW
   rw [hnp] at y0
   rw [hnf] at y3
   rw [hnm] at y4
   clear hcj htj hcw hnp hnf hnm
   by_cases hz0 : clsZ c = 0
   ·have HE2 := hid (show errsC cs = errsC (cs.drop (j + 1)) by rw [HST.out, if_neg (by simp [hz0])])
    have hfw := HFEW.out hz0
    obtain ⟨kz, hkz⟩ : ∃ kz, loadZ c j = kz := ⟨_, rfl⟩
    have CLD := hid (fun W (hW : Only (fun _ => False) wr W) => refLoad c (.slice z1 np z2) (.slice z3 nf z4) (.slice z5 nm z6) (j : Int) W (HCW.out W hW) hfw.2.1 hfw.2.2)
    rw [show (classZ c.pool c.this).1 = kz.name by rw [← hkz]; rfl, show (classZ c.pool c.super).1 = kz.super by rw [← hkz]; rfl, show fieldK c = kz.fields by rw [← hkz]; rfl, show methsK c = kz.meths by rw [← hkz]; rfl] at CLD
    have HPL := hid (show kz.place = (j : Int) by rw [← hkz]; rfl)
    rw [hkz] at HKT
    rw [hz0] at C1
    have hll : l.length ≤ 32 := by have := congrArg List.length HLK.out; rw [List.length_map, kindsZ_len, List.length_take] at this; have := HCL.out; omega
    obtain ⟨al, cl, rfl⟩ := HKD.out.row.slice
    clear hz0 hfw hkz
    go_wp2_with (fail)
    refine C1.out.mono ?_
    rintro e w5 ⟨rfl, ho5⟩
    have y0 := ho5.cell y0 (fun h => h)
    have y1 := ho5.cell y1 (fun h => h)
    have y2 := ho5.cell y2 (fun h => h)
    have y3 := ho5.cell y3 (fun h => h)
    have y4 := ho5.cell y4 (fun h => h)
    have HPBX := hid (ho5.heap HPB.out (fun h => h))
    have HKDX := hid (HKD.out.only ho5)
    have HONX := hid (HON.out.trans ho5 (fun _ h _ => h))
    have CLDX := hid (fun W (hW : Only (fun _ => False) w5 W) => CLD.out W (ho5.trans hW (fun _ h _ => h)))
    clear HPB HKD HON CLD C1 HCW ho5
    obtain ⟨wq, hwq⟩ : ∃ x, x = wr := ⟨_, rfl⟩
    subst hwq
    obtain ⟨wr, hwr⟩ : ∃ x, x = w5 := ⟨_, rfl⟩
    subst hwr
    have HPB := hid HPBX.out
    have HKD := hid HKDX.out
    have HON := hid HONX.out
    have CLD := hid CLDX.out
    have q0 := cell_blk HPB.out 0
    have HSD := hid (show (fun wc => wc.cell? ⟨pb, 0, none⟩ = some (.slice al l.length cl) ∧ wc.cell? ⟨b, o + j * 5, none⟩ = some ((.slice z1 np z2)) ∧ wc.cell? ⟨b, o + j * 5 + 1, none⟩ = some (.int .i64 c.this) ∧ wc.cell? ⟨b, o + j * 5 + 2, none⟩ = some (.int .i64 c.super) ∧ wc.cell? ⟨b, o + j * 5 + 3, none⟩ = some ((.slice z3 nf z4)) ∧ wc.cell? ⟨b, o + j * 5 + 4, none⟩ = some ((.slice z5 nm z6))) wr from ⟨q0, y0, y1, y2, y3, y4⟩)
    clear HPBX HKDX HONX CLDX
    go_wp2
    refine wp_till 15 (fun wc => wc.cell? ⟨pb, 0, none⟩ = some (.slice al l.length cl) ∧ wc.cell? ⟨b, o + j * 5, none⟩ = some ((.slice z1 np z2)) ∧ wc.cell? ⟨b, o + j * 5 + 1, none⟩ = some (.int .i64 c.this) ∧ wc.cell? ⟨b, o + j * 5 + 2, none⟩ = some (.int .i64 c.super) ∧ wc.cell? ⟨b, o + j * 5 + 3, none⟩ = some ((.slice z3 nf z4)) ∧ wc.cell? ⟨b, o + j * 5 + 4, none⟩ = some ((.slice z5 nm z6))) (by kernel_rfl) ?_
    refine Till.take (i := 0) (v := ?_) (by simp only [List.getElem?_toArray, List.getElem?_cons_succ, List.getElem?_cons_zero]; rfl) (by kernel_rfl) (by kernel_rfl) (by kernel_rfl) (by kernel_rfl) (by kernel_rfl) (by exact fun _ _ _ h => h) (Or.inl ⟨by rfl, ?_⟩) (by first | assumption | exact HSD.out) ?_
    rotate_left 1
    ·(intro w h; (try dsimp only at h); go_simp; try with_reducible rfl)
    try simp only [Act.put, sIB, sC0, sCS]
    refine Till.take (i := 1) (v := ?_) (by simp only [List.getElem?_toArray, List.getElem?_cons_succ, List.getElem?_cons_zero]; rfl) (by kernel_rfl) (by kernel_rfl) (by kernel_rfl) (by kernel_rfl) (by kernel_rfl) (by exact fun _ _ _ h => h) (Or.inl ⟨by rfl, ?_⟩) (by first | assumption | exact HSD.out) ?_
    rotate_left 1
    ·(intro w h; (try dsimp only at h); go_simp; try with_reducible rfl)
    try simp only [Act.put, sIB, sC0, sCS]
    refine Till.take (i := 2) (v := ?_) (by simp only [List.getElem?_toArray, List.getElem?_cons_succ, List.getElem?_cons_zero]; rfl) (by kernel_rfl) (by kernel_rfl) (by kernel_rfl) (by kernel_rfl) (by kernel_rfl) (by exact fun _ _ _ h => h) (Or.inl ⟨by rfl, ?_⟩) (by first | assumption | exact HSD.out) ?_
    rotate_left 1
    ·(intro w h; (try dsimp only at h); go_simp; try with_reducible rfl)
    try simp only [Act.put, sIB, sC0, sCS]
    refine Till.take (i := 3) (v := ?_) (by simp only [List.getElem?_toArray, List.getElem?_cons_succ, List.getElem?_cons_zero]; rfl) (by kernel_rfl) (by kernel_rfl) (by kernel_rfl) (by kernel_rfl) (by kernel_rfl) (by exact fun _ _ _ h => h) (Or.inl ⟨by rfl, ?_⟩) (by first | assumption | exact HSD.out) ?_
    rotate_left 1
    ·(intro w h; (try dsimp only at h); go_simp; try with_reducible rfl)
    try simp only [Act.put, sIB, sC0, sCS]
    refine Till.take (i := 4) (v := ?_) (by simp only [List.getElem?_toArray, List.getElem?_cons_succ, List.getElem?_cons_zero]; rfl) (by kernel_rfl) (by kernel_rfl) (by kernel_rfl) (by kernel_rfl) (by kernel_rfl) (by exact fun _ _ _ h => h) (Or.inl ⟨by rfl, ?_⟩) (by first | assumption | exact HSD.out) ?_
    rotate_left 1
    ·(intro w h; (try dsimp only at h); go_simp; try with_reducible rfl)
    try simp only [Act.put, sIB, sC0, sCS]
    refine Till.take (i := 5) (v := ?_) (by simp only [List.getElem?_toArray, List.getElem?_cons_succ, List.getElem?_cons_zero]; rfl) (by kernel_rfl) (by kernel_rfl) (by kernel_rfl) (by kernel_rfl) (by kernel_rfl) (by exact fun _ _ _ h => h) (Or.inl ⟨by rfl, ?_⟩) (by first | assumption | exact HSD.out) ?_
    rotate_left 1
    ·(intro w h; (try dsimp only at h); go_simp; try with_reducible rfl)
    try simp only [Act.put, sIB, sC0, sCS]
    refine Till.take (i := 6) (v := ?_) (by simp only [List.getElem?_toArray, List.getElem?_cons_succ, List.getElem?_cons_zero]; rfl) (by kernel_rfl) (by kernel_rfl) (by kernel_rfl) (by kernel_rfl) (by kernel_rfl) (by exact fun _ _ _ h => h) (Or.inl ⟨by rfl, ?_⟩) (by first | assumption | exact HSD.out) ?_
    rotate_left 1
    ·(intro w h; (try dsimp only at h); go_simp; try with_reducible rfl)
    try simp only [Act.put, sIB, sC0, sCS]
    refine Till.take (i := 7) (v := ?_) (by simp only [List.getElem?_toArray, List.getElem?_cons_succ, List.getElem?_cons_zero]; rfl) (by kernel_rfl) (by kernel_rfl) (by kernel_rfl) (by kernel_rfl) (by kernel_rfl) (by exact fun _ _ _ h => h) (Or.inl ⟨by rfl, ?_⟩) (by first | assumption | exact HSD.out) ?_
    rotate_left 1
    ·(intro w h; (try dsimp only at h); go_simp; try with_reducible rfl)
    try simp only [Act.put, sIB, sC0, sCS]
    refine Till.take (i := 8) (v := ?_) (by simp only [List.getElem?_toArray, List.getElem?_cons_succ, List.getElem?_cons_zero]; rfl) (by kernel_rfl) (by kernel_rfl) (by kernel_rfl) (by kernel_rfl) (by kernel_rfl) (by exact fun _ _ _ h => h) (Or.inl ⟨by rfl, ?_⟩) (by first | assumption | exact HSD.out) ?_
    rotate_left 1
    ·(intro w h; (try dsimp only at h); go_simp; try with_reducible rfl)
    try simp only [Act.put, sIB, sC0, sCS]
    refine Till.take (i := 9) (v := ?_) (by simp only [List.getElem?_toArray, List.getElem?_cons_succ, List.getElem?_cons_zero]; rfl) (by kernel_rfl) (by kernel_rfl) (by kernel_rfl) (by kernel_rfl) (by kernel_rfl) (by exact fun _ _ _ h => h) (Or.inl ⟨by rfl, ?_⟩) (by first | assumption | exact HSD.out) ?_
    rotate_left 1
    ·(intro w h; (try dsimp only at h); go_simp; try with_reducible rfl)
    try simp only [Act.put, sIB, sC0, sCS]
    refine Till.step (i := 10) (by kernel_rfl) (by simp only [List.getElem?_toArray, List.getElem?_cons_succ, List.getElem?_cons_zero]; rfl) (fun K hK => ?_)
    go_simp
    (refine (CLD.out _ (by exact ⟨rfl, rfl, rfl, Nat.le_refl _, fun _ _ _ => rfl⟩)).mono ?_; rintro e1 w1 ⟨uf, um, rfl, hu1, hu2, ho1⟩; obtain ⟨u1, u2, rfl⟩ := hu1.slice; obtain ⟨u3, u4, rfl⟩ := hu2.slice; have HA1 := hid (show Only (fun _ => False) wr w1 from Only.trans (b := wr.drew) (by exact ⟨rfl, rfl, rfl, Nat.le_refl _, fun _ _ _ => rfl⟩) ho1 (fun _ h _ => h)); have HU1 := hid hu1; have HU2 := hid hu2; clear ho1 hu1 hu2)
    go_wp2_with fail
    refine hK.out _ _ ?_ ?_
    ·exact fun _ => ⟨HA1.out.cell q0 (fun h => h), HA1.out.cell y0 (fun h => h), HA1.out.cell y1 (fun h => h), HA1.out.cell y2 (fun h => h), HA1.out.cell y3 (fun h => h), HA1.out.cell y4 (fun h => h)⟩
    clear hK K
    try simp only [Act.put, sIB, sC0, sCS]
    refine Till.step (i := 11) (by kernel_rfl) (by simp only [List.getElem?_toArray, List.getElem?_cons_succ, List.getElem?_cons_zero]; rfl) (fun K hK => ?_)
    go_simp
    refine hK.out _ _ ?_ ?_
    ·exact fun _ => ⟨(HA1.out.alloc _).cell q0 (fun h => h), (HA1.out.alloc _).cell y0 (fun h => h), (HA1.out.alloc _).cell y1 (fun h => h), (HA1.out.alloc _).cell y2 (fun h => h), (HA1.out.alloc _).cell y3 (fun h => h), (HA1.out.alloc _).cell y4 (fun h => h)⟩
    clear hK K
    try simp only [Act.put, sIB, sC0, sCS]
    refine Till.step (i := 12) (by kernel_rfl) (by simp only [List.getElem?_toArray, List.getElem?_cons_succ, List.getElem?_cons_zero]; rfl) (fun K hK => ?_)
    (have hkd5 : KdsIn (w1.alloc (.cells #[.string kz.name, .string kz.super, .slice u1 kz.fields.length u2, .slice u3 kz.meths.length u4, .int .i64 j] 47)) w.heap.size (.slice al l.length cl) l := HKD.out.only (HA1.out.alloc _); have HKD5 := hid hkd5; have hmn : MeRow (w1.alloc (.cells #[.string kz.name, .string kz.super, .slice u1 kz.fields.length u2, .slice u3 kz.meths.length u4, .int .i64 j] 47)) w.heap.size (.slice u1 kz.fields.length u2) kz.fields ∧ MeRow (w1.alloc (.cells #[.string kz.name, .string kz.super, .slice u1 kz.fields.length u2, .slice u3 kz.meths.length u4, .int .i64 j] 47)) w.heap.size (.slice u3 kz.meths.length u4) kz.meths := ⟨(HU1.out.only ((Only.refl (fun _ => False) w1).alloc _) (fun _ _ h => h)).lower HON.out.size, (HU2.out.only ((Only.refl (fun _ => False) w1).alloc _) (fun _ _ h => h)).lower HON.out.size⟩; have HMN := hid hmn; clear hkd5 hmn; refine step_append_src rfl (.tmp 36) (.tmp 43) 40 rfl 47 i0 (.agg #[.string ⟨#[]⟩, .string ⟨#[]⟩, .slice none 0 0, .slice none 0 0, .int .i64 0]) 5 88 Tryz.underlying40 hi hz0 hz1 hz2 rfl (by decide) w.heap.size (.slice al l.length cl) l.length (l.flatMap cellsKd) rfl (by exact HKD5.out.row) (by have := (HON.out.trans (HA1.out.alloc (.cells #[.string kz.name, .string kz.super, .slice u1 kz.fields.length u2, .slice u3 kz.meths.length u4, .int .i64 j] 47)) (fun _ h _ => h)).size; exact this) (.slice (some ⟨w1.heap.size, 0, none⟩) 1 1) 1 (cellsKd ⟨kz, .slice u1 kz.fields.length u2, .slice u3 kz.meths.length u4⟩) rfl (by rw [← HPL.out]; exact Src.kind (w := w1) kz.name kz.super (.slice u1 kz.fields.length u2) (.slice u3 kz.meths.length u4) kz.place ⟨kz, .slice u1 kz.fields.length u2, .slice u3 kz.meths.length u4⟩ rfl rfl rfl rfl) (by unfold maxLen; omega) (by omega) ?_; intro v' w3 hown hgrow hnew; have hos := (Only.refl (fun k => (Value.slice al l.length cl).ownBlock = some k) _).grown hgrow (fun k hk _ => hk); have hkd6 := KdsIn.push HKD5.out HMN.out hos (KdRow.more hown); have HKD6 := hid hkd6; obtain ⟨an, cn, ev⟩ := hkd6.row.slice; obtain ⟨ln, hln⟩ : ∃ ln, (l ++ [(⟨kz, .slice u1 kz.fields.length u2, .slice u3 kz.meths.length u4⟩ : KdV)]).length = ln := ⟨_, rfl⟩; rw [hln] at ev; subst ev; clear hln; have ha3 := ((HA1.out.alloc (.cells #[.string kz.name, .string kz.super, .slice u1 kz.fields.length u2, .slice u3 kz.meths.length u4, .int .i64 j] 47)).mono (T := fun k => (Value.slice al l.length cl).ownBlock = some k) (fun _ h _ => h.elim)).trans hos (fun k hk _ => hk); have HA3 := hid ha3; have hpn : ¬ ((Value.slice al l.length cl).ownBlock = some pb) := obj_row HKD.out.row HPB.out (by decide); have hcn : ¬ ((Value.slice al l.length cl).ownBlock = some b) := fun e => (by have := (HKD.out.row.ge _ e).1; have := HBW.out; omega); have hpo := ha3.heap HPB.out hpn; have hk0 := cell_blk hpo 0; have fk0 := frozen_blk hpo 0; have HPO := hid hpo; have hy0 := ha3.cell y0 hcn; have hy1 := ha3.cell y1 hcn; have hy2 := ha3.cell y2 hcn; have hy3 := ha3.cell y3 hcn; have hy4 := ha3.cell y4 hcn; clear hown hgrow hnew hos hkd6 ha3 hpn hcn hpo)
    refine hK.out _ _ ?_ ?_
    ·exact fun _ => ⟨hk0, hy0, hy1, hy2, hy3, hy4⟩
    clear hK K
    try simp only [Act.put, sIB, sC0, sCS]
    refine Till.step (i := 13) (by kernel_rfl) (by simp only [List.getElem?_toArray, List.getElem?_cons_succ, List.getElem?_cons_zero]; rfl) (fun K hK => ?_)
    go_simp
    refine hK.out _ _ ?_ ?_
    ·exact fun _ => ⟨hk0, hy0, hy1, hy2, hy3, hy4⟩
    clear hK K
    try simp only [Act.put, sIB, sC0, sCS]
    refine Till.step (i := 14) (by kernel_rfl) (by simp only [List.getElem?_toArray, List.getElem?_cons_succ, List.getElem?_cons_zero]; rfl) (fun K hK => ?_)
    go_simp
    refine hK.out _ _ ?_ ?_
    ·exact fun _ => ⟨hk0, hy0, hy1, hy2, hy3, hy4⟩
    clear hK K
    try simp only [Act.put, sIB, sC0, sCS]
    refine Till.step (i := 15) (by kernel_rfl) (by simp only [List.getElem?_toArray, List.getElem?_cons_succ, List.getElem?_cons_zero]; rfl) (fun K hK => ?_)
    go_simp
    refine hK.out _ _ ?_ ?_
    ·exact fun h => by cases h
    clear hK K
    try simp only [Act.put, sIB, sC0, sCS]
    refine Till.done (by kernel_rfl) ?_ _
    have hp9 := heap_setCell_at (i := 0) (u := .slice an ln cn) HPO.out
    simp only [List.setIfInBounds_toArray, List.set_cons_zero, List.set_cons_succ] at hp9
    have hot := (Only.refl (fun k => k = pb) w3).setCell (p := ⟨pb, 0, none⟩) (fun _ => rfl) (.slice an ln cn)
    have hkd9 := HKD6.out.off HPO.out hot
    have hon9 := (HON.out.trans HA3.out (fun k hk hl => by have := (HKD.out.row.ge k hk).1; omega)).trans hot (fun k hk hl => by have := HPBW.out; omega)
    have HP9 := hid hp9
    have HKD9 := hid hkd9
    have HON9 := hid hon9
    have HL9 := hid (show (l ++ [(⟨kz, .slice u1 kz.fields.length u2, .slice u3 kz.meths.length u4⟩ : KdV)]).map KdV.k = kindsZ (cs.take (j + 1)) by rw [List.map_append, HLK.out, HKT.out]; rfl)
    clear hp9 hot hkd9 hon9 hk0 fk0 hy0 hy1 hy2 hy3 hy4 y0 y1 y2 y3 y4 q0 HPO HA3 HA1 HU1 HU2
    go_wp2
    go_roundw
    case rel => exact ⟨j + 1, _, _, by go_num, by omega, HE2, HP9, HKD9, HL9, HON9⟩
    case measure => simp [intOf]; omega
   ·have HE2 := hid (show errsC cs = clsZ c by rw [HST.out, if_pos hz0])
    have HB := hid (show buildZ cs = clsZ c by rw [build_err H16.out (by rw [HE2.out]; exact hz0), HE2.out])
    have HZ0 := hid hz0
    have hzb : (clsZ c != 0) = true := by simpa using hz0
    generalize clsZ c = ec at *
    clear hz0
    go_wp2_with (fail)
    refine C1.out.mono ?_
    rintro e w5 ⟨rfl, ho5⟩
    have HO5 := hid (HON.out.trans ho5 (fun _ h _ => h))
    clear ho5 y0 y1 y2 y3 y4
    go_wp2
    go_ret2
    exact ⟨HO5.out, .inl ⟨by rw [HB.out]; exact HZ0.out, by rw [HB.out]; rfl⟩⟩
  ·obtain rfl : j = cs.length := by omega
   have HE0 := hid (show errsC cs = 0 by rw [HE.out, List.drop_of_length_le (Nat.le_refl _)]; rfl)
   have HAL := hid (errsC_zero HE0.out)
   have hd : DocP wr pb (kindsZ cs) cs := ⟨vl, .slice ao cs.length cap, cell_blk HPB.out 0, cell_blk HPB.out 1, by have := HKD.out.kinds; rwa [HLK.out, List.take_length] at this, HC0.out.only HON.out⟩
   have HD := hid hd
   have HFINE := hid (fine_all HAL.out)
   have HSM := hid (fine_small HAL.out HCL.out)
   have hkl := kindsZ_len cs
   obtain ⟨wd, hwd⟩ : ∃ x, x = wr := ⟨_, rfl⟩
   subst hwd
   have HONW := hid HON.out
   have HRG := hid (fun h => once_all (cs := cs) h)
   have HEN := hid (fun h => ends_all (cs := cs) h)
   have HKL := hid hkl
   have HNO := hid (fun (h : RightK (kindsZ cs)) => h)
   have HBN := hid (fun (h : ¬ RightK (kindsZ cs)) => build_no H16.out HE0.out h)
   have HBY := hid (fun (h : RightK (kindsZ cs)) => build_yes H16.out HE0.out h)
   have hks64 : (((kindsZ cs).length : Nat) : Int) ≤ 64 := by omega
   have hks13 : 13 ≤ (kindsZ cs).length := by omega
   obtain ⟨ks, hks⟩ : ∃ ks, kindsZ cs = ks := ⟨_, rfl⟩
   rw [hks] at HD HFINE HSM HRG HEN HKL HNO HBN HBY hks64 hks13 hd hkl
   have HKS := hid hks
   clear hlt hj hd hkl HPB HKD HLK HON HE HL0 HKD0 HPB0 HON0 hks
   go_wp2
   go_loopw [7] (fun iv wr => ∃ j : Nat, iv = .int .i64 j ∧ 13 ≤ j ∧ j ≤ ks.length ∧ Hid (∀ i, 13 ≤ i → i < j → ((plainN (nums (ks.getD i default).name) = true ∧ findZ ks (ks.getD i default).name = (i : Int)) ∧ MembersOK (ks.getD i default))) ∧ Hid (Only (fun _ => False) wd wr)) (fun iv _ => ks.length - (intOf iv).toNat)
   case atStart => exact ⟨13, rfl, Nat.le_refl _, hks13, hid (fun i h1 h2 => absurd h2 (by omega)), hid (Only.refl _ _)⟩
   case round =>
    obtain ⟨j, rfl, hj13, hj, HI, HON⟩ := hrel
    have HDW := hid (HD.out.only HON.out)
    obtain ⟨vl, vi, q0, q1, hk, hc⟩ := HDW.out
    obtain ⟨ak, ck, rfl, p1, p2⟩ := hk.len
    by_cases hlt : j < ks.length
    ·have hjz : (j : Int) < (ks.length : Int) := by omega
     have hj0 : (0 : Int) ≤ (j : Int) := by omega
     obtain ⟨b, o, vf, vm, rfl, y, hmf, hmm⟩ := hk.at hlt
     have hfk := HFINE.out _ (getD_memK hlt)
     have C1 := hid (fun W => refPlainN (ks.getD j default).name W (by have := hfk.name; omega))
     have C2 := hid (refFind pb ks cs (ks.getD j default).name wr HDW.out (by omega))
     have C3 := hid (refMembers pb (ks.getD j default) vf vm wr hmf hmm (by have := hfk.fields; omega) (by have := hfk.meths; omega) (fun m hm => by have := (hfk.fnm m hm).2; omega) (fun m hm => by have := (hfk.mnm m hm).2; omega) (fun m hm => by have := (hfk.fnm m hm).1; omega) (fun m hm => by have := (hfk.mnm m hm).1; omega))
     have HRI := hid (fun (h : RightK ks) => h.own j hj13 hlt)
     obtain ⟨y0, y1, y2, y3, y4⟩ := y
     have HJL := hid hlt
     have HJ13 := hid hj13
     have HNX := hid (fun (h : (plainN (nums (ks.getD j default).name) = true ∧ findZ ks (ks.getD j default).name = (j : Int)) ∧ MembersOK (ks.getD j default)) => show ∀ i, 13 ≤ i → i < j + 1 → ((plainN (nums (ks.getD i default).name) = true ∧ findZ ks (ks.getD i default).name = (i : Int)) ∧ MembersOK (ks.getD i default)) from fun i h1 h2 => by
      by_cases e : i = j
      ·subst e; exact h
      ·exact HI.out i h1 (by omega))
     generalize findZ ks (ks.getD j default).name = fz at *
     generalize MembersOK (ks.getD j default) = mo at *
     generalize plainN (nums (ks.getD j default).name) = pn at *
     generalize ks.getD j default = kj at *
     clear hk hc q1 hmf hmm hfk
     cases pn
     ·have HZ := hid (HBN.out (fun h => by have := (HRI.out h).1.1; cases this))
      go_wp2_with (fail)
      refine (C1.out _).mono ?_
      rintro e w5 ⟨rfl, hww⟩
      subst hww
      go_wp2
      go_ret2
      exact ⟨HONW.out.trans HON.out (fun _ h _ => h), .inl ⟨by rw [HZ.out]; decide, by rw [HZ.out]; rfl⟩⟩
     ·by_cases hfz : fz = (j : Int)
      ·have hfb : (fz != (j : Int)) = false := by rw [bne_eq_false_iff_eq]; exact hfz
       have HFZ := hid hfz
       rw [hfz] at C2
       clear hfz hfb
       go_wp2_with (fail)
       refine (C1.out _).mono ?_
       rintro e w5 ⟨rfl, hww⟩
       subst hww
       go_wp2_with (fail)
       refine C2.out.mono ?_
       rintro e w6 ⟨rfl, hww⟩
       subst hww
       go_wp2_with (fail)
       refine C3.out.mono ?_
       rintro e w7 ⟨r, rfl, hr, ho7⟩
       have HON7 := hid (HON.out.trans ho7 (fun _ h _ => h))
       have HR := hid hr
       clear hr ho7
       cases r
       ·have HZ := hid (HBN.out (fun h => absurd (HR.out.2 (HRI.out h).2) (by decide)))
        clear y0 y1 y2 y3 y4
        go_wp2
        go_ret2
        exact ⟨HONW.out.trans HON7.out (fun _ h _ => h), .inl ⟨by rw [HZ.out]; decide, by rw [HZ.out]; rfl⟩⟩
       ·have HNI := hid (HNX.out ⟨⟨by first | rfl | trivial, HFZ.out⟩, HR.out.1 rfl⟩)
        clear y0 y1 y2 y3 y4
        go_wp2
        go_roundw
        case rel => exact ⟨j + 1, by go_num, by omega, by omega, HNI, HON7⟩
        case measure => simp [intOf]; omega
      ·have hfb : (fz != (j : Int)) = true := by simpa using hfz
       have HZ := hid (HBN.out (fun h => hfz (HRI.out h).1.2))
       clear hfz
       go_wp2_with (fail)
       refine (C1.out _).mono ?_
       rintro e w5 ⟨rfl, hww⟩
       subst hww
       go_wp2_with (fail)
       refine C2.out.mono ?_
       rintro e w6 ⟨rfl, hww⟩
       subst hww
       go_wp2
       go_ret2
       exact ⟨HONW.out.trans HON.out (fun _ h _ => h), .inl ⟨by rw [HZ.out]; decide, by rw [HZ.out]; rfl⟩⟩
    ·obtain rfl : j = ks.length := by omega
     have HALL0 := hid HI.out
     have HOW0 := hid HON.out
     clear hlt hj HI HON
     clear hk hc q1
     go_wp2
     clear q0 p1 p2 HDW
     obtain ⟨we1, hwe1⟩ : ∃ x, x = wr := ⟨_, rfl⟩
     subst hwe1
     go_loopw [8] (fun iv wr => ∃ j : Nat, iv = .int .i64 j ∧ 13 ≤ j ∧ j ≤ ks.length ∧ Hid (∀ i, 13 ≤ i → i < j → topsZ ks i = true) ∧ Hid (Only (fun _ => False) wd wr)) (fun iv _ => ks.length - (intOf iv).toNat)
     case atStart => exact ⟨13, rfl, Nat.le_refl _, hks13, hid (fun i h1 h2 => absurd h2 (by omega)), HOW0⟩
     case round =>
      obtain ⟨j, rfl, hj13, hj, HI, HON⟩ := hrel
      have HDW := hid (HD.out.only HON.out)
      obtain ⟨vl, vi, q0, q1, hk, hc⟩ := HDW.out
      obtain ⟨ak, ck, rfl, p1, p2⟩ := hk.len
      by_cases hlt : j < ks.length
      ·have hjz : (j : Int) < (ks.length : Int) := by omega
       have hj0 : (0 : Int) ≤ (j : Int) := by omega
       have C1 := hid (refTops pb ks cs (j : Int) wr HDW.out (by omega))
       have HRI := hid (fun (h : RightK ks) => h.tops j hj13 hlt)
       have HNX := hid (fun (h : topsZ ks j = true) => show ∀ i, 13 ≤ i → i < j + 1 → topsZ ks i = true from fun i h1 h2 => by
        by_cases e : i = j
        ·subst e; exact h
        ·exact HI.out i h1 (by omega))
       generalize topsZ ks j = tz at *
       clear hk hc q1
       cases tz
       ·have HZ := hid (HBN.out (fun h => by have := HRI.out h; cases this))
        go_wp2_with (fail)
        refine C1.out.mono ?_
        rintro e w5 ⟨rfl, hww⟩
        subst hww
        go_wp2
        go_ret2
        exact ⟨HONW.out.trans HON.out (fun _ h _ => h), .inl ⟨by rw [HZ.out]; decide, by rw [HZ.out]; rfl⟩⟩
       ·have HNI := hid (HNX.out rfl)
        go_wp2_with (fail)
        refine C1.out.mono ?_
        rintro e w5 ⟨rfl, hww⟩
        subst hww
        clear q0
        go_wp2
        go_roundw
        case rel => exact ⟨j + 1, by go_num, by omega, by omega, HNI, HON⟩
        case measure => simp [intOf]; omega
      ·obtain rfl : j = ks.length := by omega
       have HALL1 := hid HI.out
       have HOW1 := hid HON.out
       clear hlt hj HI HON
       clear hk hc q1
       go_wp2
       clear q0 p1 p2 HDW
       obtain ⟨we2, hwe2⟩ : ∃ x, x = wr := ⟨_, rfl⟩
       subst hwe2
       go_loopw [9] (fun iv wr => ∃ j : Nat, iv = .int .i64 j ∧ 13 ≤ j ∧ j ≤ ks.length ∧ Hid (∀ i, 13 ≤ i → i < j → keepsZ ks i = true) ∧ Hid (Only (fun _ => False) wd wr)) (fun iv _ => ks.length - (intOf iv).toNat)
       case atStart => exact ⟨13, rfl, Nat.le_refl _, hks13, hid (fun i h1 h2 => absurd h2 (by omega)), HOW1⟩
       case round =>
        obtain ⟨j, rfl, hj13, hj, HI, HON⟩ := hrel
        have HDW := hid (HD.out.only HON.out)
        obtain ⟨vl, vi, q0, q1, hk, hc⟩ := HDW.out
        obtain ⟨ak, ck, rfl, p1, p2⟩ := hk.len
        by_cases hlt : j < ks.length
        ·have hjz : (j : Int) < (ks.length : Int) := by omega
         have hj0 : (0 : Int) ≤ (j : Int) := by omega
         have C1 := hid (refKeeps pb ks cs j wr HDW.out HSM.out (HEN.out (fun i h1 h2 => HALL1.out i h1 h2)) hlt)
         have HRI := hid (fun (h : RightK ks) => h.keeps j hj13 hlt)
         have HNX := hid (fun (h : keepsZ ks j = true) => show ∀ i, 13 ≤ i → i < j + 1 → keepsZ ks i = true from fun i h1 h2 => by
          by_cases e : i = j
          ·subst e; exact h
          ·exact HI.out i h1 (by omega))
         generalize keepsZ ks j = tz at *
         clear hk hc q1
         cases tz
         ·have HZ := hid (HBN.out (fun h => by have := HRI.out h; cases this))
          go_wp2_with (fail)
          refine C1.out.mono ?_
          rintro e w5 ⟨rfl, hww⟩
          have HON5 := hid (HON.out.trans hww (fun _ h _ => h))
          go_wp2
          go_ret2
          exact ⟨HONW.out.trans HON5.out (fun _ h _ => h), .inl ⟨by rw [HZ.out]; decide, by rw [HZ.out]; rfl⟩⟩
         ·have HNI := hid (HNX.out rfl)
          go_wp2_with (fail)
          refine C1.out.mono ?_
          rintro e w5 ⟨rfl, hww⟩
          have HON5 := hid (HON.out.trans hww (fun _ h _ => h))
          clear q0
          go_wp2
          go_roundw
          case rel => exact ⟨j + 1, by go_num, by omega, by omega, HNI, HON5⟩
          case measure => simp [intOf]; omega
        ·obtain rfl : j = ks.length := by omega
         have HALL2 := hid HI.out
         have HOW2 := hid HON.out
         clear hlt hj HI HON
         clear hk hc q1
         clear HDW
         obtain ⟨wz, hwz⟩ : ∃ x, x = wr := ⟨_, rfl⟩
         subst hwz
         by_cases hn : cs.length = 0
         ·have HZ := hid (HBN.out (fun h => by have := h.main.1; have := HKL.out; omega))
          have hnz : ((cs.length : Nat) : Int) = 0 := by omega
          have hnb : (((cs.length : Nat) : Int) == 0) = true := by rw [beq_iff_eq]; exact hnz
          clear hn
          go_wp2
          go_ret2
          exact ⟨HONW.out.trans HOW2.out (fun _ h _ => h), .inl ⟨by rw [HZ.out]; decide, by rw [HZ.out]; rfl⟩⟩
         clear q0 p1 p2
         have hnb : (((cs.length : Nat) : Int) == 0) = false := by rw [beq_eq_false_iff_ne]; omega
         have h13 : 13 < ks.length := by have := HKL.out; omega
         have h13z : (13 : Int) < (ks.length : Int) := by omega
         have HDW := hid (HD.out.only HOW2.out)
         obtain ⟨vl, vi, q0, q1, hk, hc⟩ := HDW.out
         obtain ⟨ak, ck, rfl, p1, p2⟩ := hk.len
         obtain ⟨b, o, vf, vm, rfl, y, hmf, hmm⟩ := hk.at h13
         have hfk := HFINE.out _ (getD_memK h13)
         obtain ⟨am, cm, rfl, m1, m2, m3, -⟩ := id hmm
         have C1 := hid (refHas (.slice am (ks.getD 13 default).meths.length cm) (ks.getD 13 default).meths mainB voidB wz hmm (by have := hfk.meths; omega))
         have hcz2 := hasZ_cases (ks.getD 13 default).meths mainB voidB
         have HRI := hid (fun (h : RightK ks) => h.main.2)
         have HRY := hid (fun h => (⟨fun i h1 h2 => HALL0.out i h1 h2, fun i h1 h2 => HALL1.out i h1 h2, fun i h1 h2 => HALL2.out i h1 h2, ⟨h13, h⟩⟩ : RightK ks))
         have y3 := y.c3
         have HMM := hid hmm
         obtain ⟨ms, hms⟩ : ∃ ms, (ks.getD 13 default).meths = ms := ⟨_, rfl⟩
         rw [hms] at C1 hcz2 HRI HRY HMM m1 y3
         obtain ⟨hz, hhz⟩ : ∃ x, hasZ ms mainB voidB = x := ⟨_, rfl⟩
         rw [hhz] at C1 hcz2 HRI HRY
         have hmlz : ((ms.length : Nat) : Int) ≤ 64 := by have := hfk.meths; rw [hms] at this; omega
         unfold mainB voidB at C1
         clear hn hk hc q1 hmf hmm hfk y hms hhz m3
         rcases hcz2 with rfl | ⟨p, hp, rfl⟩
         ·have HZ := hid (HBN.out (fun h => (HRI.out h).1 (by decide)))
          go_wp2_with (fail)
          refine C1.out.mono ?_
          rintro e w5 ⟨rfl, hww⟩
          subst hww
          go_wp2
          go_ret2
          exact ⟨HONW.out.trans HOW2.out (fun _ h _ => h), .inl ⟨by rw [HZ.out]; decide, by rw [HZ.out]; rfl⟩⟩
         ·have hpz : (p : Int) < (ms.length : Int) := by omega
          have hp0 : (0 : Int) ≤ (p : Int) := by omega
          have hpn : ¬ (p : Int) < 0 := by omega
          obtain ⟨b9, o9, rfl, t0, t1, t2⟩ := Sl.at HMM.out hp
          rw [Int.toNat_natCast] at HRI HRY
          obtain ⟨fg, hfg⟩ : ∃ x, (ms.getD p default).flags = x := ⟨_, rfl⟩
          rw [hfg] at HRI HRY t2
          clear hfg t0 t1
          by_cases hf8 : fg = 8
          ·have hfb : (fg != 8) = false := by rw [bne_eq_false_iff_eq]; exact hf8
           have HZ := hid (HBY.out (HRY.out ⟨hpn, hf8⟩))
           clear hf8
           go_wp2_with (fail)
           refine C1.out.mono ?_
           rintro e w5 ⟨rfl, hww⟩
           subst hww
           go_wp2
           go_ret2
           exact ⟨HONW.out.trans HOW2.out (fun _ h _ => h), .inr ⟨HZ.out, pb, rfl, by rw [HKS.out]; exact HDW.out⟩⟩
          ·have hfb : (fg != 8) = true := by simpa using hf8
           have HZ := hid (HBN.out (fun h => hf8 (HRI.out h).2))
           clear hf8
           go_wp2_with (fail)
           refine C1.out.mono ?_
           rintro e w5 ⟨rfl, hww⟩
           subst hww
           go_wp2
           go_ret2
           exact ⟨HONW.out.trans HOW2.out (fun _ h _ => h), .inl ⟨by rw [HZ.out]; decide, by rw [HZ.out]; rfl⟩⟩
theorem tops_mem {ks : List KindV} (he : EndsAll ks) : ∀ (f : Nat) (x : Nat), x < ks.length → topsF ks f (x : Int) = true → 0 ∈ upZ ks (x : Int)
 | 0, x, _, h => by cases h
 | f + 1, x, hx, h => by
  rw [upZ_step he hx]
  by_cases h0 : x = 0
  ·subst h0; exact List.mem_cons_self ..
  rw [topsF, if_neg (by omega)] at h
  rcases superZ_cases ks (x : Int) with e | ⟨i, hi, e⟩
  ·rw [e, if_pos (by decide)] at h; cases h
  ·rw [e] at h ⊢
   rw [if_neg (by omega)] at h
   split at h
   ·cases h
   ·exact List.mem_cons_of_mem _ (tops_mem he f i hi h)
theorem below_up {ks : List KindV} (he : EndsAll ks) (hon : NamesOnce ks) (hroot : findZ ks (ks.getD 0 default).super = -1) {b : Nat} (hb : b < ks.length) : ∀ (n a : Nat), a < ks.length → (upZ ks (a : Int)).length ≤ n + 1 → (belowN (treeZ ks) (ks.getD b default).name n (ks.getD a default).name = true ↔ b ∈ upZ ks (a : Int))
 | n, a, ha, hn => by
  have hst := upZ_step he ha
  have hpa : pairOf (treeZ ks) (ks.getD a default).name = (a : Int) := hon a ha
  have hpb : findZ ks (ks.getD b default).name = (b : Int) := hon b hb
  rw [hst] at hn ⊢
  by_cases hab : a = b
  ·subst hab
   rw [belowN_same]
   simp
  have hne : (ks.getD a default).name ≠ (ks.getD b default).name := fun e => by
   have h1 := hon a ha
   rw [e, hpb] at h1
   omega
  have hsu : superZ ks (a : Int) = findZ ks (ks.getD a default).super := by
   by_cases h0 : a = 0
   ·subst h0; rw [hroot]; exact super_zero ks
   ·exact super_list (by omega) ha
  have hmem : b ∈ a :: upZ ks (superZ ks (a : Int)) ↔ b ∈ upZ ks (superZ ks (a : Int)) := by
   rw [List.mem_cons]
   exact ⟨fun h => h.resolve_left (fun e => hab e.symm), .inr⟩
  rw [hmem]
  rcases findZ_cases ks (ks.getD a default).super with e | ⟨i, hi, e⟩
  ·rw [hsu, e, upZ_end (by decide)]
   have hso : (ks.getD a default).super ≠ (ks.getD b default).name := fun h => by rw [h, hpb] at e; omega
   cases n with
   | zero => rw [belowN_last hne]; simp
   | succ n =>
    rw [belowN_step hne hpa, treeZ_at ha, show (PairV.super ⟨(ks.getD a default).name, (ks.getD a default).super⟩) = (ks.getD a default).super from rfl, belowN_none hso e]
    simp
  ·have hh := find_hit e
   rw [hsu, e] at hn ⊢
   cases n with
   | zero =>
    rw [upZ_step he hi] at hn
    simp at hn
   | succ n =>
    rw [belowN_step hne hpa, treeZ_at ha, show (PairV.super ⟨(ks.getD a default).name, (ks.getD a default).super⟩) = (ks.getD a default).super from rfl, ← hh.2]
    exact below_up he hon hroot hb n i hi (by simpa using hn)
section
variable {cs : List ClassV} (h0 : ∀ c ∈ cs, clsZ c = 0) (hl : cs.length ≤ 16) (hR : RightK (kindsZ cs))
include h0 hl hR
end
theorem slotsAny_le {ks : List KindV} (hg : GoodK ks) (x : Int) : (slotsAny ks x).length ≤ 4160 := by
 by_cases h : (ks.length : Int) ≤ x
 ·unfold slotsAny; rw [if_pos h]; exact Nat.zero_le _
 ·rw [slotsAny_len (by omega)]
  exact slotsN_small hg.small hg.ends (by omega)
end Go.Proofs.YtemplkpcckmcoaaGreatDoor
