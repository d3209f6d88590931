import Derived.Test.YtinbelghhfodiaaGreatDoorMaTlk
import Derived.Test.YtinbelghhfodiaaGreatDoorMaLnkX
import Derived.Test.YtinbelghhfodiaaGreatDoorMaClsILnkWa
import Derived.Test.YtinbelghhfodiaaGreatDoorMaClsCClsE
import Derived.Test.YtinbelghhfodiaaGreatDoorMaLnkOPolD
import Derived.Test.YtinbelghhfodiaaGreatDoorMaKndBRulN
import Derived.Test.YtinbelghhfodiaaGreatDoorMaRulGRuwD
import Derived.Test.YtinbelghhfodiaaGreatDoorMaPolLKndW
import Derived.Test.YtinbelghhfodiaaGreatDoorMaPrsBig
import Derived.Test.YtinbelghhfodiaaGreatDoorMaKndTLnkD
namespace Go.Proofs.YtinbelghhfodiaaGreatDoor
set_option maxHeartbeats 32000000
open Lib (hid)
open Go.RowKit
set_option linter.unusedVariables false
set_option linter.unusedSimpArgs false
theorem obj_row {w : World} {B pb : Nat} {v : Value} {l : List KdV} {z : Array Value} {T : TypeId} (h : KdRow w B v l) (hp : w.heap[pb]? = some (.cells z T (0, 0))) (hT : T ≠ 77) : ¬ v.ownBlock = some pb := fun hv => by
 rcases h.2 with ⟨rfl, -⟩ | ⟨g, cap, cur, rfl, -, hg, -⟩
 ·cases hv
 ·have e1 : g = pb := Option.some.inj hv
  subst e1
  rw [hp] at hg
  injection hg with hg
  injection hg with _ ht _
  exact hT ht
theorem obj_me {w : World} {B pb : Nat} {v : Value} {l : List MethN} {z : Array Value} {T : TypeId} (h : MeRow w B v l) (hp : w.heap[pb]? = some (.cells z T (0, 0))) (hT : T ≠ 95) : ¬ v.ownBlock = some pb := fun hv => by
 rcases h.2 with ⟨rfl, -⟩ | ⟨g, cap, cur, rfl, -, hg, -⟩
 ·cases hv
 ·have e1 : g = pb := Option.some.inj hv
  subst e1
  rw [hp] at hg
  injection hg with hg
  injection hg with _ ht _
  exact hT ht
theorem KdsIn.off {w w' : World} {B pb : Nat} {v : Value} {l : List KdV} {z : Array Value} (h : KdsIn w B v l) (hp : w.heap[pb]? = some (.cells z 80 (0, 0))) (ho : Only (fun k => k = pb) w w') : KdsIn w' B v l :=
 ⟨h.row.only ho (fun k hk e => by subst e; exact obj_row h.row hp (by decide) hk), fun x hx => ⟨(h.mem x hx).1.only ho (fun k hk e => by subst e; exact obj_me (h.mem x hx).1 hp (by decide) hk), (h.mem x hx).2.only ho (fun k hk e => by subst e; exact obj_me (h.mem x hx).2 hp (by decide) hk)⟩⟩
theorem kinds_take {cs : List ClassV} {j : Nat} (h : j < cs.length) : kindsZ (cs.take (j + 1)) = kindsZ (cs.take j) ++ [loadZ (cs.getD j default) j] := by
 rw [List.take_succ_eq_append_getElem h, kindsZ_snoc, List.length_take, Nat.min_eq_left (Nat.le_of_lt h)]
 rw [show cs.getD j default = cs[j] by simp [List.getD, h]]
def RefBuildTo (w : World) (cs : List ClassV) (e : Ending) (w' : World) : Prop :=
 Only (fun _ => False) w w' ∧ ((buildZ cs ≠ 0 ∧ e = .returned (.tuple #[.pointer none, .int .i64 (buildZ cs)])) ∨
  (buildZ cs = 0 ∧ ∃ pb, e = .returned (.tuple #[.pointer (some ⟨pb, 0, none⟩), .int .i64 0]) ∧ DocP w' pb (kindsZ cs) cs))
set_option maxRecDepth 100000 in
theorem refBuild (v : Value) (cs : List ClassV) (w : World) (hc : Classes w v cs) (ht : ∀ c ∈ cs, Texts c.pool) :
  Calls Tryz.prog 14 #[v] w (RefBuildTo w cs) := by
 obtain ⟨i0, hi, hz0, hz1, hz2⟩ := info_parts info_kindd
 have hc0 := hc
 obtain ⟨f, hsl, hcm⟩ := hc
 obtain ⟨ao, cap, rfl, p1, p2, p3, -⟩ := id hsl
 have HSL := hid hsl
 have HCM := hid hcm
 have HC0 := hid hc0
 have HT := hid ht
 clear hsl hcm hc0 ht p3
 go_enter Tryz.func14, Tryz.ntmps14
 by_cases h16 : 16 < cs.length
 ·have hz : (16 : Int) < (cs.length : Int) := by omega
  have HB := hid (build_long h16)
  clear h16
  go_wp2
  go_ret2
  exact ⟨Only.refl _ _, .inl ⟨by rw [HB.out]; decide, by rw [HB.out]; rfl⟩⟩
 have hz : ¬ (16 : Int) < (cs.length : Int) := by omega
 have H16 := hid h16
 have hcz : ((cs.length : Nat) : Int) ≤ 16 := by omega
 have HCL := hid (show cs.length ≤ 16 by omega)
 have CB := hid (refBuilt w)
 clear h16
 go_wp2_with (fail)
 refine CB.out.mono ?_
 rintro e w1 ⟨r1, l1, rfl, hl1, hk1, ho1⟩
 obtain ⟨a1, c1, e1⟩ := hk1.row.slice
 have hl13 : l1.length = 13 := by have := congrArg List.length hl1; rw [List.length_map, builtK_len] at this; exact this
 rw [hl13] at e1
 subst e1
 have ha2 := (Only.refl (fun _ => False) w1).alloc (.cells #[.slice a1 13 c1, .slice ao cs.length cap] 80)
 have hn2 := heap_alloc_new w1 (.cells #[.slice a1 13 c1, .slice ao cs.length cap] 80)
 obtain ⟨pb, hpb⟩ : ∃ x, w1.heap.size = x := ⟨_, rfl⟩
 obtain ⟨w2, hw2⟩ : ∃ x, w1.alloc (.cells #[.slice a1 13 c1, .slice ao cs.length cap] 80) = x := ⟨_, rfl⟩
 rw [hw2] at ha2 hn2
 rw [hpb] at hn2
 have HPB0 := hid hn2
 have HON0 := hid (ho1.trans ha2 (fun _ h _ => h))
 have HKD0 := hid (hk1.only ha2)
 have HL0 := hid (show l1.map KdV.k = kindsZ (cs.take 0) by rw [hl1]; rfl)
 have HL13 := hid hl13
 have HPBW := hid (show w.heap.size ≤ pb by rw [← hpb]; exact ho1.size)
 have HPB1 := hid hpb
 have HW2 := hid hw2
 clear hl1 hk1 ho1 ha2 hn2 hl13 hpb hw2 CB
 go_wp2
 rw [HW2.out, HPB1.out]
 clear hz
 go_loopw [5, 6] (fun iv _ wr => ∃ (j : Nat) (vl : Value) (l : List KdV), iv = .int .i64 j ∧ j ≤ cs.length ∧ Hid (errsC cs = errsC (cs.drop j)) ∧ Hid (wr.heap[pb]? = some (.cells #[vl, .slice ao cs.length cap] 80 (0, 0))) ∧ Hid (KdsIn wr w.heap.size vl l) ∧ Hid (l.map KdV.k = kindsZ (cs.take j)) ∧ Hid (Only (fun _ => False) w wr)) (fun iv _ _ => cs.length - (intOf iv).toNat)
 case atStart => exact ⟨0, _, l1, rfl, Nat.zero_le _, hid rfl, HPB0, HKD0, HL0, HON0⟩
 case round =>
  obtain ⟨j, vl, l, rfl, hj, HE, HPB, HKD, HLK, HON⟩ := hrel
  by_cases hlt : j < cs.length
  ·have hjz : (j : Int) < (cs.length : Int) := by omega
   have hj0 : (0 : Int) ≤ (j : Int) := by omega
   have HST := hid (errsC_at hlt)
   rw [← HE.out] at HST
   have HKT := hid (kinds_take hlt)
   obtain ⟨b, o, rfl, y⟩ := Sl.at HSL.out hlt
   obtain ⟨y0, y1, y2, y3, y4⟩ := y
   have HBW := hid (show b < w.heap.size from World.block_lt_of_cell? _ _ y0)
   have y0 := HON.out.cell y0 (fun h => h)
   have y1 := HON.out.cell y1 (fun h => h)
   have y2 := HON.out.cell y2 (fun h => h)
   have y3 := HON.out.cell y3 (fun h => h)
   have y4 := HON.out.cell y4 (fun h => h)
   have hcj := HCM.out j hlt
   have htj := HT.out (cs.getD j default) (by rw [show cs.getD j default = cs[j] by simp [List.getD, hlt]]; exact List.getElem_mem hlt)
   generalize (f j).1 = vp at *
   generalize (f j).2.1 = vf at *
   generalize (f j).2.2 = vm at *
   obtain ⟨c, hcc⟩ : ∃ c, cs.getD j default = c := ⟨_, rfl⟩
   rw [hcc] at y1 y2 hcj HST htj HKT
   clear hcc
   obtain ⟨z1, z2, rfl, -⟩ := id hcj.1
   obtain ⟨z3, z4, rfl, -⟩ := id hcj.2.1.1
   obtain ⟨gm, hgm, -, -⟩ := id hcj.2.2.1
   obtain ⟨z5, z6, rfl, -⟩ := id hgm
   clear hgm
   have hcw : ∀ W, Only (fun _ => False) wr W → ClassM W (.slice z1 c.pool.length z2) (.slice z3 c.fields.length z4) (.slice z5 c.methods.length z6) c := fun W hW => by
    obtain ⟨a1, a2, a3, a4, a5⟩ := hcj
    have hoa := HON.out.trans hW (fun _ h _ => h)
    exact ⟨a1.only hoa (fun _ _ h => h), a2.only hoa, a3.only hoa, a4, a5⟩
   have C1 := hid (refClsCheck _ _ _ c wr (hcw wr (Only.refl _ _)) htj)
   have HCW := hid hcw
   have HPL0 : Hid (loadZ c j = ⟨(classZ c.pool c.this).1, (classZ c.pool c.super).1, fieldK c, methsK c, (j : Int)⟩) := hid rfl
   have HFEW := hid (fun h0 => few_cls (c := c) h0)
   obtain ⟨np, hnp⟩ : ∃ x, c.pool.length = x := ⟨_, rfl⟩
   obtain ⟨nf, hnf⟩ : ∃ x, c.fields.length = x := ⟨_, rfl⟩
   obtain ⟨nm, hnm⟩ : ∃ x, c.methods.length = x := ⟨_, rfl⟩
   rw [hnp, hnf, hnm] at C1 HCW
   rw [hnp] at y0
   rw [hnf] at y3
   rw [hnm] at y4
   clear hcj htj hcw hnp hnf hnm
   by_cases hz0 : clsZ c = 0
   ·have HE2 := hid (show errsC cs = errsC (cs.drop (j + 1)) by rw [HST.out, if_neg (by simp [hz0])])
    have hfw := HFEW.out hz0
    obtain ⟨kz, hkz⟩ : ∃ kz, loadZ c j = kz := ⟨_, rfl⟩
    have CLD := hid (fun W (hW : Only (fun _ => False) wr W) => refLoad c (.slice z1 np z2) (.slice z3 nf z4) (.slice z5 nm z6) (j : Int) W (HCW.out W hW) hfw.2.1 hfw.2.2)
    rw [show (classZ c.pool c.this).1 = kz.name by rw [← hkz]; rfl, show (classZ c.pool c.super).1 = kz.super by rw [← hkz]; rfl, show fieldK c = kz.fields by rw [← hkz]; rfl, show methsK c = kz.meths by rw [← hkz]; rfl] at CLD
    have HPL := hid (show kz.place = (j : Int) by rw [← hkz]; rfl)
    rw [hkz] at HKT
    rw [hz0] at C1
    have hll : l.length ≤ 32 := by have := congrArg List.length HLK.out; rw [List.length_map, kindsZ_len, List.length_take] at this; have := HCL.out; omega
    obtain ⟨al, cl, rfl⟩ := HKD.out.row.slice
    clear hz0 hfw hkz
    go_wp2_with (fail)
    refine C1.out.mono ?_
    rintro e w5 ⟨rfl, ho5⟩
    have y0 := ho5.cell y0 (fun h => h)
    have y1 := ho5.cell y1 (fun h => h)
    have y2 := ho5.cell y2 (fun h => h)
    have y3 := ho5.cell y3 (fun h => h)
    have y4 := ho5.cell y4 (fun h => h)
    have HPBX := hid (ho5.heap HPB.out (fun h => h))
    have HKDX := hid (HKD.out.only ho5)
    have HONX := hid (HON.out.trans ho5 (fun _ h _ => h))
    have CLDX := hid (fun W (hW : Only (fun _ => False) w5 W) => CLD.out W (ho5.trans hW (fun _ h _ => h)))
    clear HPB HKD HON CLD C1 HCW ho5
    obtain ⟨wq, hwq⟩ : ∃ x, x = wr := ⟨_, rfl⟩
    subst hwq
    obtain ⟨wr, hwr⟩ : ∃ x, x = w5 := ⟨_, rfl⟩
    subst hwr
    have HPB := hid HPBX.out
    have HKD := hid HKDX.out
    have HON := hid HONX.out
    have CLD := hid CLDX.out
    have q0 := cell_blk HPB.out 0
    have HSD := hid (show (fun wc => wc.cell? ⟨pb, 0, none⟩ = some (.slice al l.length cl) ∧ wc.cell? ⟨b, o + j * 5, none⟩ = some ((.slice z1 np z2)) ∧ wc.cell? ⟨b, o + j * 5 + 1, none⟩ = some (.int .i64 c.this) ∧ wc.cell? ⟨b, o + j * 5 + 2, none⟩ = some (.int .i64 c.super) ∧ wc.cell? ⟨b, o + j * 5 + 3, none⟩ = some ((.slice z3 nf z4)) ∧ wc.cell? ⟨b, o + j * 5 + 4, none⟩ = some ((.slice z5 nm z6))) wr from ⟨q0, y0, y1, y2, y3, y4⟩)
    clear HPBX HKDX HONX CLDX
    go_wp2
    refine wp_till 15 (fun wc => wc.cell? ⟨pb, 0, none⟩ = some (.slice al l.length cl) ∧ wc.cell? ⟨b, o + j * 5, none⟩ = some ((.slice z1 np z2)) ∧ wc.cell? ⟨b, o + j * 5 + 1, none⟩ = some (.int .i64 c.this) ∧ wc.cell? ⟨b, o + j * 5 + 2, none⟩ = some (.int .i64 c.super) ∧ wc.cell? ⟨b, o + j * 5 + 3, none⟩ = some ((.slice z3 nf z4)) ∧ wc.cell? ⟨b, o + j * 5 + 4, none⟩ = some ((.slice z5 nm z6))) (by kernel_rfl) ?_
    refine Till.tk 0 (hS := by first | assumption | exact HSD.out) (h := ?_)
    refine Till.tk 1 (hS := by first | assumption | exact HSD.out) (h := ?_)
    refine Till.tk 2 (hS := by first | assumption | exact HSD.out) (h := ?_)
    refine Till.tk 3 (hS := by first | assumption | exact HSD.out) (h := ?_)
    refine Till.tk 4 (hS := by first | assumption | exact HSD.out) (h := ?_)
    refine Till.tk 5 (hS := by first | assumption | exact HSD.out) (h := ?_)
    refine Till.tk 6 (hS := by first | assumption | exact HSD.out) (h := ?_)
    refine Till.tk 7 (hS := by first | assumption | exact HSD.out) (h := ?_)
    refine Till.tk 8 (hS := by first | assumption | exact HSD.out) (h := ?_)
    refine Till.tk 9 (hS := by first | assumption | exact HSD.out) (h := ?_)
    refine Till.ts 10 (h := fun K hK => ?_)
    go_simp
    (refine (CLD.out _ (by exact ⟨rfl, rfl, rfl, Nat.le_refl _, fun _ _ _ => rfl⟩)).mono ?_; rintro e1 w1 ⟨uf, um, rfl, hu1, hu2, ho1⟩; obtain ⟨u1, u2, rfl⟩ := hu1.slice; obtain ⟨u3, u4, rfl⟩ := hu2.slice; have HA1 := hid (show Only (fun _ => False) wr w1 from Only.trans (b := wr.drew) (by exact ⟨rfl, rfl, rfl, Nat.le_refl _, fun _ _ _ => rfl⟩) ho1 (fun _ h _ => h)); have HU1 := hid hu1; have HU2 := hid hu2; clear ho1 hu1 hu2)
    go_wp2_with fail
    refine hK.out _ _ ?_ ?_
    ·exact fun _ => ⟨HA1.out.cell q0 (fun h => h), HA1.out.cell y0 (fun h => h), HA1.out.cell y1 (fun h => h), HA1.out.cell y2 (fun h => h), HA1.out.cell y3 (fun h => h), HA1.out.cell y4 (fun h => h)⟩
    clear hK K
    try simp only [Act.put, sIB, sC0, sCS]
    refine Till.ts 11 (h := fun K hK => ?_)
    go_simp
    refine hK.out _ _ ?_ ?_
    ·exact fun _ => ⟨(HA1.out.alloc _).cell q0 (fun h => h), (HA1.out.alloc _).cell y0 (fun h => h), (HA1.out.alloc _).cell y1 (fun h => h), (HA1.out.alloc _).cell y2 (fun h => h), (HA1.out.alloc _).cell y3 (fun h => h), (HA1.out.alloc _).cell y4 (fun h => h)⟩
    clear hK K
    try simp only [Act.put, sIB, sC0, sCS]
    refine Till.ts 12 (h := fun K hK => ?_)
    (have hkd5 : KdsIn (w1.alloc (.cells #[.string kz.name, .string kz.super, .slice u1 kz.fields.length u2, .slice u3 kz.meths.length u4, .int .i64 j] 77)) w.heap.size (.slice al l.length cl) l := HKD.out.only (HA1.out.alloc _); have HKD5 := hid hkd5; have hmn : MeRow (w1.alloc (.cells #[.string kz.name, .string kz.super, .slice u1 kz.fields.length u2, .slice u3 kz.meths.length u4, .int .i64 j] 77)) w.heap.size (.slice u1 kz.fields.length u2) kz.fields ∧ MeRow (w1.alloc (.cells #[.string kz.name, .string kz.super, .slice u1 kz.fields.length u2, .slice u3 kz.meths.length u4, .int .i64 j] 77)) w.heap.size (.slice u3 kz.meths.length u4) kz.meths := ⟨(HU1.out.only ((Only.refl (fun _ => False) w1).alloc _) (fun _ _ h => h)).lower HON.out.size, (HU2.out.only ((Only.refl (fun _ => False) w1).alloc _) (fun _ _ h => h)).lower HON.out.size⟩; have HMN := hid hmn; clear hkd5 hmn; refine step_append_src rfl (.tmp 36) (.tmp 43) 78 rfl 77 i0 (.agg #[.string ⟨#[]⟩, .string ⟨#[]⟩, .slice none 0 0, .slice none 0 0, .int .i64 0]) 5 88 Tryz.underlying78 hi hz0 hz1 hz2 rfl (by decide) w.heap.size (.slice al l.length cl) l.length (l.flatMap cellsKd) rfl (by exact HKD5.out.row) (by have := (HON.out.trans (HA1.out.alloc (.cells #[.string kz.name, .string kz.super, .slice u1 kz.fields.length u2, .slice u3 kz.meths.length u4, .int .i64 j] 77)) (fun _ h _ => h)).size; exact this) (.slice (some ⟨w1.heap.size, 0, none⟩) 1 1) 1 (cellsKd ⟨kz, .slice u1 kz.fields.length u2, .slice u3 kz.meths.length u4⟩) rfl (by rw [← HPL.out]; exact Src.kind (w := w1) kz.name kz.super (.slice u1 kz.fields.length u2) (.slice u3 kz.meths.length u4) kz.place ⟨kz, .slice u1 kz.fields.length u2, .slice u3 kz.meths.length u4⟩ rfl rfl rfl rfl) (by unfold maxLen; omega) (by omega) ?_; intro v' w3 hown hgrow hnew; have hos := (Only.refl (fun k => (Value.slice al l.length cl).ownBlock = some k) _).grown hgrow (fun k hk _ => hk); have hkd6 := KdsIn.push HKD5.out HMN.out hos (KdRow.more hown); have HKD6 := hid hkd6; obtain ⟨an, cn, ev⟩ := hkd6.row.slice; obtain ⟨ln, hln⟩ : ∃ ln, (l ++ [(⟨kz, .slice u1 kz.fields.length u2, .slice u3 kz.meths.length u4⟩ : KdV)]).length = ln := ⟨_, rfl⟩; rw [hln] at ev; subst ev; clear hln; have ha3 := ((HA1.out.alloc (.cells #[.string kz.name, .string kz.super, .slice u1 kz.fields.length u2, .slice u3 kz.meths.length u4, .int .i64 j] 77)).mono (T := fun k => (Value.slice al l.length cl).ownBlock = some k) (fun _ h _ => h.elim)).trans hos (fun k hk _ => hk); have HA3 := hid ha3; have hpn : ¬ ((Value.slice al l.length cl).ownBlock = some pb) := obj_row HKD.out.row HPB.out (by decide); have hcn : ¬ ((Value.slice al l.length cl).ownBlock = some b) := fun e => (by have := (HKD.out.row.ge _ e).1; have := HBW.out; omega); have hpo := ha3.heap HPB.out hpn; have hk0 := cell_blk hpo 0; have fk0 := frozen_blk hpo 0; have HPO := hid hpo; have hy0 := ha3.cell y0 hcn; have hy1 := ha3.cell y1 hcn; have hy2 := ha3.cell y2 hcn; have hy3 := ha3.cell y3 hcn; have hy4 := ha3.cell y4 hcn; clear hown hgrow hnew hos hkd6 ha3 hpn hcn hpo)
    refine hK.out _ _ ?_ ?_
    ·exact fun _ => ⟨hk0, hy0, hy1, hy2, hy3, hy4⟩
    clear hK K
    try simp only [Act.put, sIB, sC0, sCS]
    refine Till.ts 13 (h := fun K hK => ?_)
    go_simp
    refine hK.out _ _ ?_ ?_
    ·exact fun _ => ⟨hk0, hy0, hy1, hy2, hy3, hy4⟩
    clear hK K
    try simp only [Act.put, sIB, sC0, sCS]
    refine Till.ts 14 (h := fun K hK => ?_)
    go_simp
    refine hK.out _ _ ?_ ?_
    ·exact fun _ => ⟨hk0, hy0, hy1, hy2, hy3, hy4⟩
    clear hK K
    try simp only [Act.put, sIB, sC0, sCS]
    refine Till.ts 15 (h := fun K hK => ?_)
    go_simp
    refine hK.out _ _ ?_ ?_
    ·exact fun h => by cases h
    clear hK K
    try simp only [Act.put, sIB, sC0, sCS]
    refine Till.done (by kernel_rfl) ?_ _
    have hp9 := heap_setCell_at (i := 0) (u := .slice an ln cn) HPO.out
    simp only [List.setIfInBounds_toArray, List.set_cons_zero, List.set_cons_succ] at hp9
    have hot := (Only.refl (fun k => k = pb) w3).setCell (p := ⟨pb, 0, none⟩) (fun _ => rfl) (.slice an ln cn)
    have hkd9 := HKD6.out.off HPO.out hot
    have hon9 := (HON.out.trans HA3.out (fun k hk hl => by have := (HKD.out.row.ge k hk).1; omega)).trans hot (fun k hk hl => by have := HPBW.out; omega)
    have HP9 := hid hp9
    have HKD9 := hid hkd9
    have HON9 := hid hon9
    have HL9 := hid (show (l ++ [(⟨kz, .slice u1 kz.fields.length u2, .slice u3 kz.meths.length u4⟩ : KdV)]).map KdV.k = kindsZ (cs.take (j + 1)) by rw [List.map_append, HLK.out, HKT.out]; rfl)
    clear hp9 hot hkd9 hon9 hk0 fk0 hy0 hy1 hy2 hy3 hy4 y0 y1 y2 y3 y4 q0 HPO HA3 HA1 HU1 HU2
    go_wp2
    go_roundw
    case rel => exact ⟨j + 1, _, _, by go_num, by omega, HE2, HP9, HKD9, HL9, HON9⟩
    case measure => simp [intOf]; omega
   ·have HE2 := hid (show errsC cs = clsZ c by rw [HST.out, if_pos hz0])
    have HB := hid (show buildZ cs = clsZ c by rw [build_err H16.out (by rw [HE2.out]; exact hz0), HE2.out])
    have HZ0 := hid hz0
    have hzb : (clsZ c != 0) = true := by simpa using hz0
    generalize clsZ c = ec at *
    clear hz0
    go_wp2_with (fail)
    refine C1.out.mono ?_
    rintro e w5 ⟨rfl, ho5⟩
    have HO5 := hid (HON.out.trans ho5 (fun _ h _ => h))
    clear ho5 y0 y1 y2 y3 y4
    go_wp2
    go_ret2
    exact ⟨HO5.out, .inl ⟨by rw [HB.out]; exact HZ0.out, by rw [HB.out]; rfl⟩⟩
  ·obtain rfl : j = cs.length := by omega
   have HE0 := hid (show errsC cs = 0 by rw [HE.out, List.drop_of_length_le (Nat.le_refl _)]; rfl)
   have HAL := hid (errsC_zero HE0.out)
   have hd : DocP wr pb (kindsZ cs) cs := ⟨vl, .slice ao cs.length cap, cell_blk HPB.out 0, cell_blk HPB.out 1, by have := HKD.out.kinds; rwa [HLK.out, List.take_length] at this, HC0.out.only HON.out⟩
   have HD := hid hd
   have HFINE := hid (fine_all HAL.out)
   have HSM := hid (fine_small HAL.out HCL.out)
   have hkl := kindsZ_len cs
   obtain ⟨wd, hwd⟩ : ∃ x, x = wr := ⟨_, rfl⟩
   subst hwd
   have HONW := hid HON.out
   have HRG := hid (fun h => once_all (cs := cs) h)
   have HEN := hid (fun h => ends_all (cs := cs) h)
   have HKL := hid hkl
   have HNO := hid (fun (h : RightK (kindsZ cs)) => h)
   have HBN := hid (fun (h : ¬ RightK (kindsZ cs)) => build_no H16.out HE0.out h)
   have HBY := hid (fun (h : RightK (kindsZ cs)) => build_yes H16.out HE0.out h)
   have hks64 : (((kindsZ cs).length : Nat) : Int) ≤ 64 := by omega
   have hks13 : 13 ≤ (kindsZ cs).length := by omega
   obtain ⟨ks, hks⟩ : ∃ ks, kindsZ cs = ks := ⟨_, rfl⟩
   rw [hks] at HD HFINE HSM HRG HEN HKL HNO HBN HBY hks64 hks13 hd hkl
   have HKS := hid hks
   clear hlt hj hd hkl HPB HKD HLK HON HE HL0 HKD0 HPB0 HON0 hks
   go_wp2
   go_loopw [7] (fun iv wr => ∃ j : Nat, iv = .int .i64 j ∧ 13 ≤ j ∧ j ≤ ks.length ∧ Hid (∀ i, 13 ≤ i → i < j → ((plainN (nums (ks.getD i default).name) = true ∧ findZ ks (ks.getD i default).name = (i : Int)) ∧ MembersOK (ks.getD i default))) ∧ Hid (Only (fun _ => False) wd wr)) (fun iv _ => ks.length - (intOf iv).toNat)
   case atStart => exact ⟨13, rfl, Nat.le_refl _, hks13, hid (fun i h1 h2 => absurd h2 (by omega)), hid (Only.refl _ _)⟩
   case round =>
    obtain ⟨j, rfl, hj13, hj, HI, HON⟩ := hrel
    have HDW := hid (HD.out.only HON.out)
    obtain ⟨vl, vi, q0, q1, hk, hc⟩ := HDW.out
    obtain ⟨ak, ck, rfl, p1, p2⟩ := hk.len
    by_cases hlt : j < ks.length
    ·have hjz : (j : Int) < (ks.length : Int) := by omega
     have hj0 : (0 : Int) ≤ (j : Int) := by omega
     obtain ⟨b, o, vf, vm, rfl, y, hmf, hmm⟩ := hk.at hlt
     have hfk := HFINE.out _ (getD_memK hlt)
     have C1 := hid (fun W => refPlainN (ks.getD j default).name W (by have := hfk.name; omega))
     have C2 := hid (refFind pb ks cs (ks.getD j default).name wr HDW.out (by omega))
     have C3 := hid (refMembers pb (ks.getD j default) vf vm wr hmf hmm (by have := hfk.fields; omega) (by have := hfk.meths; omega) (fun m hm => by have := (hfk.fnm m hm).2; omega) (fun m hm => by have := (hfk.mnm m hm).2; omega) (fun m hm => by have := (hfk.fnm m hm).1; omega) (fun m hm => by have := (hfk.mnm m hm).1; omega))
     have HRI := hid (fun (h : RightK ks) => h.own j hj13 hlt)
     obtain ⟨y0, y1, y2, y3, y4⟩ := y
     have HJL := hid hlt
     have HJ13 := hid hj13
     have HNX := hid (fun (h : (plainN (nums (ks.getD j default).name) = true ∧ findZ ks (ks.getD j default).name = (j : Int)) ∧ MembersOK (ks.getD j default)) => show ∀ i, 13 ≤ i → i < j + 1 → ((plainN (nums (ks.getD i default).name) = true ∧ findZ ks (ks.getD i default).name = (i : Int)) ∧ MembersOK (ks.getD i default)) from fun i h1 h2 => by
      by_cases e : i = j
      ·subst e; exact h
      ·exact HI.out i h1 (by omega))
     generalize findZ ks (ks.getD j default).name = fz at *
     generalize MembersOK (ks.getD j default) = mo at *
     generalize plainN (nums (ks.getD j default).name) = pn at *
     generalize ks.getD j default = kj at *
     clear hk hc q1 hmf hmm hfk
     cases pn
     ·have HZ := hid (HBN.out (fun h => by have := (HRI.out h).1.1; cases this))
      go_wp2_with (fail)
      refine (C1.out _).mono ?_
      rintro e w5 ⟨rfl, hww⟩
      subst hww
      go_wp2
      go_ret2
      exact ⟨HONW.out.trans HON.out (fun _ h _ => h), .inl ⟨by rw [HZ.out]; decide, by rw [HZ.out]; rfl⟩⟩
     ·by_cases hfz : fz = (j : Int)
      ·have hfb : (fz != (j : Int)) = false := by rw [bne_eq_false_iff_eq]; exact hfz
       have HFZ := hid hfz
       rw [hfz] at C2
       clear hfz hfb
       go_wp2_with (fail)
       refine (C1.out _).mono ?_
       rintro e w5 ⟨rfl, hww⟩
       subst hww
       go_wp2_with (fail)
       refine C2.out.mono ?_
       rintro e w6 ⟨rfl, hww⟩
       subst hww
       go_wp2_with (fail)
       refine C3.out.mono ?_
       rintro e w7 ⟨r, rfl, hr, ho7⟩
       have HON7 := hid (HON.out.trans ho7 (fun _ h _ => h))
       have HR := hid hr
       clear hr ho7
       cases r
       ·have HZ := hid (HBN.out (fun h => absurd (HR.out.2 (HRI.out h).2) (by decide)))
        clear y0 y1 y2 y3 y4
        go_wp2
        go_ret2
        exact ⟨HONW.out.trans HON7.out (fun _ h _ => h), .inl ⟨by rw [HZ.out]; decide, by rw [HZ.out]; rfl⟩⟩
       ·have HNI := hid (HNX.out ⟨⟨by first | rfl | trivial, HFZ.out⟩, HR.out.1 rfl⟩)
        clear y0 y1 y2 y3 y4
        go_wp2
        go_roundw
        case rel => exact ⟨j + 1, by go_num, by omega, by omega, HNI, HON7⟩
        case measure => simp [intOf]; omega
      ·have hfb : (fz != (j : Int)) = true := by simpa using hfz
       have HZ := hid (HBN.out (fun h => hfz (HRI.out h).1.2))
       clear hfz
       go_wp2_with (fail)
       refine (C1.out _).mono ?_
       rintro e w5 ⟨rfl, hww⟩
       subst hww
       go_wp2_with (fail)
       refine C2.out.mono ?_
       rintro e w6 ⟨rfl, hww⟩
       subst hww
       go_wp2
       go_ret2
       exact ⟨HONW.out.trans HON.out (fun _ h _ => h), .inl ⟨by rw [HZ.out]; decide, by rw [HZ.out]; rfl⟩⟩
    ·obtain rfl : j = ks.length := by omega
     have HALL0 := hid HI.out
     have HOW0 := hid HON.out
     clear hlt hj HI HON
     clear hk hc q1
     go_wp2
     clear q0 p1 p2 HDW
     obtain ⟨we1, hwe1⟩ : ∃ x, x = wr := ⟨_, rfl⟩
     subst hwe1
     go_loopw [8] (fun iv wr => ∃ j : Nat, iv = .int .i64 j ∧ 13 ≤ j ∧ j ≤ ks.length ∧ Hid (∀ i, 13 ≤ i → i < j → topsZ ks i = true) ∧ Hid (Only (fun _ => False) wd wr)) (fun iv _ => ks.length - (intOf iv).toNat)
     case atStart => exact ⟨13, rfl, Nat.le_refl _, hks13, hid (fun i h1 h2 => absurd h2 (by omega)), HOW0⟩
     case round =>
      obtain ⟨j, rfl, hj13, hj, HI, HON⟩ := hrel
      have HDW := hid (HD.out.only HON.out)
      obtain ⟨vl, vi, q0, q1, hk, hc⟩ := HDW.out
      obtain ⟨ak, ck, rfl, p1, p2⟩ := hk.len
      by_cases hlt : j < ks.length
      ·have hjz : (j : Int) < (ks.length : Int) := by omega
       have hj0 : (0 : Int) ≤ (j : Int) := by omega
       have C1 := hid (refTops pb ks cs (j : Int) wr HDW.out (by omega))
       have HRI := hid (fun (h : RightK ks) => h.tops j hj13 hlt)
       have HNX := hid (fun (h : topsZ ks j = true) => show ∀ i, 13 ≤ i → i < j + 1 → topsZ ks i = true from fun i h1 h2 => by
        by_cases e : i = j
        ·subst e; exact h
        ·exact HI.out i h1 (by omega))
       generalize topsZ ks j = tz at *
       clear hk hc q1
       cases tz
       ·have HZ := hid (HBN.out (fun h => by have := HRI.out h; cases this))
        go_wp2_with (fail)
        refine C1.out.mono ?_
        rintro e w5 ⟨rfl, hww⟩
        subst hww
        go_wp2
        go_ret2
        exact ⟨HONW.out.trans HON.out (fun _ h _ => h), .inl ⟨by rw [HZ.out]; decide, by rw [HZ.out]; rfl⟩⟩
       ·have HNI := hid (HNX.out rfl)
        go_wp2_with (fail)
        refine C1.out.mono ?_
        rintro e w5 ⟨rfl, hww⟩
        subst hww
        clear q0
        go_wp2
        go_roundw
        case rel => exact ⟨j + 1, by go_num, by omega, by omega, HNI, HON⟩
        case measure => simp [intOf]; omega
      ·obtain rfl : j = ks.length := by omega
       have HALL1 := hid HI.out
       have HOW1 := hid HON.out
       clear hlt hj HI HON
       clear hk hc q1
       go_wp2
       clear q0 p1 p2 HDW
       obtain ⟨we2, hwe2⟩ : ∃ x, x = wr := ⟨_, rfl⟩
       subst hwe2
       go_loopw [9] (fun iv wr => ∃ j : Nat, iv = .int .i64 j ∧ 13 ≤ j ∧ j ≤ ks.length ∧ Hid (∀ i, 13 ≤ i → i < j → keepsZ ks i = true) ∧ Hid (Only (fun _ => False) wd wr)) (fun iv _ => ks.length - (intOf iv).toNat)
       case atStart => exact ⟨13, rfl, Nat.le_refl _, hks13, hid (fun i h1 h2 => absurd h2 (by omega)), HOW1⟩
       case round =>
        obtain ⟨j, rfl, hj13, hj, HI, HON⟩ := hrel
        have HDW := hid (HD.out.only HON.out)
        obtain ⟨vl, vi, q0, q1, hk, hc⟩ := HDW.out
        obtain ⟨ak, ck, rfl, p1, p2⟩ := hk.len
        by_cases hlt : j < ks.length
        ·have hjz : (j : Int) < (ks.length : Int) := by omega
         have hj0 : (0 : Int) ≤ (j : Int) := by omega
         have C1 := hid (refKeeps pb ks cs j wr HDW.out HSM.out (HEN.out (fun i h1 h2 => HALL1.out i h1 h2)) hlt)
         have HRI := hid (fun (h : RightK ks) => h.keeps j hj13 hlt)
         have HNX := hid (fun (h : keepsZ ks j = true) => show ∀ i, 13 ≤ i → i < j + 1 → keepsZ ks i = true from fun i h1 h2 => by
          by_cases e : i = j
          ·subst e; exact h
          ·exact HI.out i h1 (by omega))
         generalize keepsZ ks j = tz at *
         clear hk hc q1
         cases tz
         ·have HZ := hid (HBN.out (fun h => by have := HRI.out h; cases this))
          go_wp2_with (fail)
          refine C1.out.mono ?_
          rintro e w5 ⟨rfl, hww⟩
          have HON5 := hid (HON.out.trans hww (fun _ h _ => h))
          go_wp2
          go_ret2
          exact ⟨HONW.out.trans HON5.out (fun _ h _ => h), .inl ⟨by rw [HZ.out]; decide, by rw [HZ.out]; rfl⟩⟩
         ·have HNI := hid (HNX.out rfl)
          go_wp2_with (fail)
          refine C1.out.mono ?_
          rintro e w5 ⟨rfl, hww⟩
          have HON5 := hid (HON.out.trans hww (fun _ h _ => h))
          clear q0
          go_wp2
          go_roundw
          case rel => exact ⟨j + 1, by go_num, by omega, by omega, HNI, HON5⟩
          case measure => simp [intOf]; omega
        ·obtain rfl : j = ks.length := by omega
         have HALL2 := hid HI.out
         have HOW2 := hid HON.out
         clear hlt hj HI HON
         clear hk hc q1
         clear HDW
         obtain ⟨wz, hwz⟩ : ∃ x, x = wr := ⟨_, rfl⟩
         subst hwz
         by_cases hn : cs.length = 0
         ·have HZ := hid (HBN.out (fun h => by have := h.main.1; have := HKL.out; omega))
          have hnz : ((cs.length : Nat) : Int) = 0 := by omega
          have hnb : (((cs.length : Nat) : Int) == 0) = true := by rw [beq_iff_eq]; exact hnz
          clear hn
          go_wp2
          go_ret2
          exact ⟨HONW.out.trans HOW2.out (fun _ h _ => h), .inl ⟨by rw [HZ.out]; decide, by rw [HZ.out]; rfl⟩⟩
         clear q0 p1 p2
         have hnb : (((cs.length : Nat) : Int) == 0) = false := by rw [beq_eq_false_iff_ne]; omega
         have h13 : 13 < ks.length := by have := HKL.out; omega
         have h13z : (13 : Int) < (ks.length : Int) := by omega
         have HDW := hid (HD.out.only HOW2.out)
         obtain ⟨vl, vi, q0, q1, hk, hc⟩ := HDW.out
         obtain ⟨ak, ck, rfl, p1, p2⟩ := hk.len
         obtain ⟨b, o, vf, vm, rfl, y, hmf, hmm⟩ := hk.at h13
         have hfk := HFINE.out _ (getD_memK h13)
         obtain ⟨am, cm, rfl, m1, m2, m3, -⟩ := id hmm
         have C1 := hid (refHas (.slice am (ks.getD 13 default).meths.length cm) (ks.getD 13 default).meths mainB voidB wz hmm (by have := hfk.meths; omega))
         have hcz2 := hasZ_cases (ks.getD 13 default).meths mainB voidB
         have HRI := hid (fun (h : RightK ks) => h.main.2)
         have HRY := hid (fun h => (⟨fun i h1 h2 => HALL0.out i h1 h2, fun i h1 h2 => HALL1.out i h1 h2, fun i h1 h2 => HALL2.out i h1 h2, ⟨h13, h⟩⟩ : RightK ks))
         have y3 := y.c3
         have HMM := hid hmm
         obtain ⟨ms, hms⟩ : ∃ ms, (ks.getD 13 default).meths = ms := ⟨_, rfl⟩
         rw [hms] at C1 hcz2 HRI HRY HMM m1 y3
         obtain ⟨hz, hhz⟩ : ∃ x, hasZ ms mainB voidB = x := ⟨_, rfl⟩
         rw [hhz] at C1 hcz2 HRI HRY
         have hmlz : ((ms.length : Nat) : Int) ≤ 64 := by have := hfk.meths; rw [hms] at this; omega
         unfold mainB voidB at C1
         clear hn hk hc q1 hmf hmm hfk y hms hhz m3
         rcases hcz2 with rfl | ⟨p, hp, rfl⟩
         ·have HZ := hid (HBN.out (fun h => (HRI.out h).1 (by decide)))
          go_wp2_with (fail)
          refine C1.out.mono ?_
          rintro e w5 ⟨rfl, hww⟩
          subst hww
          go_wp2
          go_ret2
          exact ⟨HONW.out.trans HOW2.out (fun _ h _ => h), .inl ⟨by rw [HZ.out]; decide, by rw [HZ.out]; rfl⟩⟩
         ·have hpz : (p : Int) < (ms.length : Int) := by omega
          have hp0 : (0 : Int) ≤ (p : Int) := by omega
          have hpn : ¬ (p : Int) < 0 := by omega
          obtain ⟨b9, o9, rfl, t0, t1, t2⟩ := Sl.at HMM.out hp
          rw [Int.toNat_natCast] at HRI HRY
          obtain ⟨fg, hfg⟩ : ∃ x, (ms.getD p default).flags = x := ⟨_, rfl⟩
          rw [hfg] at HRI HRY t2
          clear hfg t0 t1
          by_cases hf8 : fg = 8
          ·have hfb : (fg != 8) = false := by rw [bne_eq_false_iff_eq]; exact hf8
           have HZ := hid (HBY.out (HRY.out ⟨hpn, hf8⟩))
           clear hf8
           go_wp2_with (fail)
           refine C1.out.mono ?_
           rintro e w5 ⟨rfl, hww⟩
           subst hww
           go_wp2
           go_ret2
           exact ⟨HONW.out.trans HOW2.out (fun _ h _ => h), .inr ⟨HZ.out, pb, rfl, by rw [HKS.out]; exact HDW.out⟩⟩
          ·have hfb : (fg != 8) = true := by simpa using hf8
           have HZ := hid (HBN.out (fun h => hf8 (HRI.out h).2))
           clear hf8
           go_wp2_with (fail)
           refine C1.out.mono ?_
           rintro e w5 ⟨rfl, hww⟩
           subst hww
           go_wp2
           go_ret2
           exact ⟨HONW.out.trans HOW2.out (fun _ h _ => h), .inl ⟨by rw [HZ.out]; decide, by rw [HZ.out]; rfl⟩⟩
theorem awake11 (w : World) : Calls Tryz.prog 15 #[] w fun e w' => e = .returned (.bool true) ∧ Only (fun _ => False) w w' := by
 have C := hid (zAt (unmade_nil w) 0 0)
 go_enter Tryz.func15, Tryz.ntmps15
 go_wp2_with (fail)
 refine C.out.mono ?_
 rintro e w1 ⟨rfl, ho⟩
 have HO := hid ho
 clear ho
 go_wp2
 go_ret
 exact ⟨rfl, HO.out⟩
structure Both (w : World) (cs : List ClassV) (n i : Int) (xb yb pb qb : Nat) (fv : Nat → Value) (cl : Nat → ClassV) (x : List TypeV × TypeV × Int) : Prop where
 few : cs.length ≤ 16
 ok : ∀ c ∈ cs, clsZ c = 0
 right : RightK (kindsZ cs)
 inl : inList (kindsZ cs) n i
 made : MadeP fv w pb cs cl
 doc : DocP w qb (kindsZ cs) cs
 place : PlaceP w xb pb (kindsZ cs) (plZ (kindsZ cs) n.toNat (cs.getD (n.toNat - 13) default) ((cs.getD (n.toNat - 13) default).methods.getD i.toNat default) (((kindsZ cs).getD n.toNat default).meths.getD i.toNat default).name x)
 rplace : RPlaceP w yb qb (kindsZ cs) (rplZ n.toNat (cs.getD (n.toNat - 13) default) ((cs.getD (n.toNat - 13) default).methods.getD i.toNat default) (((kindsZ cs).getD n.toNat default).meths.getD i.toNat default).name x)
theorem Both.only {w w' : World} {cs : List ClassV} {n i : Int} {xb yb pb qb : Nat} {fv : Nat → Value} {cl : Nat → ClassV} {x : List TypeV × TypeV × Int} (h : Both w cs n i xb yb pb qb fv cl x) (ho : Only (fun _ => False) w w') : Both w' cs n i xb yb pb qb fv cl x :=
 ⟨h.few, h.ok, h.right, h.inl, h.made.only ho, h.doc.only ho, h.place.only ho, h.rplace.only ho⟩
def PlTo (w : World) (cs : List ClassV) (n i : Int) (e : Ending) (w' : World) : Prop :=
 Only (fun _ => False) w w' ∧ (e = .returned (.tuple #[.pointer none, .pointer none, .bool true]) ∨
  ∃ xb yb pb qb fv cl x, e = .returned (.tuple #[.pointer (some ⟨xb, 0, none⟩), .pointer (some ⟨yb, 0, none⟩), .bool true]) ∧ Both w' cs n i xb yb pb qb fv cl x)
set_option maxRecDepth 100000 in
theorem pPlaces (v : Value) (cs : List ClassV) (n i : Int) (w : World) (hc : Classes w v cs) (ht : ∀ c ∈ cs, Texts c.pool) (hT : Tabs w) (hE : ErrV w) :
  Calls Tryz.prog 5 #[v, .int .i64 n, .int .i64 i] w (PlTo w cs n i) := by
 have CB := hid (pBuild v cs w hc hT hE)
 have CR := hid (fun W (hW : Only (fun _ => False) w W) => refBuild v cs W (hc.only hW) ht)
 have CA := hid awake11
 clear hc hT hE ht
 go_enter Tryz.func5, Tryz.ntmps5
 go_wp2_with (fail)
 refine CB.out.mono ?_
 rintro e w1 ⟨ho1, hcase⟩
 have HO1 := hid ho1
 clear CB
 rcases hcase with ⟨hz, rfl⟩ | ⟨hz, pb, fv, cl, rfl, hm⟩
 ·have HZ := hid hz
  clear hz
  go_wp2_with (fail)
  refine (CR.out _ ho1).mono ?_
  rintro e w2 ⟨ho2, hcase⟩
  clear ho1
  rcases hcase with ⟨_, rfl⟩ | ⟨hz2, _⟩
  ·have HO2 := hid (HO1.out.trans ho2 (fun _ h _ => h))
   have hbz : (buildZ cs != buildZ cs) = false := by simp
   generalize buildZ cs = bz at *
   clear ho2
   go_wp2_with (fail)
   refine (CA.out _).mono ?_
   rintro e w3 ⟨rfl, ho3⟩
   have HO3 := hid (HO2.out.trans ho3 (fun _ h _ => h))
   clear ho3
   go_wp2
   go_ret3
   exact ⟨HO3.out, .inl rfl⟩
  ·exact absurd hz2 HZ.out
 ·obtain ⟨hl16, h0, hR⟩ := build_zero hz
  have HM := hid hm
  have HZ := hid hz
  clear hm hz
  go_wp2_with (fail)
  refine (CR.out _ ho1).mono ?_
  rintro e w2 ⟨ho2, hcase⟩
  clear ho1
  rcases hcase with ⟨hz2, _⟩ | ⟨_, qb, rfl, hd⟩
  ·exact absurd HZ.out hz2
  have HO2 := hid (HO1.out.trans ho2 (fun _ h _ => h))
  have HM2 := hid (HM.out.only ho2)
  have HD2 := hid hd
  have CX := hid (pAt HM2.out h0 hl16 n i)
  have CY := hid (fun W (hW : Only (fun _ => False) w2 W) => rAt (hd.only hW) h0 hl16 n i)
  have HF := hid hl16
  have H0 := hid h0
  have HR := hid hR
  clear ho2 hd hR CR HM HZ h0 hl16
  go_wp2_with (fail)
  refine CX.out.mono ?_
  rintro e w3 ⟨ho3, hcx⟩
  have HO3 := hid ho3
  rcases hcx with ⟨hno, rfl⟩ | ⟨hin, xb, x, rfl, hx, hpl⟩
  ·have HNO := hid hno
   clear hno
   go_wp2_with (fail)
   refine (CY.out _ ho3).mono ?_
   rintro e w4 ⟨ho4, hcy⟩
   clear ho3
   rcases hcy with ⟨_, rfl⟩ | ⟨hin, _⟩
   ·have HO4 := hid (HO2.out.trans (HO3.out.trans ho4 (fun _ h _ => h)) (fun _ h _ => h))
    clear ho4
    go_wp2
    go_ret3
    exact ⟨HO4.out, .inl rfl⟩
   ·exact absurd hin HNO.out
  ·have HIN := hid hin
   have HX := hid hx
   have HPL := hid hpl
   clear hin hx hpl
   go_wp2_with (fail)
   refine (CY.out _ ho3).mono ?_
   rintro e w4 ⟨ho4, hcy⟩
   clear ho3
   rcases hcy with ⟨hno, _⟩ | ⟨_, yb, x', rfl, hx', hrp⟩
   ·exact absurd HIN.out hno
   ·obtain rfl := hx'.unique HX.out
    have HO4 := hid (HO2.out.trans (HO3.out.trans ho4 (fun _ h _ => h)) (fun _ h _ => h))
    have HB := hid (show Both w4 cs n i xb yb pb qb fv cl x' from ⟨HF.out, H0.out, HR.out, HIN.out, HM2.out.only (HO3.out.trans ho4 (fun _ h _ => h)), HD2.out.only (HO3.out.trans ho4 (fun _ h _ => h)), HPL.out.only ho4, hrp⟩)
    clear ho4 hx' hrp
    go_wp2
    go_ret3
    exact ⟨HO4.out, .inr ⟨xb, yb, pb, qb, fv, cl, x', rfl, HB.out⟩⟩
end Go.Proofs.YtinbelghhfodiaaGreatDoor
namespace Go.Proofs.YtinbelghhfodiaaGreatDoor
set_option maxHeartbeats 32000000
open Lib (hid)
open Go.ChangeShapes Go.WideShapes Go.ChangeAt Go.RowKit Go.Deep
set_option linter.unusedVariables false
set_option linter.unusedSimpArgs false
theorem cells_type : Tryz.prog.cellsOf 33 = 5 := by kernel_rfl
section
variable {H : Type} {enc : TypeId × Value → H} {w : World} {held : Bool}
theorem slice_len {t e : TypeId} (ht : Tryz.prog.underlying t = some (.slice e)) {fuel : Nat} {ao : Option Addr} {n cap : Nat} {x : DataW H × List MemPlace} (h : DataW.trod enc Tryz.prog w 0 (fun _ => true) held fuel t [.slice ao n cap] = some x) (hL : Light Tryz.prog t x.1) :
  n * Tryz.prog.bytesOf e ≤ reachBytes := by
 rcases Go.Deep.open_slice ht h with ⟨h1, _⟩ | ⟨a, len, cap2, m, n2, D, Pl, h1, _, hl, hm, hmm, rfl, hi⟩
 ·simp only [List.cons.injEq, Value.slice.injEq, and_true] at h1
  obtain ⟨_, rfl, _⟩ := h1
  rw [Nat.zero_mul]; exact Nat.zero_le _
 ·simp only [List.cons.injEq, Value.slice.injEq, and_true] at h1
  obtain ⟨_, rfl, _⟩ := h1
  have h2 := light_len ht hL
  simp only [List.length_map, List.length_range] at h2
  exact Nat.le_trans (Nat.mul_le_mul_right _ (Nat.le_add_right _ _)) h2
theorem light_string {t : TypeId} {s : ByteArray} (h : Light Tryz.prog t (.lit (.string s.data.toList) : DataW H)) : s.size ≤ 140737488351232 := by
 have := h s.data.toList.length (by simp [DataW.weights])
 unfold reachBytes at this
 rw [Lib.size_eq]
 omega
theorem str_field {T : TypeId} {fuel : Nat} {v : Value} {y : DataW H × List MemPlace} (hT : Tryz.prog.underlying T = some .string) (t : DataW.trod enc Tryz.prog w 0 (fun _ => true) held fuel T [v] = some y) (hL : Light Tryz.prog T y.1) : ∃ s, v = .string s ∧ s.size ≤ 140737488351232 := by
 obtain ⟨s, e, ey, wf⟩ := DataW.trod_string hT t
 simp only [List.cons.injEq, and_true] at e
 subst ey
 exact ⟨s, e, light_string hL⟩
set_option maxRecDepth 100000 in
theorem open_typeV {fuel : Nat} {cs : List Value} {x : DataW H × List MemPlace} (h : DataW.trod enc Tryz.prog w 0 (fun _ => true) held fuel 33 cs = some x) (hcs : cs.length = 5) (hL : Light Tryz.prog 33 x.1) :
  ∃ f : TypeV, cs = cellsTy f ∧ TypeR f := by
 have F := fun j f hj => open_field (j := j) (f := f) Tryz.underlying33 (by kernel_rfl) h hcs hL hj
 obtain ⟨v0, n0, y0, d0, t0, _⟩ := F 0 _ rfl
 obtain ⟨v1, n1, y1, d1, t1, l1⟩ := F 1 _ rfl
 obtain ⟨v2, n2, y2, d2, t2, _⟩ := F 2 _ rfl
 obtain ⟨v3, n3, y3, d3, t3, _⟩ := F 3 _ rfl
 obtain ⟨v4, n4, y4, d4, t4, _⟩ := F 4 _ rfl
 obtain ⟨k0, rfl, r0⟩ := int_field Tryz.underlying3 t0
 obtain ⟨k1, rfl, r1⟩ := str_field Tryz.underlying9 t1 l1
 obtain ⟨k2, rfl, r2⟩ := int_field Tryz.underlying3 t2
 obtain ⟨k3, rfl, r3⟩ := int_field Tryz.underlying3 t3
 obtain ⟨k4, rfl, r4⟩ := int_field Tryz.underlying3 t4
 unfold I64 at r0 r2 r3 r4
 refine ⟨⟨k0, k1, k2, k3, k4⟩, ?_, ?_⟩
 ·match cs, hcs with
  | [c0, c1, c2, c3, c4], _ =>
   simp only [List.getElem?_cons_zero, List.getElem?_cons_succ, Option.some.injEq] at d0 d1 d2 d3 d4
   rw [d0, d1, d2, d3, d4]
   rfl
 ·unfold TypeR
  simp only
  omega
end
theorem cells_frame11 : Tryz.prog.cellsOf 25 = 3 := by kernel_rfl
structure FrA (w : World) (v1 v2 : Value) (la sa : List TypeV) : Prop where
 l : Types w v1 la
 s : Types w v2 sa
 lr : ∀ t ∈ la, t.name.size ≤ maxLen
 sr : ∀ t ∈ sa, t.name.size ≤ maxLen
 ln : la.length * 48 ≤ 140737488355327
 sn : sa.length * 48 ≤ 140737488355327
theorem FrA.only {w w' : World} {v1 v2 : Value} {l s : List TypeV} (h : FrA w v1 v2 l s) (ho : Only (fun _ => False) w w') : FrA w' v1 v2 l s := ⟨h.l.only ho, h.s.only ho, h.lr, h.sr, h.ln, h.sn⟩
section
variable {H : Type} {enc : TypeId × Value → H} {w : World} {held : Bool}
theorem open_tlistR {fuel : Nat} {cs : List Value} {x : DataW H × List MemPlace} (h : DataW.trod enc Tryz.prog w 0 (fun _ => true) held fuel 23 cs = some x) (hL : Light Tryz.prog 23 x.1) : ∃ v l, cs = [v] ∧ Types w v l ∧ (∀ t ∈ l, t.name.size ≤ maxLen) ∧ l.length * 48 ≤ 140737488355327 := by
 obtain ⟨v, l, rfl, hs, hr⟩ := open_sl (β := TypeV) Tryz.underlying23 cells_type (by decide) (fun f cs => cs = cellsTy f ∧ TypeR f) (fun z cs h => by rw [h.1]; rfl) open_typeV h hL
 have ht : Types w v l := hs.imp (fun b o i _ hi ⟨es, ⟨he, _⟩, hc⟩ => by subst he; exact ⟨hc 0 _ rfl, hc 1 _ rfl, hc 2 _ rfl, hc 3 _ rfl, hc 4 _ rfl⟩)
 obtain ⟨ao, cap, rfl, -⟩ := id ht
 have h2 := slice_len Tryz.underlying23 h hL
 rw [show Tryz.prog.bytesOf 33 = 48 by kernel_rfl] at h2
 unfold reachBytes at h2
 refine ⟨_, l, rfl, ht, fun t ht => ?_, by omega⟩
 obtain ⟨_, _, hR⟩ := hr t ht
 have := hR.2.2.2.2
 unfold maxLen; omega
set_option maxRecDepth 100000 in
theorem open_frame11 {fuel : Nat} {cs : List Value} {x : DataW H × List MemPlace} (h : DataW.trod enc Tryz.prog w 0 (fun _ => true) held fuel 25 cs = some x) (hcs : cs.length = 3) (hL : Light Tryz.prog 25 x.1) :
  ∃ lv sv l s b, cs = [lv, sv, .bool b] ∧ FrA w lv sv l s := by
 have F := fun j f hj => open_field (j := j) (f := f) Tryz.underlying25 (by kernel_rfl) h hcs hL hj
 obtain ⟨v0, n0, y0, d0, t0, l0⟩ := F 0 _ rfl
 obtain ⟨v1, n1, y1, d1, t1, l1⟩ := F 1 _ rfl
 obtain ⟨v2, n2, y2, d2, t2, l2⟩ := F 2 _ rfl
 obtain ⟨v0', a, e0, k0, r0, s0⟩ := open_tlistR t0 l0
 obtain ⟨v1', b, e1, k1, r1, s1⟩ := open_tlistR t1 l1
 obtain ⟨f, e2, _⟩ := DataW.trod_bool Tryz.underlying4 t2
 simp only [List.cons.injEq, and_true] at e0 e1 e2
 subst e0 e1 e2
 refine ⟨v0, v1, a, b, f, ?_, k0, k1, r0, r1, s0, s1⟩
 match cs, hcs with
 | [c0, c1, c2], _ =>
  simp only [List.getElem?_cons_zero, List.getElem?_cons_succ, Option.some.injEq] at d0 d1 d2
  rw [d0, d1, d2]
end
set_option maxRecDepth 100000 in
theorem arg_frame {H : Type} {enc : TypeId × Value → H} {W : World} {base : Nat} {v : Value} {d : DataW H} {p : List MemPlace} (hv : Value.okWide Tryz.prog W .any base 25 v) (h : DataW.Trod enc Tryz.prog W 0 (fun _ => true) true 25 v d p)
  (hL : Light Tryz.prog 25 d) : ∃ v1 v2 l s b, v = .agg #[v1, v2, .bool b] ∧ FrA W v1 v2 l s := by
 obtain ⟨cs, rfl, hsz⟩ := okWide_struct Tryz.underlying25 hv
 rw [cells_frame11] at hsz
 obtain ⟨fuel, hf⟩ := h
 obtain ⟨lv, sv, l, s, b, hi, hr⟩ := open_frame11 (cs := cs.toList) (by simpa [Value.cells] using hf) (by simpa using hsz) hL
 exact ⟨lv, sv, l, s, b, by rw [← Array.toArray_toList (xs := cs), hi], hr⟩
end Go.Proofs.YtinbelghhfodiaaGreatDoor
