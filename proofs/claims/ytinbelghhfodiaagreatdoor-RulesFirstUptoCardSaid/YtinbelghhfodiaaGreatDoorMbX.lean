import Derived.Test.YtinbelghhfodiaaGreatDoorMaClsAKndL
import Derived.Test.YtinbelghhfodiaaGreatDoorMaClsCClsE
import Derived.Test.YtinbelghhfodiaaGreatDoorMaClsGLpE
import Derived.Test.YtinbelghhfodiaaGreatDoorMaClsILnkWa
import Derived.Test.YtinbelghhfodiaaGreatDoorMaIxALpRa
import Derived.Test.YtinbelghhfodiaaGreatDoorMaKndBRulN
import Derived.Test.YtinbelghhfodiaaGreatDoorMaKndOLpO
import Derived.Test.YtinbelghhfodiaaGreatDoorMaKndPRulA
import Derived.Test.YtinbelghhfodiaaGreatDoorMaKndTLnkD
import Derived.Test.YtinbelghhfodiaaGreatDoorMaLnkELnkG
import Derived.Test.YtinbelghhfodiaaGreatDoorMaLnkHLnkN
import Derived.Test.YtinbelghhfodiaaGreatDoorMaLnkOPolD
import Derived.Test.YtinbelghhfodiaaGreatDoorMaLnkVLnkW
import Derived.Test.YtinbelghhfodiaaGreatDoorMaLnkX
import Derived.Test.YtinbelghhfodiaaGreatDoorMaLpFLpG
import Derived.Test.YtinbelghhfodiaaGreatDoorMaLpHLpI
import Derived.Test.YtinbelghhfodiaaGreatDoorMaLpJKndSh
import Derived.Test.YtinbelghhfodiaaGreatDoorMaLpMeLpTb
import Derived.Test.YtinbelghhfodiaaGreatDoorMaLpQLpY
import Derived.Test.YtinbelghhfodiaaGreatDoorMaLpRcLpRb
import Derived.Test.YtinbelghhfodiaaGreatDoorMaLpRf
import Derived.Test.YtinbelghhfodiaaGreatDoorMaLpRg
import Derived.Test.YtinbelghhfodiaaGreatDoorMaLpRhLpRi
import Derived.Test.YtinbelghhfodiaaGreatDoorMaLpSLpU
import Derived.Test.YtinbelghhfodiaaGreatDoorMaLpTLpR
import Derived.Test.YtinbelghhfodiaaGreatDoorMaLpVClsH
import Derived.Test.YtinbelghhfodiaaGreatDoorMaPolLKndW
import Derived.Test.YtinbelghhfodiaaGreatDoorMaPolMPolV
import Derived.Test.YtinbelghhfodiaaGreatDoorMaPolW
import Derived.Test.YtinbelghhfodiaaGreatDoorMaPrsBig
import Derived.Test.YtinbelghhfodiaaGreatDoorMaRulDLpP
import Derived.Test.YtinbelghhfodiaaGreatDoorMaRulGRuwD
import Derived.Test.YtinbelghhfodiaaGreatDoorMaRulTRulB
import Derived.Test.YtinbelghhfodiaaGreatDoorMaRuwARulE
import Derived.Test.YtinbelghhfodiaaGreatDoorMaSepPolT
import Derived.Test.YtinbelghhfodiaaGreatDoorMaTillPolI
import Derived.Test.YtinbelghhfodiaaGreatDoorMaTkH
import Derived.Test.YtinbelghhfodiaaGreatDoorMbXa
import Derived.Test.YtinbelghhfodiaaGreatDoorMaTlk
import Derived.Test.YtinbelghhfodiaaGreatDoorMaTxtATxtE
import Derived.Test.YtinbelghhfodiaaGreatDoorMaTxtFArg
import Derived.Test.YtinbelghhfodiaaGreatDoorMaWireAPolG
import Derived.ArgAppend
import Derived.BigQuiet
import Derived.Deep.QuietTactic
import Derived.Deep.RegionHeld3
import Derived.Defers
import Derived.Laws.CopyRow
import Derived.OwnWalk
import Derived.ProofKit
import Derived.Recover
import Derived.WalkLawsBesides

namespace Go.Proofs.YtinbelghhfodiaaGreatDoor
set_option maxHeartbeats 32000000
open Lib (hid)
open Go.RowKit
set_option linter.unusedVariables false
set_option linter.unusedSimpArgs false
theorem obj_row {w : World} {B pb : Nat} {v : Value} {l : List KdV} {z : Array Value} {T : TypeId} (h : KdRow w B v l) (hp : w.heap[pb]? = some (.cells z T (0, 0))) (hT : T ≠ 77) : ¬ v.ownBlock = some pb := fun hv => by
 rcases h.2 with ⟨rfl, -⟩ | ⟨g, cap, cur, rfl, -, hg, -⟩
 ·cases hv
 ·have e1 : g = pb := Option.some.inj hv
  subst e1
  rw [hp] at hg
  injection hg with hg
  injection hg with _ ht _
  exact hT ht
theorem obj_me {w : World} {B pb : Nat} {v : Value} {l : List MethN} {z : Array Value} {T : TypeId} (h : MeRow w B v l) (hp : w.heap[pb]? = some (.cells z T (0, 0))) (hT : T ≠ 95) : ¬ v.ownBlock = some pb := fun hv => by
 rcases h.2 with ⟨rfl, -⟩ | ⟨g, cap, cur, rfl, -, hg, -⟩
 ·cases hv
 ·have e1 : g = pb := Option.some.inj hv
  subst e1
  rw [hp] at hg
  injection hg with hg
  injection hg with _ ht _
  exact hT ht
theorem KdsIn.off {w w' : World} {B pb : Nat} {v : Value} {l : List KdV} {z : Array Value} (h : KdsIn w B v l) (hp : w.heap[pb]? = some (.cells z 80 (0, 0))) (ho : Only (fun k => k = pb) w w') : KdsIn w' B v l :=
 ⟨h.row.only ho (fun k hk e => by subst e; exact obj_row h.row hp (by decide) hk), fun x hx => ⟨(h.mem x hx).1.only ho (fun k hk e => by subst e; exact obj_me (h.mem x hx).1 hp (by decide) hk), (h.mem x hx).2.only ho (fun k hk e => by subst e; exact obj_me (h.mem x hx).2 hp (by decide) hk)⟩⟩
theorem kinds_take {cs : List ClassV} {j : Nat} (h : j < cs.length) : kindsZ (cs.take (j + 1)) = kindsZ (cs.take j) ++ [loadZ (cs.getD j default) j] := by
 rw [List.take_succ_eq_append_getElem h, kindsZ_snoc, List.length_take, Nat.min_eq_left (Nat.le_of_lt h)]
 rw [show cs.getD j default = cs[j] by simp [List.getD, h]]
def RefBuildTo (w : World) (cs : List ClassV) (e : Ending) (w' : World) : Prop :=
 Only (fun _ => False) w w' ∧ ((buildZ cs ≠ 0 ∧ e = .returned (.tuple #[.pointer none, .int .i64 (buildZ cs)])) ∨
  (buildZ cs = 0 ∧ ∃ pb, e = .returned (.tuple #[.pointer (some ⟨pb, 0, none⟩), .int .i64 0]) ∧ DocP w' pb (kindsZ cs) cs))
set_option maxRecDepth 100000 in
theorem refBuild (v : Value) (cs : List ClassV) (w : World) (hc : Classes w v cs) (ht : ∀ c ∈ cs, Texts c.pool) :
  Calls Tryz.prog 14 #[v] w (RefBuildTo w cs) := by
 obtain ⟨i0, hi, hz0, hz1, hz2⟩ := info_parts info_kindd
 have hc0 := hc
 obtain ⟨f, hsl, hcm⟩ := hc
 obtain ⟨ao, cap, rfl, p1, p2, p3, -⟩ := id hsl
 have HSL := hid hsl
 have HCM := hid hcm
 have HC0 := hid hc0
 have HT := hid ht
 clear hsl hcm hc0 ht p3
 go_enter Tryz.func14, Tryz.ntmps14
 by_cases h16 : 16 < cs.length
 ·have hz : (16 : Int) < (cs.length : Int) := by omega
  have HB := hid (build_long h16)
  clear h16
  go_wp2
  go_ret2
  exact ⟨Only.refl _ _, .inl ⟨by rw [HB.out]; decide, by rw [HB.out]; rfl⟩⟩
 have hz : ¬ (16 : Int) < (cs.length : Int) := by omega
 have H16 := hid h16
 have hcz : ((cs.length : Nat) : Int) ≤ 16 := by omega
 have HCL := hid (show cs.length ≤ 16 by omega)
 have CB := hid (refBuilt w)
 clear h16
 go_wp2_with (fail)
 refine CB.out.mono ?_
 rintro e w1 ⟨r1, l1, rfl, hl1, hk1, ho1⟩
 obtain ⟨a1, c1, e1⟩ := hk1.row.slice
 have hl13 : l1.length = 13 := by have := congrArg List.length hl1; rw [List.length_map, builtK_len] at this; exact this
 rw [hl13] at e1
 subst e1
 have ha2 := (Only.refl (fun _ => False) w1).alloc (.cells #[.slice a1 13 c1, .slice ao cs.length cap] 80)
 have hn2 := heap_alloc_new w1 (.cells #[.slice a1 13 c1, .slice ao cs.length cap] 80)
 obtain ⟨pb, hpb⟩ : ∃ x, w1.heap.size = x := ⟨_, rfl⟩
 obtain ⟨w2, hw2⟩ : ∃ x, w1.alloc (.cells #[.slice a1 13 c1, .slice ao cs.length cap] 80) = x := ⟨_, rfl⟩
 rw [hw2] at ha2 hn2
 rw [hpb] at hn2
 have HPB0 := hid hn2
 have HON0 := hid (ho1.trans ha2 (fun _ h _ => h))
 have HKD0 := hid (hk1.only ha2)
 have HL0 := hid (show l1.map KdV.k = kindsZ (cs.take 0) by rw [hl1]; rfl)
 have HL13 := hid hl13
 have HPBW := hid (show w.heap.size ≤ pb by rw [← hpb]; exact ho1.size)
 have HPB1 := hid hpb
 have HW2 := hid hw2
 clear hl1 hk1 ho1 ha2 hn2 hl13 hpb hw2 CB
 go_wp2
 rw [HW2.out, HPB1.out]
 clear hz
 go_loopw [5, 6] (fun iv _ wr => ∃ (j : Nat) (vl : Value) (l : List KdV), iv = .int .i64 j ∧ j ≤ cs.length ∧ Hid (errsC cs = errsC (cs.drop j)) ∧ Hid (wr.heap[pb]? = some (.cells #[vl, .slice ao cs.length cap] 80 (0, 0))) ∧ Hid (KdsIn wr w.heap.size vl l) ∧ Hid (l.map KdV.k = kindsZ (cs.take j)) ∧ Hid (Only (fun _ => False) w wr)) (fun iv _ _ => cs.length - (intOf iv).toNat)
 case atStart => exact ⟨0, _, l1, rfl, Nat.zero_le _, hid rfl, HPB0, HKD0, HL0, HON0⟩
 case round =>
  obtain ⟨j, vl, l, rfl, hj, HE, HPB, HKD, HLK, HON⟩ := hrel
  by_cases hlt : j < cs.length
  ·have hjz : (j : Int) < (cs.length : Int) := by omega
   have hj0 : (0 : Int) ≤ (j : Int) := by omega
   have HST := hid (errsC_at hlt)
   rw [← HE.out] at HST
   have HKT := hid (kinds_take hlt)
   obtain ⟨b, o, rfl, y⟩ := Sl.at HSL.out hlt
   obtain ⟨y0, y1, y2, y3, y4⟩ := y
   have HBW := hid (show b < w.heap.size from World.block_lt_of_cell? _ _ y0)
   have y0 := HON.out.cell y0 (fun h => h)
   have y1 := HON.out.cell y1 (fun h => h)
   have y2 := HON.out.cell y2 (fun h => h)
   have y3 := HON.out.cell y3 (fun h => h)
   have y4 := HON.out.cell y4 (fun h => h)
   have hcj := HCM.out j hlt
   have htj := HT.out (cs.getD j default) (by rw [show cs.getD j default = cs[j] by simp [List.getD, hlt]]; exact List.getElem_mem hlt)
   generalize (f j).1 = vp at *
   generalize (f j).2.1 = vf at *
   generalize (f j).2.2 = vm at *
   obtain ⟨c, hcc⟩ : ∃ c, cs.getD j default = c := ⟨_, rfl⟩
   rw [hcc] at y1 y2 hcj HST htj HKT
   clear hcc
   obtain ⟨z1, z2, rfl, -⟩ := id hcj.1
   obtain ⟨z3, z4, rfl, -⟩ := id hcj.2.1.1
   obtain ⟨gm, hgm, -, -⟩ := id hcj.2.2.1
   obtain ⟨z5, z6, rfl, -⟩ := id hgm
   clear hgm
   have hcw : ∀ W, Only (fun _ => False) wr W → ClassM W (.slice z1 c.pool.length z2) (.slice z3 c.fields.length z4) (.slice z5 c.methods.length z6) c := fun W hW => by
    obtain ⟨a1, a2, a3, a4, a5⟩ := hcj
    have hoa := HON.out.trans hW (fun _ h _ => h)
    exact ⟨a1.only hoa (fun _ _ h => h), a2.only hoa, a3.only hoa, a4, a5⟩
   have C1 := hid (refClsCheck _ _ _ c wr (hcw wr (Only.refl _ _)) htj)
   have HCW := hid hcw
   have HPL0 : Hid (loadZ c j = ⟨(classZ c.pool c.this).1, (classZ c.pool c.super).1, fieldK c, methsK c, (j : Int)⟩) := hid rfl
   have HFEW := hid (fun h0 => few_cls (c := c) h0)
   obtain ⟨np, hnp⟩ : ∃ x, c.pool.length = x := ⟨_, rfl⟩
   obtain ⟨nf, hnf⟩ : ∃ x, c.fields.length = x := ⟨_, rfl⟩
   obtain ⟨nm, hnm⟩ : ∃ x, c.methods.length = x := ⟨_, rfl⟩
   rw [hnp, hnf, hnm] at C1 HCW
   rw [hnp] at y0
   rw [hnf] at y3
   rw [hnm] at y4
   clear hcj htj hcw hnp hnf hnm
   by_cases hz0 : clsZ c = 0
   ·have HE2 := hid (show errsC cs = errsC (cs.drop (j + 1)) by rw [HST.out, if_neg (by simp [hz0])])
    have hfw := HFEW.out hz0
    obtain ⟨kz, hkz⟩ : ∃ kz, loadZ c j = kz := ⟨_, rfl⟩
    have CLD := hid (fun W (hW : Only (fun _ => False) wr W) => refLoad c (.slice z1 np z2) (.slice z3 nf z4) (.slice z5 nm z6) (j : Int) W (HCW.out W hW) hfw.2.1 hfw.2.2)
    rw [show (classZ c.pool c.this).1 = kz.name by rw [← hkz]; rfl, show (classZ c.pool c.super).1 = kz.super by rw [← hkz]; rfl, show fieldK c = kz.fields by rw [← hkz]; rfl, show methsK c = kz.meths by rw [← hkz]; rfl] at CLD
    have HPL := hid (show kz.place = (j : Int) by rw [← hkz]; rfl)
    rw [hkz] at HKT
    rw [hz0] at C1
    have hll : l.length ≤ 32 := by have := congrArg List.length HLK.out; rw [List.length_map, kindsZ_len, List.length_take] at this; have := HCL.out; omega
    obtain ⟨al, cl, rfl⟩ := HKD.out.row.slice
    clear hz0 hfw hkz
    go_wp2_with (fail)
    refine C1.out.mono ?_
    rintro e w5 ⟨rfl, ho5⟩
    have y0 := ho5.cell y0 (fun h => h)
    have y1 := ho5.cell y1 (fun h => h)
    have y2 := ho5.cell y2 (fun h => h)
    have y3 := ho5.cell y3 (fun h => h)
    have y4 := ho5.cell y4 (fun h => h)
    have HPBX := hid (ho5.heap HPB.out (fun h => h))
    have HKDX := hid (HKD.out.only ho5)
    have HONX := hid (HON.out.trans ho5 (fun _ h _ => h))
    have CLDX := hid (fun W (hW : Only (fun _ => False) w5 W) => CLD.out W (ho5.trans hW (fun _ h _ => h)))
    clear HPB HKD HON CLD C1 HCW ho5
    obtain ⟨wq, hwq⟩ : ∃ x, x = wr := ⟨_, rfl⟩
    subst hwq
    obtain ⟨wr, hwr⟩ : ∃ x, x = w5 := ⟨_, rfl⟩
    subst hwr
    have HPB := hid HPBX.out
    have HKD := hid HKDX.out
    have HON := hid HONX.out
    have CLD := hid CLDX.out
    have q0 := cell_blk HPB.out 0
    have HSD := hid (show (fun wc => wc.cell? ⟨pb, 0, none⟩ = some (.slice al l.length cl) ∧ wc.cell? ⟨b, o + j * 5, none⟩ = some ((.slice z1 np z2)) ∧ wc.cell? ⟨b, o + j * 5 + 1, none⟩ = some (.int .i64 c.this) ∧ wc.cell? ⟨b, o + j * 5 + 2, none⟩ = some (.int .i64 c.super) ∧ wc.cell? ⟨b, o + j * 5 + 3, none⟩ = some ((.slice z3 nf z4)) ∧ wc.cell? ⟨b, o + j * 5 + 4, none⟩ = some ((.slice z5 nm z6))) wr from ⟨q0, y0, y1, y2, y3, y4⟩)
    clear HPBX HKDX HONX CLDX
    go_wp2
    refine wp_till 15 (fun wc => wc.cell? ⟨pb, 0, none⟩ = some (.slice al l.length cl) ∧ wc.cell? ⟨b, o + j * 5, none⟩ = some ((.slice z1 np z2)) ∧ wc.cell? ⟨b, o + j * 5 + 1, none⟩ = some (.int .i64 c.this) ∧ wc.cell? ⟨b, o + j * 5 + 2, none⟩ = some (.int .i64 c.super) ∧ wc.cell? ⟨b, o + j * 5 + 3, none⟩ = some ((.slice z3 nf z4)) ∧ wc.cell? ⟨b, o + j * 5 + 4, none⟩ = some ((.slice z5 nm z6))) (by kernel_rfl) ?_
    refine Till.tk 0 (hS := by first | assumption | exact HSD.out) (h := ?_)
    refine Till.tk 1 (hS := by first | assumption | exact HSD.out) (h := ?_)
    refine Till.tk 2 (hS := by first | assumption | exact HSD.out) (h := ?_)
    refine Till.tk 3 (hS := by first | assumption | exact HSD.out) (h := ?_)
    refine Till.tk 4 (hS := by first | assumption | exact HSD.out) (h := ?_)
    refine Till.tk 5 (hS := by first | assumption | exact HSD.out) (h := ?_)
    refine Till.tk 6 (hS := by first | assumption | exact HSD.out) (h := ?_)
    refine Till.tk 7 (hS := by first | assumption | exact HSD.out) (h := ?_)
    refine Till.tk 8 (hS := by first | assumption | exact HSD.out) (h := ?_)
    refine Till.tk 9 (hS := by first | assumption | exact HSD.out) (h := ?_)
    refine Till.ts 10 (h := fun K hK => ?_)
    go_simp
    (refine (CLD.out _ (by exact ⟨rfl, rfl, rfl, Nat.le_refl _, fun _ _ _ => rfl⟩)).mono ?_; rintro e1 w1 ⟨uf, um, rfl, hu1, hu2, ho1⟩; obtain ⟨u1, u2, rfl⟩ := hu1.slice; obtain ⟨u3, u4, rfl⟩ := hu2.slice; have HA1 := hid (show Only (fun _ => False) wr w1 from Only.trans (b := wr.drew) (by exact ⟨rfl, rfl, rfl, Nat.le_refl _, fun _ _ _ => rfl⟩) ho1 (fun _ h _ => h)); have HU1 := hid hu1; have HU2 := hid hu2; clear ho1 hu1 hu2)
    go_wp2_with fail
    refine hK.out _ _ ?_ ?_
    ·exact fun _ => ⟨HA1.out.cell q0 (fun h => h), HA1.out.cell y0 (fun h => h), HA1.out.cell y1 (fun h => h), HA1.out.cell y2 (fun h => h), HA1.out.cell y3 (fun h => h), HA1.out.cell y4 (fun h => h)⟩
    clear hK K
    try simp only [Act.put, sIB, sC0, sCS]
    refine Till.ts 11 (h := fun K hK => ?_)
    go_simp
    refine hK.out _ _ ?_ ?_
    ·exact fun _ => ⟨(HA1.out.alloc _).cell q0 (fun h => h), (HA1.out.alloc _).cell y0 (fun h => h), (HA1.out.alloc _).cell y1 (fun h => h), (HA1.out.alloc _).cell y2 (fun h => h), (HA1.out.alloc _).cell y3 (fun h => h), (HA1.out.alloc _).cell y4 (fun h => h)⟩
    clear hK K
    try simp only [Act.put, sIB, sC0, sCS]
    refine Till.ts 12 (h := fun K hK => ?_)
    (have hkd5 : KdsIn (w1.alloc (.cells #[.string kz.name, .string kz.super, .slice u1 kz.fields.length u2, .slice u3 kz.meths.length u4, .int .i64 j] 77)) w.heap.size (.slice al l.length cl) l := HKD.out.only (HA1.out.alloc _); have HKD5 := hid hkd5; have hmn : MeRow (w1.alloc (.cells #[.string kz.name, .string kz.super, .slice u1 kz.fields.length u2, .slice u3 kz.meths.length u4, .int .i64 j] 77)) w.heap.size (.slice u1 kz.fields.length u2) kz.fields ∧ MeRow (w1.alloc (.cells #[.string kz.name, .string kz.super, .slice u1 kz.fields.length u2, .slice u3 kz.meths.length u4, .int .i64 j] 77)) w.heap.size (.slice u3 kz.meths.length u4) kz.meths := ⟨(HU1.out.only ((Only.refl (fun _ => False) w1).alloc _) (fun _ _ h => h)).lower HON.out.size, (HU2.out.only ((Only.refl (fun _ => False) w1).alloc _) (fun _ _ h => h)).lower HON.out.size⟩; have HMN := hid hmn; clear hkd5 hmn; refine step_append_src rfl (.tmp 36) (.tmp 43) 78 rfl 77 i0 (.agg #[.string ⟨#[]⟩, .string ⟨#[]⟩, .slice none 0 0, .slice none 0 0, .int .i64 0]) 5 88 Tryz.underlying78 hi hz0 hz1 hz2 rfl (by decide) w.heap.size (.slice al l.length cl) l.length (l.flatMap cellsKd) rfl (by exact HKD5.out.row) (by have := (HON.out.trans (HA1.out.alloc (.cells #[.string kz.name, .string kz.super, .slice u1 kz.fields.length u2, .slice u3 kz.meths.length u4, .int .i64 j] 77)) (fun _ h _ => h)).size; exact this) (.slice (some ⟨w1.heap.size, 0, none⟩) 1 1) 1 (cellsKd ⟨kz, .slice u1 kz.fields.length u2, .slice u3 kz.meths.length u4⟩) rfl (by rw [← HPL.out]; exact Src.kind (w := w1) kz.name kz.super (.slice u1 kz.fields.length u2) (.slice u3 kz.meths.length u4) kz.place ⟨kz, .slice u1 kz.fields.length u2, .slice u3 kz.meths.length u4⟩ rfl rfl rfl rfl) (by unfold maxLen; omega) (by omega) ?_; intro v' w3 hown hgrow hnew; have hos := (Only.refl (fun k => (Value.slice al l.length cl).ownBlock = some k) _).grown hgrow (fun k hk _ => hk); have hkd6 := KdsIn.push HKD5.out HMN.out hos (KdRow.more hown); have HKD6 := hid hkd6; obtain ⟨an, cn, ev⟩ := hkd6.row.slice; obtain ⟨ln, hln⟩ : ∃ ln, (l ++ [(⟨kz, .slice u1 kz.fields.length u2, .slice u3 kz.meths.length u4⟩ : KdV)]).length = ln := ⟨_, rfl⟩; rw [hln] at ev; subst ev; clear hln; have ha3 := ((HA1.out.alloc (.cells #[.string kz.name, .string kz.super, .slice u1 kz.fields.length u2, .slice u3 kz.meths.length u4, .int .i64 j] 77)).mono (T := fun k => (Value.slice al l.length cl).ownBlock = some k) (fun _ h _ => h.elim)).trans hos (fun k hk _ => hk); have HA3 := hid ha3; have hpn : ¬ ((Value.slice al l.length cl).ownBlock = some pb) := obj_row HKD.out.row HPB.out (by decide); have hcn : ¬ ((Value.slice al l.length cl).ownBlock = some b) := fun e => (by have := (HKD.out.row.ge _ e).1; have := HBW.out; omega); have hpo := ha3.heap HPB.out hpn; have hk0 := cell_blk hpo 0; have fk0 := frozen_blk hpo 0; have HPO := hid hpo; have hy0 := ha3.cell y0 hcn; have hy1 := ha3.cell y1 hcn; have hy2 := ha3.cell y2 hcn; have hy3 := ha3.cell y3 hcn; have hy4 := ha3.cell y4 hcn; clear hown hgrow hnew hos hkd6 ha3 hpn hcn hpo)
    refine hK.out _ _ ?_ ?_
    ·exact fun _ => ⟨hk0, hy0, hy1, hy2, hy3, hy4⟩
    clear hK K
    try simp only [Act.put, sIB, sC0, sCS]
    refine Till.ts 13 (h := fun K hK => ?_)
    go_simp
    refine hK.out _ _ ?_ ?_
    ·exact fun _ => ⟨hk0, hy0, hy1, hy2, hy3, hy4⟩
    clear hK K
    try simp only [Act.put, sIB, sC0, sCS]
    refine Till.ts 14 (h := fun K hK => ?_)
    go_simp
    refine hK.out _ _ ?_ ?_
    ·exact fun _ => ⟨hk0, hy0, hy1, hy2, hy3, hy4⟩
    clear hK K
    try simp only [Act.put, sIB, sC0, sCS]
    refine Till.ts 15 (h := fun K hK => ?_)
    go_simp
    refine hK.out _ _ ?_ ?_
    ·exact fun h => by cases h
    clear hK K
    try simp only [Act.put, sIB, sC0, sCS]
    refine Till.done (by kernel_rfl) ?_ _
    have hp9 := heap_setCell_at (i := 0) (u := .slice an ln cn) HPO.out
    simp only [List.setIfInBounds_toArray, List.set_cons_zero, List.set_cons_succ] at hp9
    have hot := (Only.refl (fun k => k = pb) w3).setCell (p := ⟨pb, 0, none⟩) (fun _ => rfl) (.slice an ln cn)
    have hkd9 := HKD6.out.off HPO.out hot
    have hon9 := (HON.out.trans HA3.out (fun k hk hl => by have := (HKD.out.row.ge k hk).1; omega)).trans hot (fun k hk hl => by have := HPBW.out; omega)
    have HP9 := hid hp9
    have HKD9 := hid hkd9
    have HON9 := hid hon9
    have HL9 := hid (show (l ++ [(⟨kz, .slice u1 kz.fields.length u2, .slice u3 kz.meths.length u4⟩ : KdV)]).map KdV.k = kindsZ (cs.take (j + 1)) by rw [List.map_append, HLK.out, HKT.out]; rfl)
    clear hp9 hot hkd9 hon9 hk0 fk0 hy0 hy1 hy2 hy3 hy4 y0 y1 y2 y3 y4 q0 HPO HA3 HA1 HU1 HU2
    go_wp2
    go_roundw
    case rel => exact ⟨j + 1, _, _, by go_num, by omega, HE2, HP9, HKD9, HL9, HON9⟩
    case measure => simp [intOf]; omega
   ·have HE2 := hid (show errsC cs = clsZ c by rw [HST.out, if_pos hz0])
    have HB := hid (show buildZ cs = clsZ c by rw [build_err H16.out (by rw [HE2.out]; exact hz0), HE2.out])
    have HZ0 := hid hz0
    have hzb : (clsZ c != 0) = true := by simpa using hz0
    generalize clsZ c = ec at *
    clear hz0
    go_wp2_with (fail)
    refine C1.out.mono ?_
    rintro e w5 ⟨rfl, ho5⟩
    have HO5 := hid (HON.out.trans ho5 (fun _ h _ => h))
    clear ho5 y0 y1 y2 y3 y4
    go_wp2
    go_ret2
    exact ⟨HO5.out, .inl ⟨by rw [HB.out]; exact HZ0.out, by rw [HB.out]; rfl⟩⟩
  ·obtain rfl : j = cs.length := by omega
   have HE0 := hid (show errsC cs = 0 by rw [HE.out, List.drop_of_length_le (Nat.le_refl _)]; rfl)
   have HAL := hid (errsC_zero HE0.out)
   have hd : DocP wr pb (kindsZ cs) cs := ⟨vl, .slice ao cs.length cap, cell_blk HPB.out 0, cell_blk HPB.out 1, by have := HKD.out.kinds; rwa [HLK.out, List.take_length] at this, HC0.out.only HON.out⟩
   have HD := hid hd
   have HFINE := hid (fine_all HAL.out)
   have HSM := hid (fine_small HAL.out HCL.out)
   have hkl := kindsZ_len cs
   obtain ⟨wd, hwd⟩ : ∃ x, x = wr := ⟨_, rfl⟩
   subst hwd
   have HONW := hid HON.out
   have HRG := hid (fun h => once_all (cs := cs) h)
   have HEN := hid (fun h => ends_all (cs := cs) h)
   have HKL := hid hkl
   have HNO := hid (fun (h : RightK (kindsZ cs)) => h)
   have HBN := hid (fun (h : ¬ RightK (kindsZ cs)) => build_no H16.out HE0.out h)
   have HBY := hid (fun (h : RightK (kindsZ cs)) => build_yes H16.out HE0.out h)
   have hks64 : (((kindsZ cs).length : Nat) : Int) ≤ 64 := by omega
   have hks13 : 13 ≤ (kindsZ cs).length := by omega
   obtain ⟨ks, hks⟩ : ∃ ks, kindsZ cs = ks := ⟨_, rfl⟩
   rw [hks] at HD HFINE HSM HRG HEN HKL HNO HBN HBY hks64 hks13 hd hkl
   have HKS := hid hks
   clear hlt hj hd hkl HPB HKD HLK HON HE HL0 HKD0 HPB0 HON0 hks
   go_wp2
   go_loopw [7] (fun iv wr => ∃ j : Nat, iv = .int .i64 j ∧ 13 ≤ j ∧ j ≤ ks.length ∧ Hid (∀ i, 13 ≤ i → i < j → ((plainN (nums (ks.getD i default).name) = true ∧ findZ ks (ks.getD i default).name = (i : Int)) ∧ MembersOK (ks.getD i default))) ∧ Hid (Only (fun _ => False) wd wr)) (fun iv _ => ks.length - (intOf iv).toNat)
   case atStart => exact ⟨13, rfl, Nat.le_refl _, hks13, hid (fun i h1 h2 => absurd h2 (by omega)), hid (Only.refl _ _)⟩
   case round =>
    obtain ⟨j, rfl, hj13, hj, HI, HON⟩ := hrel
    have HDW := hid (HD.out.only HON.out)
    obtain ⟨vl, vi, q0, q1, hk, hc⟩ := HDW.out
    obtain ⟨ak, ck, rfl, p1, p2⟩ := hk.len
    by_cases hlt : j < ks.length
    ·have hjz : (j : Int) < (ks.length : Int) := by omega
     have hj0 : (0 : Int) ≤ (j : Int) := by omega
     obtain ⟨b, o, vf, vm, rfl, y, hmf, hmm⟩ := hk.at hlt
     have hfk := HFINE.out _ (getD_memK hlt)
     have C1 := hid (fun W => refPlainN (ks.getD j default).name W (by have := hfk.name; omega))
     have C2 := hid (refFind pb ks cs (ks.getD j default).name wr HDW.out (by omega))
     have C3 := hid (refMembers pb (ks.getD j default) vf vm wr hmf hmm (by have := hfk.fields; omega) (by have := hfk.meths; omega) (fun m hm => by have := (hfk.fnm m hm).2; omega) (fun m hm => by have := (hfk.mnm m hm).2; omega) (fun m hm => by have := (hfk.fnm m hm).1; omega) (fun m hm => by have := (hfk.mnm m hm).1; omega))
     have HRI := hid (fun (h : RightK ks) => h.own j hj13 hlt)
     obtain ⟨y0, y1, y2, y3, y4⟩ := y
     have HJL := hid hlt
     have HJ13 := hid hj13
     have HNX := hid (fun (h : (plainN (nums (ks.getD j default).name) = true ∧ findZ ks (ks.getD j default).name = (j : Int)) ∧ MembersOK (ks.getD j default)) => show ∀ i, 13 ≤ i → i < j + 1 → ((plainN (nums (ks.getD i default).name) = true ∧ findZ ks (ks.getD i default).name = (i : Int)) ∧ MembersOK (ks.getD i default)) from fun i h1 h2 => by
      by_cases e : i = j
      ·subst e; exact h
      ·exact HI.out i h1 (by omega))
     generalize findZ ks (ks.getD j default).name = fz at *
     generalize MembersOK (ks.getD j default) = mo at *
     generalize plainN (nums (ks.getD j default).name) = pn at *
     generalize ks.getD j default = kj at *
     clear hk hc q1 hmf hmm hfk
     cases pn
     ·have HZ := hid (HBN.out (fun h => by have := (HRI.out h).1.1; cases this))
      go_wp2_with (fail)
      refine (C1.out _).mono ?_
      rintro e w5 ⟨rfl, hww⟩
      subst hww
      go_wp2
      go_ret2
      exact ⟨HONW.out.trans HON.out (fun _ h _ => h), .inl ⟨by rw [HZ.out]; decide, by rw [HZ.out]; rfl⟩⟩
     ·by_cases hfz : fz = (j : Int)
      ·have hfb : (fz != (j : Int)) = false := by rw [bne_eq_false_iff_eq]; exact hfz
       have HFZ := hid hfz
       rw [hfz] at C2
       clear hfz hfb
       go_wp2_with (fail)
       refine (C1.out _).mono ?_
       rintro e w5 ⟨rfl, hww⟩
       subst hww
       go_wp2_with (fail)
       refine C2.out.mono ?_
       rintro e w6 ⟨rfl, hww⟩
       subst hww
       go_wp2_with (fail)
       refine C3.out.mono ?_
       rintro e w7 ⟨r, rfl, hr, ho7⟩
       have HON7 := hid (HON.out.trans ho7 (fun _ h _ => h))
       have HR := hid hr
       clear hr ho7
       cases r
       ·have HZ := hid (HBN.out (fun h => absurd (HR.out.2 (HRI.out h).2) (by decide)))
        clear y0 y1 y2 y3 y4
        go_wp2
        go_ret2
        exact ⟨HONW.out.trans HON7.out (fun _ h _ => h), .inl ⟨by rw [HZ.out]; decide, by rw [HZ.out]; rfl⟩⟩
       ·have HNI := hid (HNX.out ⟨⟨by first | rfl | trivial, HFZ.out⟩, HR.out.1 rfl⟩)
        clear y0 y1 y2 y3 y4
        go_wp2
        go_roundw
        case rel => exact ⟨j + 1, by go_num, by omega, by omega, HNI, HON7⟩
        case measure => simp [intOf]; omega
      ·have hfb : (fz != (j : Int)) = true := by simpa using hfz
       have HZ := hid (HBN.out (fun h => hfz (HRI.out h).1.2))
       clear hfz
       go_wp2_with (fail)
       refine (C1.out _).mono ?_
       rintro e w5 ⟨rfl, hww⟩
       subst hww
       go_wp2_with (fail)
       refine C2.out.mono ?_
       rintro e w6 ⟨rfl, hww⟩
       subst hww
       go_wp2
       go_ret2
       exact ⟨HONW.out.trans HON.out (fun _ h _ => h), .inl ⟨by rw [HZ.out]; decide, by rw [HZ.out]; rfl⟩⟩
    ·obtain rfl : j = ks.length := by omega
     have HALL0 := hid HI.out
     have HOW0 := hid HON.out
     clear hlt hj HI HON
     clear hk hc q1
     go_wp2
     clear q0 p1 p2 HDW
     obtain ⟨we1, hwe1⟩ : ∃ x, x = wr := ⟨_, rfl⟩
     subst hwe1
     go_loopw [8] (fun iv wr => ∃ j : Nat, iv = .int .i64 j ∧ 13 ≤ j ∧ j ≤ ks.length ∧ Hid (∀ i, 13 ≤ i → i < j → topsZ ks i = true) ∧ Hid (Only (fun _ => False) wd wr)) (fun iv _ => ks.length - (intOf iv).toNat)
     case atStart => exact ⟨13, rfl, Nat.le_refl _, hks13, hid (fun i h1 h2 => absurd h2 (by omega)), HOW0⟩
     case round =>
      obtain ⟨j, rfl, hj13, hj, HI, HON⟩ := hrel
      have HDW := hid (HD.out.only HON.out)
      obtain ⟨vl, vi, q0, q1, hk, hc⟩ := HDW.out
      obtain ⟨ak, ck, rfl, p1, p2⟩ := hk.len
      by_cases hlt : j < ks.length
      ·have hjz : (j : Int) < (ks.length : Int) := by omega
       have hj0 : (0 : Int) ≤ (j : Int) := by omega
       have C1 := hid (refTops pb ks cs (j : Int) wr HDW.out (by omega))
       have HRI := hid (fun (h : RightK ks) => h.tops j hj13 hlt)
       have HNX := hid (fun (h : topsZ ks j = true) => show ∀ i, 13 ≤ i → i < j + 1 → topsZ ks i = true from fun i h1 h2 => by
        by_cases e : i = j
        ·subst e; exact h
        ·exact HI.out i h1 (by omega))
       generalize topsZ ks j = tz at *
       clear hk hc q1
       cases tz
       ·have HZ := hid (HBN.out (fun h => by have := HRI.out h; cases this))
        go_wp2_with (fail)
        refine C1.out.mono ?_
        rintro e w5 ⟨rfl, hww⟩
        subst hww
        go_wp2
        go_ret2
        exact ⟨HONW.out.trans HON.out (fun _ h _ => h), .inl ⟨by rw [HZ.out]; decide, by rw [HZ.out]; rfl⟩⟩
       ·have HNI := hid (HNX.out rfl)
        go_wp2_with (fail)
        refine C1.out.mono ?_
        rintro e w5 ⟨rfl, hww⟩
        subst hww
        clear q0
        go_wp2
        go_roundw
        case rel => exact ⟨j + 1, by go_num, by omega, by omega, HNI, HON⟩
        case measure => simp [intOf]; omega
      ·obtain rfl : j = ks.length := by omega
       have HALL1 := hid HI.out
       have HOW1 := hid HON.out
       clear hlt hj HI HON
       clear hk hc q1
       go_wp2
       clear q0 p1 p2 HDW
       obtain ⟨we2, hwe2⟩ : ∃ x, x = wr := ⟨_, rfl⟩
       subst hwe2
       go_loopw [9] (fun iv wr => ∃ j : Nat, iv = .int .i64 j ∧ 13 ≤ j ∧ j ≤ ks.length ∧ Hid (∀ i, 13 ≤ i → i < j → keepsZ ks i = true) ∧ Hid (Only (fun _ => False) wd wr)) (fun iv _ => ks.length - (intOf iv).toNat)
       case atStart => exact ⟨13, rfl, Nat.le_refl _, hks13, hid (fun i h1 h2 => absurd h2 (by omega)), HOW1⟩
       case round =>
        obtain ⟨j, rfl, hj13, hj, HI, HON⟩ := hrel
        have HDW := hid (HD.out.only HON.out)
        obtain ⟨vl, vi, q0, q1, hk, hc⟩ := HDW.out
        obtain ⟨ak, ck, rfl, p1, p2⟩ := hk.len
        by_cases hlt : j < ks.length
        ·have hjz : (j : Int) < (ks.length : Int) := by omega
         have hj0 : (0 : Int) ≤ (j : Int) := by omega
         have C1 := hid (refKeeps pb ks cs j wr HDW.out HSM.out (HEN.out (fun i h1 h2 => HALL1.out i h1 h2)) hlt)
         have HRI := hid (fun (h : RightK ks) => h.keeps j hj13 hlt)
         have HNX := hid (fun (h : keepsZ ks j = true) => show ∀ i, 13 ≤ i → i < j + 1 → keepsZ ks i = true from fun i h1 h2 => by
          by_cases e : i = j
          ·subst e; exact h
          ·exact HI.out i h1 (by omega))
         generalize keepsZ ks j = tz at *
         clear hk hc q1
         cases tz
         ·have HZ := hid (HBN.out (fun h => by have := HRI.out h; cases this))
          go_wp2_with (fail)
          refine C1.out.mono ?_
          rintro e w5 ⟨rfl, hww⟩
          have HON5 := hid (HON.out.trans hww (fun _ h _ => h))
          go_wp2
          go_ret2
          exact ⟨HONW.out.trans HON5.out (fun _ h _ => h), .inl ⟨by rw [HZ.out]; decide, by rw [HZ.out]; rfl⟩⟩
         ·have HNI := hid (HNX.out rfl)
          go_wp2_with (fail)
          refine C1.out.mono ?_
          rintro e w5 ⟨rfl, hww⟩
          have HON5 := hid (HON.out.trans hww (fun _ h _ => h))
          clear q0
          go_wp2
          go_roundw
          case rel => exact ⟨j + 1, by go_num, by omega, by omega, HNI, HON5⟩
          case measure => simp [intOf]; omega
        ·obtain rfl : j = ks.length := by omega
         have HALL2 := hid HI.out
         have HOW2 := hid HON.out
         clear hlt hj HI HON
         clear hk hc q1
         clear HDW
         obtain ⟨wz, hwz⟩ : ∃ x, x = wr := ⟨_, rfl⟩
         subst hwz
         by_cases hn : cs.length = 0
         ·have HZ := hid (HBN.out (fun h => by have := h.main.1; have := HKL.out; omega))
          have hnz : ((cs.length : Nat) : Int) = 0 := by omega
          have hnb : (((cs.length : Nat) : Int) == 0) = true := by rw [beq_iff_eq]; exact hnz
          clear hn
          go_wp2
          go_ret2
          exact ⟨HONW.out.trans HOW2.out (fun _ h _ => h), .inl ⟨by rw [HZ.out]; decide, by rw [HZ.out]; rfl⟩⟩
         clear q0 p1 p2
         have hnb : (((cs.length : Nat) : Int) == 0) = false := by rw [beq_eq_false_iff_ne]; omega
         have h13 : 13 < ks.length := by have := HKL.out; omega
         have h13z : (13 : Int) < (ks.length : Int) := by omega
         have HDW := hid (HD.out.only HOW2.out)
         obtain ⟨vl, vi, q0, q1, hk, hc⟩ := HDW.out
         obtain ⟨ak, ck, rfl, p1, p2⟩ := hk.len
         obtain ⟨b, o, vf, vm, rfl, y, hmf, hmm⟩ := hk.at h13
         have hfk := HFINE.out _ (getD_memK h13)
         obtain ⟨am, cm, rfl, m1, m2, m3, -⟩ := id hmm
         have C1 := hid (refHas (.slice am (ks.getD 13 default).meths.length cm) (ks.getD 13 default).meths mainB voidB wz hmm (by have := hfk.meths; omega))
         have hcz2 := hasZ_cases (ks.getD 13 default).meths mainB voidB
         have HRI := hid (fun (h : RightK ks) => h.main.2)
         have HRY := hid (fun h => (⟨fun i h1 h2 => HALL0.out i h1 h2, fun i h1 h2 => HALL1.out i h1 h2, fun i h1 h2 => HALL2.out i h1 h2, ⟨h13, h⟩⟩ : RightK ks))
         have y3 := y.c3
         have HMM := hid hmm
         obtain ⟨ms, hms⟩ : ∃ ms, (ks.getD 13 default).meths = ms := ⟨_, rfl⟩
         rw [hms] at C1 hcz2 HRI HRY HMM m1 y3
         obtain ⟨hz, hhz⟩ : ∃ x, hasZ ms mainB voidB = x := ⟨_, rfl⟩
         rw [hhz] at C1 hcz2 HRI HRY
         have hmlz : ((ms.length : Nat) : Int) ≤ 64 := by have := hfk.meths; rw [hms] at this; omega
         unfold mainB voidB at C1
         clear hn hk hc q1 hmf hmm hfk y hms hhz m3
         rcases hcz2 with rfl | ⟨p, hp, rfl⟩
         ·have HZ := hid (HBN.out (fun h => (HRI.out h).1 (by decide)))
          go_wp2_with (fail)
          refine C1.out.mono ?_
          rintro e w5 ⟨rfl, hww⟩
          subst hww
          go_wp2
          go_ret2
          exact ⟨HONW.out.trans HOW2.out (fun _ h _ => h), .inl ⟨by rw [HZ.out]; decide, by rw [HZ.out]; rfl⟩⟩
         ·have hpz : (p : Int) < (ms.length : Int) := by omega
          have hp0 : (0 : Int) ≤ (p : Int) := by omega
          have hpn : ¬ (p : Int) < 0 := by omega
          obtain ⟨b9, o9, rfl, t0, t1, t2⟩ := Sl.at HMM.out hp
          rw [Int.toNat_natCast] at HRI HRY
          obtain ⟨fg, hfg⟩ : ∃ x, (ms.getD p default).flags = x := ⟨_, rfl⟩
          rw [hfg] at HRI HRY t2
          clear hfg t0 t1
          by_cases hf8 : fg = 8
          ·have hfb : (fg != 8) = false := by rw [bne_eq_false_iff_eq]; exact hf8
           have HZ := hid (HBY.out (HRY.out ⟨hpn, hf8⟩))
           clear hf8
           go_wp2_with (fail)
           refine C1.out.mono ?_
           rintro e w5 ⟨rfl, hww⟩
           subst hww
           go_wp2
           go_ret2
           exact ⟨HONW.out.trans HOW2.out (fun _ h _ => h), .inr ⟨HZ.out, pb, rfl, by rw [HKS.out]; exact HDW.out⟩⟩
          ·have hfb : (fg != 8) = true := by simpa using hf8
           have HZ := hid (HBN.out (fun h => hf8 (HRI.out h).2))
           clear hf8
           go_wp2_with (fail)
           refine C1.out.mono ?_
           rintro e w5 ⟨rfl, hww⟩
           subst hww
           go_wp2
           go_ret2
           exact ⟨HONW.out.trans HOW2.out (fun _ h _ => h), .inl ⟨by rw [HZ.out]; decide, by rw [HZ.out]; rfl⟩⟩
theorem awake11 (w : World) : Calls Tryz.prog 15 #[] w fun e w' => e = .returned (.bool true) ∧ Only (fun _ => False) w w' := by
 have C := hid (zAt (unmade_nil w) 0 0)
 go_enter Tryz.func15, Tryz.ntmps15
 go_wp2_with (fail)
 refine C.out.mono ?_
 rintro e w1 ⟨rfl, ho⟩
 have HO := hid ho
 clear ho
 go_wp2
 go_ret
 exact ⟨rfl, HO.out⟩
structure Both (w : World) (cs : List ClassV) (n i : Int) (xb yb pb qb : Nat) (fv : Nat → Value) (cl : Nat → ClassV) (x : List TypeV × TypeV × Int) : Prop where
 few : cs.length ≤ 16
 ok : ∀ c ∈ cs, clsZ c = 0
 right : RightK (kindsZ cs)
 inl : inList (kindsZ cs) n i
 made : MadeP fv w pb cs cl
 doc : DocP w qb (kindsZ cs) cs
 place : PlaceP w xb pb (kindsZ cs) (plZ (kindsZ cs) n.toNat (cs.getD (n.toNat - 13) default) ((cs.getD (n.toNat - 13) default).methods.getD i.toNat default) (((kindsZ cs).getD n.toNat default).meths.getD i.toNat default).name x)
 rplace : RPlaceP w yb qb (kindsZ cs) (rplZ n.toNat (cs.getD (n.toNat - 13) default) ((cs.getD (n.toNat - 13) default).methods.getD i.toNat default) (((kindsZ cs).getD n.toNat default).meths.getD i.toNat default).name x)
theorem Both.only {w w' : World} {cs : List ClassV} {n i : Int} {xb yb pb qb : Nat} {fv : Nat → Value} {cl : Nat → ClassV} {x : List TypeV × TypeV × Int} (h : Both w cs n i xb yb pb qb fv cl x) (ho : Only (fun _ => False) w w') : Both w' cs n i xb yb pb qb fv cl x :=
 ⟨h.few, h.ok, h.right, h.inl, h.made.only ho, h.doc.only ho, h.place.only ho, h.rplace.only ho⟩
def PlTo (w : World) (cs : List ClassV) (n i : Int) (e : Ending) (w' : World) : Prop :=
 Only (fun _ => False) w w' ∧ (e = .returned (.tuple #[.pointer none, .pointer none, .bool true]) ∨
  ∃ xb yb pb qb fv cl x, e = .returned (.tuple #[.pointer (some ⟨xb, 0, none⟩), .pointer (some ⟨yb, 0, none⟩), .bool true]) ∧ Both w' cs n i xb yb pb qb fv cl x)
set_option maxRecDepth 100000 in
theorem pPlaces (v : Value) (cs : List ClassV) (n i : Int) (w : World) (hc : Classes w v cs) (ht : ∀ c ∈ cs, Texts c.pool) (hT : Tabs w) (hE : ErrV w) :
  Calls Tryz.prog 5 #[v, .int .i64 n, .int .i64 i] w (PlTo w cs n i) := by
 have CB := hid (pBuild v cs w hc hT hE)
 have CR := hid (fun W (hW : Only (fun _ => False) w W) => refBuild v cs W (hc.only hW) ht)
 have CA := hid awake11
 clear hc hT hE ht
 go_enter Tryz.func5, Tryz.ntmps5
 go_wp2_with (fail)
 refine CB.out.mono ?_
 rintro e w1 ⟨ho1, hcase⟩
 have HO1 := hid ho1
 clear CB
 rcases hcase with ⟨hz, rfl⟩ | ⟨hz, pb, fv, cl, rfl, hm⟩
 ·have HZ := hid hz
  clear hz
  go_wp2_with (fail)
  refine (CR.out _ ho1).mono ?_
  rintro e w2 ⟨ho2, hcase⟩
  clear ho1
  rcases hcase with ⟨_, rfl⟩ | ⟨hz2, _⟩
  ·have HO2 := hid (HO1.out.trans ho2 (fun _ h _ => h))
   have hbz : (buildZ cs != buildZ cs) = false := by simp
   generalize buildZ cs = bz at *
   clear ho2
   go_wp2_with (fail)
   refine (CA.out _).mono ?_
   rintro e w3 ⟨rfl, ho3⟩
   have HO3 := hid (HO2.out.trans ho3 (fun _ h _ => h))
   clear ho3
   go_wp2
   go_ret3
   exact ⟨HO3.out, .inl rfl⟩
  ·exact absurd hz2 HZ.out
 ·obtain ⟨hl16, h0, hR⟩ := build_zero hz
  have HM := hid hm
  have HZ := hid hz
  clear hm hz
  go_wp2_with (fail)
  refine (CR.out _ ho1).mono ?_
  rintro e w2 ⟨ho2, hcase⟩
  clear ho1
  rcases hcase with ⟨hz2, _⟩ | ⟨_, qb, rfl, hd⟩
  ·exact absurd HZ.out hz2
  have HO2 := hid (HO1.out.trans ho2 (fun _ h _ => h))
  have HM2 := hid (HM.out.only ho2)
  have HD2 := hid hd
  have CX := hid (pAt HM2.out h0 hl16 n i)
  have CY := hid (fun W (hW : Only (fun _ => False) w2 W) => rAt (hd.only hW) h0 hl16 n i)
  have HF := hid hl16
  have H0 := hid h0
  have HR := hid hR
  clear ho2 hd hR CR HM HZ h0 hl16
  go_wp2_with (fail)
  refine CX.out.mono ?_
  rintro e w3 ⟨ho3, hcx⟩
  have HO3 := hid ho3
  rcases hcx with ⟨hno, rfl⟩ | ⟨hin, xb, x, rfl, hx, hpl⟩
  ·have HNO := hid hno
   clear hno
   go_wp2_with (fail)
   refine (CY.out _ ho3).mono ?_
   rintro e w4 ⟨ho4, hcy⟩
   clear ho3
   rcases hcy with ⟨_, rfl⟩ | ⟨hin, _⟩
   ·have HO4 := hid (HO2.out.trans (HO3.out.trans ho4 (fun _ h _ => h)) (fun _ h _ => h))
    clear ho4
    go_wp2
    go_ret3
    exact ⟨HO4.out, .inl rfl⟩
   ·exact absurd hin HNO.out
  ·have HIN := hid hin
   have HX := hid hx
   have HPL := hid hpl
   clear hin hx hpl
   go_wp2_with (fail)
   refine (CY.out _ ho3).mono ?_
   rintro e w4 ⟨ho4, hcy⟩
   clear ho3
   rcases hcy with ⟨hno, _⟩ | ⟨_, yb, x', rfl, hx', hrp⟩
   ·exact absurd HIN.out hno
   ·obtain rfl := hx'.unique HX.out
    have HO4 := hid (HO2.out.trans (HO3.out.trans ho4 (fun _ h _ => h)) (fun _ h _ => h))
    have HB := hid (show Both w4 cs n i xb yb pb qb fv cl x' from ⟨HF.out, H0.out, HR.out, HIN.out, HM2.out.only (HO3.out.trans ho4 (fun _ h _ => h)), HD2.out.only (HO3.out.trans ho4 (fun _ h _ => h)), HPL.out.only ho4, hrp⟩)
    clear ho4 hx' hrp
    go_wp2
    go_ret3
    exact ⟨HO4.out, .inr ⟨xb, yb, pb, qb, fv, cl, x', rfl, HB.out⟩⟩
theorem neq_type11 (k : TypeV) (w : World) : (binOp .neq 33 (.agg #[.int .i64 k.k, .string k.name, .int .i64 k.dims, .int .i64 k.elem, .int .i64 k.at_]) (.agg #[.int .i64 k.k, .string k.name, .int .i64 k.dims, .int .i64 k.elem, .int .i64 k.at_])).run Tryz.prog w = .ok (.bool false) w := by
 have h := eql_type k k w
 rw [eqT_self] at h
 unfold valT at h
 rw [run_eql_struct] at h
 rw [run_neq_struct]
 generalize (Op.equalIn 10000 33 _ _).run Tryz.prog w = r at *
 cases r with
 | ok b w' =>
  simp only [Result.andThen, Result.ok.injEq, Value.bool.injEq] at h ⊢
  rw [h.1, h.2]
  exact ⟨rfl, rfl⟩
 | halt x w' => simp [Result.andThen] at h
set_option maxRecDepth 100000 in
theorem sameTy11 (v1 v2 : Value) (l : List TypeV) (w : World) (h1 : Types w v1 l) (h2 : Types w v2 l) (hn : l.length ≤ 9223372036854775806) :
  Calls Tryz.prog 27 #[v1, v2] w fun e w' => e = .returned (.bool true) ∧ Only (fun _ => False) w w' := by
 obtain ⟨a1, c1, rfl, p1, p2, p3, _⟩ := id h1
 obtain ⟨a2, c2, rfl, s1, s2, s3, _⟩ := id h2
 have H1 := hid h1
 have H2 := hid h2
 clear h1 h2 p3 s3
 go_enter Tryz.func27, Tryz.ntmps27
 go_wp2
 go_loopw [5] (fun i wr => ∃ j : Nat, i = .int .i64 j ∧ j ≤ l.length ∧ Only (fun _ => False) w wr) (fun i _ => l.length - (intOf i).toNat)
 case atStart => exact ⟨0, rfl, Nat.zero_le _, Only.refl _ _⟩
 case round =>
  obtain ⟨j, rfl, hj, hon⟩ := hrel
  have HON := hid hon
  by_cases hlt : j < l.length
  ·obtain ⟨b, o, rfl, x⟩ := Sl.at (H1.out.only hon) hlt
   obtain ⟨b2, o2, rfl, y⟩ := Sl.at (H2.out.only hon) hlt
   have hjz : (j : Int) < (l.length : Int) := by omega
   obtain ⟨x0, x1, x2, x3, x4⟩ := x
   obtain ⟨y0, y1, y2, y3, y4⟩ := y
   have n1 := neq_type11 (l.getD j default)
   have g1 := guard_type
   generalize l.getD j default = k at *
   clear hon
   go_wp2
   go_quiet (fail)
   go_wp2
   go_roundw
   case rel => exact ⟨j + 1, by go_num, by omega, HON.out.drewN _⟩
   case measure => simp [intOf]; omega
  ·obtain rfl : j = l.length := by omega
   clear hlt hj hon
   go_wp2
   go_ret
   exact ⟨rfl, HON.out⟩
theorem tops_mem {ks : List KindV} (he : EndsAll ks) : ∀ (f : Nat) (x : Nat), x < ks.length → topsF ks f (x : Int) = true → 0 ∈ upZ ks (x : Int)
 | 0, x, _, h => by cases h
 | f + 1, x, hx, h => by
  rw [upZ_step he hx]
  by_cases h0 : x = 0
  ·subst h0; exact List.mem_cons_self ..
  rw [topsF, if_neg (by omega)] at h
  rcases superZ_cases ks (x : Int) with e | ⟨i, hi, e⟩
  ·rw [e, if_pos (by decide)] at h; cases h
  ·rw [e] at h ⊢
   rw [if_neg (by omega)] at h
   split at h
   ·cases h
   ·exact List.mem_cons_of_mem _ (tops_mem he f i hi h)
theorem below_up {ks : List KindV} (he : EndsAll ks) (hon : NamesOnce ks) (hroot : findZ ks (ks.getD 0 default).super = -1) {b : Nat} (hb : b < ks.length) : ∀ (n a : Nat), a < ks.length → (upZ ks (a : Int)).length ≤ n + 1 → (belowN (treeZ ks) (ks.getD b default).name n (ks.getD a default).name = true ↔ b ∈ upZ ks (a : Int))
 | n, a, ha, hn => by
  have hst := upZ_step he ha
  have hpa : pairOf (treeZ ks) (ks.getD a default).name = (a : Int) := hon a ha
  have hpb : findZ ks (ks.getD b default).name = (b : Int) := hon b hb
  rw [hst] at hn ⊢
  by_cases hab : a = b
  ·subst hab
   rw [belowN_same]
   simp
  have hne : (ks.getD a default).name ≠ (ks.getD b default).name := fun e => by
   have h1 := hon a ha
   rw [e, hpb] at h1
   omega
  have hsu : superZ ks (a : Int) = findZ ks (ks.getD a default).super := by
   by_cases h0 : a = 0
   ·subst h0; rw [hroot]; exact super_zero ks
   ·exact super_list (by omega) ha
  have hmem : b ∈ a :: upZ ks (superZ ks (a : Int)) ↔ b ∈ upZ ks (superZ ks (a : Int)) := by
   rw [List.mem_cons]
   exact ⟨fun h => h.resolve_left (fun e => hab e.symm), .inr⟩
  rw [hmem]
  rcases findZ_cases ks (ks.getD a default).super with e | ⟨i, hi, e⟩
  ·rw [hsu, e, upZ_end (by decide)]
   have hso : (ks.getD a default).super ≠ (ks.getD b default).name := fun h => by rw [h, hpb] at e; omega
   cases n with
   | zero => rw [belowN_last hne]; simp
   | succ n =>
    rw [belowN_step hne hpa, treeZ_at ha, show (PairV.super ⟨(ks.getD a default).name, (ks.getD a default).super⟩) = (ks.getD a default).super from rfl, belowN_none hso e]
    simp
  ·have hh := find_hit e
   rw [hsu, e] at hn ⊢
   cases n with
   | zero =>
    rw [upZ_step he hi] at hn
    simp at hn
   | succ n =>
    rw [belowN_step hne hpa, treeZ_at ha, show (PairV.super ⟨(ks.getD a default).name, (ks.getD a default).super⟩) = (ks.getD a default).super from rfl, ← hh.2]
    exact below_up he hon hroot hb n i hi (by simpa using hn)
theorem types_take {w : World} {a : Option Addr} {cap : Nat} {l r : List TypeV} (h : Types w (.slice a (l ++ r).length cap) (l ++ r)) : Types w (.slice a l.length cap) l := by
 obtain ⟨a', cap', e, h1, h2, h3, h4⟩ := h
 injection e with e1 _ e3
 subst e1 e3
 rw [List.length_append] at h1 h4
 refine ⟨a, cap, rfl, by omega, h2, h3, fun x hx h0 => ?_⟩
 obtain ⟨b, o, hb, h5⟩ := h4 x hx (by omega)
 refine ⟨b, o, hb, fun i hi => ?_⟩
 have : TypeAt w b o i ((l ++ r).getD i default) := h5 i (by omega)
 rw [show (l ++ r).getD i default = l.getD i default by simp [List.getD, List.getElem?_append_left hi]] at this
 exact this
end Go.Proofs.YtinbelghhfodiaaGreatDoor

namespace Go.Proofs.YtinbelghhfodiaaGreatDoor
set_option maxHeartbeats 16000000
open Lib (hid)
open Go.RowKit
set_option linter.unusedVariables false
set_option linter.unusedSimpArgs false
def slLen : Value → Nat
 | .slice _ n _ => n
 | _ => 0
theorem TRow.join11 {w3 : World} {B : Nat} {v' : Value} {l m : List TypeV} (hown : w3.ownsRow B 33 5 v' (l.length + m.length) (l.flatMap cellsTy ++ m.flatMap cellsTy)) : TRow w3 B v' (l ++ m) := by
 unfold TRow
 rw [List.length_append, List.flatMap_append]
 exact hown
theorem pad_take {bs : List TypeV} {k L : Nat} (hk : k ≤ L - bs.length) (hL : L ≤ (bs ++ List.replicate k zeroT).length) : (bs ++ List.replicate k zeroT).take L = bs.take L ++ List.replicate (L - bs.length) zeroT := by
 rw [List.length_append, List.length_replicate] at hL
 rw [List.take_append, List.take_replicate, Nat.min_eq_left (by omega)]
section
variable {w : World} {yb qb : Nat} {ks : List KindV} {cs : List ClassV} {p : RPlcV} (h : RPlaceP w yb qb ks p) (hd : DocP w qb ks cs)
include h hd
set_option maxRecDepth 100000 in
theorem rFirst11 (nm : ByteArray) (hnm0 : (ks.getD p.n default).name = nm) (L : Nat) (hLz : p.m.locals = (L : Int)) : Calls Tryz.prog 12 #[.pointer (some ⟨yb, 0, none⟩)] w fun e w' => ∃ v, e = .returned (valFr v (.slice none 0 0) p.fr) ∧ Types w' v (firstZ p.m.flags nm p.fr p.ps L) ∧ Only (fun _ => False) w w' := by
 obtain ⟨i0, hi, hz0, hz1, hz2⟩ := info_parts info_type
 have ho := (Only.refl (fun _ => False) w).alloc (.cells #[.slice none 0 0, .slice none 0 0, .bool false] 25)
 have hr := heap_alloc_new w (.cells #[.slice none 0 0, .slice none 0 0, .bool false] 25)
 obtain ⟨W0, hW0⟩ : ∃ W0, w.alloc (.cells #[.slice none 0 0, .slice none 0 0, .bool false] 25) = W0 := ⟨_, rfl⟩
 have hs0 : W0.heap.size = w.heap.size + 1 := by rw [← hW0]; simp
 rw [hW0] at ho hr
 obtain ⟨vc, vt, vm, pv, tv, sv, h1, -, -, h4, h16, hlo0, hlo, -, hnn⟩ := h.only ho
 obtain ⟨at_, ct, rfl, -⟩ := id h4
 obtain ⟨vl, vi, l0, l1, hK, -⟩ := hd.only ho
 obtain ⟨aL, kL, rfl, -, -⟩ := hK.len
 obtain ⟨bL, oL, vf, vmm, rfl, hka, -, -⟩ := hK.at hnn
 have l2 := hka.c0
 rw [hnm0] at l2
 have u0 := cell_blk h1 0
 have u1 := cell_blk h1 1
 have u2 := cell_blk h1 2
 have u10 := cell_blk h1 10
 simp only [List.getElem?_toArray, List.getElem?_cons_zero, List.getElem?_cons_succ] at u0 u1 u2 u10
 have HY := hid h1
 have HTS := hid h4
 have HLZ := hid hLz
 have HR0 := hid hr
 have HO := hid ho
 have HW0 := hid hW0
 have HS := hid hs0
 have hL64 : L ≤ 64 := by omega
 have hnz : (p.n : Int) < (ks.length : Int) := by omega
 have hn0 : (0 : Int) ≤ (p.n : Int) := by omega
 obtain ⟨bs, hbs⟩ : ∃ x, baseT p.m.flags nm p.fr p.ps = x := ⟨_, rfl⟩
 have hb17 : bs.length ≤ 17 := by rw [← hbs]; unfold baseT; rw [List.length_append]; split <;> simp <;> omega
 have HFZ := hid (show firstZ p.m.flags nm p.fr p.ps L = bs.take L ++ List.replicate (L - bs.length) zeroT by rw [← hbs]; rfl)
 have hbz : bs = (if p.m.flags = 8 then [] else [thisT nm p.fr]) ++ p.ps := hbs.symm
 clear h hd h1 h4 hK hka ho hr hW0 hs0 hlo0 hlo hnn hbs hLz l1
 go_enter Tryz.func12, Tryz.ntmps12
 go_upto_region 2 with fail
 rw [HW0.out]
 by_cases h8 : p.m.flags = 8
 ·rw [if_pos h8, List.nil_append] at hbz
  have HBZ := hid (show bs = [] ++ p.ps by rw [hbz]; rfl)
  have hfb : (p.m.flags != 8) = false := by rw [bne_eq_false_iff_eq]; exact h8
  have HON4 := hid (Only.refl (fun _ => False) W0)
  have HGE4 := hid (show ∀ k, (Value.slice none 0 0).ownBlock = some k → W0.heap.size ≤ k ∧ k < W0.heap.size from fun k hk => (by cases hk))
  clear hbz h8 u0 u1 u10 l0 l2
  have HSRC := hid (Src.of_types (HTS.out.only HON4.out))
  have HSZ4 := hid (show W0.heap.size ≤ W0.heap.size from HON4.out.size)
  have z13 := cell_blk (HON4.out.heap HY.out (fun h => h)) 13
  simp only [List.getElem?_toArray, List.getElem?_cons_zero, List.getElem?_cons_succ] at z13
  go_upto_region 7 with (at_builtin; go_loud (refine wpList_append_src rfl (.tmp 36) (.tmp 40) 23 rfl 33 i0 (.agg #[.int .i64 0, .string ⟨#[]⟩, .int .i64 0, .int .i64 0, .int .i64 0]) 5 48 Tryz.underlying23 hi hz0 hz1 hz2 rfl (by decide) W0.heap.size (.slice none 0 0) 0 (([] : List TypeV).flatMap cellsTy) rfl (by exact (World.ownsRow_nil _ _ _ _)) (by exact HSZ4.out) (.slice at_ p.ps.length ct) p.ps.length (p.ps.flatMap cellsTy) rfl (by exact HSRC.out) (by unfold maxLen; omega) (by omega) ?_); intro v5 w5 hown hgrow hnew; have HROW : Hid (TRow w5 W0.heap.size v5 bs) := hid (by rw [HBZ.out]; exact TRow.join11 (by simpa using hown)); have HON := hid (HON4.out.trans ((Only.refl (fun k => ((.slice none 0 0) : Value).ownBlock = some k) W0).grown hgrow (fun k hk _ => hk)) (fun k hk hl => by cases hk)); clear hown hgrow hnew)
  obtain ⟨a5, c5, rfl, p1, p2⟩ := slice_of_owns HROW.out
  go_loopw [3] (fun v wr => ∃ (a : Option Addr) (c k m : Nat), v = .slice a m c ∧ m = bs.length + k ∧ k ≤ L - bs.length ∧ Hid (TRow wr W0.heap.size (.slice a m c) (bs ++ List.replicate k zeroT)) ∧ Hid (Only (fun _ => False) W0 wr)) (fun v _ => L - slLen v)
  case atStart => exact ⟨a5, c5, 0, bs.length, rfl, rfl, Nat.zero_le _, by rw [List.replicate_zero, List.append_nil]; exact HROW, HON⟩
  case round =>
   obtain ⟨a, c, k, m, rfl, hm, hk, HR, HO1⟩ := hrel
   have z6 := cell_blk (HO1.out.heap HY.out (fun h => h)) 6
   have z10 := cell_blk (HO1.out.heap HY.out (fun h => h)) 10
   simp only [List.getElem?_toArray, List.getElem?_cons_zero, List.getElem?_cons_succ] at z6 z10
   rw [HLZ.out] at z6
   have hmz : (m : Int) = (bs.length : Int) + (k : Int) := by omega
   have HM := hid hm
   have HB17 := hid hb17
   by_cases hlt : m < L
   ·have hlz : (m : Int) < (L : Int) := by omega
    have HSR := hid (Src.type (w := wr) zeroT rfl)
    have HR1 := hid (HR.out.only ((Only.refl (fun _ => False) wr).alloc (.cells #[.int .i64 0, .string ⟨#[]⟩, .int .i64 0, .int .i64 0, .int .i64 0] 33)) (fun _ _ h => h))
    have HSZ5 := hid (show W0.heap.size ≤ (wr.alloc (.cells #[.int .i64 0, .string ⟨#[]⟩, .int .i64 0, .int .i64 0, .int .i64 0] 33)).heap.size from (HO1.out.alloc _).size)
    have HGE5 := hid HR1.out.ge
    clear hm hmz z10
    have hm17 : m ≤ 4096 := by omega
    go_wp2_with (at_builtin; go_loud (refine wpList_append_src rfl (.tmp 50) (.tmp 52) 23 rfl 33 i0 (.agg #[.int .i64 0, .string ⟨#[]⟩, .int .i64 0, .int .i64 0, .int .i64 0]) 5 48 Tryz.underlying23 hi hz0 hz1 hz2 rfl (by decide) W0.heap.size (.slice a m c) m ((bs ++ List.replicate k zeroT).flatMap cellsTy) rfl (by have h1 := HR1.out; unfold TRow at h1; rw [List.length_append, List.length_replicate, ← HM.out] at h1; exact h1) (by exact HSZ5.out) (.slice (some ⟨wr.heap.size, 0, none⟩) 1 1) 1 (cellsTy zeroT) rfl (by exact HSR.out) (by unfold maxLen; omega) (by omega) ?_); intro v6 w6 hown hgrow hnew; have HR6 : Hid (TRow w6 W0.heap.size v6 (bs ++ List.replicate (k + 1) zeroT)) := hid (by rw [List.replicate_succ', ← List.append_assoc]; exact TRow.join11 (m := [zeroT]) (by have h1 := HM.out; simp only [List.length_append, List.length_replicate, List.flatMap_cons, List.flatMap_nil, List.append_nil, List.length_singleton]; rw [← h1]; exact hown)); have HO6 := hid ((HO1.out.alloc (.cells #[.int .i64 0, .string ⟨#[]⟩, .int .i64 0, .int .i64 0, .int .i64 0] 33)).trans ((Only.refl (fun j => (Value.slice a m c).ownBlock = some j) _).grown hgrow (fun j hj _ => hj)) (fun j hj hl => by have := (HGE5.out j hj).1; omega)); obtain ⟨a6, c6, e6, -⟩ := slice_of_owns HR6.out; rw [List.length_append, List.length_replicate] at e6; clear hown hgrow hnew)
    go_roundw
    case rel => exact ⟨a6, c6, k + 1, bs.length + (k + 1), rfl, rfl, by have := HM.out; omega, by have h6 := HR6.out; rw [e6] at h6; exact hid h6, HO6⟩
    case measure => have := HM.out; show _ - _ < _ - _; simp only [slLen]; omega
   ·have hL := hid (pad_take hk (by rw [List.length_append, List.length_replicate]; omega))
    have hlz : ¬ (m : Int) < (L : Int) := by omega
    have HTY := hid HR.out.types
    obtain ⟨a', c', e', g1, g2, g3, g4⟩ := id HR.out.types
    injection e' with e1 e2 e3
    subst e1 e3
    have hLc : (L : Int) ≤ (c : Int) := by omega
    have hL0 : (0 : Int) ≤ (L : Int) := by omega
    obtain ⟨t0, t1, t2⟩ := cells3 (HO1.out.heap HR0.out (fun h => h))
    obtain ⟨f0, f1, f2⟩ := marks3 (HO1.out.heap HR0.out (fun h => h))
    have HRW := hid (HO1.out.heap HR0.out (fun h => h))
    have HPF : Hid (∀ W, TRow W W0.heap.size (.slice a m c) (bs ++ List.replicate k zeroT) → Types W (.slice a L c) (firstZ p.m.flags nm p.fr p.ps L)) := hid (fun W hW => by
     have h := hW.types
     rw [e2, ← List.take_append_drop L (bs ++ List.replicate k zeroT)] at h
     have h2 := types_take h
     rw [List.length_take, Nat.min_eq_left (by rw [← e2]; omega), hL.out, ← HFZ.out] at h2
     exact h2)
    clear g1 g2 g3 g4 hk hm hmz e2 hlt
    have hSd : wr.drew.cell? ⟨yb, 6, none⟩ = some (.int .i64 (L : Int)) ∧ wr.drew.cell? ⟨yb, 10, none⟩ = some (.bool p.fr) := ⟨z6, z10⟩
    go_upto_region 9 with fail
    refine wp_till 12 (fun W => W.cell? ⟨yb, 6, none⟩ = some (.int .i64 (L : Int)) ∧ W.cell? ⟨yb, 10, none⟩ = some (.bool p.fr)) (by kernel_rfl) ?_
    refine Till.tk 0 (h := ?_)
    refine Till.tk 1 (h := ?_)
    refine Till.tk 2 (h := ?_)
    refine Till.tk 3 (h := ?_)
    refine Till.tk 4 (h := ?_)
    refine Till.tk 5 (h := ?_)
    refine Till.tk 6 (h := ?_)
    refine Till.tk 7 (h := ?_)
    refine Till.tk 8 (h := ?_)
    refine Till.tk 9 (h := ?_)
    refine Till.tk 10 (h := ?_)
    refine Till.tk 11 (h := ?_)
    refine Till.ts 12 (h := fun K hK => ?_)
    go_simp
    refine hK.out _ _ ?_ ?_
    ·exact fun h => by cases h
    clear hK K
    try simp only [Act.put, sIB, sC0, sCS]
    refine Till.done (by kernel_rfl) ?_ _
    have hs := HS.out
    have HO2 := hid (HO.out.trans HO1.out (fun _ h _ => h))
    clear z6 z10 hSd t0 t1 t2 f0 f1 f2
    go_wp2
    refine bodyPost_ret (frame_alone (b := w.heap.size) Tryz.results12 (heap_drewT (store3 HRW.out)) rfl) rfl ⟨_, rfl, HPF.out _ (HR.out.only (S := fun k => k = w.heap.size) (only3 (S := fun k => k = w.heap.size) (Only.refl _ wr) (fun _ => rfl)).drew (fun k hk e => by have := (HR.out.ge k hk).1; omega)), (only3 HO2.out (fun hl => absurd hl (Nat.lt_irrefl _))).drew⟩
 ·rw [if_neg h8] at hbz
  have hfb : (p.m.flags != 8) = true := by simpa using h8
  obtain ⟨fr, hfr⟩ : ∃ x, p.fr = x := ⟨_, rfl⟩
  rw [hfr] at hbz
  have HFR := hid hfr
  cases fr
  ·have HBZ := hid (show bs = [refT nm] ++ p.ps from hbz)
   rw [hfr] at u10
   clear hbz h8 hfr
   go_upto_region 5 with fail
   refine wp_region_held_drew (S := fun W => W.cell? ⟨yb, 0, none⟩ = some (.pointer (some ⟨qb, 0, none⟩)) ∧ W.cell? ⟨yb, 1, none⟩ = some (.int .i64 (p.n : Int)) ∧ W.cell? ⟨qb, 0, none⟩ = some (.slice (some ⟨bL, oL, none⟩) ks.length kL) ∧ W.cell? ⟨bL, oL + p.n * 5, none⟩ = some (.string nm)) (by kernel_rfl) ⟨((Only.refl (fun _ => False) W0).drew).cell u0 (fun h => h), ((Only.refl (fun _ => False) W0).drew).cell u1 (fun h => h), ((Only.refl (fun _ => False) W0).drew).cell l0 (fun h => h), ((Only.refl (fun _ => False) W0).drew).cell l2 (fun h => h)⟩ (fun hHeld => ?_)
   refine tk2 0 (h := ?_)
   refine tk2 1 (h := ?_)
   refine tk2 2 (h := ?_)
   refine tk2 3 (h := ?_)
   refine tk2 4 (h := ?_)
   refine tk2 5 (h := ?_)
   refine tk2 6 (h := ?_)
   refine tk2 7 (h := ?_)
   refine tk2 8 (h := ?_)
   refine tk2 9 (h := ?_)
   refine tk2 10 (h := ?_)
   refine tk2 11 (h := ?_)
   refine tk2 12 (h := ?_)
   refine tk2 13 (h := ?_)
   refine tk2 14 (h := ?_)
   refine tk2 15 (h := ?_)
   refine tkR 16 (h := fun K hK => ?_)
   go_simp
   refine hK.out _ _ ?_ (fun hHeld2 => ?_)
   ·exact ⟨(((Only.refl (fun _ => False) W0).drew.alloc _)).cell u0 (fun h => h), (((Only.refl (fun _ => False) W0).drew.alloc _)).cell u1 (fun h => h), (((Only.refl (fun _ => False) W0).drew.alloc _)).cell l0 (fun h => h), (((Only.refl (fun _ => False) W0).drew.alloc _)).cell l2 (fun h => h)⟩
   clear hK K
   try simp only [Act.put, sIB, sC0, sCS]
   clear hHeld
   have hHeld := hHeld2
   clear hHeld2
   refine tkR 17 (h := fun K hK => ?_)
   (refine step_append_src rfl (.tmp 18) (.tmp 34) 23 rfl 33 i0 (.agg #[.int .i64 0, .string ⟨#[]⟩, .int .i64 0, .int .i64 0, .int .i64 0]) 5 48 Tryz.underlying23 hi hz0 hz1 hz2 rfl (by decide) W0.heap.size (.slice none 0 0) 0 [] rfl (World.ownsRow_nil _ _ _ _) (by have := ((Only.refl (fun _ => False) W0).drew.alloc (.cells #[.int .i64 4, .string nm, .int .i64 0, .int .i64 0, .int .i64 0] 33)).size; exact this) (.slice (some ⟨W0.heap.size, 0, none⟩) 1 1) 1 (cellsTy (refT nm)) rfl (by exact Src.type (w := W0.drew) (refT nm) rfl) (by unfold maxLen; omega) (by omega) ?_; intro v4 w4 hown hgrow hnew; have HROW4 : Hid (TRow w4 W0.heap.size v4 [refT nm]) := hid (by unfold TRow; simpa using hown); have HON4 := hid (((Only.refl (fun _ => False) W0).drew.alloc (.cells #[.int .i64 4, .string nm, .int .i64 0, .int .i64 0, .int .i64 0] 33)).trans ((Only.refl (fun _ => False) _).grown hgrow (fun k hk hl => by cases hk)) (fun _ h _ => h)); clear hown hgrow hnew)
   refine hK.out _ _ ?_ (fun hHeld2 => ?_)
   ·exact ⟨(HON4.out).cell u0 (fun h => h), (HON4.out).cell u1 (fun h => h), (HON4.out).cell l0 (fun h => h), (HON4.out).cell l2 (fun h => h)⟩
   clear hK K
   try simp only [Act.put, sIB, sC0, sCS]
   clear hHeld
   have hHeld := hHeld2
   clear hHeld2
   refine tk2 18 (h := ?_)
   refine wpAnyH_done (by kernel_rfl) ?_ _
   clear hHeld u0 u1 u2 u10 l0 l2
   obtain ⟨a4, k4, rfl, -⟩ := slice_of_owns HROW4.out
   have HGE4 := hid HROW4.out.ge
   have HSRC := hid (Src.of_types (HTS.out.only HON4.out))
   have HSZ4 := hid (show W0.heap.size ≤ w4.heap.size from HON4.out.size)
   have z13 := cell_blk (HON4.out.heap HY.out (fun h => h)) 13
   simp only [List.getElem?_toArray, List.getElem?_cons_zero, List.getElem?_cons_succ] at z13
   go_upto_region 7 with (at_builtin; go_loud (refine wpList_append_src rfl (.tmp 36) (.tmp 40) 23 rfl 33 i0 (.agg #[.int .i64 0, .string ⟨#[]⟩, .int .i64 0, .int .i64 0, .int .i64 0]) 5 48 Tryz.underlying23 hi hz0 hz1 hz2 rfl (by decide) W0.heap.size (.slice a4 1 k4) 1 ([refT nm].flatMap cellsTy) rfl (by exact (show w4.ownsRow W0.heap.size _ 5 _ 1 ([refT nm].flatMap cellsTy) from HROW4.out)) (by exact HSZ4.out) (.slice at_ p.ps.length ct) p.ps.length (p.ps.flatMap cellsTy) rfl (by exact HSRC.out) (by unfold maxLen; omega) (by omega) ?_); intro v5 w5 hown hgrow hnew; have HROW : Hid (TRow w5 W0.heap.size v5 bs) := hid (by rw [HBZ.out]; exact TRow.join11 (by simpa using hown)); have HON := hid (HON4.out.trans ((Only.refl (fun k => ((.slice a4 1 k4) : Value).ownBlock = some k) w4).grown hgrow (fun k hk _ => hk)) (fun k hk hl => by have := (HGE4.out k hk).1; omega)); clear hown hgrow hnew)
   obtain ⟨a5, c5, rfl, p1, p2⟩ := slice_of_owns HROW.out
   go_loopw [3] (fun v wr => ∃ (a : Option Addr) (c k m : Nat), v = .slice a m c ∧ m = bs.length + k ∧ k ≤ L - bs.length ∧ Hid (TRow wr W0.heap.size (.slice a m c) (bs ++ List.replicate k zeroT)) ∧ Hid (Only (fun _ => False) W0 wr)) (fun v _ => L - slLen v)
   case atStart => exact ⟨a5, c5, 0, bs.length, rfl, rfl, Nat.zero_le _, by rw [List.replicate_zero, List.append_nil]; exact HROW, HON⟩
   case round =>
    obtain ⟨a, c, k, m, rfl, hm, hk, HR, HO1⟩ := hrel
    have z6 := cell_blk (HO1.out.heap HY.out (fun h => h)) 6
    have z10 := cell_blk (HO1.out.heap HY.out (fun h => h)) 10
    simp only [List.getElem?_toArray, List.getElem?_cons_zero, List.getElem?_cons_succ] at z6 z10
    rw [HLZ.out] at z6
    have hmz : (m : Int) = (bs.length : Int) + (k : Int) := by omega
    have HM := hid hm
    have HB17 := hid hb17
    by_cases hlt : m < L
    ·have hlz : (m : Int) < (L : Int) := by omega
     have HSR := hid (Src.type (w := wr) zeroT rfl)
     have HR1 := hid (HR.out.only ((Only.refl (fun _ => False) wr).alloc (.cells #[.int .i64 0, .string ⟨#[]⟩, .int .i64 0, .int .i64 0, .int .i64 0] 33)) (fun _ _ h => h))
     have HSZ5 := hid (show W0.heap.size ≤ (wr.alloc (.cells #[.int .i64 0, .string ⟨#[]⟩, .int .i64 0, .int .i64 0, .int .i64 0] 33)).heap.size from (HO1.out.alloc _).size)
     have HGE5 := hid HR1.out.ge
     clear hm hmz z10
     have hm17 : m ≤ 4096 := by omega
     go_wp2_with (at_builtin; go_loud (refine wpList_append_src rfl (.tmp 50) (.tmp 52) 23 rfl 33 i0 (.agg #[.int .i64 0, .string ⟨#[]⟩, .int .i64 0, .int .i64 0, .int .i64 0]) 5 48 Tryz.underlying23 hi hz0 hz1 hz2 rfl (by decide) W0.heap.size (.slice a m c) m ((bs ++ List.replicate k zeroT).flatMap cellsTy) rfl (by have h1 := HR1.out; unfold TRow at h1; rw [List.length_append, List.length_replicate, ← HM.out] at h1; exact h1) (by exact HSZ5.out) (.slice (some ⟨wr.heap.size, 0, none⟩) 1 1) 1 (cellsTy zeroT) rfl (by exact HSR.out) (by unfold maxLen; omega) (by omega) ?_); intro v6 w6 hown hgrow hnew; have HR6 : Hid (TRow w6 W0.heap.size v6 (bs ++ List.replicate (k + 1) zeroT)) := hid (by rw [List.replicate_succ', ← List.append_assoc]; exact TRow.join11 (m := [zeroT]) (by have h1 := HM.out; simp only [List.length_append, List.length_replicate, List.flatMap_cons, List.flatMap_nil, List.append_nil, List.length_singleton]; rw [← h1]; exact hown)); have HO6 := hid ((HO1.out.alloc (.cells #[.int .i64 0, .string ⟨#[]⟩, .int .i64 0, .int .i64 0, .int .i64 0] 33)).trans ((Only.refl (fun j => (Value.slice a m c).ownBlock = some j) _).grown hgrow (fun j hj _ => hj)) (fun j hj hl => by have := (HGE5.out j hj).1; omega)); obtain ⟨a6, c6, e6, -⟩ := slice_of_owns HR6.out; rw [List.length_append, List.length_replicate] at e6; clear hown hgrow hnew)
     go_roundw
     case rel => exact ⟨a6, c6, k + 1, bs.length + (k + 1), rfl, rfl, by have := HM.out; omega, by have h6 := HR6.out; rw [e6] at h6; exact hid h6, HO6⟩
     case measure => have := HM.out; show _ - _ < _ - _; simp only [slLen]; omega
    ·have hL := hid (pad_take hk (by rw [List.length_append, List.length_replicate]; omega))
     have hlz : ¬ (m : Int) < (L : Int) := by omega
     have HTY := hid HR.out.types
     obtain ⟨a', c', e', g1, g2, g3, g4⟩ := id HR.out.types
     injection e' with e1 e2 e3
     subst e1 e3
     have hLc : (L : Int) ≤ (c : Int) := by omega
     have hL0 : (0 : Int) ≤ (L : Int) := by omega
     obtain ⟨t0, t1, t2⟩ := cells3 (HO1.out.heap HR0.out (fun h => h))
     obtain ⟨f0, f1, f2⟩ := marks3 (HO1.out.heap HR0.out (fun h => h))
     have HRW := hid (HO1.out.heap HR0.out (fun h => h))
     have HPF : Hid (∀ W, TRow W W0.heap.size (.slice a m c) (bs ++ List.replicate k zeroT) → Types W (.slice a L c) (firstZ p.m.flags nm p.fr p.ps L)) := hid (fun W hW => by
      have h := hW.types
      rw [e2, ← List.take_append_drop L (bs ++ List.replicate k zeroT)] at h
      have h2 := types_take h
      rw [List.length_take, Nat.min_eq_left (by rw [← e2]; omega), hL.out, ← HFZ.out] at h2
      exact h2)
     clear g1 g2 g3 g4 hk hm hmz e2 hlt
     have hSd : wr.drew.cell? ⟨yb, 6, none⟩ = some (.int .i64 (L : Int)) ∧ wr.drew.cell? ⟨yb, 10, none⟩ = some (.bool p.fr) := ⟨z6, z10⟩
     go_upto_region 9 with fail
     refine wp_till 12 (fun W => W.cell? ⟨yb, 6, none⟩ = some (.int .i64 (L : Int)) ∧ W.cell? ⟨yb, 10, none⟩ = some (.bool p.fr)) (by kernel_rfl) ?_
     refine Till.tk 0 (h := ?_)
     refine Till.tk 1 (h := ?_)
     refine Till.tk 2 (h := ?_)
     refine Till.tk 3 (h := ?_)
     refine Till.tk 4 (h := ?_)
     refine Till.tk 5 (h := ?_)
     refine Till.tk 6 (h := ?_)
     refine Till.tk 7 (h := ?_)
     refine Till.tk 8 (h := ?_)
     refine Till.tk 9 (h := ?_)
     refine Till.tk 10 (h := ?_)
     refine Till.tk 11 (h := ?_)
     refine Till.ts 12 (h := fun K hK => ?_)
     go_simp
     refine hK.out _ _ ?_ ?_
     ·exact fun h => by cases h
     clear hK K
     try simp only [Act.put, sIB, sC0, sCS]
     refine Till.done (by kernel_rfl) ?_ _
     have hs := HS.out
     have HO2 := hid (HO.out.trans HO1.out (fun _ h _ => h))
     clear z6 z10 hSd t0 t1 t2 f0 f1 f2
     go_wp2
     refine bodyPost_ret (frame_alone (b := w.heap.size) Tryz.results12 (heap_drewT (store3 HRW.out)) rfl) rfl ⟨_, rfl, HPF.out _ (HR.out.only (S := fun k => k = w.heap.size) (only3 (S := fun k => k = w.heap.size) (Only.refl _ wr) (fun _ => rfl)).drew (fun k hk e => by have := (HR.out.ge k hk).1; omega)), (only3 HO2.out (fun hl => absurd hl (Nat.lt_irrefl _))).drew⟩
  ·have HBZ := hid (show bs = [⟨7, ⟨#[]⟩, 0, 0, 0⟩] ++ p.ps from hbz)
   rw [hfr] at u10
   have HSR4 := hid (Src.type (w := W0) ⟨7, ⟨#[]⟩, 0, 0, 0⟩ rfl)
   have HSZ3 := hid (show W0.heap.size ≤ (W0.alloc (.cells #[.int .i64 7, .string ⟨#[]⟩, .int .i64 0, .int .i64 0, .int .i64 0] 33)).heap.size from ((Only.refl (fun _ => False) W0).alloc _).size)
   clear hbz h8 hfr
   go_upto_region 6 with (at_builtin; go_loud (refine wpList_append_src rfl (.tmp 14) (.tmp 16) 23 rfl 33 i0 (.agg #[.int .i64 0, .string ⟨#[]⟩, .int .i64 0, .int .i64 0, .int .i64 0]) 5 48 Tryz.underlying23 hi hz0 hz1 hz2 rfl (by decide) W0.heap.size (.slice none 0 0) 0 [] rfl (World.ownsRow_nil _ _ _ _) (by exact HSZ3.out) (.slice (some ⟨W0.heap.size, 0, none⟩) 1 1) 1 (cellsTy ⟨7, ⟨#[]⟩, 0, 0, 0⟩) rfl (by exact HSR4.out) (by unfold maxLen; omega) (by omega) ?_); intro v4 w4 hown hgrow hnew; have HROW4 : Hid (TRow w4 W0.heap.size v4 [⟨7, ⟨#[]⟩, 0, 0, 0⟩]) := hid (by unfold TRow; simpa using hown); have HON4 := hid (((Only.refl (fun _ => False) W0).alloc (.cells #[.int .i64 7, .string ⟨#[]⟩, .int .i64 0, .int .i64 0, .int .i64 0] 33)).trans ((Only.refl (fun _ => False) _).grown hgrow (fun k hk hl => by cases hk)) (fun _ h _ => h)); clear hown hgrow hnew)
   clear u0 u1 u2 u10 l0 l2
   obtain ⟨a4, k4, rfl, -⟩ := slice_of_owns HROW4.out
   have HGE4 := hid HROW4.out.ge
   have HSRC := hid (Src.of_types (HTS.out.only HON4.out))
   have HSZ4 := hid (show W0.heap.size ≤ w4.heap.size from HON4.out.size)
   have z13 := cell_blk (HON4.out.heap HY.out (fun h => h)) 13
   simp only [List.getElem?_toArray, List.getElem?_cons_zero, List.getElem?_cons_succ] at z13
   go_upto_region 7 with (at_builtin; go_loud (refine wpList_append_src rfl (.tmp 36) (.tmp 40) 23 rfl 33 i0 (.agg #[.int .i64 0, .string ⟨#[]⟩, .int .i64 0, .int .i64 0, .int .i64 0]) 5 48 Tryz.underlying23 hi hz0 hz1 hz2 rfl (by decide) W0.heap.size (.slice a4 1 k4) 1 ([⟨7, ⟨#[]⟩, 0, 0, 0⟩].flatMap cellsTy) rfl (by exact (show w4.ownsRow W0.heap.size _ 5 _ 1 (([⟨7, ⟨#[]⟩, 0, 0, 0⟩] : List TypeV).flatMap cellsTy) from HROW4.out)) (by exact HSZ4.out) (.slice at_ p.ps.length ct) p.ps.length (p.ps.flatMap cellsTy) rfl (by exact HSRC.out) (by unfold maxLen; omega) (by omega) ?_); intro v5 w5 hown hgrow hnew; have HROW : Hid (TRow w5 W0.heap.size v5 bs) := hid (by rw [HBZ.out]; exact TRow.join11 (by simpa using hown)); have HON := hid (HON4.out.trans ((Only.refl (fun k => ((.slice a4 1 k4) : Value).ownBlock = some k) w4).grown hgrow (fun k hk _ => hk)) (fun k hk hl => by have := (HGE4.out k hk).1; omega)); clear hown hgrow hnew)
   obtain ⟨a5, c5, rfl, p1, p2⟩ := slice_of_owns HROW.out
   go_loopw [3] (fun v wr => ∃ (a : Option Addr) (c k m : Nat), v = .slice a m c ∧ m = bs.length + k ∧ k ≤ L - bs.length ∧ Hid (TRow wr W0.heap.size (.slice a m c) (bs ++ List.replicate k zeroT)) ∧ Hid (Only (fun _ => False) W0 wr)) (fun v _ => L - slLen v)
   case atStart => exact ⟨a5, c5, 0, bs.length, rfl, rfl, Nat.zero_le _, by rw [List.replicate_zero, List.append_nil]; exact HROW, HON⟩
   case round =>
    obtain ⟨a, c, k, m, rfl, hm, hk, HR, HO1⟩ := hrel
    have z6 := cell_blk (HO1.out.heap HY.out (fun h => h)) 6
    have z10 := cell_blk (HO1.out.heap HY.out (fun h => h)) 10
    simp only [List.getElem?_toArray, List.getElem?_cons_zero, List.getElem?_cons_succ] at z6 z10
    rw [HLZ.out] at z6
    have hmz : (m : Int) = (bs.length : Int) + (k : Int) := by omega
    have HM := hid hm
    have HB17 := hid hb17
    by_cases hlt : m < L
    ·have hlz : (m : Int) < (L : Int) := by omega
     have HSR := hid (Src.type (w := wr) zeroT rfl)
     have HR1 := hid (HR.out.only ((Only.refl (fun _ => False) wr).alloc (.cells #[.int .i64 0, .string ⟨#[]⟩, .int .i64 0, .int .i64 0, .int .i64 0] 33)) (fun _ _ h => h))
     have HSZ5 := hid (show W0.heap.size ≤ (wr.alloc (.cells #[.int .i64 0, .string ⟨#[]⟩, .int .i64 0, .int .i64 0, .int .i64 0] 33)).heap.size from (HO1.out.alloc _).size)
     have HGE5 := hid HR1.out.ge
     clear hm hmz z10
     have hm17 : m ≤ 4096 := by omega
     go_wp2_with (at_builtin; go_loud (refine wpList_append_src rfl (.tmp 50) (.tmp 52) 23 rfl 33 i0 (.agg #[.int .i64 0, .string ⟨#[]⟩, .int .i64 0, .int .i64 0, .int .i64 0]) 5 48 Tryz.underlying23 hi hz0 hz1 hz2 rfl (by decide) W0.heap.size (.slice a m c) m ((bs ++ List.replicate k zeroT).flatMap cellsTy) rfl (by have h1 := HR1.out; unfold TRow at h1; rw [List.length_append, List.length_replicate, ← HM.out] at h1; exact h1) (by exact HSZ5.out) (.slice (some ⟨wr.heap.size, 0, none⟩) 1 1) 1 (cellsTy zeroT) rfl (by exact HSR.out) (by unfold maxLen; omega) (by omega) ?_); intro v6 w6 hown hgrow hnew; have HR6 : Hid (TRow w6 W0.heap.size v6 (bs ++ List.replicate (k + 1) zeroT)) := hid (by rw [List.replicate_succ', ← List.append_assoc]; exact TRow.join11 (m := [zeroT]) (by have h1 := HM.out; simp only [List.length_append, List.length_replicate, List.flatMap_cons, List.flatMap_nil, List.append_nil, List.length_singleton]; rw [← h1]; exact hown)); have HO6 := hid ((HO1.out.alloc (.cells #[.int .i64 0, .string ⟨#[]⟩, .int .i64 0, .int .i64 0, .int .i64 0] 33)).trans ((Only.refl (fun j => (Value.slice a m c).ownBlock = some j) _).grown hgrow (fun j hj _ => hj)) (fun j hj hl => by have := (HGE5.out j hj).1; omega)); obtain ⟨a6, c6, e6, -⟩ := slice_of_owns HR6.out; rw [List.length_append, List.length_replicate] at e6; clear hown hgrow hnew)
     go_roundw
     case rel => exact ⟨a6, c6, k + 1, bs.length + (k + 1), rfl, rfl, by have := HM.out; omega, by have h6 := HR6.out; rw [e6] at h6; exact hid h6, HO6⟩
     case measure => have := HM.out; show _ - _ < _ - _; simp only [slLen]; omega
    ·have hL := hid (pad_take hk (by rw [List.length_append, List.length_replicate]; omega))
     have hlz : ¬ (m : Int) < (L : Int) := by omega
     have HTY := hid HR.out.types
     obtain ⟨a', c', e', g1, g2, g3, g4⟩ := id HR.out.types
     injection e' with e1 e2 e3
     subst e1 e3
     have hLc : (L : Int) ≤ (c : Int) := by omega
     have hL0 : (0 : Int) ≤ (L : Int) := by omega
     obtain ⟨t0, t1, t2⟩ := cells3 (HO1.out.heap HR0.out (fun h => h))
     obtain ⟨f0, f1, f2⟩ := marks3 (HO1.out.heap HR0.out (fun h => h))
     have HRW := hid (HO1.out.heap HR0.out (fun h => h))
     have HPF : Hid (∀ W, TRow W W0.heap.size (.slice a m c) (bs ++ List.replicate k zeroT) → Types W (.slice a L c) (firstZ p.m.flags nm p.fr p.ps L)) := hid (fun W hW => by
      have h := hW.types
      rw [e2, ← List.take_append_drop L (bs ++ List.replicate k zeroT)] at h
      have h2 := types_take h
      rw [List.length_take, Nat.min_eq_left (by rw [← e2]; omega), hL.out, ← HFZ.out] at h2
      exact h2)
     clear g1 g2 g3 g4 hk hm hmz e2 hlt
     have hSd : wr.drew.cell? ⟨yb, 6, none⟩ = some (.int .i64 (L : Int)) ∧ wr.drew.cell? ⟨yb, 10, none⟩ = some (.bool p.fr) := ⟨z6, z10⟩
     go_upto_region 9 with fail
     refine wp_till 12 (fun W => W.cell? ⟨yb, 6, none⟩ = some (.int .i64 (L : Int)) ∧ W.cell? ⟨yb, 10, none⟩ = some (.bool p.fr)) (by kernel_rfl) ?_
     refine Till.tk 0 (h := ?_)
     refine Till.tk 1 (h := ?_)
     refine Till.tk 2 (h := ?_)
     refine Till.tk 3 (h := ?_)
     refine Till.tk 4 (h := ?_)
     refine Till.tk 5 (h := ?_)
     refine Till.tk 6 (h := ?_)
     refine Till.tk 7 (h := ?_)
     refine Till.tk 8 (h := ?_)
     refine Till.tk 9 (h := ?_)
     refine Till.tk 10 (h := ?_)
     refine Till.tk 11 (h := ?_)
     refine Till.ts 12 (h := fun K hK => ?_)
     go_simp
     refine hK.out _ _ ?_ ?_
     ·exact fun h => by cases h
     clear hK K
     try simp only [Act.put, sIB, sC0, sCS]
     refine Till.done (by kernel_rfl) ?_ _
     have hs := HS.out
     have HO2 := hid (HO.out.trans HO1.out (fun _ h _ => h))
     clear z6 z10 hSd t0 t1 t2 f0 f1 f2
     go_wp2
     refine bodyPost_ret (frame_alone (b := w.heap.size) Tryz.results12 (heap_drewT (store3 HRW.out)) rfl) rfl ⟨_, rfl, HPF.out _ (HR.out.only (S := fun k => k = w.heap.size) (only3 (S := fun k => k = w.heap.size) (Only.refl _ wr) (fun _ => rfl)).drew (fun k hk e => by have := (HR.out.ge k hk).1; omega)), (only3 HO2.out (fun hl => absurd hl (Nat.lt_irrefl _))).drew⟩
end
end Go.Proofs.YtinbelghhfodiaaGreatDoor
