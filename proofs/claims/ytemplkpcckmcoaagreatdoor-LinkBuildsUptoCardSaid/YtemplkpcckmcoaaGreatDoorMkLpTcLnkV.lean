import Derived.Test.YtemplkpcckmcoaaGreatDoorMkLpTaIxC
import Derived.Test.YtemplkpcckmcoaaGreatDoorMkLpRhLpRi
import Derived.Test.YtemplkpcckmcoaaGreatDoorMkLpUPolZ
import Derived.Test.YtemplkpcckmcoaaGreatDoorMkPolNClsJ
import Derived.Test.YtemplkpcckmcoaaGreatDoorMkLpMeLpF
import Derived.Test.YtemplkpcckmcoaaGreatDoorMkLnkILnkN
import Derived.Test.YtemplkpcckmcoaaGreatDoorMkPolDLnkU
import Derived.Test.YtemplkpcckmcoaaGreatDoorMkBigLnkH
namespace Go.Proofs.YtemplkpcckmcoaaGreatDoor
set_option maxHeartbeats 16000000
open Lib (hid)
open Go.RowKit Go.Maps
set_option linter.unusedVariables false
set_option linter.unusedSimpArgs false
theorem right_good {cs : List ClassV} (h0 : ∀ c ∈ cs, clsZ c = 0) (hl : cs.length ≤ 16) (h : RightK (kindsZ cs)) : GoodK (kindsZ cs) := by
 have hh := (rules_right h0).2 h
 exact rules_good h0 hl hh.r1 hh.r2
structure MadeP (fv : Nat → Value) (w : World) (pb : Nat) (cs : List ClassV) (cl : Nat → ClassV) : Prop where
 prog : ProgG (fun b => ∃ i, i < (kindsZ cs).length ∧ (fv i).ownBlock = some b) fv w pb (kindsZ cs) cl (fun a p => (slotAt (kindsZ cs) a p : Int))
 cls : ∀ i, 13 ≤ i → i < (kindsZ cs).length → cl i = cs.getD (i - 13) default
theorem MadeP.only {fv : Nat → Value} {w w' : World} {pb : Nat} {cs : List ClassV} {cl : Nat → ClassV} (h : MadeP fv w pb cs cl) (ho : Only (fun _ => False) w w') : MadeP fv w' pb cs cl := ⟨h.prog.only ho, h.cls⟩
def BuildTo (w : World) (cs : List ClassV) (e : Ending) (w' : World) : Prop :=
 Only (fun _ => False) w w' ∧ ((buildZ cs ≠ 0 ∧ e = .returned (.tuple #[.pointer none, .int .i64 (buildZ cs)])) ∨
  (buildZ cs = 0 ∧ ∃ pb fv cl, e = .returned (.tuple #[.pointer (some ⟨pb, 0, none⟩), .int .i64 0]) ∧ MadeP fv w' pb cs cl))
theorem build_long {cs : List ClassV} (h : 16 < cs.length) : buildZ cs = 2 := by unfold buildZ; rw [if_pos h]
theorem build_err {cs : List ClassV} (h : ¬ 16 < cs.length) (he : errsC cs ≠ 0) : buildZ cs = errsC cs := by unfold buildZ; rw [if_neg h, if_pos he]
theorem build_no {cs : List ClassV} (h : ¬ 16 < cs.length) (he : errsC cs = 0) (hr : ¬ RightK (kindsZ cs)) : buildZ cs = 90 := by unfold buildZ; rw [if_neg h, if_neg (by simp [he]), if_neg hr]
theorem build_yes {cs : List ClassV} (h : ¬ 16 < cs.length) (he : errsC cs = 0) (hr : RightK (kindsZ cs)) : buildZ cs = 0 := by unfold buildZ; rw [if_neg h, if_neg (by simp [he]), if_pos hr]
theorem build_zero {cs : List ClassV} (h : buildZ cs = 0) : cs.length ≤ 16 ∧ (∀ c ∈ cs, clsZ c = 0) ∧ RightK (kindsZ cs) := by
 unfold buildZ at h
 by_cases h1 : 16 < cs.length
 ·rw [if_pos h1] at h; exact absurd h (by decide)
 ·rw [if_neg h1] at h
  by_cases h2 : errsC cs ≠ 0
  ·rw [if_pos h2] at h; exact absurd h h2
  ·rw [if_neg h2] at h
   by_cases h3 : RightK (kindsZ cs)
   ·exact ⟨by omega, errsC_zero (by omega), h3⟩
   ·rw [if_neg h3] at h; exact absurd h (by decide)
set_option maxRecDepth 100000 in
theorem pBuild (v : Value) (cs : List ClassV) (w : World) (hc : Classes w v cs) (hT : Tabs w) (hg : ErrV w) :
  Calls Tryz.prog 4 #[v] w (BuildTo w cs) := by
 have hc0 := hc
 obtain ⟨f, hsl, hcm⟩ := hc
 obtain ⟨ao, cap, rfl, p1, p2, p3, -⟩ := id hsl
 have HSL := hid hsl
 have HCM := hid hcm
 have HC0 := hid hc0
 have HT := hid hT
 have HGV := hid hg
 clear hsl hcm hc0 hT hg p3
 go_enter Tryz.func4, Tryz.ntmps4
 by_cases h16 : 16 < cs.length
 ·have hz : (16 : Int) < (cs.length : Int) := by omega
  have HB := hid (build_long h16)
  clear h16
  go_wp2
  go_ret2
  exact ⟨Only.refl _ _, .inl ⟨by rw [HB.out]; decide, by rw [HB.out]; rfl⟩⟩
 have hz : ¬ (16 : Int) < (cs.length : Int) := by omega
 have H16 := hid h16
 have hcz : ((cs.length : Nat) : Int) ≤ 16 := by omega
 have HCL := hid (show cs.length ≤ 16 by omega)
 clear h16
 go_wp2
 clear hz
 go_loopw [5, 6, 13] (fun _ _ iv wr => ∃ j : Nat, iv = .int .i64 j ∧ j ≤ cs.length ∧ Hid (errsC cs = errsC (cs.drop j)) ∧ Hid (Only (fun _ => False) w wr)) (fun _ _ iv _ => cs.length - (intOf iv).toNat)
 case atStart => exact ⟨0, rfl, Nat.zero_le _, hid rfl, hid (Only.refl _ _)⟩
 case round =>
  obtain ⟨j, rfl, hj, HE, HON⟩ := hrel
  by_cases hlt : j < cs.length
  ·have hjz : (j : Int) < (cs.length : Int) := by omega
   have hj0 : (0 : Int) ≤ (j : Int) := by omega
   have HST := hid (errsC_at hlt)
   rw [← HE.out] at HST
   obtain ⟨b, o, rfl, y⟩ := Sl.at HSL.out hlt
   obtain ⟨y0, y1, y2, y3, y4⟩ := y
   have y0 := HON.out.cell y0 (fun h => h)
   have y1 := HON.out.cell y1 (fun h => h)
   have y2 := HON.out.cell y2 (fun h => h)
   have y3 := HON.out.cell y3 (fun h => h)
   have y4 := HON.out.cell y4 (fun h => h)
   have hcj := HCM.out j hlt
   generalize (f j).1 = vp at *
   generalize (f j).2.1 = vf at *
   generalize (f j).2.2 = vm at *
   obtain ⟨z1, z2, rfl, -⟩ := id hcj.1
   obtain ⟨z3, z4, rfl, -⟩ := id hcj.2.1.1
   obtain ⟨gm, hgm, -, -⟩ := id hcj.2.2.1
   obtain ⟨z5, z6, rfl, -⟩ := id hgm
   clear hgm
   obtain ⟨vp, hvp⟩ : ∃ x, x = Value.slice z1 (cs.getD j default).pool.length z2 := ⟨_, rfl⟩
   obtain ⟨vf, hvf⟩ : ∃ x, x = Value.slice z3 (cs.getD j default).fields.length z4 := ⟨_, rfl⟩
   obtain ⟨vm, hvm⟩ : ∃ x, x = Value.slice z5 (cs.getD j default).methods.length z6 := ⟨_, rfl⟩
   obtain ⟨c, hcc⟩ : ∃ c, cs.getD j default = c := ⟨_, rfl⟩
   rw [hcc] at y0 y1 y2 y3 y4 hcj HST hvp hvf hvm
   rw [← hvp, ← hvf, ← hvm] at hcj
   have hal := (Only.refl (fun _ => False) wr).alloc (.cells #[vp, .int .i64 c.this, .int .i64 c.super, vf, vm] 37)
   have hoa := HON.out.trans hal (fun _ h _ => h)
   have C1 := hid (progClsCheck vp vf vm c _ (by obtain ⟨a1, a2, a3, a4, a5⟩ := hcj; exact ⟨a1.only hoa (fun _ _ h => h), a2.only hoa, a3.only hoa, a4, a5⟩) (HT.out.only hoa (fun h => h) (fun h => h)) (HGV.out.only hoa (fun h => h)))
   have HOA := hid hoa
   rw [hvp, hvf, hvm] at C1 HOA
   clear hcj hal hoa hcc hvp hvf hvm
   by_cases hz0 : clsZ c = 0
   ·have HE2 := hid (show errsC cs = errsC (cs.drop (j + 1)) by rw [HST.out, if_neg (by simp [hz0])])
    rw [hz0] at C1
    clear hz0
    go_wp2_with (fail)
    refine C1.out.mono ?_
    rintro e w5 ⟨rfl, ho5⟩
    have HO5 := hid (HOA.out.trans ho5 (fun _ h _ => h))
    clear ho5 y0 y1 y2 y3 y4
    go_wp2
    go_roundw
    case rel => exact ⟨j + 1, by go_num, by omega, HE2, HO5⟩
    case measure => simp [intOf]; omega
   ·have HE2 := hid (show errsC cs = clsZ c by rw [HST.out, if_pos hz0])
    have HB := hid (show buildZ cs = clsZ c by rw [build_err H16.out (by rw [HE2.out]; exact hz0), HE2.out])
    have HZ0 := hid hz0
    have hzb : (clsZ c != 0) = true := by simpa using hz0
    generalize clsZ c = ec at *
    clear hz0
    go_wp2_with (fail)
    refine C1.out.mono ?_
    rintro e w5 ⟨rfl, ho5⟩
    have HO5 := hid (HOA.out.trans ho5 (fun _ h _ => h))
    clear ho5 y0 y1 y2 y3 y4
    go_wp2
    go_ret2
    exact ⟨HO5.out, .inl ⟨by rw [HB.out]; exact HZ0.out, by rw [HB.out]; rfl⟩⟩
  ·obtain rfl : j = cs.length := by omega
   have HE0 := hid (show errsC cs = 0 by rw [HE.out, List.drop_of_length_le (Nat.le_refl _)]; rfl)
   have HAL := hid (errsC_zero HE0.out)
   have CG := hid (pGather _ cs wr (HC0.out.only HON.out) HAL.out HCL.out)
   clear hlt hj
   go_wp2_with (fail)
   refine CG.out.mono ?_
   rintro e w5 ⟨pb, fv, cl, rfl, hpb, hprog, ⟨ho5, hown, hcls⟩⟩
   have CR := hid (pIsRight hprog HAL.out HCL.out)
   have HP := hid hprog
   have HOWN := hid hown
   have HCLS := hid hcls
   have HO5 := hid (HON.out.trans ho5 (fun _ h _ => h))
   have HSZ := hid HON.out.size
   clear hprog hown hcls ho5 CG
   go_wp2_with (fail)
   refine CR.out.mono ?_
   rintro e w6 ⟨⟨bb, rfl, hb⟩, ho6⟩
   have HO6 := hid (HO5.out.trans ho6 (fun _ h _ => h))
   have HB := hid hb
   have HP6 := hid (HP.out.only ho6)
   clear hb ho6 CR
   cases bb
   ·have HZ := hid (build_no H16.out HE0.out (fun hr => absurd (HB.out.2 hr) (by decide)))
    go_wp2
    go_ret2
    exact ⟨HO6.out, .inl ⟨by rw [HZ.out]; decide, by rw [HZ.out]; rfl⟩⟩
   ·have hr := HB.out.1 rfl
    have HZ := hid (build_yes H16.out HE0.out hr)
    have CL := hid (pLay HP6.out (right_good HAL.out HCL.out hr))
    clear hr
    go_wp2_with (fail)
    refine CL.out.mono ?_
    rintro e w7 ⟨rfl, hp7, ho7⟩
    have HO7 := hid (HO6.out.trans ho7 (fun k hk hlt => by obtain ⟨i, hi, he⟩ := hk; have := HOWN.out i k hi he; have := HSZ.out; omega))
    have HP7 := hid hp7
    clear hp7 ho7
    go_wp2
    go_ret2
    exact ⟨HO7.out, .inr ⟨HZ.out, pb, fv, cl, rfl, HP7.out, HCLS.out⟩⟩
end Go.Proofs.YtemplkpcckmcoaaGreatDoor
namespace Go.Proofs.YtemplkpcckmcoaaGreatDoor
set_option maxHeartbeats 16000000
open Lib (hid)
open Go.RowKit
set_option linter.unusedVariables false
set_option linter.unusedSimpArgs false
set_option linter.unusedSectionVars false
structure MTell where
 flags : Int
 code : List Int
 name : ByteArray
 desc : ByteArray
 ok : Bool
def noTell : MTell := ⟨0, [], ⟨#[]⟩, ⟨#[]⟩, false⟩
open Classical in
noncomputable def tellM (ks : List KindV) (cs : List ClassV) (n : Nat) (i : Int) : MTell :=
 if i < 0 ∨ ((ks.getD n default).meths.length : Int) ≤ i then noTell
 else ⟨(methP n (ks.getD n default) (cs.getD (n - 13) default) i.toNat).flags, (methP n (ks.getD n default) (cs.getD (n - 13) default) i.toNat).code, ((ks.getD n default).meths.getD i.toNat default).name, ((ks.getD n default).meths.getD i.toNat default).desc, true⟩
theorem tell_yes {ks : List KindV} {cs : List ClassV} {n j : Nat} (h : j < (ks.getD n default).meths.length) : tellM ks cs n (j : Int) = ⟨(methP n (ks.getD n default) (cs.getD (n - 13) default) j).flags, (methP n (ks.getD n default) (cs.getD (n - 13) default) j).code, ((ks.getD n default).meths.getD j default).name, ((ks.getD n default).meths.getD j default).desc, true⟩ := by
 unfold tellM
 rw [if_neg (by omega), Int.toNat_natCast]
def MTo (t : MTell) (w : World) (e : Ending) (w' : World) : Prop :=
 ∃ b1 b2 b3 b4 a1 l1 c1 a2 l2 c2 a3 l3 c3, e = .returned (.tuple #[.agg #[.int .i64 t.flags, .int .i64 b1, .int .i64 b2, .int .i64 b3, .int .i64 b4, .slice a1 l1 c1, .slice a2 l2 c2, .slice a3 l3 c3], .string t.name, .string t.desc, .bool t.ok]) ∧ Bytes w' (.slice a1 l1 c1) t.code ∧ Only (fun _ => False) w w'
theorem MTo.no {w w' : World} (ho : Only (fun _ => False) w w') : MTo noTell w (.returned (.tuple #[flagM 0, .string ⟨#[]⟩, .string ⟨#[]⟩, .bool false])) w' :=
 ⟨0, 0, 0, 0, none, 0, 0, none, 0, 0, none, 0, 0, rfl, bytes_nil0 w', ho⟩
theorem MTo.inside {w w' : World} {m : MethodV} {vc vt vm : Value} {nm ds : ByteArray} (h : Inside w' m vc vt vm) (ho : Only (fun _ => False) w w') :
  MTo ⟨m.flags, m.code, nm, ds, true⟩ w (.returned (.tuple #[.agg #[.int .i64 m.flags, .int .i64 m.name, .int .i64 m.desc, .int .i64 m.stack, .int .i64 m.locals, vc, vt, vm], .string nm, .string ds, .bool true])) w' := by
 obtain ⟨h1, ⟨⟨a2, c2, rfl, -⟩, -⟩, h3⟩ := h
 obtain ⟨a1, c1, rfl, -⟩ := id h1
 obtain ⟨a3, c3, rfl, -⟩ := h3
 exact ⟨_, _, _, _, _, _, _, _, _, _, _, _, _, rfl, h1, ho⟩
section
variable {cs : List ClassV} (h0 : ∀ c ∈ cs, clsZ c = 0) {n : Nat} (hn : n < (kindsZ cs).length) (i : Int)
include h0 hn
theorem pTell {fv : Nat → Value} {w : World} {pb : Nat} {cl : Nat → ClassV} (h : MadeP fv w pb cs cl) :
  Calls Tryz.prog 37 #[.pointer (some ⟨pb, 0, none⟩), .int .i64 (n : Int), .int .i64 i] w (MTo (tellM (kindsZ cs) cs n i) w) := by
 have hl := kindsZ_len cs
 by_cases hi : i < 0 ∨ (((kindsZ cs).getD n default).meths.length : Int) ≤ i
 ·have ht : tellM (kindsZ cs) cs n i = noTell := by unfold tellM; rw [if_pos hi]
  rw [ht]
  refine (pMethodNoI h.prog (by omega) n i hn hi).mono ?_
  rintro e w' ⟨rfl, ho⟩
  exact MTo.no ho
 ·obtain ⟨j, rfl⟩ := Int.eq_ofNat_of_zero_le (show 0 ≤ i by omega)
  rw [tell_yes (by omega)]
  have hcl : 13 ≤ n → cl n = cs.getD (n - 13) default := fun h13 => h.cls n h13 hn
  have hm : methP n ((kindsZ cs).getD n default) (cl n) j = methP n ((kindsZ cs).getD n default) (cs.getD (n - 13) default) j := by
   unfold methP
   by_cases h13 : n < 13
   ·rw [if_pos h13, if_pos h13]
   ·rw [if_neg h13, if_neg h13, hcl (by omega)]
  refine (pMethod h.prog n j hn (by omega) (fine_all h0 _ (getD_memK hn)).meths (fun h13 => by rw [hcl h13]; exact (few_cls (h0 _ (getD_mem (by omega)))).1)).mono ?_
  rintro e w' ⟨a, b, d, rfl, hin, ho⟩
  rw [hm] at hin ⊢
  exact MTo.inside hin ho
theorem rTell {w : World} {qb : Nat} (hd : DocP w qb (kindsZ cs) cs) :
  Calls Tryz.prog 38 #[.pointer (some ⟨qb, 0, none⟩), .int .i64 (n : Int), .int .i64 i] w (MTo (tellM (kindsZ cs) cs n i) w) := by
 have hl := kindsZ_len cs
 by_cases hi : i < 0 ∨ (((kindsZ cs).getD n default).meths.length : Int) ≤ i
 ·have ht : tellM (kindsZ cs) cs n i = noTell := by unfold tellM; rw [if_pos hi]
  rw [ht]
  refine (refMethodNone qb (kindsZ cs) cs (n : Int) i w hd (by unfold noMeth; rw [Int.toNat_natCast]; omega)).mono ?_
  rintro e w' ⟨rfl, ho⟩
  exact MTo.no ho
 ·obtain ⟨j, rfl⟩ := Int.eq_ofNat_of_zero_le (show 0 ≤ i by omega)
  rw [tell_yes (by omega)]
  by_cases h13 : n < 13
  ·have hm : methP n ((kindsZ cs).getD n default) (cs.getD (n - 13) default) j = bareM (((kindsZ cs).getD n default).meths.getD j default).flags := by unfold methP; rw [if_pos h13]
   rw [hm]
   refine (refMethodBuilt qb (kindsZ cs) cs n j w hd hn h13 (by omega)).mono ?_
   rintro e w' ⟨rfl, ho⟩
   exact ⟨0, 0, 0, 0, none, 0, 0, none, 0, 0, none, 0, 0, rfl, bytes_nil0 w', ho⟩
  ·have hm : methP n ((kindsZ cs).getD n default) (cs.getD (n - 13) default) j = (cs.getD (n - 13) default).methods.getD j default := by unfold methP; rw [if_neg h13]
   rw [hm]
   have hk := kindsZ_list (cs := cs) (j := n - 13) (by omega)
   rw [show 13 + (n - 13) = n by omega] at hk
   refine (refMethodList qb (kindsZ cs) cs n j (n - 13) w hd hn (by omega) (by omega) (by rw [hk]; rfl) (by omega) (by
    have : ((kindsZ cs).getD n default).meths.length = (cs.getD (n - 13) default).methods.length := by rw [hk]; simp [loadZ]
    omega)).mono ?_
   rintro e w' ⟨vc, vt, vm, rfl, hin, ho⟩
   exact MTo.inside hin ho
end
end Go.Proofs.YtemplkpcckmcoaaGreatDoor
namespace Go.Proofs.YtemplkpcckmcoaaGreatDoor
set_option maxHeartbeats 16000000
open Lib (hid)
open Go.RowKit
set_option linter.unusedVariables false
set_option linter.unusedSimpArgs false
def cellsMe (m : MethN) : List Value := [.string m.name, .string m.desc, .int .i64 m.flags]
def MeRow (w : World) (B : Nat) (v : Value) (l : List MethN) : Prop := w.ownsRow B 55 3 v l.length (l.flatMap cellsMe)
theorem cellsMe_at : ∀ {cs : List MethN} {i d : Nat}, i < cs.length → d < 3 → (cs.flatMap cellsMe)[i * 3 + d]? = (cellsMe (cs.getD i default))[d]?
 | c :: r, 0, d, _, hd => by
  rw [List.flatMap_cons, List.getElem?_append_left (by simp [cellsMe]; omega)]
  simp
 | c :: r, i + 1, d, hi, hd => by
  rw [List.flatMap_cons, List.getElem?_append_right (by simp [cellsMe]; omega)]
  have : (i + 1) * 3 + d - (cellsMe c).length = i * 3 + d := by simp [cellsMe]; omega
  rw [this, cellsMe_at (by simpa using hi) hd]
  simp
theorem MeRow.meths {w : World} {B : Nat} {v : Value} {cs : List MethN} (h : MeRow w B v cs) : MethNs w v cs := by
 rcases h.2 with ⟨rfl, hn⟩ | ⟨g, cap, cur, rfl, hb, hg, hnc, hcm, hcs, htake⟩
 ·have : cs = [] := List.eq_nil_of_length_eq_zero hn
  subst this
  exact Sl.nil _
 ·refine ⟨_, cap, rfl, hnc, by unfold maxLen at hcm; omega, (fun e => by cases e), fun x hx _ => ?_⟩
  cases hx
  refine ⟨g, 0, rfl, fun i hi => ?_⟩
  have hc : ∀ d, d < 3 → w.cell? ⟨g, 0 + i * 3 + d, none⟩ = (cellsMe (cs.getD i default))[d]? := fun d hd => by
   rw [Nat.zero_add, ← cellsMe_at hi hd]
   exact (show w.ownsRow B _ 3 _ _ _ from h).cellAt (g := g) (cap := cap) (i * 3 + d) (by omega)
  exact ⟨hc 0 (by decide), hc 1 (by decide), hc 2 (by decide)⟩
theorem MeRow.only {S : Nat → Prop} {w w' : World} {B : Nat} {v : Value} {cs : List MethN} (h : MeRow w B v cs) (ho : Only S w w') (hs : ∀ k, v.ownBlock = some k → ¬ S k) : MeRow w' B v cs := ho.owns h hs
theorem MeRow.ge {w : World} {B : Nat} {v : Value} {cs : List MethN} (h : MeRow w B v cs) : ∀ k, v.ownBlock = some k → B ≤ k ∧ k < w.heap.size := fun k hk => World.ownsRow.lt h k hk
theorem MeRow.nil (w : World) (B : Nat) : MeRow w B (.slice none 0 0) [] := World.ownsRow_nil _ _ _ _
theorem MeRow.slice {w : World} {B : Nat} {v : Value} {l : List MethN} (h : MeRow w B v l) : ∃ ao cap, v = .slice ao l.length cap := by
 obtain ⟨ao, cap, e, -⟩ := slice_of_owns h
 exact ⟨ao, cap, e⟩
theorem MeRow.more {w3 : World} {B : Nat} {v' : Value} {cs : List MethN} {c : MethN} (hown : w3.ownsRow B 55 3 v' (cs.length + 1) (cs.flatMap cellsMe ++ cellsMe c)) : MeRow w3 B v' (cs ++ [c]) := by
 unfold MeRow
 rw [List.length_append, List.flatMap_append]
 simpa using hown
theorem Src.methn {w : World} {m : Nat} (c : MethN) (h : w.heap.size = m) : Src (w.alloc (.cells #[.string c.name, .string c.desc, .int .i64 c.flags] 55)) 3 (.slice (some ⟨m, 0, none⟩) 1 1) 1 (cellsMe c) := by
 subst h
 refine ⟨rfl, ?_, _, 1, rfl, (fun e => by cases e), fun ad hd j u hj => ?_⟩
 ·intro x hx
  simp only [cellsMe, List.mem_cons, List.mem_nil_iff, or_false] at hx
  rcases hx with rfl | rfl | rfl <;> rfl
 ·cases hd
  rw [add_lit, Nat.zero_add, cell_blk (heap_alloc_new w _)]
  simpa [cellsMe] using hj
theorem info_methn : (Tryz.prog.info? 55).map (fun i => (i.zero, i.size, i.bytes)) = some (some (.agg #[.string ⟨#[]⟩, .string ⟨#[]⟩, .int .i64 0]), 3, 40) := by kernel_rfl
structure KdV where
 k : KindV
 vf : Value
 vm : Value
instance : Inhabited KdV := ⟨⟨default, .slice none 0 0, .slice none 0 0⟩⟩
def cellsKd (x : KdV) : List Value := [.string x.k.name, .string x.k.super, x.vf, x.vm, .int .i64 x.k.place]
def KdRow (w : World) (B : Nat) (v : Value) (l : List KdV) : Prop := w.ownsRow B 47 5 v l.length (l.flatMap cellsKd)
theorem cellsKd_at : ∀ {cs : List KdV} {i d : Nat}, i < cs.length → d < 5 → (cs.flatMap cellsKd)[i * 5 + d]? = (cellsKd (cs.getD i default))[d]?
 | c :: r, 0, d, _, hd => by
  rw [List.flatMap_cons, List.getElem?_append_left (by simp [cellsKd]; omega)]
  simp
 | c :: r, i + 1, d, hi, hd => by
  rw [List.flatMap_cons, List.getElem?_append_right (by simp [cellsKd]; omega)]
  have : (i + 1) * 5 + d - (cellsKd c).length = i * 5 + d := by simp [cellsKd]; omega
  rw [this, cellsKd_at (by simpa using hi) hd]
  simp
def KdS (w : World) (v : Value) (l : List KdV) : Prop := Sl v l.length (fun b o i => KindAt w b o i (l.getD i default).k (l.getD i default).vf (l.getD i default).vm)
theorem KdRow.kds {w : World} {B : Nat} {v : Value} {cs : List KdV} (h : KdRow w B v cs) : KdS w v cs := by
 rcases h.2 with ⟨rfl, hn⟩ | ⟨g, cap, cur, rfl, hb, hg, hnc, hcm, hcs, htake⟩
 ·have : cs = [] := List.eq_nil_of_length_eq_zero hn
  subst this
  exact Sl.nil _
 ·refine ⟨_, cap, rfl, hnc, by unfold maxLen at hcm; omega, (fun e => by cases e), fun x hx _ => ?_⟩
  cases hx
  refine ⟨g, 0, rfl, fun i hi => ?_⟩
  have hc : ∀ d, d < 5 → w.cell? ⟨g, 0 + i * 5 + d, none⟩ = (cellsKd (cs.getD i default))[d]? := fun d hd => by
   rw [Nat.zero_add, ← cellsKd_at hi hd]
   exact (show w.ownsRow B _ 5 _ _ _ from h).cellAt (g := g) (cap := cap) (i * 5 + d) (by omega)
  exact ⟨hc 0 (by decide), hc 1 (by decide), hc 2 (by decide), hc 3 (by decide), hc 4 (by decide)⟩
theorem KdRow.only {S : Nat → Prop} {w w' : World} {B : Nat} {v : Value} {cs : List KdV} (h : KdRow w B v cs) (ho : Only S w w') (hs : ∀ k, v.ownBlock = some k → ¬ S k) : KdRow w' B v cs := ho.owns h hs
theorem KdRow.ge {w : World} {B : Nat} {v : Value} {cs : List KdV} (h : KdRow w B v cs) : ∀ k, v.ownBlock = some k → B ≤ k ∧ k < w.heap.size := fun k hk => World.ownsRow.lt h k hk
theorem KdRow.slice {w : World} {B : Nat} {v : Value} {l : List KdV} (h : KdRow w B v l) : ∃ ao cap, v = .slice ao l.length cap := by
 obtain ⟨ao, cap, e, -⟩ := slice_of_owns h
 exact ⟨ao, cap, e⟩
theorem KdRow.more {w3 : World} {B : Nat} {v' : Value} {cs : List KdV} {c : KdV} (hown : w3.ownsRow B 47 5 v' (cs.length + 1) (cs.flatMap cellsKd ++ cellsKd c)) : KdRow w3 B v' (cs ++ [c]) := by
 unfold KdRow
 rw [List.length_append, List.flatMap_append]
 simpa using hown
theorem Src.kind {w : World} {m : Nat} (n s : ByteArray) (vf vm : Value) (p : Int) (x : KdV) (hx : cellsKd x = [.string n, .string s, vf, vm, .int .i64 p]) (hf : vf.oneCell' = true) (hm : vm.oneCell' = true) (h : w.heap.size = m) : Src (w.alloc (.cells #[.string n, .string s, vf, vm, .int .i64 p] 47)) 5 (.slice (some ⟨m, 0, none⟩) 1 1) 1 (cellsKd x) := by
 subst h
 rw [hx]
 refine ⟨rfl, ?_, _, 1, rfl, (fun e => by cases e), fun ad hd j u' hj => ?_⟩
 ·intro x hx
  simp only [List.mem_cons, List.mem_nil_iff, or_false] at hx
  rcases hx with rfl | rfl | rfl | rfl | rfl
  ·rfl
  ·rfl
  ·exact hf
  ·exact hm
  ·rfl
 ·cases hd
  rw [add_lit, Nat.zero_add, cell_blk (heap_alloc_new w _)]
  simpa using hj
theorem info_kindd : (Tryz.prog.info? 47).map (fun i => (i.zero, i.size, i.bytes)) = some (some (.agg #[.string ⟨#[]⟩, .string ⟨#[]⟩, .slice none 0 0, .slice none 0 0, .int .i64 0]), 5, 88) := by kernel_rfl
theorem KdS.kinds {w : World} {v : Value} {l : List KdV} (h : KdS w v l) (hm : ∀ x ∈ l, MethNs w x.vf x.k.fields ∧ MethNs w x.vm x.k.meths) : Kinds w v (l.map KdV.k) := by
 have hg : ∀ i, i < l.length → (l.map KdV.k).getD i default = (l.getD i default).k := fun i hi => by simp [List.getD, hi]
 refine ⟨fun i => ((l.getD i default).vf, (l.getD i default).vm), ?_, fun i hi => ?_⟩
 ·rw [List.length_map]
  exact h.imp (fun b o i _ hi hk => by rw [hg i hi]; exact hk)
 ·rw [List.length_map] at hi
  rw [hg i hi]
  refine hm _ ?_
  rw [show l.getD i default = l[i] by simp [List.getD, hi]]
  exact List.getElem_mem hi
end Go.Proofs.YtemplkpcckmcoaaGreatDoor
