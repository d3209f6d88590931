import Derived.Test.YtgdgffnaknkbcaaGreatDoorMiLpNIxB
import Derived.Test.YtgdgffnaknkbcaaGreatDoorMiLpRhLpRi
import Derived.Test.YtgdgffnaknkbcaaGreatDoorMiLpUPolZ
import Derived.Test.YtgdgffnaknkbcaaGreatDoorMiPolNClsJ
import Derived.Test.YtgdgffnaknkbcaaGreatDoorMiLpHLpI
import Derived.Test.YtgdgffnaknkbcaaGreatDoorMiLnkOLnkP
import Derived.Test.YtgdgffnaknkbcaaGreatDoorMiLnkUKndO
import Derived.Test.YtgdgffnaknkbcaaGreatDoorMiLnkFKndT
namespace Go.Proofs.YtgdgffnaknkbcaaGreatDoor
open Go.RowKit Go.Maps
set_option linter.unusedVariables false
set_option linter.unusedSimpArgs false
theorem right_good {cs : List ClassV} (h0 : ∀ c ∈ cs, clsZ c = 0) (hl : cs.length ≤ 16) (h : RightK (kindsZ cs)) : GoodK (kindsZ cs) := by
 have hh := (rules_right h0).2 h
 exact rules_good h0 hl hh.r1 hh.r2
structure MadeP (fv : Nat → Value) (w : World) (pb : Nat) (cs : List ClassV) (cl : Nat → ClassV) : Prop where
 prog : ProgG (fun b => ∃ i, i < (kindsZ cs).length ∧ (fv i).ownBlock = some b) fv w pb (kindsZ cs) cl (fun a p => (slotAt (kindsZ cs) a p : Int))
 cls : ∀ i, 13 ≤ i → i < (kindsZ cs).length → cl i = cs.getD (i - 13) default
theorem MadeP.only {fv : Nat → Value} {w w' : World} {pb : Nat} {cs : List ClassV} {cl : Nat → ClassV} (h : MadeP fv w pb cs cl) (ho : Only (fun _ => False) w w') : MadeP fv w' pb cs cl := ⟨h.prog.only ho, h.cls⟩
def BuildTo (w : World) (cs : List ClassV) (e : Ending) (w' : World) : Prop :=
 Only (fun _ => False) w w' ∧ ((buildZ cs ≠ 0 ∧ e = .returned (.tuple #[.pointer none, .int .i64 (buildZ cs)])) ∨
  (buildZ cs = 0 ∧ ∃ pb fv cl, e = .returned (.tuple #[.pointer (some ⟨pb, 0, none⟩), .int .i64 0]) ∧ MadeP fv w' pb cs cl))
theorem build_long {cs : List ClassV} (h : 16 < cs.length) : buildZ cs = 2 := by unfold buildZ; rw [if_pos h]
theorem build_err {cs : List ClassV} (h : ¬ 16 < cs.length) (he : errsC cs ≠ 0) : buildZ cs = errsC cs := by unfold buildZ; rw [if_neg h, if_pos he]
theorem build_no {cs : List ClassV} (h : ¬ 16 < cs.length) (he : errsC cs = 0) (hr : ¬ RightK (kindsZ cs)) : buildZ cs = 90 := by unfold buildZ; rw [if_neg h, if_neg (by simp [he]), if_neg hr]
theorem build_yes {cs : List ClassV} (h : ¬ 16 < cs.length) (he : errsC cs = 0) (hr : RightK (kindsZ cs)) : buildZ cs = 0 := by unfold buildZ; rw [if_neg h, if_neg (by simp [he]), if_pos hr]
theorem build_zero {cs : List ClassV} (h : buildZ cs = 0) : cs.length ≤ 16 ∧ (∀ c ∈ cs, clsZ c = 0) ∧ RightK (kindsZ cs) := by
 unfold buildZ at h
 by_cases h1 : 16 < cs.length
 ·rw [if_pos h1] at h; exact absurd h (by decide)
 ·rw [if_neg h1] at h
  by_cases h2 : errsC cs ≠ 0
  ·rw [if_pos h2] at h; exact absurd h h2
  ·rw [if_neg h2] at h
   by_cases h3 : RightK (kindsZ cs)
   ·exact ⟨by omega, errsC_zero (by omega), h3⟩
   ·rw [if_neg h3] at h; exact absurd h (by decide)
set_option maxHeartbeats 16000000 in
set_option maxRecDepth 100000 in
theorem pBuild (v : Value) (cs : List ClassV) (w : World) (hc : Classes w v cs) (hT : Tabs w) (hg : ErrV w) :
  Calls Tryz.prog 9 #[v] w (BuildTo w cs) := by
 have hc0 := hc
 obtain ⟨f, hsl, hcm⟩ := hc
 obtain ⟨ao, cap, rfl, p1, p2, p3, -⟩ := id hsl
 have HSL := Lib.hid hsl
 have HCM := Lib.hid hcm
 have HC0 := Lib.hid hc0
 have HT := Lib.hid hT
 have HGV := Lib.hid hg
 clear hsl hcm hc0 hT hg p3
 go_enter Tryz.func9, Tryz.ntmps9
 by_cases h16 : 16 < cs.length
 ·have hz : (16 : Int) < (cs.length : Int) := by omega
  have HB := Lib.hid (build_long h16)
  clear h16
  go_wp2
  go_ret2
  exact ⟨Only.refl _ _, .inl ⟨by rw [HB.out]; decide, by rw [HB.out]; rfl⟩⟩
 have hz : ¬ (16 : Int) < (cs.length : Int) := by omega
 have H16 := Lib.hid h16
 have hcz : ((cs.length : Nat) : Int) ≤ 16 := by omega
 have HCL := Lib.hid (show cs.length ≤ 16 by omega)
 clear h16
 go_wp2
 clear hz
 go_loopw [5, 6, 13] (fun _ _ iv wr => ∃ j : Nat, iv = .int .i64 j ∧ j ≤ cs.length ∧ Hid (errsC cs = errsC (cs.drop j)) ∧ Hid (Only (fun _ => False) w wr)) (fun _ _ iv _ => cs.length - (intOf iv).toNat)
 case atStart => exact ⟨0, rfl, Nat.zero_le _, Lib.hid rfl, Lib.hid (Only.refl _ _)⟩
 case round =>
  obtain ⟨j, rfl, hj, HE, HON⟩ := hrel
  by_cases hlt : j < cs.length
  ·have hjz : (j : Int) < (cs.length : Int) := by omega
   have hj0 : (0 : Int) ≤ (j : Int) := by omega
   have HST := Lib.hid (errsC_at hlt)
   rw [← HE.out] at HST
   obtain ⟨b, o, rfl, y⟩ := Sl.at HSL.out hlt
   obtain ⟨y0, y1, y2, y3, y4⟩ := y
   have y0 := HON.out.cell y0 (fun h => h)
   have y1 := HON.out.cell y1 (fun h => h)
   have y2 := HON.out.cell y2 (fun h => h)
   have y3 := HON.out.cell y3 (fun h => h)
   have y4 := HON.out.cell y4 (fun h => h)
   have hcj := HCM.out j hlt
   generalize (f j).1 = vp at *
   generalize (f j).2.1 = vf at *
   generalize (f j).2.2 = vm at *
   obtain ⟨z1, z2, rfl, -⟩ := id hcj.1
   obtain ⟨z3, z4, rfl, -⟩ := id hcj.2.1.1
   obtain ⟨gm, hgm, -, -⟩ := id hcj.2.2.1
   obtain ⟨z5, z6, rfl, -⟩ := id hgm
   clear hgm
   obtain ⟨vp, hvp⟩ : ∃ x, x = Value.slice z1 (cs.getD j default).pool.length z2 := ⟨_, rfl⟩
   obtain ⟨vf, hvf⟩ : ∃ x, x = Value.slice z3 (cs.getD j default).fields.length z4 := ⟨_, rfl⟩
   obtain ⟨vm, hvm⟩ : ∃ x, x = Value.slice z5 (cs.getD j default).methods.length z6 := ⟨_, rfl⟩
   obtain ⟨c, hcc⟩ : ∃ c, cs.getD j default = c := ⟨_, rfl⟩
   rw [hcc] at y0 y1 y2 y3 y4 hcj HST hvp hvf hvm
   rw [← hvp, ← hvf, ← hvm] at hcj
   have hal := (Only.refl (fun _ => False) wr).alloc (.cells #[vp, .int .i64 c.this, .int .i64 c.super, vf, vm] 77)
   have hoa := HON.out.trans hal (fun _ h _ => h)
   have C1 := Lib.hid (progClsCheck vp vf vm c _ (by obtain ⟨a1, a2, a3, a4, a5⟩ := hcj; exact ⟨a1.only hoa (fun _ _ h => h), a2.only hoa, a3.only hoa, a4, a5⟩) (HT.out.only hoa (fun h => h) (fun h => h)) (HGV.out.only hoa (fun h => h)))
   have HOA := Lib.hid hoa
   rw [hvp, hvf, hvm] at C1 HOA
   clear hcj hal hoa hcc hvp hvf hvm
   by_cases hz0 : clsZ c = 0
   ·have HE2 := Lib.hid (show errsC cs = errsC (cs.drop (j + 1)) by rw [HST.out, if_neg (by simp [hz0])])
    rw [hz0] at C1
    clear hz0
    go_wp2_with (fail)
    refine C1.out.mono ?_
    rintro e w5 ⟨rfl, ho5⟩
    have HO5 := Lib.hid (HOA.out.trans ho5 (fun _ h _ => h))
    clear ho5 y0 y1 y2 y3 y4
    go_wp2
    go_roundw
    case rel => exact ⟨j + 1, by go_num, by omega, HE2, HO5⟩
    case measure => simp [intOf]; omega
   ·have HE2 := Lib.hid (show errsC cs = clsZ c by rw [HST.out, if_pos hz0])
    have HB := Lib.hid (show buildZ cs = clsZ c by rw [build_err H16.out (by rw [HE2.out]; exact hz0), HE2.out])
    have HZ0 := Lib.hid hz0
    have hzb : (clsZ c != 0) = true := by simpa using hz0
    generalize clsZ c = ec at *
    clear hz0
    go_wp2_with (fail)
    refine C1.out.mono ?_
    rintro e w5 ⟨rfl, ho5⟩
    have HO5 := Lib.hid (HOA.out.trans ho5 (fun _ h _ => h))
    clear ho5 y0 y1 y2 y3 y4
    go_wp2
    go_ret2
    exact ⟨HO5.out, .inl ⟨by rw [HB.out]; exact HZ0.out, by rw [HB.out]; rfl⟩⟩
  ·obtain rfl : j = cs.length := by omega
   have HE0 := Lib.hid (show errsC cs = 0 by rw [HE.out, List.drop_of_length_le (Nat.le_refl _)]; rfl)
   have HAL := Lib.hid (errsC_zero HE0.out)
   have CG := Lib.hid (pGather _ cs wr (HC0.out.only HON.out) HAL.out HCL.out)
   clear hlt hj
   go_wp2_with (fail)
   refine CG.out.mono ?_
   rintro e w5 ⟨pb, fv, cl, rfl, hpb, hprog, ⟨ho5, hown, hcls⟩⟩
   have CR := Lib.hid (pIsRight hprog HAL.out HCL.out)
   have HP := Lib.hid hprog
   have HOWN := Lib.hid hown
   have HCLS := Lib.hid hcls
   have HO5 := Lib.hid (HON.out.trans ho5 (fun _ h _ => h))
   have HSZ := Lib.hid HON.out.size
   clear hprog hown hcls ho5 CG
   go_wp2_with (fail)
   refine CR.out.mono ?_
   rintro e w6 ⟨⟨bb, rfl, hb⟩, ho6⟩
   have HO6 := Lib.hid (HO5.out.trans ho6 (fun _ h _ => h))
   have HB := Lib.hid hb
   have HP6 := Lib.hid (HP.out.only ho6)
   clear hb ho6 CR
   cases bb
   ·have HZ := Lib.hid (build_no H16.out HE0.out (fun hr => absurd (HB.out.2 hr) (by decide)))
    go_wp2
    go_ret2
    exact ⟨HO6.out, .inl ⟨by rw [HZ.out]; decide, by rw [HZ.out]; rfl⟩⟩
   ·have hr := HB.out.1 rfl
    have HZ := Lib.hid (build_yes H16.out HE0.out hr)
    have CL := Lib.hid (pLay HP6.out (right_good HAL.out HCL.out hr))
    clear hr
    go_wp2_with (fail)
    refine CL.out.mono ?_
    rintro e w7 ⟨rfl, hp7, ho7⟩
    have HO7 := Lib.hid (HO6.out.trans ho7 (fun k hk hlt => by obtain ⟨i, hi, he⟩ := hk; have := HOWN.out i k hi he; have := HSZ.out; omega))
    have HP7 := Lib.hid hp7
    clear hp7 ho7
    go_wp2
    go_ret2
    exact ⟨HO7.out, .inr ⟨HZ.out, pb, fv, cl, rfl, HP7.out, HCLS.out⟩⟩
end Go.Proofs.YtgdgffnaknkbcaaGreatDoor
namespace Go.Proofs.YtgdgffnaknkbcaaGreatDoor
open Go.RowKit
set_option linter.unusedVariables false
set_option linter.unusedSimpArgs false
theorem tops_mem {ks : List KindV} (he : EndsAll ks) : ∀ (f : Nat) (x : Nat), x < ks.length → topsF ks f (x : Int) = true → 0 ∈ upZ ks (x : Int)
 | 0, x, _, h => by cases h
 | f + 1, x, hx, h => by
  rw [upZ_step he hx]
  by_cases h0 : x = 0
  ·subst h0; exact List.mem_cons_self ..
  rw [topsF, if_neg (by omega)] at h
  rcases superZ_cases ks (x : Int) with e | ⟨i, hi, e⟩
  ·rw [e, if_pos (by decide)] at h; cases h
  ·rw [e] at h ⊢
   rw [if_neg (by omega)] at h
   split at h
   ·cases h
   ·exact List.mem_cons_of_mem _ (tops_mem he f i hi h)
theorem below_up {ks : List KindV} (he : EndsAll ks) (hon : NamesOnce ks) (hroot : findZ ks (ks.getD 0 default).super = -1) {b : Nat} (hb : b < ks.length) : ∀ (n a : Nat), a < ks.length → (upZ ks (a : Int)).length ≤ n + 1 → (belowN (treeZ ks) (ks.getD b default).name n (ks.getD a default).name = true ↔ b ∈ upZ ks (a : Int))
 | n, a, ha, hn => by
  have hst := upZ_step he ha
  have hpa : pairOf (treeZ ks) (ks.getD a default).name = (a : Int) := hon a ha
  have hpb : findZ ks (ks.getD b default).name = (b : Int) := hon b hb
  rw [hst] at hn ⊢
  by_cases hab : a = b
  ·subst hab
   rw [belowN_same]
   simp
  have hne : (ks.getD a default).name ≠ (ks.getD b default).name := fun e => by
   have h1 := hon a ha
   rw [e, hpb] at h1
   omega
  have hsu : superZ ks (a : Int) = findZ ks (ks.getD a default).super := by
   by_cases h0 : a = 0
   ·subst h0; rw [hroot]; exact super_zero ks
   ·exact super_list (by omega) ha
  have hmem : b ∈ a :: upZ ks (superZ ks (a : Int)) ↔ b ∈ upZ ks (superZ ks (a : Int)) := by
   rw [List.mem_cons]
   exact ⟨fun h => h.resolve_left (fun e => hab e.symm), .inr⟩
  rw [hmem]
  rcases findZ_cases ks (ks.getD a default).super with e | ⟨i, hi, e⟩
  ·rw [hsu, e, upZ_end (by decide)]
   have hso : (ks.getD a default).super ≠ (ks.getD b default).name := fun h => by rw [h, hpb] at e; omega
   cases n with
   | zero => rw [belowN_last hne]; simp
   | succ n =>
    rw [belowN_step hne hpa, treeZ_at ha, show (PairV.super ⟨(ks.getD a default).name, (ks.getD a default).super⟩) = (ks.getD a default).super from rfl, belowN_none hso e]
    simp
  ·have hh := find_hit e
   rw [hsu, e] at hn ⊢
   cases n with
   | zero =>
    rw [upZ_step he hi] at hn
    simp at hn
   | succ n =>
    rw [belowN_step hne hpa, treeZ_at ha, show (PairV.super ⟨(ks.getD a default).name, (ks.getD a default).super⟩) = (ks.getD a default).super from rfl, ← hh.2]
    exact below_up he hon hroot hb n i hi (by simpa using hn)
section
variable {cs : List ClassV} (h0 : ∀ c ∈ cs, clsZ c = 0) (hl : cs.length ≤ 16) (hR : RightK (kindsZ cs))
include h0 hl hR
end
theorem slots_super {ks : List KindV} (he : EndsAll ks) {j : Nat} (hj : j < ks.length) : slotsAny ks (j : Int) = slotsAny ks (superZ ks (j : Int)) ++ typesZ 0 (ks.getD j default).fields := by
 have h1 := superZ_lt ks (j : Int)
 unfold slotsAny
 rw [if_neg (by omega), if_neg (by omega), slotsZ_step he hj]
theorem slotsAny_le {ks : List KindV} (hg : GoodK ks) (x : Int) : (slotsAny ks x).length ≤ 4160 := by
 by_cases h : (ks.length : Int) ≤ x
 ·unfold slotsAny; rw [if_pos h]; exact Nat.zero_le _
 ·rw [slotsAny_len (by omega)]
  exact slotsN_small hg.small hg.ends (by omega)
theorem subN_chain {ks : List KindV} {b : Int} : ∀ (f : Nat) (a : Int), a < ks.length → subN ks b f a = (chain ks f a).any (fun j => (j : Int) == b)
 | 0, a, _ => rfl
 | f + 1, a, ha => by
  rw [subN, chain_succ]
  by_cases h0 : a < 0
  ·rw [if_pos h0, if_pos h0]; rfl
  ·rw [if_neg h0, if_neg (by omega), if_neg h0, List.any_cons, subN_chain f _ (superZ_lt ks a)]
   have ht : ((a.toNat : Nat) : Int) = a := by omega
   rw [ht]
   by_cases hab : a = b
   ·rw [if_pos hab, beq_iff_eq.2 hab, Bool.true_or]
   ·rw [if_neg hab, beq_eq_false_iff_ne.2 hab, Bool.false_or]
theorem field_same (ks : List KindV) (c n d : ByteArray) : fieldP ks (fun a p => (slotAt ks a p : Int)) c n d = docField ks c n d := rfl
set_option linter.unusedSectionVars false
theorem typesZ_app (f : Int) (a b : List MethN) : typesZ f (a ++ b) = typesZ f a ++ typesZ f b := by unfold typesZ; rw [List.filter_append, List.map_append]
theorem typesZ_split {f : Int} {l : List MethN} {i : Nat} (h : i < l.length) (hf : (l.getD i default).flags = f) : typesZ f l = typesZ f (l.take i) ++ (typeZ (l.getD i default) :: typesZ f (l.drop (i + 1))) := by
 have h1 := typesZ_take (f := f) h
 rw [if_pos hf] at h1
 conv => lhs; rw [← List.take_append_drop (i + 1) l, typesZ_app, h1]
 simp
theorem getD_mid {α : Type} [Inhabited α] {a b : List α} {x : α} {n : Nat} (h : n = a.length) : (a ++ (x :: b)).getD n default = x ∧ n < (a ++ (x :: b)).length := by
 subst h
 exact ⟨by simp [List.getD], by simp⟩
theorem staticsZ_more {ks : List KindV} {n : Nat} (hn : n < ks.length) : ∀ L, n < L → L ≤ ks.length → ∃ r, staticsZ ks L = staticsZ ks n ++ (typesZ 8 (ks.getD n default).fields ++ r)
 | 0, h, _ => absurd h (Nat.not_lt_zero _)
 | L + 1, h, hL => by
  rw [staticsZ_step (by omega)]
  by_cases e : L = n
  ·subst e
   exact ⟨[], by simp⟩
  ·obtain ⟨r, hr⟩ := staticsZ_more hn L (by omega) (by omega)
   rw [hr]
   exact ⟨r ++ typesZ 8 (ks.getD L default).fields, by simp⟩
section
variable {ks : List KindV} (hg : GoodK ks) (hm : ∀ j, 13 ≤ j → j < ks.length → MembersOK (ks.getD j default))
include hg hm
theorem field_found {n i : Nat} (h13 : 13 ≤ n) (hn : n < ks.length) (hi : i < (ks.getD n default).fields.length) :
  docField ks (ks.getD n default).name ((ks.getD n default).fields.getD i default).name ((ks.getD n default).fields.getD i default).desc = some ⟨n, i, ((ks.getD n default).fields.getD i default).desc, ((ks.getD n default).fields.getD i default).flags == 8, (slotAt ks n i : Int)⟩ := by
 have hok := ((hm n h13 hn).1 i hi).2.2
 unfold docField
 rw [hg.once n hn, upZ_step hg.ends hn, firstO]
 unfold fieldAt
 rw [hok, if_neg (by omega), Int.toNat_natCast]
omit hm in
theorem slot_static {n i : Nat} (hn : n < ks.length) (hi : i < (ks.getD n default).fields.length) (hf : ((ks.getD n default).fields.getD i default).flags = 8) :
  (staticsZ ks ks.length).getD (slotAt ks n i) default = typeZ ((ks.getD n default).fields.getD i default) ∧ slotAt ks n i < (staticsZ ks ks.length).length := by
 obtain ⟨r, hr⟩ := staticsZ_more hn ks.length hn (Nat.le_refl _)
 rw [hr, typesZ_split hi hf]
 have := getD_mid (a := staticsZ ks n ++ typesZ 8 ((ks.getD n default).fields.take i)) (b := typesZ 8 ((ks.getD n default).fields.drop (i + 1)) ++ r) (x := typeZ ((ks.getD n default).fields.getD i default)) (n := slotAt ks n i) (by
  unfold slotAt
  rw [if_pos hf, List.length_append, staticsZ_len (Nat.le_of_lt hn), typesZ_len])
 simpa using this
omit hm in
theorem slot_own {n i : Nat} (hn : n < ks.length) (hi : i < (ks.getD n default).fields.length) (hf : ((ks.getD n default).fields.getD i default).flags ≠ 8) :
  (slotsAny ks (n : Int)).getD (slotAt ks n i) default = typeZ ((ks.getD n default).fields.getD i default) ∧ slotAt ks n i < (slotsAny ks (n : Int)).length := by
 have h0 : ((ks.getD n default).fields.getD i default).flags = 0 := ((hg.fine _ (getD_memK hn)).ff _ (getD_memM hi)).resolve_right hf
 rw [slots_super hg.ends hn, typesZ_split hi h0]
 have := getD_mid (a := slotsAny ks (superZ ks n) ++ typesZ 0 ((ks.getD n default).fields.take i)) (b := typesZ 0 ((ks.getD n default).fields.drop (i + 1))) (x := typeZ ((ks.getD n default).fields.getD i default)) (n := slotAt ks n i) (by
  unfold slotAt
  rw [if_neg hf, List.length_append, slotsAny_len (superZ_lt ks n), typesZ_len])
 simpa using this
end
def aheadN (ks : List KindV) (n i : Nat) : Nat := staticsN ks n + countL 8 ((ks.getD n default).fields.take i)
theorem slot_ahead {ks : List KindV} {n i : Nat} (hf : ((ks.getD n default).fields.getD i default).flags = 8) : slotAt ks n i = aheadN ks n i := by unfold slotAt aheadN; rw [if_pos hf]
theorem ahead_yes {ks : List KindV} {n i : Nat} (hi : i < (ks.getD n default).fields.length) (hf : ((ks.getD n default).fields.getD i default).flags = 8) : aheadN ks n (i + 1) = aheadN ks n i + 1 := by
 unfold aheadN; rw [countL_take hi, if_pos hf]; omega
theorem ahead_no {ks : List KindV} {n i : Nat} (hi : i < (ks.getD n default).fields.length) (hf : ((ks.getD n default).fields.getD i default).flags ≠ 8) : aheadN ks n (i + 1) = aheadN ks n i := by
 unfold aheadN; rw [countL_take hi, if_neg hf]; omega
theorem ahead_zero (ks : List KindV) (n : Nat) : aheadN ks n 0 = staticsN ks n := by simp [aheadN, countL]
theorem ahead_end {ks : List KindV} {n : Nat} (hn : n < ks.length) : aheadN ks n (ks.getD n default).fields.length = staticsN ks (n + 1) := by
 unfold aheadN; rw [List.take_length, staticsN_step hn]
theorem statics_built (cs : List ClassV) : ∀ n, n ≤ 13 → staticsN (kindsZ cs) n = 0
 | 0, _ => rfl
 | n + 1, h => by
  have hl := kindsZ_len cs
  rw [staticsN_step (by omega), statics_built cs n (by omega), kindsZ_built (by omega)]
  have : ∀ n, n < 13 → (builtK.getD n default).fields = [] := by decide
  rw [this n (by omega)]
  rfl
def seenA (L m : Nat) : Array Value := (List.replicate m (Value.bool true) ++ List.replicate (L - m) (Value.bool false)).toArray
theorem seenA_at {L m : Nat} (h : m < L) : (seenA L m)[m]? = some (.bool false) := by
 unfold seenA
 rw [List.getElem?_toArray, List.getElem?_append_right (by simp), List.length_replicate, Nat.sub_self, List.getElem?_replicate, if_pos (by omega)]
theorem seenA_set {L m : Nat} (h : m < L) : (seenA L m).setIfInBounds m (.bool true) = seenA L (m + 1) := by
 unfold seenA
 apply Array.ext'
 simp only [List.setIfInBounds_toArray]
 rw [List.set_append_right _ _ (by simp), List.length_replicate, Nat.sub_self]
 obtain ⟨d, hd⟩ : ∃ d, L - m = d + 1 := ⟨L - m - 1, by omega⟩
 rw [hd, List.replicate_succ, List.set_cons_zero, show L - (m + 1) = d by omega, List.replicate_succ', List.append_assoc]
 rfl
def cellsMe (m : MethN) : List Value := [.string m.name, .string m.desc, .int .i64 m.flags]
def MeRow (w : World) (B : Nat) (v : Value) (l : List MethN) : Prop := w.ownsRow B 61 3 v l.length (l.flatMap cellsMe)
theorem cellsMe_at : ∀ {cs : List MethN} {i d : Nat}, i < cs.length → d < 3 → (cs.flatMap cellsMe)[i * 3 + d]? = (cellsMe (cs.getD i default))[d]?
 | c :: r, 0, d, _, hd => by
  rw [List.flatMap_cons, List.getElem?_append_left (by simp [cellsMe]; omega)]
  simp
 | c :: r, i + 1, d, hi, hd => by
  rw [List.flatMap_cons, List.getElem?_append_right (by simp [cellsMe]; omega)]
  have : (i + 1) * 3 + d - (cellsMe c).length = i * 3 + d := by simp [cellsMe]; omega
  rw [this, cellsMe_at (by simpa using hi) hd]
  simp
theorem MeRow.meths {w : World} {B : Nat} {v : Value} {cs : List MethN} (h : MeRow w B v cs) : MethNs w v cs := by
 rcases h.2 with ⟨rfl, hn⟩ | ⟨g, cap, cur, rfl, hb, hg, hnc, hcm, hcs, htake⟩
 ·have : cs = [] := List.eq_nil_of_length_eq_zero hn
  subst this
  exact Sl.nil _
 ·refine ⟨_, cap, rfl, hnc, by unfold maxLen at hcm; omega, (fun e => by cases e), fun x hx _ => ?_⟩
  cases hx
  refine ⟨g, 0, rfl, fun i hi => ?_⟩
  have hc : ∀ d, d < 3 → w.cell? ⟨g, 0 + i * 3 + d, none⟩ = (cellsMe (cs.getD i default))[d]? := fun d hd => by
   rw [Nat.zero_add, ← cellsMe_at hi hd]
   exact (show w.ownsRow B _ 3 _ _ _ from h).cellAt (g := g) (cap := cap) (i * 3 + d) (by omega)
  exact ⟨hc 0 (by decide), hc 1 (by decide), hc 2 (by decide)⟩
theorem MeRow.only {S : Nat → Prop} {w w' : World} {B : Nat} {v : Value} {cs : List MethN} (h : MeRow w B v cs) (ho : Only S w w') (hs : ∀ k, v.ownBlock = some k → ¬ S k) : MeRow w' B v cs := ho.owns h hs
theorem MeRow.ge {w : World} {B : Nat} {v : Value} {cs : List MethN} (h : MeRow w B v cs) : ∀ k, v.ownBlock = some k → B ≤ k ∧ k < w.heap.size := fun k hk => World.ownsRow.lt h k hk
theorem MeRow.nil (w : World) (B : Nat) : MeRow w B (.slice none 0 0) [] := World.ownsRow_nil _ _ _ _
theorem MeRow.slice {w : World} {B : Nat} {v : Value} {l : List MethN} (h : MeRow w B v l) : ∃ ao cap, v = .slice ao l.length cap := by
 obtain ⟨ao, cap, e, -⟩ := slice_of_owns h
 exact ⟨ao, cap, e⟩
theorem MeRow.more {w3 : World} {B : Nat} {v' : Value} {cs : List MethN} {c : MethN} (hown : w3.ownsRow B 61 3 v' (cs.length + 1) (cs.flatMap cellsMe ++ cellsMe c)) : MeRow w3 B v' (cs ++ [c]) := by
 unfold MeRow
 rw [List.length_append, List.flatMap_append]
 simpa using hown
theorem Src.methn {w : World} {m : Nat} (c : MethN) (h : w.heap.size = m) : Src (w.alloc (.cells #[.string c.name, .string c.desc, .int .i64 c.flags] 61)) 3 (.slice (some ⟨m, 0, none⟩) 1 1) 1 (cellsMe c) := by
 subst h
 refine ⟨rfl, ?_, _, 1, rfl, (fun e => by cases e), fun ad hd j u hj => ?_⟩
 ·intro x hx
  simp only [cellsMe, List.mem_cons, List.mem_nil_iff, or_false] at hx
  rcases hx with rfl | rfl | rfl <;> rfl
 ·cases hd
  rw [add_lit, Nat.zero_add, cell_blk (heap_alloc_new w _)]
  simpa [cellsMe] using hj
theorem info_methn : (Tryz.prog.info? 61).map (fun i => (i.zero, i.size, i.bytes)) = some (some (.agg #[.string ⟨#[]⟩, .string ⟨#[]⟩, .int .i64 0]), 3, 40) := by kernel_rfl
structure KdV where
 k : KindV
 vf : Value
 vm : Value
instance : Inhabited KdV := ⟨⟨default, .slice none 0 0, .slice none 0 0⟩⟩
def cellsKd (x : KdV) : List Value := [.string x.k.name, .string x.k.super, x.vf, x.vm, .int .i64 x.k.place]
def KdRow (w : World) (B : Nat) (v : Value) (l : List KdV) : Prop := w.ownsRow B 59 5 v l.length (l.flatMap cellsKd)
theorem cellsKd_at : ∀ {cs : List KdV} {i d : Nat}, i < cs.length → d < 5 → (cs.flatMap cellsKd)[i * 5 + d]? = (cellsKd (cs.getD i default))[d]?
 | c :: r, 0, d, _, hd => by
  rw [List.flatMap_cons, List.getElem?_append_left (by simp [cellsKd]; omega)]
  simp
 | c :: r, i + 1, d, hi, hd => by
  rw [List.flatMap_cons, List.getElem?_append_right (by simp [cellsKd]; omega)]
  have : (i + 1) * 5 + d - (cellsKd c).length = i * 5 + d := by simp [cellsKd]; omega
  rw [this, cellsKd_at (by simpa using hi) hd]
  simp
def KdS (w : World) (v : Value) (l : List KdV) : Prop := Sl v l.length (fun b o i => KindAt w b o i (l.getD i default).k (l.getD i default).vf (l.getD i default).vm)
theorem KdRow.kds {w : World} {B : Nat} {v : Value} {cs : List KdV} (h : KdRow w B v cs) : KdS w v cs := by
 rcases h.2 with ⟨rfl, hn⟩ | ⟨g, cap, cur, rfl, hb, hg, hnc, hcm, hcs, htake⟩
 ·have : cs = [] := List.eq_nil_of_length_eq_zero hn
  subst this
  exact Sl.nil _
 ·refine ⟨_, cap, rfl, hnc, by unfold maxLen at hcm; omega, (fun e => by cases e), fun x hx _ => ?_⟩
  cases hx
  refine ⟨g, 0, rfl, fun i hi => ?_⟩
  have hc : ∀ d, d < 5 → w.cell? ⟨g, 0 + i * 5 + d, none⟩ = (cellsKd (cs.getD i default))[d]? := fun d hd => by
   rw [Nat.zero_add, ← cellsKd_at hi hd]
   exact (show w.ownsRow B _ 5 _ _ _ from h).cellAt (g := g) (cap := cap) (i * 5 + d) (by omega)
  exact ⟨hc 0 (by decide), hc 1 (by decide), hc 2 (by decide), hc 3 (by decide), hc 4 (by decide)⟩
theorem KdRow.only {S : Nat → Prop} {w w' : World} {B : Nat} {v : Value} {cs : List KdV} (h : KdRow w B v cs) (ho : Only S w w') (hs : ∀ k, v.ownBlock = some k → ¬ S k) : KdRow w' B v cs := ho.owns h hs
theorem KdRow.ge {w : World} {B : Nat} {v : Value} {cs : List KdV} (h : KdRow w B v cs) : ∀ k, v.ownBlock = some k → B ≤ k ∧ k < w.heap.size := fun k hk => World.ownsRow.lt h k hk
theorem KdRow.slice {w : World} {B : Nat} {v : Value} {l : List KdV} (h : KdRow w B v l) : ∃ ao cap, v = .slice ao l.length cap := by
 obtain ⟨ao, cap, e, -⟩ := slice_of_owns h
 exact ⟨ao, cap, e⟩
theorem KdRow.more {w3 : World} {B : Nat} {v' : Value} {cs : List KdV} {c : KdV} (hown : w3.ownsRow B 59 5 v' (cs.length + 1) (cs.flatMap cellsKd ++ cellsKd c)) : KdRow w3 B v' (cs ++ [c]) := by
 unfold KdRow
 rw [List.length_append, List.flatMap_append]
 simpa using hown
theorem Src.kind {w : World} {m : Nat} (n s : ByteArray) (vf vm : Value) (p : Int) (x : KdV) (hx : cellsKd x = [.string n, .string s, vf, vm, .int .i64 p]) (hf : vf.oneCell' = true) (hm : vm.oneCell' = true) (h : w.heap.size = m) : Src (w.alloc (.cells #[.string n, .string s, vf, vm, .int .i64 p] 59)) 5 (.slice (some ⟨m, 0, none⟩) 1 1) 1 (cellsKd x) := by
 subst h
 rw [hx]
 refine ⟨rfl, ?_, _, 1, rfl, (fun e => by cases e), fun ad hd j u' hj => ?_⟩
 ·intro x hx
  simp only [List.mem_cons, List.mem_nil_iff, or_false] at hx
  rcases hx with rfl | rfl | rfl | rfl | rfl
  ·rfl
  ·rfl
  ·exact hf
  ·exact hm
  ·rfl
 ·cases hd
  rw [add_lit, Nat.zero_add, cell_blk (heap_alloc_new w _)]
  simpa using hj
theorem info_kindd : (Tryz.prog.info? 59).map (fun i => (i.zero, i.size, i.bytes)) = some (some (.agg #[.string ⟨#[]⟩, .string ⟨#[]⟩, .slice none 0 0, .slice none 0 0, .int .i64 0]), 5, 88) := by kernel_rfl
theorem KdS.kinds {w : World} {v : Value} {l : List KdV} (h : KdS w v l) (hm : ∀ x ∈ l, MethNs w x.vf x.k.fields ∧ MethNs w x.vm x.k.meths) : Kinds w v (l.map KdV.k) := by
 have hg : ∀ i, i < l.length → (l.map KdV.k).getD i default = (l.getD i default).k := fun i hi => by simp [List.getD, hi]
 refine ⟨fun i => ((l.getD i default).vf, (l.getD i default).vm), ?_, fun i hi => ?_⟩
 ·rw [List.length_map]
  exact h.imp (fun b o i _ hi hk => by rw [hg i hi]; exact hk)
 ·rw [List.length_map] at hi
  rw [hg i hi]
  refine hm _ ?_
  rw [show l.getD i default = l[i] by simp [List.getD, hi]]
  exact List.getElem_mem hi
end Go.Proofs.YtgdgffnaknkbcaaGreatDoor
