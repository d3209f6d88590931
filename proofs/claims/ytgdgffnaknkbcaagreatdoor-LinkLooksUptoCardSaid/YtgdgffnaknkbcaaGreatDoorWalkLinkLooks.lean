/- The walk of the law LinkLooks. Condition: the argument reads as a list of classes. -/
import Derived.Test.YtgdgffnaknkbcaaGreatDoorMlLnkY
import Derived.Test.YtgdgffnaknkbcaaGreatDoorMlLnkQLnkAw
import Derived.Test.YtgdgffnaknkbcaaGreatDoorMlLnkFKndT
import Derived.Test.YtgdgffnaknkbcaaGreatDoorMlLnkCLnkE
namespace Go.Proofs.YtgdgffnaknkbcaaGreatDoor
open Go.RowKit
set_option linter.unusedVariables false
set_option linter.unusedSimpArgs false
structure Two (w2 : World) (M1 M2 : Nat) (a b : MemV) (wx : World) : Prop where
 h1 : wx.heap[M1]? = some (.cells #[.int .i64 a.cls, .int .i64 a.place, .string a.desc, .bool a.static, .int .i64 a.slot] 34 (0, 0))
 h2 : wx.heap[M2]? = some (.cells #[.int .i64 b.cls, .int .i64 b.place, .string b.desc, .bool b.static, .int .i64 b.slot] 34 (0, 0))
 ne : M1 ≠ M2
 g1 : w2.heap.size ≤ M1
 g2 : w2.heap.size ≤ M2
 on : Only (fun _ => False) w2 wx
theorem Two.call {w2 : World} {M1 M2 : Nat} {a b : MemV} {wx wy : World} (h : Two w2 M1 M2 a b wx) (ho : Only (fun _ => False) wx wy) : Two w2 M1 M2 a b wy :=
 ⟨ho.heap h.h1 (fun h => h), ho.heap h.h2 (fun h => h), h.ne, h.g1, h.g2, h.on.trans ho (fun _ h _ => h)⟩
theorem Two.set1 {w2 : World} {M1 M2 : Nat} {a b c : MemV} {wx : World} (h : Two w2 M1 M2 a b wx) : Two w2 M1 M2 c b ((((((wx.setCell ⟨M1, 0, none⟩ (.int .i64 c.cls)).setCell ⟨M1, 1, none⟩ (.int .i64 c.place)).setCell ⟨M1, 2, none⟩ (.string c.desc)).setCell ⟨M1, 3, none⟩ (.bool c.static)).setCell ⟨M1, 4, none⟩ (.int .i64 c.slot))) :=
 ⟨store5T (a0 := .int .i64 c.cls) (a1 := .int .i64 c.place) (a2 := .string c.desc) (a3 := .bool c.static) (a4 := .int .i64 c.slot) h.h1, (only5T (a0 := .int .i64 c.cls) (a1 := .int .i64 c.place) (a2 := .string c.desc) (a3 := .bool c.static) (a4 := .int .i64 c.slot) (Only.refl (fun k => k = M1) wx) (fun _ => rfl)).heap h.h2 (show ¬ M2 = M1 from fun e => h.ne e.symm), h.ne, h.g1, h.g2,
  only5T (a0 := .int .i64 c.cls) (a1 := .int .i64 c.place) (a2 := .string c.desc) (a3 := .bool c.static) (a4 := .int .i64 c.slot) h.on (fun hl => by have := h.g1; omega) (b := M1)⟩
theorem Two.set2 {w2 : World} {M1 M2 : Nat} {a b c : MemV} {wx : World} (h : Two w2 M1 M2 a b wx) : Two w2 M1 M2 a c ((((((wx.setCell ⟨M2, 0, none⟩ (.int .i64 c.cls)).setCell ⟨M2, 1, none⟩ (.int .i64 c.place)).setCell ⟨M2, 2, none⟩ (.string c.desc)).setCell ⟨M2, 3, none⟩ (.bool c.static)).setCell ⟨M2, 4, none⟩ (.int .i64 c.slot))) :=
 ⟨(only5T (a0 := .int .i64 c.cls) (a1 := .int .i64 c.place) (a2 := .string c.desc) (a3 := .bool c.static) (a4 := .int .i64 c.slot) (Only.refl (fun k => k = M2) wx) (fun _ => rfl)).heap h.h1 (show ¬ M1 = M2 from h.ne), store5T (a0 := .int .i64 c.cls) (a1 := .int .i64 c.place) (a2 := .string c.desc) (a3 := .bool c.static) (a4 := .int .i64 c.slot) h.h2, h.ne, h.g1, h.g2,
  only5T (a0 := .int .i64 c.cls) (a1 := .int .i64 c.place) (a2 := .string c.desc) (a3 := .bool c.static) (a4 := .int .i64 c.slot) h.on (fun hl => by have := h.g2; omega) (b := M2)⟩
set_option maxHeartbeats 32000000 in
set_option maxRecDepth 100000 in
theorem walkLooks (v : Value) (cs : List ClassV) (c n d : ByteArray) (a b : Int) (w : World) (hc : Classes w v cs) (ht : ∀ c ∈ cs, Texts c.pool) (hcs : c.size ≤ 1048576) (hT : Tabs w) (hE : ErrV w) :
  Calls Tryz.prog 4 #[v, .string c, .string n, .string d, .int .i64 a, .int .i64 b] w fun e w' => e = .returned (.bool true) ∧ Only (fun _ => False) w w' := by
 have CB := Lib.hid (pBuild v cs w hc hT hE)
 have CR := Lib.hid (fun W (hW : Only (fun _ => False) w W) => refBuild v cs W (hc.only hW) ht)
 have CA := Lib.hid awake9
 clear hc hT hE ht
 go_enter Tryz.func4, Tryz.ntmps4
 go_wp2_with (fail)
 refine CB.out.mono ?_
 rintro e w1 ⟨ho1, hcase⟩
 have HO1 := Lib.hid ho1
 clear CB
 rcases hcase with ⟨hz, rfl⟩ | ⟨hz, pb, fv, cl, rfl, hm⟩
 ·have HZ := Lib.hid hz
  clear hz
  go_wp2_with (fail)
  refine (CR.out _ ho1).mono ?_
  rintro e w2 ⟨ho2, hcase⟩
  clear ho1
  rcases hcase with ⟨_, rfl⟩ | ⟨hz2, _⟩
  ·have HO2 := Lib.hid (HO1.out.trans ho2 (fun _ h _ => h))
   have hbz : (buildZ cs != buildZ cs) = false := by simp
   generalize buildZ cs = bz at *
   clear ho2
   go_wp2_with (fail)
   refine (CA.out _).mono ?_
   rintro e w3 ⟨rfl, ho3⟩
   have HO3 := Lib.hid (HO2.out.trans ho3 (fun _ h _ => h))
   clear ho3
   go_wp2
   go_ret
   exact ⟨rfl, HO3.out⟩
  ·exact absurd hz2 HZ.out
 ·obtain ⟨hl16, h0, hR⟩ := build_zero hz
  have HG := Lib.hid (right_good h0 hl16 hR)
  have HP := Lib.hid hm.prog
  have HZ := Lib.hid hz
  clear hm hz h0 hR hl16
  go_wp2_with (fail)
  refine (CR.out _ ho1).mono ?_
  rintro e w2 ⟨ho2, hcase⟩
  clear ho1
  rcases hcase with ⟨hz2, _⟩ | ⟨_, qb, rfl, hd⟩
  ·exact absurd HZ.out hz2
  have HO2 := Lib.hid (HO1.out.trans ho2 (fun _ h _ => h))
  have HP2 := Lib.hid (HP.out.only ho2)
  have HD := Lib.hid hd
  generalize kindsZ cs = ks at *
  have hkl := HG.out.small.1
  have hcm : c.size ≤ maxLen := by unfold maxLen; omega
  have CF := Lib.hid (fun W (hW : Only (fun _ => False) w2 W) => pField (HP2.out.only hW) HG.out c n d hcm)
  have DF := Lib.hid (fun W (hW : Only (fun _ => False) w2 W) => refDocField qb ks cs c n d W (HD.out.only hW) HG.out.small HG.out.ends)
  have CK := Lib.hid (fun W (hW : Only (fun _ => False) w2 W) => pLookAny (HP2.out.only hW) HG.out c n d hcm)
  have DK := Lib.hid (fun W (hW : Only (fun _ => False) w2 W) => refLook qb ks cs c n d W (HD.out.only hW) HG.out.small HG.out.ends HG.out.once)
  have CO := Lib.hid (fun W (hW : Only (fun _ => False) w2 W) => pOwn (HP2.out.only hW) HG.out c n d hcm)
  have DO := Lib.hid (fun W (hW : Only (fun _ => False) w2 W) => refOwn qb ks cs c n d W (HD.out.only hW) HG.out.small)
  have CI := Lib.hid (fun W (hW : Only (fun _ => False) w2 W) => pFind (HP2.out.only hW) (by have := HG.out.pos; omega) c hcm)
  have DI := Lib.hid (fun W (hW : Only (fun _ => False) w2 W) => refFind qb ks cs c W (HD.out.only hW) (by omega))
  have CS := Lib.hid (fun W (hW : Only (fun _ => False) w2 W) => pSub (HP2.out.only hW) HG.out a b)
  have DS := Lib.hid (fun W (hW : Only (fun _ => False) w2 W) => refSub qb ks cs a b W (HD.out.only hW) (by omega))
  rw [sub_same HG.out.ends] at CS
  rw [field_same] at CF
  generalize docField ks c n d = of_ at *
  generalize lookZ ks c n d = ok at *
  generalize ownZ ks c n d = oo at *
  generalize findZ ks c = fz at *
  generalize subZ ks a b = sz at *
  unfold MemTo valM at CF DF CK DK CO DO
  obtain ⟨mf, hmf⟩ : ∃ x, memO of_ = x := ⟨_, rfl⟩
  obtain ⟨mk, hmk⟩ : ∃ x, memO ok = x := ⟨_, rfl⟩
  obtain ⟨mo, hmo⟩ : ∃ x, memO oo = x := ⟨_, rfl⟩
  obtain ⟨ef, hef⟩ : ∃ x, errM of_ = x := ⟨_, rfl⟩
  obtain ⟨ek, hek⟩ : ∃ x, errM ok = x := ⟨_, rfl⟩
  obtain ⟨eo, heo⟩ : ∃ x, errM oo = x := ⟨_, rfl⟩
  rw [hmf, hef] at CF DF
  rw [hmk, hek] at CK DK
  rw [hmo, heo] at CO DO
  have g1 := guard_mem
  have nf := neq_mem mf
  have nk := neq_mem mk
  have no := eql_mem mo
  have hef2 : (ef != ef) = false := by simp
  have hek2 : (ek != ek) = false := by simp
  have heo2 : (eo == eo) = true := by simp
  have hfz2 : (fz == fz) = true := by simp
  have hsz2 : (sz == sz) = true := by simp
  clear ho2 hd hmf hmk hmo hef hek heo hcm hkl hcs
  go_upto_region 7 with fail
  go_cut [14, 17] from 42 (fun s14 s17 wx => s14 = .int .i64 ef ∧ ∃ M1, s17 = .pointer (some ⟨M1, 0, none⟩) ∧ w2.heap.size ≤ M1 ∧ wx.heap[M1]? = some (.cells #[.int .i64 mf.cls, .int .i64 mf.place, .string mf.desc, .bool mf.static, .int .i64 mf.slot] 34 (0, 0)) ∧ Only (fun _ => False) w2 wx)
  case first =>
   go_wp2_with (fail)
   refine (CF.out _ (Only.refl _ _)).mono ?_
   rintro e w3 ⟨rfl, ho3⟩
   have HO3 := Lib.hid ho3
   clear ho3
   go_wp2_with (fail)
   go_meet
   exact ⟨rfl, _, rfl, HO3.out.size, heap_alloc_new w3 (.cells #[.int .i64 mf.cls, .int .i64 mf.place, .string mf.desc, .bool mf.static, .int .i64 mf.slot] 34), HO3.out.alloc (.cells #[.int .i64 mf.cls, .int .i64 mf.place, .string mf.desc, .bool mf.static, .int .i64 mf.slot] 34)⟩
  case rest =>
  obtain ⟨rfl, M1, rfl, hg1, hh1, hon⟩ := hcut
  have HG1 := Lib.hid hg1
  have HH1 := Lib.hid hh1
  have HON := Lib.hid hon
  clear hg1 hh1 hon
  go_upto_region 8 with fail
  go_cut [16, 18] from 50 (fun s16 s18 wx => s16 = .int .i64 ef ∧ ∃ M2, s18 = .pointer (some ⟨M2, 0, none⟩) ∧ Two w2 M1 M2 mf mf wx)
  case first =>
   go_wp2_with (fail)
   refine (DF.out _ HON.out).mono ?_
   rintro e w3 ⟨rfl, ho3⟩
   have HO3 := Lib.hid ho3
   clear ho3
   go_wp2_with (fail)
   go_meet
   exact ⟨rfl, _, rfl, (HO3.out.alloc (.cells #[.int .i64 mf.cls, .int .i64 mf.place, .string mf.desc, .bool mf.static, .int .i64 mf.slot] 34)).heap HH1.out (fun h => h), heap_alloc_new w3 (.cells #[.int .i64 mf.cls, .int .i64 mf.place, .string mf.desc, .bool mf.static, .int .i64 mf.slot] 34), Nat.ne_of_lt (Nat.lt_of_lt_of_le (heap_lt HH1.out) HO3.out.size), HG1.out, Nat.le_trans HON.out.size HO3.out.size, (HON.out.trans HO3.out (fun _ h _ => h)).alloc (.cells #[.int .i64 mf.cls, .int .i64 mf.place, .string mf.desc, .bool mf.static, .int .i64 mf.slot] 34)⟩
  case rest =>
  obtain ⟨rfl, M2, rfl, htw⟩ := hcut
  have HT := Lib.hid htw
  obtain ⟨x0, x1, x2, x3, x4⟩ := cells5T HT.out.h1
  obtain ⟨y0, y1, y2, y3, y4⟩ := cells5T HT.out.h2
  clear htw HG1 HH1 HON
  go_upto_region 11 with fail
  go_cut [14] from 66 (fun s14 wx => s14 = .int .i64 ek ∧ Two w2 M1 M2 mk mf wx)
  case first =>
   clear x0 x1 x2 x3 x4 y0 y1 y2 y3 y4
   go_wp2_with (fail)
   refine (CK.out _ HT.out.on).mono ?_
   rintro e w3 ⟨rfl, ho3⟩
   have HT2 := Lib.hid (HT.out.call ho3)
   obtain ⟨v0, v1, v2, v3, v4⟩ := marks5T HT2.out.h1
   obtain ⟨x0, x1, x2, x3, x4⟩ := cells5T HT2.out.h1
   clear ho3
   go_wp2_with (fail)
   go_meet
   exact ⟨rfl, HT2.out.set1⟩
  case rest =>
  obtain ⟨rfl, htw⟩ := hcut
  clear x0 x1 x2 x3 x4 y0 y1 y2 y3 y4 HT
  have HT := Lib.hid htw
  clear htw
  go_upto_region 12 with fail
  go_cut [16] from 74 (fun s16 wx => s16 = .int .i64 ek ∧ Two w2 M1 M2 mk mk wx)
  case first =>
   go_wp2_with (fail)
   refine (DK.out _ HT.out.on).mono ?_
   rintro e w3 ⟨rfl, ho3⟩
   have HT2 := Lib.hid (HT.out.call ho3)
   obtain ⟨v0, v1, v2, v3, v4⟩ := marks5T HT2.out.h2
   obtain ⟨y0, y1, y2, y3, y4⟩ := cells5T HT2.out.h2
   clear ho3
   go_wp2_with (fail)
   go_meet
   exact ⟨rfl, HT2.out.set2⟩
  case rest =>
  obtain ⟨rfl, htw⟩ := hcut
  clear HT
  have HT := Lib.hid htw
  obtain ⟨x0, x1, x2, x3, x4⟩ := cells5T HT.out.h1
  obtain ⟨y0, y1, y2, y3, y4⟩ := cells5T HT.out.h2
  clear htw
  go_upto_region 15 with fail
  go_cut [14] from 90 (fun s14 wx => s14 = .int .i64 eo ∧ Two w2 M1 M2 mo mk wx)
  case first =>
   clear x0 x1 x2 x3 x4 y0 y1 y2 y3 y4
   go_wp2_with (fail)
   refine (CO.out _ HT.out.on).mono ?_
   rintro e w3 ⟨rfl, ho3⟩
   have HT2 := Lib.hid (HT.out.call ho3)
   obtain ⟨v0, v1, v2, v3, v4⟩ := marks5T HT2.out.h1
   obtain ⟨x0, x1, x2, x3, x4⟩ := cells5T HT2.out.h1
   clear ho3
   go_wp2_with (fail)
   go_meet
   exact ⟨rfl, HT2.out.set1⟩
  case rest =>
  obtain ⟨rfl, htw⟩ := hcut
  clear x0 x1 x2 x3 x4 y0 y1 y2 y3 y4 HT
  have HT := Lib.hid htw
  clear htw
  go_upto_region 16 with fail
  go_cut [16] from 98 (fun s16 wx => s16 = .int .i64 eo ∧ Two w2 M1 M2 mo mo wx)
  case first =>
   go_wp2_with (fail)
   refine (DO.out _ HT.out.on).mono ?_
   rintro e w3 ⟨rfl, ho3⟩
   have HT2 := Lib.hid (HT.out.call ho3)
   obtain ⟨v0, v1, v2, v3, v4⟩ := marks5T HT2.out.h2
   obtain ⟨y0, y1, y2, y3, y4⟩ := cells5T HT2.out.h2
   clear ho3
   go_wp2_with (fail)
   go_meet
   exact ⟨rfl, HT2.out.set2⟩
  case rest =>
  obtain ⟨rfl, htw⟩ := hcut
  clear HT
  have HT := Lib.hid htw
  obtain ⟨x0, x1, x2, x3, x4⟩ := cells5T HT.out.h1
  obtain ⟨y0, y1, y2, y3, y4⟩ := cells5T HT.out.h2
  clear htw
  have HO8 := Lib.hid HT.out.on
  go_wp2_with (fail)
  refine (CI.out _ HO8.out).mono ?_
  rintro e we ⟨rfl, hww⟩
  subst hww
  go_wp2_with (fail)
  refine (DI.out _ HO8.out).mono ?_
  rintro e we ⟨rfl, hww⟩
  subst hww
  go_wp2_with (fail)
  refine (CS.out _ HO8.out).mono ?_
  rintro e we ⟨rfl, ho9⟩
  have HO9 := Lib.hid (HO8.out.trans ho9 (fun _ h _ => h))
  clear ho9 x0 x1 x2 x3 x4 y0 y1 y2 y3 y4
  go_wp2_with (fail)
  refine (DS.out _ HO9.out).mono ?_
  rintro e wf ⟨rfl, hww⟩
  subst hww
  have HOZ := Lib.hid (HO2.out.trans HO9.out (fun _ h _ => h))
  go_wp2
  go_ret
  exact ⟨rfl, HOZ.out⟩
end Go.Proofs.YtgdgffnaknkbcaaGreatDoor
