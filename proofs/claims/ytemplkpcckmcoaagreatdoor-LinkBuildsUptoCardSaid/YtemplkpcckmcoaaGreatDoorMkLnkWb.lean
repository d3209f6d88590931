import Derived.Test.YtemplkpcckmcoaaGreatDoorMkTkH
import Derived.Test.YtemplkpcckmcoaaGreatDoorMkLpTcLnkV
import Derived.Test.YtemplkpcckmcoaaGreatDoorMkLnkYLnkQ
import Derived.Test.YtemplkpcckmcoaaGreatDoorMkLnkMeLnkS
import Derived.Test.YtemplkpcckmcoaaGreatDoorMkLnkILnkN
import Derived.Test.YtemplkpcckmcoaaGreatDoorMkClsNmLpY
import Derived.Deep.CutRange
import Derived.Deep.CutBlock
namespace Go.Proofs.YtemplkpcckmcoaaGreatDoor
set_option maxHeartbeats 32000000
open Lib (hid)
open Go.RowKit
set_option linter.unusedVariables false
set_option linter.unusedSimpArgs false
set_option linter.unusedSectionVars false
section
variable {w2 wq W W' : World} {qb b o n cap XB bt ot br or_ pl pc fl_ fc ml mc : Nat} {ao pa fa ma : Option Addr} {ks : List KindV} {kn ksu : ByteArray} {c : ClassV}
theorem keepQ (h : (fun wc => wc.cell? ⟨qb, 0, none⟩ = some (.slice ao ks.length cap) ∧ Only (fun _ => False) w2 wc) W) (ho : Only (fun _ => False) W W') : (fun wc => wc.cell? ⟨qb, 0, none⟩ = some (.slice ao ks.length cap) ∧ Only (fun _ => False) w2 wc) W' := ⟨ho.cell h.1 (fun h => h), h.2.trans ho (fun _ h _ => h)⟩
theorem keepS11 (h : (fun wc => (wc.cell? ⟨qb, 0, none⟩ = some (.slice (some ⟨b, o, none⟩) ks.length cap) ∧ wc.cell? ⟨b, o + n * 5, none⟩ = some (.string kn) ∧ wc.cell? ⟨XB, 0, none⟩ = some (.slice pa pl pc) ∧ wc.cell? ⟨XB, 1, none⟩ = some (.int .i64 c.this) ∧ wc.cell? ⟨XB, 2, none⟩ = some (.int .i64 c.super) ∧ wc.cell? ⟨XB, 3, none⟩ = some (.slice fa fl_ fc) ∧ wc.cell? ⟨XB, 4, none⟩ = some (.slice ma ml mc)) ∧ Only (fun _ => False) wq wc) W) (ho : Only (fun _ => False) W W') : (fun wc => (wc.cell? ⟨qb, 0, none⟩ = some (.slice (some ⟨b, o, none⟩) ks.length cap) ∧ wc.cell? ⟨b, o + n * 5, none⟩ = some (.string kn) ∧ wc.cell? ⟨XB, 0, none⟩ = some (.slice pa pl pc) ∧ wc.cell? ⟨XB, 1, none⟩ = some (.int .i64 c.this) ∧ wc.cell? ⟨XB, 2, none⟩ = some (.int .i64 c.super) ∧ wc.cell? ⟨XB, 3, none⟩ = some (.slice fa fl_ fc) ∧ wc.cell? ⟨XB, 4, none⟩ = some (.slice ma ml mc)) ∧ Only (fun _ => False) wq wc) W' := ⟨⟨ho.cell h.1.1 (fun h => h), ho.cell h.1.2.1 (fun h => h), ho.cell h.1.2.2.1 (fun h => h), ho.cell h.1.2.2.2.1 (fun h => h), ho.cell h.1.2.2.2.2.1 (fun h => h), ho.cell h.1.2.2.2.2.2.1 (fun h => h), ho.cell h.1.2.2.2.2.2.2 (fun h => h)⟩, h.2.trans ho (fun _ h _ => h)⟩
theorem keepS14 (h : (fun wc => (wc.cell? ⟨qb, 0, none⟩ = some (.slice (some ⟨b, o, none⟩) ks.length cap) ∧ wc.cell? ⟨b, o + n * 5, none⟩ = some (.string kn) ∧ wc.cell? ⟨bt, ot + n * 2, none⟩ = some (.string kn) ∧ wc.cell? ⟨bt, ot + n * 2 + 1, none⟩ = some (.string ksu) ∧ wc.cell? ⟨br, or_ + n * 2, none⟩ = some (.string kn) ∧ wc.cell? ⟨br, or_ + n * 2 + 1, none⟩ = some (.string ksu)) ∧ Only (fun _ => False) w2 wc) W) (ho : Only (fun _ => False) W W') : (fun wc => (wc.cell? ⟨qb, 0, none⟩ = some (.slice (some ⟨b, o, none⟩) ks.length cap) ∧ wc.cell? ⟨b, o + n * 5, none⟩ = some (.string kn) ∧ wc.cell? ⟨bt, ot + n * 2, none⟩ = some (.string kn) ∧ wc.cell? ⟨bt, ot + n * 2 + 1, none⟩ = some (.string ksu) ∧ wc.cell? ⟨br, or_ + n * 2, none⟩ = some (.string kn) ∧ wc.cell? ⟨br, or_ + n * 2 + 1, none⟩ = some (.string ksu)) ∧ Only (fun _ => False) w2 wc) W' := ⟨⟨ho.cell h.1.1 (fun h => h), ho.cell h.1.2.1 (fun h => h), ho.cell h.1.2.2.1 (fun h => h), ho.cell h.1.2.2.2.1 (fun h => h), ho.cell h.1.2.2.2.2.1 (fun h => h), ho.cell h.1.2.2.2.2.2 (fun h => h)⟩, h.2.trans ho (fun _ h _ => h)⟩
end
theorem stepW9 {i : Int} {m : Nat} (h0 : -1 ≤ i) (h : i ≤ m) : (-1 ≤ i + 1 ∧ i + 1 ≤ m + 1) ∧ ((m : Int) + 1 - (i + 1)).toNat < ((m : Int) + 1 - i).toNat := by omega
theorem wrapW9 {i : Int} {m : Nat} (h0 : -1 ≤ i) (h : i ≤ m) (hm : m ≤ 64) : wrap64 (i + 1) = i + 1 := IntWalk.wrap64_in _ ⟨by omega, by omega⟩
def ClsIs (ks : List KindV) (z : Int) (w : World) (pa : Option Addr) (pl pc : Nat) (fa : Option Addr) (fl_ fc : Nat) (ma : Option Addr) (ml mc : Nat) (c : ClassV) (ok : Bool) : Prop :=
 ((z < 13 ∨ (ks.length : Int) ≤ z) ∧ ok = false) ∨ ((13 ≤ z ∧ z < ks.length) ∧ ok = true ∧ ClassM w (.slice pa pl pc) (.slice fa fl_ fc) (.slice ma ml mc) c ∧ (classZ c.pool c.this).1 = (ks.getD z.toNat default).name)
theorem clsCase {ks : List KindV} {z : Int} {w w' : World} {pa : Option Addr} {pl pc : Nat} {fa : Option Addr} {fl_ fc : Nat} {ma : Option Addr} {ml mc : Nat} {c : ClassV} {ok : Bool} (h : ClsIs ks z w pa pl pc fa fl_ fc ma ml mc c ok) (ho : Only (fun _ => False) w w') : ClsIs ks z w' pa pl pc fa fl_ fc ma ml mc c ok := by
 rcases h with h | ⟨h1, h2, h3, h4⟩
 ·exact .inl h
 ·exact .inr ⟨h1, h2, h3.only ho, h4⟩
theorem clsAny {G : Nat → Prop} {fv : Nat → Value} {w : World} {pb : Nat} {ks : List KindV} {cl : Nat → ClassV} {sl : Nat → Nat → Int} (z : Int) (h : ProgG G fv w pb ks cl sl) (hpos : 13 ≤ ks.length)
  (hc : ∀ n : Nat, 13 ≤ n → n < ks.length → Calls Tryz.prog 33 #[.pointer (some ⟨pb, 0, none⟩), .int .i64 (n : Int)] w fun e w' => ∃ c : ClassV, ∃ a b d, e = .returned (.tuple #[valCls c a b d, .bool true]) ∧ ClassM w' a b d c ∧ (classZ c.pool c.this).1 = (ks.getD n default).name ∧ Only (fun _ => False) w w') :
  Calls Tryz.prog 33 #[.pointer (some ⟨pb, 0, none⟩), .int .i64 z] w fun e w' => ∃ pa pl pc fa fl_ fc ma ml mc, ∃ c : ClassV, ∃ ok, e = .returned (.tuple #[.agg #[.slice pa pl pc, .int .i64 c.this, .int .i64 c.super, .slice fa fl_ fc, .slice ma ml mc], .bool ok]) ∧ ClsIs ks z w' pa pl pc fa fl_ fc ma ml mc c ok ∧ Only (fun _ => False) w w' := by
 by_cases hz : z < 13 ∨ (ks.length : Int) ≤ z
 ·refine (pClassNo h hpos z hz).mono ?_
  rintro e w' ⟨rfl, ho⟩
  exact ⟨none, 0, 0, none, 0, 0, none, 0, 0, ⟨[], 0, 0, [], []⟩, false, rfl, .inl ⟨hz, rfl⟩, ho⟩
 ·obtain ⟨n, rfl⟩ := Int.eq_ofNat_of_zero_le (show 0 ≤ z by omega)
  refine (hc n (by omega) (by omega)).mono ?_
  rintro e w' ⟨c, a, b, d, rfl, hcm, hcn, ho⟩
  have hcm2 := hcm
  obtain ⟨⟨pa, pc, rfl, -⟩, ⟨⟨fa, fc, rfl, -⟩, -⟩, ⟨_, ⟨ma, mc, rfl, -⟩, -⟩, -⟩ := hcm
  exact ⟨pa, _, pc, fa, _, fc, ma, _, mc, c, true, rfl, .inr ⟨⟨by omega, by omega⟩, rfl, hcm2, by rw [Int.toNat_natCast]; exact hcn⟩, ho⟩
set_option maxRecDepth 100000 in
theorem wholeP {fv : Nat → Value} {w : World} {pb qb : Nat} {cl : Nat → ClassV} {cs : List ClassV} (h0 : ∀ c ∈ cs, clsZ c = 0) (hR : RightK (kindsZ cs)) (hl16 : cs.length ≤ 16) (hm : MadeP fv w pb cs cl) (hd : DocP w qb (kindsZ cs) cs) :
  Calls Tryz.prog 6 #[.pointer (some ⟨pb, 0, none⟩), .pointer (some ⟨qb, 0, none⟩)] w fun e w' => e = .returned (.bool true) ∧ Only (fun _ => False) w w' := by
 have HG := hid (right_good h0 hl16 hR)
 have HDS := hid (fine_descs h0)
 have H13 := hid hR.main.1
 have hlz := kindsZ_len cs
 have PT := hid (fun (n : Nat) (hn : n < (kindsZ cs).length) (i : Int) W (hW : Only (fun _ => False) w W) => pTell h0 hn i (hm.only hW))
 have RT := hid (fun (n : Nat) (hn : n < (kindsZ cs).length) (i : Int) W (hW : Only (fun _ => False) w W) => rTell h0 hn i (hd.only hW))
 have PC := hid (fun (n : Nat) (h13 : 13 ≤ n) (hn : n < (kindsZ cs).length) W (hW : Only (fun _ => False) w W) => (pClass (hm.prog.only hW) (by omega) n h13 hn (by rw [hm.cls n h13 hn]; exact (few_cls (h0 _ (getD_mem (by omega)))).1)).mono (fun e w' h => show ∃ c : ClassV, ∃ a b d, e = .returned (.tuple #[valCls c a b d, .bool true]) ∧ ClassM w' a b d c ∧ (classZ c.pool c.this).1 = ((kindsZ cs).getD n default).name ∧ Only (fun _ => False) W w' from by
  obtain ⟨a, b, d, e1, e2, e3⟩ := h
  refine ⟨_, a, b, d, e1, e2, ?_, e3⟩
  rw [hm.cls n h13 hn]
  have hk := kindsZ_list (cs := cs) (j := n - 13) (by omega)
  rw [show 13 + (n - 13) = n by omega] at hk
  rw [hk]
  rfl))
 have HP := hid hm.prog
 have HD := hid hd
 obtain ⟨vl, vi, g0, g1, hk, -⟩ := id hd
 obtain ⟨ao, cap, rfl, p1, p2⟩ := hk.len
 have HK := hid hk
 have HG0 := hid g0
 clear h0 hR hl16 hm hd g1 hk g0 hlz
 generalize kindsZ cs = ks at *
 have hkl := HG.out.small.1
 have h13 := H13.out
 have CTr := hid (fun W (hW : Only (fun _ => False) w W) => pTree (HP.out.only hW) (by omega) hkl)
 have CRr := hid (fun W (hW : Only (fun _ => False) w W) => refTree qb ks cs W (HD.out.only hW) (by omega))
 have HTL := hid (treeZ_len ks)
 go_enter Tryz.func6, Tryz.ntmps6
 go_wp2_with (fail)
 refine (CTr.out _ (Only.refl _ _)).mono ?_
 rintro e w1 ⟨tv, rfl, htv, ho1⟩
 obtain ⟨at_, ct, rfl, -, -, -, -⟩ := id htv
 have HTV := hid htv
 rw [HTL.out] at HTV ⊢
 have HO1 := hid ho1
 clear htv ho1 CTr
 go_wp2_with (fail)
 refine (CRr.out _ HO1.out).mono ?_
 rintro e w2 ⟨rv, rfl, hrv, ho2⟩
 obtain ⟨ar, cr, rfl, -, -, -, -⟩ := id hrv.pairs
 have HRV := hid hrv.pairs
 have HTV2 := hid (Pairs.only HTV.out ho2)
 rw [HTL.out] at HRV ⊢
 have HO2 := hid (HO1.out.trans ho2 (fun _ h _ => h))
 have HP2 := hid (HP.out.only HO2.out)
 have HD2 := hid (HD.out.only HO2.out)
 have HK2 := hid (HK.out.only HO2.out)
 have q0 := HO2.out.cell HG0.out (fun h => h)
 have HQ0 := hid q0
 clear hrv ho2 CRr HTV HO1
 have CL := hid (fun W (hW : Only (fun _ => False) w2 W) => pLen (HP2.out.only hW) (by omega))
 have CA1 := hid (fun W (hW : Only (fun _ => False) w2 W) => pStatics (HP2.out.only hW) HG.out)
 have CA2 := hid (fun W (hW : Only (fun _ => False) w2 W) => refStatics qb ks cs W (HD2.out.only hW) HG.out.small HDS.out)
 have CM1 := hid (fun W (hW : Only (fun _ => False) w2 W) => pMain (HP2.out.only hW) HG.out)
 have CM2 := hid (fun W (hW : Only (fun _ => False) w2 W) => refMain qb ks cs W (HD2.out.only hW) HG.out.small h13)
 have HSL := hid (show (staticsZ ks ks.length).length ≤ 4096 by rw [staticsZ_len (Nat.le_refl _)]; have := staticsN_le HG.out.small (Nat.le_refl ks.length); omega)
 generalize staticsZ ks ks.length = ts at *
 have nm := neq_mem (mainZ ks)
 have g1 := guard_mem
 unfold valM at CM1 CM2
 generalize mainZ ks = mz at *
 have HS3 := hid (show (fun wc => wc.cell? ⟨qb, 0, none⟩ = some (.slice ao ks.length cap) ∧ Only (fun _ => False) w2 wc) (w2.drewN 1) from ⟨q0, (Only.refl _ _).drewN 1⟩)
 go_upto_region 3 with fail
 go_cut [52] from 23 (fun s52 wx => s52 = .bool false ∧ Only (fun _ => False) w2 wx)
 case first => as_aux_lemma =>
  go_wp2
  refine wp_region_held_drew (S := fun wc => wc.cell? ⟨qb, 0, none⟩ = some (.slice ao ks.length cap) ∧ Only (fun _ => False) w2 wc) (by kernel_rfl) HS3.out (fun hHeld => ?_)
  refine tk1 0 (v := ?_) (y := ?_) (h := ?_)
  rotate_left 1
  ·(intro w h; (try dsimp only at h); go_simp; try with_reducible rfl)
  try simp only [Act.put, sIB, sC0, sCS]
  refine tk1 2 (v := ?_) (y := ?_) (h := ?_)
  rotate_left 1
  ·(intro w h; (try dsimp only at h); go_simp; try with_reducible rfl)
  try simp only [Act.put, sIB, sC0, sCS]
  refine tk1 3 (v := ?_) (y := ?_) (h := ?_)
  rotate_left 1
  ·(intro w h; (try dsimp only at h); go_simp; try with_reducible rfl)
  try simp only [Act.put, sIB, sC0, sCS]
  refine tk1 4 (v := ?_) (y := ?_) (h := ?_)
  rotate_left 1
  ·(intro w h; (try dsimp only at h); go_simp; try with_reducible rfl)
  try simp only [Act.put, sIB, sC0, sCS]
  refine tk1 5 (v := ?_) (y := ?_) (h := ?_)
  rotate_left 1
  ·(intro w h; (try dsimp only at h); go_simp; try with_reducible rfl)
  try simp only [Act.put, sIB, sC0, sCS]
  refine tk1 6 (v := ?_) (y := ?_) (h := ?_)
  rotate_left 1
  ·(intro w h; (try dsimp only at h); go_simp; try with_reducible rfl)
  try simp only [Act.put, sIB, sC0, sCS]
  refine wpAnyH_ready (rs := [1]) (by kernel_rfl) (by simp) ?_
  refine AllReadyH.cons (by simp only [List.getElem?_toArray, List.getElem?_cons_succ, List.getElem?_cons_zero]; rfl) (fun K hK => ?_) AllReadyH.nil
  go_simp
  (refine (CL.out _ hHeld.2).mono ?_; rintro e wa ⟨rfl, hww⟩; subst hww; have HQ1 := hid hHeld)
  go_wp2_with fail
  refine hK.out _ _ ?_ (fun hHeld2 => ?_)
  ·exact HQ1.out
  clear hK K
  try simp only [Act.put, sIB, sC0, sCS]
  clear hHeld
  have hHeld := hHeld2
  clear hHeld2
  refine tk1 7 (v := ?_) (y := ?_) (h := ?_)
  rotate_left 1
  ·(intro w h; (try dsimp only at h); go_simp; try with_reducible rfl)
  try simp only [Act.put, sIB, sC0, sCS]
  refine tk1 8 (v := ?_) (y := ?_) (h := ?_)
  rotate_left 1
  ·(intro w h; (try dsimp only at h); go_simp; try with_reducible rfl)
  try simp only [Act.put, sIB, sC0, sCS]
  refine tk1 9 (v := ?_) (y := ?_) (h := ?_)
  rotate_left 1
  ·(intro w h; (try dsimp only at h); go_simp; try with_reducible rfl)
  try simp only [Act.put, sIB, sC0, sCS]
  refine tk1 10 (v := ?_) (y := ?_) (h := ?_)
  rotate_left 1
  ·(intro w h; (try dsimp only at h); go_simp; try with_reducible rfl)
  try simp only [Act.put, sIB, sC0, sCS]
  refine tk1 11 (v := ?_) (y := ?_) (h := ?_)
  rotate_left 1
  ·(intro w h; (try dsimp only at h); go_simp; try with_reducible rfl)
  try simp only [Act.put, sIB, sC0, sCS]
  refine tk1 12 (v := ?_) (y := ?_) (h := ?_)
  rotate_left 1
  ·(intro w h; (try dsimp only at h); go_simp; try with_reducible rfl)
  try simp only [Act.put, sIB, sC0, sCS]
  refine tk1 13 (v := ?_) (y := ?_) (h := ?_)
  rotate_left 1
  ·(intro w h; (try dsimp only at h); go_simp; try with_reducible rfl)
  try simp only [Act.put, sIB, sC0, sCS]
  refine tk1 14 (v := ?_) (y := ?_) (h := ?_)
  rotate_left 1
  ·(intro w h; (try dsimp only at h); go_simp; try with_reducible rfl)
  try simp only [Act.put, sIB, sC0, sCS]
  refine tk1 15 (v := ?_) (y := ?_) (h := ?_)
  rotate_left 1
  ·(intro w h; (try dsimp only at h); go_simp; try with_reducible rfl)
  try simp only [Act.put, sIB, sC0, sCS]
  refine tk1 16 (v := ?_) (y := ?_) (h := ?_)
  rotate_left 1
  ·(intro w h; (try dsimp only at h); go_simp; try with_reducible rfl)
  try simp only [Act.put, sIB, sC0, sCS]
  refine tk1 18 (v := ?_) (y := ?_) (h := ?_)
  rotate_left 1
  ·(intro w h; (try dsimp only at h); go_simp; try with_reducible rfl)
  try simp only [Act.put, sIB, sC0, sCS]
  refine wpAnyH_ready (rs := [17]) (by kernel_rfl) (by simp) ?_
  refine AllReadyH.cons (by simp only [List.getElem?_toArray, List.getElem?_cons_succ, List.getElem?_cons_zero]; rfl) (fun K hK => ?_) AllReadyH.nil
  go_simp
  (refine (CA1.out _ hHeld.2).mono ?_; rintro e wa ⟨ra, rfl, hra, hoa⟩; obtain ⟨aa, ca, rfl, -, -, -, -⟩ := id hra.types; have HTA := hid hra.types; have HQ2 := hid (keepQ hHeld hoa); clear hra hoa)
  go_wp2_with fail
  refine hK.out _ _ ?_ (fun hHeld2 => ?_)
  ·exact HQ2.out
  clear hK K
  try simp only [Act.put, sIB, sC0, sCS]
  clear hHeld
  have hHeld := hHeld2
  clear hHeld2
  refine wpAnyH_ready (rs := [19]) (by kernel_rfl) (by simp) ?_
  refine AllReadyH.cons (by simp only [List.getElem?_toArray, List.getElem?_cons_succ, List.getElem?_cons_zero]; rfl) (fun K hK => ?_) AllReadyH.nil
  go_simp
  (refine (CA2.out _ hHeld.2).mono ?_; rintro e wb ⟨rb, rfl, hrb, hob⟩; obtain ⟨ab, cb, rfl, -, -, -, -⟩ := id hrb.types; have HTA2 := hid (HTA.out.only hob); have HTB := hid hrb.types; have HQ3 := hid (keepQ hHeld hob); clear hrb hob)
  go_wp2_with fail
  refine hK.out _ _ ?_ (fun hHeld2 => ?_)
  ·exact HQ3.out
  clear hK K
  try simp only [Act.put, sIB, sC0, sCS]
  clear hHeld
  have hHeld := hHeld2
  clear hHeld2
  refine wpAnyH_ready (rs := [20]) (by kernel_rfl) (by simp) ?_
  refine AllReadyH.cons (by simp only [List.getElem?_toArray, List.getElem?_cons_succ, List.getElem?_cons_zero]; rfl) (fun K hK => ?_) AllReadyH.nil
  go_simp
  (refine (sameTy9 _ _ ts _ HTA2.out HTB.out (by have := HSL.out; omega)).mono ?_; rintro e wd ⟨rfl, hod⟩; have HQ4 := hid (keepQ hHeld hod); clear hod)
  go_wp2_with fail
  refine hK.out _ _ ?_ (fun hHeld2 => ?_)
  ·exact HQ4.out
  clear hK K
  try simp only [Act.put, sIB, sC0, sCS]
  clear hHeld
  have hHeld := hHeld2
  clear hHeld2
  refine tk1 21 (v := ?_) (y := ?_) (h := ?_)
  rotate_left 1
  ·(intro w h; (try dsimp only at h); go_simp; try with_reducible rfl)
  try simp only [Act.put, sIB, sC0, sCS]
  refine tk1 22 (v := ?_) (y := ?_) (h := ?_)
  rotate_left 1
  ·(intro w h; (try dsimp only at h); go_simp; try with_reducible rfl)
  try simp only [Act.put, sIB, sC0, sCS]
  refine tk1 23 (v := ?_) (y := ?_) (h := ?_)
  rotate_left 1
  ·(intro w h; (try dsimp only at h); go_simp; try with_reducible rfl)
  try simp only [Act.put, sIB, sC0, sCS]
  refine tk1 24 (v := ?_) (y := ?_) (h := ?_)
  rotate_left 1
  ·(intro w h; (try dsimp only at h); go_simp; try with_reducible rfl)
  try simp only [Act.put, sIB, sC0, sCS]
  refine tk1 26 (v := ?_) (y := ?_) (h := ?_)
  rotate_left 1
  ·(intro w h; (try dsimp only at h); go_simp; try with_reducible rfl)
  try simp only [Act.put, sIB, sC0, sCS]
  refine wpAnyH_ready (rs := [25]) (by kernel_rfl) (by simp) ?_
  refine AllReadyH.cons (by simp only [List.getElem?_toArray, List.getElem?_cons_succ, List.getElem?_cons_zero]; rfl) (fun K hK => ?_) AllReadyH.nil
  go_simp
  (refine (CM1.out _ hHeld.2).mono ?_; rintro e we ⟨rfl, hoe⟩; have HQ5 := hid (keepQ hHeld hoe); clear hoe)
  go_wp2_with fail
  refine hK.out _ _ ?_ (fun hHeld2 => ?_)
  ·exact HQ5.out
  clear hK K
  try simp only [Act.put, sIB, sC0, sCS]
  clear hHeld
  have hHeld := hHeld2
  clear hHeld2
  refine wpAnyH_ready (rs := [27]) (by kernel_rfl) (by simp) ?_
  refine AllReadyH.cons (by simp only [List.getElem?_toArray, List.getElem?_cons_succ, List.getElem?_cons_zero]; rfl) (fun K hK => ?_) AllReadyH.nil
  go_simp
  (refine (CM2.out _ hHeld.2).mono ?_; rintro e wf ⟨rfl, hof⟩; have HQ6 := hid (keepQ hHeld hof); clear hof)
  go_wp2_with fail
  refine hK.out _ _ ?_ (fun hHeld2 => ?_)
  ·exact HQ6.out
  clear hK K
  try simp only [Act.put, sIB, sC0, sCS]
  clear hHeld
  have hHeld := hHeld2
  clear hHeld2
  refine tk1 28 (v := ?_) (y := ?_) (h := ?_)
  rotate_left 1
  ·(intro w h; (try dsimp only at h); go_simp; try with_reducible rfl)
  try simp only [Act.put, sIB, sC0, sCS]
  refine tk1 29 (v := ?_) (y := ?_) (h := ?_)
  rotate_left 1
  ·(intro w h; (try dsimp only at h); go_simp; try with_reducible rfl)
  try simp only [Act.put, sIB, sC0, sCS]
  refine wpAnyH_done (by kernel_rfl) ?_ _
  have HOA := hid hHeld.2
  clear hHeld HQ1 HQ2 HQ3 HQ4 HQ5 HQ6 HTA HTA2 HTB HS3 CA1 CA2 CM1 CM2 nm g1 q0
  go_wp2_with (fail)
  go_meet
  exact ⟨rfl, HOA.out⟩
 case rest =>
 obtain ⟨rfl, hoa⟩ := hcut
 have HOA := hid hoa
 clear hoa HS3 CA1 CA2 CM1 CM2 nm g1 q0
 go_wp2
 go_loopw [7, 8, 9, 10, 11, 12, 13, 14, 15, 16, 17, 18] (fun nv _ _ _ _ _ _ _ _ _ _ _ wr => ∃ z : Int, nv = .int .i64 z ∧ -1 ≤ z ∧ z ≤ ks.length + 1 ∧ Hid (Only (fun _ => False) w2 wr)) (fun nv _ _ _ _ _ _ _ _ _ _ _ _ => (ks.length + 1 - Lib.intOf nv).toNat)
 case atStart => exact ⟨-1, rfl, by omega, by omega, HOA⟩
 case round =>
  obtain ⟨z, rfl, hz0, hz1, HON⟩ := hrel
  have q0 := HON.out.cell HQ0.out (fun h => h)
  by_cases hlt : z ≤ ks.length
  ·have HST := hid (stepW9 hz0 hlt)
   have HWW := hid (wrapW9 hz0 hlt hkl)
   go_upto_block 1 with fail
   go_cut [8, 9, 10, 11, 12, 13, 14, 15, 16, 17, 18] from 53 to 236 (fun _ _ _ _ _ _ _ _ _ _ _ wx => Only (fun _ => False) w2 wx)
   case first => as_aux_lemma =>
    have CS1 := hid (fun W (hW : Only (fun _ => False) w2 W) => pSuper (HP2.out.only hW) (by omega) HG.out.root HG.out.fine z)
    have CS2 := hid (fun W (hW : Only (fun _ => False) w2 W) => refSuperN qb ks cs z W (HD2.out.only hW) (by omega))
    have CT1 := hid (fun W (hW : Only (fun _ => False) w2 W) => pSlotsAny HG.out _ z rfl W (HP2.out.only hW))
    have CT2 := hid (fun W (hW : Only (fun _ => False) w2 W) => refSlotsAny qb ks cs HG.out.small HG.out.ends HDS.out z W (HD2.out.only hW))
    have HSS := hid (slotsAny_le HG.out z)
    generalize slotsAny ks z = us at *
    generalize superZ ks z = su at *
    have e1 : (su != su) = false := by simp
    go_wp2_with (fail)
    refine (CS1.out _ HON.out).mono ?_
    rintro e w3 ⟨rfl, ho3⟩
    have HO3 := hid (HON.out.trans ho3 (fun _ h _ => h))
    clear ho3
    go_wp2_with (fail)
    refine (CS2.out _ HO3.out).mono ?_
    rintro e w4 ⟨rfl, hww⟩
    subst hww
    go_wp2_with (fail)
    refine (CT1.out _ HO3.out).mono ?_
    rintro e wa ⟨ra, rfl, hra, hoa⟩
    obtain ⟨aa, ca, rfl, -, -, -, -⟩ := id hra.types
    have HTA := hid hra.types
    have HO4 := hid (HO3.out.trans hoa (fun _ h _ => h))
    clear hra hoa
    go_wp2_with (fail)
    refine (CT2.out _ HO4.out).mono ?_
    rintro e wb ⟨rb, rfl, hrb, hob⟩
    obtain ⟨ab, cb, rfl, -, -, -, -⟩ := id hrb.types
    have CE := hid (sameTy9 (.slice aa us.length ca) (.slice ab us.length cb) us wb (HTA.out.only hob) hrb.types (by have := HSS.out; omega))
    have HO5 := hid (HO4.out.trans hob (fun _ h _ => h))
    clear hrb hob
    go_wp2_with (fail)
    refine CE.out.mono ?_
    rintro e wd ⟨rfl, hod⟩
    have HO6 := hid (HO5.out.trans hod (fun _ h _ => h))
    clear hod
    have CC := hid (clsAny z (HP2.out.only HO6.out) (by omega) (fun n h13 hn => PC.out n h13 hn _ (HO2.out.trans HO6.out (fun _ h _ => h))))
    clear CS1 CS2 CT1 CT2 HSS e1 HON q0 HTA CE HO3 HO4 HO5
    go_wp2_with (fail)
    refine CC.out.mono ?_
    rintro e w3 ⟨pa, pl, pc, fa, fl_, fc, ma, ml, mc, c, ok, rfl, hcase, ho3⟩
    have ha3 := ho3.alloc (.cells #[.slice pa pl pc, .int .i64 c.this, .int .i64 c.super, .slice fa fl_ fc, .slice ma ml mc] 37)
    have hn3 := heap_alloc_new w3 (.cells #[.slice pa pl pc, .int .i64 c.this, .int .i64 c.super, .slice fa fl_ fc, .slice ma ml mc] 37)
    have ha33 := (Only.refl (fun _ => False) w3).alloc (.cells #[.slice pa pl pc, .int .i64 c.this, .int .i64 c.super, .slice fa fl_ fc, .slice ma ml mc] 37)
    obtain ⟨XB, hXB⟩ : ∃ x, w3.heap.size = x := ⟨_, rfl⟩
    obtain ⟨wc, hwc⟩ : ∃ x, w3.alloc (.cells #[.slice pa pl pc, .int .i64 c.this, .int .i64 c.super, .slice fa fl_ fc, .slice ma ml mc] 37) = x := ⟨_, rfl⟩
    rw [hwc] at ha3 hn3 ha33
    rw [hXB] at hn3
    have HXB := hid hXB
    have HWC := hid hwc
    have HHX := hid hn3
    have HON4 := hid (HO6.out.trans ha3 (fun _ h _ => h))
    have HCASE := hid (clsCase hcase ha33)
    have q0 := HON4.out.cell HQ0.out (fun h => h)
    clear hcase ho3 ha3 hn3 ha33 hXB hwc CC HO6
    go_upto_region 11 with fail
    rw [HXB.out, HWC.out]
    go_cut [113] from 53 to 236 (fun s113 wx => s113 = .bool false ∧ Only (fun _ => False) w2 wx)
    case first => as_aux_lemma =>
     have hhx := HHX.out
     rcases HCASE.out with ⟨hc, rfl⟩ | ⟨⟨hc0, hc1⟩, rfl, hcm, hcn⟩
     ·
      have HS3 := hid (show (fun wc => wc.cell? ⟨qb, 0, none⟩ = some (.slice ao ks.length cap) ∧ Only (fun _ => False) w2 wc) (wc.drewN 1) from ⟨q0, HON4.out.drewN 1⟩)
      by_cases hz13 : 13 ≤ z
      ·have hzl : ¬ z < (ks.length : Int) := by omega
       have hd1 : decide (13 ≤ z) = true := decide_eq_true hz13
       have hd2 : decide (z < (ks.length : Int)) = false := decide_eq_false hzl
       clear hc HCASE q0
       go_wp2
       refine wp_region_held_drew (S := fun wc => wc.cell? ⟨qb, 0, none⟩ = some (.slice ao ks.length cap) ∧ Only (fun _ => False) w2 wc) (by kernel_rfl) HS3.out (fun hHeld => ?_)
       refine tk1 0 (v := ?_) (y := ?_) (h := ?_)
       rotate_left 1
       ·(intro w h; (try dsimp only at h); go_simp; try with_reducible rfl)
       try simp only [Act.put, sIB, sC0, sCS]
       refine tk1 1 (v := ?_) (y := ?_) (h := ?_)
       rotate_left 1
       ·(intro w h; (try dsimp only at h); go_simp; try with_reducible rfl)
       try simp only [Act.put, sIB, sC0, sCS]
       refine tk1 2 (v := ?_) (y := ?_) (h := ?_)
       rotate_left 1
       ·(intro w h; (try dsimp only at h); go_simp; try with_reducible rfl)
       try simp only [Act.put, sIB, sC0, sCS]
       refine tk1 3 (v := ?_) (y := ?_) (h := ?_)
       rotate_left 1
       ·(intro w h; (try dsimp only at h); go_simp; try with_reducible rfl)
       try simp only [Act.put, sIB, sC0, sCS]
       refine tk1 4 (v := ?_) (y := ?_) (h := ?_)
       rotate_left 1
       ·(intro w h; (try dsimp only at h); go_simp; try with_reducible rfl)
       try simp only [Act.put, sIB, sC0, sCS]
       refine tk1 5 (v := ?_) (y := ?_) (h := ?_)
       rotate_left 1
       ·(intro w h; (try dsimp only at h); go_simp; try with_reducible rfl)
       try simp only [Act.put, sIB, sC0, sCS]
       refine tk1 6 (v := ?_) (y := ?_) (h := ?_)
       rotate_left 1
       ·(intro w h; (try dsimp only at h); go_simp; try with_reducible rfl)
       try simp only [Act.put, sIB, sC0, sCS]
       refine tk1 7 (v := ?_) (y := ?_) (h := ?_)
       rotate_left 1
       ·(intro w h; (try dsimp only at h); go_simp; try with_reducible rfl)
       try simp only [Act.put, sIB, sC0, sCS]
       refine tk1 8 (v := ?_) (y := ?_) (h := ?_)
       rotate_left 1
       ·(intro w h; (try dsimp only at h); go_simp; try with_reducible rfl)
       try simp only [Act.put, sIB, sC0, sCS]
       refine tk1 9 (v := ?_) (y := ?_) (h := ?_)
       rotate_left 1
       ·(intro w h; (try dsimp only at h); go_simp; try with_reducible rfl)
       try simp only [Act.put, sIB, sC0, sCS]
       refine tk1 10 (v := ?_) (y := ?_) (h := ?_)
       rotate_left 1
       ·(intro w h; (try dsimp only at h); go_simp; try with_reducible rfl)
       try simp only [Act.put, sIB, sC0, sCS]
       refine tk1 11 (v := ?_) (y := ?_) (h := ?_)
       rotate_left 1
       ·(intro w h; (try dsimp only at h); go_simp; try with_reducible rfl)
       try simp only [Act.put, sIB, sC0, sCS]
       refine tk1 12 (v := ?_) (y := ?_) (h := ?_)
       rotate_left 1
       ·(intro w h; (try dsimp only at h); go_simp; try with_reducible rfl)
       try simp only [Act.put, sIB, sC0, sCS]
       refine tk1 13 (v := ?_) (y := ?_) (h := ?_)
       rotate_left 1
       ·(intro w h; (try dsimp only at h); go_simp; try with_reducible rfl)
       try simp only [Act.put, sIB, sC0, sCS]
       refine tk1 14 (v := ?_) (y := ?_) (h := ?_)
       rotate_left 1
       ·(intro w h; (try dsimp only at h); go_simp; try with_reducible rfl)
       try simp only [Act.put, sIB, sC0, sCS]
       refine tk1 15 (v := ?_) (y := ?_) (h := ?_)
       rotate_left 1
       ·(intro w h; (try dsimp only at h); go_simp; try with_reducible rfl)
       try simp only [Act.put, sIB, sC0, sCS]
       refine tk0 16 (h := ?_)
       try simp only [Act.put, sIB, sC0, sCS]
       refine tk0 17 (h := ?_)
       try simp only [Act.put, sIB, sC0, sCS]
       refine tk0 18 (h := ?_)
       try simp only [Act.put, sIB, sC0, sCS]
       refine tk0 19 (h := ?_)
       try simp only [Act.put, sIB, sC0, sCS]
       refine tk0 20 (h := ?_)
       try simp only [Act.put, sIB, sC0, sCS]
       refine tk0 21 (h := ?_)
       try simp only [Act.put, sIB, sC0, sCS]
       refine tk0 22 (h := ?_)
       try simp only [Act.put, sIB, sC0, sCS]
       refine tk0 23 (h := ?_)
       try simp only [Act.put, sIB, sC0, sCS]
       refine tk0 24 (h := ?_)
       try simp only [Act.put, sIB, sC0, sCS]
       refine tk0 25 (h := ?_)
       try simp only [Act.put, sIB, sC0, sCS]
       refine tk0 26 (h := ?_)
       try simp only [Act.put, sIB, sC0, sCS]
       refine tk1 27 (v := ?_) (y := ?_) (h := ?_)
       rotate_left 1
       ·(intro w h; (try dsimp only at h); go_simp; try with_reducible rfl)
       try simp only [Act.put, sIB, sC0, sCS]
       refine tk1 28 (v := ?_) (y := ?_) (h := ?_)
       rotate_left 1
       ·(intro w h; (try dsimp only at h); go_simp; try with_reducible rfl)
       try simp only [Act.put, sIB, sC0, sCS]
       refine wpAnyH_done (by kernel_rfl) ?_ _
       have HOF := hid hHeld.2
       clear hHeld HS3
       go_wp2_with (fail)
       go_meet
       exact ⟨rfl, HOF.out⟩
      ·have hd1 : decide (13 ≤ z) = false := decide_eq_false hz13
       clear hc HCASE q0
       go_wp2
       refine wp_region_held_drew (S := fun wc => wc.cell? ⟨qb, 0, none⟩ = some (.slice ao ks.length cap) ∧ Only (fun _ => False) w2 wc) (by kernel_rfl) HS3.out (fun hHeld => ?_)
       refine tk1 0 (v := ?_) (y := ?_) (h := ?_)
       rotate_left 1
       ·(intro w h; (try dsimp only at h); go_simp; try with_reducible rfl)
       try simp only [Act.put, sIB, sC0, sCS]
       refine tk1 1 (v := ?_) (y := ?_) (h := ?_)
       rotate_left 1
       ·(intro w h; (try dsimp only at h); go_simp; try with_reducible rfl)
       try simp only [Act.put, sIB, sC0, sCS]
       refine tk1 2 (v := ?_) (y := ?_) (h := ?_)
       rotate_left 1
       ·(intro w h; (try dsimp only at h); go_simp; try with_reducible rfl)
       try simp only [Act.put, sIB, sC0, sCS]
       refine tk1 3 (v := ?_) (y := ?_) (h := ?_)
       rotate_left 1
       ·(intro w h; (try dsimp only at h); go_simp; try with_reducible rfl)
       try simp only [Act.put, sIB, sC0, sCS]
       refine tk0 4 (h := ?_)
       try simp only [Act.put, sIB, sC0, sCS]
       refine tk0 5 (h := ?_)
       try simp only [Act.put, sIB, sC0, sCS]
       refine tk0 6 (h := ?_)
       try simp only [Act.put, sIB, sC0, sCS]
       refine tk0 7 (h := ?_)
       try simp only [Act.put, sIB, sC0, sCS]
       refine tk0 8 (h := ?_)
       try simp only [Act.put, sIB, sC0, sCS]
       refine tk0 9 (h := ?_)
       try simp only [Act.put, sIB, sC0, sCS]
       refine tk0 10 (h := ?_)
       try simp only [Act.put, sIB, sC0, sCS]
       refine tk1 11 (v := ?_) (y := ?_) (h := ?_)
       rotate_left 1
       ·(intro w h; (try dsimp only at h); go_simp; try with_reducible rfl)
       try simp only [Act.put, sIB, sC0, sCS]
       refine tk1 12 (v := ?_) (y := ?_) (h := ?_)
       rotate_left 1
       ·(intro w h; (try dsimp only at h); go_simp; try with_reducible rfl)
       try simp only [Act.put, sIB, sC0, sCS]
       refine tk1 13 (v := ?_) (y := ?_) (h := ?_)
       rotate_left 1
       ·(intro w h; (try dsimp only at h); go_simp; try with_reducible rfl)
       try simp only [Act.put, sIB, sC0, sCS]
       refine tk1 14 (v := ?_) (y := ?_) (h := ?_)
       rotate_left 1
       ·(intro w h; (try dsimp only at h); go_simp; try with_reducible rfl)
       try simp only [Act.put, sIB, sC0, sCS]
       refine tk1 15 (v := ?_) (y := ?_) (h := ?_)
       rotate_left 1
       ·(intro w h; (try dsimp only at h); go_simp; try with_reducible rfl)
       try simp only [Act.put, sIB, sC0, sCS]
       refine tk0 16 (h := ?_)
       try simp only [Act.put, sIB, sC0, sCS]
       refine tk0 17 (h := ?_)
       try simp only [Act.put, sIB, sC0, sCS]
       refine tk0 18 (h := ?_)
       try simp only [Act.put, sIB, sC0, sCS]
       refine tk0 19 (h := ?_)
       try simp only [Act.put, sIB, sC0, sCS]
       refine tk0 20 (h := ?_)
       try simp only [Act.put, sIB, sC0, sCS]
       refine tk0 21 (h := ?_)
       try simp only [Act.put, sIB, sC0, sCS]
       refine tk0 22 (h := ?_)
       try simp only [Act.put, sIB, sC0, sCS]
       refine tk0 23 (h := ?_)
       try simp only [Act.put, sIB, sC0, sCS]
       refine tk0 24 (h := ?_)
       try simp only [Act.put, sIB, sC0, sCS]
       refine tk0 25 (h := ?_)
       try simp only [Act.put, sIB, sC0, sCS]
       refine tk0 26 (h := ?_)
       try simp only [Act.put, sIB, sC0, sCS]
       refine tk1 27 (v := ?_) (y := ?_) (h := ?_)
       rotate_left 1
       ·(intro w h; (try dsimp only at h); go_simp; try with_reducible rfl)
       try simp only [Act.put, sIB, sC0, sCS]
       refine tk1 28 (v := ?_) (y := ?_) (h := ?_)
       rotate_left 1
       ·(intro w h; (try dsimp only at h); go_simp; try with_reducible rfl)
       try simp only [Act.put, sIB, sC0, sCS]
       refine wpAnyH_done (by kernel_rfl) ?_ _
       have HOF := hid hHeld.2
       clear hHeld HS3
       go_wp2_with (fail)
       go_meet
       exact ⟨rfl, HOF.out⟩
     ·obtain ⟨n, rfl⟩ := Int.eq_ofNat_of_zero_le (show 0 ≤ z by omega)
      obtain ⟨b, o, vf, vm, rfl, y, -, -⟩ := HK2.out.at (show n < ks.length by omega)
      have y0 := HON4.out.cell y.c0 (fun h => h)
      rw [Int.toNat_natCast] at hcn
      obtain ⟨kn, hkn⟩ : ∃ x, (ks.getD n default).name = x := ⟨_, rfl⟩
      rw [hkn] at y0 hcn
      obtain ⟨x0, x1, x2, x3, x4⟩ := cells5T hhx
      have HPO := hid hcm.1
      obtain ⟨wq, hwq⟩ : ∃ x, x = wc := ⟨_, rfl⟩
      subst hwq
      have HS11 := hid (show (fun wc => (wc.cell? ⟨qb, 0, none⟩ = some (.slice (some ⟨b, o, none⟩) ks.length cap) ∧ wc.cell? ⟨b, o + n * 5, none⟩ = some (.string kn) ∧ wc.cell? ⟨XB, 0, none⟩ = some (.slice pa pl pc) ∧ wc.cell? ⟨XB, 1, none⟩ = some (.int .i64 c.this) ∧ wc.cell? ⟨XB, 2, none⟩ = some (.int .i64 c.super) ∧ wc.cell? ⟨XB, 3, none⟩ = some (.slice fa fl_ fc) ∧ wc.cell? ⟨XB, 4, none⟩ = some (.slice ma ml mc)) ∧ Only (fun _ => False) wq wc) (wq.drewN 1) from ⟨⟨q0, y0, x0, x1, x2, x3, x4⟩, (Only.refl _ _).drewN 1⟩)
      have HCN := hid hcn
      clear hcm hhx y
      have CNm := hid (fun W (hX : Only (fun _ => False) wq W) => clsName (.slice pa pl pc) (.slice fa fl_ fc) (.slice ma ml mc) c.pool c.this c.super W (HPO.out.only hX (fun _ _ h => h)))
      rw [HCN.out] at CNm
      have hz13 : (13 : Int) ≤ (n : Int) := by omega
      have hnl : (n : Int) < (ks.length : Int) := by omega
      have hn0 : (0 : Int) ≤ (n : Int) := by omega
      have hd1 : decide ((13 : Int) ≤ (n : Int)) = true := decide_eq_true hz13
      have hd2 : decide ((n : Int) < (ks.length : Int)) = true := decide_eq_true hnl
      clear hc0 hc1 hcn HCASE q0 y0 x0 x1 x2 x3 x4
      go_wp2
      refine wp_region_held_drew (S := fun wc => (wc.cell? ⟨qb, 0, none⟩ = some (.slice (some ⟨b, o, none⟩) ks.length cap) ∧ wc.cell? ⟨b, o + n * 5, none⟩ = some (.string kn) ∧ wc.cell? ⟨XB, 0, none⟩ = some (.slice pa pl pc) ∧ wc.cell? ⟨XB, 1, none⟩ = some (.int .i64 c.this) ∧ wc.cell? ⟨XB, 2, none⟩ = some (.int .i64 c.super) ∧ wc.cell? ⟨XB, 3, none⟩ = some (.slice fa fl_ fc) ∧ wc.cell? ⟨XB, 4, none⟩ = some (.slice ma ml mc)) ∧ Only (fun _ => False) wq wc) (by kernel_rfl) HS11.out (fun hHeld => ?_)
      refine tk1 0 (v := ?_) (y := ?_) (h := ?_)
      rotate_left 1
      ·(intro w h; (try dsimp only at h); go_simp; try with_reducible rfl)
      try simp only [Act.put, sIB, sC0, sCS]
      refine tk1 1 (v := ?_) (y := ?_) (h := ?_)
      rotate_left 1
      ·(intro w h; (try dsimp only at h); go_simp; try with_reducible rfl)
      try simp only [Act.put, sIB, sC0, sCS]
      refine tk1 2 (v := ?_) (y := ?_) (h := ?_)
      rotate_left 1
      ·(intro w h; (try dsimp only at h); go_simp; try with_reducible rfl)
      try simp only [Act.put, sIB, sC0, sCS]
      refine tk1 3 (v := ?_) (y := ?_) (h := ?_)
      rotate_left 1
      ·(intro w h; (try dsimp only at h); go_simp; try with_reducible rfl)
      try simp only [Act.put, sIB, sC0, sCS]
      refine tk1 4 (v := ?_) (y := ?_) (h := ?_)
      rotate_left 1
      ·(intro w h; (try dsimp only at h); go_simp; try with_reducible rfl)
      try simp only [Act.put, sIB, sC0, sCS]
      refine tk1 5 (v := ?_) (y := ?_) (h := ?_)
      rotate_left 1
      ·(intro w h; (try dsimp only at h); go_simp; try with_reducible rfl)
      try simp only [Act.put, sIB, sC0, sCS]
      refine tk1 6 (v := ?_) (y := ?_) (h := ?_)
      rotate_left 1
      ·(intro w h; (try dsimp only at h); go_simp; try with_reducible rfl)
      try simp only [Act.put, sIB, sC0, sCS]
      refine tk1 7 (v := ?_) (y := ?_) (h := ?_)
      rotate_left 1
      ·(intro w h; (try dsimp only at h); go_simp; try with_reducible rfl)
      try simp only [Act.put, sIB, sC0, sCS]
      refine tk1 8 (v := ?_) (y := ?_) (h := ?_)
      rotate_left 1
      ·(intro w h; (try dsimp only at h); go_simp; try with_reducible rfl)
      try simp only [Act.put, sIB, sC0, sCS]
      refine tk1 9 (v := ?_) (y := ?_) (h := ?_)
      rotate_left 1
      ·(intro w h; (try dsimp only at h); go_simp; try with_reducible rfl)
      try simp only [Act.put, sIB, sC0, sCS]
      refine tk1 10 (v := ?_) (y := ?_) (h := ?_)
      rotate_left 1
      ·(intro w h; (try dsimp only at h); go_simp; try with_reducible rfl)
      try simp only [Act.put, sIB, sC0, sCS]
      refine tk1 11 (v := ?_) (y := ?_) (h := ?_)
      rotate_left 1
      ·(intro w h; (try dsimp only at h); go_simp; try with_reducible rfl)
      try simp only [Act.put, sIB, sC0, sCS]
      refine tk1 12 (v := ?_) (y := ?_) (h := ?_)
      rotate_left 1
      ·(intro w h; (try dsimp only at h); go_simp; try with_reducible rfl)
      try simp only [Act.put, sIB, sC0, sCS]
      refine tk1 13 (v := ?_) (y := ?_) (h := ?_)
      rotate_left 1
      ·(intro w h; (try dsimp only at h); go_simp; try with_reducible rfl)
      try simp only [Act.put, sIB, sC0, sCS]
      refine tk1 14 (v := ?_) (y := ?_) (h := ?_)
      rotate_left 1
      ·(intro w h; (try dsimp only at h); go_simp; try with_reducible rfl)
      try simp only [Act.put, sIB, sC0, sCS]
      refine tk1 15 (v := ?_) (y := ?_) (h := ?_)
      rotate_left 1
      ·(intro w h; (try dsimp only at h); go_simp; try with_reducible rfl)
      try simp only [Act.put, sIB, sC0, sCS]
      refine tk1 16 (v := ?_) (y := ?_) (h := ?_)
      rotate_left 1
      ·(intro w h; (try dsimp only at h); go_simp; try with_reducible rfl)
      try simp only [Act.put, sIB, sC0, sCS]
      refine tk1 18 (v := ?_) (y := ?_) (h := ?_)
      rotate_left 1
      ·(intro w h; (try dsimp only at h); go_simp; try with_reducible rfl)
      try simp only [Act.put, sIB, sC0, sCS]
      refine tk1 19 (v := ?_) (y := ?_) (h := ?_)
      rotate_left 1
      ·(intro w h; (try dsimp only at h); go_simp; try with_reducible rfl)
      try simp only [Act.put, sIB, sC0, sCS]
      refine tk1 20 (v := ?_) (y := ?_) (h := ?_)
      rotate_left 1
      ·(intro w h; (try dsimp only at h); go_simp; try with_reducible rfl)
      try simp only [Act.put, sIB, sC0, sCS]
      refine tk1 21 (v := ?_) (y := ?_) (h := ?_)
      rotate_left 1
      ·(intro w h; (try dsimp only at h); go_simp; try with_reducible rfl)
      try simp only [Act.put, sIB, sC0, sCS]
      refine tk1 22 (v := ?_) (y := ?_) (h := ?_)
      rotate_left 1
      ·(intro w h; (try dsimp only at h); go_simp; try with_reducible rfl)
      try simp only [Act.put, sIB, sC0, sCS]
      refine tk1 23 (v := ?_) (y := ?_) (h := ?_)
      rotate_left 1
      ·(intro w h; (try dsimp only at h); go_simp; try with_reducible rfl)
      try simp only [Act.put, sIB, sC0, sCS]
      refine tk1 24 (v := ?_) (y := ?_) (h := ?_)
      rotate_left 1
      ·(intro w h; (try dsimp only at h); go_simp; try with_reducible rfl)
      try simp only [Act.put, sIB, sC0, sCS]
      refine tk1 25 (v := ?_) (y := ?_) (h := ?_)
      rotate_left 1
      ·(intro w h; (try dsimp only at h); go_simp; try with_reducible rfl)
      try simp only [Act.put, sIB, sC0, sCS]
      refine wpAnyH_ready (rs := [17]) (by kernel_rfl) (by simp) ?_
      refine AllReadyH.cons (by simp only [List.getElem?_toArray, List.getElem?_cons_succ, List.getElem?_cons_zero]; rfl) (fun K hK => ?_) AllReadyH.nil
      go_simp
      (refine (CNm.out _ hHeld.2).mono ?_; rintro e wk ⟨rfl, hok⟩; have HQ7 := hid (keepS11 hHeld hok); clear hok)
      go_wp2_with fail
      refine hK.out _ _ ?_ (fun hHeld2 => ?_)
      ·exact HQ7.out
      clear hK K
      try simp only [Act.put, sIB, sC0, sCS]
      clear hHeld
      have hHeld := hHeld2
      clear hHeld2
      refine tk1 26 (v := ?_) (y := ?_) (h := ?_)
      rotate_left 1
      ·(intro w h; (try dsimp only at h); go_simp; try with_reducible rfl)
      try simp only [Act.put, sIB, sC0, sCS]
      refine tk1 27 (v := ?_) (y := ?_) (h := ?_)
      rotate_left 1
      ·(intro w h; (try dsimp only at h); go_simp; try with_reducible rfl)
      try simp only [Act.put, sIB, sC0, sCS]
      refine tk1 28 (v := ?_) (y := ?_) (h := ?_)
      rotate_left 1
      ·(intro w h; (try dsimp only at h); go_simp; try with_reducible rfl)
      try simp only [Act.put, sIB, sC0, sCS]
      refine wpAnyH_done (by kernel_rfl) ?_ _
      have HOF := hid (HON4.out.trans hHeld.2 (fun _ h _ => h))
      clear hHeld HS11 HQ7
      go_wp2_with (fail)
      go_meet
      exact ⟨rfl, HOF.out⟩
    case rest =>
    obtain ⟨rfl, hon5⟩ := hcut
    have HON5 := hid hon5
    have q0 := HON5.out.cell HQ0.out (fun h => h)
    clear hon5 HCASE HON4 HHX HXB HWC
    by_cases hzn : z < 0
    ·have hd1 : decide (z < 0) = true := decide_eq_true hzn
     go_wp2
     go_meet
     exact HON5.out
    by_cases hzl : z = ks.length
    ·have hd1 : decide (z < 0) = false := decide_eq_false hzn
     have hd2 : (z == (ks.length : Int)) = true := by simp [hzl]
     clear hzl
     go_wp2
     go_meet
     exact HON5.out
    obtain ⟨n, rfl⟩ := Int.eq_ofNat_of_zero_le (show 0 ≤ z by omega)
    have hn : n < ks.length := by omega
    have hd1 : decide ((n : Int) < 0) = false := decide_eq_false hzn
    have hd2 : ((n : Int) == (ks.length : Int)) = false := beq_eq_false_iff_ne.2 hzl
    obtain ⟨b, o, vf, vm, rfl, y, -, hmm⟩ := HK2.out.at hn
    have y0 := y.c0
    have y3 := y.c3
    obtain ⟨am, cm, rfl, m1, m2, -, -⟩ := id hmm
    have ht1 : Pairs w2 (.slice at_ (treeZ ks).length ct) (treeZ ks) := by rw [HTL.out]; exact HTV2.out
    have hr1 : Pairs w2 (.slice ar (treeZ ks).length cr) (treeZ ks) := by rw [HTL.out]; exact HRV.out
    obtain ⟨bt, ot, hbt, t01⟩ := Sl.at ht1 (by rw [HTL.out]; exact hn)
    obtain ⟨br, or_, hbr, r01⟩ := Sl.at hr1 (by rw [HTL.out]; exact hn)
    subst hbt hbr
    rw [treeZ_at hn] at t01 r01
    obtain ⟨t0, t1⟩ := t01
    obtain ⟨r0, r1⟩ := r01
    simp only at t0 t1 r0 r1
    have CN1 := hid (fun W (hW : Only (fun _ => False) w2 W) => pName (HP2.out.only hW) (by omega) (n : Int))
    rw [show nameZ ks (n : Int) = (ks.getD n default).name by unfold nameZ; rw [if_neg (by omega), Int.toNat_natCast]] at CN1
    have CF := hid (fun W (hW : Only (fun _ => False) w2 W) => pFind (HP2.out.only hW) (by omega) (ks.getD n default).name (by have := (HG.out.fine _ (getD_memK hn)).name; unfold maxLen; omega))
    rw [show findZ ks (ks.getD n default).name = (n : Int) from HG.out.once n hn] at CF
    have P1 := hid (fun i W (hW : Only (fun _ => False) w2 W) => PT.out n hn i W (HO2.out.trans hW (fun _ h _ => h)))
    have P2 := hid (fun i W (hW : Only (fun _ => False) w2 W) => RT.out n hn i W (HO2.out.trans hW (fun _ h _ => h)))
    have hml64 := (HG.out.fine _ (getD_memK hn)).meths
    obtain ⟨kn, hkn⟩ : ∃ x, (ks.getD n default).name = x := ⟨_, rfl⟩
    obtain ⟨ksu, hksu⟩ : ∃ x, (ks.getD n default).super = x := ⟨_, rfl⟩
    obtain ⟨ml, hml⟩ : ∃ x, (ks.getD n default).meths.length = x := ⟨_, rfl⟩
    rw [hkn] at y0 t0 r0 CN1 CF
    rw [hksu] at t1 r1
    rw [hml] at y3 hml64
    have HY3 := hid y3
    have hnz : (n : Int) < (ks.length : Int) := by omega
    have hn0 : (0 : Int) ≤ (n : Int) := by omega
    have HS14 := hid (show (fun wc => (wc.cell? ⟨qb, 0, none⟩ = some (.slice (some ⟨b, o, none⟩) ks.length cap) ∧ wc.cell? ⟨b, o + n * 5, none⟩ = some (.string kn) ∧ wc.cell? ⟨bt, ot + n * 2, none⟩ = some (.string kn) ∧ wc.cell? ⟨bt, ot + n * 2 + 1, none⟩ = some (.string ksu) ∧ wc.cell? ⟨br, or_ + n * 2, none⟩ = some (.string kn) ∧ wc.cell? ⟨br, or_ + n * 2 + 1, none⟩ = some (.string ksu)) ∧ Only (fun _ => False) w2 wc) (wc.drewN 1) from ⟨⟨q0, HON5.out.cell y0 (fun h => h), HON5.out.cell t0 (fun h => h), HON5.out.cell t1 (fun h => h), HON5.out.cell r0 (fun h => h), HON5.out.cell r1 (fun h => h)⟩, HON5.out.drewN 1⟩)
    clear y hmm ht1 hr1 t0 t1 r0 r1 y0 y3 hkn hksu hml hzl hzn
    go_upto_region 14 with fail
    go_cut [176] from 53 to 236 (fun s176 wx => s176 = .bool false ∧ Only (fun _ => False) w2 wx)
    case first => as_aux_lemma =>
     clear q0
     go_wp2
     refine wp_region_held_drew (S := fun wc => (wc.cell? ⟨qb, 0, none⟩ = some (.slice (some ⟨b, o, none⟩) ks.length cap) ∧ wc.cell? ⟨b, o + n * 5, none⟩ = some (.string kn) ∧ wc.cell? ⟨bt, ot + n * 2, none⟩ = some (.string kn) ∧ wc.cell? ⟨bt, ot + n * 2 + 1, none⟩ = some (.string ksu) ∧ wc.cell? ⟨br, or_ + n * 2, none⟩ = some (.string kn) ∧ wc.cell? ⟨br, or_ + n * 2 + 1, none⟩ = some (.string ksu)) ∧ Only (fun _ => False) w2 wc) (by kernel_rfl) HS14.out (fun hHeld => ?_)
     refine tk1 0 (v := ?_) (y := ?_) (h := ?_)
     rotate_left 1
     ·(intro w h; (try dsimp only at h); go_simp; try with_reducible rfl)
     try simp only [Act.put, sIB, sC0, sCS]
     refine tk1 1 (v := ?_) (y := ?_) (h := ?_)
     rotate_left 1
     ·(intro w h; (try dsimp only at h); go_simp; try with_reducible rfl)
     try simp only [Act.put, sIB, sC0, sCS]
     refine tk1 3 (v := ?_) (y := ?_) (h := ?_)
     rotate_left 1
     ·(intro w h; (try dsimp only at h); go_simp; try with_reducible rfl)
     try simp only [Act.put, sIB, sC0, sCS]
     refine tk1 4 (v := ?_) (y := ?_) (h := ?_)
     rotate_left 1
     ·(intro w h; (try dsimp only at h); go_simp; try with_reducible rfl)
     try simp only [Act.put, sIB, sC0, sCS]
     refine tk1 5 (v := ?_) (y := ?_) (h := ?_)
     rotate_left 1
     ·(intro w h; (try dsimp only at h); go_simp; try with_reducible rfl)
     try simp only [Act.put, sIB, sC0, sCS]
     refine tk1 6 (v := ?_) (y := ?_) (h := ?_)
     rotate_left 1
     ·(intro w h; (try dsimp only at h); go_simp; try with_reducible rfl)
     try simp only [Act.put, sIB, sC0, sCS]
     refine tk1 7 (v := ?_) (y := ?_) (h := ?_)
     rotate_left 1
     ·(intro w h; (try dsimp only at h); go_simp; try with_reducible rfl)
     try simp only [Act.put, sIB, sC0, sCS]
     refine tk1 8 (v := ?_) (y := ?_) (h := ?_)
     rotate_left 1
     ·(intro w h; (try dsimp only at h); go_simp; try with_reducible rfl)
     try simp only [Act.put, sIB, sC0, sCS]
     refine tk1 9 (v := ?_) (y := ?_) (h := ?_)
     rotate_left 1
     ·(intro w h; (try dsimp only at h); go_simp; try with_reducible rfl)
     try simp only [Act.put, sIB, sC0, sCS]
     refine tk1 10 (v := ?_) (y := ?_) (h := ?_)
     rotate_left 1
     ·(intro w h; (try dsimp only at h); go_simp; try with_reducible rfl)
     try simp only [Act.put, sIB, sC0, sCS]
     refine wpAnyH_ready (rs := [2]) (by kernel_rfl) (by simp) ?_
     refine AllReadyH.cons (by simp only [List.getElem?_toArray, List.getElem?_cons_succ, List.getElem?_cons_zero]; rfl) (fun K hK => ?_) AllReadyH.nil
     go_simp
     (refine (CN1.out _ hHeld.2).mono ?_; rintro e wk ⟨rfl, hok⟩; have HQ8 := hid (keepS14 hHeld hok); clear hok)
     go_wp2_with fail
     refine hK.out _ _ ?_ (fun hHeld2 => ?_)
     ·exact HQ8.out
     clear hK K
     try simp only [Act.put, sIB, sC0, sCS]
     clear hHeld
     have hHeld := hHeld2
     clear hHeld2
     refine tk1 11 (v := ?_) (y := ?_) (h := ?_)
     rotate_left 1
     ·(intro w h; (try dsimp only at h); go_simp; try with_reducible rfl)
     try simp only [Act.put, sIB, sC0, sCS]
     refine tk1 12 (v := ?_) (y := ?_) (h := ?_)
     rotate_left 1
     ·(intro w h; (try dsimp only at h); go_simp; try with_reducible rfl)
     try simp only [Act.put, sIB, sC0, sCS]
     refine tk1 13 (v := ?_) (y := ?_) (h := ?_)
     rotate_left 1
     ·(intro w h; (try dsimp only at h); go_simp; try with_reducible rfl)
     try simp only [Act.put, sIB, sC0, sCS]
     refine tk1 14 (v := ?_) (y := ?_) (h := ?_)
     rotate_left 1
     ·(intro w h; (try dsimp only at h); go_simp; try with_reducible rfl)
     try simp only [Act.put, sIB, sC0, sCS]
     refine tk1 15 (v := ?_) (y := ?_) (h := ?_)
     rotate_left 1
     ·(intro w h; (try dsimp only at h); go_simp; try with_reducible rfl)
     try simp only [Act.put, sIB, sC0, sCS]
     refine tk1 16 (v := ?_) (y := ?_) (h := ?_)
     rotate_left 1
     ·(intro w h; (try dsimp only at h); go_simp; try with_reducible rfl)
     try simp only [Act.put, sIB, sC0, sCS]
     refine tk1 17 (v := ?_) (y := ?_) (h := ?_)
     rotate_left 1
     ·(intro w h; (try dsimp only at h); go_simp; try with_reducible rfl)
     try simp only [Act.put, sIB, sC0, sCS]
     refine tk1 18 (v := ?_) (y := ?_) (h := ?_)
     rotate_left 1
     ·(intro w h; (try dsimp only at h); go_simp; try with_reducible rfl)
     try simp only [Act.put, sIB, sC0, sCS]
     refine tk1 19 (v := ?_) (y := ?_) (h := ?_)
     rotate_left 1
     ·(intro w h; (try dsimp only at h); go_simp; try with_reducible rfl)
     try simp only [Act.put, sIB, sC0, sCS]
     refine tk1 20 (v := ?_) (y := ?_) (h := ?_)
     rotate_left 1
     ·(intro w h; (try dsimp only at h); go_simp; try with_reducible rfl)
     try simp only [Act.put, sIB, sC0, sCS]
     refine tk1 21 (v := ?_) (y := ?_) (h := ?_)
     rotate_left 1
     ·(intro w h; (try dsimp only at h); go_simp; try with_reducible rfl)
     try simp only [Act.put, sIB, sC0, sCS]
     refine tk1 23 (v := ?_) (y := ?_) (h := ?_)
     rotate_left 1
     ·(intro w h; (try dsimp only at h); go_simp; try with_reducible rfl)
     try simp only [Act.put, sIB, sC0, sCS]
     refine wpAnyH_ready (rs := [22]) (by kernel_rfl) (by simp) ?_
     refine AllReadyH.cons (by simp only [List.getElem?_toArray, List.getElem?_cons_succ, List.getElem?_cons_zero]; rfl) (fun K hK => ?_) AllReadyH.nil
     go_simp
     (refine (CF.out _ hHeld.2).mono ?_; rintro e wk2 ⟨rfl, hww⟩; subst hww; have HQ9 := hid hHeld)
     go_wp2_with fail
     refine hK.out _ _ ?_ (fun hHeld2 => ?_)
     ·exact HQ9.out
     clear hK K
     try simp only [Act.put, sIB, sC0, sCS]
     clear hHeld
     have hHeld := hHeld2
     clear hHeld2
     refine tk1 24 (v := ?_) (y := ?_) (h := ?_)
     rotate_left 1
     ·(intro w h; (try dsimp only at h); go_simp; try with_reducible rfl)
     try simp only [Act.put, sIB, sC0, sCS]
     refine tk1 25 (v := ?_) (y := ?_) (h := ?_)
     rotate_left 1
     ·(intro w h; (try dsimp only at h); go_simp; try with_reducible rfl)
     try simp only [Act.put, sIB, sC0, sCS]
     refine tk1 26 (v := ?_) (y := ?_) (h := ?_)
     rotate_left 1
     ·(intro w h; (try dsimp only at h); go_simp; try with_reducible rfl)
     try simp only [Act.put, sIB, sC0, sCS]
     refine tk1 27 (v := ?_) (y := ?_) (h := ?_)
     rotate_left 1
     ·(intro w h; (try dsimp only at h); go_simp; try with_reducible rfl)
     try simp only [Act.put, sIB, sC0, sCS]
     refine tk1 28 (v := ?_) (y := ?_) (h := ?_)
     rotate_left 1
     ·(intro w h; (try dsimp only at h); go_simp; try with_reducible rfl)
     try simp only [Act.put, sIB, sC0, sCS]
     refine tk1 29 (v := ?_) (y := ?_) (h := ?_)
     rotate_left 1
     ·(intro w h; (try dsimp only at h); go_simp; try with_reducible rfl)
     try simp only [Act.put, sIB, sC0, sCS]
     refine tk1 30 (v := ?_) (y := ?_) (h := ?_)
     rotate_left 1
     ·(intro w h; (try dsimp only at h); go_simp; try with_reducible rfl)
     try simp only [Act.put, sIB, sC0, sCS]
     refine tk1 31 (v := ?_) (y := ?_) (h := ?_)
     rotate_left 1
     ·(intro w h; (try dsimp only at h); go_simp; try with_reducible rfl)
     try simp only [Act.put, sIB, sC0, sCS]
     refine tk1 32 (v := ?_) (y := ?_) (h := ?_)
     rotate_left 1
     ·(intro w h; (try dsimp only at h); go_simp; try with_reducible rfl)
     try simp only [Act.put, sIB, sC0, sCS]
     refine tk1 33 (v := ?_) (y := ?_) (h := ?_)
     rotate_left 1
     ·(intro w h; (try dsimp only at h); go_simp; try with_reducible rfl)
     try simp only [Act.put, sIB, sC0, sCS]
     refine tk1 34 (v := ?_) (y := ?_) (h := ?_)
     rotate_left 1
     ·(intro w h; (try dsimp only at h); go_simp; try with_reducible rfl)
     try simp only [Act.put, sIB, sC0, sCS]
     refine tk1 35 (v := ?_) (y := ?_) (h := ?_)
     rotate_left 1
     ·(intro w h; (try dsimp only at h); go_simp; try with_reducible rfl)
     try simp only [Act.put, sIB, sC0, sCS]
     refine tk1 36 (v := ?_) (y := ?_) (h := ?_)
     rotate_left 1
     ·(intro w h; (try dsimp only at h); go_simp; try with_reducible rfl)
     try simp only [Act.put, sIB, sC0, sCS]
     refine tk1 37 (v := ?_) (y := ?_) (h := ?_)
     rotate_left 1
     ·(intro w h; (try dsimp only at h); go_simp; try with_reducible rfl)
     try simp only [Act.put, sIB, sC0, sCS]
     refine tk1 38 (v := ?_) (y := ?_) (h := ?_)
     rotate_left 1
     ·(intro w h; (try dsimp only at h); go_simp; try with_reducible rfl)
     try simp only [Act.put, sIB, sC0, sCS]
     refine tk1 39 (v := ?_) (y := ?_) (h := ?_)
     rotate_left 1
     ·(intro w h; (try dsimp only at h); go_simp; try with_reducible rfl)
     try simp only [Act.put, sIB, sC0, sCS]
     refine tk1 40 (v := ?_) (y := ?_) (h := ?_)
     rotate_left 1
     ·(intro w h; (try dsimp only at h); go_simp; try with_reducible rfl)
     try simp only [Act.put, sIB, sC0, sCS]
     refine tk1 41 (v := ?_) (y := ?_) (h := ?_)
     rotate_left 1
     ·(intro w h; (try dsimp only at h); go_simp; try with_reducible rfl)
     try simp only [Act.put, sIB, sC0, sCS]
     refine tk1 42 (v := ?_) (y := ?_) (h := ?_)
     rotate_left 1
     ·(intro w h; (try dsimp only at h); go_simp; try with_reducible rfl)
     try simp only [Act.put, sIB, sC0, sCS]
     refine tk1 43 (v := ?_) (y := ?_) (h := ?_)
     rotate_left 1
     ·(intro w h; (try dsimp only at h); go_simp; try with_reducible rfl)
     try simp only [Act.put, sIB, sC0, sCS]
     refine tk1 44 (v := ?_) (y := ?_) (h := ?_)
     rotate_left 1
     ·(intro w h; (try dsimp only at h); go_simp; try with_reducible rfl)
     try simp only [Act.put, sIB, sC0, sCS]
     refine tk1 45 (v := ?_) (y := ?_) (h := ?_)
     rotate_left 1
     ·(intro w h; (try dsimp only at h); go_simp; try with_reducible rfl)
     try simp only [Act.put, sIB, sC0, sCS]
     refine tk1 46 (v := ?_) (y := ?_) (h := ?_)
     rotate_left 1
     ·(intro w h; (try dsimp only at h); go_simp; try with_reducible rfl)
     try simp only [Act.put, sIB, sC0, sCS]
     refine tk1 47 (v := ?_) (y := ?_) (h := ?_)
     rotate_left 1
     ·(intro w h; (try dsimp only at h); go_simp; try with_reducible rfl)
     try simp only [Act.put, sIB, sC0, sCS]
     refine tk1 48 (v := ?_) (y := ?_) (h := ?_)
     rotate_left 1
     ·(intro w h; (try dsimp only at h); go_simp; try with_reducible rfl)
     try simp only [Act.put, sIB, sC0, sCS]
     refine tk1 49 (v := ?_) (y := ?_) (h := ?_)
     rotate_left 1
     ·(intro w h; (try dsimp only at h); go_simp; try with_reducible rfl)
     try simp only [Act.put, sIB, sC0, sCS]
     refine tk1 50 (v := ?_) (y := ?_) (h := ?_)
     rotate_left 1
     ·(intro w h; (try dsimp only at h); go_simp; try with_reducible rfl)
     try simp only [Act.put, sIB, sC0, sCS]
     refine tk1 51 (v := ?_) (y := ?_) (h := ?_)
     rotate_left 1
     ·(intro w h; (try dsimp only at h); go_simp; try with_reducible rfl)
     try simp only [Act.put, sIB, sC0, sCS]
     refine wpAnyH_done (by kernel_rfl) ?_ _
     have HOF := hid hHeld.2
     clear hHeld HS14 HQ8 HQ9
     go_wp2_with (fail)
     go_meet
     exact ⟨rfl, HOF.out⟩
    case rest =>
    obtain ⟨rfl, hon6⟩ := hcut
    have HON6 := hid hon6
    clear hon6 HS14 CN1 CF HON5 q0
    as_aux_lemma =>
    go_wp2
    go_loopw [10, 11, 12, 13, 14, 15, 16, 17, 18] (fun iv _ _ _ _ _ _ _ _ wr => ∃ i : Int, iv = .int .i64 i ∧ -1 ≤ i ∧ i ≤ ml + 1 ∧ Hid (Only (fun _ => False) w2 wr)) (fun iv _ _ _ _ _ _ _ _ _ => (ml + 1 - Lib.intOf iv).toNat)
    case atStart => exact ⟨-1, rfl, by omega, by omega, HON6⟩
    case round =>
     obtain ⟨i, rfl, hi0, hi1, HOI⟩ := hrel
     have q0 := HOI.out.cell HQ0.out (fun h => h)
     have q3 := HOI.out.cell HY3.out (fun h => h)
     by_cases hil : i ≤ ml
     ·have HSI := hid (stepW9 hi0 hil)
      have HWI := hid (wrapW9 hi0 hil hml64)
      have hd3 : decide (i ≤ (ml : Int)) = true := decide_eq_true hil
      clear hi0 hi1 hil
      have C1 := hid (P1.out i)
      have C2 := hid (P2.out i)
      obtain ⟨tl, htl⟩ : ∃ x, tellM ks cs n i = x := ⟨_, rfl⟩
      rw [htl] at C1 C2
      have e1 : (tl.flags != tl.flags) = false := by simp
      have e2 : (tl.ok != tl.ok) = false := by simp
      clear htl
      go_wp2_with (fail)
      refine (C1.out _ HOI.out).mono ?_
      rintro e w3 ⟨p1, p2, p3, p4, pa1, pl1, pc1, pa2, pl2, pc2, pa3, pl3, pc3, rfl, hby, ho3⟩
      have ha3 := ho3.alloc (.cells #[.int .i64 tl.flags, .int .i64 p1, .int .i64 p2, .int .i64 p3, .int .i64 p4, .slice pa1 pl1 pc1, .slice pa2 pl2 pc2, .slice pa3 pl3 pc3] 79)
      have hn3 := heap_alloc_new w3 (.cells #[.int .i64 tl.flags, .int .i64 p1, .int .i64 p2, .int .i64 p3, .int .i64 p4, .slice pa1 pl1 pc1, .slice pa2 pl2 pc2, .slice pa3 pl3 pc3] 79)
      obtain ⟨X, hX⟩ : ∃ x, w3.heap.size = x := ⟨_, rfl⟩
      obtain ⟨w4, hw4⟩ : ∃ x, w3.alloc (.cells #[.int .i64 tl.flags, .int .i64 p1, .int .i64 p2, .int .i64 p3, .int .i64 p4, .slice pa1 pl1 pc1, .slice pa2 pl2 pc2, .slice pa3 pl3 pc3] 79) = x := ⟨_, rfl⟩
      rw [hw4] at ha3 hn3
      rw [hX] at hn3
      have HX := hid hX
      have HW4 := hid hw4
      have HN3 := hid hn3
      have HO4 := hid (HOI.out.trans ha3 (fun _ h _ => h))
      have HB4 := hid (hby.only (show Only (fun _ => False) w3 w4 from by rw [← hw4]; exact (Only.refl _ _).alloc _) (fun _ _ _ h => h))
      clear ha3 hn3 hX hw4 hby ho3
      go_wp2_with (fail)
      rw [HX.out, HW4.out]
      refine (C2.out _ HO4.out).mono ?_
      rintro e w5 ⟨s1, s2, s3, s4, sa1, sl1, sc1, sa2, sl2, sc2, sa3, sl3, sc3, rfl, hby, ho5⟩
      have ha5 := ho5.alloc (.cells #[.int .i64 tl.flags, .int .i64 s1, .int .i64 s2, .int .i64 s3, .int .i64 s4, .slice sa1 sl1 sc1, .slice sa2 sl2 sc2, .slice sa3 sl3 sc3] 79)
      have hn5 := heap_alloc_new w5 (.cells #[.int .i64 tl.flags, .int .i64 s1, .int .i64 s2, .int .i64 s3, .int .i64 s4, .slice sa1 sl1 sc1, .slice sa2 sl2 sc2, .slice sa3 sl3 sc3] 79)
      obtain ⟨Y, hY⟩ : ∃ x, w5.heap.size = x := ⟨_, rfl⟩
      obtain ⟨w6, hw6⟩ : ∃ x, w5.alloc (.cells #[.int .i64 tl.flags, .int .i64 s1, .int .i64 s2, .int .i64 s3, .int .i64 s4, .slice sa1 sl1 sc1, .slice sa2 sl2 sc2, .slice sa3 sl3 sc3] 79) = x := ⟨_, rfl⟩
      rw [hw6] at ha5 hn5
      rw [hY] at hn5
      have HY := hid hY
      have HW6 := hid hw6
      have x0 := cell_blk (ha5.heap HN3.out (fun h => h)) 0
      have x5 := cell_blk (ha5.heap HN3.out (fun h => h)) 5
      have z0 := cell_blk hn5 0
      have z5 := cell_blk hn5 5
      have HO6 := hid (HO4.out.trans ha5 (fun _ h _ => h))
      have v1 := conv8 (HB4.out.only ha5 (fun _ _ _ h => h))
      have v2 := conv8 (hby.only (show Only (fun _ => False) w5 w6 from by rw [← hw6]; exact (Only.refl _ _).alloc _) (fun _ _ _ h => h))
      clear ha5 hn5 hY hw6 hby ho5 q0 q3 HB4 HN3
      go_upto_region 21 with fail
      rw [HY.out, HW6.out]
      go_wp2
      go_roundw
      case rel => exact ⟨i + 1, congrArg _ HWI.out, HSI.out.1.1, HSI.out.1.2, HO6⟩
      case measure => simp only [Lib.intOf]; rw [HWI.out]; exact HSI.out.2
     ·have hd3 : decide (i ≤ (ml : Int)) = false := decide_eq_false hil
      clear hi0 hi1 hil
      go_wp2_with (fail)
      go_meet
      exact HOI.out
   case rest =>
    have HCUT := hid hcut
    clear hcut
    go_wp2
    go_roundw
    case rel => exact ⟨z + 1, by first | rfl | exact congrArg _ HWW.out, HST.out.1.1, HST.out.1.2, HCUT⟩
    case measure => simp only [Lib.intOf]; first | exact HST.out.2 | (rw [HWW.out]; exact HST.out.2)
  ·have hd1 : decide (z ≤ (ks.length : Int)) = false := decide_eq_false hlt
   clear hz0 hz1
   go_wp2
   go_ret
   exact ⟨rfl, HO2.out.trans HON.out (fun _ h _ => h)⟩
end Go.Proofs.YtemplkpcckmcoaaGreatDoor
