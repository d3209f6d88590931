import Derived.Test.YtinbelghhfodiaaGreatDoorMaTkH
import Derived.Test.YtinbelghhfodiaaGreatDoorMaRulDLpP
import Derived.Test.YtinbelghhfodiaaGreatDoorMaClsILnkWa
import Derived.Test.YtinbelghhfodiaaGreatDoorMaIxALpRa
import Derived.Test.YtinbelghhfodiaaGreatDoorMaLpJKndSh
import Derived.Deep.RegionHeld3
import Derived.Test.YtinbelghhfodiaaGreatDoorMaRuwARulE
import Derived.Test.YtinbelghhfodiaaGreatDoorMaLnkHLnkN
import Derived.Test.YtinbelghhfodiaaGreatDoorMaLnkELnkG
namespace Go.Proofs.YtinbelghhfodiaaGreatDoor
set_option maxHeartbeats 32000000
open Lib (hid)
open Go.RowKit
set_option linter.unusedVariables false
set_option linter.unusedSimpArgs false
def plZ (ks : List KindV) (n : Nat) (c : ClassV) (m : MethodV) (nm : ByteArray) (x : List TypeV × TypeV × Int) : PlcV :=
 ⟨n, c.pool, m.code, m.stack, x.2.1, firstZ m.flags (nameZ ks n) (decide (nm = initB)) x.1 m.locals.toNat, decide (nm = initB)⟩
def inList (ks : List KindV) (n i : Int) : Prop := 13 ≤ n ∧ n < ks.length ∧ 0 ≤ i ∧ i < (ks.getD n.toNat default).meths.length
def AtTo (w : World) (pb : Nat) (ks : List KindV) (cs : List ClassV) (n i : Int) (e : Ending) (w' : World) : Prop :=
 Only (fun _ => False) w w' ∧ ((¬ inList ks n i ∧ e = .returned (.tuple #[.pointer none, .int .i64 91])) ∨
  (inList ks n i ∧ ∃ xb x, e = .returned (.tuple #[.pointer (some ⟨xb, 0, none⟩), .int .i64 0]) ∧ Meth (nums ((ks.getD n.toNat default).meths.getD i.toNat default).desc) x ∧
   PlaceP w' xb pb ks (plZ ks n.toNat (cs.getD (n.toNat - 13) default) ((cs.getD (n.toNat - 13) default).methods.getD i.toNat default) ((ks.getD n.toNat default).meths.getD i.toNat default).name x)))
theorem par_len {zs : List Int} {l : List TypeV} {r : List Int} (h : Par zs l r) : l.length ≤ 16 := (parN_rest h).1
theorem meth_len {zs : List Int} {x : List TypeV × TypeV × Int} (h : Meth zs x) : x.1.length ≤ 16 := by
 rcases h with ⟨_, rfl⟩ | ⟨q, l, r, _, hp, _, rfl⟩
 ·exact Nat.zero_le _
 ·have := par_len hp
  unfold endM
  cases r with
  | nil => exact Nat.zero_le _
  | cons c t =>
   simp only
   split
   ·split
    ·exact this
    ·split
     ·exact this
     ·exact Nat.zero_le _
   ·exact Nat.zero_le _
theorem cls_vals {w : World} {a b d : Value} {c : ClassV} (h : ClassM w a b d c) : ∃ ap kp af nf kf am nm km, a = .slice ap c.pool.length kp ∧ b = .slice af nf kf ∧ d = .slice am nm km := by
 obtain ⟨ap, kp, rfl, -⟩ := id h.1
 obtain ⟨af, kf, rfl, -⟩ := id h.2.1.1
 obtain ⟨gm, hgm, -, -⟩ := id h.2.2.1
 obtain ⟨am, km, rfl, -⟩ := id hgm
 exact ⟨_, _, _, _, _, _, _, _, rfl, rfl, rfl⟩
theorem ins_vals {w : World} {a b d : Value} {m : MethodV} (h : Inside w m a b d) : ∃ ac kc at_ nt kt am nm km, a = .slice ac m.code.length kc ∧ b = .slice at_ nt kt ∧ d = .slice am nm km := by
 obtain ⟨ac, kc, rfl, -⟩ := id h.1
 obtain ⟨af, kf, rfl, -⟩ := id h.2.1.1
 obtain ⟨am, km, rfl, -⟩ := id h.2.2
 exact ⟨_, _, _, _, _, _, _, _, rfl, rfl, rfl⟩
section
variable {fv : Nat → Value} {w : World} {pb : Nat} {cs : List ClassV} {cl : Nat → ClassV} (h : MadeP fv w pb cs cl) (h0 : ∀ c ∈ cs, clsZ c = 0)
include h h0
theorem pAnyM (n i : Int) : Calls Tryz.prog 43 #[.pointer (some ⟨pb, 0, none⟩), .int .i64 n, .int .i64 i] w fun e w' => ∃ t, MTo t w e w' := by
 have hl := kindsZ_len cs
 by_cases hn : n < 0 ∨ ((kindsZ cs).length : Int) ≤ n
 ·refine (pMethodNo h.prog (by omega) n i hn).mono ?_
  rintro e w' ⟨rfl, ho⟩
  exact ⟨_, MTo.no ho⟩
 ·obtain ⟨j, rfl⟩ := Int.eq_ofNat_of_zero_le (show 0 ≤ n by omega)
  exact (pTell h0 (n := j) (by omega) i h).mono fun e w' hm => ⟨_, hm⟩
set_option maxRecDepth 100000 in
theorem pAtNo (n i : Int) (hno : n < 13 ∨ ((kindsZ cs).length : Int) ≤ n) : Calls Tryz.prog 16 #[.pointer (some ⟨pb, 0, none⟩), .int .i64 n, .int .i64 i] w fun e w' => e = .returned (.tuple #[.pointer none, .int .i64 91]) ∧ Only (fun _ => False) w w' := by
 have hl := kindsZ_len cs
 have C1 := hid (pLen h.prog (by omega))
 have C2 := hid (pClassNo h.prog (by omega) n hno)
 have C3 := hid (fun W (hW : Only (fun _ => False) w W) => pAnyM (h.only hW) h0 n i)
 have hz : (((kindsZ cs).length : Int) == 0) = false := by rw [beq_eq_false_iff_ne]; omega
 clear h h0 hno
 go_enter Tryz.func16, Tryz.ntmps16
 go_wp2_with (fail)
 refine C1.out.mono ?_
 rintro e w1 ⟨rfl, hww⟩
 subst hww
 go_wp2_with (fail)
 refine C2.out.mono ?_
 rintro e w1 ⟨rfl, ho1⟩
 have HO1 := hid (ho1.alloc (.cells #[.slice none 0 0, .int .i64 0, .int .i64 0, .slice none 0 0, .slice none 0 0] 84))
 clear ho1
 go_wp2_with (fail)
 refine (C3.out _ HO1.out).mono ?_
 rintro e w2 ⟨t, b1, b2, b3, b4, a1, l1, c1, a2, l2, c2, a3, l3, c3, rfl, -, ho2⟩
 have HO2 := hid (HO1.out.trans (ho2.alloc (.cells #[.int .i64 t.flags, .int .i64 b1, .int .i64 b2, .int .i64 b3, .int .i64 b4, .slice a1 l1 c1, .slice a2 l2 c2, .slice a3 l3 c3] 63)) (fun _ h _ => h))
 clear ho2
 go_wp2
 go_ret2
 exact ⟨rfl, HO2.out⟩
set_option maxRecDepth 100000 in
theorem pAtNoI (n : Nat) (i : Int) (h13 : 13 ≤ n) (hn : n < (kindsZ cs).length) (hno : i < 0 ∨ (((kindsZ cs).getD n default).meths.length : Int) ≤ i) : Calls Tryz.prog 16 #[.pointer (some ⟨pb, 0, none⟩), .int .i64 (n : Int), .int .i64 i] w fun e w' => e = .returned (.tuple #[.pointer none, .int .i64 91]) ∧ Only (fun _ => False) w w' := by
 have hl := kindsZ_len cs
 have hcl := h.cls n h13 hn
 have C1 := hid (pLen h.prog (by omega))
 have C2 := hid (pClass h.prog (by omega) n h13 hn (by rw [hcl]; exact (few_cls (h0 _ (getD_mem (by omega)))).1))
 have C3 := hid (fun W (hW : Only (fun _ => False) w W) => pMethodNoI (h.only hW).prog (by omega) n i hn hno)
 have hz : (((kindsZ cs).length : Int) == 0) = false := by rw [beq_eq_false_iff_ne]; omega
 generalize cl n = c at *
 clear h h0 hno hcl
 go_enter Tryz.func16, Tryz.ntmps16
 go_wp2_with (fail)
 refine C1.out.mono ?_
 rintro e w1 ⟨rfl, hww⟩
 subst hww
 go_wp2_with (fail)
 refine C2.out.mono ?_
 rintro e w1 ⟨a, b, d, rfl, hcm, ho1⟩
 obtain ⟨ap, kp, af, nf, kf, am, nm, km, rfl, rfl, rfl⟩ := cls_vals hcm
 have HO1 := hid (ho1.alloc (.cells #[.slice ap c.pool.length kp, .int .i64 c.this, .int .i64 c.super, .slice af nf kf, .slice am nm km] 84))
 clear ho1 hcm
 go_wp2_with (fail)
 refine (C3.out _ HO1.out).mono ?_
 rintro e w2 ⟨rfl, ho2⟩
 unfold flagM
 have HO2 := hid (HO1.out.trans (ho2.alloc (.cells #[.int .i64 0, .int .i64 0, .int .i64 0, .int .i64 0, .int .i64 0, .slice none 0 0, .slice none 0 0, .slice none 0 0] 63)) (fun _ h _ => h))
 clear ho2
 go_wp2
 go_ret2
 exact ⟨rfl, HO2.out⟩
omit h h0 in
theorem keep8 {w0 W : World} {p q r : Nat} {v0 v1 v2 v3 v4 v5 v6 v7 : Value} (c0 : w0.cell? ⟨p, 0, none⟩ = some v0) (c1 : w0.cell? ⟨q, 3, none⟩ = some v1) (c2 : w0.cell? ⟨q, 5, none⟩ = some v2) (c3 : w0.cell? ⟨r, 0, none⟩ = some v3) (c4 : w0.cell? ⟨r, 1, none⟩ = some v4) (c5 : w0.cell? ⟨r, 2, none⟩ = some v5) (c6 : w0.cell? ⟨r, 3, none⟩ = some v6) (c7 : w0.cell? ⟨r, 4, none⟩ = some v7) (h : Only (fun _ => False) w0 W) :
  W.cell? ⟨p, 0, none⟩ = some v0 ∧ W.cell? ⟨q, 3, none⟩ = some v1 ∧ W.cell? ⟨q, 5, none⟩ = some v2 ∧ W.cell? ⟨r, 0, none⟩ = some v3 ∧ W.cell? ⟨r, 1, none⟩ = some v4 ∧ W.cell? ⟨r, 2, none⟩ = some v5 ∧ W.cell? ⟨r, 3, none⟩ = some v6 ∧ W.cell? ⟨r, 4, none⟩ = some v7 :=
 ⟨h.cell c0 (fun h => h), h.cell c1 (fun h => h), h.cell c2 (fun h => h), h.cell c3 (fun h => h), h.cell c4 (fun h => h), h.cell c5 (fun h => h), h.cell c6 (fun h => h), h.cell c7 (fun h => h)⟩
set_option maxRecDepth 100000 in
theorem pAtYes (hl16 : cs.length ≤ 16) (n i : Nat) (h13 : 13 ≤ n) (hn : n < (kindsZ cs).length) (hi : i < ((kindsZ cs).getD n default).meths.length) : Calls Tryz.prog 16 #[.pointer (some ⟨pb, 0, none⟩), .int .i64 (n : Int), .int .i64 (i : Int)] w fun e w' => ∃ xb x, e = .returned (.tuple #[.pointer (some ⟨xb, 0, none⟩), .int .i64 0]) ∧ Meth (nums (((kindsZ cs).getD n default).meths.getD i default).desc) x ∧ PlaceP w' xb pb (kindsZ cs) (plZ (kindsZ cs) n (cs.getD (n - 13) default) ((cs.getD (n - 13) default).methods.getD i default) (((kindsZ cs).getD n default).meths.getD i default).name x) ∧ Only (fun _ => False) w w' := by
 have hl := kindsZ_len cs
 have hcl := h.cls n h13 hn
 have hc0 := h0 _ (getD_mem (l := cs) (i := n - 13) (by omega))
 have hfk := fine_all h0 _ (getD_memK hn)
 have hfew := (few_cls hc0).1
 have C1 := hid (pLen h.prog (by omega))
 have C2 := hid (pClass h.prog (by omega) n h13 hn (by rw [hcl]; exact hfew))
 have C3 := hid (fun W (hW : Only (fun _ => False) w W) => pMethod (h.only hW).prog n i hn hi hfk.meths (fun _ => by rw [hcl]; exact hfew))
 have hmp : methP n ((kindsZ cs).getD n default) (cl n) i = (cs.getD (n - 13) default).methods.getD i default := by unfold methP; rw [if_neg (by omega), hcl]
 rw [hmp] at C3
 rw [hcl] at C2
 have hlen : ((kindsZ cs).getD n default).meths.length = (cs.getD (n - 13) default).methods.length := by
  have hk := kindsZ_list (cs := cs) (j := n - 13) (by omega)
  rw [show 13 + (n - 13) = n by omega] at hk
  rw [hk]; simp [loadZ]
 obtain ⟨z1, -, z3⟩ := clsZ_zero hc0
 have hhead := (z3.2.2.2 _ (getD_mem (l := (cs.getD (n - 13) default).methods) (i := i) (by omega))).1
 have hds := (hfk.mnm _ (getD_mem (l := ((kindsZ cs).getD n default).meths) hi)).2
 have HPR := hid (fun W (hW : Only (fun _ => False) w W) => (h.only hW).prog)
 have hz : (((kindsZ cs).length : Int) == 0) = false := by rw [beq_eq_false_iff_ne]; omega
 have HLEN := hid hl
 generalize (cs.getD (n - 13) default) = c at *
 generalize (kindsZ cs) = ks at *
 generalize c.methods.getD i default = m at *
 generalize (ks.getD n default).meths.getD i default = mn at *
 obtain ⟨nn, ds, fl⟩ := mn
 simp only at hds C3 ⊢
 have CK := hid (fun W => progMethod ds W (by omega))
 have hst := hhead.2.2.2.1
 have hlo0 := hhead.2.2.2.2.2.1
 have hlo := hhead.2.2.2.2.2.2
 have HC0 := hid z1
 obtain ⟨L, hLz⟩ := Int.eq_ofNat_of_zero_le hlo0
 simp only [valMth] at C3
 rw [hLz] at C3 hlo
 have HLZ := hid hLz
 have HL16 := hid hl16
 clear hlo0 hLz hl16
 clear h h0 hcl hfk hfew hmp hlen z1 z3 hhead hds hc0 hi hn
 go_enter Tryz.func16, Tryz.ntmps16
 go_wp2_with (fail)
 refine C1.out.mono ?_
 rintro e w1 ⟨rfl, hww⟩
 subst hww
 go_wp2_with (fail)
 refine C2.out.mono ?_
 rintro e w1 ⟨a, b, d, rfl, hcm, ho1⟩
 obtain ⟨ap, kp, af, nf, kf, am, nm, km, rfl, rfl, rfl⟩ := cls_vals hcm
 have hcb := heap_alloc_new w1 (.cells #[.slice ap c.pool.length kp, .int .i64 c.this, .int .i64 c.super, .slice af nf kf, .slice am nm km] 84)
 have HO1 := hid (ho1.alloc (.cells #[.slice ap c.pool.length kp, .int .i64 c.this, .int .i64 c.super, .slice af nf kf, .slice am nm km] 84))
 have HPL := hid (Pool.only hcm.1 ((Only.refl (fun _ => False) w1).alloc (.cells #[.slice ap c.pool.length kp, .int .i64 c.this, .int .i64 c.super, .slice af nf kf, .slice am nm km] 84)) (fun _ _ h => h))
 obtain ⟨c8, hc8⟩ : ∃ x, w1.heap.size = x := ⟨_, rfl⟩
 rw [hc8] at hcb
 have HCB := hid hcb
 clear ho1 hcm hcb
 go_wp2_with (fail)
 refine (C3.out _ HO1.out).mono ?_
 rintro e w2 ⟨va, vb, vd, rfl, hin, ho2⟩
 obtain ⟨ac, kc, at_, nt, kt, ax, nx, kx, rfl, rfl, rfl⟩ := ins_vals hin
 have hmb := heap_alloc_new w2 (.cells #[.int .i64 m.flags, .int .i64 m.name, .int .i64 m.desc, .int .i64 m.stack, .int .i64 (L : Int), .slice ac m.code.length kc, .slice at_ nt kt, .slice ax nx kx] 63)
 have ho2a := ho2.alloc (.cells #[.int .i64 m.flags, .int .i64 m.name, .int .i64 m.desc, .int .i64 m.stack, .int .i64 (L : Int), .slice ac m.code.length kc, .slice at_ nt kt, .slice ax nx kx] 63)
 have HO2 := hid (HO1.out.trans ho2a (fun _ h _ => h))
 have HPL2 := hid (HPL.out.only ho2a (fun _ _ h => h))
 have HCB2 := hid (ho2a.heap HCB.out (fun h => h))
 have HCD := hid (Bytes.only hin.1 ((Only.refl (fun _ => False) w2).alloc (.cells #[.int .i64 m.flags, .int .i64 m.name, .int .i64 m.desc, .int .i64 m.stack, .int .i64 (L : Int), .slice ac m.code.length kc, .slice at_ nt kt, .slice ax nx kx] 63)) (fun _ _ _ h => h))
 obtain ⟨c10, hc10⟩ : ∃ x, w2.heap.size = x := ⟨_, rfl⟩
 rw [hc10] at hmb
 have HMB := hid hmb
 clear ho2 ho2a hin hmb
 go_wp2_with (fail)
 refine (CK.out _).mono ?_
 rintro e w3 ⟨tv0, x, rfl, hx, ho3, hts⟩
 obtain ⟨aS, kS, rfl, -⟩ := id hts
 have h16 := meth_len hx
 have HX := hid hx
 obtain ⟨ts, u, er⟩ := x
 simp only at hts h16 ⊢
 unfold valT
 have htb := heap_alloc_new w3 (.cells #[.int .i64 u.k, .string u.name, .int .i64 u.dims, .int .i64 u.elem, .int .i64 u.at_] 33)
 have ho3a := ho3.alloc (.cells #[.int .i64 u.k, .string u.name, .int .i64 u.dims, .int .i64 u.elem, .int .i64 u.at_] 33)
 have HTS := hid (hts.only ((Only.refl (fun _ => False) w3).alloc (.cells #[.int .i64 u.k, .string u.name, .int .i64 u.dims, .int .i64 u.elem, .int .i64 u.at_] 33)))
 have hmb3 := ho3a.heap HMB.out (fun h => h)
 have hcb3 := ho3a.heap HCB2.out (fun h => h)
 have HPL3 := hid (HPL2.out.only ho3a (fun _ _ h => h))
 have HCD3 := hid (HCD.out.only ho3a (fun _ _ _ h => h))
 have HO3 := hid (HO2.out.trans ho3a (fun _ h _ => h))
 go_upto_region 8 with fail
 obtain ⟨c15, hc15⟩ : ∃ x, w3.heap.size = x := ⟨_, rfl⟩
 obtain ⟨W3, hW3⟩ : ∃ W3, w3.alloc (.cells #[.int .i64 u.k, .string u.name, .int .i64 u.dims, .int .i64 u.elem, .int .i64 u.at_] 33) = W3 := ⟨_, rfl⟩
 rw [hW3, hc15] at htb
 rw [hW3] at hmb3 hcb3 HTS HPL3 HCD3 HO3 ⊢
 rw [hc15] at ⊢
 have CT := hid (fun W (hW : Only (fun _ => False) W3 W) => pTree ((HPR.out W3 HO3.out).only hW) (by have := HLEN.out; omega) (by have := HLEN.out; have := HL16.out; omega))
 clear ho3 ho3a hts hc15 hW3 hc8 hc10
 have y0 := cell_blk hcb3 0
 have y3 := cell_blk hmb3 3
 have y5 := cell_blk hmb3 5
 simp only [List.getElem?_toArray, List.getElem?_cons_zero, List.getElem?_cons_succ] at y0 y3 y5
 obtain ⟨t0, t1, t2, t3, t4⟩ := cells5T htb
 have HMB3 := hid hmb3
 clear hmb3 hcb3
 refine wp_region_held_drew (S := fun W => W.cell? ⟨c8, 0, none⟩ = some (.slice ap c.pool.length kp) ∧ W.cell? ⟨c10, 3, none⟩ = some (.int .i64 m.stack) ∧ W.cell? ⟨c10, 5, none⟩ = some (.slice ac m.code.length kc) ∧ W.cell? ⟨c15, 0, none⟩ = some (.int .i64 u.k) ∧ W.cell? ⟨c15, 1, none⟩ = some (.string u.name) ∧ W.cell? ⟨c15, 2, none⟩ = some (.int .i64 u.dims) ∧ W.cell? ⟨c15, 3, none⟩ = some (.int .i64 u.elem) ∧ W.cell? ⟨c15, 4, none⟩ = some (.int .i64 u.at_)) (by kernel_rfl) (keep8 y0 y3 y5 t0 t1 t2 t3 t4 (Only.refl _ W3).drew) (fun hHeld => ?_)
 refine tk2 0 (h := ?_)
 refine tk2 1 (h := ?_)
 refine tk2 3 (h := ?_)
 refine tk2 4 (h := ?_)
 refine tk2 5 (h := ?_)
 refine tk2 6 (h := ?_)
 refine tk2 7 (h := ?_)
 refine tk2 8 (h := ?_)
 refine tk2 9 (h := ?_)
 refine tk2 10 (h := ?_)
 refine tkR 2 (h := fun K hK => ?_)
 go_simp
 (refine (CT.out _ (Only.refl (fun _ => False) W3).drew).mono ?_; rintro e5 w5 ⟨tv, rfl, htv, ho5⟩; obtain ⟨aT, kT, rfl, -⟩ := id htv; have HTV := hid htv; have HO5 := hid ((Only.refl (fun _ => False) W3).drew.trans ho5 (fun _ h _ => h)); clear ho5 htv)
 go_wp2_with fail
 refine hK.out _ _ ?_ (fun hHeld2 => ?_)
 ·exact (keep8 y0 y3 y5 t0 t1 t2 t3 t4 HO5.out)
 clear hK K
 try simp only [Act.put, sIB, sC0, sCS]
 clear hHeld
 have hHeld := hHeld2
 clear hHeld2
 refine tk2 11 (h := ?_)
 refine tkR 12 (h := fun K hK => ?_)
 go_simp
 refine hK.out _ _ ?_ (fun hHeld2 => ?_)
 ·exact (keep8 y0 y3 y5 t0 t1 t2 t3 t4 (HO5.out.alloc _))
 clear hK K
 try simp only [Act.put, sIB, sC0, sCS]
 clear hHeld
 have hHeld := hHeld2
 clear hHeld2
 refine tk2 13 (h := ?_)
 refine wpAnyH_done (by kernel_rfl) ?_ _
 have hxb := heap_alloc_new w5 (placeO pb ⟨n, c.pool, m.code, m.stack, u, [], false⟩ (.slice aT (treeZ ks).length kT) (.slice ap c.pool.length kp) (.slice ac m.code.length kc) (.slice none 0 0) (.slice none 0 0))
 have hoW := HO5.out.alloc (placeO pb ⟨n, c.pool, m.code, m.stack, u, [], false⟩ (.slice aT (treeZ ks).length kT) (.slice ap c.pool.length kp) (.slice ac m.code.length kc) (.slice none 0 0) (.slice none 0 0))
 have HTV4 := hid (HTV.out.only ((Only.refl (fun _ => False) w5).alloc (placeO pb ⟨n, c.pool, m.code, m.stack, u, [], false⟩ (.slice aT (treeZ ks).length kT) (.slice ap c.pool.length kp) (.slice ac m.code.length kc) (.slice none 0 0) (.slice none 0 0))))
 obtain ⟨xb, hxbe⟩ : ∃ x, w5.heap.size = x := ⟨_, rfl⟩
 obtain ⟨W4, hW4⟩ : ∃ W4, w5.alloc (placeO pb ⟨n, c.pool, m.code, m.stack, u, [], false⟩ (.slice aT (treeZ ks).length kT) (.slice ap c.pool.length kp) (.slice ac m.code.length kc) (.slice none 0 0) (.slice none 0 0)) = W4 := ⟨_, rfl⟩
 have hsz4 : W4.heap.size = xb + 1 := by rw [← hW4, ← hxbe]; simp
 rw [hW4, hxbe] at hxb
 rw [hW4] at hoW HTV4 ⊢
 rw [hxbe] at ⊢
 have HXB := hid hxb
 have HOW := hid hoW
 have HS4 := hid hsz4
 have HLE := hid (show w.heap.size ≤ xb ∧ W3.heap.size ≤ xb ∧ w5.heap.size ≤ xb by rw [← hxbe]; exact ⟨Nat.le_trans HO3.out.size HO5.out.size, HO5.out.size, Nat.le_refl _⟩)
 have HO54 := hid (show Only (fun _ => False) w5 W4 by rw [← hW4]; exact (Only.refl _ _).alloc _)
 have HP0 : PlaceP W4 xb pb ks ⟨n, c.pool, m.code, m.stack, u, [], false⟩ := ⟨_, _, _, _, _, hxb, HTV4.out, HPL3.out.only hoW (fun _ _ h => h), HCD3.out.only hoW (fun _ _ _ h => h), Types.nil _, Types.nil _, Nat.zero_le _, HC0.out⟩
 have CB := hid (pBegin HP0 (HPR.out W4 (HO3.out.trans hoW (fun _ h _ => h))) (by have := HLEN.out; omega) m.flags m.name m.desc m.stack L (.slice ac m.code.length kc) (.slice at_ nt kt) (.slice ax nx kx) (.slice aS ts.length kS) nn ts (HTS.out.only hoW) h16 (by omega))
 have HPl := hid HP0
 obtain ⟨g0, g1, g2, g3, g4, g5, g6, g7⟩ := cells8M (hoW.heap HMB3.out (fun h => h))
 clear hHeld y0 y3 y5 t0 t1 t2 t3 t4 htb hxb hoW hW4 hxbe hsz4 HP0 CT
 go_wp2_with (fail)
 refine CB.out.mono ?_
 rintro e w6 ⟨lv, sv, mm, rfl, hlr, hsr, hmm, -, ho6⟩
 obtain ⟨al, kl, rfl, -⟩ := slice_of_owns hlr
 obtain ⟨az, kz, rfl, -⟩ := slice_of_owns hsr
 have hx6 := ho6.heap HXB.out (fun h => h)
 have q11 := cell_blk hx6 11
 have q12 := cell_blk hx6 12
 have q13 := cell_blk hx6 13
 have f11 := frozen_blk hx6 11
 have f12 := frozen_blk hx6 12
 have f13 := frozen_blk hx6 13
 simp only [List.getElem?_toArray, List.getElem?_cons_zero, List.getElem?_cons_succ] at q11 q12 q13
 have HX6 := hid hx6
 have HLR := hid hlr
 have HSR := hid hsr
 have HMM := hid hmm
 have HO6 := hid ho6
 clear hx6 hlr hsr hmm ho6 g0 g1 g2 g3 g4 g5 g6 g7 CB
 unfold valFr
 generalize hfr : decide (nn = initB) = fr at *
 have HFR := hid hfr
 clear hfr
 have hx7 := heap_setCell_at (i := 13) (u := .bool fr) (heap_setCell_at (i := 12) (u := .slice az 0 kz) (heap_setCell_at (i := 11) (u := .slice al (firstZ m.flags (nameZ ks n) fr ts L).length kl) HX6.out))
 simp only [List.setIfInBounds_toArray, List.set_cons_zero, List.set_cons_succ] at hx7
 have hos := (((Only.refl (fun k => k = xb) w6).setCell (p := ⟨xb, 11, none⟩) (fun _ => rfl) (.slice al (firstZ m.flags (nameZ ks n) fr ts L).length kl)).setCell (p := ⟨xb, 12, none⟩) (fun _ => rfl) (.slice az 0 kz)).setCell (p := ⟨xb, 13, none⟩) (fun _ => rfl) (.bool fr)
 have HX7 := hid hx7
 have HOS := hid hos
 clear hx7 hos
 go_wp2
 go_ret2
 have hle := HLE.out
 have hs4 := HS4.out
 have hm := HMM.out
 have o6 : ∀ {a : World}, Only (fun _ => False) a W4 → a.heap.size ≤ xb → Only (fun _ => False) a _ := fun ha hb => (ha.trans HO6.out (fun _ h _ => h)).trans HOS.out (fun k hk hl => by subst hk; omega)
 have hpl : plZ ks n c m nn (ts, u, er) = ⟨n, c.pool, m.code, m.stack, u, firstZ m.flags (nameZ ks n) fr ts L, fr⟩ := by unfold plZ; rw [HFR.out, HLZ.out, Int.toNat_natCast]
 refine ⟨xb, (ts, u, er), rfl, HX.out, ?_, o6 (HO3.out.trans HOW.out (fun _ h _ => h)) hle.1⟩
 rw [hpl]
 refine ⟨_, _, _, _, _, HX7.out, HTV.out.only (o6 HO54.out hle.2.2), HPL3.out.only (o6 HOW.out hle.2.1) (fun _ _ h => h), HCD3.out.only (o6 HOW.out hle.2.1) (fun _ _ _ h => h), (HLR.out.only HOS.out (fun k hk e => by have := (HLR.out.ge k hk).1; omega)).types, (HSR.out.only HOS.out (fun k hk e => by have := (HSR.out.ge k hk).1; omega)).types, ?_, HC0.out⟩
 show (firstZ m.flags (nameZ ks n) fr ts L).length ≤ 64
 rw [firstZ_len]; omega
theorem pAt (hl16 : cs.length ≤ 16) (n i : Int) : Calls Tryz.prog 16 #[.pointer (some ⟨pb, 0, none⟩), .int .i64 n, .int .i64 i] w (AtTo w pb (kindsZ cs) cs n i) := by
 by_cases hno : n < 13 ∨ ((kindsZ cs).length : Int) ≤ n
 ·refine (pAtNo h h0 n i hno).mono ?_
  rintro e w' ⟨rfl, ho⟩
  exact ⟨ho, .inl ⟨fun hin => by have := hin.1; have := hin.2.1; omega, rfl⟩⟩
 ·obtain ⟨j, rfl⟩ := Int.eq_ofNat_of_zero_le (show 0 ≤ n by omega)
  by_cases hni : i < 0 ∨ (((kindsZ cs).getD j default).meths.length : Int) ≤ i
  ·refine (pAtNoI h h0 j i (by omega) (by omega) hni).mono ?_
   rintro e w' ⟨rfl, ho⟩
   exact ⟨ho, .inl ⟨fun hin => by have h1 := hin.2.2.1; have h2 := hin.2.2.2; rw [Int.toNat_natCast] at h2; omega, rfl⟩⟩
  ·obtain ⟨k, rfl⟩ := Int.eq_ofNat_of_zero_le (show 0 ≤ i by omega)
   refine (pAtYes h h0 hl16 j k (by omega) (by omega) (by omega)).mono ?_
   rintro e w' ⟨xb, x, rfl, hx, hp, ho⟩
   refine ⟨ho, .inr ⟨⟨by omega, by omega, by omega, by rw [Int.toNat_natCast]; omega⟩, xb, x, rfl, ?_, ?_⟩⟩
   ·rw [Int.toNat_natCast, Int.toNat_natCast]; exact hx
   ·rw [Int.toNat_natCast, Int.toNat_natCast]; exact hp
end
def rplZ (n : Nat) (c : ClassV) (m : MethodV) (nm : ByteArray) (x : List TypeV × TypeV × Int) : RPlcV := ⟨n, m, decide (nm = initB), c.pool, x.1, x.2.1⟩
def RAtTo (w : World) (qb : Nat) (ks : List KindV) (cs : List ClassV) (n i : Int) (e : Ending) (w' : World) : Prop :=
 Only (fun _ => False) w w' ∧ ((¬ inList ks n i ∧ e = .returned (.tuple #[.pointer none, .int .i64 91])) ∨
  (inList ks n i ∧ ∃ yb x, e = .returned (.tuple #[.pointer (some ⟨yb, 0, none⟩), .int .i64 0]) ∧ Meth (nums ((ks.getD n.toNat default).meths.getD i.toNat default).desc) x ∧
   RPlaceP w' yb qb ks (rplZ n.toNat (cs.getD (n.toNat - 13) default) ((cs.getD (n.toNat - 13) default).methods.getD i.toNat default) ((ks.getD n.toNat default).meths.getD i.toNat default).name x)))
section
variable {w : World} {qb : Nat} {cs : List ClassV} (h : DocP w qb (kindsZ cs) cs) (h0 : ∀ c ∈ cs, clsZ c = 0)
include h
set_option maxRecDepth 100000 in
theorem rAtNo (n i : Int) (hno : noMeth (kindsZ cs) n i) : Calls Tryz.prog 17 #[.pointer (some ⟨qb, 0, none⟩), .int .i64 n, .int .i64 i] w fun e w' => e = .returned (.tuple #[.pointer none, .int .i64 91]) ∧ Only (fun _ => False) w w' := by
 have C1 := hid (refMethodNone qb (kindsZ cs) cs n i w h hno)
 clear h hno
 go_enter Tryz.func17, Tryz.ntmps17
 go_wp2_with (fail)
 refine C1.out.mono ?_
 rintro e w1 ⟨rfl, ho1⟩
 unfold flagM
 have HO1 := hid (ho1.alloc (.cells #[.int .i64 0, .int .i64 0, .int .i64 0, .int .i64 0, .int .i64 0, .slice none 0 0, .slice none 0 0, .slice none 0 0] 63))
 clear ho1
 go_wp2
 go_ret2
 exact ⟨rfl, HO1.out⟩
set_option maxRecDepth 100000 in
theorem rAtBuilt (n i : Nat) (hn : n < (kindsZ cs).length) (h13 : n < 13) (hi : i < ((kindsZ cs).getD n default).meths.length) : Calls Tryz.prog 17 #[.pointer (some ⟨qb, 0, none⟩), .int .i64 (n : Int), .int .i64 (i : Int)] w fun e w' => e = .returned (.tuple #[.pointer none, .int .i64 91]) ∧ Only (fun _ => False) w w' := by
 have C1 := hid (refMethodBuilt qb (kindsZ cs) cs n i w h hn h13 hi)
 generalize (((kindsZ cs).getD n default).meths.getD i default) = mn at *
 obtain ⟨nn, ds, fl⟩ := mn
 simp only at C1
 have hnz : (n : Int) < 13 := by omega
 clear h hi hn
 go_enter Tryz.func17, Tryz.ntmps17
 go_wp2_with (fail)
 refine C1.out.mono ?_
 rintro e w1 ⟨rfl, ho1⟩
 unfold flagM
 have HO1 := hid (ho1.alloc (.cells #[.int .i64 fl, .int .i64 0, .int .i64 0, .int .i64 0, .int .i64 0, .slice none 0 0, .slice none 0 0, .slice none 0 0] 63))
 clear ho1
 go_wp2
 go_ret2
 exact ⟨rfl, HO1.out⟩
include h0
set_option maxRecDepth 100000 in
theorem rAtYes (hl16 : cs.length ≤ 16) (n i : Nat) (h13 : 13 ≤ n) (hn : n < (kindsZ cs).length) (hi : i < ((kindsZ cs).getD n default).meths.length) : Calls Tryz.prog 17 #[.pointer (some ⟨qb, 0, none⟩), .int .i64 (n : Int), .int .i64 (i : Int)] w fun e w' => ∃ yb x, e = .returned (.tuple #[.pointer (some ⟨yb, 0, none⟩), .int .i64 0]) ∧ Meth (nums (((kindsZ cs).getD n default).meths.getD i default).desc) x ∧ RPlaceP w' yb qb (kindsZ cs) (rplZ n (cs.getD (n - 13) default) ((cs.getD (n - 13) default).methods.getD i default) (((kindsZ cs).getD n default).meths.getD i default).name x) ∧ Only (fun _ => False) w w' := by
 have hl := kindsZ_len cs
 have hc0 := h0 _ (getD_mem (l := cs) (i := n - 13) (by omega))
 have hfk := fine_all h0 _ (getD_memK hn)
 have hkz := kindsZ_list (cs := cs) (j := n - 13) (by omega)
 rw [show 13 + (n - 13) = n by omega] at hkz
 have hlen : ((kindsZ cs).getD n default).meths.length = (cs.getD (n - 13) default).methods.length := by rw [hkz]; simp [loadZ]
 have hpl : ((kindsZ cs).getD n default).place = ((n - 13 : Nat) : Int) := by rw [hkz]; rfl
 obtain ⟨z1, -, z3⟩ := clsZ_zero hc0
 have hhead := (z3.2.2.2 _ (getD_mem (l := (cs.getD (n - 13) default).methods) (i := i) (by omega))).1
 have hds := (hfk.mnm _ (getD_mem (l := ((kindsZ cs).getD n default).meths) hi)).2
 have C1 := hid (refMethodList qb (kindsZ cs) cs n i (n - 13) w h hn h13 hi hpl (by omega) (by omega))
 have hk13 : n - 13 < cs.length := by omega
 obtain ⟨vl, vi, q0, q1, hK, hC⟩ := id h
 obtain ⟨aL, kL, rfl, -, -⟩ := hK.len
 obtain ⟨bL, oL, vf, vm, rfl, hka, -, -⟩ := hK.at hn
 obtain ⟨g, hC1, hC2⟩ := hC
 obtain ⟨aI, kI, rfl, -⟩ := id hC1
 obtain ⟨bI, oI, rfl, hca⟩ := Sl.at hC1 hk13
 have hcm := hC2 _ hk13
 have l2 := hka.c4
 rw [hpl] at l2
 have l3 := hca.c0
 obtain ⟨ap, kp, hpe, -⟩ := id hcm.1
 have hpool := hcm.1
 rw [hpe] at l3 hpool
 have HDOC := hid (fun W (hW : Only (fun _ => False) w W) => h.only hW)
 have HL2 := hid l2
 have HL3 := hid l3
 have HQ0 := hid q0
 have HQ1 := hid q1
 have HPL := hid hpool
 obtain ⟨k, hk⟩ : ∃ k, n - 13 = k := ⟨_, rfl⟩
 simp only [hk] at hk13 C1 hhead HL2 HL3 HPL z1 ⊢
 clear h h0 hK hC1 hC2 hka hca hcm hkz hpl hc0 hfk z3 hpe hpool q0 q1 l2 l3 hlen hi
 have hnz : ¬ (n : Int) < 13 := by omega
 have hnl : (n : Int) < ((kindsZ cs).length : Int) := by omega
 have hn0 : (0 : Int) ≤ (n : Int) := by omega
 have hkl : (k : Int) < (cs.length : Int) := by omega
 have hk0 : (0 : Int) ≤ (k : Int) := by omega
 have hk64 : (kindsZ cs).length ≤ 1048576 := by omega
 have HNL := hid hn
 generalize (cs.getD k default) = c at *
 generalize (kindsZ cs) = ks at *
 generalize c.methods.getD i default = m at *
 generalize (ks.getD n default).meths.getD i default = mn at *
 obtain ⟨nn, ds, fl⟩ := mn
 simp only at hds C1 ⊢
 have CK := hid (fun W => refKMethodR ds W (by omega))
 have hst := hhead.2.2.2.1
 have HLO := hid (And.intro hhead.2.2.2.2.2.1 hhead.2.2.2.2.2.2)
 have HC0 := hid z1
 have hnm := init_eq nn
 obtain ⟨fr, hfr⟩ : ∃ x, decide (nn = initB) = x := ⟨_, rfl⟩
 rw [hfr] at hnm
 have HFR := hid hfr
 have HK64 := hid hk64
 clear z1 hhead hds hn hl hl16 hfr hk64
 go_enter Tryz.func17, Tryz.ntmps17
 go_wp2_with (fail)
 refine C1.out.mono ?_
 rintro e w1 ⟨va, vb, vd, rfl, hin, ho1⟩
 obtain ⟨ac, kc, at_, nt, kt, ax, nx, kx, rfl, rfl, rfl⟩ := ins_vals hin
 have hmb := heap_alloc_new w1 (.cells #[.int .i64 m.flags, .int .i64 m.name, .int .i64 m.desc, .int .i64 m.stack, .int .i64 m.locals, .slice ac m.code.length kc, .slice at_ nt kt, .slice ax nx kx] 63)
 have ho1a := ho1.alloc (.cells #[.int .i64 m.flags, .int .i64 m.name, .int .i64 m.desc, .int .i64 m.stack, .int .i64 m.locals, .slice ac m.code.length kc, .slice at_ nt kt, .slice ax nx kx] 63)
 clear hin
 go_upto_region 4 with fail
 obtain ⟨c8, hc8⟩ : ∃ x, w1.heap.size = x := ⟨_, rfl⟩
 obtain ⟨W1, hW1⟩ : ∃ W1, w1.alloc (.cells #[.int .i64 m.flags, .int .i64 m.name, .int .i64 m.desc, .int .i64 m.stack, .int .i64 m.locals, .slice ac m.code.length kc, .slice at_ nt kt, .slice ax nx kx] 63) = W1 := ⟨_, rfl⟩
 rw [hW1, hc8] at hmb
 rw [hW1] at ho1a ⊢
 rw [hc8] at ⊢
 have HO1 := hid ho1a
 have CT := hid (fun W (hW : Only (fun _ => False) W1 W) => refTree qb ks cs W (HDOC.out W (HO1.out.trans hW (fun _ h _ => h))) HK64.out)
 have HMB := hid hmb
 obtain ⟨y0, y1, y2, y3, y4, y5, y6, y7⟩ := cells8M hmb
 have l0 := ho1a.cell HQ0.out (fun h => h)
 have l1 := ho1a.cell HQ1.out (fun h => h)
 have l2 := ho1a.cell HL2.out (fun h => h)
 have l3 := ho1a.cell HL3.out (fun h => h)
 have HPL1 := hid (HPL.out.only ho1a (fun _ _ h => h))
 clear ho1 ho1a hmb hc8 hW1
 refine wp_region_held_drew (S := fun W => W.cell? ⟨c8, 0, none⟩ = some (.int .i64 m.flags) ∧ W.cell? ⟨c8, 1, none⟩ = some (.int .i64 m.name) ∧ W.cell? ⟨c8, 2, none⟩ = some (.int .i64 m.desc) ∧ W.cell? ⟨c8, 3, none⟩ = some (.int .i64 m.stack) ∧ W.cell? ⟨c8, 4, none⟩ = some (.int .i64 m.locals) ∧ W.cell? ⟨c8, 5, none⟩ = some (.slice ac m.code.length kc) ∧ W.cell? ⟨c8, 6, none⟩ = some (.slice at_ nt kt) ∧ W.cell? ⟨c8, 7, none⟩ = some (.slice ax nx kx) ∧ W.cell? ⟨qb, 0, none⟩ = some (.slice (some ⟨bL, oL, none⟩) ks.length kL) ∧ W.cell? ⟨qb, 1, none⟩ = some (.slice (some ⟨bI, oI, none⟩) cs.length kI) ∧ W.cell? ⟨bL, oL + n * 5 + 4, none⟩ = some (.int .i64 (k : Int)) ∧ W.cell? ⟨bI, oI + k * 5, none⟩ = some (.slice ap c.pool.length kp)) (by kernel_rfl) ⟨((Only.refl (fun _ => False) W1).drew).cell y0 (fun h => h), ((Only.refl (fun _ => False) W1).drew).cell y1 (fun h => h), ((Only.refl (fun _ => False) W1).drew).cell y2 (fun h => h), ((Only.refl (fun _ => False) W1).drew).cell y3 (fun h => h), ((Only.refl (fun _ => False) W1).drew).cell y4 (fun h => h), ((Only.refl (fun _ => False) W1).drew).cell y5 (fun h => h), ((Only.refl (fun _ => False) W1).drew).cell y6 (fun h => h), ((Only.refl (fun _ => False) W1).drew).cell y7 (fun h => h), ((Only.refl (fun _ => False) W1).drew).cell l0 (fun h => h), ((Only.refl (fun _ => False) W1).drew).cell l1 (fun h => h), ((Only.refl (fun _ => False) W1).drew).cell l2 (fun h => h), ((Only.refl (fun _ => False) W1).drew).cell l3 (fun h => h)⟩ (fun hHeld => ?_)
 refine tk2 0 (h := ?_)
 refine tk2 1 (h := ?_)
 refine tk2 2 (h := ?_)
 refine tk2 3 (h := ?_)
 refine tk2 4 (h := ?_)
 refine tk2 5 (h := ?_)
 refine tk2 6 (h := ?_)
 refine tk2 7 (h := ?_)
 refine tk2 8 (h := ?_)
 refine tk2 9 (h := ?_)
 refine tk2 10 (h := ?_)
 refine tk2 11 (h := ?_)
 refine tk2 12 (h := ?_)
 refine tk2 13 (h := ?_)
 refine tk2 14 (h := ?_)
 refine tk2 15 (h := ?_)
 refine tk2 16 (h := ?_)
 refine tk2 17 (h := ?_)
 refine tk2 18 (h := ?_)
 refine tk2 19 (h := ?_)
 refine tk2 20 (h := ?_)
 refine tkR 21 (h := fun K hK => ?_)
 go_simp
 (refine (CT.out _ (Only.refl (fun _ => False) W1).drew).mono ?_; rintro e5 w5 ⟨tv, rfl, htv0, ho5⟩; have htv := htv0.pairs; obtain ⟨aT, kT, rfl, -⟩ := id htv; have HTV := hid htv; have HO5 := hid ((Only.refl (fun _ => False) W1).drew.trans ho5 (fun _ h _ => h)); clear ho5 htv htv0)
 go_wp2_with fail
 refine hK.out _ _ ?_ (fun hHeld2 => ?_)
 ·exact ⟨(HO5.out).cell y0 (fun h => h), (HO5.out).cell y1 (fun h => h), (HO5.out).cell y2 (fun h => h), (HO5.out).cell y3 (fun h => h), (HO5.out).cell y4 (fun h => h), (HO5.out).cell y5 (fun h => h), (HO5.out).cell y6 (fun h => h), (HO5.out).cell y7 (fun h => h), (HO5.out).cell l0 (fun h => h), (HO5.out).cell l1 (fun h => h), (HO5.out).cell l2 (fun h => h), (HO5.out).cell l3 (fun h => h)⟩
 clear hK K
 try simp only [Act.put, sIB, sC0, sCS]
 clear hHeld
 have hHeld := hHeld2
 clear hHeld2
 refine tk2 22 (h := ?_)
 refine tkR 23 (h := fun K hK => ?_)
 go_simp
 refine hK.out _ _ ?_ (fun hHeld2 => ?_)
 ·exact ⟨((HO5.out.alloc _)).cell y0 (fun h => h), ((HO5.out.alloc _)).cell y1 (fun h => h), ((HO5.out.alloc _)).cell y2 (fun h => h), ((HO5.out.alloc _)).cell y3 (fun h => h), ((HO5.out.alloc _)).cell y4 (fun h => h), ((HO5.out.alloc _)).cell y5 (fun h => h), ((HO5.out.alloc _)).cell y6 (fun h => h), ((HO5.out.alloc _)).cell y7 (fun h => h), ((HO5.out.alloc _)).cell l0 (fun h => h), ((HO5.out.alloc _)).cell l1 (fun h => h), ((HO5.out.alloc _)).cell l2 (fun h => h), ((HO5.out.alloc _)).cell l3 (fun h => h)⟩
 clear hK K
 try simp only [Act.put, sIB, sC0, sCS]
 clear hHeld
 have hHeld := hHeld2
 clear hHeld2
 refine tk2 24 (h := ?_)
 refine wpAnyH_done (by kernel_rfl) ?_ _
 have hxb := heap_alloc_new w5 (rplaceO qb ⟨n, m, fr, c.pool, [], ⟨0, ⟨#[]⟩, 0, 0, 0⟩⟩ (.slice ac m.code.length kc) (.slice at_ nt kt) (.slice ax nx kx) (.slice ap c.pool.length kp) (.slice aT (treeZ ks).length kT) (.slice none 0 0))
 have hoW := HO5.out.alloc (rplaceO qb ⟨n, m, fr, c.pool, [], ⟨0, ⟨#[]⟩, 0, 0, 0⟩⟩ (.slice ac m.code.length kc) (.slice at_ nt kt) (.slice ax nx kx) (.slice ap c.pool.length kp) (.slice aT (treeZ ks).length kT) (.slice none 0 0))
 have HTV4 := hid (HTV.out.only ((Only.refl (fun _ => False) w5).alloc (rplaceO qb ⟨n, m, fr, c.pool, [], ⟨0, ⟨#[]⟩, 0, 0, 0⟩⟩ (.slice ac m.code.length kc) (.slice at_ nt kt) (.slice ax nx kx) (.slice ap c.pool.length kp) (.slice aT (treeZ ks).length kT) (.slice none 0 0))))
 have HPL4 := hid (HPL1.out.only hoW (fun _ _ h => h))
 obtain ⟨yb, hybe⟩ : ∃ x, w5.heap.size = x := ⟨_, rfl⟩
 obtain ⟨W2, hW2⟩ : ∃ W2, w5.alloc (rplaceO qb ⟨n, m, fr, c.pool, [], ⟨0, ⟨#[]⟩, 0, 0, 0⟩⟩ (.slice ac m.code.length kc) (.slice at_ nt kt) (.slice ax nx kx) (.slice ap c.pool.length kp) (.slice aT (treeZ ks).length kT) (.slice none 0 0)) = W2 := ⟨_, rfl⟩
 have hle : w.heap.size ≤ yb ∧ W1.heap.size ≤ yb := by rw [← hybe]; exact ⟨Nat.le_trans HO1.out.size HO5.out.size, HO5.out.size⟩
 rw [hW2, hybe] at hxb
 rw [hW2] at hoW HTV4 HPL4 ⊢
 rw [hybe] at ⊢
 have HXB := hid hxb
 have HOW := hid hoW
 have HLE := hid hle
 have HO52 := hid (show Only (fun _ => False) w5 W2 by rw [← hW2]; exact (Only.refl _ _).alloc _)
 have HL5 := hid (show w5.heap.size ≤ yb by rw [hybe]; exact Nat.le_refl _)
 clear hHeld y0 y1 y2 y3 y4 y5 y6 y7 l0 l1 l2 l3 hxb hoW hW2 hybe hle CT
 go_wp2_with (fail)
 refine (CK.out _).mono ?_
 rintro e w3 ⟨tv0, x, rfl, hx, ho3, hts⟩
 obtain ⟨aS, kS, rfl, -⟩ := slice_of_owns hts
 have h16 := meth_len hx
 have HX := hid hx
 obtain ⟨ts, u, er⟩ := x
 simp only at hts h16 ⊢
 unfold valT
 have htb := heap_alloc_new w3 (.cells #[.int .i64 u.k, .string u.name, .int .i64 u.dims, .int .i64 u.elem, .int .i64 u.at_] 33)
 have ho3a := ho3.alloc (.cells #[.int .i64 u.k, .string u.name, .int .i64 u.dims, .int .i64 u.elem, .int .i64 u.at_] 33)
 have HTS := hid (hts.only ((Only.refl (fun _ => False) w3).alloc (.cells #[.int .i64 u.k, .string u.name, .int .i64 u.dims, .int .i64 u.elem, .int .i64 u.at_] 33)) (fun _ _ h => h))
 have HY2 := hid (heap_lt HXB.out)
 have hx3 := ho3a.heap HXB.out (fun h => h)
 have HO3 := hid ho3a
 go_upto_region 6 with fail
 obtain ⟨W3, hW3⟩ : ∃ W3, w3.alloc (.cells #[.int .i64 u.k, .string u.name, .int .i64 u.dims, .int .i64 u.elem, .int .i64 u.at_] 33) = W3 := ⟨_, rfl⟩
 rw [hW3] at htb hx3 HTS HO3 ⊢
 have hst3 : Only (fun _ => False) w3 W3 := by rw [← hW3]; exact (Only.refl _ _).alloc _
 have hne : w3.heap.size ≠ yb := by have := ho3.size; have := heap_lt HXB.out; omega
 have HNE := hid hne
 have HX3 := hid hx3
 have HTB := hid htb
 have HHW := hid (show W3.heap.size = w3.heap.size + 1 by rw [← hW3]; simp)
 clear ho3 ho3a hts hW3 hst3 hx
 have hx7 := (heap_setCell_at (i := 18) (u := (.int .i64 u.at_)) (heap_setCell_at (i := 17) (u := (.int .i64 u.elem)) (heap_setCell_at (i := 16) (u := (.int .i64 u.dims)) (heap_setCell_at (i := 15) (u := (.string u.name)) (heap_setCell_at (i := 14) (u := (.int .i64 u.k)) (heap_setCell_at (i := 13) (u := (.slice aS ts.length kS)) HX3.out))))))
 simp only [List.setIfInBounds_toArray, List.set_cons_zero, List.set_cons_succ] at hx7
 have hos := (((((((Only.refl (fun k => k = yb) W3).setCell (p := ⟨yb, 13, none⟩) (fun _ => rfl) (.slice aS ts.length kS)).setCell (p := ⟨yb, 14, none⟩) (fun _ => rfl) (.int .i64 u.k)).setCell (p := ⟨yb, 15, none⟩) (fun _ => rfl) (.string u.name)).setCell (p := ⟨yb, 16, none⟩) (fun _ => rfl) (.int .i64 u.dims)).setCell (p := ⟨yb, 17, none⟩) (fun _ => rfl) (.int .i64 u.elem)).setCell (p := ⟨yb, 18, none⟩) (fun _ => rfl) (.int .i64 u.at_))
 have HX7 := hid hx7
 have HOS := hid hos
 clear hx7 hos
 have q13 := cell_blk HX3.out 13
 have q14 := cell_blk HX3.out 14
 have q15 := cell_blk HX3.out 15
 have q16 := cell_blk HX3.out 16
 have q17 := cell_blk HX3.out 17
 have q18 := cell_blk HX3.out 18
 have f13 := frozen_blk HX3.out 13
 have f14 := frozen_blk HX3.out 14
 have f15 := frozen_blk HX3.out 15
 have f16 := frozen_blk HX3.out 16
 have f17 := frozen_blk HX3.out 17
 have f18 := frozen_blk HX3.out 18
 simp only [List.getElem?_toArray, List.getElem?_cons_zero, List.getElem?_cons_succ] at q13 q14 q15 q16 q17 q18
 obtain ⟨x0, x1, x2, x3, x4⟩ := cells5T htb
 have hne' := hne.symm
 clear htb hx3
 go_wp2
 go_ret2
 have hle := HLE.out
 have o3 : ∀ {a : World}, Only (fun _ => False) a W2 → a.heap.size ≤ yb → Only (fun _ => False) a _ := fun ha hb => (ha.trans HO3.out (fun _ h _ => h)).trans HOS.out (fun k hk hl => by subst hk; omega)
 have hpl : rplZ n c m nn (ts, u, er) = ⟨n, m, fr, c.pool, ts, u⟩ := by unfold rplZ; rw [HFR.out]
 refine ⟨yb, (ts, u, er), rfl, HX.out, ?_, o3 (HO1.out.trans HOW.out (fun _ h _ => h)) hle.1⟩
 rw [hpl]
 exact ⟨_, _, _, _, _, _, HX7.out, HPL1.out.only (o3 HOW.out hle.2) (fun _ _ h => h), HTV.out.only (o3 HO52.out HL5.out), (HTS.out.only HOS.out (fun k hk e => by have := (HTS.out.ge k hk).1; have := HY2.out; omega)).types, h16, HLO.out.1, HLO.out.2, HC0.out, HNL.out⟩
theorem rAt (hl16 : cs.length ≤ 16) (n i : Int) : Calls Tryz.prog 17 #[.pointer (some ⟨qb, 0, none⟩), .int .i64 n, .int .i64 i] w (RAtTo w qb (kindsZ cs) cs n i) := by
 by_cases hno : noMeth (kindsZ cs) n i
 ·refine (rAtNo h n i hno).mono ?_
  rintro e w' ⟨rfl, ho⟩
  refine ⟨ho, .inl ⟨fun hin => ?_, rfl⟩⟩
  obtain ⟨a1, a2, a3, a4⟩ := hin
  rcases hno with b | b | b | b <;> omega
 ·unfold noMeth at hno
  obtain ⟨j, rfl⟩ := Int.eq_ofNat_of_zero_le (show 0 ≤ n by omega)
  obtain ⟨k, rfl⟩ := Int.eq_ofNat_of_zero_le (show 0 ≤ i by omega)
  rw [Int.toNat_natCast] at hno
  by_cases h13 : j < 13
  ·refine (rAtBuilt h j k (by omega) h13 (by omega)).mono ?_
   rintro e w' ⟨rfl, ho⟩
   exact ⟨ho, .inl ⟨fun hin => by have := hin.1; omega, rfl⟩⟩
  ·refine (rAtYes h h0 hl16 j k (by omega) (by omega) (by omega)).mono ?_
   rintro e w' ⟨yb, x, rfl, hx, hp, ho⟩
   refine ⟨ho, .inr ⟨⟨by omega, by omega, by omega, by rw [Int.toNat_natCast]; omega⟩, yb, x, rfl, ?_, ?_⟩⟩
   ·rw [Int.toNat_natCast, Int.toNat_natCast]; exact hx
   ·rw [Int.toNat_natCast, Int.toNat_natCast]; exact hp
end
end Go.Proofs.YtinbelghhfodiaaGreatDoor
