import Derived.Test.YtemplkpcckmcoaaGreatDoorMkPrsClsG
import Derived.Handy
import Derived.Test.YtemplkpcckmcoaaGreatDoorMkKndLLpA
import Derived.Test.YtemplkpcckmcoaaGreatDoorMkLpQNum
import Derived.Test.YtemplkpcckmcoaaGreatDoorMkKndCLnkB
namespace Go.Proofs.YtemplkpcckmcoaaGreatDoor
set_option maxHeartbeats 8000000
open Lib (hid)
open Go.RowKit
set_option linter.unusedVariables false
set_option linter.unusedSimpArgs false
theorem clsSuper (vp vf vm : Value) (cs : List ConstV) (this super : Int) (w : World) (hp : Pool w vp cs) :
  Calls Tryz.prog 125 #[.agg #[vp, .int .i64 this, .int .i64 super, vf, vm]] w fun e w' => e = .returned (.string (classZ cs super).1) ∧ Only (fun _ => False) w w' := by
 obtain ⟨ao, cap, rfl, _⟩ := id hp
 have ho0 : ∀ o, Only (fun _ => False) w (w.alloc o) := fun o => (Only.refl _ _).alloc o
 have c := fun o => progClass _ cs super _ (hp.only (ho0 o) (fun _ _ h => h))
 go_enter Tryz.func125, Tryz.ntmps125
 go_wp2_with (go_at_call 65; refine (c _).mono ?_; rintro e w' ⟨rfl, ho⟩)
 go_ret
 exact ⟨rfl, (ho0 _).trans ho (fun _ h => h.elim)⟩
theorem refClsName (vp vf vm : Value) (cs : List ConstV) (this super : Int) (w : World) (hp : Pool w vp cs) :
  Calls Tryz.prog 53 #[.agg #[vp, .int .i64 this, .int .i64 super, vf, vm]] w fun e w' => e = .returned (.string (classZ cs this).1) ∧ Only (fun _ => False) w w' := by
 obtain ⟨ao, cap, rfl, _⟩ := id hp
 have ho0 : ∀ o, Only (fun _ => False) w (w.alloc o) := fun o => (Only.refl _ _).alloc o
 have c := fun o => refClass _ cs this _ (hp.only (ho0 o) (fun _ _ h => h))
 go_enter Tryz.func53, Tryz.ntmps53
 go_wp2_with (go_at_call 85; refine (c _).mono ?_; rintro e w' ⟨rfl, rfl⟩)
 go_ret
 exact ⟨rfl, ho0 _⟩
theorem refClsSuper (vp vf vm : Value) (cs : List ConstV) (this super : Int) (w : World) (hp : Pool w vp cs) :
  Calls Tryz.prog 54 #[.agg #[vp, .int .i64 this, .int .i64 super, vf, vm]] w fun e w' => e = .returned (.string (classZ cs super).1) ∧ Only (fun _ => False) w w' := by
 obtain ⟨ao, cap, rfl, _⟩ := id hp
 have ho0 : ∀ o, Only (fun _ => False) w (w.alloc o) := fun o => (Only.refl _ _).alloc o
 have c := fun o => refClass _ cs super _ (hp.only (ho0 o) (fun _ _ h => h))
 go_enter Tryz.func54, Tryz.ntmps54
 go_wp2_with (go_at_call 85; refine (c _).mono ?_; rintro e w' ⟨rfl, rfl⟩)
 go_ret
 exact ⟨rfl, ho0 _⟩
end Go.Proofs.YtemplkpcckmcoaaGreatDoor
namespace Go.Proofs.YtemplkpcckmcoaaGreatDoor
set_option maxHeartbeats 8000000
open Lib (hid)
open Go.RowKit Go.Maps
set_option linter.unusedVariables false
set_option linter.unusedSimpArgs false
theorem mName_b (n : Nat) (v : Value) (w : World) : (method (n + 1) 92 v "understudy/link.name").run Tryz.prog w = .ok (205, v) w := by kernel_rfl
theorem mSuper_b (n : Nat) (v : Value) (w : World) : (method (n + 1) 92 v "understudy/link.super").run Tryz.prog w = .ok (206, v) w := by kernel_rfl
theorem mFields_b (n : Nat) (v : Value) (w : World) : (method (n + 1) 92 v "understudy/link.fields").run Tryz.prog w = .ok (202, v) w := by kernel_rfl
theorem mMethods_b (n : Nat) (v : Value) (w : World) : (method (n + 1) 92 v "understudy/link.methods").run Tryz.prog w = .ok (204, v) w := by kernel_rfl
theorem mMethod_b (n : Nat) (v : Value) (w : World) : (method (n + 1) 92 v "understudy/link.method").run Tryz.prog w = .ok (203, v) w := by kernel_rfl
theorem mName_l (n : Nat) (v : Value) (w : World) : (method (n + 1) 94 v "understudy/link.name").run Tryz.prog w = .ok (106, v) w := by kernel_rfl
theorem mSuper_l (n : Nat) (v : Value) (w : World) : (method (n + 1) 94 v "understudy/link.super").run Tryz.prog w = .ok (107, v) w := by kernel_rfl
theorem mFields_l (n : Nat) (v : Value) (w : World) : (method (n + 1) 94 v "understudy/link.fields").run Tryz.prog w = .ok (207, v) w := by kernel_rfl
theorem mMethods_l (n : Nat) (v : Value) (w : World) : (method (n + 1) 94 v "understudy/link.methods").run Tryz.prog w = .ok (112, v) w := by kernel_rfl
theorem mMethod_l (n : Nat) (v : Value) (w : World) : (method (n + 1) 94 v "understudy/link.method").run Tryz.prog w = .ok (208, v) w := by kernel_rfl
theorem cells8L {w : World} {b : Nat} {c0 c1 c2 c3 c4 c5 c6 c7 : Value} {t : TypeId} {f : Nat × Nat} (h : w.heap[b]? = some (.cells #[c0, c1, c2, c3, c4, c5, c6, c7] t f)) :
  w.cell? ⟨b, 0, none⟩ = some c0 ∧ w.cell? ⟨b, 1, none⟩ = some c1 ∧ w.cell? ⟨b, 2, none⟩ = some c2 ∧ w.cell? ⟨b, 3, none⟩ = some c3 ∧ w.cell? ⟨b, 4, none⟩ = some c4 ∧ w.cell? ⟨b, 5, none⟩ = some c5 ∧ w.cell? ⟨b, 6, none⟩ = some c6 ∧ w.cell? ⟨b, 7, none⟩ = some c7 :=
 ⟨cell_blk h 0, cell_blk h 1, cell_blk h 2, cell_blk h 3, cell_blk h 4, cell_blk h 5, cell_blk h 6, cell_blk h 7⟩
theorem bName (a b c : Value) (w : World) : Calls Tryz.prog 205 #[.agg #[a, b, c]] w fun e w' => e = .returned a ∧ Only (fun _ => False) w w' := by
 have ho := (Only.refl (fun _ => False) w).alloc (.cells #[a, b, c] 92)
 have HO := hid ho
 clear ho
 go_enter Tryz.func205, Tryz.ntmps205
 go_wp2
 go_ret
 exact ⟨rfl, HO.out⟩
theorem bSuper (a b c : Value) (w : World) : Calls Tryz.prog 206 #[.agg #[a, b, c]] w fun e w' => e = .returned b ∧ Only (fun _ => False) w w' := by
 have ho := (Only.refl (fun _ => False) w).alloc (.cells #[a, b, c] 92)
 have HO := hid ho
 clear ho
 go_enter Tryz.func206, Tryz.ntmps206
 go_wp2
 go_ret
 exact ⟨rfl, HO.out⟩
theorem bFields (a b c : Value) (w : World) : Calls Tryz.prog 202 #[.agg #[a, b, c]] w fun e w' => e = .returned (.slice none 0 0) ∧ Only (fun _ => False) w w' := by
 have ho := (Only.refl (fun _ => False) w).alloc (.cells #[a, b, c] 92)
 have HO := hid ho
 clear ho
 go_enter Tryz.func202, Tryz.ntmps202
 go_wp2
 go_ret
 exact ⟨rfl, HO.out⟩
theorem bMethods (a b c : Value) (w : World) : Calls Tryz.prog 204 #[.agg #[a, b, c]] w fun e w' => e = .returned c ∧ Only (fun _ => False) w w' := by
 have ho := (Only.refl (fun _ => False) w).alloc (.cells #[a, b, c] 92)
 have HO := hid ho
 clear ho
 go_enter Tryz.func204, Tryz.ntmps204
 go_wp2
 go_ret
 exact ⟨rfl, HO.out⟩
section
variable {w : World} {lb i : Nat} {c : ClassV} {vp vf vm vof vom : Value} (hl : w.heap[lb]? = some (listedO i c vp vf vm vof vom))
include hl
theorem lName (hp : Pool w vp c.pool) : Calls Tryz.prog 106 #[.pointer (some ⟨lb, 0, none⟩)] w fun e w' => e = .returned (.string (classZ c.pool c.this).1) ∧ Only (fun _ => False) w w' := by
 obtain ⟨q0, q1, q2, q3, q4, q5, q6, q7⟩ := cells8L hl
 have C1 := hid (clsName vp vf vm c.pool c.this c.super w hp)
 clear hl hp
 go_enter Tryz.func106, Tryz.ntmps106
 go_wp2_with (fail)
 refine C1.out.mono ?_
 rintro e w1 ⟨rfl, ho⟩
 have HO := hid ho
 clear ho
 go_wp2
 go_ret
 exact ⟨rfl, HO.out⟩
theorem lSuper (hp : Pool w vp c.pool) : Calls Tryz.prog 107 #[.pointer (some ⟨lb, 0, none⟩)] w fun e w' => e = .returned (.string (classZ c.pool c.super).1) ∧ Only (fun _ => False) w w' := by
 obtain ⟨q0, q1, q2, q3, q4, q5, q6, q7⟩ := cells8L hl
 have C1 := hid (clsSuper vp vf vm c.pool c.this c.super w hp)
 clear hl hp
 go_enter Tryz.func107, Tryz.ntmps107
 go_wp2_with (fail)
 refine C1.out.mono ?_
 rintro e w1 ⟨rfl, ho⟩
 have HO := hid ho
 clear ho
 go_wp2
 go_ret
 exact ⟨rfl, HO.out⟩
theorem lFields : Calls Tryz.prog 207 #[.pointer (some ⟨lb, 0, none⟩)] w fun e w' => e = .returned vof ∧ Only (fun _ => False) w w' := by
 obtain ⟨q0, q1, q2, q3, q4, q5, q6, q7⟩ := cells8L hl
 clear hl
 go_enter Tryz.func207, Tryz.ntmps207
 go_wp2
 go_ret
 exact ⟨rfl, Only.refl _ _⟩
theorem lMethods : Calls Tryz.prog 112 #[.pointer (some ⟨lb, 0, none⟩)] w fun e w' => e = .returned vom ∧ Only (fun _ => False) w w' := by
 obtain ⟨q0, q1, q2, q3, q4, q5, q6, q7⟩ := cells8L hl
 clear hl
 go_enter Tryz.func112, Tryz.ntmps112
 go_wp2
 go_ret
 exact ⟨rfl, Only.refl _ _⟩
end
structure Asks (w : World) (T : TypeId) (v : Value) (name : String) (r : Value) (n : FuncId) : Prop where
 look : ∀ W, (method 389 T v name).run Tryz.prog W = .ok (n, v) W
 enters : ∀ args W, (callFunc n args).run Tryz.prog W = .ok (.enter n args) W
 calls : ∀ W, Only (fun _ => False) w W → Calls Tryz.prog n #[v] W fun e w' => e = .returned r ∧ Only (fun _ => False) W w'
structure Told (w : World) (iv : Value) (k : KindV) (vof : Value) (T : TypeId) (v vom : Value) : Prop where
 eq : iv = .iface T v
 name : ∃ n, Asks w T v "understudy/link.name" (.string k.name) n
 super : ∃ n, Asks w T v "understudy/link.super" (.string k.super) n
 fields : ∃ n, Asks w T v "understudy/link.fields" vof n
 meths : ∃ n, Asks w T v "understudy/link.methods" vom n
 mem : MemS w vom k.meths (fun _ => 0)
theorem KnownG.told {G : Nat → Prop} {w : World} {i : Nat} {iv : Value} {k : KindV} {c : ClassV} {vof : Value} (h : KnownG G w i iv k c vof) : ∃ T v vom, Told w iv k vof T v vom := by
 rcases h with ⟨h1, h2, h3, vom, h4, h5⟩ | ⟨h1, h2, lb, vp, vf, vm, vom, h3, h4, h5, h6, h7⟩
 ·subst h3
  refine ⟨_, _, vom, h4, ⟨_, fun W => mName_b 388 _ W, enters_of Tryz.func205 (by kernel_rfl) rfl, fun W _ => bName _ _ _ W⟩, ⟨_, fun W => mSuper_b 388 _ W, enters_of Tryz.func206 (by kernel_rfl) rfl, fun W _ => bSuper _ _ _ W⟩, ⟨_, fun W => mFields_b 388 _ W, enters_of Tryz.func202 (by kernel_rfl) rfl, fun W _ => bFields _ _ _ W⟩, ⟨_, fun W => mMethods_b 388 _ W, enters_of Tryz.func204 (by kernel_rfl) rfl, fun W _ => bMethods _ _ _ W⟩, h5.mem⟩
 ·subst h2
  refine ⟨_, _, vom, h3, ⟨_, fun W => mName_l 388 _ W, enters_of Tryz.func106 (by kernel_rfl) rfl, fun W hW => lName (hW.heap h5 (fun h => h)) (h6.pool.only hW (fun _ _ h => h))⟩, ⟨_, fun W => mSuper_l 388 _ W, enters_of Tryz.func107 (by kernel_rfl) rfl, fun W hW => lSuper (hW.heap h5 (fun h => h)) (h6.pool.only hW (fun _ _ h => h))⟩, ⟨_, fun W => mFields_l 388 _ W, enters_of Tryz.func207 (by kernel_rfl) rfl, fun W hW => lFields (hW.heap h5 (fun h => h))⟩, ⟨_, fun W => mMethods_l 388 _ W, enters_of Tryz.func112 (by kernel_rfl) rfl, fun W hW => lMethods (hW.heap h5 (fun h => h))⟩, h7.mem⟩
section
variable {G : Nat → Prop} {fv : Nat → Value} {w : World} {pb : Nat} {ks : List KindV} {cl : Nat → ClassV} {sl : Nat → Nat → Int} (h : ProgG G fv w pb ks cl sl) (hn : 0 < ks.length)
include h hn
theorem pIsMade : Calls Tryz.prog 58 #[.pointer (some ⟨pb, 0, none⟩)] w fun e w' => e = .returned (.bool true) ∧ w = w' := by
 obtain ⟨b, o, cap, mb, q0, q1, p1, p2, hm, hk⟩ := h.open hn
 have hz : (0 : Int) < (ks.length : Int) := by omega
 clear h hm hk
 go_enter Tryz.func58, Tryz.ntmps58
 go_wp2
 go_ret
 exact ⟨rfl, rfl⟩
theorem pLen : Calls Tryz.prog 23 #[.pointer (some ⟨pb, 0, none⟩)] w fun e w' => e = .returned (.int .i64 ks.length) ∧ w = w' := by
 have C1 := hid (pIsMade h hn)
 obtain ⟨b, o, cap, mb, q0, q1, p1, p2, hm, hk⟩ := h.open hn
 clear h hm hk
 go_enter Tryz.func23, Tryz.ntmps23
 go_wp2_with (fail)
 refine C1.out.mono ?_
 rintro e w1 ⟨rfl, rfl⟩
 go_wp2
 go_ret
 exact ⟨rfl, rfl⟩
theorem pHas (n : Int) : Calls Tryz.prog 63 #[.pointer (some ⟨pb, 0, none⟩), .int .i64 n] w fun e w' => e = .returned (.bool (decide (0 ≤ n) && decide (n < ks.length))) ∧ w = w' := by
 have C1 := hid (pLen h hn)
 clear h
 by_cases h0 : 0 ≤ n
 ·have hd : decide (0 ≤ n) = true := by simpa using h0
  rw [hd]
  clear hd
  go_enter Tryz.func63, Tryz.ntmps63
  go_wp2_with (fail)
  refine C1.out.mono ?_
  rintro e w1 ⟨rfl, rfl⟩
  go_wp2
  go_ret
  exact ⟨by simp, rfl⟩
 ·have hd : decide (0 ≤ n) = false := by simpa using h0
  rw [hd]
  clear hd
  go_enter Tryz.func63, Tryz.ntmps63
  go_wp2
  go_ret
  exact ⟨rfl, rfl⟩
end
section
variable {G : Nat → Prop} {fv : Nat → Value} {w : World} {pb : Nat} {ks : List KindV} {cl : Nat → ClassV} {sl : Nat → Nat → Int} (h : ProgG G fv w pb ks cl sl) (hn : 0 < ks.length)
include h hn
set_option maxRecDepth 100000 in
theorem pFind (x : ByteArray) (hx : x.size ≤ maxLen) : Calls Tryz.prog 36 #[.pointer (some ⟨pb, 0, none⟩), .string x] w fun e w' => e = .returned (.int .i64 (findZ ks x)) ∧ w = w' := by
 have C1 := hid (pIsMade h hn)
 obtain ⟨b, o, cap, mb, q0, q1, p1, p2, ⟨n, D, hm1, hm2, hm3, hm4⟩, hk⟩ := h.open hn
 have HM := hid hm2
 have HX := hid hx
 obtain ⟨hh, ha⟩ := hm4 x
 clear h hm2 hm4 hk hx hn
 by_cases hneg : findZ ks x < 0
 ·rw [show decide (findZ ks x < 0) = true by simpa using hneg, Bool.not_true] at hh
  have HH := hid hh
  have HP : Hid (findZ ks x = -1) := by
   refine hid ?_
   rcases findZ_cases ks x with h | ⟨j, _, h⟩
   ·exact h
   ·omega
  clear hh ha hneg
  go_enter Tryz.func36, Tryz.ntmps36
  go_wp2_with (fail)
  refine C1.out.mono ?_
  rintro e w1 ⟨rfl, rfl⟩
  go_wp2_with (at_lookup; go_loud (refine wpList_lookup_own_ok_int _ rfl _ _ 84 rfl 9 3 .i64 (Maps.string_keyed Tryz.underlying9) Tryz.underlying84 Tryz.underlying3 (zero_int8 _) mb n D rfl (by exact HM.out) _ _ rfl (Go.WideMaps.keyOf_string_mk Tryz.underlying9 HX.out) ?_); intro c hat hwc; rw [show Maps.has D (.string x.data.toList) = _ from HH.out]; clear hat hwc)
  go_ret
  rw [HP.out]
  exact ⟨rfl, rfl⟩
 ·rw [show decide (findZ ks x < 0) = false by simpa using hneg, Bool.not_false] at hh
  have HH := hid hh
  have HA := hid (ha hneg)
  clear hh ha hneg
  go_enter Tryz.func36, Tryz.ntmps36
  go_wp2_with (fail)
  refine C1.out.mono ?_
  rintro e w1 ⟨rfl, rfl⟩
  go_wp2_with (at_lookup; go_loud (refine wpList_lookup_own_ok_int _ rfl _ _ 84 rfl 9 3 .i64 (Maps.string_keyed Tryz.underlying9) Tryz.underlying84 Tryz.underlying3 (zero_int8 _) mb n D rfl (by exact HM.out) _ _ rfl (Go.WideMaps.keyOf_string_mk Tryz.underlying9 HX.out) ?_); intro c hat hwc; rw [show Maps.has D (.string x.data.toList) = _ from HH.out]; have hc := lit_eq (hat.symm.trans HA.out); have HC := hid hc; clear hat hwc hc)
  go_ret
  rw [HC.out]
  exact ⟨rfl, rfl⟩
def nameZ (ks : List KindV) (n : Int) : ByteArray := if n < 0 then ⟨#[]⟩ else (ks.getD n.toNat default).name
omit h hn in
theorem nameZ_out {n : Int} (hi : (ks.length : Int) ≤ n) : nameZ ks n = ⟨#[]⟩ := by
 unfold nameZ
 split
 ·rfl
 ·have : (ks.getD n.toNat default) = default := by simp [List.getD, List.getElem?_eq_none (show ks.length ≤ n.toNat by omega)]
  rw [this]; rfl
set_option maxRecDepth 100000 in
theorem pName (n : Int) : Calls Tryz.prog 35 #[.pointer (some ⟨pb, 0, none⟩), .int .i64 n] w fun e w' => e = .returned (.string (nameZ ks n)) ∧ Only (fun _ => False) w w' := by
 have c1 := pHas h hn n
 by_cases h0 : n < 0
 ·have HR := hid (show nameZ ks n = ⟨#[]⟩ from if_pos h0)
  rw [show (decide (0 ≤ n) && decide (n < (ks.length : Int))) = false by simp; omega] at c1
  have C1 := hid c1
  clear h hn h0 c1
  go_enter Tryz.func35, Tryz.ntmps35
  go_wp2_with (fail)
  refine C1.out.mono ?_
  rintro e w1 ⟨rfl, rfl⟩
  go_wp2
  go_ret
  rw [HR.out]
  exact ⟨rfl, Only.refl _ _⟩
 by_cases h1 : (ks.length : Int) ≤ n
 ·have HR := hid (nameZ_out h1)
  rw [show (decide (0 ≤ n) && decide (n < (ks.length : Int))) = false by simp; omega] at c1
  have C1 := hid c1
  clear h hn h0 h1 c1
  go_enter Tryz.func35, Tryz.ntmps35
  go_wp2_with (fail)
  refine C1.out.mono ?_
  rintro e w1 ⟨rfl, rfl⟩
  go_wp2
  go_ret
  rw [HR.out]
  exact ⟨rfl, Only.refl _ _⟩
 ·obtain ⟨j, rfl⟩ := Int.eq_ofNat_of_zero_le (show 0 ≤ n by omega)
  have hj : j < ks.length := by omega
  have HR := hid (show nameZ ks (j : Int) = (ks.getD j default).name by unfold nameZ; rw [if_neg (by omega)]; rfl)
  rw [show (decide (0 ≤ (j : Int)) && decide ((j : Int) < (ks.length : Int))) = true by simp; omega] at c1
  obtain ⟨b, o, cap, mb, q0, q1, p1, p2, hm, hk⟩ := h.open hn
  obtain ⟨iv, q2, hkn⟩ := hk j hj
  obtain ⟨T, v, vom, ht⟩ := hkn.told
  obtain ⟨rfl, ⟨nn, hq, hen, hcalls⟩, -, -, -, -⟩ := ht
  have hjz : (j : Int) < (ks.length : Int) := by omega
  have hj0 : (0 : Int) ≤ (j : Int) := by omega
  have C1 := hid c1
  have C2 := hid (hcalls w (Only.refl _ _))
  generalize ks.getD j default = p at *
  clear h hn hk hkn hm c1 h0 h1 hcalls
  go_enter Tryz.func35, Tryz.ntmps35
  go_wp2_with (fail)
  refine C1.out.mono ?_
  rintro e w1 ⟨rfl, rfl⟩
  go_wp2_with (fail)
  refine C2.out.mono ?_
  rintro e w2 ⟨rfl, ho2⟩
  have HO2 := hid ho2
  clear ho2
  go_wp2
  go_ret
  rw [HR.out]
  exact ⟨rfl, HO2.out⟩
set_option maxRecDepth 100000 in
theorem pSuper (hroot : findZ ks (ks.getD 0 default).super = -1) (hf : ∀ k ∈ ks, FineK k) (n : Int) : Calls Tryz.prog 29 #[.pointer (some ⟨pb, 0, none⟩), .int .i64 n] w fun e w' => e = .returned (.int .i64 (superZ ks n)) ∧ Only (fun _ => False) w w' := by
 have c1 := pHas h hn n
 by_cases h0 : 0 ≤ n ∧ n < (ks.length : Int)
 ·obtain ⟨j, rfl⟩ := Int.eq_ofNat_of_zero_le h0.1
  have hj : j < ks.length := by omega
  have HR := hid (show superZ ks (j : Int) = findZ ks (ks.getD j default).super by
   by_cases hj0 : j = 0
   ·subst hj0; rw [hroot]; exact super_zero ks
   ·exact super_list (by omega) hj)
  rw [show (decide (0 ≤ (j : Int)) && decide ((j : Int) < (ks.length : Int))) = true by simp; omega] at c1
  have hsz := (hf _ (getD_mem hj)).super
  have CF := hid (fun W (hW : ProgG G fv W pb ks cl sl) => pFind hW hn (ks.getD j default).super (by unfold maxLen; omega))
  have H := hid h
  obtain ⟨b, o, cap, mb, q0, q1, p1, p2, hm, hk⟩ := h.open hn
  obtain ⟨iv, q2, hkn⟩ := hk j hj
  obtain ⟨T, v, vom, ht⟩ := hkn.told
  obtain ⟨rfl, -, ⟨nn, hq, hen, hcalls⟩, -, -, -⟩ := ht
  have hjz : (j : Int) < (ks.length : Int) := by omega
  have hj0 : (0 : Int) ≤ (j : Int) := by omega
  have C1 := hid c1
  have C2 := hid (hcalls w (Only.refl _ _))
  generalize ks.getD j default = p at *
  clear h hn hk hkn hm c1 h0 hcalls hroot hf hsz
  go_enter Tryz.func29, Tryz.ntmps29
  go_wp2_with (fail)
  refine C1.out.mono ?_
  rintro e w1 ⟨rfl, rfl⟩
  go_wp2_with (fail)
  refine C2.out.mono ?_
  rintro e w2 ⟨rfl, ho2⟩
  have HO2 := hid ho2
  go_wp2_with (fail)
  refine (CF.out _ (H.out.only ho2)).mono ?_
  rintro e w3 ⟨rfl, rfl⟩
  clear ho2
  go_wp2
  go_ret
  rw [HR.out]
  exact ⟨rfl, HO2.out⟩
 ·have HR := hid (show superZ ks n = -1 by
   by_cases h1 : n < 1
   ·exact if_pos h1
   ·unfold superZ; rw [if_neg h1, if_pos (by omega)])
  rw [show (decide (0 ≤ n) && decide (n < (ks.length : Int))) = false by simp; omega] at c1
  have C1 := hid c1
  clear h hn h0 c1 hroot hf
  go_enter Tryz.func29, Tryz.ntmps29
  go_wp2_with (fail)
  refine C1.out.mono ?_
  rintro e w1 ⟨rfl, rfl⟩
  go_wp2
  go_ret
  rw [HR.out]
  exact ⟨rfl, Only.refl _ _⟩
end
theorem assert_l (a : Option Addr) (xT : TypeId) (w : World) : (Instr.typeAssert (.iface 94 (.pointer a)) xT 94 true).run Tryz.prog w = .ok (.tuple #[.pointer a, .bool true]) w := by kernel_rfl
theorem assert_b (v : Value) (xT : TypeId) (w : World) : (Instr.typeAssert (.iface 92 v) xT 94 true).run Tryz.prog w = .ok (.tuple #[.pointer none, .bool false]) w := by kernel_rfl
theorem class_result3 {fn : Func} {p q : Tmp} (hr : fn.results = #[.cell p 37, .tmp q]) {w : World} {b : Nat} {a0 a1 a2 a3 a4 x : Value} {tmps : Array Value} (h : w.heap[b]? = some (.cells #[a0, a1, a2, a3, a4] 37 (0, 0))) (ht : tmps.getD p undef = .pointer (some ⟨b, 0, none⟩)) (hx : tmps.getD q undef = x) :
  (results fn tmps).run Tryz.prog w = .ok (.tuple #[.agg #[a0, a1, a2, a3, a4], x]) w := by
 rw [results_cell_tmp hr, ht, hx, show (asAddr (.pointer (some ⟨b, 0, none⟩))).run Tryz.prog w = .ok ⟨b, 0, none⟩ w from rfl]
 simp only [Result.andThen]
 rw [run_loadVar_row w b 37 37 _ (0, 0) _ h Tryz.underlying37 rfl info5_classP]
section
variable {G : Nat → Prop} {fv : Nat → Value} {w : World} {pb : Nat} {ks : List KindV} {cl : Nat → ClassV} {sl : Nat → Nat → Int} (h : ProgG G fv w pb ks cl sl) (hn : 13 ≤ ks.length)
include h hn
set_option maxRecDepth 100000 in
theorem pListedNo (n : Int) (hno : n < 13 ∨ (ks.length : Int) ≤ n) : Calls Tryz.prog 47 #[.pointer (some ⟨pb, 0, none⟩), .int .i64 n] w fun e w' => e = .returned (.tuple #[.pointer none, .bool false]) ∧ w = w' := by
 have c1 := pHas h (by omega) n
 by_cases hr : 0 ≤ n ∧ n < (ks.length : Int)
 ·obtain ⟨j, rfl⟩ := Int.eq_ofNat_of_zero_le hr.1
  have hj : j < 13 := by omega
  rw [show (decide (0 ≤ (j : Int)) && decide ((j : Int) < (ks.length : Int))) = true by simp; omega] at c1
  have C1 := hid c1
  obtain ⟨b, o, cap, mb, q0, -, e1, e2, -, hk⟩ := h.open (by omega)
  obtain ⟨iv, qi, hkn⟩ := hk j (by omega)
  have hjz : (j : Int) < (ks.length : Int) := by omega
  have hj0 : (0 : Int) ≤ (j : Int) := by omega
  rcases hkn with ⟨-, -, -, vom, rfl, -⟩ | ⟨h13, -⟩
  ·have ha := assert_b (.agg #[.string (ks.getD j default).name, .string (ks.getD j default).super, vom])
   generalize (ks.getD j default).name = nm at *
   generalize (ks.getD j default).super = sp at *
   clear h hk c1 hr hno
   go_enter Tryz.func47, Tryz.ntmps47
   go_wp2_with (fail)
   refine C1.out.mono ?_
   rintro e w1 ⟨rfl, hww⟩
   subst hww
   go_wp2
   go_ret2
   exact ⟨rfl, rfl⟩
  ·omega
 ·rw [show (decide (0 ≤ n) && decide (n < (ks.length : Int))) = false by simp; omega] at c1
  have C1 := hid c1
  clear h c1 hr hno
  go_enter Tryz.func47, Tryz.ntmps47
  go_wp2_with (fail)
  refine C1.out.mono ?_
  rintro e w1 ⟨rfl, hww⟩
  subst hww
  go_wp2
  go_ret2
  exact ⟨rfl, rfl⟩
def ListedAt (G : Nat → Prop) (w : World) (i : Nat) (k : KindV) (c : ClassV) (vof : Value) (lb : Nat) : Prop :=
 ¬ G lb ∧ k = loadZ c (i - 13) ∧ ∃ vp vf vm vom, w.heap[lb]? = some (listedO i c vp vf vm vof vom) ∧ ClassG G w vp vf vm c ∧ MemG G w vom k.meths
set_option maxRecDepth 100000 in
theorem pListedAt (j : Nat) (h13 : 13 ≤ j) (hj : j < ks.length) : ∃ lb, ListedAt G w j (ks.getD j default) (cl j) (fv j) lb ∧
  Calls Tryz.prog 47 #[.pointer (some ⟨pb, 0, none⟩), .int .i64 (j : Int)] w fun e w' => e = .returned (.tuple #[.pointer (some ⟨lb, 0, none⟩), .bool true]) ∧ w = w' := by
 have c1 := pHas h (by omega) (j : Int)
 rw [show (decide (0 ≤ (j : Int)) && decide ((j : Int) < (ks.length : Int))) = true by simp; omega] at c1
 have C1 := hid c1
 obtain ⟨b, o, cap, mb, q0, -, e1, e2, -, hk⟩ := h.open (by omega)
 obtain ⟨iv, qi, hkn⟩ := hk j hj
 have hjz : (j : Int) < (ks.length : Int) := by omega
 have hj0 : (0 : Int) ≤ (j : Int) := by omega
 rcases hkn with ⟨h1, -⟩ | ⟨-, hkl, lb, vp, vf, vm, vom, rfl, hG, hob, hcl, hmg⟩
 ·omega
 ·refine ⟨lb, ⟨hG, hkl, vp, vf, vm, vom, hob, hcl, hmg⟩, ?_⟩
  have ha := assert_l (some ⟨lb, 0, none⟩)
  clear h hk c1 hkl hG hob hcl hmg
  go_enter Tryz.func47, Tryz.ntmps47
  go_wp2_with (fail)
  refine C1.out.mono ?_
  rintro e w1 ⟨rfl, hww⟩
  subst hww
  go_wp2
  go_ret2
  exact ⟨rfl, rfl⟩
set_option maxRecDepth 100000 in
theorem pClassNo (n : Int) (hno : n < 13 ∨ (ks.length : Int) ≤ n) : Calls Tryz.prog 33 #[.pointer (some ⟨pb, 0, none⟩), .int .i64 n] w fun e w' => e = .returned (.tuple #[.agg #[.slice none 0 0, .int .i64 0, .int .i64 0, .slice none 0 0, .slice none 0 0], .bool false]) ∧ Only (fun _ => False) w w' := by
 have ho0 := (Only.refl (fun _ => False) w).alloc zeroCls
 have hr0 := heap_alloc_new w zeroCls
 obtain ⟨W0, hW0⟩ : ∃ W0, w.alloc zeroCls = W0 := ⟨_, rfl⟩
 rw [hW0] at ho0 hr0
 have C1 := hid (pListedNo (h.only ho0) hn n hno)
 obtain ⟨u0, u1, u2, u3, u4⟩ := cells5T hr0
 obtain ⟨v0, v1, v2, v3, v4⟩ := marks5T hr0
 have HO := hid ho0
 have HR := hid hr0
 have HW0 := hid hW0
 clear h ho0 hr0 hW0 hno hn
 go_enter Tryz.func33, Tryz.ntmps33
 go_wp2_with (fail)
 rw [HW0.out]
 refine C1.out.mono ?_
 rintro e w1 ⟨rfl, hww⟩
 subst hww
 go_wp2
 exact bodyPost_ret (class_result3 (b := w.heap.size) Tryz.results33 (store5T HR.out) rfl rfl) rfl ⟨rfl, only5T HO.out (fun hl => absurd hl (Nat.lt_irrefl _))⟩
set_option maxRecDepth 100000 in
theorem pClass (j : Nat) (h13 : 13 ≤ j) (hj : j < ks.length) (hfew : FewC (cl j)) : Calls Tryz.prog 33 #[.pointer (some ⟨pb, 0, none⟩), .int .i64 (j : Int)] w fun e w' => ∃ a b d, e = .returned (.tuple #[valCls (cl j) a b d, .bool true]) ∧ ClassM w' a b d (cl j) ∧ Only (fun _ => False) w w' := by
 have ho0 := (Only.refl (fun _ => False) w).alloc zeroCls
 have hr0 := heap_alloc_new w zeroCls
 obtain ⟨W0, hW0⟩ : ∃ W0, w.alloc zeroCls = W0 := ⟨_, rfl⟩
 rw [hW0] at ho0 hr0
 obtain ⟨lb, ⟨-, -, vp, vf, vm, vom, hob, hcl, -⟩, hc⟩ := pListedAt (h.only ho0) hn j h13 hj
 have C1 := hid hc
 generalize cl j = c at *
 obtain ⟨q0, q1, q2, q3, q4, q5, q6, q7⟩ := cells8M hob
 have CC := hid (pCloneClass c vp vf vm W0 hcl.plain hfew)
 obtain ⟨ap, kp, rfl, -⟩ := id hcl.pool
 obtain ⟨af, kf, rfl, -⟩ := id hcl.fields.1
 obtain ⟨gm, hgm, -, -⟩ := id hcl.meths
 obtain ⟨am, km, rfl, -⟩ := id hgm
 have HO := hid ho0
 have HR := hid hr0
 have HW0 := hid hW0
 clear h ho0 hr0 hW0 hn h13 hj hfew hc hob hcl hgm
 go_enter Tryz.func33, Tryz.ntmps33
 go_wp2_with (fail)
 rw [HW0.out]
 refine C1.out.mono ?_
 rintro e w1 ⟨rfl, hww⟩
 subst hww
 go_wp2_with (fail)
 refine CC.out.mono ?_
 rintro e w2 ⟨a, b, d, rfl, hcl2, ho2⟩
 obtain ⟨aA, kA, rfl, -⟩ := id hcl2.pool
 obtain ⟨aB, kB, rfl, -⟩ := id hcl2.fields.1
 obtain ⟨gm2, hgm2, -, -⟩ := id hcl2.meths
 obtain ⟨aD, kD, rfl, -⟩ := id hgm2
 have hr2 := ho2.heap HR.out (fun h => h)
 obtain ⟨u0, u1, u2, u3, u4⟩ := cells5T hr2
 obtain ⟨v0, v1, v2, v3, v4⟩ := marks5T hr2
 have HR2 := hid hr2
 have HO2 := hid (HO.out.trans ho2 (fun _ h _ => h))
 have HCL := hid hcl2
 have hlt : w.heap.size < W0.heap.size := heap_lt HR.out
 have HLT := hid hlt
 clear hgm2 hr2 ho2 hcl2 hlt q0 q1 q2 q3 q4 q5 q6 q7
 go_wp2
 exact bodyPost_ret (class_result3 (b := w.heap.size) Tryz.results33 (store5T HR2.out) rfl rfl) rfl ⟨_, _, _, rfl, (ClassG.only (G := fun k => k < W0.heap.size) (S := fun k => k = w.heap.size) (only5T (Only.refl _ w2) (fun _ => rfl)) (fun k hk => by have h1 := HLT.out; have h2 : k = w.heap.size := hk; show k < W0.heap.size; omega) HCL.out).plain, only5T HO2.out (fun hl => absurd hl (Nat.lt_irrefl _))⟩
end
end Go.Proofs.YtemplkpcckmcoaaGreatDoor
namespace Go.Proofs.YtemplkpcckmcoaaGreatDoor
set_option maxHeartbeats 8000000
open Lib (hid)
open Go.RowKit
set_option linter.unusedVariables false
set_option linter.unusedSimpArgs false
theorem pStatic (m : MethN) (s : Int) (w : World) : Calls Tryz.prog 48 #[.agg #[.string m.name, .string m.desc, .int .i64 m.flags, .int .i64 s]] w fun e w' => e = .returned (.bool (m.flags == 8)) ∧ Only (fun _ => False) w w' := by
 have ho := (Only.refl (fun _ => False) w).alloc (.cells #[.string m.name, .string m.desc, .int .i64 m.flags, .int .i64 s] 107)
 have HO := hid ho
 clear ho
 go_enter Tryz.func48, Tryz.ntmps48
 go_wp2
 go_ret
 exact ⟨rfl, HO.out⟩
end Go.Proofs.YtemplkpcckmcoaaGreatDoor
namespace Go.Proofs.YtemplkpcckmcoaaGreatDoor
set_option maxHeartbeats 8000000
open Lib (hid)
open Go.RowKit Go.Maps
set_option linter.unusedVariables false
set_option linter.unusedSimpArgs false
theorem cells4L {w : World} {b : Nat} {c0 c1 c2 c3 : Value} {t : TypeId} {f : Nat × Nat} (h : w.heap[b]? = some (.cells #[c0, c1, c2, c3] t f)) :
  w.cell? ⟨b, 0, none⟩ = some c0 ∧ w.cell? ⟨b, 1, none⟩ = some c1 ∧ w.cell? ⟨b, 2, none⟩ = some c2 ∧ w.cell? ⟨b, 3, none⟩ = some c3 := ⟨cell_blk h 0, cell_blk h 1, cell_blk h 2, cell_blk h 3⟩
def memV (m : MethN) (s : Int) : Value := .agg #[.string m.name, .string m.desc, .int .i64 m.flags, .int .i64 s]
set_option maxRecDepth 100000 in
theorem pNamed (m : MethN) (s : Int) (n d : ByteArray) (b1 b2 : Nat) (w : World) (h1 : w.cell? ⟨b1, 0, none⟩ = some (.string n)) (h2 : w.cell? ⟨b2, 0, none⟩ = some (.string d)) :
  Calls Tryz.prog 128 #[.agg #[.string m.name, .string m.desc, .int .i64 m.flags, .int .i64 s], .pointer (some ⟨b1, 0, none⟩), .pointer (some ⟨b2, 0, none⟩)] w fun e w' => e = .returned (.bool (decide (m.name = n ∧ m.desc = d))) ∧ Only (fun _ => False) w w' := by
 have ho := (Only.refl (fun _ => False) w).alloc (.cells #[.string m.name, .string m.desc, .int .i64 m.flags, .int .i64 s] 107)
 have hb := heap_alloc_new w (.cells #[.string m.name, .string m.desc, .int .i64 m.flags, .int .i64 s] 107)
 obtain ⟨r0, r1, r2, r3⟩ := cells4L hb
 have q1 := ho.cell h1 (fun h => h)
 have q2 := ho.cell h2 (fun h => h)
 have HO := hid ho
 clear ho h1 h2 hb
 by_cases e1 : m.name = n
 ·subst e1
  by_cases e2 : m.desc = d
  ·subst e2
   have hd : decide (m.name = m.name ∧ m.desc = m.desc) = true := by simp
   rw [hd]
   clear hd
   go_enter Tryz.func128, Tryz.ntmps128
   go_wp2
   go_ret
   exact ⟨by simp, HO.out⟩
  ·have hd : decide (m.name = m.name ∧ m.desc = d) = false := by simp [e2]
   rw [hd]
   obtain ⟨n1, n2⟩ := toList_beq e2
   clear hd e2
   go_enter Tryz.func128, Tryz.ntmps128
   go_wp2
   go_ret
   exact ⟨rfl, HO.out⟩
 ·have hd : decide (m.name = n ∧ m.desc = d) = false := by simp [e1]
  rw [hd]
  obtain ⟨n1, n2⟩ := toList_beq e1
  clear hd e1
  go_enter Tryz.func128, Tryz.ntmps128
  go_wp2
  go_ret
  exact ⟨rfl, HO.out⟩
set_option maxRecDepth 100000 in
theorem indexMs (v : Value) (l : List MethN) (sl : Nat → Int) (n d : ByteArray) (b1 b2 : Nat) (w : World) (hl : MemS w v l sl) (h1 : w.cell? ⟨b1, 0, none⟩ = some (.string n)) (h2 : w.cell? ⟨b2, 0, none⟩ = some (.string d)) (hn : l.length ≤ 9223372036854775806) :
  Calls Tryz.prog 127 #[v, .func (.func 128) #[] #[.pointer (some ⟨b1, 0, none⟩), .pointer (some ⟨b2, 0, none⟩)]] w fun e w' => e = .returned (.int .i64 (hasZ l n d)) ∧ Only (fun _ => False) w w' := by
 obtain ⟨ao, cap, rfl, p1, p2, p3, p4⟩ := id hl
 have HL := hid hl
 have H1 := hid h1
 have H2 := hid h2
 have hen : ∀ args w, (callFunc 128 args).run Tryz.prog w = .ok (.enter 128 args) w := enters_of Tryz.func128 (by kernel_rfl) rfl
 clear hl p3 p4 h1 h2
 go_enter Tryz.func127, Tryz.ntmps127
 go_wp2
 go_loopw [8] (fun i wr => ∃ j : Nat, i = .int .i64 j ∧ j ≤ l.length ∧ hasZ l n d = hasFrom n d j (l.drop j) ∧ Only (fun _ => False) w wr) (fun i _ => l.length - (intOf i).toNat)
 case atStart => exact ⟨0, rfl, Nat.zero_le _, rfl, Only.refl _ _⟩
 case round =>
  obtain ⟨j, rfl, hj, hat, hon⟩ := hrel
  have HON := hid hon
  by_cases hlt : j < l.length
  ·obtain ⟨bb, o, rfl, c⟩ := Sl.at (MemS.only HL.out hon) hlt
   have hpf := hasFrom_at (n := n) (d := d) hlt
   have hjz : (j : Int) < (l.length : Int) := by omega
   have c1 := pNamed (l.getD j default) (sl j) n d b1 b2 wr (hon.cell H1.out (fun h => h)) (hon.cell H2.out (fun h => h))
   obtain ⟨q0, q1, q2, q3⟩ := c
   by_cases hx : (l.getD j default).name = n ∧ (l.getD j default).desc = d
   ·have HR := hid (show hasZ l n d = j by rw [hat, hpf, if_pos hx])
    rw [show decide ((l.getD j default).name = n ∧ (l.getD j default).desc = d) = true by simpa using hx] at c1
    have C1 := hid c1
    generalize l.getD j default = k at *
    generalize sl j = s at *
    clear hat hpf hx hon c1
    go_wp2_with (fail)
    refine C1.out.mono ?_
    rintro e w1 ⟨rfl, ho1⟩
    have HON1 := hid (HON.out.trans ho1 (fun _ h _ => h))
    clear ho1 C1
    go_wp2
    go_ret
    rw [HR.out]
    exact ⟨rfl, HON1.out⟩
   ·have HR := hid (show hasZ l n d = hasFrom n d (j + 1) (l.drop (j + 1)) by rw [hat, hpf, if_neg hx])
    rw [show decide ((l.getD j default).name = n ∧ (l.getD j default).desc = d) = false by simpa using hx] at c1
    have C1 := hid c1
    generalize l.getD j default = k at *
    generalize sl j = s at *
    clear hat hpf hx hon c1
    go_wp2_with (fail)
    refine C1.out.mono ?_
    rintro e w1 ⟨rfl, ho1⟩
    have HON1 := hid (HON.out.trans ho1 (fun _ h _ => h))
    clear ho1 C1
    go_wp2
    go_roundw
    case rel => exact ⟨j + 1, by go_num, by omega, HR.out, HON1.out⟩
    case measure => simp [intOf]; omega
  ·have HR := hid (show hasZ l n d = -1 by rw [hat, List.drop_of_length_le (by omega)]; rfl)
   obtain rfl : j = l.length := by omega
   clear hat hj hlt hon
   go_wp2
   go_ret
   rw [HR.out]
   exact ⟨rfl, HON.out⟩
set_option maxRecDepth 100000 in
theorem pPlaceOf (v : Value) (l : List MethN) (sl : Nat → Int) (n d : ByteArray) (w : World) (hl : MemS w v l sl) (hn : l.length ≤ 9223372036854775806) :
  Calls Tryz.prog 110 #[v, .string n, .string d] w fun e w' => e = .returned (.int .i64 (hasZ l n d)) ∧ Only (fun _ => False) w w' := by
 have ho := (Only.refl (fun _ => False) w).alloc (.cells #[.string n] 9)
 have hb0 := heap_alloc_new w (.cells #[.string n] 9)
 have ho2 := ho.alloc (.cells #[.string d] 9)
 have hb2 := heap_alloc_new (w.alloc (.cells #[.string n] 9)) (.cells #[.string d] 9)
 have hb1 := ((Only.refl (fun _ => False) (w.alloc (.cells #[.string n] 9))).alloc (.cells #[.string d] 9)).heap hb0 (fun h => h)
 have c1 := indexMs v l sl n d w.heap.size (w.heap.size + 1) _ (hl.only ho2) (cell_blk hb1 0) (by rw [show w.heap.size + 1 = (w.alloc (.cells #[.string n] 9)).heap.size by simp]; exact cell_blk hb2 0) hn
 obtain ⟨ao, cap, rfl, p1, p2, p3, p4⟩ := id hl
 have HO := hid ho2
 have C1 := hid c1
 clear ho ho2 hb0 hb1 hb2 c1 hl p3 p4
 go_enter Tryz.func110, Tryz.ntmps110
 go_wp2_with (fail)
 refine C1.out.mono ?_
 rintro e w1 ⟨rfl, ho1⟩
 have HO1 := hid (HO.out.trans ho1 (fun _ h _ => h))
 clear ho1 C1
 go_wp2
 go_ret
 exact ⟨rfl, HO1.out⟩
set_option maxRecDepth 100000 in
theorem lMethod {G : Nat → Prop} {w : World} {lb n : Nat} {c : ClassV} {vp vf vm vof vom : Value} (hl : w.heap[lb]? = some (listedO n c vp vf vm vof vom)) (hcl : ClassG G w vp vf vm c) (hfew : FewC c) (i : Nat) (hi : i < c.methods.length) :
  Calls Tryz.prog 208 #[.pointer (some ⟨lb, 0, none⟩), .int .i64 (i : Int)] w fun e w' => ∃ a b d, e = .returned (valMth (c.methods.getD i default) a b d) ∧ InsideG (fun k => k < w.heap.size) w' (c.methods.getD i default) a b d ∧ Only (fun _ => False) w w' := by
 have ho0 := (Only.refl (fun _ => False) w).alloc zeroMth
 have hr0 := heap_alloc_new w zeroMth
 obtain ⟨f, hsl, hins, -⟩ := hcl.meths.plain
 obtain ⟨ao, cap, rfl, p1, p2, -, -⟩ := id hsl
 obtain ⟨b9, o9, rfl, hat⟩ := Sl.at hsl hi
 have hin := hins i hi
 have hfw := hfew.each _ (getD_mem hi)
 obtain ⟨m, hm⟩ : ∃ m, m = c.methods.getD i default := ⟨_, rfl⟩
 rw [← hm] at hat hin hfw ⊢
 generalize (f i).1 = fa at *
 generalize (f i).2.1 = fb at *
 generalize (f i).2.2 = fc at *
 obtain ⟨ua, ka, rfl, -⟩ := id hin.1
 obtain ⟨ub, kb, rfl, -⟩ := id hin.2.1.1
 obtain ⟨uc, kc, rfl, -⟩ := id hin.2.2
 obtain ⟨c0, c1, c2, c3, c4, c5, c6, c7⟩ := (hat.only ho0)
 have hol := ho0.heap hl (fun h => h)
 obtain ⟨q0, q1, q2, q3, q4, q5, q6, q7⟩ := cells8M hol
 have CC := hid (pCloneMethod m _ _ _ (w.alloc zeroMth) (hin.only ho0) hfw.1 hfw.2.1 hfw.2.2)
 have hiz : (i : Int) < (c.methods.length : Int) := by omega
 have hi0 : (0 : Int) ≤ (i : Int) := by omega
 have HO := hid ho0
 have HR := hid hr0
 clear hl hcl hfew ho0 hr0 hsl hins hat hin hfw hm hol hi
 go_enter Tryz.func208, Tryz.ntmps208
 go_wp2_with (fail)
 refine CC.out.mono ?_
 rintro e w2 ⟨a, b, d, rfl, hin2, ho2⟩
 obtain ⟨aA, kA, rfl, -⟩ := id hin2.1.1
 obtain ⟨aB, kB, rfl, -⟩ := id hin2.2.1.1
 obtain ⟨aD, kD, rfl, -⟩ := id hin2.2.2.1
 have hr2 := ho2.heap HR.out (fun h => h)
 obtain ⟨u0, u1, u2, u3, u4, u5, u6, u7⟩ := cells8M hr2
 obtain ⟨v0, v1, v2, v3, v4, v5, v6, v7⟩ := marks8M hr2
 have HR2 := hid hr2
 have HO2 := hid (HO.out.trans ho2 (fun _ h _ => h))
 have HIN := hid hin2
 have HLT := hid (show w.heap.size < (w.alloc zeroMth).heap.size from heap_lt HR.out)
 clear hr2 ho2 hin2 q0 q1 q2 q3 q4 q5 q6 q7 c0 c1 c2 c3 c4 c5 c6 c7
 go_wp2
 exact bodyPost_ret (meth_alone (b := w.heap.size) Tryz.results208 (store8M HR2.out) rfl) rfl ⟨_, _, _, rfl, InsideG.mono (G := fun k => k < (w.alloc zeroMth).heap.size) (fun k _ hk => by have h1 := HLT.out; have h2 : k < w.heap.size := hk; show k < (w.alloc zeroMth).heap.size; omega) (InsideG.only (G := fun k => k < (w.alloc zeroMth).heap.size) (S := fun k => k = w.heap.size) (only8M (Only.refl _ w2) (fun _ => rfl)) (fun k hk => by have h1 := HLT.out; have h2 : k = w.heap.size := hk; show k < (w.alloc zeroMth).heap.size; omega) HIN.out), only8M HO2.out (fun hl => absurd hl (Nat.lt_irrefl _))⟩
set_option maxRecDepth 100000 in
theorem bMethod (a b : Value) (v : Value) (ms : List MethN) (s : Nat → Int) (i : Nat) (hi : i < ms.length) (w : World) (hm : MemS w v ms s) :
  Calls Tryz.prog 203 #[.agg #[a, b, v], .int .i64 (i : Int)] w fun e w' => e = .returned (flagM (ms.getD i default).flags) ∧ Only (fun _ => False) w w' := by
 obtain ⟨ao, cap, rfl, p1, p2, -, -⟩ := id hm
 obtain ⟨b9, o9, rfl, hat⟩ := Sl.at hm hi
 have ho0 := ((Only.refl (fun _ => False) w).alloc (.cells #[a, b, .slice (some ⟨b9, o9, none⟩) ms.length cap] 92)).alloc zeroMth
 have hb0 : ((w.alloc (.cells #[a, b, .slice (some ⟨b9, o9, none⟩) ms.length cap] 92)).alloc zeroMth).heap[w.heap.size]? = some (.cells #[a, b, .slice (some ⟨b9, o9, none⟩) ms.length cap] 92 (0, 0)) := ((Only.refl (fun _ => False) _).alloc _).heap (heap_alloc_new w _) (fun h => h)
 have hr0 : ((w.alloc (.cells #[a, b, .slice (some ⟨b9, o9, none⟩) ms.length cap] 92)).alloc zeroMth).heap[w.heap.size + 1]? = some zeroMth := by
  have := heap_alloc_new (w.alloc (.cells #[a, b, .slice (some ⟨b9, o9, none⟩) ms.length cap] 92)) zeroMth
  rwa [World.size_alloc] at this
 obtain ⟨W2, hW2⟩ : ∃ W2, (w.alloc (.cells #[a, b, .slice (some ⟨b9, o9, none⟩) ms.length cap] 92)).alloc zeroMth = W2 := ⟨_, rfl⟩
 rw [hW2] at ho0 hb0 hr0
 have HW2 := hid hW2
 clear hW2
 have c2 := ho0.cell hat.c2 (fun h => h)
 have q2 : W2.cell? ⟨w.heap.size, 2, none⟩ = some (.slice (some ⟨b9, o9, none⟩) ms.length cap) := cell_blk hb0 2
 have hiz : (i : Int) < (ms.length : Int) := by omega
 have hi0 : (0 : Int) ≤ (i : Int) := by omega
 obtain ⟨u0, u1, u2, u3, u4, u5, u6, u7⟩ := cells8M hr0
 obtain ⟨v0, v1, v2, v3, v4, v5, v6, v7⟩ := marks8M hr0
 obtain ⟨fl, hfl⟩ : ∃ fl, (ms.getD i default).flags = fl := ⟨_, rfl⟩
 rw [hfl] at c2
 have HFL := hid hfl
 have HO := hid ho0
 have HR := hid hr0
 clear ho0 hb0 hr0 hat hm hfl hi
 go_enter Tryz.func203, Tryz.ntmps203
 refine wp_seq_k (fun K hK => ?_)
 have HK := hid hK
 clear hK
 go_wp2
 refine HK.out _ _ ?_
 rw [HW2.out]
 go_wp2
 rw [HFL.out]
 exact bodyPost_ret (meth_alone (b := w.heap.size + 1) Tryz.results203 (store8M HR.out) rfl) rfl ⟨rfl, only8M HO.out (fun hl => absurd hl (by omega))⟩
end Go.Proofs.YtemplkpcckmcoaaGreatDoor
