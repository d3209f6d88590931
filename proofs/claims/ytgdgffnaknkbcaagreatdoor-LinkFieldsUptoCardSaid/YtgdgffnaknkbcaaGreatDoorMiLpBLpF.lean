import Derived.Handy
import Derived.Test.YtgdgffnaknkbcaaGreatDoorMiLpAClone
import Derived.Test.YtgdgffnaknkbcaaGreatDoorMiPolHClsNm
import Derived.Test.YtgdgffnaknkbcaaGreatDoorMiKndCLnkB
import Derived.RangeFuncNested
import Derived.RangeFuncBound
import Derived.RangeFuncCalls
import Derived.RangeFuncLeaves
import Derived.Deep.RegionHeld3
import Derived.OwnWalkIn
import Derived.TacticsInMore
import Derived.LoopNIn
import Derived.LoopIn
namespace Go.Proofs.YtgdgffnaknkbcaaGreatDoor
open Go.RowKit Go.Maps
set_option linter.unusedVariables false
set_option linter.unusedSimpArgs false
theorem mName_b (n : Nat) (v : Value) (w : World) : (method (n + 1) 136 v "understudy/link.name").run Tryz.prog w = .ok (219, v) w := by kernel_rfl
theorem mSuper_b (n : Nat) (v : Value) (w : World) : (method (n + 1) 136 v "understudy/link.super").run Tryz.prog w = .ok (220, v) w := by kernel_rfl
theorem mFields_b (n : Nat) (v : Value) (w : World) : (method (n + 1) 136 v "understudy/link.fields").run Tryz.prog w = .ok (216, v) w := by kernel_rfl
theorem mMethods_b (n : Nat) (v : Value) (w : World) : (method (n + 1) 136 v "understudy/link.methods").run Tryz.prog w = .ok (218, v) w := by kernel_rfl
theorem mName_l (n : Nat) (v : Value) (w : World) : (method (n + 1) 124 v "understudy/link.name").run Tryz.prog w = .ok (142, v) w := by kernel_rfl
theorem mSuper_l (n : Nat) (v : Value) (w : World) : (method (n + 1) 124 v "understudy/link.super").run Tryz.prog w = .ok (143, v) w := by kernel_rfl
theorem mFields_l (n : Nat) (v : Value) (w : World) : (method (n + 1) 124 v "understudy/link.fields").run Tryz.prog w = .ok (214, v) w := by kernel_rfl
theorem mMethods_l (n : Nat) (v : Value) (w : World) : (method (n + 1) 124 v "understudy/link.methods").run Tryz.prog w = .ok (146, v) w := by kernel_rfl
theorem cells8L {w : World} {b : Nat} {c0 c1 c2 c3 c4 c5 c6 c7 : Value} {t : TypeId} {f : Nat × Nat} (h : w.heap[b]? = some (.cells #[c0, c1, c2, c3, c4, c5, c6, c7] t f)) :
  w.cell? ⟨b, 0, none⟩ = some c0 ∧ w.cell? ⟨b, 1, none⟩ = some c1 ∧ w.cell? ⟨b, 2, none⟩ = some c2 ∧ w.cell? ⟨b, 3, none⟩ = some c3 ∧ w.cell? ⟨b, 4, none⟩ = some c4 ∧ w.cell? ⟨b, 5, none⟩ = some c5 ∧ w.cell? ⟨b, 6, none⟩ = some c6 ∧ w.cell? ⟨b, 7, none⟩ = some c7 :=
 ⟨cell_blk h 0, cell_blk h 1, cell_blk h 2, cell_blk h 3, cell_blk h 4, cell_blk h 5, cell_blk h 6, cell_blk h 7⟩
theorem bName (a b c : Value) (w : World) : Calls Tryz.prog 219 #[.agg #[a, b, c]] w fun e w' => e = .returned a ∧ Only (fun _ => False) w w' := by
 have ho := (Only.refl (fun _ => False) w).alloc (.cells #[a, b, c] 136)
 have HO := Lib.hid ho
 clear ho
 go_enter Tryz.func219, Tryz.ntmps219
 go_wp2
 go_ret
 exact ⟨rfl, HO.out⟩
theorem bSuper (a b c : Value) (w : World) : Calls Tryz.prog 220 #[.agg #[a, b, c]] w fun e w' => e = .returned b ∧ Only (fun _ => False) w w' := by
 have ho := (Only.refl (fun _ => False) w).alloc (.cells #[a, b, c] 136)
 have HO := Lib.hid ho
 clear ho
 go_enter Tryz.func220, Tryz.ntmps220
 go_wp2
 go_ret
 exact ⟨rfl, HO.out⟩
theorem bFields (a b c : Value) (w : World) : Calls Tryz.prog 216 #[.agg #[a, b, c]] w fun e w' => e = .returned (.slice none 0 0) ∧ Only (fun _ => False) w w' := by
 have ho := (Only.refl (fun _ => False) w).alloc (.cells #[a, b, c] 136)
 have HO := Lib.hid ho
 clear ho
 go_enter Tryz.func216, Tryz.ntmps216
 go_wp2
 go_ret
 exact ⟨rfl, HO.out⟩
theorem bMethods (a b c : Value) (w : World) : Calls Tryz.prog 218 #[.agg #[a, b, c]] w fun e w' => e = .returned c ∧ Only (fun _ => False) w w' := by
 have ho := (Only.refl (fun _ => False) w).alloc (.cells #[a, b, c] 136)
 have HO := Lib.hid ho
 clear ho
 go_enter Tryz.func218, Tryz.ntmps218
 go_wp2
 go_ret
 exact ⟨rfl, HO.out⟩
section
variable {w : World} {lb i : Nat} {c : ClassV} {vp vf vm vof vom : Value} (hl : w.heap[lb]? = some (listedO i c vp vf vm vof vom))
include hl
theorem lName (hp : Pool w vp c.pool) : Calls Tryz.prog 142 #[.pointer (some ⟨lb, 0, none⟩)] w fun e w' => e = .returned (.string (classZ c.pool c.this).1) ∧ Only (fun _ => False) w w' := by
 obtain ⟨q0, q1, q2, q3, q4, q5, q6, q7⟩ := cells8L hl
 have C1 := Lib.hid (clsName vp vf vm c.pool c.this c.super w hp)
 clear hl hp
 go_enter Tryz.func142, Tryz.ntmps142
 go_wp2_with (fail)
 refine C1.out.mono ?_
 rintro e w1 ⟨rfl, ho⟩
 have HO := Lib.hid ho
 clear ho
 go_wp2
 go_ret
 exact ⟨rfl, HO.out⟩
theorem lSuper (hp : Pool w vp c.pool) : Calls Tryz.prog 143 #[.pointer (some ⟨lb, 0, none⟩)] w fun e w' => e = .returned (.string (classZ c.pool c.super).1) ∧ Only (fun _ => False) w w' := by
 obtain ⟨q0, q1, q2, q3, q4, q5, q6, q7⟩ := cells8L hl
 have C1 := Lib.hid (clsSuper vp vf vm c.pool c.this c.super w hp)
 clear hl hp
 go_enter Tryz.func143, Tryz.ntmps143
 go_wp2_with (fail)
 refine C1.out.mono ?_
 rintro e w1 ⟨rfl, ho⟩
 have HO := Lib.hid ho
 clear ho
 go_wp2
 go_ret
 exact ⟨rfl, HO.out⟩
theorem lFields : Calls Tryz.prog 214 #[.pointer (some ⟨lb, 0, none⟩)] w fun e w' => e = .returned vof ∧ Only (fun _ => False) w w' := by
 obtain ⟨q0, q1, q2, q3, q4, q5, q6, q7⟩ := cells8L hl
 clear hl
 go_enter Tryz.func214, Tryz.ntmps214
 go_wp2
 go_ret
 exact ⟨rfl, Only.refl _ _⟩
theorem lMethods : Calls Tryz.prog 146 #[.pointer (some ⟨lb, 0, none⟩)] w fun e w' => e = .returned vom ∧ Only (fun _ => False) w w' := by
 obtain ⟨q0, q1, q2, q3, q4, q5, q6, q7⟩ := cells8L hl
 clear hl
 go_enter Tryz.func146, Tryz.ntmps146
 go_wp2
 go_ret
 exact ⟨rfl, Only.refl _ _⟩
end
structure Asks (w : World) (T : TypeId) (v : Value) (name : String) (r : Value) (n : FuncId) : Prop where
 look : ∀ W, (method 396 T v name).run Tryz.prog W = .ok (n, v) W
 enters : ∀ args W, (callFunc n args).run Tryz.prog W = .ok (.enter n args) W
 calls : ∀ W, Only (fun _ => False) w W → Calls Tryz.prog n #[v] W fun e w' => e = .returned r ∧ Only (fun _ => False) W w'
structure Told (w : World) (iv : Value) (k : KindV) (vof : Value) (T : TypeId) (v vom : Value) : Prop where
 eq : iv = .iface T v
 name : ∃ n, Asks w T v "understudy/link.name" (.string k.name) n
 super : ∃ n, Asks w T v "understudy/link.super" (.string k.super) n
 fields : ∃ n, Asks w T v "understudy/link.fields" vof n
 meths : ∃ n, Asks w T v "understudy/link.methods" vom n
 mem : MemS w vom k.meths (fun _ => 0)
theorem KnownG.told {G : Nat → Prop} {w : World} {i : Nat} {iv : Value} {k : KindV} {c : ClassV} {vof : Value} (h : KnownG G w i iv k c vof) : ∃ T v vom, Told w iv k vof T v vom := by
 rcases h with ⟨h1, h2, h3, vom, h4, h5⟩ | ⟨h1, h2, lb, vp, vf, vm, vom, h3, h4, h5, h6, h7⟩
 ·subst h3
  refine ⟨_, _, vom, h4, ⟨_, fun W => mName_b 395 _ W, enters_of Tryz.func219 (by kernel_rfl) rfl, fun W _ => bName _ _ _ W⟩, ⟨_, fun W => mSuper_b 395 _ W, enters_of Tryz.func220 (by kernel_rfl) rfl, fun W _ => bSuper _ _ _ W⟩, ⟨_, fun W => mFields_b 395 _ W, enters_of Tryz.func216 (by kernel_rfl) rfl, fun W _ => bFields _ _ _ W⟩, ⟨_, fun W => mMethods_b 395 _ W, enters_of Tryz.func218 (by kernel_rfl) rfl, fun W _ => bMethods _ _ _ W⟩, h5.mem⟩
 ·subst h2
  refine ⟨_, _, vom, h3, ⟨_, fun W => mName_l 395 _ W, enters_of Tryz.func142 (by kernel_rfl) rfl, fun W hW => lName (hW.heap h5 (fun h => h)) (h6.pool.only hW (fun _ _ h => h))⟩, ⟨_, fun W => mSuper_l 395 _ W, enters_of Tryz.func143 (by kernel_rfl) rfl, fun W hW => lSuper (hW.heap h5 (fun h => h)) (h6.pool.only hW (fun _ _ h => h))⟩, ⟨_, fun W => mFields_l 395 _ W, enters_of Tryz.func214 (by kernel_rfl) rfl, fun W hW => lFields (hW.heap h5 (fun h => h))⟩, ⟨_, fun W => mMethods_l 395 _ W, enters_of Tryz.func146 (by kernel_rfl) rfl, fun W hW => lMethods (hW.heap h5 (fun h => h))⟩, h7.mem⟩
section
variable {G : Nat → Prop} {fv : Nat → Value} {w : World} {pb : Nat} {ks : List KindV} {cl : Nat → ClassV} {sl : Nat → Nat → Int} (h : ProgG G fv w pb ks cl sl) (hn : 0 < ks.length)
include h hn
theorem pIsMade : Calls Tryz.prog 63 #[.pointer (some ⟨pb, 0, none⟩)] w fun e w' => e = .returned (.bool true) ∧ w = w' := by
 obtain ⟨b, o, cap, mb, q0, q1, p1, p2, hm, hk⟩ := h.open hn
 have hz : (0 : Int) < (ks.length : Int) := by omega
 clear h hm hk
 go_enter Tryz.func63, Tryz.ntmps63
 go_wp2
 go_ret
 exact ⟨rfl, rfl⟩
theorem pLen : Calls Tryz.prog 24 #[.pointer (some ⟨pb, 0, none⟩)] w fun e w' => e = .returned (.int .i64 ks.length) ∧ w = w' := by
 have C1 := Lib.hid (pIsMade h hn)
 obtain ⟨b, o, cap, mb, q0, q1, p1, p2, hm, hk⟩ := h.open hn
 clear h hm hk
 go_enter Tryz.func24, Tryz.ntmps24
 go_wp2_with (fail)
 refine C1.out.mono ?_
 rintro e w1 ⟨rfl, rfl⟩
 go_wp2
 go_ret
 exact ⟨rfl, rfl⟩
theorem pHas (n : Int) : Calls Tryz.prog 64 #[.pointer (some ⟨pb, 0, none⟩), .int .i64 n] w fun e w' => e = .returned (.bool (decide (0 ≤ n) && decide (n < ks.length))) ∧ w = w' := by
 have C1 := Lib.hid (pLen h hn)
 clear h
 by_cases h0 : 0 ≤ n
 ·have hd : decide (0 ≤ n) = true := by simpa using h0
  rw [hd]
  clear hd
  go_enter Tryz.func64, Tryz.ntmps64
  go_wp2_with (fail)
  refine C1.out.mono ?_
  rintro e w1 ⟨rfl, rfl⟩
  go_wp2
  go_ret
  exact ⟨by simp, rfl⟩
 ·have hd : decide (0 ≤ n) = false := by simpa using h0
  rw [hd]
  clear hd
  go_enter Tryz.func64, Tryz.ntmps64
  go_wp2
  go_ret
  exact ⟨rfl, rfl⟩
end
section
variable {G : Nat → Prop} {fv : Nat → Value} {w : World} {pb : Nat} {ks : List KindV} {cl : Nat → ClassV} {sl : Nat → Nat → Int} (h : ProgG G fv w pb ks cl sl) (hn : 0 < ks.length)
include h hn
set_option maxHeartbeats 2000000 in
set_option maxRecDepth 100000 in
theorem pFind (x : ByteArray) (hx : x.size ≤ maxLen) : Calls Tryz.prog 19 #[.pointer (some ⟨pb, 0, none⟩), .string x] w fun e w' => e = .returned (.int .i64 (findZ ks x)) ∧ w = w' := by
 have C1 := Lib.hid (pIsMade h hn)
 obtain ⟨b, o, cap, mb, q0, q1, p1, p2, ⟨n, D, hm1, hm2, hm3, hm4⟩, hk⟩ := h.open hn
 have HM := Lib.hid hm2
 have HX := Lib.hid hx
 obtain ⟨hh, ha⟩ := hm4 x
 clear h hm2 hm4 hk hx hn
 by_cases hneg : findZ ks x < 0
 ·rw [show decide (findZ ks x < 0) = true by simpa using hneg, Bool.not_true] at hh
  have HH := Lib.hid hh
  have HP : Hid (findZ ks x = -1) := by
   refine Lib.hid ?_
   rcases findZ_cases ks x with h | ⟨j, _, h⟩
   ·exact h
   ·omega
  clear hh ha hneg
  go_enter Tryz.func19, Tryz.ntmps19
  go_wp2_with (fail)
  refine C1.out.mono ?_
  rintro e w1 ⟨rfl, rfl⟩
  go_wp2_with (at_lookup; go_loud (refine wpList_lookup_own_ok_int _ rfl _ _ 106 rfl 9 3 .i64 (Maps.string_keyed Tryz.underlying9) Tryz.underlying106 Tryz.underlying3 (zero_int8 _) mb n D rfl (by exact HM.out) _ _ rfl (Go.WideMaps.keyOf_string_mk Tryz.underlying9 HX.out) ?_); intro c hat hwc; rw [show Maps.has D (.string x.data.toList) = _ from HH.out]; clear hat hwc)
  go_ret
  rw [HP.out]
  exact ⟨rfl, rfl⟩
 ·rw [show decide (findZ ks x < 0) = false by simpa using hneg, Bool.not_false] at hh
  have HH := Lib.hid hh
  have HA := Lib.hid (ha hneg)
  clear hh ha hneg
  go_enter Tryz.func19, Tryz.ntmps19
  go_wp2_with (fail)
  refine C1.out.mono ?_
  rintro e w1 ⟨rfl, rfl⟩
  go_wp2_with (at_lookup; go_loud (refine wpList_lookup_own_ok_int _ rfl _ _ 106 rfl 9 3 .i64 (Maps.string_keyed Tryz.underlying9) Tryz.underlying106 Tryz.underlying3 (zero_int8 _) mb n D rfl (by exact HM.out) _ _ rfl (Go.WideMaps.keyOf_string_mk Tryz.underlying9 HX.out) ?_); intro c hat hwc; rw [show Maps.has D (.string x.data.toList) = _ from HH.out]; have hc := lit_eq (hat.symm.trans HA.out); have HC := Lib.hid hc; clear hat hwc hc)
  go_ret
  rw [HC.out]
  exact ⟨rfl, rfl⟩
def nameZ (ks : List KindV) (n : Int) : ByteArray := if n < 0 then ⟨#[]⟩ else (ks.getD n.toNat default).name
omit h hn in
theorem nameZ_out {n : Int} (hi : (ks.length : Int) ≤ n) : nameZ ks n = ⟨#[]⟩ := by
 unfold nameZ
 split
 ·rfl
 ·have : (ks.getD n.toNat default) = default := by simp [List.getD, List.getElem?_eq_none (show ks.length ≤ n.toNat by omega)]
  rw [this]; rfl
set_option maxHeartbeats 2000000 in
set_option maxRecDepth 100000 in
theorem pName (n : Int) : Calls Tryz.prog 29 #[.pointer (some ⟨pb, 0, none⟩), .int .i64 n] w fun e w' => e = .returned (.string (nameZ ks n)) ∧ Only (fun _ => False) w w' := by
 have c1 := pHas h hn n
 by_cases h0 : n < 0
 ·have HR := Lib.hid (show nameZ ks n = ⟨#[]⟩ from if_pos h0)
  rw [show (decide (0 ≤ n) && decide (n < (ks.length : Int))) = false by simp; omega] at c1
  have C1 := Lib.hid c1
  clear h hn h0 c1
  go_enter Tryz.func29, Tryz.ntmps29
  go_wp2_with (fail)
  refine C1.out.mono ?_
  rintro e w1 ⟨rfl, rfl⟩
  go_wp2
  go_ret
  rw [HR.out]
  exact ⟨rfl, Only.refl _ _⟩
 by_cases h1 : (ks.length : Int) ≤ n
 ·have HR := Lib.hid (nameZ_out h1)
  rw [show (decide (0 ≤ n) && decide (n < (ks.length : Int))) = false by simp; omega] at c1
  have C1 := Lib.hid c1
  clear h hn h0 h1 c1
  go_enter Tryz.func29, Tryz.ntmps29
  go_wp2_with (fail)
  refine C1.out.mono ?_
  rintro e w1 ⟨rfl, rfl⟩
  go_wp2
  go_ret
  rw [HR.out]
  exact ⟨rfl, Only.refl _ _⟩
 ·obtain ⟨j, rfl⟩ := Int.eq_ofNat_of_zero_le (show 0 ≤ n by omega)
  have hj : j < ks.length := by omega
  have HR := Lib.hid (show nameZ ks (j : Int) = (ks.getD j default).name by unfold nameZ; rw [if_neg (by omega)]; rfl)
  rw [show (decide (0 ≤ (j : Int)) && decide ((j : Int) < (ks.length : Int))) = true by simp; omega] at c1
  obtain ⟨b, o, cap, mb, q0, q1, p1, p2, hm, hk⟩ := h.open hn
  obtain ⟨iv, q2, hkn⟩ := hk j hj
  obtain ⟨T, v, vom, ht⟩ := hkn.told
  obtain ⟨rfl, ⟨nn, hq, hen, hcalls⟩, -, -, -, -⟩ := ht
  have hjz : (j : Int) < (ks.length : Int) := by omega
  have hj0 : (0 : Int) ≤ (j : Int) := by omega
  have C1 := Lib.hid c1
  have C2 := Lib.hid (hcalls w (Only.refl _ _))
  generalize ks.getD j default = p at *
  clear h hn hk hkn hm c1 h0 h1 hcalls
  go_enter Tryz.func29, Tryz.ntmps29
  go_wp2_with (fail)
  refine C1.out.mono ?_
  rintro e w1 ⟨rfl, rfl⟩
  go_wp2_with (fail)
  refine C2.out.mono ?_
  rintro e w2 ⟨rfl, ho2⟩
  have HO2 := Lib.hid ho2
  clear ho2
  go_wp2
  go_ret
  rw [HR.out]
  exact ⟨rfl, HO2.out⟩
set_option maxHeartbeats 2000000 in
set_option maxRecDepth 100000 in
theorem pSuper (hroot : findZ ks (ks.getD 0 default).super = -1) (hf : ∀ k ∈ ks, FineK k) (n : Int) : Calls Tryz.prog 25 #[.pointer (some ⟨pb, 0, none⟩), .int .i64 n] w fun e w' => e = .returned (.int .i64 (superZ ks n)) ∧ Only (fun _ => False) w w' := by
 have c1 := pHas h hn n
 by_cases h0 : 0 ≤ n ∧ n < (ks.length : Int)
 ·obtain ⟨j, rfl⟩ := Int.eq_ofNat_of_zero_le h0.1
  have hj : j < ks.length := by omega
  have HR := Lib.hid (show superZ ks (j : Int) = findZ ks (ks.getD j default).super by
   by_cases hj0 : j = 0
   ·subst hj0; rw [hroot]; exact super_zero ks
   ·exact super_list (by omega) hj)
  rw [show (decide (0 ≤ (j : Int)) && decide ((j : Int) < (ks.length : Int))) = true by simp; omega] at c1
  have hsz := (hf _ (getD_mem hj)).super
  have CF := Lib.hid (fun W (hW : ProgG G fv W pb ks cl sl) => pFind hW hn (ks.getD j default).super (by unfold maxLen; omega))
  have H := Lib.hid h
  obtain ⟨b, o, cap, mb, q0, q1, p1, p2, hm, hk⟩ := h.open hn
  obtain ⟨iv, q2, hkn⟩ := hk j hj
  obtain ⟨T, v, vom, ht⟩ := hkn.told
  obtain ⟨rfl, -, ⟨nn, hq, hen, hcalls⟩, -, -, -⟩ := ht
  have hjz : (j : Int) < (ks.length : Int) := by omega
  have hj0 : (0 : Int) ≤ (j : Int) := by omega
  have C1 := Lib.hid c1
  have C2 := Lib.hid (hcalls w (Only.refl _ _))
  generalize ks.getD j default = p at *
  clear h hn hk hkn hm c1 h0 hcalls hroot hf hsz
  go_enter Tryz.func25, Tryz.ntmps25
  go_wp2_with (fail)
  refine C1.out.mono ?_
  rintro e w1 ⟨rfl, rfl⟩
  go_wp2_with (fail)
  refine C2.out.mono ?_
  rintro e w2 ⟨rfl, ho2⟩
  have HO2 := Lib.hid ho2
  go_wp2_with (fail)
  refine (CF.out _ (H.out.only ho2)).mono ?_
  rintro e w3 ⟨rfl, rfl⟩
  clear ho2
  go_wp2
  go_ret
  rw [HR.out]
  exact ⟨rfl, HO2.out⟩
 ·have HR := Lib.hid (show superZ ks n = -1 by
   by_cases h1 : n < 1
   ·exact if_pos h1
   ·unfold superZ; rw [if_neg h1, if_pos (by omega)])
  rw [show (decide (0 ≤ n) && decide (n < (ks.length : Int))) = false by simp; omega] at c1
  have C1 := Lib.hid c1
  clear h hn h0 c1 hroot hf
  go_enter Tryz.func25, Tryz.ntmps25
  go_wp2_with (fail)
  refine C1.out.mono ?_
  rintro e w1 ⟨rfl, rfl⟩
  go_wp2
  go_ret
  rw [HR.out]
  exact ⟨rfl, Only.refl _ _⟩
end
end Go.Proofs.YtgdgffnaknkbcaaGreatDoor
namespace Go.Proofs.YtgdgffnaknkbcaaGreatDoor
open Go.RowKit
set_option linter.unusedVariables false
set_option linter.unusedSimpArgs false
theorem pStatic (m : MethN) (s : Int) (w : World) : Calls Tryz.prog 79 #[.agg #[.string m.name, .string m.desc, .int .i64 m.flags, .int .i64 s]] w fun e w' => e = .returned (.bool (m.flags == 8)) ∧ Only (fun _ => False) w w' := by
 have ho := (Only.refl (fun _ => False) w).alloc (.cells #[.string m.name, .string m.desc, .int .i64 m.flags, .int .i64 s] 123)
 have HO := Lib.hid ho
 clear ho
 go_enter Tryz.func79, Tryz.ntmps79
 go_wp2
 go_ret
 exact ⟨rfl, HO.out⟩
end Go.Proofs.YtgdgffnaknkbcaaGreatDoor
namespace Go.Proofs.YtgdgffnaknkbcaaGreatDoor
open Go.RowKit Go.Maps
set_option linter.unusedVariables false
set_option linter.unusedSimpArgs false
theorem cells4L {w : World} {b : Nat} {c0 c1 c2 c3 : Value} {t : TypeId} {f : Nat × Nat} (h : w.heap[b]? = some (.cells #[c0, c1, c2, c3] t f)) :
  w.cell? ⟨b, 0, none⟩ = some c0 ∧ w.cell? ⟨b, 1, none⟩ = some c1 ∧ w.cell? ⟨b, 2, none⟩ = some c2 ∧ w.cell? ⟨b, 3, none⟩ = some c3 := ⟨cell_blk h 0, cell_blk h 1, cell_blk h 2, cell_blk h 3⟩
def memV (m : MethN) (s : Int) : Value := .agg #[.string m.name, .string m.desc, .int .i64 m.flags, .int .i64 s]
set_option maxHeartbeats 2000000 in
set_option maxRecDepth 100000 in
theorem pNamed (m : MethN) (s : Int) (n d : ByteArray) (b1 b2 : Nat) (w : World) (h1 : w.cell? ⟨b1, 0, none⟩ = some (.string n)) (h2 : w.cell? ⟨b2, 0, none⟩ = some (.string d)) :
  Calls Tryz.prog 124 #[.agg #[.string m.name, .string m.desc, .int .i64 m.flags, .int .i64 s], .pointer (some ⟨b1, 0, none⟩), .pointer (some ⟨b2, 0, none⟩)] w fun e w' => e = .returned (.bool (decide (m.name = n ∧ m.desc = d))) ∧ Only (fun _ => False) w w' := by
 have ho := (Only.refl (fun _ => False) w).alloc (.cells #[.string m.name, .string m.desc, .int .i64 m.flags, .int .i64 s] 123)
 have hb := heap_alloc_new w (.cells #[.string m.name, .string m.desc, .int .i64 m.flags, .int .i64 s] 123)
 obtain ⟨r0, r1, r2, r3⟩ := cells4L hb
 have q1 := ho.cell h1 (fun h => h)
 have q2 := ho.cell h2 (fun h => h)
 have HO := Lib.hid ho
 clear ho h1 h2 hb
 by_cases e1 : m.name = n
 ·subst e1
  by_cases e2 : m.desc = d
  ·subst e2
   have hd : decide (m.name = m.name ∧ m.desc = m.desc) = true := by simp
   rw [hd]
   clear hd
   go_enter Tryz.func124, Tryz.ntmps124
   go_wp2
   go_ret
   exact ⟨by simp, HO.out⟩
  ·have hd : decide (m.name = m.name ∧ m.desc = d) = false := by simp [e2]
   rw [hd]
   obtain ⟨n1, n2⟩ := toList_beq e2
   clear hd e2
   go_enter Tryz.func124, Tryz.ntmps124
   go_wp2
   go_ret
   exact ⟨rfl, HO.out⟩
 ·have hd : decide (m.name = n ∧ m.desc = d) = false := by simp [e1]
  rw [hd]
  obtain ⟨n1, n2⟩ := toList_beq e1
  clear hd e1
  go_enter Tryz.func124, Tryz.ntmps124
  go_wp2
  go_ret
  exact ⟨rfl, HO.out⟩
set_option maxHeartbeats 4000000 in
set_option maxRecDepth 100000 in
theorem indexMs (v : Value) (l : List MethN) (sl : Nat → Int) (n d : ByteArray) (b1 b2 : Nat) (w : World) (hl : MemS w v l sl) (h1 : w.cell? ⟨b1, 0, none⟩ = some (.string n)) (h2 : w.cell? ⟨b2, 0, none⟩ = some (.string d)) (hn : l.length ≤ 9223372036854775806) :
  Calls Tryz.prog 123 #[v, .func (.func 124) #[] #[.pointer (some ⟨b1, 0, none⟩), .pointer (some ⟨b2, 0, none⟩)]] w fun e w' => e = .returned (.int .i64 (hasZ l n d)) ∧ Only (fun _ => False) w w' := by
 obtain ⟨ao, cap, rfl, p1, p2, p3, p4⟩ := id hl
 have HL := Lib.hid hl
 have H1 := Lib.hid h1
 have H2 := Lib.hid h2
 have hen : ∀ args w, (callFunc 124 args).run Tryz.prog w = .ok (.enter 124 args) w := enters_of Tryz.func124 (by kernel_rfl) rfl
 clear hl p3 p4 h1 h2
 go_enter Tryz.func123, Tryz.ntmps123
 go_wp2
 go_loopw [8] (fun i wr => ∃ j : Nat, i = .int .i64 j ∧ j ≤ l.length ∧ hasZ l n d = hasFrom n d j (l.drop j) ∧ Only (fun _ => False) w wr) (fun i _ => l.length - (intOf i).toNat)
 case atStart => exact ⟨0, rfl, Nat.zero_le _, rfl, Only.refl _ _⟩
 case round =>
  obtain ⟨j, rfl, hj, hat, hon⟩ := hrel
  have HON := Lib.hid hon
  by_cases hlt : j < l.length
  ·obtain ⟨bb, o, rfl, c⟩ := Sl.at (MemS.only HL.out hon) hlt
   have hpf := hasFrom_at (n := n) (d := d) hlt
   have hjz : (j : Int) < (l.length : Int) := by omega
   have c1 := pNamed (l.getD j default) (sl j) n d b1 b2 wr (hon.cell H1.out (fun h => h)) (hon.cell H2.out (fun h => h))
   obtain ⟨q0, q1, q2, q3⟩ := c
   by_cases hx : (l.getD j default).name = n ∧ (l.getD j default).desc = d
   ·have HR := Lib.hid (show hasZ l n d = j by rw [hat, hpf, if_pos hx])
    rw [show decide ((l.getD j default).name = n ∧ (l.getD j default).desc = d) = true by simpa using hx] at c1
    have C1 := Lib.hid c1
    generalize l.getD j default = k at *
    generalize sl j = s at *
    clear hat hpf hx hon c1
    go_wp2_with (fail)
    refine C1.out.mono ?_
    rintro e w1 ⟨rfl, ho1⟩
    have HON1 := Lib.hid (HON.out.trans ho1 (fun _ h _ => h))
    clear ho1 C1
    go_wp2
    go_ret
    rw [HR.out]
    exact ⟨rfl, HON1.out⟩
   ·have HR := Lib.hid (show hasZ l n d = hasFrom n d (j + 1) (l.drop (j + 1)) by rw [hat, hpf, if_neg hx])
    rw [show decide ((l.getD j default).name = n ∧ (l.getD j default).desc = d) = false by simpa using hx] at c1
    have C1 := Lib.hid c1
    generalize l.getD j default = k at *
    generalize sl j = s at *
    clear hat hpf hx hon c1
    go_wp2_with (fail)
    refine C1.out.mono ?_
    rintro e w1 ⟨rfl, ho1⟩
    have HON1 := Lib.hid (HON.out.trans ho1 (fun _ h _ => h))
    clear ho1 C1
    go_wp2
    go_roundw
    case rel => exact ⟨j + 1, by go_num, by omega, HR.out, HON1.out⟩
    case measure => simp [intOf]; omega
  ·have HR := Lib.hid (show hasZ l n d = -1 by rw [hat, List.drop_of_length_le (by omega)]; rfl)
   obtain rfl : j = l.length := by omega
   clear hat hj hlt hon
   go_wp2
   go_ret
   rw [HR.out]
   exact ⟨rfl, HON.out⟩
set_option maxHeartbeats 2000000 in
set_option maxRecDepth 100000 in
theorem pPlaceOf (v : Value) (l : List MethN) (sl : Nat → Int) (n d : ByteArray) (w : World) (hl : MemS w v l sl) (hn : l.length ≤ 9223372036854775806) :
  Calls Tryz.prog 89 #[v, .string n, .string d] w fun e w' => e = .returned (.int .i64 (hasZ l n d)) ∧ Only (fun _ => False) w w' := by
 have ho := (Only.refl (fun _ => False) w).alloc (.cells #[.string n] 9)
 have hb0 := heap_alloc_new w (.cells #[.string n] 9)
 have ho2 := ho.alloc (.cells #[.string d] 9)
 have hb2 := heap_alloc_new (w.alloc (.cells #[.string n] 9)) (.cells #[.string d] 9)
 have hb1 := ((Only.refl (fun _ => False) (w.alloc (.cells #[.string n] 9))).alloc (.cells #[.string d] 9)).heap hb0 (fun h => h)
 have c1 := indexMs v l sl n d w.heap.size (w.heap.size + 1) _ (hl.only ho2) (cell_blk hb1 0) (by rw [show w.heap.size + 1 = (w.alloc (.cells #[.string n] 9)).heap.size by simp]; exact cell_blk hb2 0) hn
 obtain ⟨ao, cap, rfl, p1, p2, p3, p4⟩ := id hl
 have HO := Lib.hid ho2
 have C1 := Lib.hid c1
 clear ho ho2 hb0 hb1 hb2 c1 hl p3 p4
 go_enter Tryz.func89, Tryz.ntmps89
 go_wp2_with (fail)
 refine C1.out.mono ?_
 rintro e w1 ⟨rfl, ho1⟩
 have HO1 := Lib.hid (HO.out.trans ho1 (fun _ h _ => h))
 clear ho1 C1
 go_wp2
 go_ret
 exact ⟨rfl, HO1.out⟩
attribute [local go_sem] Oper.semAt_some
section
variable {P : Program} {ops : Array Oper} {Q : Exit → Act → World → Prop} {md : Region.Mode} {l n : Nat}
theorem rows_round {row : String} {args : Array Value} {w : World} {R : Value → World → Prop} (h : Rows P row args w R) : RowsIn (Fence.wide.inRound l) n P row args w R := fun c cs _ => by
 obtain ⟨v, w', r, s⟩ := h c cs
 exact ⟨v, w', r, stepsIn_wide.2 s⟩
theorem upon_round {o : Oper} {a : Act} {K : Act → World → Prop} : ∀ {r : Result Next}, o.upon P a K Q r → o.uponIn (Fence.wide.inRound l) n P a K Q r
 | .ok (.value v) w', h => h
 | .ok .skip w', h => h
 | .ok (.defer d) w', h => h
 | .ok (.enter f args) w', h => ⟨(fun hd => by cases hd), CallsIn.inRound l (callsIn_wide.2 h)⟩
 | .ok (.row row args) w', h => ⟨(fun hd => by cases hd), rows_round h⟩
 | .halt (.panic v) w', h => h
theorem wp_round {o : Oper} (ho : ∀ c, o.op ≠ .defer c) {a : Act} {w : World} {K : Act → World → Prop} (h : o.wp P a w K Q) : o.wpIn (Fence.wide.inRound l) n P a w K Q := by
 refine ⟨fun _ _ => trivial, ?_⟩
 rw [Oper.semAt_eq _ _ _ ho]
 exact upon_round h
def NoDefer (ops : Array Oper) : Prop := ∀ (i : Nat) (o : Oper), ops[i]? = some o → ∀ c, o.op ≠ .defer c
theorem wpOp_round (hp : NoDefer ops) (hq : ¬ LetsOut Q) {i : Nat} {a : Act} {w : World} {K : Act → World → Prop} (h : wpOp P ops Q i K a w) : wpOpIn (Fence.wide.inRound l) n P ops Q i K a w := by
 unfold wpOp at h
 unfold wpOpIn
 cases ho : ops[i]? with
 | none => simp only [ho] at h ⊢; exact h
 | some o =>
  simp only [ho] at h ⊢
  by_cases hw : Region.wanted o (yielded ops a.tmps) = true
  ·rw [if_pos hw] at h ⊢
   rcases h with h | ⟨_, h⟩
   ·exact wp_round (hp i o ho) h
   ·exact absurd h hq
  ·rw [if_neg hw] at h ⊢
   exact ⟨fun _ _ => trivial, h⟩
theorem wpAny_round (hp : NoDefer ops) (hq : ¬ LetsOut Q) : ∀ (fuel : Nat) (listed : Array Bool) (a : Act) (w : World), wpAny P md ops Q fuel listed a w → wpAnyIn (Fence.wide.inRound l) n P md ops Q fuel listed a w
 | 0, _, _, _, h => h
 | fuel + 1, listed, a, w, h => ⟨h.1, fun i hi => wpOp_round hp hq (wpOp_mono (fun a w hk => wpAny_round hp hq fuel _ a w hk) (h.2 i hi))⟩
theorem wpIn_held_round {S : World → Prop} {id : Nat} {a : Act} {w : World} (hm : P.follows .mixedOrders = true) (hp : NoDefer ops) (hq : ¬ LetsOut Q) (hS : S w.drew)
  (h : S w.drew → wpAnyH P .any ops Q S ops.size (Array.replicate ops.size false) a w.drew) : (Code.region id ops true).wpIn (Fence.wide.inRound l) n P Q a w :=
 wpIn_region_any hm (wpAny_round hp hq _ _ _ _ (wpAny_of_held _ _ _ _ (h hS)))
end
attribute [local go_sem] Oper.semAt_some
structure GoodK (ks : List KindV) : Prop where
 pos : 13 ≤ ks.length
 small : SmallK ks
 root : findZ ks (ks.getD 0 default).super = -1
 fine : ∀ k ∈ ks, FineK k
 ends : EndsAll ks
 once : NamesOnce ks
def seqX (ks : List KindV) (x : Int) : List Nat := if x < 0 then [] else if (ks.length : Int) ≤ x then [] else upZ ks x
theorem seqX_neg {ks : List KindV} {x : Int} (h : x < 0) : seqX ks x = [] := if_pos h
theorem seqX_out {ks : List KindV} {x : Int} (h : (ks.length : Int) ≤ x) : seqX ks x = [] := by unfold seqX; split <;> rfl
theorem seqX_in {ks : List KindV} {x : Int} (h : x < ks.length) : seqX ks x = upZ ks x := by
 unfold seqX
 split
 ·rw [upZ_end (by assumption)]
 ·rw [if_neg (by omega)]
theorem seqX_step {ks : List KindV} (he : EndsAll ks) {j : Nat} (h : j < ks.length) : seqX ks (j : Int) = j :: seqX ks (superZ ks j) := by
 rw [seqX_in (by omega), seqX_in (superZ_lt ks j), upZ_step he h]
theorem seqX_len {ks : List KindV} (x : Int) : (seqX ks x).length ≤ ks.length + 1 := by
 unfold seqX
 split
 ·exact Nat.zero_le _
 ·split
  ·exact Nat.zero_le _
  ·exact chain_len _ _
theorem seqX_lt {ks : List KindV} (he : EndsAll ks) : ∀ (m : Nat) (x : Int), (seqX ks x).length = m → ∀ j ∈ seqX ks x, j < ks.length
 | m, x, hm, j, hj => by
  by_cases h0 : x < 0
  ·rw [seqX_neg h0] at hj; cases hj
  by_cases h1 : (ks.length : Int) ≤ x
  ·rw [seqX_out h1] at hj; cases hj
  obtain ⟨i, rfl⟩ := Int.eq_ofNat_of_zero_le (show 0 ≤ x by omega)
  have hi : i < ks.length := by omega
  rw [seqX_step he hi] at hj hm
  rcases List.mem_cons.1 hj with rfl | hj
  ·exact hi
  ·cases m with
   | zero => cases hm
   | succ m => exact seqX_lt he m _ (by simpa using hm) j hj
abbrev encJ (ks : List KindV) (x : Fin ks.length) : Array Value := #[.int .i64 (x.val : Int)]
theorem only_grown9 {W W' : World} (ho : Only (fun _ => False) W W') : W.grownBy W' none := ⟨ho.os, ho.tape, ho.output, ho.size, fun k hk _ => ho.block k hk (fun h => h)⟩
theorem below_cell {B : Nat} {w W : World} (h : Below B w W) {a : Addr} {v : Value} (hc : w.cell? a = some v) (hB : w.heap.size ≤ B) : W.cell? a = some v :=
 (Only.of_below (h.mono hB) (fun _ => False)).cell hc (fun h => h)
set_option maxHeartbeats 4000000 in
set_option maxRecDepth 100000 in
theorem up_in (n : Nat) (hn : 1 ≤ n) {G : Nat → Prop} {fv : Nat → Value} {w : World} {pb : Nat} {ks : List KindV} {cl : Nat → ClassV} {sl : Nat → Nat → Int} (h : ProgG G fv w pb ks cl sl) (hg : GoodK ks) (x : Int) (Bn Bp : Nat)
  (hBn : w.cell? ⟨Bn, 0, none⟩ = some (.int .i64 x)) (hBp : w.cell? ⟨Bp, 0, none⟩ = some (.pointer (some ⟨pb, 0, none⟩))) :
  SeqStopsK Fence.wide n Tryz.prog 90 #[.pointer (some ⟨Bn, 0, none⟩), .pointer (some ⟨Bp, 0, none⟩)] (encJ ks) (Below w.heap.size) (fun xs => vals xs = seqX ks x) (fun pre => vals pre <+: seqX ks x) (ks.length + 2) w := by
 intro lp J Jx W hb hJ hJx hY h0
 have HY := Lib.hid hY
 have HJ := Lib.hid hJ
 have H := Lib.hid h
 have HG := Lib.hid hg
 have HBP := Lib.hid hBp
 have HB := Lib.hid hb
 have hp0 := hg.pos
 have hcn := below_cell hb hBn (Nat.le_refl _)
 have HSX := Lib.hid (show seqX ks x = vals ([] : List (Fin ks.length)) ++ seqX ks x from rfl)
 clear hY hJ hJx h hg hBp hBn hb
 refine callsIn_of_wp Tryz.func90 rfl trivial ?_ rfl
 simp only [Tryz.ntmps90, List.size_toArray, List.length_cons, List.length_nil, Nat.reduceAdd, Nat.reduceSub, Array.replicate_succ, Array.replicate_zero, List.push_toArray, List.append_toArray, List.nil_append, List.cons_append]
 gi_wp2
 clear hcn
 gi_loopw [4] (fun av wr => ∃ (y : Int) (pre : List (Fin ks.length)), av = .int .i64 y ∧ Hid (seqX ks x = vals pre ++ seqX ks y) ∧ Hid (Below w.heap.size w wr) ∧ Hid (J pre wr)) (fun av _ => (seqX ks (intOf av)).length)
 case atStart => exact ⟨x, [], rfl, HSX, HB, Lib.hid h0⟩
 case round =>
  obtain ⟨y, pre, rfl, HS, HBW, HJR⟩ := hrel
  have hcp := below_cell HBW.out HBP.out (Nat.le_refl _)
  have hpw := H.out.only (Only.of_below HBW.out _)
  have c1 := pHas hpw (by omega) y
  by_cases hy : 0 ≤ y ∧ y < (ks.length : Int)
  ·obtain ⟨j, rfl⟩ := Int.eq_ofNat_of_zero_le hy.1
   have hj : j < ks.length := by omega
   rw [show (decide (0 ≤ (j : Int)) && decide ((j : Int) < (ks.length : Int))) = true by simp; omega] at c1
   have C1 := Lib.hid c1
   have HST := Lib.hid (seqX_step HG.out.ends hj)
   have HPRE : Hid (vals (pre ++ [(⟨j, hj⟩ : Fin ks.length)]) <+: seqX ks x) := Lib.hid (by rw [vals_snoc, HS.out, HST.out]; exact ⟨seqX ks (superZ ks j), by simp⟩)
   have hpl : pre.length < ks.length + 2 := by
    have h1 := seqX_len (ks := ks) x
    have h2 := congrArg List.length HS.out
    rw [List.length_append, vals_len] at h2
    omega
   have HS2 : Hid (seqX ks x = vals (pre ++ [(⟨j, hj⟩ : Fin ks.length)]) ++ seqX ks (superZ ks j)) := Lib.hid (by rw [vals_snoc, HS.out, HST.out]; simp)
   have HM : Hid ((seqX ks (superZ ks j)).length < (seqX ks (j : Int)).length) := Lib.hid (by rw [HST.out, List.length_cons]; omega)
   have CS := Lib.hid (fun W1 (hW : ProgG G fv W1 pb ks cl sl) => pSuper hW (by omega) HG.out.root HG.out.fine (j : Int))
   obtain ⟨fn, tmps, assign, body, hy', hR⟩ := HY.out pre ⟨j, hj⟩ wr HJR.out hpl
   unfold encJ at hy'
   try dsimp only at hy'
   have HR3 := Lib.hid hR
   have HPW := Lib.hid hpw
   generalize superZ ks (j : Int) = sj at *
   clear hR hpl c1 hpw hy HST
   gi_wp2_with (fail)
   refine ⟨trivial, (callsIn_wide.2 C1.out).mono ?_⟩
   rintro e' w3 ⟨rfl, hww⟩
   subst hww
   gi_wp2_with (fail)
   refine HR3.out.mono ?_
   rintro e9 W3 (⟨rfl, hJ3, hk3⟩ | ⟨rfl, hJx3⟩)
   ·have HJ3 := Lib.hid hJ3
    have hb3 := HBW.out.trans hk3
    have HB3 := Lib.hid hb3
    have hcp3 := below_cell hb3 HBP.out (Nat.le_refl _)
    have HP3 := Lib.hid (H.out.only (Only.of_below hb3 (fun _ => False)))
    clear hJ3 hk3 hy' hcp hb3 HR3
    gi_wp2_with (fail)
    refine ⟨trivial, (callsIn_wide.2 (CS.out _ HP3.out)).mono ?_⟩
    rintro e4 w4 ⟨rfl, ho4⟩
    have HJ4 := Lib.hid (HJ.out _ _ _ none HJ3.out (only_grown9 ho4) (fun r e => by cases e))
    have HB4 := Lib.hid (HB3.out.trans ((Only.none ho4).mono HB3.out.size))
    clear ho4 hcp3
    gi_wp2
    go_roundw
    case rel => exact ⟨sj, _, rfl, HS2, HB4, HJ4⟩
    case measure => exact HM.out
   ·have HJ3 := Lib.hid hJx3
    clear hJx3 hy' hcp
    gi_wp2
    go_end0
    exact ⟨⟨_, rfl⟩, .inr ⟨_, HPRE.out, HJ3.out⟩⟩
  ·rw [show (decide (0 ≤ y) && decide (y < (ks.length : Int))) = false by simp; omega] at c1
   have C1 := Lib.hid c1
   have HE : Hid (vals pre = seqX ks x) := Lib.hid (by
    rw [HS.out]
    by_cases h1 : y < 0
    ·rw [seqX_neg h1, List.append_nil]
    ·rw [seqX_out (by omega), List.append_nil])
   clear c1 hpw hy
   gi_wp2_with (fail)
   refine ⟨trivial, (callsIn_wide.2 C1.out).mono ?_⟩
   rintro e' w3 ⟨rfl, hww⟩
   subst hww
   gi_wp2_with (fail)
   refine ⟨fun _ h => (by cases h), ?_⟩
   gi_wp2
   go_end0
   exact ⟨⟨_, rfl⟩, .inl ⟨_, HE.out, HJR.out⟩⟩
def oneX (ks : List KindV) (x : Int) : List Nat := if x < 0 then [] else if (ks.length : Int) ≤ x then [] else [x.toNat]
set_option maxHeartbeats 4000000 in
set_option maxRecDepth 100000 in
theorem alone_in (n : Nat) (hn : 1 ≤ n) {G : Nat → Prop} {fv : Nat → Value} {w : World} {pb : Nat} {ks : List KindV} {cl : Nat → ClassV} {sl : Nat → Nat → Int} (h : ProgG G fv w pb ks cl sl) (hp0 : 0 < ks.length) (x : Int) (Bn Bp : Nat)
  (hBn : w.cell? ⟨Bn, 0, none⟩ = some (.int .i64 x)) (hBp : w.cell? ⟨Bp, 0, none⟩ = some (.pointer (some ⟨pb, 0, none⟩))) :
  SeqStopsK Fence.wide n Tryz.prog 91 #[.pointer (some ⟨Bp, 0, none⟩), .pointer (some ⟨Bn, 0, none⟩)] (encJ ks) (Below w.heap.size) (fun xs => vals xs = oneX ks x) (fun pre => vals pre <+: oneX ks x) (ks.length + 2) w := by
 intro lp J Jx W hb hJ hJx hY h0
 have hcn := below_cell hb hBn (Nat.le_refl _)
 have hcp := below_cell hb hBp (Nat.le_refl _)
 have c1 := pHas (h.only (Only.of_below hb _)) hp0 x
 by_cases hy : 0 ≤ x ∧ x < (ks.length : Int)
 ·obtain ⟨j, rfl⟩ := Int.eq_ofNat_of_zero_le hy.1
  have hj : j < ks.length := by omega
  rw [show (decide (0 ≤ (j : Int)) && decide ((j : Int) < (ks.length : Int))) = true by simp; omega] at c1
  have HE := Lib.hid (show oneX ks (j : Int) = [j] by unfold oneX; rw [if_neg (by omega), if_neg (by omega)]; rfl)
  have C1 := Lib.hid c1
  obtain ⟨fn, tmps, assign, body, hy', hR⟩ := hY [] ⟨j, hj⟩ W h0 (by simp)
  unfold encJ at hy'
  try dsimp only at hy'
  have HR3 := Lib.hid hR
  clear hR c1 hy h hb hJ hJx hY hBn hBp
  refine callsIn_of_wp Tryz.func91 rfl trivial ?_ rfl
  simp only [Tryz.ntmps91, List.size_toArray, List.length_cons, List.length_nil, Nat.reduceAdd, Nat.reduceSub, Array.replicate_succ, Array.replicate_zero, List.push_toArray, List.append_toArray, List.nil_append, List.cons_append]
  gi_wp2_with (fail)
  refine ⟨trivial, (callsIn_wide.2 C1.out).mono ?_⟩
  rintro e' w3 ⟨rfl, hww⟩
  subst hww
  gi_wp2_with (fail)
  refine HR3.out.mono ?_
  rintro e9 W3 (⟨rfl, hJ3, hk3⟩ | ⟨rfl, hJx3⟩)
  ·have HJ3 := Lib.hid hJ3
   clear hJ3 hk3 hy' hcp hcn
   gi_wp2
   go_end0
   exact ⟨⟨_, rfl⟩, .inl ⟨[⟨j, hj⟩], HE.out.symm, HJ3.out⟩⟩
  ·have HJ3 := Lib.hid hJx3
   clear hJx3 hy' hcp hcn
   gi_wp2
   go_end0
   exact ⟨⟨_, rfl⟩, .inr ⟨[⟨j, hj⟩], by rw [HE.out]; exact List.prefix_rfl, HJ3.out⟩⟩
 ·rw [show (decide (0 ≤ x) && decide (x < (ks.length : Int))) = false by simp; omega] at c1
  have HE := Lib.hid (show oneX ks x = [] by unfold oneX; split; rfl; rw [if_pos (by omega)])
  have C1 := Lib.hid c1
  clear c1 hy h hb hJ hJx hY hBn hBp
  refine callsIn_of_wp Tryz.func91 rfl trivial ?_ rfl
  simp only [Tryz.ntmps91, List.size_toArray, List.length_cons, List.length_nil, Nat.reduceAdd, Nat.reduceSub, Array.replicate_succ, Array.replicate_zero, List.push_toArray, List.append_toArray, List.nil_append, List.cons_append]
  gi_wp2_with (fail)
  refine ⟨trivial, (callsIn_wide.2 C1.out).mono ?_⟩
  rintro e' w3 ⟨rfl, hww⟩
  subst hww
  gi_wp2
  go_end0
  exact ⟨⟨_, rfl⟩, .inl ⟨[], HE.out.symm, h0⟩⟩
set_option maxHeartbeats 4000000 in
set_option maxRecDepth 100000 in
theorem none_in (n N : Nat) (ks : List KindV) (w : World) : SeqStopsK Fence.wide n Tryz.prog 60 #[] (encJ ks) (Below w.heap.size) (fun xs => vals xs = []) (fun pre => vals pre <+: []) N w := by
 intro lp J Jx W hb hJ hJx hY h0
 clear hb hJ hJx hY
 refine callsIn_of_wp Tryz.func60 rfl trivial ?_ rfl
 simp only [Tryz.ntmps60, List.size_toArray, List.length_cons, List.length_nil, Nat.reduceAdd, Nat.reduceSub, Array.replicate_succ, Array.replicate_zero, List.push_toArray, List.append_toArray, List.nil_append, List.cons_append]
 gi_wp2
 go_end0
 exact ⟨⟨_, rfl⟩, .inl ⟨[], rfl, h0⟩⟩
theorem pUp (pb : Nat) (x : Int) (w : World) : Calls Tryz.prog 56 #[.pointer (some ⟨pb, 0, none⟩), .int .i64 x] w fun e w' => e = .returned (.func (.func 90) #[] #[.pointer (some ⟨w.heap.size + 1, 0, none⟩), .pointer (some ⟨w.heap.size, 0, none⟩)]) ∧ w' = (w.alloc (.cells #[.pointer (some ⟨pb, 0, none⟩)] 23)).alloc (.cells #[.int .i64 x] 3) := by
 go_enter Tryz.func56, Tryz.ntmps56
 go_wp2
 go_ret
 exact ⟨rfl, rfl⟩
theorem pAlone (pb : Nat) (x : Int) (w : World) : Calls Tryz.prog 62 #[.pointer (some ⟨pb, 0, none⟩), .int .i64 x] w fun e w' => e = .returned (.func (.func 91) #[] #[.pointer (some ⟨w.heap.size, 0, none⟩), .pointer (some ⟨w.heap.size + 1, 0, none⟩)]) ∧ w' = (w.alloc (.cells #[.pointer (some ⟨pb, 0, none⟩)] 23)).alloc (.cells #[.int .i64 x] 3) := by
 go_enter Tryz.func62, Tryz.ntmps62
 go_wp2
 go_ret
 exact ⟨rfl, rfl⟩
end Go.Proofs.YtgdgffnaknkbcaaGreatDoor
