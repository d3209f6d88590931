import Derived.Test.YtinbelghhfodiaaGreatDoorMaTkH
import Derived.Test.YtinbelghhfodiaaGreatDoorMaKndPRulA
import Derived.Test.YtinbelghhfodiaaGreatDoorMaKndFMapF
import Derived.Test.YtinbelghhfodiaaGreatDoorMaLpRhLpRi
import Derived.Deep.RegionHeld3
namespace Go.Proofs.YtinbelghhfodiaaGreatDoor
set_option maxHeartbeats 8000000
open Lib (hid)
open Go.RowKit
set_option linter.unusedVariables false
set_option linter.unusedSimpArgs false
def all2 (p : TypeV → TypeV → Bool) : List TypeV → List TypeV → Bool
 | [], [] => true
 | a :: r, b :: s => p a b && all2 p r s
 | _, _ => false
theorem all2_len (p : TypeV → TypeV → Bool) : ∀ (l m : List TypeV), l.length ≠ m.length → all2 p l m = false
 | [], [], h => absurd rfl h
 | [], b :: s, _ => rfl
 | a :: r, [], _ => rfl
 | a :: r, b :: s, h => by rw [all2, all2_len p r s (fun e => h (by simp [e]))]; exact Bool.and_false _
theorem all2_at {p : TypeV → TypeV → Bool} {l m : List TypeV} {j : Nat} (h : j < l.length) (h' : j < m.length) : all2 p (l.drop j) (m.drop j) = (p (l.getD j default) (m.getD j default) && all2 p (l.drop (j + 1)) (m.drop (j + 1))) := by rw [drop_getD h, drop_getD h', all2]
theorem all2_end {p : TypeV → TypeV → Bool} {l m : List TypeV} {j : Nat} (h : l.length ≤ j) (h' : m.length ≤ j) : all2 p (l.drop j) (m.drop j) = true := by rw [List.drop_of_length_le h, List.drop_of_length_le h']; rfl
def Decides2 (n : FuncId) (cap : Array Value) (p : TypeV → TypeV → Bool) (l m : List TypeV) (w : World) : Prop :=
 ∀ t ∈ l, ∀ u ∈ m, ∀ w', Only (fun _ => False) w w' → Calls Tryz.prog n (#[valT t, valT u] ++ cap) w' fun e w2 => e = .returned (.bool (p t u)) ∧ Only (fun _ => False) w' w2
set_option maxRecDepth 100000 in
theorem equalT (n : FuncId) (hn : Enters Tryz.prog n) (cap : Array Value) (p : TypeV → TypeV → Bool) (v u : Value) (l m : List TypeV) (w : World) (hl : Types w v l) (hm : Types w u m) (hd : Decides2 n cap p l m w) (hnl : l.length ≤ 9223372036854775806) (hnm : m.length ≤ 9223372036854775806) :
  Calls Tryz.prog 21 #[v, u, .func (.func n) #[] cap] w fun e w' => e = .returned (.bool (all2 p l m)) ∧ Only (fun _ => False) w w' := by
 obtain ⟨ao, cp, rfl, h1, h2, h3, h4⟩ := id hl
 obtain ⟨am, cm, rfl, g1, g2, g3, g4⟩ := id hm
 have HL := hid hl
 have HM := hid hm
 have HD := hid hd
 have hen : ∀ args w, (callFunc n args).run Tryz.prog w = .ok (.enter n args) w := by assumption
 clear hl hm h3 h4 g3 g4 hd
 by_cases hlen : l.length = m.length
 ·have hne : ((l.length : Int) != (m.length : Int)) = false := by rw [bne_eq_false_iff_eq]; omega
  have HLEN := hid hlen
  clear hlen
  go_enter Tryz.func21, Tryz.ntmps21
  go_wp2
  go_loopw [17, 8, 7, 9] (fun i _ _ _ wr => ∃ j : Nat, i = .int .i64 j ∧ j ≤ l.length ∧ all2 p l m = all2 p (l.drop j) (m.drop j) ∧ Only (fun _ => False) w wr) (fun i _ _ _ _ => l.length - (intOf i).toNat)
  case atStart => exact ⟨0, rfl, Nat.zero_le _, rfl, Only.refl _ _⟩
  case round =>
   obtain ⟨j, rfl, hj, hat, hon⟩ := hrel
   have HON := hid hon
   by_cases hlt : j < l.length
   ·have hltm : j < m.length := by have := HLEN.out; omega
    obtain ⟨bb, ob, rfl, cc⟩ := Sl.at (HL.out.only hon) hlt
    obtain ⟨bm, om, rfl, cd⟩ := Sl.at (HM.out.only hon) hltm
    have hjz : (j : Int) < (l.length : Int) := by omega
    have hjm : (j : Int) < (m.length : Int) := by omega
    have hj0 : (0 : Int) ≤ (j : Int) := by omega
    have hd2 := all2_at (p := p) hlt hltm
    have c1 := fun W hW => HD.out _ (getD_mem hlt) _ (getD_mem hltm) W hW
    obtain ⟨q0, q1, q2, q3, q4⟩ := cc
    have HQ := hid cd
    generalize l.getD j default = s at *
    generalize m.getD j default = t at *
    obtain ⟨sk, sn, sd, se, sa⟩ := s
    obtain ⟨tk, tn, td, te, ta⟩ := t
    simp only at q0 q1 q2 q3 q4
    obtain ⟨r0, r1, r2, r3, r4⟩ := HQ.out
    simp only at r0 r1 r2 r3 r4
    have ho1 := (Only.refl (fun _ => False) wr).alloc (.cells #[.int .i64 sk, .string sn, .int .i64 sd, .int .i64 se, .int .i64 sa] 33)
    have r0' := ho1.cell r0 (fun h => h)
    have r1' := ho1.cell r1 (fun h => h)
    have r2' := ho1.cell r2 (fun h => h)
    have r3' := ho1.cell r3 (fun h => h)
    have r4' := ho1.cell r4 (fun h => h)
    clear r0 r1 r2 r3 r4
    have HO2 := hid (hon.trans (ho1.alloc (.cells #[.int .i64 tk, .string tn, .int .i64 td, .int .i64 te, .int .i64 ta] 33)) (fun _ h _ => h))
    have C1 := hid (c1 _ HO2.out)
    clear c1 ho1 hon HQ
    cases hx : p ⟨sk, sn, sd, se, sa⟩ ⟨tk, tn, td, te, ta⟩ with
    | true =>
     have HR := hid (show all2 p l m = all2 p (l.drop (j + 1)) (m.drop (j + 1)) by rw [hat, hd2, hx]; rfl)
     rw [hx] at C1
     unfold valT at C1
     simp only at C1
     clear hat hd2 hx
     go_wp2_with (fail)
     refine C1.out.mono ?_
     rintro e w1 ⟨rfl, ho1⟩
     have HON1 := hid (HO2.out.trans ho1 (fun _ h _ => h))
     clear ho1 C1 q0 q1 q2 q3 q4 r0' r1' r2' r3' r4'
     go_wp2
     go_roundw
     case rel => exact ⟨j + 1, by go_num, by omega, HR.out, HON1.out⟩
     case measure => simp [intOf]; omega
    | false =>
     have HR := hid (show all2 p l m = false by rw [hat, hd2, hx]; rfl)
     rw [hx] at C1
     unfold valT at C1
     simp only at C1
     clear hat hd2 hx
     go_wp2_with (fail)
     refine C1.out.mono ?_
     rintro e w1 ⟨rfl, ho1⟩
     have HON1 := hid (HO2.out.trans ho1 (fun _ h _ => h))
     clear ho1 C1 q0 q1 q2 q3 q4 r0' r1' r2' r3' r4'
     go_wp2
     go_ret
     rw [HR.out]
     exact ⟨rfl, HON1.out⟩
   ·have HR := hid (show all2 p l m = true by rw [hat]; exact all2_end (by omega) (by have := HLEN.out; omega))
    have hjn : ¬ (j : Int) < (l.length : Int) := by omega
    clear hat hlt hon
    go_wp2
    go_ret
    rw [HR.out]
    exact ⟨rfl, HON.out⟩
 ·have hne : ((l.length : Int) != (m.length : Int)) = true := by rw [bne_iff_ne]; omega
  have HR := hid (all2_len p l m hlen)
  clear hlen
  go_enter Tryz.func21, Tryz.ntmps21
  go_wp2
  go_ret
  rw [HR.out]
  exact ⟨rfl, Only.refl _ _⟩
section
variable {w : World} {xb pb : Nat} {ks : List KindV} {p : PlcV} (h : PlaceP w xb pb ks p)
include h
set_option maxRecDepth 100000 in
theorem pMay (hk : ks.length ≤ 64) (hf : ∀ k ∈ ks, FineK k) (s t : TypeV) (hs : s.name.size ≤ maxLen) (bx : Nat) (hbx : w.cell? ⟨bx, 0, none⟩ = some (.pointer (some ⟨xb, 0, none⟩))) :
  Calls Tryz.prog 19 #[valT s, valT t, .pointer (some ⟨bx, 0, none⟩)] w fun e w' => e = .returned (.bool (assignZ (treeZ ks) s t)) ∧ Only (fun _ => False) w w' := by
 obtain ⟨sk, sn, sd, se, sa⟩ := s
 obtain ⟨tk, tn, td, te, ta⟩ := t
 have ho := ((Only.refl (fun _ => False) w).alloc (.cells #[.int .i64 sk, .string sn, .int .i64 sd, .int .i64 se, .int .i64 sa] 33)).alloc (.cells #[.int .i64 tk, .string tn, .int .i64 td, .int .i64 te, .int .i64 ta] 33)
 have hsb : ((w.alloc (.cells #[.int .i64 sk, .string sn, .int .i64 sd, .int .i64 se, .int .i64 sa] 33)).alloc (.cells #[.int .i64 tk, .string tn, .int .i64 td, .int .i64 te, .int .i64 ta] 33)).heap[w.heap.size]? = some (.cells #[.int .i64 sk, .string sn, .int .i64 sd, .int .i64 se, .int .i64 sa] 33 (0, 0)) := ((Only.refl (fun _ => False) _).alloc _).heap (heap_alloc_new w _) (fun h => h)
 have htb : ((w.alloc (.cells #[.int .i64 sk, .string sn, .int .i64 sd, .int .i64 se, .int .i64 sa] 33)).alloc (.cells #[.int .i64 tk, .string tn, .int .i64 td, .int .i64 te, .int .i64 ta] 33)).heap[w.heap.size + 1]? = some (.cells #[.int .i64 tk, .string tn, .int .i64 td, .int .i64 te, .int .i64 ta] 33 (0, 0)) := by
  have := heap_alloc_new (w.alloc (.cells #[.int .i64 sk, .string sn, .int .i64 sd, .int .i64 se, .int .i64 sa] 33)) (.cells #[.int .i64 tk, .string tn, .int .i64 td, .int .i64 te, .int .i64 ta] 33)
  rwa [World.size_alloc] at this
 obtain ⟨W2, hW2⟩ : ∃ W2, (w.alloc (.cells #[.int .i64 sk, .string sn, .int .i64 sd, .int .i64 se, .int .i64 sa] 33)).alloc (.cells #[.int .i64 tk, .string tn, .int .i64 td, .int .i64 te, .int .i64 ta] 33) = W2 := ⟨_, rfl⟩
 rw [hW2] at ho hsb htb
 obtain ⟨tv, pv, cv, lv, sv, h1, h2, -⟩ := h.only ho
 have CA := hid (fun W (hW : Only (fun _ => False) W2 W) => progAssign tv (treeZ ks) ⟨sk, sn, sd, se, sa⟩ ⟨tk, tn, td, te, ta⟩ W (h2.only hW) (by rw [treeZ_len]; omega) (names_all hf) hs)
 obtain ⟨aT, kT, rfl, -⟩ := id h2
 have z0 := ho.cell hbx (fun h => h)
 have z1 := cell_blk h1 1
 simp only [List.getElem?_toArray, List.getElem?_cons_zero, List.getElem?_cons_succ] at z1
 obtain ⟨s0, s1, s2, s3, s4⟩ := cells5T hsb
 obtain ⟨t0, t1, t2, t3, t4⟩ := cells5T htb
 have HO := hid ho
 have HW2 := hid hW2
 clear h h1 h2 ho hsb htb hW2 hbx
 unfold valT at CA ⊢
 simp only at CA ⊢
 generalize assignZ (treeZ ks) ⟨sk, sn, sd, se, sa⟩ ⟨tk, tn, td, te, ta⟩ = bz at *
 go_enter Tryz.func19, Tryz.ntmps19
 go_upto_region 1 with fail
 rw [HW2.out]
 refine wp_region_held_drew (S := fun W => W.cell? ⟨bx, 0, none⟩ = some (.pointer (some ⟨xb, 0, none⟩)) ∧ W.cell? ⟨xb, 1, none⟩ = some (.slice aT (treeZ ks).length kT) ∧ W.cell? ⟨w.heap.size, 0, none⟩ = some (.int .i64 sk) ∧ W.cell? ⟨w.heap.size, 1, none⟩ = some (.string sn) ∧ W.cell? ⟨w.heap.size, 2, none⟩ = some (.int .i64 sd) ∧ W.cell? ⟨w.heap.size, 3, none⟩ = some (.int .i64 se) ∧ W.cell? ⟨w.heap.size, 4, none⟩ = some (.int .i64 sa) ∧ W.cell? ⟨w.heap.size + 1, 0, none⟩ = some (.int .i64 tk) ∧ W.cell? ⟨w.heap.size + 1, 1, none⟩ = some (.string tn) ∧ W.cell? ⟨w.heap.size + 1, 2, none⟩ = some (.int .i64 td) ∧ W.cell? ⟨w.heap.size + 1, 3, none⟩ = some (.int .i64 te) ∧ W.cell? ⟨w.heap.size + 1, 4, none⟩ = some (.int .i64 ta)) (by kernel_rfl) ⟨((Only.refl (fun _ => False) W2).drew).cell z0 (fun h => h), ((Only.refl (fun _ => False) W2).drew).cell z1 (fun h => h), ((Only.refl (fun _ => False) W2).drew).cell s0 (fun h => h), ((Only.refl (fun _ => False) W2).drew).cell s1 (fun h => h), ((Only.refl (fun _ => False) W2).drew).cell s2 (fun h => h), ((Only.refl (fun _ => False) W2).drew).cell s3 (fun h => h), ((Only.refl (fun _ => False) W2).drew).cell s4 (fun h => h), ((Only.refl (fun _ => False) W2).drew).cell t0 (fun h => h), ((Only.refl (fun _ => False) W2).drew).cell t1 (fun h => h), ((Only.refl (fun _ => False) W2).drew).cell t2 (fun h => h), ((Only.refl (fun _ => False) W2).drew).cell t3 (fun h => h), ((Only.refl (fun _ => False) W2).drew).cell t4 (fun h => h)⟩ (fun hHeld => ?_)
 refine tk2 0 (h := ?_)
 refine tk2 1 (h := ?_)
 refine tk2 2 (h := ?_)
 refine tk2 3 (h := ?_)
 refine tk2 4 (h := ?_)
 refine tk2 5 (h := ?_)
 refine tkR 6 (h := fun K hK => ?_)
 go_simp
 (refine (CA.out _ (Only.refl (fun _ => False) W2).drew).mono ?_; rintro e5 w5 ⟨rfl, ho5⟩; have HO5 := hid ((Only.refl (fun _ => False) W2).drew.trans ho5 (fun _ h _ => h)); clear ho5)
 go_wp2_with fail
 refine hK.out _ _ ?_ (fun hHeld2 => ?_)
 ·exact ⟨(HO5.out).cell z0 (fun h => h), (HO5.out).cell z1 (fun h => h), (HO5.out).cell s0 (fun h => h), (HO5.out).cell s1 (fun h => h), (HO5.out).cell s2 (fun h => h), (HO5.out).cell s3 (fun h => h), (HO5.out).cell s4 (fun h => h), (HO5.out).cell t0 (fun h => h), (HO5.out).cell t1 (fun h => h), (HO5.out).cell t2 (fun h => h), (HO5.out).cell t3 (fun h => h), (HO5.out).cell t4 (fun h => h)⟩
 clear hK K
 try simp only [Act.put, sIB, sC0, sCS]
 clear hHeld
 have hHeld := hHeld2
 clear hHeld2
 refine tk2 7 (h := ?_)
 refine wpAnyH_done (by kernel_rfl) ?_ _
 have HO6 := hid (HO.out.trans HO5.out (fun _ h _ => h))
 go_wp2
 go_ret
 exact ⟨rfl, HO6.out⟩
def frZ (ks : List KindV) (la sa lb sb : List TypeV) (fa fb : Bool) : Bool := !(fa && !fb) && (all2 (assignZ (treeZ ks)) la lb && all2 (assignZ (treeZ ks)) sa sb)
set_option maxRecDepth 100000 in
theorem pAssign11 (hk : ks.length ≤ 64) (hf : ∀ k ∈ ks, FineK k) (la sa lb sb : List TypeV) (fa fb : Bool) (v1 v2 u1 u2 : Value) (k1 : Types w v1 la) (k2 : Types w v2 sa) (k3 : Types w u1 lb) (k4 : Types w u2 sb)
  (n1 : ∀ t ∈ la, t.name.size ≤ maxLen) (n2 : ∀ t ∈ sa, t.name.size ≤ maxLen) (m1 : la.length ≤ 9223372036854775806) (m2 : sa.length ≤ 9223372036854775806) (m3 : lb.length ≤ 9223372036854775806) (m4 : sb.length ≤ 9223372036854775806) :
  Calls Tryz.prog 6 #[.pointer (some ⟨xb, 0, none⟩), .agg #[v1, v2, .bool fa], .agg #[u1, u2, .bool fb]] w fun e w' => e = .returned (.bool (frZ ks la sa lb sb fa fb)) ∧ Only (fun _ => False) w w' := by
 obtain ⟨a1, c1, rfl, -⟩ := id k1
 obtain ⟨a2, c2, rfl, -⟩ := id k2
 obtain ⟨a3, c3, rfl, -⟩ := id k3
 obtain ⟨a4, c4, rfl, -⟩ := id k4
 have ho := (((Only.refl (fun _ => False) w).alloc (.cells #[.pointer (some ⟨xb, 0, none⟩)] 26)).alloc (.cells #[(.slice a1 la.length c1), (.slice a2 sa.length c2), .bool fa] 25)).alloc (.cells #[(.slice a3 lb.length c3), (.slice a4 sb.length c4), .bool fb] 25)
 have hb : (((w.alloc (.cells #[.pointer (some ⟨xb, 0, none⟩)] 26)).alloc (.cells #[(.slice a1 la.length c1), (.slice a2 sa.length c2), .bool fa] 25)).alloc (.cells #[(.slice a3 lb.length c3), (.slice a4 sb.length c4), .bool fb] 25)).cell? ⟨w.heap.size, 0, none⟩ = some (.pointer (some ⟨xb, 0, none⟩)) := (((Only.refl (fun _ => False) _).alloc _).alloc _).cell (cell_blk (heap_alloc_new w _) 0) (fun h => h)
 have ha : (((w.alloc (.cells #[.pointer (some ⟨xb, 0, none⟩)] 26)).alloc (.cells #[(.slice a1 la.length c1), (.slice a2 sa.length c2), .bool fa] 25)).alloc (.cells #[(.slice a3 lb.length c3), (.slice a4 sb.length c4), .bool fb] 25)).heap[w.heap.size + 1]? = some (.cells #[(.slice a1 la.length c1), (.slice a2 sa.length c2), .bool fa] 25 (0, 0)) := by
  have := ((Only.refl (fun _ => False) _).alloc (.cells #[(.slice a3 lb.length c3), (.slice a4 sb.length c4), .bool fb] 25)).heap (heap_alloc_new (w.alloc (.cells #[.pointer (some ⟨xb, 0, none⟩)] 26)) (.cells #[(.slice a1 la.length c1), (.slice a2 sa.length c2), .bool fa] 25)) (fun h => h)
  rwa [World.size_alloc] at this
 have hc : (((w.alloc (.cells #[.pointer (some ⟨xb, 0, none⟩)] 26)).alloc (.cells #[(.slice a1 la.length c1), (.slice a2 sa.length c2), .bool fa] 25)).alloc (.cells #[(.slice a3 lb.length c3), (.slice a4 sb.length c4), .bool fb] 25)).heap[w.heap.size + 1 + 1]? = some (.cells #[(.slice a3 lb.length c3), (.slice a4 sb.length c4), .bool fb] 25 (0, 0)) := by
  have := heap_alloc_new ((w.alloc (.cells #[.pointer (some ⟨xb, 0, none⟩)] 26)).alloc (.cells #[(.slice a1 la.length c1), (.slice a2 sa.length c2), .bool fa] 25)) (.cells #[(.slice a3 lb.length c3), (.slice a4 sb.length c4), .bool fb] 25)
  rwa [World.size_alloc, World.size_alloc] at this
 obtain ⟨W0, hW0⟩ : ∃ W0, ((w.alloc (.cells #[.pointer (some ⟨xb, 0, none⟩)] 26)).alloc (.cells #[(.slice a1 la.length c1), (.slice a2 sa.length c2), .bool fa] 25)).alloc (.cells #[(.slice a3 lb.length c3), (.slice a4 sb.length c4), .bool fb] 25) = W0 := ⟨_, rfl⟩
 rw [hW0] at ho hb ha hc
 have C1 := hid (pMadeR (h.only ho))
 have HENT := hid (show Enters Tryz.prog 19 from enters_of Tryz.func19 (by kernel_rfl) rfl)
 have CE := hid (fun W (hW : Only (fun _ => False) W0 W) => equalT 19 HENT.out #[.pointer (some ⟨w.heap.size, 0, none⟩)] (assignZ (treeZ ks)) (.slice a1 la.length c1) (.slice a3 lb.length c3) la lb W (k1.only (ho.trans hW (fun _ h _ => h))) (k3.only (ho.trans hW (fun _ h _ => h))) (fun s hs t _ W' hW' => pMay (h.only (ho.trans (hW.trans hW' (fun _ h _ => h)) (fun _ h _ => h))) hk hf s t (n1 s hs) w.heap.size ((hW.trans hW' (fun _ h _ => h)).cell hb (fun h => h))) m1 m3)
 have CS := hid (fun W (hW : Only (fun _ => False) W0 W) => equalT 19 HENT.out #[.pointer (some ⟨w.heap.size, 0, none⟩)] (assignZ (treeZ ks)) (.slice a2 sa.length c2) (.slice a4 sb.length c4) sa sb W (k2.only (ho.trans hW (fun _ h _ => h))) (k4.only (ho.trans hW (fun _ h _ => h))) (fun s hs t _ W' hW' => pMay (h.only (ho.trans (hW.trans hW' (fun _ h _ => h)) (fun _ h _ => h))) hk hf s t (n2 s hs) w.heap.size ((hW.trans hW' (fun _ h _ => h)).cell hb (fun h => h))) m2 m4)
 have HA := hid ha
 have HC := hid hc
 have HO := hid ho
 have HW0 := hid hW0
 obtain ⟨q0, q1, q2⟩ := cells3 ha
 obtain ⟨r0, r1, r2⟩ := cells3 hc
 have hbW := hb
 clear h ho ha hc hW0 k1 k2 k3 k4 n1 n2 m1 m2 m3 m4 hb
 unfold frZ
 generalize all2 (assignZ (treeZ ks)) la lb = b1 at *
 generalize all2 (assignZ (treeZ ks)) sa sb = b2 at *
 cases fa
 ·cases fb
  ·go_enter Tryz.func6, Tryz.ntmps6
   go_wp2_with (fail)
   rw [HW0.out]
   refine C1.out.mono ?_
   rintro e w1 ⟨rfl, hww⟩
   subst hww
   go_wp2_with (fail)
   refine (CE.out _ (Only.refl _ _)).mono ?_
   rintro e w1 ⟨rfl, ho1⟩
   have HO1 := hid ho1
   obtain ⟨d0, d1, d2⟩ := cells3 (ho1.heap HA.out (fun h => h))
   obtain ⟨g0, g1, g2⟩ := cells3 (ho1.heap HC.out (fun h => h))
   clear ho1 q0 q1 q2 r0 r1 r2
   cases b1
   ·have HOZ := hid (HO.out.trans HO1.out (fun _ h _ => h))
    go_wp2
    go_ret
    exact ⟨rfl, HOZ.out⟩
   ·go_wp2_with (fail)
    refine (CS.out _ HO1.out).mono ?_
    rintro e w2 ⟨rfl, ho2⟩
    have HOZ := hid (HO.out.trans (HO1.out.trans ho2 (fun _ h _ => h)) (fun _ h _ => h))
    clear ho2
    go_wp2
    go_ret
    exact ⟨rfl, HOZ.out⟩
  ·go_enter Tryz.func6, Tryz.ntmps6
   go_wp2_with (fail)
   rw [HW0.out]
   refine C1.out.mono ?_
   rintro e w1 ⟨rfl, hww⟩
   subst hww
   go_wp2_with (fail)
   refine (CE.out _ (Only.refl _ _)).mono ?_
   rintro e w1 ⟨rfl, ho1⟩
   have HO1 := hid ho1
   obtain ⟨d0, d1, d2⟩ := cells3 (ho1.heap HA.out (fun h => h))
   obtain ⟨g0, g1, g2⟩ := cells3 (ho1.heap HC.out (fun h => h))
   clear ho1 q0 q1 q2 r0 r1 r2
   cases b1
   ·have HOZ := hid (HO.out.trans HO1.out (fun _ h _ => h))
    go_wp2
    go_ret
    exact ⟨rfl, HOZ.out⟩
   ·go_wp2_with (fail)
    refine (CS.out _ HO1.out).mono ?_
    rintro e w2 ⟨rfl, ho2⟩
    have HOZ := hid (HO.out.trans (HO1.out.trans ho2 (fun _ h _ => h)) (fun _ h _ => h))
    clear ho2
    go_wp2
    go_ret
    exact ⟨rfl, HOZ.out⟩
 ·cases fb
  ·go_enter Tryz.func6, Tryz.ntmps6
   go_wp2_with (fail)
   rw [HW0.out]
   refine C1.out.mono ?_
   rintro e w1 ⟨rfl, hww⟩
   subst hww
   go_wp2
   go_ret
   exact ⟨rfl, HO.out⟩
  ·go_enter Tryz.func6, Tryz.ntmps6
   go_wp2_with (fail)
   rw [HW0.out]
   refine C1.out.mono ?_
   rintro e w1 ⟨rfl, hww⟩
   subst hww
   go_wp2_with (fail)
   refine (CE.out _ (Only.refl _ _)).mono ?_
   rintro e w1 ⟨rfl, ho1⟩
   have HO1 := hid ho1
   obtain ⟨d0, d1, d2⟩ := cells3 (ho1.heap HA.out (fun h => h))
   obtain ⟨g0, g1, g2⟩ := cells3 (ho1.heap HC.out (fun h => h))
   clear ho1 q0 q1 q2 r0 r1 r2
   cases b1
   ·have HOZ := hid (HO.out.trans HO1.out (fun _ h _ => h))
    go_wp2
    go_ret
    exact ⟨rfl, HOZ.out⟩
   ·go_wp2_with (fail)
    refine (CS.out _ HO1.out).mono ?_
    rintro e w2 ⟨rfl, ho2⟩
    have HOZ := hid (HO.out.trans (HO1.out.trans ho2 (fun _ h _ => h)) (fun _ h _ => h))
    clear ho2
    go_wp2
    go_ret
    exact ⟨rfl, HOZ.out⟩
end
end Go.Proofs.YtinbelghhfodiaaGreatDoor
