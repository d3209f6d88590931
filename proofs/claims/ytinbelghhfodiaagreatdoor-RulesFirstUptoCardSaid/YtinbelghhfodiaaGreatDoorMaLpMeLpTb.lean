import Derived.Test.YtinbelghhfodiaaGreatDoorMaTkH
import Derived.Deep.RegionHeld3
import Derived.Test.YtinbelghhfodiaaGreatDoorMaLpQLpY
import Derived.Test.YtinbelghhfodiaaGreatDoorMaLnkHLnkN
import Derived.Test.YtinbelghhfodiaaGreatDoorMaLpJKndSh
import Derived.Test.YtinbelghhfodiaaGreatDoorMaKndPRulA
import Derived.Laws.World
namespace Go.Proofs.YtinbelghhfodiaaGreatDoor
set_option maxHeartbeats 16000000
open Lib (hid)
open Go.RowKit Go.Maps
set_option linter.unusedVariables false
set_option linter.unusedSimpArgs false
structure AsksM (w : World) (T : TypeId) (v : Value) (i : Nat) (m : MethodV) (n : FuncId) : Prop where
 look : ∀ W, (method 417 T v "understudy/link.method").run Tryz.prog W = .ok (n, v) W
 enters : ∀ args W, (callFunc n args).run Tryz.prog W = .ok (.enter n args) W
 calls : ∀ W, Only (fun _ => False) w W → Calls Tryz.prog n #[v, .int .i64 (i : Int)] W fun e w' => ∃ a b d, e = .returned (valMth m a b d) ∧ InsideG (fun k => k < W.heap.size) w' m a b d ∧ Only (fun _ => False) W w'
def bareM (f : Int) : MethodV := ⟨f, 0, 0, 0, 0, [], [], []⟩
def methP (i : Nat) (k : KindV) (c : ClassV) (j : Nat) : MethodV := if i < 13 then bareM (k.meths.getD j default).flags else c.methods.getD j default
theorem bytes_nil0 (w : World) : Bytes w (.slice none 0 0) [] := ⟨none, 0, rfl, Nat.le_refl _, Nat.zero_le _, fun _ => rfl, (fun _ h => by cases h), fun x hx => by cases hx⟩
theorem inside_bare (G : Nat → Prop) (w : World) (f : Int) : InsideG G w (bareM f) (.slice none 0 0) (.slice none 0 0) (.slice none 0 0) := ⟨⟨bytes_nil0 w, fun _ h => by cases h⟩, ⟨Sl.nil _, fun _ h => by cases h⟩, ⟨bytes_nil0 w, fun _ h => by cases h⟩⟩
theorem KnownG.askM {G : Nat → Prop} {w : World} {n : Nat} {iv : Value} {k : KindV} {c : ClassV} {vof : Value} (h : KnownG G w n iv k c vof) (hfew : 13 ≤ n → FewC c) {i : Nat} (hi : i < k.meths.length) : ∃ T v nn, iv = .iface T v ∧ AsksM w T v i (methP n k c i) nn := by
 rcases h with ⟨h1, h2, h3, vom, h4, h5⟩ | ⟨h1, h2, lb, vp, vf, vm, vom, h3, h4, h5, h6, h7⟩
 ·refine ⟨_, _, _, h4, fun W => mMethod_b 416 _ W, enters_of Tryz.func223 (by kernel_rfl) rfl, fun W hW => (bMethod _ _ vom k.meths _ i hi W (h5.mem.only hW)).mono ?_⟩
  rintro e w' ⟨rfl, ho⟩
  refine ⟨.slice none 0 0, .slice none 0 0, .slice none 0 0, ?_, ?_, ho⟩
  ·rw [methP, if_pos h1]; rfl
  ·rw [methP, if_pos h1]; exact inside_bare _ _ _
 ·refine ⟨_, _, _, h3, fun W => mMethod_l 416 _ W, enters_of Tryz.func228 (by kernel_rfl) rfl, fun W hW => ?_⟩
  have hi' : i < c.methods.length := by
   rw [h2] at hi
   have : (loadZ c (n - 13)).meths.length = c.methods.length := List.length_map _
   omega
  rw [methP, if_neg (by omega)]
  exact lMethod (hW.heap h5 (fun h => h)) (h6.only hW (fun _ h => h.elim)) (hfew h1) i hi'
section
variable {G : Nat → Prop} {fv : Nat → Value} {w : World} {pb : Nat} {ks : List KindV} {cl : Nat → ClassV} {sl : Nat → Nat → Int} (h : ProgG G fv w pb ks cl sl)
include h
set_option maxRecDepth 100000 in
theorem pMethod (j i : Nat) (hj : j < ks.length) (hi : i < (ks.getD j default).meths.length) (hm64 : (ks.getD j default).meths.length ≤ 64) (hfew : 13 ≤ j → FewC (cl j)) :
  Calls Tryz.prog 43 #[.pointer (some ⟨pb, 0, none⟩), .int .i64 (j : Int), .int .i64 (i : Int)] w fun e w' => ∃ a b d, e = .returned (.tuple #[valMth (methP j (ks.getD j default) (cl j) i) a b d, .string ((ks.getD j default).meths.getD i default).name, .string ((ks.getD j default).meths.getD i default).desc, .bool true]) ∧ Inside w' (methP j (ks.getD j default) (cl j) i) a b d ∧ Only (fun _ => False) w w' := by
 have ho0 := (Only.refl (fun _ => False) w).alloc zeroMth
 have hr0 := heap_alloc_new w zeroMth
 obtain ⟨W0, hW0⟩ : ∃ W0, w.alloc zeroMth = W0 := ⟨_, rfl⟩
 rw [hW0] at ho0 hr0
 have hp := h.only ho0
 have c1 := pHas hp (by omega) (j : Int)
 rw [show (decide (0 ≤ (j : Int)) && decide ((j : Int) < (ks.length : Int))) = true by simp; omega] at c1
 have C1 := hid c1
 obtain ⟨b, o, cap, mb, q0, -, e1, e2, -, hk⟩ := h.open (by omega)
 obtain ⟨iv, qi, hkn⟩ := hk j hj
 obtain ⟨T2, v2, vom, heq, -, -, -, ⟨nn, hq, hen, hcalls⟩, hms⟩ := hkn.told
 obtain ⟨T, v, nm2, rfl, hq2, hen2, hcalls2⟩ := hkn.askM hfew hi
 injection heq with heq1 heq2
 subst heq1
 subst heq2
 obtain ⟨ao, cp, rfl, s1, s2, -, -⟩ := id hms
 obtain ⟨b9, o9, rfl, hat⟩ := Sl.at hms hi
 obtain ⟨r0', r1', -, -⟩ := hat
 have HNE := hid (show (¬ pb = w.heap.size) ∧ (¬ b = w.heap.size) ∧ ¬ b9 = w.heap.size from ⟨by have := World.block_lt_of_cell? _ _ q0; simp only at this; omega, by have := World.block_lt_of_cell? _ _ qi; simp only at this; omega, by have := World.block_lt_of_cell? _ _ r0'; simp only at this; omega⟩)
 have q0a := ho0.cell q0 (fun h => h)
 have qia := ho0.cell qi (fun h => h)
 obtain ⟨nm, hnm⟩ : ∃ nm, ((ks.getD j default).meths.getD i default).name = nm := ⟨_, rfl⟩
 obtain ⟨ds, hds⟩ : ∃ ds, ((ks.getD j default).meths.getD i default).desc = ds := ⟨_, rfl⟩
 rw [hnm] at r0'
 rw [hds] at r1'
 rw [hnm, hds]
 obtain ⟨m, hm⟩ : ∃ m, methP j (ks.getD j default) (cl j) i = m := ⟨_, rfl⟩
 rw [hm] at hcalls2 ⊢
 obtain ⟨nl, hnl⟩ : ∃ nl, (ks.getD j default).meths.length = nl := ⟨_, rfl⟩
 rw [hnl] at s1 hcalls hi hm64
 have CV := hid (fun W (hW : Only (fun _ => False) W0 W) => hcalls W (ho0.trans hW (fun _ h _ => h)))
 have CM := hid (fun W (hW : Only (fun _ => False) W0 W) => hcalls2 W (ho0.trans hW (fun _ h _ => h)))
 have hjz : (j : Int) < (ks.length : Int) := by omega
 have hj0 : (0 : Int) ≤ (j : Int) := by omega
 have hiz : (i : Int) < (nl : Int) := by omega
 have hi0 : (0 : Int) ≤ (i : Int) := by omega
 have HO0 := hid ho0
 have HR0 := hid hr0
 have HW0 := hid hW0
 have HR1 := hid (ho0.cell r0' (fun h => h))
 have HR2 := hid (ho0.cell r1' (fun h => h))
 clear h hp ho0 hr0 hW0 hk hkn hcalls hcalls2 hms c1 q0 qi r0' r1' hnm hds hm hnl hfew hm64
 go_enter Tryz.func43, Tryz.ntmps43
 go_wp2_with (fail)
 rw [HW0.out]
 refine C1.out.mono ?_
 rintro e w1 ⟨rfl, hww⟩
 subst hww
 go_wp2_with (fail)
 refine (CV.out _ (Only.refl _ _)).mono ?_
 rintro e w3 ⟨rfl, ho3⟩
 have HO3 := hid ho3
 have p0 := ho3.cell q0a (fun h => h)
 have pi := ho3.cell qia (fun h => h)
 have r0 := ho3.cell HR1.out (fun h => h)
 have r1 := ho3.cell HR2.out (fun h => h)
 have HR3 := hid (ho3.heap HR0.out (fun h => h))
 clear ho3 q0a qia
 go_wp2
 refine wp_region_held_drew (S := fun wc => wc.cell? ⟨pb, 0, none⟩ = some (.slice (some ⟨b, o, none⟩) ks.length cap) ∧ wc.cell? ⟨b, o + j, none⟩ = some (.iface T v) ∧ wc.cell? ⟨b9, o9 + i * 4, none⟩ = some (.string nm) ∧ wc.cell? ⟨b9, o9 + i * 4 + 1, none⟩ = some (.string ds)) (by kernel_rfl) ⟨p0, pi, r0, r1⟩ (fun hHeld => ?_)
 refine tk2 0 (h := ?_)
 refine tk2 1 (h := ?_)
 refine tk2 2 (h := ?_)
 refine tk2 3 (h := ?_)
 refine tk2 4 (h := ?_)
 refine tk2 5 (h := ?_)
 refine tk2 6 (h := ?_)
 refine tk2 7 (h := ?_)
 refine tk2 9 (h := ?_)
 refine tk2 10 (h := ?_)
 refine tk2 11 (h := ?_)
 refine tk2 12 (h := ?_)
 refine tk2 13 (h := ?_)
 refine tk2 14 (h := ?_)
 refine tk2 15 (h := ?_)
 refine tk2 16 (h := ?_)
 refine tk2 17 (h := ?_)
 refine tk2 18 (h := ?_)
 refine tkR 8 (h := fun K hK => ?_)
 go_simp
 (refine (CM.out _ HO3.out.drew).mono ?_; rintro e4 w4 ⟨ma, mb9, md, rfl, hin, ho4⟩; obtain ⟨aA, kA, rfl, -⟩ := id hin.1.1; obtain ⟨aB, kB, rfl, -⟩ := id hin.2.1.1; obtain ⟨aD, kD, rfl, -⟩ := id hin.2.2.1; have hc4 := (Only.refl (fun _ => False) w3).drew.trans ho4 (fun _ h _ => h); have HC4 := hid hc4; have HIN := hid hin; have hr4 := hc4.heap HR3.out (fun h => h); have HR4 := hid hr4; obtain ⟨u0, u1, u2, u3, u4, u5, u6, u7⟩ := cells8M hr4; obtain ⟨x0, x1, x2, x3, x4, x5, x6, x7⟩ := marks8M hr4; clear hin ho4 hc4 hr4)
 go_wp2_with fail
 refine hK.out _ _ ?_ (fun hHeld2 => ?_)
 ·exact ⟨HC4.out.cell p0 (fun h => h), HC4.out.cell pi (fun h => h), HC4.out.cell r0 (fun h => h), HC4.out.cell r1 (fun h => h)⟩
 clear hK K
 try simp only [Act.put, sIB, sC0, sCS]
 clear hHeld
 have hHeld := hHeld2
 clear hHeld2
 refine tkR 19 (h := fun K hK => ?_)
 go_simp
 refine hK.out _ _ ?_ (fun hHeld2 => ?_)
 ·exact ⟨((HC4.out.mono (T := fun k => k = w.heap.size) (fun _ h _ => h.elim)).trans (only8M (S := fun k => k = w.heap.size) (Only.refl _ w4) (fun _ => rfl)) (fun _ h _ => h)).cell p0 HNE.out.1, ((HC4.out.mono (T := fun k => k = w.heap.size) (fun _ h _ => h.elim)).trans (only8M (S := fun k => k = w.heap.size) (Only.refl _ w4) (fun _ => rfl)) (fun _ h _ => h)).cell pi HNE.out.2.1, ((HC4.out.mono (T := fun k => k = w.heap.size) (fun _ h _ => h.elim)).trans (only8M (S := fun k => k = w.heap.size) (Only.refl _ w4) (fun _ => rfl)) (fun _ h _ => h)).cell r0 HNE.out.2.2, ((HC4.out.mono (T := fun k => k = w.heap.size) (fun _ h _ => h.elim)).trans (only8M (S := fun k => k = w.heap.size) (Only.refl _ w4) (fun _ => rfl)) (fun _ h _ => h)).cell r1 HNE.out.2.2⟩
 clear hK K
 try simp only [Act.put, sIB, sC0, sCS]
 clear hHeld
 have hHeld := hHeld2
 clear hHeld2
 refine tk2 20 (h := ?_)
 refine tk2 21 (h := ?_)
 refine tk2 22 (h := ?_)
 refine wpAnyH_done (by kernel_rfl) ?_ _
 clear hHeld p0 pi r0 r1
 go_wp2
 exact bodyPost_ret (method_result4 (b := w.heap.size) Tryz.results43 (store8M HR4.out) rfl rfl rfl rfl) rfl ⟨_, _, _, rfl, (InsideG.only (G := fun k => k < w3.drew.heap.size) (S := fun k => k = w.heap.size) (only8M (Only.refl _ w4) (fun _ => rfl)) (fun k hk => by have h1 := heap_lt HR3.out; have h2 : k = w.heap.size := hk; show k < w3.heap.size; omega) HIN.out).plain, only8M (((HO0.out.trans HO3.out (fun _ h _ => h)).trans HC4.out (fun _ h _ => h))) (fun hl => absurd hl (Nat.lt_irrefl _))⟩
end
section
variable {G : Nat → Prop} {fv : Nat → Value} {w : World} {pb : Nat} {ks : List KindV} {cl : Nat → ClassV} {sl : Nat → Nat → Int} (h : ProgG G fv w pb ks cl sl) (hp : 0 < ks.length)
include h hp
set_option maxRecDepth 100000 in
theorem pMethodNo (n i : Int) (hno : n < 0 ∨ (ks.length : Int) ≤ n) : Calls Tryz.prog 43 #[.pointer (some ⟨pb, 0, none⟩), .int .i64 n, .int .i64 i] w fun e w' => e = .returned (.tuple #[flagM 0, .string ⟨#[]⟩, .string ⟨#[]⟩, .bool false]) ∧ Only (fun _ => False) w w' := by
 have ho0 := (Only.refl (fun _ => False) w).alloc zeroMth
 have hr0 := heap_alloc_new w zeroMth
 obtain ⟨W0, hW0⟩ : ∃ W0, w.alloc zeroMth = W0 := ⟨_, rfl⟩
 rw [hW0] at ho0 hr0
 have c1 := pHas (h.only ho0) hp n
 rw [show (decide (0 ≤ n) && decide (n < (ks.length : Int))) = false by simp; omega] at c1
 have C1 := hid c1
 obtain ⟨u0, u1, u2, u3, u4, u5, u6, u7⟩ := cells8M hr0
 obtain ⟨v0, v1, v2, v3, v4, v5, v6, v7⟩ := marks8M hr0
 have HO := hid ho0
 have HR := hid hr0
 have HW0 := hid hW0
 clear h hp ho0 hr0 hW0 c1 hno
 go_enter Tryz.func43, Tryz.ntmps43
 go_wp2_with (fail)
 rw [HW0.out]
 refine C1.out.mono ?_
 rintro e w1 ⟨rfl, hww⟩
 subst hww
 go_wp2
 exact bodyPost_ret (method_result4 (b := w.heap.size) Tryz.results43 (store8M HR.out) rfl rfl rfl rfl) rfl ⟨rfl, only8M HO.out (fun hl => absurd hl (Nat.lt_irrefl _))⟩
set_option maxRecDepth 100000 in
theorem pMethodNoI (j : Nat) (i : Int) (hj : j < ks.length) (hno : i < 0 ∨ ((ks.getD j default).meths.length : Int) ≤ i) : Calls Tryz.prog 43 #[.pointer (some ⟨pb, 0, none⟩), .int .i64 (j : Int), .int .i64 i] w fun e w' => e = .returned (.tuple #[flagM 0, .string ⟨#[]⟩, .string ⟨#[]⟩, .bool false]) ∧ Only (fun _ => False) w w' := by
 have ho0 := (Only.refl (fun _ => False) w).alloc zeroMth
 have hr0 := heap_alloc_new w zeroMth
 obtain ⟨W0, hW0⟩ : ∃ W0, w.alloc zeroMth = W0 := ⟨_, rfl⟩
 rw [hW0] at ho0 hr0
 have hpw := h.only ho0
 have c1 := pHas hpw hp (j : Int)
 rw [show (decide (0 ≤ (j : Int)) && decide ((j : Int) < (ks.length : Int))) = true by simp; omega] at c1
 have C1 := hid c1
 obtain ⟨b, o, cap, mb, q0, -, e1, e2, -, hk⟩ := hpw.open hp
 obtain ⟨iv, qi, hkn⟩ := hk j hj
 obtain ⟨T, v, vom, rfl, -, -, -, ⟨nn, hq, hen, hcalls⟩, hms⟩ := hkn.told
 obtain ⟨ao, cp, rfl, s1, s2, -, -⟩ := id hms
 obtain ⟨nl, hnl⟩ : ∃ nl, (ks.getD j default).meths.length = nl := ⟨_, rfl⟩
 rw [hnl] at s1 hcalls hno
 have CV := hid (hcalls W0 (Only.refl _ _))
 have hjz : (j : Int) < (ks.length : Int) := by omega
 have hj0 : (0 : Int) ≤ (j : Int) := by omega
 have HO := hid ho0
 have HR := hid hr0
 have HW0 := hid hW0
 clear h hp ho0 hr0 hW0 c1 hk hkn hcalls hms hnl hpw
 have hcs : i < 0 ∨ (0 ≤ i ∧ (nl : Int) ≤ i) := by omega
 clear hno
 rcases hcs with hneg | ⟨hneg, hge⟩
 all_goals (
  go_enter Tryz.func43, Tryz.ntmps43
  go_wp2_with (fail)
  rw [HW0.out]
  refine C1.out.mono ?_
  rintro e w1 ⟨rfl, hww⟩
  subst hww
  go_wp2_with (fail)
  refine CV.out.mono ?_
  rintro e w2 ⟨rfl, ho2⟩
  have HO2 := hid (HO.out.trans ho2 (fun _ h _ => h))
  have hr2 := ho2.heap HR.out (fun h => h)
  obtain ⟨u0, u1, u2, u3, u4, u5, u6, u7⟩ := cells8M hr2
  obtain ⟨v0, v1, v2, v3, v4, v5, v6, v7⟩ := marks8M hr2
  have HR2 := hid hr2
  clear ho2 hr2
  go_wp2
  exact bodyPost_ret (method_result4 (b := w.heap.size) Tryz.results43 (store8M HR2.out) rfl rfl rfl rfl) rfl ⟨rfl, only8M HO2.out (fun hl => absurd hl (Nat.lt_irrefl _))⟩)
end
def typesP (st : Bool) (l : List MethN) : List TypeV := (l.filter (fun m => (m.flags == 8) == st)).map typeZ
theorem typesP_take {st : Bool} {l : List MethN} {j : Nat} (h : j < l.length) : typesP st (l.take (j + 1)) = typesP st (l.take j) ++ if ((l.getD j default).flags == 8) == st then [typeZ (l.getD j default)] else [] := by
 rw [List.take_succ_eq_append_getElem h, typesP, List.filter_append, List.map_append]
 rw [show l.getD j default = l[j] by simp [List.getD, h]]
 by_cases hf : ((l[j].flags == 8) == st) = true
 ·rw [if_pos hf]; simp only [List.filter_cons, List.filter_nil]; rw [if_pos hf]; rfl
 ·rw [if_neg hf]; simp only [List.filter_cons, List.filter_nil]; rw [if_neg hf]; rfl
theorem typesP_le (st : Bool) (l : List MethN) : (typesP st l).length ≤ l.length := by rw [typesP, List.length_map]; exact List.length_filter_le _ _
theorem typesP_flag {st : Bool} {l : List MethN} (h : FlagsL l) : typesP st l = typesZ (if st then 8 else 0) l := by
 unfold typesP typesZ
 congr 1
 apply List.filter_congr
 intro m hm
 rcases h m hm with e | e <;> rw [e] <;> cases st <;> rfl
set_option maxRecDepth 100000 in
theorem pTypesOf (v : Value) (l : List MethN) (s : Nat → Int) (st : Bool) (w : World) (hl : MemS w v l s) (hn : l.length ≤ 1048576) (hd : Descs l) :
  Calls Tryz.prog 113 #[v, .bool st] w (TypesTo w (typesP st l)) := by
 obtain ⟨i0, hi, hz0, hz1, hz2⟩ := info_parts info_type
 obtain ⟨ao, cap, rfl, p1, p2, p3, -⟩ := id hl
 have HL := hid hl
 have HD := hid hd
 clear hl hd p3
 go_enter Tryz.func113, Tryz.ntmps113
 go_wp2
 go_loopw [12, 5] (fun iv lv wr => ∃ j : Nat, iv = .int .i64 j ∧ j ≤ l.length ∧ Hid (TRow wr w.heap.size lv (typesP st (l.take j))) ∧ Hid (Only (fun _ => False) w wr)) (fun iv _ _ => l.length - (intOf iv).toNat)
 case atStart => exact ⟨0, rfl, Nat.zero_le _, hid (TRow.nil _ _), hid (Only.refl _ _)⟩
 case round =>
  obtain ⟨j, rfl, hj, HROW, HON⟩ := hrel
  obtain ⟨al, cl, rfl, l1, l2, -, -⟩ := id HROW.out.types
  by_cases hlt : j < l.length
  ·have hjz : (j : Int) < (l.length : Int) := by omega
   have hj0 : (0 : Int) ≤ (j : Int) := by omega
   obtain ⟨b, o, rfl, y⟩ := Sl.at (MemS.only HL.out HON.out) hlt
   obtain ⟨y0, y1, y2, y3⟩ := y
   have hstep := typesP_take (st := st) hlt
   have hds := HD.out _ (getD_memM hlt)
   have hln := typesP_le st (l.take j)
   rw [List.length_take] at hln
   obtain ⟨u, hu⟩ : ∃ u, typeZ (l.getD j default) = u := ⟨_, rfl⟩
   rw [hu] at hstep
   have hu0 : typO (oneZ8 (nums (l.getD j default).desc)) = u := by rw [← hu]; rfl
   generalize typesP st (l.take j) = ts at *
   generalize l.getD j default = p at *
   generalize s j = sx at *
   have ho1 := (Only.refl (fun _ => False) wr).alloc (.cells #[.string p.name, .string p.desc, .int .i64 p.flags, .int .i64 sx] 146)
   have hb1 := heap_alloc_new wr (.cells #[.string p.name, .string p.desc, .int .i64 p.flags, .int .i64 sx] 146)
   have CS := hid (pStatic p sx (wr.alloc (.cells #[.string p.name, .string p.desc, .int .i64 p.flags, .int .i64 sx] 146)))
   have HB1 := hid hb1
   have HO1 := hid ho1
   have HST0 := hid hstep
   clear ho1 hb1 hstep hu
   by_cases hf : ((p.flags == 8) == st) = true
   ·have HST := hid (by have h := HST0.out; rw [if_pos hf] at h; exact h)
    have cf := fun w' => progField p.desc w' (by omega)
    unfold OneTo at cf
    rw [hu0] at cf
    obtain ⟨er, her⟩ : ∃ er, errO (oneZ8 (nums p.desc)) = er := ⟨_, rfl⟩
    rw [her] at cf
    unfold valT at cf
    have CF := hid cf
    have hfe : (p.flags == 8) = st := by simpa using hf
    rw [hfe] at CS
    clear cf hu0 her hf hfe hds HST0
    go_wp2_with (fail)
    refine CS.out.mono ?_
    rintro e w2 ⟨rfl, ho2⟩
    have hb2 := ho2.heap HB1.out (fun h => h)
    obtain ⟨r0, r1, r2, r3⟩ := cells4L hb2
    have HO2 := hid (HO1.out.trans ho2 (fun _ h _ => h))
    clear ho2 hb2 CS
    have hss : (st == st) = true := by simp
    go_wp2_with (fail)
    refine (CF.out _).mono ?_
    rintro e w3 ⟨rfl, ho3⟩
    have hal := (Only.refl (fun _ => False) w3).alloc (.cells #[.int .i64 u.k, .string u.name, .int .i64 u.dims, .int .i64 u.elem, .int .i64 u.at_] 33)
    have hal2 := hal.alloc (.cells #[.int .i64 u.k, .string u.name, .int .i64 u.dims, .int .i64 u.elem, .int .i64 u.at_] 33)
    have h23 := (HO2.out.trans ho3 (fun _ h _ => h)).trans hal2 (fun _ h _ => h)
    have HON4 := hid (HON.out.trans h23 (fun _ h _ => h))
    have HROW5 := hid (HROW.out.only h23 (fun _ _ h => h))
    have HSRC := hid (Src.type (w := w3.alloc (.cells #[.int .i64 u.k, .string u.name, .int .i64 u.dims, .int .i64 u.elem, .int .i64 u.at_] 33)) (m := w3.heap.size + 1) u (by simp))
    have HBASE := hid (HON4.out.size)
    clear ho3 hal hal2 h23 CF r0 r1 r2 r3
    go_wp2_with (at_builtin; go_loud (refine wpList_append_src rfl (.tmp 26) (.tmp 28) 23 rfl 33 i0 (.agg #[.int .i64 0, .string ⟨#[]⟩, .int .i64 0, .int .i64 0, .int .i64 0]) 5 48 Tryz.underlying23 hi hz0 hz1 hz2 rfl (by decide) w.heap.size (.slice al ts.length cl) ts.length (ts.flatMap cellsTy) rfl (by exact HROW5.out) (by exact HBASE.out) (.slice (some ⟨w3.heap.size + 1, 0, none⟩) 1 1) 1 (cellsTy u) rfl (by exact HSRC.out) (by unfold maxLen; omega) (by omega) ?_); intro v' w5 hown hgrow hnew; have hos := only_grownT hgrow; have hrow6 := TRow.more hown; have hon6 := HON4.out.trans hos (fun j hj hl => by have := (HROW5.out.ge _ hj).1; omega); clear hown hgrow hnew hos; have HROW6 := hid hrow6; have HON6 := hid hon6; clear hrow6 hon6)
    go_roundw
    case rel => exact ⟨j + 1, rfl, by omega, hid (by rw [HST.out]; exact HROW6.out), HON6⟩
    case measure => show _ - _ < _ - _; simp only [intOf]; omega
   ·have HST := hid (by have h := HST0.out; rw [if_neg hf, List.append_nil] at h; exact h)
    obtain ⟨fb, hfb⟩ : ∃ fb, (p.flags == 8) = fb := ⟨_, rfl⟩
    rw [hfb] at CS hf
    have hss : (fb == st) = false := by simpa using hf
    clear hu0 hf hfb hds HST0
    go_wp2_with (fail)
    refine CS.out.mono ?_
    rintro e w2 ⟨rfl, ho2⟩
    have HO2 := hid (HO1.out.trans ho2 (fun _ h _ => h))
    have HROW5 := hid (HROW.out.only HO2.out (fun _ _ h => h))
    have HON4 := hid (HON.out.trans HO2.out (fun _ h _ => h))
    clear ho2 CS
    go_wp2
    go_roundw
    case rel => exact ⟨j + 1, rfl, by omega, hid (by rw [HST.out]; exact HROW5.out), HON4⟩
    case measure => show _ - _ < _ - _; simp only [intOf]; omega
  ·have hje : j = l.length := by omega
   subst hje
   go_wp2
   go_ret
   refine ⟨_, rfl, ?_, HON.out⟩
   rw [show typesP st l = typesP st (l.take l.length) by rw [List.take_length]]
   exact HROW.out
theorem GoodK.descs {ks : List KindV} (hg : GoodK ks) : DescsAll ks := fun k hk m hm => by have := ((hg.fine k hk).fnm m hm).2; omega
set_option maxRecDepth 100000 in
theorem pSlotsAny {G : Nat → Prop} {fv : Nat → Value} {pb : Nat} {ks : List KindV} {cl : Nat → ClassV} {sl : Nat → Nat → Int} (hg : GoodK ks) : ∀ (m : Nat) (x : Int), (seqX ks x).length = m → ∀ w : World, ProgG G fv w pb ks cl sl →
  Calls Tryz.prog 70 #[.pointer (some ⟨pb, 0, none⟩), .int .i64 x] w (TypesTo w (slotsAny ks x)) := by
 obtain ⟨i0, hi, hz0, hz1, hz2⟩ := info_parts info_type
 have hp0 := hg.pos
 intro m
 induction m with
 | zero =>
  intro x hm w h
  have hx : ¬ (0 ≤ x ∧ x < (ks.length : Int)) := fun hx => by
   obtain ⟨j, rfl⟩ := Int.eq_ofNat_of_zero_le hx.1
   rw [seqX_step hg.ends (by omega)] at hm
   cases hm
  have hs : slotsAny ks x = [] := by
   unfold slotsAny
   split
   ·rfl
   ·exact slotsZ_end (by omega)
  have c1 := pHas h (by omega) x
  rw [show (decide (0 ≤ x) && decide (x < (ks.length : Int))) = false by simp; omega] at c1
  have C1 := hid c1
  rw [hs]
  clear h hm hx hs c1
  go_enter Tryz.func70, Tryz.ntmps70
  go_wp2_with (fail)
  refine C1.out.mono ?_
  rintro e w1 ⟨rfl, hww⟩
  subst hww
  go_wp2
  go_ret
  exact ⟨_, rfl, TRow.nil _ _, Only.refl _ _⟩
 | succ m ih =>
  intro x hm w h
  have hx : 0 ≤ x ∧ x < (ks.length : Int) := Classical.byContradiction (fun hx => by
   have : seqX ks x = [] := by
    by_cases h0 : x < 0
    ·exact seqX_neg h0
    ·exact seqX_out (by omega)
   rw [this] at hm
   cases hm)
  obtain ⟨j, rfl⟩ := Int.eq_ofNat_of_zero_le hx.1
  have hj : j < ks.length := by omega
  rw [seqX_step hg.ends hj, List.length_cons] at hm
  have hk0 := getD_mem hj
  have hst : slotsAny ks (j : Int) = slotsAny ks (superZ ks j) ++ typesP false (ks.getD j default).fields := by
   have h1 := superZ_lt ks j
   unfold slotsAny
   rw [if_neg (by omega), if_neg (by omega), slotsZ_step hg.ends hj, typesP_flag (hg.fine _ hk0).ff]
   rfl
  have hle : (slotsAny ks (superZ ks j)).length ≤ 4160 := by
   have h1 := superZ_lt ks j
   unfold slotsAny
   rw [if_neg (by omega), slotsZ_len]
   exact slotsN_small hg.small hg.ends h1
  have hfl := (hg.fine _ hk0).fields
  have hul := typesP_le false (ks.getD j default).fields
  have c1 := pHas h (by omega) (j : Int)
  rw [show (decide (0 ≤ (j : Int)) && decide ((j : Int) < (ks.length : Int))) = true by simp; omega] at c1
  have C1 := hid c1
  have CS := hid (pSuper h (by omega) hg.root hg.fine (j : Int))
  have IH := hid (fun W (hW : Only (fun _ => False) w W) => ih (superZ ks j) (by omega) W (h.only hW))
  have CT := hid (fun W (hW : Only (fun _ => False) w W) => pTypesOf (fv j) (ks.getD j default).fields (sl j) false W ((h.fields j hj).mem.only hW) (by omega) (hg.descs _ hk0))
  obtain ⟨b, o, cap, mb, q0, -, e1, e2, -, hk⟩ := h.open (by omega)
  obtain ⟨iv, qi, hkn⟩ := hk j hj
  obtain ⟨T, v, vom, rfl, -, -, ⟨nn, hq, hen, hcalls⟩, -, -⟩ := hkn.told
  have CF := hid hcalls
  have hjz : (j : Int) < (ks.length : Int) := by omega
  have hj0 : (0 : Int) ≤ (j : Int) := by omega
  have Q0 := hid q0
  have QI := hid qi
  have HST := hid hst
  generalize superZ ks (j : Int) = sj at *
  generalize typesP false (ks.getD j default).fields = us at *
  obtain ⟨ts, hts⟩ : ∃ ts, slotsAny ks sj = ts := ⟨_, rfl⟩
  rw [hts] at hle HST IH
  generalize fv j = fj at *
  clear h hm hx c1 ih hk hkn hcalls hst q0 qi hts hk0
  go_enter Tryz.func70, Tryz.ntmps70
  go_wp2_with (fail)
  refine C1.out.mono ?_
  rintro e w1 ⟨rfl, hww⟩
  subst hww
  go_wp2_with (fail)
  refine CS.out.mono ?_
  rintro e w2 ⟨rfl, ho2⟩
  have HO2 := hid ho2
  clear ho2
  go_wp2_with (fail)
  refine (IH.out _ HO2.out).mono ?_
  rintro e w3 ⟨r3, rfl, hr3, ho3⟩
  obtain ⟨a3, c3, rfl, t1, t2, -, -⟩ := id hr3.types
  have HO3 := hid (HO2.out.trans ho3 (fun _ h _ => h))
  have HR3 := hid (World.ownsRow.mono hr3 HO2.out.size)
  have q0 := HO3.out.cell Q0.out (fun h => h)
  have qi := HO3.out.cell QI.out (fun h => h)
  clear hr3 ho3
  go_wp2_with (fail)
  refine (CF.out _ HO3.out).mono ?_
  rintro e w4 ⟨rfl, ho4⟩
  have HO4 := hid (HO3.out.trans ho4 (fun _ h _ => h))
  have HO4r := hid ho4
  clear ho4 q0 qi
  go_wp2_with (fail)
  refine (CT.out _ HO4.out).mono ?_
  rintro e w5 ⟨r5, rfl, hr5, ho5⟩
  obtain ⟨a5, c5, rfl, s1, s2, -, -⟩ := id hr5.types
  have h35 := HO4r.out.trans ho5 (fun _ h _ => h)
  have HO5 := hid (HO3.out.trans h35 (fun _ h _ => h))
  have HROW5 := hid (TRow.only HR3.out h35 (fun _ _ h => h))
  have HSRC := hid (Src.of_types hr5.types)
  have HBASE := hid HO5.out.size
  clear hr5 ho5 h35
  go_wp2_with (at_builtin; go_loud (refine wpList_append_src rfl (.tmp 15) (.tmp 24) 23 rfl 33 i0 (.agg #[.int .i64 0, .string ⟨#[]⟩, .int .i64 0, .int .i64 0, .int .i64 0]) 5 48 Tryz.underlying23 hi hz0 hz1 hz2 rfl (by decide) w.heap.size (.slice a3 ts.length c3) ts.length (ts.flatMap cellsTy) rfl (by exact HROW5.out) (by exact HBASE.out) (.slice a5 us.length c5) us.length (us.flatMap cellsTy) rfl (by exact HSRC.out) (by unfold maxLen; omega) (by omega) ?_); intro v' w6 hown hgrow hnew; have hos := only_grownT hgrow; have hrow6 := TRow.join hown; have hon6 := HO5.out.trans hos (fun j hj hl => by have := (TRow.ge HROW5.out _ hj).1; omega); clear hown hgrow hnew hos; have HROW6 := hid hrow6; have HON6 := hid hon6; clear hrow6 hon6)
  go_ret
  rw [HST.out]
  exact ⟨_, rfl, HROW6.out, HON6.out⟩
section
variable {G : Nat → Prop} {fv : Nat → Value} {w : World} {pb : Nat} {ks : List KindV} {cl : Nat → ClassV} {sl sl' : Nat → Nat → Int}
theorem ProgG.congr (h : ProgG G fv w pb ks cl sl) (he : ∀ a p, a < ks.length → p < (ks.getD a default).fields.length → sl a p = sl' a p) : ProgG G fv w pb ks cl sl' :=
 ⟨h.head, fun a ha => (h.fields a ha).imp (fun b o i hb hi hm => ⟨by rw [← he a i ha hi]; exact hm.1, hm.2⟩), h.own, h.apart⟩
theorem ProgG.store (h : ProgG G fv w pb ks cl sl) {n i b o cap : Nat} (hn : n < ks.length) (hi : i < (ks.getD n default).fields.length) (hv : fv n = .slice (some ⟨b, o, none⟩) (ks.getD n default).fields.length cap) (x : Int)
  (he : ∀ a p, a < ks.length → p < (ks.getD a default).fields.length → sl' a p = if a = n ∧ p = i then x else sl a p) :
  ProgG G fv (w.setCell ⟨b, o + i * 4 + 3, none⟩ (.int .i64 x)) pb ks cl sl' := by
 have hob : (fv n).ownBlock = some b := by rw [hv]; rfl
 have hbG := (h.own n b hn hob).2
 have ho : Only (fun k => k = b) w (w.setCell ⟨b, o + i * 4 + 3, none⟩ (.int .i64 x)) := Only.setCell (S := fun k => k = b) (Only.refl _ w) (fun _ => rfl) _
 have hG : ∀ k, k = b → G k := fun k e => by subst e; exact hbG
 obtain ⟨vl, mb, h1, h2, h3, h4, h5⟩ := h.head
 refine ⟨⟨vl, mb, ho.heap h1 (fun e => h4 (hG _ e)), h2.only ho (fun e => h5 (hG _ e)), h3.imp (fun b o i _ _ h => ?_), h4, h5⟩, fun a ha => ?_, fun a k ha hk => ⟨Nat.lt_of_lt_of_le (h.own a k ha hk).1 ho.size, (h.own a k ha hk).2⟩, h.apart⟩
 ·obtain ⟨⟨iv, hc, hk⟩, hg⟩ := h
  exact ⟨⟨iv, ho.cell hc (fun e => hg (hG _ e)), hk.only ho hG⟩, hg⟩
 ·by_cases hna : a = n
  ·subst hna
   obtain ⟨ao, cap', e, e1, e2, e3, e4⟩ := h.fields a ha
   refine ⟨ao, cap', e, e1, e2, e3, fun y hy h0 => ?_⟩
   obtain ⟨b', o', hb', h6⟩ := e4 y hy h0
   rw [hv] at e
   injection e with e _ _
   subst hb' hy
   injection e with e
   injection e with eb eo _
   subst eb eo
   refine ⟨b, o, rfl, fun p hp => ?_⟩
   obtain ⟨⟨c0, c1, c2, c3⟩, hf⟩ := h6 p hp
   have hne : ∀ d, (d < 3 ∨ p ≠ i) → d < 4 → (⟨b, o + i * 4 + 3, none⟩ : Addr) ≠ ⟨b, o + p * 4 + d, none⟩ := fun d hd h4 e => by injection e with _ e; omega
   refine ⟨⟨?_, ?_, ?_, ?_⟩, ?_⟩
   ·rw [World.cell?_setCell_other _ _ _ _ (show (⟨b, o + i * 4 + 3, none⟩ : Addr) ≠ ⟨b, o + p * 4, none⟩ from hne 0 (.inl (by decide)) (by decide))]; exact c0
   ·rw [World.cell?_setCell_other _ _ _ _ (hne 1 (.inl (by decide)) (by decide))]; exact c1
   ·rw [World.cell?_setCell_other _ _ _ _ (hne 2 (.inl (by decide)) (by decide))]; exact c2
   ·rw [he a p ha hp]
    by_cases hpi : p = i
    ·subst hpi
     rw [if_pos ⟨rfl, rfl⟩]
     exact World.cell?_setCell_same _ _ _ c3
    ·rw [if_neg (fun h => hpi h.2), World.cell?_setCell_other _ _ _ _ (hne 3 (.inr hpi) (by decide))]; exact c3
   ·rw [World.frozen?_setCell]; exact hf
  ·refine FldS.only (S := fun k => k = b) ((h.fields a ha).imp (fun b o p hb hp hm => ⟨by rw [he a p ha hp, if_neg (fun h => hna h.1)]; exact hm.1, hm.2⟩)) ho (fun k hk e => ?_)
   subst e
   exact hna (h.apart a n k ha hn hk hob)
end
def slL (ks : List KindV) (n i : Nat) : Nat → Nat → Int := fun a p => if a < n ∨ (a = n ∧ p < i) then (slotAt ks a p : Int) else 0
theorem slL_zero (ks : List KindV) : slL ks 0 0 = fun _ _ => 0 := by
 funext a p
 unfold slL
 rw [if_neg (by omega)]
theorem slL_store {ks : List KindV} {n i : Nat} (a p : Nat) : slL ks n (i + 1) a p = if a = n ∧ p = i then (slotAt ks n i : Int) else slL ks n i a p := by
 unfold slL
 by_cases h : a = n ∧ p = i
 ·obtain ⟨rfl, rfl⟩ := h
  rw [if_pos (.inr ⟨rfl, by omega⟩), if_pos ⟨rfl, rfl⟩]
 ·rw [if_neg h]
  by_cases h2 : a < n ∨ (a = n ∧ p < i)
  ·rw [if_pos h2, if_pos (by omega)]
  ·rw [if_neg h2, if_neg (by omega)]
theorem slL_next {ks : List KindV} {n a p : Nat} (hp : p < (ks.getD a default).fields.length) : slL ks n (ks.getD n default).fields.length a p = slL ks (n + 1) 0 a p := by
 unfold slL
 by_cases h : a < n + 1
 ·rw [if_pos (show a < n + 1 ∨ _ from .inl h), if_pos]
  by_cases ha : a = n
  ·subst ha; exact .inr ⟨rfl, hp⟩
  ·exact .inl (by omega)
 ·rw [if_neg (by omega), if_neg (by omega)]
theorem slL_end {ks : List KindV} {a p : Nat} (ha : a < ks.length) : slL ks ks.length 0 a p = (slotAt ks a p : Int) := by
 unfold slL
 rw [if_pos (.inl ha)]
theorem slotAt_static {ks : List KindV} {n i : Nat} (h : ((ks.getD n default).fields.getD i default).flags = 8) : slotAt ks n i = staticsN ks n + countL 8 ((ks.getD n default).fields.take i) := by
 unfold slotAt; rw [if_pos h]
theorem slotAt_own {ks : List KindV} {n i : Nat} (h : ¬ ((ks.getD n default).fields.getD i default).flags = 8) : slotAt ks n i = slotsN ks (superZ ks n) + countL 0 ((ks.getD n default).fields.take i) := by
 unfold slotAt; rw [if_neg h]
theorem slotsAny_len {ks : List KindV} {x : Int} (h : x < ks.length) : (slotsAny ks x).length = slotsN ks x := by
 unfold slotsAny
 rw [if_neg (by omega), slotsZ_len]
set_option maxRecDepth 100000 in
theorem pLay {G : Nat → Prop} {fv : Nat → Value} {pb : Nat} {ks : List KindV} {cl : Nat → ClassV} {w : World} (h : ProgG G fv w pb ks cl (fun _ _ => 0)) (hg : GoodK ks) :
  Calls Tryz.prog 32 #[.pointer (some ⟨pb, 0, none⟩)] w fun e w' => e = .returned (.tuple #[]) ∧ ProgG G fv w' pb ks cl (fun a p => (slotAt ks a p : Int)) ∧ Only G w w' := by
 have hp0 := hg.pos
 have hkl := hg.small.1
 have HG := hid hg
 have H := hid (show ProgG G fv w pb ks cl (slL ks 0 0) by rw [slL_zero]; exact h)
 obtain ⟨b, o, cap, mb, g0, -, e1, e2, -, -⟩ := h.open (by omega)
 have hkz : ((ks.length : Nat) : Int) ≤ 64 := by omega
 clear h hg
 go_enter Tryz.func32, Tryz.ntmps32
 go_wp2
 clear g0 e1 e2
 go_loopw [2, 3, 4, 5, 6, 12] (fun sv _ _ _ _ iv wr => ∃ n : Nat, iv = .int .i64 n ∧ n ≤ ks.length ∧ sv = .int .i64 ((staticsN ks n : Nat) : Int) ∧ Hid (ProgG G fv wr pb ks cl (slL ks n 0)) ∧ Hid (Only G w wr)) (fun _ _ _ _ _ iv _ => ks.length - (intOf iv).toNat)
 case atStart => exact ⟨0, rfl, Nat.zero_le _, rfl, H, hid (Only.refl _ _)⟩
 case round =>
  obtain ⟨n, rfl, hn, rfl, HP, HON⟩ := hrel
  by_cases hlt : n < ks.length
  ·have hnz : (n : Int) < (ks.length : Int) := by omega
   have hn0 : (0 : Int) ≤ (n : Int) := by omega
   have CS := hid (pSuper HP.out (by omega) HG.out.root HG.out.fine (n : Int))
   have hsl := superZ_lt ks (n : Int)
   have hlen := slotsAny_len hsl
   have hsm := slotsN_small HG.out.small HG.out.ends hsl
   have hst := staticsN_le HG.out.small (n := n) (by omega)
   have HSS := hid (staticsN_step hlt)
   have HSO := hid (fun i => slotAt_own (ks := ks) (n := n) (i := i))
   have HST := hid (fun i => slotAt_static (ks := ks) (n := n) (i := i))
   have CL := hid (fun W (hW : Only (fun _ => False) wr W) => pSlotsAny HG.out _ (superZ ks (n : Int)) rfl W (HP.out.only hW))
   obtain ⟨sj, hsj⟩ : ∃ sj, superZ ks (n : Int) = sj := ⟨_, rfl⟩
   rw [hsj] at CS CL hlen hsm HSO
   obtain ⟨ts, hts⟩ : ∃ ts, slotsAny ks sj = ts := ⟨_, rfl⟩
   rw [hts] at CL hlen
   obtain ⟨sn, hsn⟩ : ∃ sn, slotsN ks sj = sn := ⟨_, rfl⟩
   rw [hsn] at hlen hsm HSO
   obtain ⟨st, hstn⟩ : ∃ st, staticsN ks n = st := ⟨_, rfl⟩
   rw [hstn] at hst HSS HST ⊢
   obtain ⟨b, o, cap, mb, q0, -, e1, e2, -, hk⟩ := HP.out.open (by omega)
   obtain ⟨iv, qi, hkn⟩ := hk n hlt
   obtain ⟨T, v, vom, rfl, -, -, ⟨nn, hq, hen, hcalls⟩, -, -⟩ := hkn.told
   have CF := hid hcalls
   have Q0 := hid q0
   have QI := hid qi
   obtain ⟨af, cf, ef, f1, f2, f3, -⟩ := id (HP.out.fields n hlt)
   have HEF := hid ef
   have hfl := (HG.out.fine _ (getD_mem hlt)).fields
   have HFF := hid (HG.out.fine _ (getD_mem hlt)).ff
   have HLE := hid hlen
   rw [ef] at CF
   obtain ⟨fs, hfs⟩ : ∃ fs, (ks.getD n default).fields = fs := ⟨_, rfl⟩
   rw [hfs] at hfl f1 CF HEF HSS HFF
   have HFS := hid hfs
   have hflz : ((fs.length : Nat) : Int) ≤ 64 := by omega
   have hstz : (st : Int) ≤ 4096 := by omega
   have hsnz : (sn : Int) ≤ 4160 := by omega
   clear hk hkn hcalls q0 qi ef hsj hts hsn hstn hsl hlen f2 f3 hfs
   go_wp2_with (fail)
   refine CS.out.mono ?_
   rintro e w1 ⟨rfl, ho1⟩
   have HO1 := hid ho1
   clear ho1
   go_wp2_with (fail)
   refine (CL.out _ HO1.out).mono ?_
   rintro e w2 ⟨r2, rfl, hr2, ho2⟩
   obtain ⟨a2, c2, rfl, -, -, -, -⟩ := id hr2.types
   have HO2 := hid (HO1.out.trans ho2 (fun _ h _ => h))
   rw [HLE.out]
   have q0 := HO2.out.cell Q0.out (fun h => h)
   have qi := HO2.out.cell QI.out (fun h => h)
   clear hr2 ho2
   go_wp2_with (fail)
   refine (CF.out _ HO2.out).mono ?_
   rintro e w3 ⟨rfl, ho3⟩
   have HO3 := hid (HO2.out.trans ho3 (fun _ h _ => h))
   have HP3 := hid (HP.out.only HO3.out)
   have HN3 := hid (HON.out.trans HO3.out (fun _ h _ => h.elim))
   clear ho3 q0 qi e1 e2
   go_wp2
   go_loopw [2, 4, 6, 31] (fun sv ov _ iv wr2 => ∃ i : Nat, iv = .int .i64 i ∧ i ≤ fs.length ∧ sv = .int .i64 (((st + countL 8 (fs.take i) : Nat)) : Int) ∧ ov = .int .i64 (((sn + countL 0 (fs.take i) : Nat)) : Int) ∧ Hid (ProgG G fv wr2 pb ks cl (slL ks n i)) ∧ Hid (Only G w wr2)) (fun _ _ _ iv _ => fs.length - (intOf iv).toNat)
   case atStart => exact ⟨0, rfl, Nat.zero_le _, rfl, rfl, HP3, HN3⟩
   case round =>
    obtain ⟨i, rfl, hi, rfl, rfl, HPI, HNI⟩ := hrel
    by_cases hil : i < fs.length
    ·have hiz : (i : Int) < (fs.length : Int) := by omega
     have hi0 : (0 : Int) ≤ (i : Int) := by omega
     have hfd := HPI.out.fields n hlt
     rw [HFS.out, HEF.out] at hfd
     obtain ⟨b9, o9, rfl, ⟨y0, y1, y2, y3⟩, yf⟩ := Sl.at hfd hil
     have H8 := hid (countL_take (f := 8) hil)
     have H0 := hid (countL_take (f := 0) hil)
     have h8 := countL_le 8 (fs.take i)
     have h0 := countL_le 0 (fs.take i)
     rw [List.length_take] at h8 h0
     have hsi := HST.out i
     have hoi := HSO.out i
     rw [HFS.out] at hsi hoi
     have hfl2 := HFF.out _ (getD_memM hil)
     obtain ⟨m, hm⟩ : ∃ m, fs.getD i default = m := ⟨_, rfl⟩
     rw [hm] at y0 y1 y2 H8 H0 hsi hoi hfl2
     obtain ⟨s0, hs0⟩ : ∃ s0, slL ks n i n i = s0 := ⟨_, rfl⟩
     rw [hs0] at y3
     obtain ⟨A, hA⟩ : ∃ A, countL 8 (fs.take i) = A := ⟨_, rfl⟩
     obtain ⟨C, hC⟩ : ∃ C, countL 0 (fs.take i) = C := ⟨_, rfl⟩
     rw [hA] at h8 H8 hsi ⊢
     rw [hC] at h0 H0 hoi ⊢
     have hAz : ((st + A : Nat) : Int) ≤ 9000 := by omega
     have hCz : ((sn + C : Nat) : Int) ≤ 9000 := by omega
     have hA0 : (0 : Int) ≤ ((st + A : Nat) : Int) := by omega
     have hC0 : (0 : Int) ≤ ((sn + C : Nat) : Int) := by omega
     have CST := hid (fun W => pStatic m s0 W)
     have HFL := hid hfl2
     have HSI := hid hsi
     have HOI := hid hoi
     have Y3 := hid y3
     have YF := hid yf
     clear hfd hm hs0 hA hC h8 h0 hsi hoi hfl2
     go_wp2_with (fail)
     refine (CST.out _).mono ?_
     rintro e w4 ⟨rfl, ho4⟩
     have z3 := ho4.cell Y3.out (fun h => h)
     have zf := frozen_only ho4 (World.block_lt_of_cell? _ _ Y3.out) (fun h => h) YF.out
     have HP4 := hid (HPI.out.only ho4)
     have HN4 := hid (HNI.out.trans ho4 (fun _ h _ => h.elim))
     have hown := (HP4.out.own n b9 hlt (by rw [HEF.out]; rfl)).2
     clear ho4
     by_cases hf8 : m.flags = 8
     ·have h8t : (m.flags == 8) = true := by rw [beq_iff_eq]; exact hf8
      have HPS := hid (HP4.out.store (sl' := slL ks n (i + 1)) hlt (by rw [HFS.out]; exact hil) (by rw [HFS.out]; exact HEF.out) (((st + A : Nat)) : Int) (fun a p _ _ => by rw [slL_store, HSI.out hf8]))
      have HNS := hid (HN4.out.setCell (p := ⟨b9, o9 + i * 4 + 3, none⟩) (fun _ => hown) (.int .i64 (((st + A : Nat)) : Int)))
      have HA1 : Hid (countL 8 (fs.take (i + 1)) = A + 1) := hid (by rw [H8.out, if_pos hf8])
      have HC1 : Hid (countL 0 (fs.take (i + 1)) = C) := hid (by rw [H0.out, if_neg (by rw [hf8]; decide)]; rfl)
      rw [h8t]
      obtain ⟨X, hX⟩ : ∃ X, st + A = X := ⟨_, rfl⟩
      have HX := hid hX
      rw [hX] at hAz hA0 HPS HNS ⊢
      clear hf8 h8t hown hX
      go_wp2
      go_roundw
      case rel => exact ⟨i + 1, by go_num, by omega, by rw [HA1.out, show st + (A + 1) = X + 1 by have := HX.out; omega]; go_num, by rw [HC1.out]; simp, HPS, HNS⟩
      case measure => simp [intOf]; omega
     ·have h8t : (m.flags == 8) = false := by rw [beq_eq_false_iff_ne]; exact hf8
      have hf0 : m.flags = 0 := HFL.out.resolve_right hf8
      have HPS := hid (HP4.out.store (sl' := slL ks n (i + 1)) hlt (by rw [HFS.out]; exact hil) (by rw [HFS.out]; exact HEF.out) (((sn + C : Nat)) : Int) (fun a p _ _ => by rw [slL_store, HOI.out hf8]))
      have HNS := hid (HN4.out.setCell (p := ⟨b9, o9 + i * 4 + 3, none⟩) (fun _ => hown) (.int .i64 (((sn + C : Nat)) : Int)))
      have HA1 : Hid (countL 8 (fs.take (i + 1)) = A) := hid (by rw [H8.out, if_neg hf8]; rfl)
      have HC1 : Hid (countL 0 (fs.take (i + 1)) = C + 1) := hid (by rw [H0.out, if_pos hf0])
      rw [h8t]
      obtain ⟨X, hX⟩ : ∃ X, sn + C = X := ⟨_, rfl⟩
      have HX := hid hX
      rw [hX] at hCz hC0 HPS HNS ⊢
      clear hf8 h8t hf0 hown hX
      go_wp2
      go_roundw
      case rel => exact ⟨i + 1, by go_num, by omega, by rw [HA1.out]; simp, by rw [HC1.out, show sn + (C + 1) = X + 1 by have := HX.out; omega]; go_num, HPS, HNS⟩
      case measure => simp [intOf]; omega
    ·obtain rfl : i = fs.length := by omega
     have HNX := hid (HPI.out.congr (sl' := slL ks (n + 1) 0) (fun a p _ hp => by rw [← slL_next hp, HFS.out]))
     have HA1 : Hid (st + countL 8 (fs.take fs.length) = staticsN ks (n + 1)) := hid (by rw [List.take_length, HSS.out])
     rw [HA1.out]
     clear hil hi
     go_wp2
     go_roundw
     case rel => exact ⟨n + 1, by go_num, by omega, rfl, HNX, HNI⟩
     case measure => simp [intOf]; omega
  ·obtain rfl : n = ks.length := by omega
   have HF := hid (HP.out.congr (sl' := fun a p => (slotAt ks a p : Int)) (fun a p ha _ => slL_end ha))
   clear hlt hn
   go_wp2
   go_end0
   exact ⟨rfl, HF.out, HON.out⟩
end Go.Proofs.YtinbelghhfodiaaGreatDoor
