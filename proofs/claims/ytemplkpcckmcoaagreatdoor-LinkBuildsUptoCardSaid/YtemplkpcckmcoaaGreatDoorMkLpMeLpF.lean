import Derived.Test.YtemplkpcckmcoaaGreatDoorMkTkH
import Derived.Deep.RegionHeld3
import Derived.Test.YtemplkpcckmcoaaGreatDoorMkClsNmLpY
import Derived.Test.YtemplkpcckmcoaaGreatDoorMkLnkILnkN
import Derived.RangeFuncNested
import Derived.RangeFuncBound
import Derived.RangeFuncCalls
import Derived.RangeFuncLeaves
import Derived.OwnWalkIn
import Derived.TacticsInMore
import Derived.LoopNIn
import Derived.LoopIn
namespace Go.Proofs.YtemplkpcckmcoaaGreatDoor
set_option maxHeartbeats 16000000
open Lib (hid)
open Go.RowKit Go.Maps
set_option linter.unusedVariables false
set_option linter.unusedSimpArgs false
structure AsksM (w : World) (T : TypeId) (v : Value) (i : Nat) (m : MethodV) (n : FuncId) : Prop where
 look : ∀ W, (method 389 T v "understudy/link.method").run Tryz.prog W = .ok (n, v) W
 enters : ∀ args W, (callFunc n args).run Tryz.prog W = .ok (.enter n args) W
 calls : ∀ W, Only (fun _ => False) w W → Calls Tryz.prog n #[v, .int .i64 (i : Int)] W fun e w' => ∃ a b d, e = .returned (valMth m a b d) ∧ InsideG (fun k => k < W.heap.size) w' m a b d ∧ Only (fun _ => False) W w'
def bareM (f : Int) : MethodV := ⟨f, 0, 0, 0, 0, [], [], []⟩
def methP (i : Nat) (k : KindV) (c : ClassV) (j : Nat) : MethodV := if i < 13 then bareM (k.meths.getD j default).flags else c.methods.getD j default
theorem bytes_nil0 (w : World) : Bytes w (.slice none 0 0) [] := ⟨none, 0, rfl, Nat.le_refl _, Nat.zero_le _, fun _ => rfl, (fun _ h => by cases h), fun x hx => by cases hx⟩
theorem inside_bare (G : Nat → Prop) (w : World) (f : Int) : InsideG G w (bareM f) (.slice none 0 0) (.slice none 0 0) (.slice none 0 0) := ⟨⟨bytes_nil0 w, fun _ h => by cases h⟩, ⟨Sl.nil _, fun _ h => by cases h⟩, ⟨bytes_nil0 w, fun _ h => by cases h⟩⟩
theorem KnownG.askM {G : Nat → Prop} {w : World} {n : Nat} {iv : Value} {k : KindV} {c : ClassV} {vof : Value} (h : KnownG G w n iv k c vof) (hfew : 13 ≤ n → FewC c) {i : Nat} (hi : i < k.meths.length) : ∃ T v nn, iv = .iface T v ∧ AsksM w T v i (methP n k c i) nn := by
 rcases h with ⟨h1, h2, h3, vom, h4, h5⟩ | ⟨h1, h2, lb, vp, vf, vm, vom, h3, h4, h5, h6, h7⟩
 ·refine ⟨_, _, _, h4, fun W => mMethod_b 388 _ W, enters_of Tryz.func203 (by kernel_rfl) rfl, fun W hW => (bMethod _ _ vom k.meths _ i hi W (h5.mem.only hW)).mono ?_⟩
  rintro e w' ⟨rfl, ho⟩
  refine ⟨.slice none 0 0, .slice none 0 0, .slice none 0 0, ?_, ?_, ho⟩
  ·rw [methP, if_pos h1]; rfl
  ·rw [methP, if_pos h1]; exact inside_bare _ _ _
 ·refine ⟨_, _, _, h3, fun W => mMethod_l 388 _ W, enters_of Tryz.func208 (by kernel_rfl) rfl, fun W hW => ?_⟩
  have hi' : i < c.methods.length := by
   rw [h2] at hi
   have : (loadZ c (n - 13)).meths.length = c.methods.length := List.length_map _
   omega
  rw [methP, if_neg (by omega)]
  exact lMethod (hW.heap h5 (fun h => h)) (h6.only hW (fun _ h => h.elim)) (hfew h1) i hi'
section
variable {G : Nat → Prop} {fv : Nat → Value} {w : World} {pb : Nat} {ks : List KindV} {cl : Nat → ClassV} {sl : Nat → Nat → Int} (h : ProgG G fv w pb ks cl sl)
include h
set_option maxRecDepth 100000 in
theorem pMethod (j i : Nat) (hj : j < ks.length) (hi : i < (ks.getD j default).meths.length) (hm64 : (ks.getD j default).meths.length ≤ 64) (hfew : 13 ≤ j → FewC (cl j)) :
  Calls Tryz.prog 37 #[.pointer (some ⟨pb, 0, none⟩), .int .i64 (j : Int), .int .i64 (i : Int)] w fun e w' => ∃ a b d, e = .returned (.tuple #[valMth (methP j (ks.getD j default) (cl j) i) a b d, .string ((ks.getD j default).meths.getD i default).name, .string ((ks.getD j default).meths.getD i default).desc, .bool true]) ∧ Inside w' (methP j (ks.getD j default) (cl j) i) a b d ∧ Only (fun _ => False) w w' := by
 have ho0 := (Only.refl (fun _ => False) w).alloc zeroMth
 have hr0 := heap_alloc_new w zeroMth
 obtain ⟨W0, hW0⟩ : ∃ W0, w.alloc zeroMth = W0 := ⟨_, rfl⟩
 rw [hW0] at ho0 hr0
 have hp := h.only ho0
 have c1 := pHas hp (by omega) (j : Int)
 rw [show (decide (0 ≤ (j : Int)) && decide ((j : Int) < (ks.length : Int))) = true by simp; omega] at c1
 have C1 := hid c1
 obtain ⟨b, o, cap, mb, q0, -, e1, e2, -, hk⟩ := h.open (by omega)
 obtain ⟨iv, qi, hkn⟩ := hk j hj
 obtain ⟨T2, v2, vom, heq, -, -, -, ⟨nn, hq, hen, hcalls⟩, hms⟩ := hkn.told
 obtain ⟨T, v, nm2, rfl, hq2, hen2, hcalls2⟩ := hkn.askM hfew hi
 injection heq with heq1 heq2
 subst heq1
 subst heq2
 obtain ⟨ao, cp, rfl, s1, s2, -, -⟩ := id hms
 obtain ⟨b9, o9, rfl, hat⟩ := Sl.at hms hi
 obtain ⟨r0', r1', -, -⟩ := hat
 have HNE := hid (show (¬ pb = w.heap.size) ∧ (¬ b = w.heap.size) ∧ ¬ b9 = w.heap.size from ⟨by have := World.block_lt_of_cell? _ _ q0; simp only at this; omega, by have := World.block_lt_of_cell? _ _ qi; simp only at this; omega, by have := World.block_lt_of_cell? _ _ r0'; simp only at this; omega⟩)
 have q0a := ho0.cell q0 (fun h => h)
 have qia := ho0.cell qi (fun h => h)
 obtain ⟨nm, hnm⟩ : ∃ nm, ((ks.getD j default).meths.getD i default).name = nm := ⟨_, rfl⟩
 obtain ⟨ds, hds⟩ : ∃ ds, ((ks.getD j default).meths.getD i default).desc = ds := ⟨_, rfl⟩
 rw [hnm] at r0'
 rw [hds] at r1'
 rw [hnm, hds]
 obtain ⟨m, hm⟩ : ∃ m, methP j (ks.getD j default) (cl j) i = m := ⟨_, rfl⟩
 rw [hm] at hcalls2 ⊢
 obtain ⟨nl, hnl⟩ : ∃ nl, (ks.getD j default).meths.length = nl := ⟨_, rfl⟩
 rw [hnl] at s1 hcalls hi hm64
 have CV := hid (fun W (hW : Only (fun _ => False) W0 W) => hcalls W (ho0.trans hW (fun _ h _ => h)))
 have CM := hid (fun W (hW : Only (fun _ => False) W0 W) => hcalls2 W (ho0.trans hW (fun _ h _ => h)))
 have hjz : (j : Int) < (ks.length : Int) := by omega
 have hj0 : (0 : Int) ≤ (j : Int) := by omega
 have hiz : (i : Int) < (nl : Int) := by omega
 have hi0 : (0 : Int) ≤ (i : Int) := by omega
 have HO0 := hid ho0
 have HR0 := hid hr0
 have HW0 := hid hW0
 have HR1 := hid (ho0.cell r0' (fun h => h))
 have HR2 := hid (ho0.cell r1' (fun h => h))
 clear h hp ho0 hr0 hW0 hk hkn hcalls hcalls2 hms c1 q0 qi r0' r1' hnm hds hm hnl hfew hm64
 go_enter Tryz.func37, Tryz.ntmps37
 go_wp2_with (fail)
 rw [HW0.out]
 refine C1.out.mono ?_
 rintro e w1 ⟨rfl, hww⟩
 subst hww
 go_wp2_with (fail)
 refine (CV.out _ (Only.refl _ _)).mono ?_
 rintro e w3 ⟨rfl, ho3⟩
 have HO3 := hid ho3
 have p0 := ho3.cell q0a (fun h => h)
 have pi := ho3.cell qia (fun h => h)
 have r0 := ho3.cell HR1.out (fun h => h)
 have r1 := ho3.cell HR2.out (fun h => h)
 have HR3 := hid (ho3.heap HR0.out (fun h => h))
 clear ho3 q0a qia
 go_wp2
 refine wp_region_held_drew (S := fun wc => wc.cell? ⟨pb, 0, none⟩ = some (.slice (some ⟨b, o, none⟩) ks.length cap) ∧ wc.cell? ⟨b, o + j, none⟩ = some (.iface T v) ∧ wc.cell? ⟨b9, o9 + i * 4, none⟩ = some (.string nm) ∧ wc.cell? ⟨b9, o9 + i * 4 + 1, none⟩ = some (.string ds)) (by kernel_rfl) ⟨p0, pi, r0, r1⟩ (fun hHeld => ?_)
 refine tk1 0 (v := ?_) (y := ?_) (h := ?_)
 rotate_left 1
 ·(intro w h; (try dsimp only at h); go_simp; try with_reducible rfl)
 try simp only [Act.put, sIB, sC0, sCS]
 refine tk1 1 (v := ?_) (y := ?_) (h := ?_)
 rotate_left 1
 ·(intro w h; (try dsimp only at h); go_simp; try with_reducible rfl)
 try simp only [Act.put, sIB, sC0, sCS]
 refine tk1 2 (v := ?_) (y := ?_) (h := ?_)
 rotate_left 1
 ·(intro w h; (try dsimp only at h); go_simp; try with_reducible rfl)
 try simp only [Act.put, sIB, sC0, sCS]
 refine tk1 3 (v := ?_) (y := ?_) (h := ?_)
 rotate_left 1
 ·(intro w h; (try dsimp only at h); go_simp; try with_reducible rfl)
 try simp only [Act.put, sIB, sC0, sCS]
 refine tk1 4 (v := ?_) (y := ?_) (h := ?_)
 rotate_left 1
 ·(intro w h; (try dsimp only at h); go_simp; try with_reducible rfl)
 try simp only [Act.put, sIB, sC0, sCS]
 refine tk1 5 (v := ?_) (y := ?_) (h := ?_)
 rotate_left 1
 ·(intro w h; (try dsimp only at h); go_simp; try with_reducible rfl)
 try simp only [Act.put, sIB, sC0, sCS]
 refine tk1 6 (v := ?_) (y := ?_) (h := ?_)
 rotate_left 1
 ·(intro w h; (try dsimp only at h); go_simp; try with_reducible rfl)
 try simp only [Act.put, sIB, sC0, sCS]
 refine tk1 7 (v := ?_) (y := ?_) (h := ?_)
 rotate_left 1
 ·(intro w h; (try dsimp only at h); go_simp; try with_reducible rfl)
 try simp only [Act.put, sIB, sC0, sCS]
 refine tk1 9 (v := ?_) (y := ?_) (h := ?_)
 rotate_left 1
 ·(intro w h; (try dsimp only at h); go_simp; try with_reducible rfl)
 try simp only [Act.put, sIB, sC0, sCS]
 refine tk1 10 (v := ?_) (y := ?_) (h := ?_)
 rotate_left 1
 ·(intro w h; (try dsimp only at h); go_simp; try with_reducible rfl)
 try simp only [Act.put, sIB, sC0, sCS]
 refine tk1 11 (v := ?_) (y := ?_) (h := ?_)
 rotate_left 1
 ·(intro w h; (try dsimp only at h); go_simp; try with_reducible rfl)
 try simp only [Act.put, sIB, sC0, sCS]
 refine tk1 12 (v := ?_) (y := ?_) (h := ?_)
 rotate_left 1
 ·(intro w h; (try dsimp only at h); go_simp; try with_reducible rfl)
 try simp only [Act.put, sIB, sC0, sCS]
 refine tk1 13 (v := ?_) (y := ?_) (h := ?_)
 rotate_left 1
 ·(intro w h; (try dsimp only at h); go_simp; try with_reducible rfl)
 try simp only [Act.put, sIB, sC0, sCS]
 refine tk1 14 (v := ?_) (y := ?_) (h := ?_)
 rotate_left 1
 ·(intro w h; (try dsimp only at h); go_simp; try with_reducible rfl)
 try simp only [Act.put, sIB, sC0, sCS]
 refine tk1 15 (v := ?_) (y := ?_) (h := ?_)
 rotate_left 1
 ·(intro w h; (try dsimp only at h); go_simp; try with_reducible rfl)
 try simp only [Act.put, sIB, sC0, sCS]
 refine tk1 16 (v := ?_) (y := ?_) (h := ?_)
 rotate_left 1
 ·(intro w h; (try dsimp only at h); go_simp; try with_reducible rfl)
 try simp only [Act.put, sIB, sC0, sCS]
 refine tk1 17 (v := ?_) (y := ?_) (h := ?_)
 rotate_left 1
 ·(intro w h; (try dsimp only at h); go_simp; try with_reducible rfl)
 try simp only [Act.put, sIB, sC0, sCS]
 refine tk1 18 (v := ?_) (y := ?_) (h := ?_)
 rotate_left 1
 ·(intro w h; (try dsimp only at h); go_simp; try with_reducible rfl)
 try simp only [Act.put, sIB, sC0, sCS]
 refine wpAnyH_ready (rs := [8]) (by kernel_rfl) (by simp) ?_
 refine AllReadyH.cons (by simp only [List.getElem?_toArray, List.getElem?_cons_succ, List.getElem?_cons_zero]; rfl) (fun K hK => ?_) AllReadyH.nil
 go_simp
 (refine (CM.out _ HO3.out.drew).mono ?_; rintro e4 w4 ⟨ma, mb9, md, rfl, hin, ho4⟩; obtain ⟨aA, kA, rfl, -⟩ := id hin.1.1; obtain ⟨aB, kB, rfl, -⟩ := id hin.2.1.1; obtain ⟨aD, kD, rfl, -⟩ := id hin.2.2.1; have hc4 := (Only.refl (fun _ => False) w3).drew.trans ho4 (fun _ h _ => h); have HC4 := hid hc4; have HIN := hid hin; have hr4 := hc4.heap HR3.out (fun h => h); have HR4 := hid hr4; obtain ⟨u0, u1, u2, u3, u4, u5, u6, u7⟩ := cells8M hr4; obtain ⟨x0, x1, x2, x3, x4, x5, x6, x7⟩ := marks8M hr4; clear hin ho4 hc4 hr4)
 go_wp2_with fail
 refine hK.out _ _ ?_ (fun hHeld2 => ?_)
 ·exact ⟨HC4.out.cell p0 (fun h => h), HC4.out.cell pi (fun h => h), HC4.out.cell r0 (fun h => h), HC4.out.cell r1 (fun h => h)⟩
 clear hK K
 try simp only [Act.put, sIB, sC0, sCS]
 clear hHeld
 have hHeld := hHeld2
 clear hHeld2
 refine wpAnyH_ready (rs := [19]) (by kernel_rfl) (by simp) ?_
 refine AllReadyH.cons (by simp only [List.getElem?_toArray, List.getElem?_cons_succ, List.getElem?_cons_zero]; rfl) (fun K hK => ?_) AllReadyH.nil
 go_simp
 refine hK.out _ _ ?_ (fun hHeld2 => ?_)
 ·exact ⟨((HC4.out.mono (T := fun k => k = w.heap.size) (fun _ h _ => h.elim)).trans (only8M (S := fun k => k = w.heap.size) (Only.refl _ w4) (fun _ => rfl)) (fun _ h _ => h)).cell p0 HNE.out.1, ((HC4.out.mono (T := fun k => k = w.heap.size) (fun _ h _ => h.elim)).trans (only8M (S := fun k => k = w.heap.size) (Only.refl _ w4) (fun _ => rfl)) (fun _ h _ => h)).cell pi HNE.out.2.1, ((HC4.out.mono (T := fun k => k = w.heap.size) (fun _ h _ => h.elim)).trans (only8M (S := fun k => k = w.heap.size) (Only.refl _ w4) (fun _ => rfl)) (fun _ h _ => h)).cell r0 HNE.out.2.2, ((HC4.out.mono (T := fun k => k = w.heap.size) (fun _ h _ => h.elim)).trans (only8M (S := fun k => k = w.heap.size) (Only.refl _ w4) (fun _ => rfl)) (fun _ h _ => h)).cell r1 HNE.out.2.2⟩
 clear hK K
 try simp only [Act.put, sIB, sC0, sCS]
 clear hHeld
 have hHeld := hHeld2
 clear hHeld2
 refine tk1 20 (v := ?_) (y := ?_) (h := ?_)
 rotate_left 1
 ·(intro w h; (try dsimp only at h); go_simp; try with_reducible rfl)
 try simp only [Act.put, sIB, sC0, sCS]
 refine tk1 21 (v := ?_) (y := ?_) (h := ?_)
 rotate_left 1
 ·(intro w h; (try dsimp only at h); go_simp; try with_reducible rfl)
 try simp only [Act.put, sIB, sC0, sCS]
 refine tk1 22 (v := ?_) (y := ?_) (h := ?_)
 rotate_left 1
 ·(intro w h; (try dsimp only at h); go_simp; try with_reducible rfl)
 try simp only [Act.put, sIB, sC0, sCS]
 refine wpAnyH_done (by kernel_rfl) ?_ _
 clear hHeld p0 pi r0 r1
 go_wp2
 exact bodyPost_ret (method_result4 (b := w.heap.size) Tryz.results37 (store8M HR4.out) rfl rfl rfl rfl) rfl ⟨_, _, _, rfl, (InsideG.only (G := fun k => k < w3.drew.heap.size) (S := fun k => k = w.heap.size) (only8M (Only.refl _ w4) (fun _ => rfl)) (fun k hk => by have h1 := heap_lt HR3.out; have h2 : k = w.heap.size := hk; show k < w3.heap.size; omega) HIN.out).plain, only8M (((HO0.out.trans HO3.out (fun _ h _ => h)).trans HC4.out (fun _ h _ => h))) (fun hl => absurd hl (Nat.lt_irrefl _))⟩
end
section
variable {G : Nat → Prop} {fv : Nat → Value} {w : World} {pb : Nat} {ks : List KindV} {cl : Nat → ClassV} {sl : Nat → Nat → Int} (h : ProgG G fv w pb ks cl sl) (hp : 0 < ks.length)
include h hp
set_option maxRecDepth 100000 in
theorem pMethodNoI (j : Nat) (i : Int) (hj : j < ks.length) (hno : i < 0 ∨ ((ks.getD j default).meths.length : Int) ≤ i) : Calls Tryz.prog 37 #[.pointer (some ⟨pb, 0, none⟩), .int .i64 (j : Int), .int .i64 i] w fun e w' => e = .returned (.tuple #[flagM 0, .string ⟨#[]⟩, .string ⟨#[]⟩, .bool false]) ∧ Only (fun _ => False) w w' := by
 have ho0 := (Only.refl (fun _ => False) w).alloc zeroMth
 have hr0 := heap_alloc_new w zeroMth
 obtain ⟨W0, hW0⟩ : ∃ W0, w.alloc zeroMth = W0 := ⟨_, rfl⟩
 rw [hW0] at ho0 hr0
 have hpw := h.only ho0
 have c1 := pHas hpw hp (j : Int)
 rw [show (decide (0 ≤ (j : Int)) && decide ((j : Int) < (ks.length : Int))) = true by simp; omega] at c1
 have C1 := hid c1
 obtain ⟨b, o, cap, mb, q0, -, e1, e2, -, hk⟩ := hpw.open hp
 obtain ⟨iv, qi, hkn⟩ := hk j hj
 obtain ⟨T, v, vom, rfl, -, -, -, ⟨nn, hq, hen, hcalls⟩, hms⟩ := hkn.told
 obtain ⟨ao, cp, rfl, s1, s2, -, -⟩ := id hms
 obtain ⟨nl, hnl⟩ : ∃ nl, (ks.getD j default).meths.length = nl := ⟨_, rfl⟩
 rw [hnl] at s1 hcalls hno
 have CV := hid (hcalls W0 (Only.refl _ _))
 have hjz : (j : Int) < (ks.length : Int) := by omega
 have hj0 : (0 : Int) ≤ (j : Int) := by omega
 have HO := hid ho0
 have HR := hid hr0
 have HW0 := hid hW0
 clear h hp ho0 hr0 hW0 c1 hk hkn hcalls hms hnl hpw
 have hcs : i < 0 ∨ (0 ≤ i ∧ (nl : Int) ≤ i) := by omega
 clear hno
 rcases hcs with hneg | ⟨hneg, hge⟩
 all_goals (
  go_enter Tryz.func37, Tryz.ntmps37
  go_wp2_with (fail)
  rw [HW0.out]
  refine C1.out.mono ?_
  rintro e w1 ⟨rfl, hww⟩
  subst hww
  go_wp2_with (fail)
  refine CV.out.mono ?_
  rintro e w2 ⟨rfl, ho2⟩
  have HO2 := hid (HO.out.trans ho2 (fun _ h _ => h))
  have hr2 := ho2.heap HR.out (fun h => h)
  obtain ⟨u0, u1, u2, u3, u4, u5, u6, u7⟩ := cells8M hr2
  obtain ⟨v0, v1, v2, v3, v4, v5, v6, v7⟩ := marks8M hr2
  have HR2 := hid hr2
  clear ho2 hr2
  go_wp2
  exact bodyPost_ret (method_result4 (b := w.heap.size) Tryz.results37 (store8M HR2.out) rfl rfl rfl rfl) rfl ⟨rfl, only8M HO2.out (fun hl => absurd hl (Nat.lt_irrefl _))⟩)
end
attribute [local go_sem] Oper.semAt_some
section
variable {P : Program} {ops : Array Oper} {Q : Exit → Act → World → Prop} {md : Region.Mode} {l n : Nat}
theorem rows_round {row : String} {args : Array Value} {w : World} {R : Value → World → Prop} (h : Rows P row args w R) : RowsIn (Fence.wide.inRound l) n P row args w R := fun c cs _ => by
 obtain ⟨v, w', r, s⟩ := h c cs
 exact ⟨v, w', r, stepsIn_wide.2 s⟩
theorem upon_round {o : Oper} {a : Act} {K : Act → World → Prop} : ∀ {r : Result Next}, o.upon P a K Q r → o.uponIn (Fence.wide.inRound l) n P a K Q r
 | .ok (.value v) w', h => h
 | .ok .skip w', h => h
 | .ok (.defer d) w', h => h
 | .ok (.enter f args) w', h => ⟨(fun hd => by cases hd), CallsIn.inRound l (callsIn_wide.2 h)⟩
 | .ok (.row row args) w', h => ⟨(fun hd => by cases hd), rows_round h⟩
 | .halt (.panic v) w', h => h
theorem wp_round {o : Oper} (ho : ∀ c, o.op ≠ .defer c) {a : Act} {w : World} {K : Act → World → Prop} (h : o.wp P a w K Q) : o.wpIn (Fence.wide.inRound l) n P a w K Q := by
 refine ⟨fun _ _ => trivial, ?_⟩
 rw [Oper.semAt_eq _ _ _ ho]
 exact upon_round h
def NoDefer (ops : Array Oper) : Prop := ∀ (i : Nat) (o : Oper), ops[i]? = some o → ∀ c, o.op ≠ .defer c
theorem wpOp_round (hp : NoDefer ops) (hq : ¬ LetsOut Q) {i : Nat} {a : Act} {w : World} {K : Act → World → Prop} (h : wpOp P ops Q i K a w) : wpOpIn (Fence.wide.inRound l) n P ops Q i K a w := by
 unfold wpOp at h
 unfold wpOpIn
 cases ho : ops[i]? with
 | none => simp only [ho] at h ⊢; exact h
 | some o =>
  simp only [ho] at h ⊢
  by_cases hw : Region.wanted o (yielded ops a.tmps) = true
  ·rw [if_pos hw] at h ⊢
   rcases h with h | ⟨_, h⟩
   ·exact wp_round (hp i o ho) h
   ·exact absurd h hq
  ·rw [if_neg hw] at h ⊢
   exact ⟨fun _ _ => trivial, h⟩
theorem wpAny_round (hp : NoDefer ops) (hq : ¬ LetsOut Q) : ∀ (fuel : Nat) (listed : Array Bool) (a : Act) (w : World), wpAny P md ops Q fuel listed a w → wpAnyIn (Fence.wide.inRound l) n P md ops Q fuel listed a w
 | 0, _, _, _, h => h
 | fuel + 1, listed, a, w, h => ⟨h.1, fun i hi => wpOp_round hp hq (wpOp_mono (fun a w hk => wpAny_round hp hq fuel _ a w hk) (h.2 i hi))⟩
theorem wpIn_held_round {S : World → Prop} {id : Nat} {a : Act} {w : World} (hm : P.follows .mixedOrders = true) (hp : NoDefer ops) (hq : ¬ LetsOut Q) (hS : S w.drew)
  (h : S w.drew → wpAnyH P .any ops Q S ops.size (Array.replicate ops.size false) a w.drew) : (Code.region id ops true).wpIn (Fence.wide.inRound l) n P Q a w :=
 wpIn_region_any hm (wpAny_round hp hq _ _ _ _ (wpAny_of_held _ _ _ _ (h hS)))
end
attribute [local go_sem] Oper.semAt_some
structure GoodK (ks : List KindV) : Prop where
 pos : 13 ≤ ks.length
 small : SmallK ks
 root : findZ ks (ks.getD 0 default).super = -1
 fine : ∀ k ∈ ks, FineK k
 ends : EndsAll ks
 once : NamesOnce ks
def seqX (ks : List KindV) (x : Int) : List Nat := if x < 0 then [] else if (ks.length : Int) ≤ x then [] else upZ ks x
theorem seqX_neg {ks : List KindV} {x : Int} (h : x < 0) : seqX ks x = [] := if_pos h
theorem seqX_out {ks : List KindV} {x : Int} (h : (ks.length : Int) ≤ x) : seqX ks x = [] := by unfold seqX; split <;> rfl
theorem seqX_in {ks : List KindV} {x : Int} (h : x < ks.length) : seqX ks x = upZ ks x := by
 unfold seqX
 split
 ·rw [upZ_end (by assumption)]
 ·rw [if_neg (by omega)]
theorem seqX_step {ks : List KindV} (he : EndsAll ks) {j : Nat} (h : j < ks.length) : seqX ks (j : Int) = j :: seqX ks (superZ ks j) := by
 rw [seqX_in (by omega), seqX_in (superZ_lt ks j), upZ_step he h]
theorem seqX_len {ks : List KindV} (x : Int) : (seqX ks x).length ≤ ks.length + 1 := by
 unfold seqX
 split
 ·exact Nat.zero_le _
 ·split
  ·exact Nat.zero_le _
  ·exact chain_len _ _
theorem seqX_lt {ks : List KindV} (he : EndsAll ks) : ∀ (m : Nat) (x : Int), (seqX ks x).length = m → ∀ j ∈ seqX ks x, j < ks.length
 | m, x, hm, j, hj => by
  by_cases h0 : x < 0
  ·rw [seqX_neg h0] at hj; cases hj
  by_cases h1 : (ks.length : Int) ≤ x
  ·rw [seqX_out h1] at hj; cases hj
  obtain ⟨i, rfl⟩ := Int.eq_ofNat_of_zero_le (show 0 ≤ x by omega)
  have hi : i < ks.length := by omega
  rw [seqX_step he hi] at hj hm
  rcases List.mem_cons.1 hj with rfl | hj
  ·exact hi
  ·cases m with
   | zero => cases hm
   | succ m => exact seqX_lt he m _ (by simpa using hm) j hj
abbrev encJ (ks : List KindV) (x : Fin ks.length) : Array Value := #[.int .i64 (x.val : Int)]
theorem only_grown9 {W W' : World} (ho : Only (fun _ => False) W W') : W.grownBy W' none := ⟨ho.os, ho.tape, ho.output, ho.size, fun k hk _ => ho.block k hk (fun h => h)⟩
theorem below_cell {B : Nat} {w W : World} (h : Below B w W) {a : Addr} {v : Value} (hc : w.cell? a = some v) (hB : w.heap.size ≤ B) : W.cell? a = some v :=
 (Only.of_below (h.mono hB) (fun _ => False)).cell hc (fun h => h)
set_option maxRecDepth 100000 in
theorem up_in (n : Nat) (hn : 1 ≤ n) {G : Nat → Prop} {fv : Nat → Value} {w : World} {pb : Nat} {ks : List KindV} {cl : Nat → ClassV} {sl : Nat → Nat → Int} (h : ProgG G fv w pb ks cl sl) (hg : GoodK ks) (x : Int) (Bn Bp : Nat)
  (hBn : w.cell? ⟨Bn, 0, none⟩ = some (.int .i64 x)) (hBp : w.cell? ⟨Bp, 0, none⟩ = some (.pointer (some ⟨pb, 0, none⟩))) :
  SeqStopsK Fence.wide n Tryz.prog 149 #[.pointer (some ⟨Bn, 0, none⟩), .pointer (some ⟨Bp, 0, none⟩)] (encJ ks) (Below w.heap.size) (fun xs => vals xs = seqX ks x) (fun pre => vals pre <+: seqX ks x) (ks.length + 2) w := by
 intro lp J Jx W hb hJ hJx hY h0
 have HY := hid hY
 have HJ := hid hJ
 have H := hid h
 have HG := hid hg
 have HBP := hid hBp
 have HB := hid hb
 have hp0 := hg.pos
 have hcn := below_cell hb hBn (Nat.le_refl _)
 have HSX := hid (show seqX ks x = vals ([] : List (Fin ks.length)) ++ seqX ks x from rfl)
 clear hY hJ hJx h hg hBp hBn hb
 refine callsIn_of_wp Tryz.func149 rfl trivial ?_ rfl
 simp only [Tryz.ntmps149, List.size_toArray, List.length_cons, List.length_nil, Nat.reduceAdd, Nat.reduceSub, Array.replicate_succ, Array.replicate_zero, List.push_toArray, List.append_toArray, List.nil_append, List.cons_append]
 gi_wp2
 clear hcn
 gi_loopw [4] (fun av wr => ∃ (y : Int) (pre : List (Fin ks.length)), av = .int .i64 y ∧ Hid (seqX ks x = vals pre ++ seqX ks y) ∧ Hid (Below w.heap.size w wr) ∧ Hid (J pre wr)) (fun av _ => (seqX ks (intOf av)).length)
 case atStart => exact ⟨x, [], rfl, HSX, HB, hid h0⟩
 case round =>
  obtain ⟨y, pre, rfl, HS, HBW, HJR⟩ := hrel
  have hcp := below_cell HBW.out HBP.out (Nat.le_refl _)
  have hpw := H.out.only (Only.of_below HBW.out _)
  have c1 := pHas hpw (by omega) y
  by_cases hy : 0 ≤ y ∧ y < (ks.length : Int)
  ·obtain ⟨j, rfl⟩ := Int.eq_ofNat_of_zero_le hy.1
   have hj : j < ks.length := by omega
   rw [show (decide (0 ≤ (j : Int)) && decide ((j : Int) < (ks.length : Int))) = true by simp; omega] at c1
   have C1 := hid c1
   have HST := hid (seqX_step HG.out.ends hj)
   have HPRE : Hid (vals (pre ++ [(⟨j, hj⟩ : Fin ks.length)]) <+: seqX ks x) := hid (by rw [vals_snoc, HS.out, HST.out]; exact ⟨seqX ks (superZ ks j), by simp⟩)
   have hpl : pre.length < ks.length + 2 := by
    have h1 := seqX_len (ks := ks) x
    have h2 := congrArg List.length HS.out
    rw [List.length_append, vals_len] at h2
    omega
   have HS2 : Hid (seqX ks x = vals (pre ++ [(⟨j, hj⟩ : Fin ks.length)]) ++ seqX ks (superZ ks j)) := hid (by rw [vals_snoc, HS.out, HST.out]; simp)
   have HM : Hid ((seqX ks (superZ ks j)).length < (seqX ks (j : Int)).length) := hid (by rw [HST.out, List.length_cons]; omega)
   have CS := hid (fun W1 (hW : ProgG G fv W1 pb ks cl sl) => pSuper hW (by omega) HG.out.root HG.out.fine (j : Int))
   obtain ⟨fn, tmps, assign, body, hy', hR⟩ := HY.out pre ⟨j, hj⟩ wr HJR.out hpl
   unfold encJ at hy'
   try dsimp only at hy'
   have HR3 := hid hR
   have HPW := hid hpw
   generalize superZ ks (j : Int) = sj at *
   clear hR hpl c1 hpw hy HST
   gi_wp2_with (fail)
   refine ⟨trivial, (callsIn_wide.2 C1.out).mono ?_⟩
   rintro e' w3 ⟨rfl, hww⟩
   subst hww
   gi_wp2_with (fail)
   refine HR3.out.mono ?_
   rintro e9 W3 (⟨rfl, hJ3, hk3⟩ | ⟨rfl, hJx3⟩)
   ·have HJ3 := hid hJ3
    have hb3 := HBW.out.trans hk3
    have HB3 := hid hb3
    have hcp3 := below_cell hb3 HBP.out (Nat.le_refl _)
    have HP3 := hid (H.out.only (Only.of_below hb3 (fun _ => False)))
    clear hJ3 hk3 hy' hcp hb3 HR3
    gi_wp2_with (fail)
    refine ⟨trivial, (callsIn_wide.2 (CS.out _ HP3.out)).mono ?_⟩
    rintro e4 w4 ⟨rfl, ho4⟩
    have HJ4 := hid (HJ.out _ _ _ none HJ3.out (only_grown9 ho4) (fun r e => by cases e))
    have HB4 := hid (HB3.out.trans ((Only.none ho4).mono HB3.out.size))
    clear ho4 hcp3
    gi_wp2
    go_roundw
    case rel => exact ⟨sj, _, rfl, HS2, HB4, HJ4⟩
    case measure => exact HM.out
   ·have HJ3 := hid hJx3
    clear hJx3 hy' hcp
    gi_wp2
    go_end0
    exact ⟨⟨_, rfl⟩, .inr ⟨_, HPRE.out, HJ3.out⟩⟩
  ·rw [show (decide (0 ≤ y) && decide (y < (ks.length : Int))) = false by simp; omega] at c1
   have C1 := hid c1
   have HE : Hid (vals pre = seqX ks x) := hid (by
    rw [HS.out]
    by_cases h1 : y < 0
    ·rw [seqX_neg h1, List.append_nil]
    ·rw [seqX_out (by omega), List.append_nil])
   clear c1 hpw hy
   gi_wp2_with (fail)
   refine ⟨trivial, (callsIn_wide.2 C1.out).mono ?_⟩
   rintro e' w3 ⟨rfl, hww⟩
   subst hww
   gi_wp2_with (fail)
   refine ⟨fun _ h => (by cases h), ?_⟩
   gi_wp2
   go_end0
   exact ⟨⟨_, rfl⟩, .inl ⟨_, HE.out, HJR.out⟩⟩
def oneX (ks : List KindV) (x : Int) : List Nat := if x < 0 then [] else if (ks.length : Int) ≤ x then [] else [x.toNat]
set_option maxRecDepth 100000 in
theorem alone_in (n : Nat) (hn : 1 ≤ n) {G : Nat → Prop} {fv : Nat → Value} {w : World} {pb : Nat} {ks : List KindV} {cl : Nat → ClassV} {sl : Nat → Nat → Int} (h : ProgG G fv w pb ks cl sl) (hp0 : 0 < ks.length) (x : Int) (Bn Bp : Nat)
  (hBn : w.cell? ⟨Bn, 0, none⟩ = some (.int .i64 x)) (hBp : w.cell? ⟨Bp, 0, none⟩ = some (.pointer (some ⟨pb, 0, none⟩))) :
  SeqStopsK Fence.wide n Tryz.prog 117 #[.pointer (some ⟨Bp, 0, none⟩), .pointer (some ⟨Bn, 0, none⟩)] (encJ ks) (Below w.heap.size) (fun xs => vals xs = oneX ks x) (fun pre => vals pre <+: oneX ks x) (ks.length + 2) w := by
 intro lp J Jx W hb hJ hJx hY h0
 have hcn := below_cell hb hBn (Nat.le_refl _)
 have hcp := below_cell hb hBp (Nat.le_refl _)
 have c1 := pHas (h.only (Only.of_below hb _)) hp0 x
 by_cases hy : 0 ≤ x ∧ x < (ks.length : Int)
 ·obtain ⟨j, rfl⟩ := Int.eq_ofNat_of_zero_le hy.1
  have hj : j < ks.length := by omega
  rw [show (decide (0 ≤ (j : Int)) && decide ((j : Int) < (ks.length : Int))) = true by simp; omega] at c1
  have HE := hid (show oneX ks (j : Int) = [j] by unfold oneX; rw [if_neg (by omega), if_neg (by omega)]; rfl)
  have C1 := hid c1
  obtain ⟨fn, tmps, assign, body, hy', hR⟩ := hY [] ⟨j, hj⟩ W h0 (by simp)
  unfold encJ at hy'
  try dsimp only at hy'
  have HR3 := hid hR
  clear hR c1 hy h hb hJ hJx hY hBn hBp
  refine callsIn_of_wp Tryz.func117 rfl trivial ?_ rfl
  simp only [Tryz.ntmps117, List.size_toArray, List.length_cons, List.length_nil, Nat.reduceAdd, Nat.reduceSub, Array.replicate_succ, Array.replicate_zero, List.push_toArray, List.append_toArray, List.nil_append, List.cons_append]
  gi_wp2_with (fail)
  refine ⟨trivial, (callsIn_wide.2 C1.out).mono ?_⟩
  rintro e' w3 ⟨rfl, hww⟩
  subst hww
  gi_wp2_with (fail)
  refine HR3.out.mono ?_
  rintro e9 W3 (⟨rfl, hJ3, hk3⟩ | ⟨rfl, hJx3⟩)
  ·have HJ3 := hid hJ3
   clear hJ3 hk3 hy' hcp hcn
   gi_wp2
   go_end0
   exact ⟨⟨_, rfl⟩, .inl ⟨[⟨j, hj⟩], HE.out.symm, HJ3.out⟩⟩
  ·have HJ3 := hid hJx3
   clear hJx3 hy' hcp hcn
   gi_wp2
   go_end0
   exact ⟨⟨_, rfl⟩, .inr ⟨[⟨j, hj⟩], by rw [HE.out]; exact List.prefix_rfl, HJ3.out⟩⟩
 ·rw [show (decide (0 ≤ x) && decide (x < (ks.length : Int))) = false by simp; omega] at c1
  have HE := hid (show oneX ks x = [] by unfold oneX; split; rfl; rw [if_pos (by omega)])
  have C1 := hid c1
  clear c1 hy h hb hJ hJx hY hBn hBp
  refine callsIn_of_wp Tryz.func117 rfl trivial ?_ rfl
  simp only [Tryz.ntmps117, List.size_toArray, List.length_cons, List.length_nil, Nat.reduceAdd, Nat.reduceSub, Array.replicate_succ, Array.replicate_zero, List.push_toArray, List.append_toArray, List.nil_append, List.cons_append]
  gi_wp2_with (fail)
  refine ⟨trivial, (callsIn_wide.2 C1.out).mono ?_⟩
  rintro e' w3 ⟨rfl, hww⟩
  subst hww
  gi_wp2
  go_end0
  exact ⟨⟨_, rfl⟩, .inl ⟨[], HE.out.symm, h0⟩⟩
set_option maxRecDepth 100000 in
theorem none_in (n N : Nat) (ks : List KindV) (w : World) : SeqStopsK Fence.wide n Tryz.prog 131 #[] (encJ ks) (Below w.heap.size) (fun xs => vals xs = []) (fun pre => vals pre <+: []) N w := by
 intro lp J Jx W hb hJ hJx hY h0
 clear hb hJ hJx hY
 refine callsIn_of_wp Tryz.func131 rfl trivial ?_ rfl
 simp only [Tryz.ntmps131, List.size_toArray, List.length_cons, List.length_nil, Nat.reduceAdd, Nat.reduceSub, Array.replicate_succ, Array.replicate_zero, List.push_toArray, List.append_toArray, List.nil_append, List.cons_append]
 gi_wp2
 go_end0
 exact ⟨⟨_, rfl⟩, .inl ⟨[], rfl, h0⟩⟩
theorem pUp (pb : Nat) (x : Int) (w : World) : Calls Tryz.prog 132 #[.pointer (some ⟨pb, 0, none⟩), .int .i64 x] w fun e w' => e = .returned (.func (.func 149) #[] #[.pointer (some ⟨w.heap.size + 1, 0, none⟩), .pointer (some ⟨w.heap.size, 0, none⟩)]) ∧ w' = (w.alloc (.cells #[.pointer (some ⟨pb, 0, none⟩)] 23)).alloc (.cells #[.int .i64 x] 3) := by
 go_enter Tryz.func132, Tryz.ntmps132
 go_wp2
 go_ret
 exact ⟨rfl, rfl⟩
theorem pAlone (pb : Nat) (x : Int) (w : World) : Calls Tryz.prog 91 #[.pointer (some ⟨pb, 0, none⟩), .int .i64 x] w fun e w' => e = .returned (.func (.func 117) #[] #[.pointer (some ⟨w.heap.size, 0, none⟩), .pointer (some ⟨w.heap.size + 1, 0, none⟩)]) ∧ w' = (w.alloc (.cells #[.pointer (some ⟨pb, 0, none⟩)] 23)).alloc (.cells #[.int .i64 x] 3) := by
 go_enter Tryz.func91, Tryz.ntmps91
 go_wp2
 go_ret
 exact ⟨rfl, rfl⟩
end Go.Proofs.YtemplkpcckmcoaaGreatDoor
