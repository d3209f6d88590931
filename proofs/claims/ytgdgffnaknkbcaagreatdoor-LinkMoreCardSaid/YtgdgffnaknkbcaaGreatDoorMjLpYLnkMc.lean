import Derived.Test.YtgdgffnaknkbcaaGreatDoorMjClsJLpX
import Derived.Test.YtgdgffnaknkbcaaGreatDoorMjLpBLpE
import Derived.Deep.RegionHeld3
import Derived.Test.YtgdgffnaknkbcaaGreatDoorMjLnkILnkL
import Derived.Test.YtgdgffnaknkbcaaGreatDoorMjOpenClsD
import Derived.Test.YtgdgffnaknkbcaaGreatDoorMjTxtPPolM
import Derived.Test.YtgdgffnaknkbcaaGreatDoorMjKndELnkB
namespace Go.Proofs.YtgdgffnaknkbcaaGreatDoor
open Go.RowKit Go.Maps
set_option linter.unusedVariables false
set_option linter.unusedSimpArgs false
set_option maxHeartbeats 4000000 in
set_option maxRecDepth 100000 in
theorem bMethod (a b : Value) (v : Value) (ms : List MethN) (s : Nat → Int) (i : Nat) (hi : i < ms.length) (w : World) (hm : MemS w v ms s) :
    Calls Tryz.prog 217 #[.agg #[a, b, v], .int .i64 (i : Int)] w fun e w' => e = .returned (flagM (ms.getD i default).flags) ∧ Only (fun _ => False) w w' := by
  obtain ⟨ao, cap, rfl, p1, p2, -, -⟩ := id hm
  obtain ⟨b9, o9, rfl, hat⟩ := Sl.at hm hi
  have ho0 := ((Only.refl (fun _ => False) w).alloc (.cells #[a, b, .slice (some ⟨b9, o9, none⟩) ms.length cap] 136)).alloc zeroMth
  have hb0 : ((w.alloc (.cells #[a, b, .slice (some ⟨b9, o9, none⟩) ms.length cap] 136)).alloc zeroMth).heap[w.heap.size]? = some (.cells #[a, b, .slice (some ⟨b9, o9, none⟩) ms.length cap] 136 (0, 0)) := ((Only.refl (fun _ => False) _).alloc _).heap (heap_alloc_new w _) (fun h => h)
  have hr0 : ((w.alloc (.cells #[a, b, .slice (some ⟨b9, o9, none⟩) ms.length cap] 136)).alloc zeroMth).heap[w.heap.size + 1]? = some zeroMth := by
    have := heap_alloc_new (w.alloc (.cells #[a, b, .slice (some ⟨b9, o9, none⟩) ms.length cap] 136)) zeroMth
    rwa [World.size_alloc] at this
  obtain ⟨W2, hW2⟩ : ∃ W2, (w.alloc (.cells #[a, b, .slice (some ⟨b9, o9, none⟩) ms.length cap] 136)).alloc zeroMth = W2 := ⟨_, rfl⟩
  rw [hW2] at ho0 hb0 hr0
  have HW2 := Lib.hid hW2
  clear hW2
  have c2 := ho0.cell hat.c2 (fun h => h)
  have q2 : W2.cell? ⟨w.heap.size, 2, none⟩ = some (.slice (some ⟨b9, o9, none⟩) ms.length cap) := cell_blk hb0 2
  have hiz : (i : Int) < (ms.length : Int) := by omega
  have hi0 : (0 : Int) ≤ (i : Int) := by omega
  obtain ⟨u0, u1, u2, u3, u4, u5, u6, u7⟩ := cells8M hr0
  obtain ⟨v0, v1, v2, v3, v4, v5, v6, v7⟩ := marks8M hr0
  obtain ⟨fl, hfl⟩ : ∃ fl, (ms.getD i default).flags = fl := ⟨_, rfl⟩
  rw [hfl] at c2
  have HFL := Lib.hid hfl
  have HO := Lib.hid ho0
  have HR := Lib.hid hr0
  clear ho0 hb0 hr0 hat hm hfl hi
  go_enter Tryz.func217, Tryz.ntmps217
  refine wp_seq_k (fun K hK => ?_)
  have HK := Lib.hid hK
  clear hK
  go_wp2
  refine HK.out _ _ ?_
  rw [HW2.out]
  go_wp2
  rw [HFL.out]
  exact bodyPost_ret (meth_alone (b := w.heap.size + 1) Tryz.results217 (store8M HR.out) rfl) rfl ⟨rfl, only8M HO.out (fun hl => absurd hl (by omega))⟩
end Go.Proofs.YtgdgffnaknkbcaaGreatDoor
namespace Go.Proofs.YtgdgffnaknkbcaaGreatDoor
open Go.RowKit Go.Maps
set_option linter.unusedVariables false
set_option linter.unusedSimpArgs false
structure AsksM (w : World) (T : TypeId) (v : Value) (i : Nat) (m : MethodV) (n : FuncId) : Prop where
  look : ∀ W, (method 396 T v "understudy/link.method").run Tryz.prog W = .ok (n, v) W
  enters : ∀ args W, (callFunc n args).run Tryz.prog W = .ok (.enter n args) W
  calls : ∀ W, Only (fun _ => False) w W → Calls Tryz.prog n #[v, .int .i64 (i : Int)] W fun e w' => ∃ a b d, e = .returned (valMth m a b d) ∧ InsideG (fun k => k < W.heap.size) w' m a b d ∧ Only (fun _ => False) W w'
def bareM (f : Int) : MethodV := ⟨f, 0, 0, 0, 0, [], [], []⟩
def methP (i : Nat) (k : KindV) (c : ClassV) (j : Nat) : MethodV := if i < 13 then bareM (k.meths.getD j default).flags else c.methods.getD j default
theorem bytes_nil0 (w : World) : Bytes w (.slice none 0 0) [] := ⟨none, 0, rfl, Nat.le_refl _, Nat.zero_le _, fun _ => rfl, (fun _ h => by cases h), fun x hx => by cases hx⟩
theorem inside_bare (G : Nat → Prop) (w : World) (f : Int) : InsideG G w (bareM f) (.slice none 0 0) (.slice none 0 0) (.slice none 0 0) := ⟨⟨bytes_nil0 w, fun _ h => by cases h⟩, ⟨Sl.nil _, fun _ h => by cases h⟩, ⟨bytes_nil0 w, fun _ h => by cases h⟩⟩
theorem KnownG.askM {G : Nat → Prop} {w : World} {n : Nat} {iv : Value} {k : KindV} {c : ClassV} {vof : Value} (h : KnownG G w n iv k c vof) (hfew : 13 ≤ n → FewC c) {i : Nat} (hi : i < k.meths.length) : ∃ T v nn, iv = .iface T v ∧ AsksM w T v i (methP n k c i) nn := by
  rcases h with ⟨h1, h2, h3, vom, h4, h5⟩ | ⟨h1, h2, lb, vp, vf, vm, vom, h3, h4, h5, h6, h7⟩
  · refine ⟨_, _, _, h4, fun W => mMethod_b 395 _ W, enters_of Tryz.func217 (by kernel_rfl) rfl, fun W hW => (bMethod _ _ vom k.meths _ i hi W (h5.mem.only hW)).mono ?_⟩
    rintro e w' ⟨rfl, ho⟩
    refine ⟨.slice none 0 0, .slice none 0 0, .slice none 0 0, ?_, ?_, ho⟩
    · rw [methP, if_pos h1]; rfl
    · rw [methP, if_pos h1]; exact inside_bare _ _ _
  · refine ⟨_, _, _, h3, fun W => mMethod_l 395 _ W, enters_of Tryz.func215 (by kernel_rfl) rfl, fun W hW => ?_⟩
    have hi' : i < c.methods.length := by
      rw [h2] at hi
      have : (loadZ c (n - 13)).meths.length = c.methods.length := List.length_map _
      omega
    rw [methP, if_neg (by omega)]
    exact lMethod (hW.heap h5 (fun h => h)) (h6.only hW (fun _ h => h.elim)) (hfew h1) i hi'
section
variable {G : Nat → Prop} {fv : Nat → Value} {w : World} {pb : Nat} {ks : List KindV} {cl : Nat → ClassV} {sl : Nat → Nat → Int} (h : ProgG G fv w pb ks cl sl)
include h
set_option maxRecDepth 100000 in
set_option maxHeartbeats 16000000 in
theorem pMethod (j i : Nat) (hj : j < ks.length) (hi : i < (ks.getD j default).meths.length) (hm64 : (ks.getD j default).meths.length ≤ 64) (hfew : 13 ≤ j → FewC (cl j)) :
    Calls Tryz.prog 33 #[.pointer (some ⟨pb, 0, none⟩), .int .i64 (j : Int), .int .i64 (i : Int)] w fun e w' => ∃ a b d, e = .returned (.tuple #[valMth (methP j (ks.getD j default) (cl j) i) a b d, .string ((ks.getD j default).meths.getD i default).name, .string ((ks.getD j default).meths.getD i default).desc, .bool true]) ∧ Inside w' (methP j (ks.getD j default) (cl j) i) a b d ∧ Only (fun _ => False) w w' := by
  have ho0 := (Only.refl (fun _ => False) w).alloc zeroMth
  have hr0 := heap_alloc_new w zeroMth
  obtain ⟨W0, hW0⟩ : ∃ W0, w.alloc zeroMth = W0 := ⟨_, rfl⟩
  rw [hW0] at ho0 hr0
  have hp := h.only ho0
  have c1 := pHas hp (by omega) (j : Int)
  rw [show (decide (0 ≤ (j : Int)) && decide ((j : Int) < (ks.length : Int))) = true by simp; omega] at c1
  have C1 := Lib.hid c1
  obtain ⟨b, o, cap, mb, q0, -, e1, e2, -, hk⟩ := h.open (by omega)
  obtain ⟨iv, qi, hkn⟩ := hk j hj
  obtain ⟨T2, v2, vom, heq, -, -, -, ⟨nn, hq, hen, hcalls⟩, hms⟩ := hkn.told
  obtain ⟨T, v, nm2, rfl, hq2, hen2, hcalls2⟩ := hkn.askM hfew hi
  injection heq with heq1 heq2
  subst heq1
  subst heq2
  obtain ⟨ao, cp, rfl, s1, s2, -, -⟩ := id hms
  obtain ⟨b9, o9, rfl, hat⟩ := Sl.at hms hi
  obtain ⟨r0', r1', -, -⟩ := hat
  have HNE := Lib.hid (show (¬ pb = w.heap.size) ∧ (¬ b = w.heap.size) ∧ ¬ b9 = w.heap.size from ⟨by have := World.block_lt_of_cell? _ _ q0; simp only at this; omega, by have := World.block_lt_of_cell? _ _ qi; simp only at this; omega, by have := World.block_lt_of_cell? _ _ r0'; simp only at this; omega⟩)
  have q0a := ho0.cell q0 (fun h => h)
  have qia := ho0.cell qi (fun h => h)
  obtain ⟨nm, hnm⟩ : ∃ nm, ((ks.getD j default).meths.getD i default).name = nm := ⟨_, rfl⟩
  obtain ⟨ds, hds⟩ : ∃ ds, ((ks.getD j default).meths.getD i default).desc = ds := ⟨_, rfl⟩
  rw [hnm] at r0'
  rw [hds] at r1'
  rw [hnm, hds]
  obtain ⟨m, hm⟩ : ∃ m, methP j (ks.getD j default) (cl j) i = m := ⟨_, rfl⟩
  rw [hm] at hcalls2 ⊢
  obtain ⟨nl, hnl⟩ : ∃ nl, (ks.getD j default).meths.length = nl := ⟨_, rfl⟩
  rw [hnl] at s1 hcalls hi hm64
  have CV := Lib.hid (fun W (hW : Only (fun _ => False) W0 W) => hcalls W (ho0.trans hW (fun _ h _ => h)))
  have CM := Lib.hid (fun W (hW : Only (fun _ => False) W0 W) => hcalls2 W (ho0.trans hW (fun _ h _ => h)))
  have hjz : (j : Int) < (ks.length : Int) := by omega
  have hj0 : (0 : Int) ≤ (j : Int) := by omega
  have hiz : (i : Int) < (nl : Int) := by omega
  have hi0 : (0 : Int) ≤ (i : Int) := by omega
  have HO0 := Lib.hid ho0
  have HR0 := Lib.hid hr0
  have HW0 := Lib.hid hW0
  have HR1 := Lib.hid (ho0.cell r0' (fun h => h))
  have HR2 := Lib.hid (ho0.cell r1' (fun h => h))
  clear h hp ho0 hr0 hW0 hk hkn hcalls hcalls2 hms c1 q0 qi r0' r1' hnm hds hm hnl hfew hm64
  go_enter Tryz.func33, Tryz.ntmps33
  go_wp2_with (fail)
  rw [HW0.out]
  refine C1.out.mono ?_
  rintro e w1 ⟨rfl, hww⟩
  subst hww
  go_wp2_with (fail)
  refine (CV.out _ (Only.refl _ _)).mono ?_
  rintro e w3 ⟨rfl, ho3⟩
  have HO3 := Lib.hid ho3
  have p0 := ho3.cell q0a (fun h => h)
  have pi := ho3.cell qia (fun h => h)
  have r0 := ho3.cell HR1.out (fun h => h)
  have r1 := ho3.cell HR2.out (fun h => h)
  have HR3 := Lib.hid (ho3.heap HR0.out (fun h => h))
  clear ho3 q0a qia
  go_wp2
  refine wp_region_held_drew (S := fun wc => wc.cell? ⟨pb, 0, none⟩ = some (.slice (some ⟨b, o, none⟩) ks.length cap) ∧ wc.cell? ⟨b, o + j, none⟩ = some (.iface T v) ∧ wc.cell? ⟨b9, o9 + i * 4, none⟩ = some (.string nm) ∧ wc.cell? ⟨b9, o9 + i * 4 + 1, none⟩ = some (.string ds)) (by kernel_rfl) ⟨p0, pi, r0, r1⟩ (fun hHeld => ?_)
  refine wpAnyH_take (i := 0) (v := ?_) (by simp only [List.getElem?_toArray, List.getElem?_cons_succ, List.getElem?_cons_zero]; rfl) (by kernel_rfl) (by kernel_rfl) (by kernel_rfl) (by exact fun _ _ _ h => h) (Or.inl ⟨by rfl, ?_⟩) (by assumption) ?_
  rotate_left 1
  · (intro w hSw; (try dsimp only at hSw); go_simp; try with_reducible rfl)
  try simp only [Act.put, List.setIfInBounds_toArray, List.set_cons_zero, List.set_cons_succ]
  refine wpAnyH_take (i := 1) (v := ?_) (by simp only [List.getElem?_toArray, List.getElem?_cons_succ, List.getElem?_cons_zero]; rfl) (by kernel_rfl) (by kernel_rfl) (by kernel_rfl) (by exact fun _ _ _ h => h) (Or.inl ⟨by rfl, ?_⟩) (by assumption) ?_
  rotate_left 1
  · (intro w hSw; (try dsimp only at hSw); go_simp; try with_reducible rfl)
  try simp only [Act.put, List.setIfInBounds_toArray, List.set_cons_zero, List.set_cons_succ]
  refine wpAnyH_take (i := 2) (v := ?_) (by simp only [List.getElem?_toArray, List.getElem?_cons_succ, List.getElem?_cons_zero]; rfl) (by kernel_rfl) (by kernel_rfl) (by kernel_rfl) (by exact fun _ _ _ h => h) (Or.inl ⟨by rfl, ?_⟩) (by assumption) ?_
  rotate_left 1
  · (intro w hSw; (try dsimp only at hSw); go_simp; try with_reducible rfl)
  try simp only [Act.put, List.setIfInBounds_toArray, List.set_cons_zero, List.set_cons_succ]
  refine wpAnyH_take (i := 3) (v := ?_) (by simp only [List.getElem?_toArray, List.getElem?_cons_succ, List.getElem?_cons_zero]; rfl) (by kernel_rfl) (by kernel_rfl) (by kernel_rfl) (by exact fun _ _ _ h => h) (Or.inl ⟨by rfl, ?_⟩) (by assumption) ?_
  rotate_left 1
  · (intro w hSw; (try dsimp only at hSw); go_simp; try with_reducible rfl)
  try simp only [Act.put, List.setIfInBounds_toArray, List.set_cons_zero, List.set_cons_succ]
  refine wpAnyH_take (i := 4) (v := ?_) (by simp only [List.getElem?_toArray, List.getElem?_cons_succ, List.getElem?_cons_zero]; rfl) (by kernel_rfl) (by kernel_rfl) (by kernel_rfl) (by exact fun _ _ _ h => h) (Or.inl ⟨by rfl, ?_⟩) (by assumption) ?_
  rotate_left 1
  · (intro w hSw; (try dsimp only at hSw); go_simp; try with_reducible rfl)
  try simp only [Act.put, List.setIfInBounds_toArray, List.set_cons_zero, List.set_cons_succ]
  refine wpAnyH_take (i := 5) (v := ?_) (by simp only [List.getElem?_toArray, List.getElem?_cons_succ, List.getElem?_cons_zero]; rfl) (by kernel_rfl) (by kernel_rfl) (by kernel_rfl) (by exact fun _ _ _ h => h) (Or.inl ⟨by rfl, ?_⟩) (by assumption) ?_
  rotate_left 1
  · (intro w hSw; (try dsimp only at hSw); go_simp; try with_reducible rfl)
  try simp only [Act.put, List.setIfInBounds_toArray, List.set_cons_zero, List.set_cons_succ]
  refine wpAnyH_take (i := 6) (v := ?_) (by simp only [List.getElem?_toArray, List.getElem?_cons_succ, List.getElem?_cons_zero]; rfl) (by kernel_rfl) (by kernel_rfl) (by kernel_rfl) (by exact fun _ _ _ h => h) (Or.inl ⟨by rfl, ?_⟩) (by assumption) ?_
  rotate_left 1
  · (intro w hSw; (try dsimp only at hSw); go_simp; try with_reducible rfl)
  try simp only [Act.put, List.setIfInBounds_toArray, List.set_cons_zero, List.set_cons_succ]
  refine wpAnyH_take (i := 7) (v := ?_) (by simp only [List.getElem?_toArray, List.getElem?_cons_succ, List.getElem?_cons_zero]; rfl) (by kernel_rfl) (by kernel_rfl) (by kernel_rfl) (by exact fun _ _ _ h => h) (Or.inl ⟨by rfl, ?_⟩) (by assumption) ?_
  rotate_left 1
  · (intro w hSw; (try dsimp only at hSw); go_simp; try with_reducible rfl)
  try simp only [Act.put, List.setIfInBounds_toArray, List.set_cons_zero, List.set_cons_succ]
  refine wpAnyH_take (i := 9) (v := ?_) (by simp only [List.getElem?_toArray, List.getElem?_cons_succ, List.getElem?_cons_zero]; rfl) (by kernel_rfl) (by kernel_rfl) (by kernel_rfl) (by exact fun _ _ _ h => h) (Or.inl ⟨by rfl, ?_⟩) (by assumption) ?_
  rotate_left 1
  · (intro w hSw; (try dsimp only at hSw); go_simp; try with_reducible rfl)
  try simp only [Act.put, List.setIfInBounds_toArray, List.set_cons_zero, List.set_cons_succ]
  refine wpAnyH_take (i := 10) (v := ?_) (by simp only [List.getElem?_toArray, List.getElem?_cons_succ, List.getElem?_cons_zero]; rfl) (by kernel_rfl) (by kernel_rfl) (by kernel_rfl) (by exact fun _ _ _ h => h) (Or.inl ⟨by rfl, ?_⟩) (by assumption) ?_
  rotate_left 1
  · (intro w hSw; (try dsimp only at hSw); go_simp; try with_reducible rfl)
  try simp only [Act.put, List.setIfInBounds_toArray, List.set_cons_zero, List.set_cons_succ]
  refine wpAnyH_take (i := 11) (v := ?_) (by simp only [List.getElem?_toArray, List.getElem?_cons_succ, List.getElem?_cons_zero]; rfl) (by kernel_rfl) (by kernel_rfl) (by kernel_rfl) (by exact fun _ _ _ h => h) (Or.inl ⟨by rfl, ?_⟩) (by assumption) ?_
  rotate_left 1
  · (intro w hSw; (try dsimp only at hSw); go_simp; try with_reducible rfl)
  try simp only [Act.put, List.setIfInBounds_toArray, List.set_cons_zero, List.set_cons_succ]
  refine wpAnyH_take (i := 12) (v := ?_) (by simp only [List.getElem?_toArray, List.getElem?_cons_succ, List.getElem?_cons_zero]; rfl) (by kernel_rfl) (by kernel_rfl) (by kernel_rfl) (by exact fun _ _ _ h => h) (Or.inl ⟨by rfl, ?_⟩) (by assumption) ?_
  rotate_left 1
  · (intro w hSw; (try dsimp only at hSw); go_simp; try with_reducible rfl)
  try simp only [Act.put, List.setIfInBounds_toArray, List.set_cons_zero, List.set_cons_succ]
  refine wpAnyH_take (i := 13) (v := ?_) (by simp only [List.getElem?_toArray, List.getElem?_cons_succ, List.getElem?_cons_zero]; rfl) (by kernel_rfl) (by kernel_rfl) (by kernel_rfl) (by exact fun _ _ _ h => h) (Or.inl ⟨by rfl, ?_⟩) (by assumption) ?_
  rotate_left 1
  · (intro w hSw; (try dsimp only at hSw); go_simp; try with_reducible rfl)
  try simp only [Act.put, List.setIfInBounds_toArray, List.set_cons_zero, List.set_cons_succ]
  refine wpAnyH_take (i := 14) (v := ?_) (by simp only [List.getElem?_toArray, List.getElem?_cons_succ, List.getElem?_cons_zero]; rfl) (by kernel_rfl) (by kernel_rfl) (by kernel_rfl) (by exact fun _ _ _ h => h) (Or.inl ⟨by rfl, ?_⟩) (by assumption) ?_
  rotate_left 1
  · (intro w hSw; (try dsimp only at hSw); go_simp; try with_reducible rfl)
  try simp only [Act.put, List.setIfInBounds_toArray, List.set_cons_zero, List.set_cons_succ]
  refine wpAnyH_take (i := 15) (v := ?_) (by simp only [List.getElem?_toArray, List.getElem?_cons_succ, List.getElem?_cons_zero]; rfl) (by kernel_rfl) (by kernel_rfl) (by kernel_rfl) (by exact fun _ _ _ h => h) (Or.inl ⟨by rfl, ?_⟩) (by assumption) ?_
  rotate_left 1
  · (intro w hSw; (try dsimp only at hSw); go_simp; try with_reducible rfl)
  try simp only [Act.put, List.setIfInBounds_toArray, List.set_cons_zero, List.set_cons_succ]
  refine wpAnyH_take (i := 16) (v := ?_) (by simp only [List.getElem?_toArray, List.getElem?_cons_succ, List.getElem?_cons_zero]; rfl) (by kernel_rfl) (by kernel_rfl) (by kernel_rfl) (by exact fun _ _ _ h => h) (Or.inl ⟨by rfl, ?_⟩) (by assumption) ?_
  rotate_left 1
  · (intro w hSw; (try dsimp only at hSw); go_simp; try with_reducible rfl)
  try simp only [Act.put, List.setIfInBounds_toArray, List.set_cons_zero, List.set_cons_succ]
  refine wpAnyH_take (i := 17) (v := ?_) (by simp only [List.getElem?_toArray, List.getElem?_cons_succ, List.getElem?_cons_zero]; rfl) (by kernel_rfl) (by kernel_rfl) (by kernel_rfl) (by exact fun _ _ _ h => h) (Or.inl ⟨by rfl, ?_⟩) (by assumption) ?_
  rotate_left 1
  · (intro w hSw; (try dsimp only at hSw); go_simp; try with_reducible rfl)
  try simp only [Act.put, List.setIfInBounds_toArray, List.set_cons_zero, List.set_cons_succ]
  refine wpAnyH_take (i := 18) (v := ?_) (by simp only [List.getElem?_toArray, List.getElem?_cons_succ, List.getElem?_cons_zero]; rfl) (by kernel_rfl) (by kernel_rfl) (by kernel_rfl) (by exact fun _ _ _ h => h) (Or.inl ⟨by rfl, ?_⟩) (by assumption) ?_
  rotate_left 1
  · (intro w hSw; (try dsimp only at hSw); go_simp; try with_reducible rfl)
  try simp only [Act.put, List.setIfInBounds_toArray, List.set_cons_zero, List.set_cons_succ]
  refine wpAnyH_ready (rs := [8]) (by kernel_rfl) (by simp) ?_
  refine AllReadyH.cons (by simp only [List.getElem?_toArray, List.getElem?_cons_succ, List.getElem?_cons_zero]; rfl) (fun K hK => ?_) AllReadyH.nil
  go_simp
  (refine (CM.out _ HO3.out.drew).mono ?_; rintro e4 w4 ⟨ma, mb9, md, rfl, hin, ho4⟩; obtain ⟨aA, kA, rfl, -⟩ := id hin.1.1; obtain ⟨aB, kB, rfl, -⟩ := id hin.2.1.1; obtain ⟨aD, kD, rfl, -⟩ := id hin.2.2.1; have hc4 := (Only.refl (fun _ => False) w3).drew.trans ho4 (fun _ h _ => h); have HC4 := Lib.hid hc4; have HIN := Lib.hid hin; have hr4 := hc4.heap HR3.out (fun h => h); have HR4 := Lib.hid hr4; obtain ⟨u0, u1, u2, u3, u4, u5, u6, u7⟩ := cells8M hr4; obtain ⟨x0, x1, x2, x3, x4, x5, x6, x7⟩ := marks8M hr4; clear hin ho4 hc4 hr4)
  go_wp2_with fail
  refine hK.out _ _ ?_ (fun hHeld2 => ?_)
  · exact ⟨HC4.out.cell p0 (fun h => h), HC4.out.cell pi (fun h => h), HC4.out.cell r0 (fun h => h), HC4.out.cell r1 (fun h => h)⟩
  clear hK K
  try simp only [Act.put, List.setIfInBounds_toArray, List.set_cons_zero, List.set_cons_succ]
  clear hHeld
  have hHeld := hHeld2
  clear hHeld2
  refine wpAnyH_ready (rs := [19]) (by kernel_rfl) (by simp) ?_
  refine AllReadyH.cons (by simp only [List.getElem?_toArray, List.getElem?_cons_succ, List.getElem?_cons_zero]; rfl) (fun K hK => ?_) AllReadyH.nil
  go_simp
  refine hK.out _ _ ?_ (fun hHeld2 => ?_)
  · exact ⟨((HC4.out.mono (T := fun k => k = w.heap.size) (fun _ h _ => h.elim)).trans (only8M (S := fun k => k = w.heap.size) (Only.refl _ w4) (fun _ => rfl)) (fun _ h _ => h)).cell p0 HNE.out.1, ((HC4.out.mono (T := fun k => k = w.heap.size) (fun _ h _ => h.elim)).trans (only8M (S := fun k => k = w.heap.size) (Only.refl _ w4) (fun _ => rfl)) (fun _ h _ => h)).cell pi HNE.out.2.1, ((HC4.out.mono (T := fun k => k = w.heap.size) (fun _ h _ => h.elim)).trans (only8M (S := fun k => k = w.heap.size) (Only.refl _ w4) (fun _ => rfl)) (fun _ h _ => h)).cell r0 HNE.out.2.2, ((HC4.out.mono (T := fun k => k = w.heap.size) (fun _ h _ => h.elim)).trans (only8M (S := fun k => k = w.heap.size) (Only.refl _ w4) (fun _ => rfl)) (fun _ h _ => h)).cell r1 HNE.out.2.2⟩
  clear hK K
  try simp only [Act.put, List.setIfInBounds_toArray, List.set_cons_zero, List.set_cons_succ]
  clear hHeld
  have hHeld := hHeld2
  clear hHeld2
  refine wpAnyH_take (i := 20) (v := ?_) (by simp only [List.getElem?_toArray, List.getElem?_cons_succ, List.getElem?_cons_zero]; rfl) (by kernel_rfl) (by kernel_rfl) (by kernel_rfl) (by exact fun _ _ _ h => h) (Or.inl ⟨by rfl, ?_⟩) (by assumption) ?_
  rotate_left 1
  · (intro w hSw; (try dsimp only at hSw); go_simp; try with_reducible rfl)
  try simp only [Act.put, List.setIfInBounds_toArray, List.set_cons_zero, List.set_cons_succ]
  refine wpAnyH_take (i := 21) (v := ?_) (by simp only [List.getElem?_toArray, List.getElem?_cons_succ, List.getElem?_cons_zero]; rfl) (by kernel_rfl) (by kernel_rfl) (by kernel_rfl) (by exact fun _ _ _ h => h) (Or.inl ⟨by rfl, ?_⟩) (by assumption) ?_
  rotate_left 1
  · (intro w hSw; (try dsimp only at hSw); go_simp; try with_reducible rfl)
  try simp only [Act.put, List.setIfInBounds_toArray, List.set_cons_zero, List.set_cons_succ]
  refine wpAnyH_take (i := 22) (v := ?_) (by simp only [List.getElem?_toArray, List.getElem?_cons_succ, List.getElem?_cons_zero]; rfl) (by kernel_rfl) (by kernel_rfl) (by kernel_rfl) (by exact fun _ _ _ h => h) (Or.inl ⟨by rfl, ?_⟩) (by assumption) ?_
  rotate_left 1
  · (intro w hSw; (try dsimp only at hSw); go_simp; try with_reducible rfl)
  try simp only [Act.put, List.setIfInBounds_toArray, List.set_cons_zero, List.set_cons_succ]
  refine wpAnyH_done (by kernel_rfl) ?_ _
  clear hHeld p0 pi r0 r1
  go_wp2
  exact bodyPost_ret (method_result4 (b := w.heap.size) Tryz.results33 (store8M HR4.out) rfl rfl rfl rfl) rfl ⟨_, _, _, rfl, (InsideG.only (G := fun k => k < w3.drew.heap.size) (S := fun k => k = w.heap.size) (only8M (Only.refl _ w4) (fun _ => rfl)) (fun k hk => by have h1 := heap_lt HR3.out; have h2 : k = w.heap.size := hk; show k < w3.heap.size; omega) HIN.out).plain, only8M (((HO0.out.trans HO3.out (fun _ h _ => h)).trans HC4.out (fun _ h _ => h))) (fun hl => absurd hl (Nat.lt_irrefl _))⟩
end
end Go.Proofs.YtgdgffnaknkbcaaGreatDoor
namespace Go.Proofs.YtgdgffnaknkbcaaGreatDoor
open Go.RowKit Go.Maps
set_option linter.unusedVariables false
set_option linter.unusedSimpArgs false
section
variable {G : Nat → Prop} {fv : Nat → Value} {w : World} {pb : Nat} {ks : List KindV} {cl : Nat → ClassV} {sl : Nat → Nat → Int} (h : ProgG G fv w pb ks cl sl) (hp : 0 < ks.length)
include h hp
end
end Go.Proofs.YtgdgffnaknkbcaaGreatDoor
namespace Go.Proofs.YtgdgffnaknkbcaaGreatDoor
open Go.RowKit
set_option linter.unusedVariables false
set_option linter.unusedSimpArgs false
set_option linter.unusedSectionVars false
theorem getK_app {ks : List KindV} {k : KindV} {j : Nat} (h : j < ks.length) : (ks ++ [k]).getD j default = ks.getD j default := by
  simp [List.getD, List.getElem?_append_left h]
theorem getK_last {ks : List KindV} {k : KindV} : (ks ++ [k]).getD ks.length default = k := by simp [List.getD]
theorem find_app1 (ks : List KindV) (k : KindV) (x : ByteArray) (h : 0 ≤ findZ ks x) : findZ (ks ++ [k]) x = findZ ks x := by
  rw [findZ_app, if_neg (by omega)]
section
variable {ks : List KindV} {k : KindV} (hg : GoodK ks) (hg' : GoodK (ks ++ [k])) (hup : ∀ j : Nat, 0 < j → j < ks.length → ∃ i : Nat, i < ks.length ∧ superZ ks (j : Int) = (i : Int))
include hg hg' hup
theorem more_super {j : Nat} (hj : j < ks.length) : superZ (ks ++ [k]) (j : Int) = superZ ks (j : Int) := by
  by_cases h0 : j = 0
  · subst h0; exact (super_zero _).trans (super_zero _).symm
  · obtain ⟨i, hi, he⟩ := hup j (by omega) hj
    have e1 := super_list (ks := ks) (by omega) hj
    rw [super_list (ks := ks ++ [k]) (by omega) (by simp; omega), getK_app hj, find_app1 _ _ _ (by rw [← e1, he]; omega), ← e1]
theorem more_slots : ∀ (n : Nat) {j : Nat}, j < ks.length → (upZ ks (j : Int)).length ≤ n → slotsAny (ks ++ [k]) (j : Int) = slotsAny ks (j : Int)
  | n, j, hj, hn => by
    have hst := upZ_step hg.ends hj
    rw [slots_super hg'.ends (by simp; omega), slots_super hg.ends hj, getK_app hj, more_super hg hg' hup hj]
    congr 1
    by_cases h0 : j = 0
    · subst h0
      rw [show ((0 : Nat) : Int) = 0 from rfl, super_zero]
      unfold slotsAny
      rw [if_neg (by omega), if_neg (by omega), slotsZ_end (by decide), slotsZ_end (by decide)]
    · obtain ⟨i, hi, he⟩ := hup j (by omega) hj
      rw [hst, he] at hn
      rw [he]
      cases n with
      | zero => simp at hn
      | succ n => exact more_slots n hi (by simpa using hn)
theorem more_slotsAny {j : Nat} (hj : j < ks.length) : slotsAny (ks ++ [k]) (j : Int) = slotsAny ks (j : Int) := more_slots hg hg' hup _ hj (Nat.le_refl _)
omit hup in
theorem more_find : findZ (ks ++ [k]) k.name = (ks.length : Int) := by
  have := hg'.once ks.length (by simp)
  rw [getK_last] at this
  exact this
omit hup in
theorem more_main (h13 : 13 < ks.length) : mainZ (ks ++ [k]) = mainZ ks := by
  unfold mainZ
  rw [ownZ_at hg'.once (j := 13) (by simp; omega), ownZ_at hg.once h13]
  unfold ownAt
  rw [getK_app h13]
end
theorem more_statics (ks : List KindV) (k : KindV) : staticsZ (ks ++ [k]) (ks.length + 1) = staticsZ ks ks.length ++ typesZ 8 k.fields := by
  rw [staticsZ_step (by simp), getK_last]
  unfold staticsZ
  rw [List.take_left', List.take_length]
  rfl
end Go.Proofs.YtgdgffnaknkbcaaGreatDoor
namespace Go.Proofs.YtgdgffnaknkbcaaGreatDoor
open Go.RowKit
set_option linter.unusedVariables false
set_option linter.unusedSimpArgs false
def RowG {α : Type} (T : TypeId) (n : Nat) (cells : α → List Value) (w : World) (B : Nat) (v : Value) (l : List α) : Prop := w.ownsRow B T n v l.length (l.flatMap cells)
section
variable {α : Type} {T : TypeId} {n : Nat} {cells : α → List Value}
theorem cellsG_at [Inhabited α] (hn : ∀ a, (cells a).length = n) : ∀ {l : List α} {i d : Nat}, i < l.length → d < n → (l.flatMap cells)[i * n + d]? = (cells (l.getD i default))[d]?
  | c :: r, 0, d, _, hd => by
    rw [List.flatMap_cons, List.getElem?_append_left (by rw [hn]; omega)]
    simp
  | c :: r, i + 1, d, hi, hd => by
    have he : (i + 1) * n + d = n + (i * n + d) := by rw [Nat.succ_mul]; omega
    rw [List.flatMap_cons, List.getElem?_append_right (by rw [hn]; omega), hn, he, Nat.add_sub_cancel_left, cellsG_at hn (by simpa using hi) hd]
    simp
theorem RowG.sl [Inhabited α] {w : World} {B : Nat} {v : Value} {l : List α} (hn : ∀ a, (cells a).length = n) (h : RowG T n cells w B v l) : Sl v l.length (fun b o i => ∀ d, d < n → w.cell? ⟨b, o + i * n + d, none⟩ = (cells (l.getD i default))[d]?) := by
  rcases h.2 with ⟨rfl, h0⟩ | ⟨g, cap, cur, rfl, hb, hg, hnc, hcm, hcs, htake⟩
  · rw [h0]; exact Sl.nil _
  · refine ⟨_, cap, rfl, hnc, by unfold maxLen at hcm; omega, (fun e => by cases e), fun x hx _ => ?_⟩
    cases hx
    refine ⟨g, 0, rfl, fun i hi d hd => ?_⟩
    rw [Nat.zero_add, ← cellsG_at hn hi hd]
    refine (show w.ownsRow B _ n _ _ _ from h).cellAt (g := g) (cap := cap) (i * n + d) ?_
    have : i * n + n ≤ l.length * n := by rw [← Nat.succ_mul]; exact Nat.mul_le_mul_right n hi
    omega
theorem RowG.only {S : Nat → Prop} {w w' : World} {B : Nat} {v : Value} {l : List α} (h : RowG T n cells w B v l) (ho : Only S w w') (hs : ∀ k, v.ownBlock = some k → ¬ S k) : RowG T n cells w' B v l := ho.owns h hs
theorem RowG.ge {w : World} {B : Nat} {v : Value} {l : List α} (h : RowG T n cells w B v l) : ∀ k, v.ownBlock = some k → B ≤ k ∧ k < w.heap.size := fun k hk => World.ownsRow.lt h k hk
theorem RowG.nil (w : World) (B : Nat) : RowG T n cells w B (.slice none 0 0) [] := World.ownsRow_nil _ _ _ _
theorem RowG.more {w : World} {B : Nat} {v' : Value} {l : List α} {a : α} (hown : w.ownsRow B T n v' (l.length + 1) (l.flatMap cells ++ cells a)) : RowG T n cells w B v' (l ++ [a]) := by
  unfold RowG
  rw [List.length_append, List.flatMap_append]
  simpa using hown
end
theorem RowG.base {α : Type} {T : TypeId} {n : Nat} {cells : α → List Value} {w : World} {B B' : Nat} {v : Value} {l : List α} (h : RowG T n cells w B v l) (hb : B' ≤ B) : RowG T n cells w B' v l := owns_base h (fun k hk => Nat.le_trans hb (RowG.ge h k hk).1)
theorem Row.keep {w w' : World} {N : Nat} {v : Value} {ys : List Int} {S : Nat → Prop} (h : Row w N v ys) (ho : Only S w w') (hS : ∀ j, S j → j < N) : Row w' N v ys := h.only ho (fun k hk hs => by have := (h.ge k hk).1; have := hS k hs; omega)
theorem RowG.keep {w w' : World} {α : Type} {T : TypeId} {m N : Nat} {cells : α → List Value} {v : Value} {l : List α} {S : Nat → Prop} (h : RowG T m cells w N v l) (ho : Only S w w') (hS : ∀ j, S j → j < N) : RowG T m cells w' N v l := RowG.only h ho (fun k hk hs => by have := (RowG.ge h k hk).1; have := hS k hs; omega)
end Go.Proofs.YtgdgffnaknkbcaaGreatDoor
namespace Go.Proofs.YtgdgffnaknkbcaaGreatDoor
open Go.ChangeShapes Go.WideShapes Go.ChangeAt Go.RowKit Go.Deep
set_option linter.unusedVariables false
set_option linter.unusedSimpArgs false
abbrev ClP := ClassV × Value × Value × Value
def cellsCl (p : ClP) : List Value := [p.2.1, .int .i64 p.1.this, .int .i64 p.1.super, p.2.2.1, p.2.2.2]
theorem cellsCl_len (p : ClP) : (cellsCl p).length = 5 := rfl
theorem cellsCl_flat (l : List ClP) : (l.flatMap cellsCl).length = l.length * 5 := by
  induction l with
  | nil => rfl
  | cons c r ih => rw [List.flatMap_cons, List.length_append, ih, cellsCl_len, List.length_cons]; omega
def OkCl (w : World) (p : ClP) : Prop := ClassM w p.2.1 p.2.2.1 p.2.2.2 p.1
theorem OkCl.one {w : World} {p : ClP} (h : OkCl w p) : ∀ u ∈ cellsCl p, u.oneCell' = true := by
  obtain ⟨⟨a1, c1, e1, _⟩, ⟨⟨a2, c2, e2, _⟩, _⟩, ⟨_, ⟨a3, c3, e3, _⟩, _⟩, _⟩ := h
  intro u hu
  simp only [cellsCl, e1, e2, e3, List.mem_cons, List.mem_nil_iff, or_false] at hu
  rcases hu with rfl | rfl | rfl | rfl | rfl <;> rfl
theorem OkCl.only {w w' : World} {p : ClP} (h : OkCl w p) (ho : Only (fun _ => False) w w') : OkCl w' p := ClassM.only ho h
theorem Src.of_classes {w : World} {v : Value} {cs : List ClassV} (h : Classes w v cs) : ∃ l : List ClP, l.map (·.1) = cs ∧ (∀ p ∈ l, OkCl w p) ∧ Src w 5 v l.length (l.flatMap cellsCl) := by
  obtain ⟨f, h1, h2⟩ := h
  have hok : ∀ p ∈ (List.range cs.length).map (fun i => ((cs.getD i default, f i) : ClP)), OkCl w p := by
    intro p hp
    obtain ⟨i, hi, rfl⟩ := List.mem_map.1 hp
    exact h2 i (List.mem_range.1 hi)
  refine ⟨(List.range cs.length).map (fun i => (cs.getD i default, f i)), ?_, hok, ?_⟩
  · apply List.ext_getElem (by simp)
    intro i h1 h2
    simp [List.getD, h2]
  · obtain ⟨ao, cap, rfl, q1, q2, q3, q4⟩ := h1
    have hlen : ((List.range cs.length).map (fun i => ((cs.getD i default, f i) : ClP))).length = cs.length := by simp
    refine ⟨?_, ?_, ao, cap, by rw [hlen], fun e => ⟨by have := q3 e; omega, q3 e⟩, fun ad hd j u hj => ?_⟩
    · exact cellsCl_flat _
    · intro u hu
      obtain ⟨p, hp, hc⟩ := List.mem_flatMap.1 hu
      exact OkCl.one (hok p hp) u hc
    · generalize hl : (List.range cs.length).map (fun i => ((cs.getD i default, f i) : ClP)) = l at *
      have hjl : j < l.length * 5 := by
        have := (List.getElem?_eq_some_iff.1 hj).1
        rwa [cellsCl_flat] at this
      obtain ⟨b, o, rfl, hc⟩ := q4 ad hd (by omega)
      have hi : j / 5 < l.length := by omega
      have hd5 : j % 5 < 5 := by omega
      have hat := cellsG_at cellsCl_len (l := l) (i := j / 5) (d := j % 5) hi hd5
      rw [show j / 5 * 5 + j % 5 = j by omega, hj] at hat
      have hge : l.getD (j / 5) default = (cs.getD (j / 5) default, f (j / 5)) := by
        rw [← hl]
        have : j / 5 < cs.length := by omega
        simp [List.getD, this]
      rw [hge] at hat
      rw [add_lit, show o + j = o + j / 5 * 5 + j % 5 by omega]
      obtain ⟨c0, c1, c2, c3, c4⟩ := hc (j / 5) (by omega)
      have h5' : j % 5 = 0 ∨ j % 5 = 1 ∨ j % 5 = 2 ∨ j % 5 = 3 ∨ j % 5 = 4 := by omega
      rcases h5' with e | e | e | e | e
      · rw [e] at hat ⊢; rw [Nat.add_zero, c0]; simpa [cellsCl] using hat.symm
      · rw [e] at hat ⊢; rw [c1]; simpa [cellsCl] using hat.symm
      · rw [e] at hat ⊢; rw [c2]; simpa [cellsCl] using hat.symm
      · rw [e] at hat ⊢; rw [c3]; simpa [cellsCl] using hat.symm
      · rw [e] at hat ⊢; rw [c4]; simpa [cellsCl] using hat.symm
theorem RowG.classes {w : World} {B : Nat} {v : Value} {l : List ClP} (h : RowG 77 5 cellsCl w B v l) (hm : ∀ p ∈ l, OkCl w p) : Classes w v (l.map (·.1)) := by
  have hge : ∀ i, i < l.length → (l.map (·.1)).getD i default = (l.getD i default).1 := fun i hi => by simp [List.getD, hi]
  refine ⟨fun i => (l.getD i default).2, ?_, fun i hi => ?_⟩
  · rw [List.length_map]
    refine (RowG.sl cellsCl_len h).imp (fun b o i _ hi hc => ?_)
    rw [hge i hi]
    exact ⟨hc 0 (by decide), hc 1 (by decide), hc 2 (by decide), hc 3 (by decide), hc 4 (by decide)⟩
  · rw [List.length_map] at hi
    rw [hge i hi]
    exact hm _ (getD_mem hi)
theorem Src.only {w w' : World} {size m : Nat} {v : Value} {news : List Value} (h : Src w size v m news) (ho : Only (fun _ => False) w w') : Src w' size v m news := by
  obtain ⟨h1, h2, ao, c, rfl, h3, h4⟩ := h
  exact ⟨h1, h2, ao, c, rfl, h3, fun ad hd j u hj => ho.cell (h4 ad hd j u hj) (fun h => h)⟩
theorem Src.blkCl {w : World} {m : Nat} {f : Nat × Nat} (p : ClP) (hp : ∀ u ∈ cellsCl p, u.oneCell' = true) (h : w.heap[m]? = some (.cells #[p.2.1, .int .i64 p.1.this, .int .i64 p.1.super, p.2.2.1, p.2.2.2] 77 f)) : Src w 5 (.slice (some ⟨m, 0, none⟩) 1 1) 1 (cellsCl p) := by
  refine ⟨rfl, hp, _, 1, rfl, (fun e => by cases e), fun ad hd j u hj => ?_⟩
  cases hd
  rw [add_lit, Nat.zero_add, cell_blk h]
  simpa [cellsCl] using hj
theorem bytes_class : Tryz.prog.bytesOf 77 = 88 := by kernel_rfl
theorem info_class9 : (Tryz.prog.info? 77).map (fun i => (i.zero, i.size, i.bytes)) = some (some (.agg #[.slice none 0 0, .int .i64 0, .int .i64 0, .slice none 0 0, .slice none 0 0]), 5, 88) := by kernel_rfl
set_option maxRecDepth 100000 in
theorem arg_classesN {H : Type} {enc : TypeId × Value → H} {W : World} {base : Nat} {v : Value} {d : DataW H} {p : List MemPlace} (hv : Value.okWide Tryz.prog W .any base 22 v) (h : DataW.Trod enc Tryz.prog W 0 (fun _ => true) true 22 v d p)
    (hL : Light Tryz.prog 22 d) : ∃ l, Classes W v l ∧ l.length * 88 ≤ 140737488351232 := by
  obtain ⟨l, hc, _⟩ := arg_classes hv h hL
  refine ⟨l, hc, ?_⟩
  obtain ⟨f, ⟨ao, cap, rfl, q1, q2, q3, q4⟩, _⟩ := hc
  obtain ⟨fuel, hf⟩ := h
  simp [Value.cells] at hf
  rcases Go.Deep.open_slice Tryz.underlying22 hf with ⟨e, _⟩ | ⟨a, len, cap', m, n, D, Pl, e, _, hl, hm, hmm, hx, hi⟩
  · simp at e
    omega
  · have hd := congrArg Prod.fst hx
    simp only at hd
    subst hd
    have := light_len Tryz.underlying22 hL
    rw [bytes_class] at this
    simp only [if_true] at hmm
    subst hmm
    simp only [List.length_map, List.length_range, reachBytes] at this
    simp at e
    omega
end Go.Proofs.YtgdgffnaknkbcaaGreatDoor
