/- PROVED: the law ClassChecks: the program's Check, Name and Super of any class are the document's own; the argument reads as before. For every class of at most 1048575 places and letters in all (the second form's bound on the input's bulk). -/
import Derived.Test.YtodhdiccfobcfaaDoorLaid3
import Derived.Deep.RegionHeld3
import Derived.Test.YtodhdiccfobcfaaDoorClsJ
import Derived.Test.YtodhdiccfobcfaaDoorClsE
import Derived.Test.YtodhdiccfobcfaaDoorClsNm
import Derived.Test.YtodhdiccfobcfaaDoorClsAw
import Derived.Test.YtodhdiccfobcfaaDoorClsD
namespace Go.Proofs.YtodhdiccfobcfaaDoor.classChecks
open Go.ChangeShapes Go.WideShapes Go.ChangeAt Go.RowKit
set_option linter.unusedVariables false
set_option linter.unusedSimpArgs false

set_option maxHeartbeats 2000000 in
set_option maxRecDepth 100000 in
theorem walkChecks (vp vf vm : Value) (c : ClassV) (w : World) (hc : ClassM w vp vf vm c) (ht : Texts c.pool) (hT : Tabs w) (hg : ErrV w) :
    Calls Tryd.prog 3 #[.agg #[vp, .int .i64 c.this, .int .i64 c.super, vf, vm]] w fun e w' => e = .returned (.bool true) ∧ Only (fun _ => False) w w' := by
  have ho0 := (Only.refl (fun _ => False) w).alloc (.cells #[vp, .int .i64 c.this, .int .i64 c.super, vf, vm] 26)
  have hbx := heap_alloc_new w (.cells #[vp, .int .i64 c.this, .int .i64 c.super, vf, vm] 26)
  have cP := fun w' (ho : Only (fun _ => False) w w') => progClsCheck vp vf vm c w' (hc.only ho) (hT.only ho (fun h => h) (fun h => h)) (hg.only ho (fun h => h))
  have cR := fun w' (ho : Only (fun _ => False) w w') => refClsCheck vp vf vm c w' (hc.only ho) ht
  have cN := fun w' (ho : Only (fun _ => False) w w') => clsName vp vf vm c.pool c.this c.super w' (hc.1.only ho (fun _ _ h => h))
  have cS := fun w' (ho : Only (fun _ => False) w w') => clsSuper vp vf vm c.pool c.this c.super w' (hc.1.only ho (fun _ _ h => h))
  have rN := fun w' (ho : Only (fun _ => False) w w') => refClsName vp vf vm c.pool c.this c.super w' (hc.1.only ho (fun _ _ h => h))
  have rS := fun w' (ho : Only (fun _ => False) w w') => refClsSuper vp vf vm c.pool c.this c.super w' (hc.1.only ho (fun _ _ h => h))
  have cA := fun w' (ho : Only (fun _ => False) w w') => awake w' (hT.only ho (fun h => h) (fun h => h)) (hg.only ho (fun h => h))
  obtain ⟨hp, hf, hm, r1, r2⟩ := id hc
  obtain ⟨ap, cp, rfl, _, _, _, _, _⟩ := id hp
  obtain ⟨af, cf, rfl, hf1, hf2⟩ := hf.1.slice
  obtain ⟨fm, hm1, hm2, hm3⟩ := id hm
  obtain ⟨am, cm, rfl, hm4, hm5⟩ := hm1.slice
  obtain ⟨pool, this, super, fields, methods⟩ := c
  simp only at *
  have CP := Lib.hid cP
  have CR := Lib.hid cR
  have CN := Lib.hid cN
  have CS := Lib.hid cS
  have RN := Lib.hid rN
  have RS := Lib.hid rS
  have CA := Lib.hid cA
  have HBX := Lib.hid hbx
  have HO := Lib.hid ho0
  clear hc hp hf hm hm1 hm2 hm3 cP cR cN cS rN rS cA hT hg ht hbx ho0
  generalize clsZ ⟨pool, this, super, fields, methods⟩ = k at *
  generalize (classZ pool this).1 = n1 at *
  generalize (classZ pool super).1 = n2 at *
  go_enter Tryd.func3, Tryd.ntmps3
  have q0 : (w.alloc (.cells #[.slice ap pool.length cp, .int .i64 this, .int .i64 super, .slice af fields.length cf, .slice am methods.length cm] 26)).cell? ⟨w.heap.size, 0, none⟩ = some (.slice ap pool.length cp) := by rw [cell_blk HBX.out]; rfl
  have q1 : (w.alloc (.cells #[.slice ap pool.length cp, .int .i64 this, .int .i64 super, .slice af fields.length cf, .slice am methods.length cm] 26)).cell? ⟨w.heap.size, 1, none⟩ = some (.int .i64 this) := by rw [cell_blk HBX.out]; rfl
  have q2 : (w.alloc (.cells #[.slice ap pool.length cp, .int .i64 this, .int .i64 super, .slice af fields.length cf, .slice am methods.length cm] 26)).cell? ⟨w.heap.size, 2, none⟩ = some (.int .i64 super) := by rw [cell_blk HBX.out]; rfl
  have q3 : (w.alloc (.cells #[.slice ap pool.length cp, .int .i64 this, .int .i64 super, .slice af fields.length cf, .slice am methods.length cm] 26)).cell? ⟨w.heap.size, 3, none⟩ = some (.slice af fields.length cf) := by rw [cell_blk HBX.out]; rfl
  have q4 : (w.alloc (.cells #[.slice ap pool.length cp, .int .i64 this, .int .i64 super, .slice af fields.length cf, .slice am methods.length cm] 26)).cell? ⟨w.heap.size, 4, none⟩ = some (.slice am methods.length cm) := by rw [cell_blk HBX.out]; rfl
  go_wp2_with (fail)
  refine wp_region_held_drew (S := fun wc => (wc.cell? ⟨w.heap.size, 0, none⟩ = some (.slice ap pool.length cp) ∧ wc.cell? ⟨w.heap.size, 1, none⟩ = some (.int .i64 this) ∧ wc.cell? ⟨w.heap.size, 2, none⟩ = some (.int .i64 super) ∧ wc.cell? ⟨w.heap.size, 3, none⟩ = some (.slice af fields.length cf) ∧ wc.cell? ⟨w.heap.size, 4, none⟩ = some (.slice am methods.length cm)) ∧ Only (fun _ => False) w wc) (by kernel_rfl) ⟨⟨q0, q1, q2, q3, q4⟩, HO.out.drew⟩ (fun hHeld => ?_)
  refine wpAnyH_take (i := 0) (v := ?_) (by simp only [List.getElem?_toArray, List.getElem?_cons_succ, List.getElem?_cons_zero]; rfl) (by kernel_rfl) (by kernel_rfl) (by kernel_rfl) (by exact fun _ _ _ h => h) (Or.inl ⟨by rfl, ?_⟩) (by assumption) ?_
  rotate_left 1
  · (intro w hSw; (try dsimp only at hSw); go_simp; try with_reducible rfl)
  try simp only [Act.put, List.setIfInBounds_toArray, List.set_cons_zero, List.set_cons_succ]
  refine wpAnyH_take (i := 2) (v := ?_) (by simp only [List.getElem?_toArray, List.getElem?_cons_succ, List.getElem?_cons_zero]; rfl) (by kernel_rfl) (by kernel_rfl) (by kernel_rfl) (by exact fun _ _ _ h => h) (Or.inl ⟨by rfl, ?_⟩) (by assumption) ?_
  rotate_left 1
  · (intro w hSw; (try dsimp only at hSw); go_simp; try with_reducible rfl)
  try simp only [Act.put, List.setIfInBounds_toArray, List.set_cons_zero, List.set_cons_succ]
  refine wpAnyH_ready (rs := [1]) (by kernel_rfl) (by simp) ?_
  refine AllReadyH.cons (by simp only [List.getElem?_toArray, List.getElem?_cons_succ, List.getElem?_cons_zero]; rfl) (fun K hK => ?_) AllReadyH.nil
  go_simp
  refine (CP.out _ hHeld.2).mono ?_; rintro e w1 ⟨rfl, ho1⟩; have HQ := Lib.hid (And.intro (And.intro (ho1.cell hHeld.1.1 (fun h => h)) (And.intro (ho1.cell hHeld.1.2.1 (fun h => h)) (And.intro (ho1.cell hHeld.1.2.2.1 (fun h => h)) (And.intro (ho1.cell hHeld.1.2.2.2.1 (fun h => h)) (ho1.cell hHeld.1.2.2.2.2 (fun h => h)))))) (hHeld.2.trans ho1 (fun _ h => h.elim))); clear ho1
  go_wp2_with fail
  refine hK.out _ _ ?_ (fun hHeld2 => ?_)
  · exact HQ.out
  clear hK K
  try simp only [Act.put, List.setIfInBounds_toArray, List.set_cons_zero, List.set_cons_succ]
  clear hHeld
  have hHeld := hHeld2
  clear hHeld2
  refine wpAnyH_ready (rs := [3]) (by kernel_rfl) (by simp) ?_
  refine AllReadyH.cons (by simp only [List.getElem?_toArray, List.getElem?_cons_succ, List.getElem?_cons_zero]; rfl) (fun K hK => ?_) AllReadyH.nil
  go_simp
  refine (CR.out _ hHeld.2).mono ?_; rintro e w2 ⟨rfl, ho2⟩; have HQ := Lib.hid (And.intro (And.intro (ho2.cell hHeld.1.1 (fun h => h)) (And.intro (ho2.cell hHeld.1.2.1 (fun h => h)) (And.intro (ho2.cell hHeld.1.2.2.1 (fun h => h)) (And.intro (ho2.cell hHeld.1.2.2.2.1 (fun h => h)) (ho2.cell hHeld.1.2.2.2.2 (fun h => h)))))) (hHeld.2.trans ho2 (fun _ h => h.elim))); clear ho2
  go_wp2_with fail
  refine hK.out _ _ ?_ (fun hHeld2 => ?_)
  · exact HQ.out
  clear hK K
  try simp only [Act.put, List.setIfInBounds_toArray, List.set_cons_zero, List.set_cons_succ]
  clear hHeld
  have hHeld := hHeld2
  clear hHeld2
  refine wpAnyH_take (i := 4) (v := ?_) (by simp only [List.getElem?_toArray, List.getElem?_cons_succ, List.getElem?_cons_zero]; rfl) (by kernel_rfl) (by kernel_rfl) (by kernel_rfl) (by exact fun _ _ _ h => h) (Or.inl ⟨by rfl, ?_⟩) (by assumption) ?_
  rotate_left 1
  · (intro w hSw; (try dsimp only at hSw); go_simp; try with_reducible rfl)
  try simp only [Act.put, List.setIfInBounds_toArray, List.set_cons_zero, List.set_cons_succ]
  refine wpAnyH_take (i := 5) (v := ?_) (by simp only [List.getElem?_toArray, List.getElem?_cons_succ, List.getElem?_cons_zero]; rfl) (by kernel_rfl) (by kernel_rfl) (by kernel_rfl) (by exact fun _ _ _ h => h) (Or.inl ⟨by rfl, ?_⟩) (by assumption) ?_
  rotate_left 1
  · (intro w hSw; (try dsimp only at hSw); go_simp; try with_reducible rfl)
  try simp only [Act.put, List.setIfInBounds_toArray, List.set_cons_zero, List.set_cons_succ]
  refine wpAnyH_take (i := 6) (v := ?_) (by simp only [List.getElem?_toArray, List.getElem?_cons_succ, List.getElem?_cons_zero]; rfl) (by kernel_rfl) (by kernel_rfl) (by kernel_rfl) (by exact fun _ _ _ h => h) (Or.inl ⟨by rfl, ?_⟩) (by assumption) ?_
  rotate_left 1
  · (intro w hSw; (try dsimp only at hSw); go_simp; try with_reducible rfl)
  try simp only [Act.put, List.setIfInBounds_toArray, List.set_cons_zero, List.set_cons_succ]
  refine wpAnyH_take (i := 8) (v := ?_) (by simp only [List.getElem?_toArray, List.getElem?_cons_succ, List.getElem?_cons_zero]; rfl) (by kernel_rfl) (by kernel_rfl) (by kernel_rfl) (by exact fun _ _ _ h => h) (Or.inl ⟨by rfl, ?_⟩) (by assumption) ?_
  rotate_left 1
  · (intro w hSw; (try dsimp only at hSw); go_simp; try with_reducible rfl)
  try simp only [Act.put, List.setIfInBounds_toArray, List.set_cons_zero, List.set_cons_succ]
  refine wpAnyH_ready (rs := [7]) (by kernel_rfl) (by simp) ?_
  refine AllReadyH.cons (by simp only [List.getElem?_toArray, List.getElem?_cons_succ, List.getElem?_cons_zero]; rfl) (fun K hK => ?_) AllReadyH.nil
  go_simp
  refine (CN.out _ hHeld.2).mono ?_; rintro e w3 ⟨rfl, ho3⟩; have HQ := Lib.hid (And.intro (And.intro (ho3.cell hHeld.1.1 (fun h => h)) (And.intro (ho3.cell hHeld.1.2.1 (fun h => h)) (And.intro (ho3.cell hHeld.1.2.2.1 (fun h => h)) (And.intro (ho3.cell hHeld.1.2.2.2.1 (fun h => h)) (ho3.cell hHeld.1.2.2.2.2 (fun h => h)))))) (hHeld.2.trans ho3 (fun _ h => h.elim))); clear ho3
  go_wp2_with fail
  refine hK.out _ _ ?_ (fun hHeld2 => ?_)
  · exact HQ.out
  clear hK K
  try simp only [Act.put, List.setIfInBounds_toArray, List.set_cons_zero, List.set_cons_succ]
  clear hHeld
  have hHeld := hHeld2
  clear hHeld2
  refine wpAnyH_ready (rs := [9]) (by kernel_rfl) (by simp) ?_
  refine AllReadyH.cons (by simp only [List.getElem?_toArray, List.getElem?_cons_succ, List.getElem?_cons_zero]; rfl) (fun K hK => ?_) AllReadyH.nil
  go_simp
  refine (RN.out _ hHeld.2).mono ?_; rintro e w4 ⟨rfl, ho4⟩; have HQ := Lib.hid (And.intro (And.intro (ho4.cell hHeld.1.1 (fun h => h)) (And.intro (ho4.cell hHeld.1.2.1 (fun h => h)) (And.intro (ho4.cell hHeld.1.2.2.1 (fun h => h)) (And.intro (ho4.cell hHeld.1.2.2.2.1 (fun h => h)) (ho4.cell hHeld.1.2.2.2.2 (fun h => h)))))) (hHeld.2.trans ho4 (fun _ h => h.elim))); clear ho4
  go_wp2_with fail
  refine hK.out _ _ ?_ (fun hHeld2 => ?_)
  · exact HQ.out
  clear hK K
  try simp only [Act.put, List.setIfInBounds_toArray, List.set_cons_zero, List.set_cons_succ]
  clear hHeld
  have hHeld := hHeld2
  clear hHeld2
  refine wpAnyH_take (i := 10) (v := ?_) (by simp only [List.getElem?_toArray, List.getElem?_cons_succ, List.getElem?_cons_zero]; rfl) (by kernel_rfl) (by kernel_rfl) (by kernel_rfl) (by exact fun _ _ _ h => h) (Or.inl ⟨by rfl, ?_⟩) (by assumption) ?_
  rotate_left 1
  · (intro w hSw; (try dsimp only at hSw); go_simp; try with_reducible rfl)
  try simp only [Act.put, List.setIfInBounds_toArray, List.set_cons_zero, List.set_cons_succ]
  refine wpAnyH_take (i := 11) (v := ?_) (by simp only [List.getElem?_toArray, List.getElem?_cons_succ, List.getElem?_cons_zero]; rfl) (by kernel_rfl) (by kernel_rfl) (by kernel_rfl) (by exact fun _ _ _ h => h) (Or.inl ⟨by rfl, ?_⟩) (by assumption) ?_
  rotate_left 1
  · (intro w hSw; (try dsimp only at hSw); go_simp; try with_reducible rfl)
  try simp only [Act.put, List.setIfInBounds_toArray, List.set_cons_zero, List.set_cons_succ]
  refine wpAnyH_take (i := 12) (v := ?_) (by simp only [List.getElem?_toArray, List.getElem?_cons_succ, List.getElem?_cons_zero]; rfl) (by kernel_rfl) (by kernel_rfl) (by kernel_rfl) (by exact fun _ _ _ h => h) (Or.inl ⟨by rfl, ?_⟩) (by assumption) ?_
  rotate_left 1
  · (intro w hSw; (try dsimp only at hSw); go_simp; try with_reducible rfl)
  try simp only [Act.put, List.setIfInBounds_toArray, List.set_cons_zero, List.set_cons_succ]
  refine wpAnyH_take (i := 13) (v := ?_) (by simp only [List.getElem?_toArray, List.getElem?_cons_succ, List.getElem?_cons_zero]; rfl) (by kernel_rfl) (by kernel_rfl) (by kernel_rfl) (by exact fun _ _ _ h => h) (Or.inl ⟨by rfl, ?_⟩) (by assumption) ?_
  rotate_left 1
  · (intro w hSw; (try dsimp only at hSw); go_simp; try with_reducible rfl)
  try simp only [Act.put, List.setIfInBounds_toArray, List.set_cons_zero, List.set_cons_succ]
  refine wpAnyH_take (i := 15) (v := ?_) (by simp only [List.getElem?_toArray, List.getElem?_cons_succ, List.getElem?_cons_zero]; rfl) (by kernel_rfl) (by kernel_rfl) (by kernel_rfl) (by exact fun _ _ _ h => h) (Or.inl ⟨by rfl, ?_⟩) (by assumption) ?_
  rotate_left 1
  · (intro w hSw; (try dsimp only at hSw); go_simp; try with_reducible rfl)
  try simp only [Act.put, List.setIfInBounds_toArray, List.set_cons_zero, List.set_cons_succ]
  refine wpAnyH_ready (rs := [14]) (by kernel_rfl) (by simp) ?_
  refine AllReadyH.cons (by simp only [List.getElem?_toArray, List.getElem?_cons_succ, List.getElem?_cons_zero]; rfl) (fun K hK => ?_) AllReadyH.nil
  go_simp
  refine (CS.out _ hHeld.2).mono ?_; rintro e w5 ⟨rfl, ho5⟩; have HQ := Lib.hid (And.intro (And.intro (ho5.cell hHeld.1.1 (fun h => h)) (And.intro (ho5.cell hHeld.1.2.1 (fun h => h)) (And.intro (ho5.cell hHeld.1.2.2.1 (fun h => h)) (And.intro (ho5.cell hHeld.1.2.2.2.1 (fun h => h)) (ho5.cell hHeld.1.2.2.2.2 (fun h => h)))))) (hHeld.2.trans ho5 (fun _ h => h.elim))); clear ho5
  go_wp2_with fail
  refine hK.out _ _ ?_ (fun hHeld2 => ?_)
  · exact HQ.out
  clear hK K
  try simp only [Act.put, List.setIfInBounds_toArray, List.set_cons_zero, List.set_cons_succ]
  clear hHeld
  have hHeld := hHeld2
  clear hHeld2
  refine wpAnyH_ready (rs := [16]) (by kernel_rfl) (by simp) ?_
  refine AllReadyH.cons (by simp only [List.getElem?_toArray, List.getElem?_cons_succ, List.getElem?_cons_zero]; rfl) (fun K hK => ?_) AllReadyH.nil
  go_simp
  refine (RS.out _ hHeld.2).mono ?_; rintro e w6 ⟨rfl, ho6⟩; have HQ := Lib.hid (And.intro (And.intro (ho6.cell hHeld.1.1 (fun h => h)) (And.intro (ho6.cell hHeld.1.2.1 (fun h => h)) (And.intro (ho6.cell hHeld.1.2.2.1 (fun h => h)) (And.intro (ho6.cell hHeld.1.2.2.2.1 (fun h => h)) (ho6.cell hHeld.1.2.2.2.2 (fun h => h)))))) (hHeld.2.trans ho6 (fun _ h => h.elim))); clear ho6
  go_wp2_with fail
  refine hK.out _ _ ?_ (fun hHeld2 => ?_)
  · exact HQ.out
  clear hK K
  try simp only [Act.put, List.setIfInBounds_toArray, List.set_cons_zero, List.set_cons_succ]
  clear hHeld
  have hHeld := hHeld2
  clear hHeld2
  refine wpAnyH_take (i := 17) (v := ?_) (by simp only [List.getElem?_toArray, List.getElem?_cons_succ, List.getElem?_cons_zero]; rfl) (by kernel_rfl) (by kernel_rfl) (by kernel_rfl) (by exact fun _ _ _ h => h) (Or.inl ⟨by rfl, ?_⟩) (by assumption) ?_
  rotate_left 1
  · (intro w hSw; (try dsimp only at hSw); go_simp; try with_reducible rfl)
  try simp only [Act.put, List.setIfInBounds_toArray, List.set_cons_zero, List.set_cons_succ]
  refine wpAnyH_take (i := 18) (v := ?_) (by simp only [List.getElem?_toArray, List.getElem?_cons_succ, List.getElem?_cons_zero]; rfl) (by kernel_rfl) (by kernel_rfl) (by kernel_rfl) (by exact fun _ _ _ h => h) (Or.inl ⟨by rfl, ?_⟩) (by assumption) ?_
  rotate_left 1
  · (intro w hSw; (try dsimp only at hSw); go_simp; try with_reducible rfl)
  try simp only [Act.put, List.setIfInBounds_toArray, List.set_cons_zero, List.set_cons_succ]
  refine wpAnyH_take (i := 19) (v := ?_) (by simp only [List.getElem?_toArray, List.getElem?_cons_succ, List.getElem?_cons_zero]; rfl) (by kernel_rfl) (by kernel_rfl) (by kernel_rfl) (by exact fun _ _ _ h => h) (Or.inl ⟨by rfl, ?_⟩) (by assumption) ?_
  rotate_left 1
  · (intro w hSw; (try dsimp only at hSw); go_simp; try with_reducible rfl)
  try simp only [Act.put, List.setIfInBounds_toArray, List.set_cons_zero, List.set_cons_succ]
  refine wpAnyH_ready (rs := [20]) (by kernel_rfl) (by simp) ?_
  refine AllReadyH.cons (by simp only [List.getElem?_toArray, List.getElem?_cons_succ, List.getElem?_cons_zero]; rfl) (fun K hK => ?_) AllReadyH.nil
  go_simp
  refine (CA.out _ hHeld.2).mono ?_; rintro e w7 ⟨rfl, ho7⟩; have HQ := Lib.hid (And.intro (And.intro (ho7.cell hHeld.1.1 (fun h => h)) (And.intro (ho7.cell hHeld.1.2.1 (fun h => h)) (And.intro (ho7.cell hHeld.1.2.2.1 (fun h => h)) (And.intro (ho7.cell hHeld.1.2.2.2.1 (fun h => h)) (ho7.cell hHeld.1.2.2.2.2 (fun h => h)))))) (hHeld.2.trans ho7 (fun _ h => h.elim))); clear ho7
  go_wp2_with fail
  refine hK.out _ _ ?_ (fun hHeld2 => ?_)
  · exact HQ.out
  clear hK K
  try simp only [Act.put, List.setIfInBounds_toArray, List.set_cons_zero, List.set_cons_succ]
  clear hHeld
  have hHeld := hHeld2
  clear hHeld2
  refine wpAnyH_take (i := 21) (v := ?_) (by simp only [List.getElem?_toArray, List.getElem?_cons_succ, List.getElem?_cons_zero]; rfl) (by kernel_rfl) (by kernel_rfl) (by kernel_rfl) (by exact fun _ _ _ h => h) (Or.inl ⟨by rfl, ?_⟩) (by assumption) ?_
  rotate_left 1
  · (intro w hSw; (try dsimp only at hSw); go_simp; try with_reducible rfl)
  try simp only [Act.put, List.setIfInBounds_toArray, List.set_cons_zero, List.set_cons_succ]
  refine wpAnyH_take (i := 22) (v := ?_) (by simp only [List.getElem?_toArray, List.getElem?_cons_succ, List.getElem?_cons_zero]; rfl) (by kernel_rfl) (by kernel_rfl) (by kernel_rfl) (by exact fun _ _ _ h => h) (Or.inl ⟨by rfl, ?_⟩) (by assumption) ?_
  rotate_left 1
  · (intro w hSw; (try dsimp only at hSw); go_simp; try with_reducible rfl)
  try simp only [Act.put, List.setIfInBounds_toArray, List.set_cons_zero, List.set_cons_succ]
  refine wpAnyH_done (by kernel_rfl) ?_ _
  have HO7 := Lib.hid hHeld.2
  clear hHeld
  go_wp2
  go_ret
  exact ⟨rfl, HO7.out⟩

theorem reads (os : Os) {H : Type} (enc : TypeId × Value → H) : ∃ places, DataW.whole enc Tryd.prog ((laidWorld os).forCall (fun _ _ => 0) ⟨#[], #[.agg #[.slice none 0 0, .int .i64 0, .int .i64 0, .slice none 0 0, .slice none 0 0]], []⟩).memory Tryd.f3.params.toList Rows.classChecksSpec.vars false #[.agg #[.slice none 0 0, .int .i64 0, .int .i64 0, .slice none 0 0, .slice none 0 0]].toList 8 = some ([.agg [.nil, .lit (.int .i64 0), .lit (.int .i64 0), .nil, .nil]], [], places) :=
  ⟨[], by kernel_rfl⟩

theorem laid_metW (os : Os) : laidMetH Tryd.prog L3 ((laidWorld os).forCall (fun _ _ => 0) ⟨#[], #[.agg #[.slice none 0 0, .int .i64 0, .int .i64 0, .slice none 0 0, .slice none 0 0]], []⟩).memory :=
  laid_met os _ (LaidIn.of_run [1, 2] 8 (by kernel_rfl) (by kernel_rfl) (by kernel_rfl) (by kernel_rfl)).met (by kernel_rfl)

set_option maxRecDepth 100000 in
theorem contract (H : Type) (enc : TypeId × Value → H) (W : World) (base : Nat) (args : Array Value) (ds gs : List (DataW H)) (before : List MemPlace)
    (hval0 : ∀ (j : Nat) t v, Tryd.f3.params[j]? = some t → args[j]? = some v → Value.okWide Tryd.prog W .any base t v)
    (hW : DataW.Whole enc Tryd.prog Tryd.f3.params.toList Rows.classChecksSpec.vars false W args.toList ds gs before) (hL : laidMetH Tryd.prog L3 W)
    (hsz0 : (DataW.weightsEach Tryd.prog (Tryd.f3.params.toList ++ Rows.classChecksSpec.plain.varTypes Tryd.prog) (ds ++ gs)).all (· ≤ reachBytes) = true)
    (hk : Rows.uptoSmall H (ds ++ gs) = true)
    : Calls Tryd.prog 3 args W fun e W' => ∃ v, e = .returned v ∧ Rows.classChecksSpec.post enc Tryd.prog Tryd.f3 false true false false W args v W' := by
  have hT := tabs hL
  have hE := errv hL
  have hsz := hsz0
  have hval : ∀ (j : Nat) t v, Tryd.f3.params[j]? = some t → args[j]? = some v → Value.okWide Tryd.prog W .any base t v := hval0
  have hW' := hW
  obtain ⟨p, q, hA0, hV, rfl, hfz, hnd⟩ := hW
  have hA : DataW.TrodAll enc Tryd.prog W 0 (fun _ => true) true Tryd.f3.params.toList args.toList ds p := hA0
  rw [Tryd.params3] at hA hval hsz
  obtain ⟨v0, vs0, d0, ds0, p0, q0, hargs, rfl, rfl, h0, r0⟩ := trodAll_cons hA
  obtain ⟨rfl, rfl, rfl⟩ := trodAll_nil r0
  obtain rfl : args = #[v0] := by cases args; simp_all
  obtain ⟨rfl, rfl⟩ := trodVars_none hV
  have k0 := h0
  have lt0 : ∀ x ∈ p0, x.block < W.heap.size := by obtain ⟨m, hm⟩ := k0; exact DataW.trod_lt m _ _ _ hm
  obtain ⟨vp0, vf0, vm0, z0, rfl, b0, l0, n0⟩ := arg_class (hval 0 26 v0 rfl rfl) h0 (light_arg (j := 0) hsz rfl rfl)
  have hb := of_decide_eq_true hk
  simp only [List.cons_append, List.nil_append, Rows.uptoBulkAll, Rows.uptoBulk] at hb
  have e0 : ∀ c ∈ z0.pool, c.text.size ≤ 1048576 := fun c hc => by have := n0 c hc; omega
  clear hA0 hval0
  refine (walkChecks vp0 vf0 vm0 z0 W b0 (fun c hc => Nat.le_trans (e0 c hc) (by decide)) hT hE).mono fun e W' ⟨he, on⟩ => ?_
  have bel := on.none
  subst he
  exact ⟨_, rfl, _, _, _, [], _, [], hW', trodAll_mk1 (shut_bool Tryd.underlying4 _), (trodAll_cons_mk (Below.trod laidOut (by kernel_rfl) (of_decide_eq_true (by kernel_rfl)) k0 bel lt0) trodAll_mk0), rfl, bel.frame _, fun h => by cases h⟩

set_option maxRecDepth 100000 in
theorem lifted (os : Os) (started : os.Started) (H : Type) (enc : TypeId × Value → H) (F : Stop.Interp) :
    ReturnsInHanded {} Tryd.checked os 3 .any ((Rows.OpenSpec.upto Rows.classChecksSpec).preRow enc Tryd.prog Tryd.f3 Rows.classChecksUptoRow.domain false Rows.classChecksUptoRow.laid) (((Rows.OpenSpec.upto Rows.classChecksSpec).at F).post enc Tryd.prog Tryd.f3 false true false false) := by
  obtain ⟨places, hx⟩ := reads os enc
  refine returnsInHanded_of_row (C := Tryd.checked) (s := (Rows.OpenSpec.upto Rows.classChecksSpec)) own started (by kernel_rfl) Tryd.func3
    (witness_row_at (enc := enc) (C := Tryd.checked) false (laidWorld os) #[.agg #[.slice none 0 0, .int .i64 0, .int .i64 0, .slice none 0 0, .slice none 0 0]] rfl (by kernel_rfl) (by kernel_rfl) (by kernel_rfl)
      (OpenSpec.preRow_of_cond 8 hx (by kernel_rfl) (fun k hk => by cases hk; kernel_rfl) (by kernel_rfl) (laid_metW os))) ?_
  intro W base args ds gs before hval hW _ hcond hsz hL _ _
  exact contract H enc W base args ds gs before hval hW hL hsz (hcond _ rfl)

theorem over : Rows.ClassChecksUptoSaid :=
  OpenClaim.holds_of_cond 3 Tryd.f3 rfl rfl rfl rfl rfl rfl rfl ⟨rfl, rfl, rfl, rfl, rfl⟩ rfl rfl rfl rfl rfl (by kernel_rfl) Tryd.func3 (by kernel_rfl)
    (of_decide_eq_true (by kernel_rfl)) (by unfold Func.isWrapper; first | (rw [if_pos (by decide +kernel)]; kernel_rfl) | (rw [if_neg (by decide +kernel)]; exact ⟨rfl, rfl⟩))
    (fun os started H enc _ F => by rw [OpenClaim.pre_eq_preRow]; exact lifted os started H enc F)

/-- No parameter wants a stand-in; the program looks (errors.As reads the types). -/
theorem plain (f : FuncId) (fn : Func) (hf : Tryd.pinned.checked.prog.funcNamed Rows.classChecksUptoRow.func = some f) (hfn : Tryd.pinned.checked.prog.funcs[f]? = some fn) :
    true = Tryd.pinned.checked.prog.looks [] ∧ ∀ (j : Nat) t, fn.params[j]? = some t → Tryd.pinned.checked.prog.wantsStandIn t = false := by
  obtain rfl : f = 3 := Option.some.inj ((show Tryd.prog.funcNamed Rows.classChecksUptoRow.func = some 3 by kernel_rfl).symm.trans hf) |>.symm
  obtain rfl : fn = Tryd.f3 := (Option.some.inj (Tryd.func3.symm.trans hfn)).symm
  refine ⟨by kernel_rfl, fun j t ht => ?_⟩
  rw [Tryd.params3] at ht
  obtain rfl : t = 26 := by simpa using Array.mem_of_getElem? ht
  exact (show Tryd.prog.wantsStandIn 26 = false by kernel_rfl)

theorem proved : Rows.ClassChecksUptoCardSaid :=
  Claim7.holds_tied_plain_at .later [] _ _ _ _ over (fun _ h => by cases h) (by kernel_rfl) (fun _ h => by cases h) classChecksUpto_row_tie rfl ⟨rfl, rfl⟩ (by kernel_rfl) rfl plain (by kernel_rfl)
#print axioms proved
end Go.Proofs.YtodhdiccfobcfaaDoor.classChecks
