/- The walk of the law RulesAssigns. Condition: the arguments read as what they are. -/
import Derived.Test.YtinbelghhfodiaaGreatDoorMaTkH
import Derived.Test.YtinbelghhfodiaaGreatDoorMaLnkYRulJ
import Derived.Test.YtinbelghhfodiaaGreatDoorMaRulH
import Derived.Test.YtinbelghhfodiaaGreatDoorMaRuwCKndG
namespace Go.Proofs.YtinbelghhfodiaaGreatDoor
set_option maxHeartbeats 16000000
open Lib (hid)
open Go.RowKit
set_option linter.unusedVariables false
set_option linter.unusedSimpArgs false
theorem all2_self (l : List PairV) : ∀ s : List TypeV, all2 (assignZ l) s s = true
 | [] => rfl
 | a :: r => by rw [all2, assignZ_self, all2_self l r]; rfl
theorem frZ_self (ks : List KindV) (la sa : List TypeV) (fa : Bool) : frZ ks la sa la sa fa fa = true := by unfold frZ; rw [all2_self, all2_self]; cases fa <;> rfl
set_option maxRecDepth 100000 in
theorem walkAssigns (v : Value) (cs : List ClassV) (n i : Int) (v1 v2 u1 u2 : Value) (la sa lb sb : List TypeV) (fa fb : Bool) (w : World) (hc : Classes w v cs) (ht : ∀ c ∈ cs, Texts c.pool) (hA : FrA w v1 v2 la sa) (hB : FrA w u1 u2 lb sb) (hT : Tabs w) (hE : ErrV w) :
  Calls Tryz.prog 3 #[v, .int .i64 n, .int .i64 i, .agg #[v1, v2, .bool fa], .agg #[u1, u2, .bool fb]] w fun e w' => e = .returned (.bool true) ∧ Only (fun _ => False) w w' := by
 obtain ⟨a1, c1, rfl, -⟩ := id hA.l
 obtain ⟨a2, c2, rfl, -⟩ := id hA.s
 obtain ⟨a3, c3, rfl, -⟩ := id hB.l
 obtain ⟨a4, c4, rfl, -⟩ := id hB.s
 have ho := ((Only.refl (fun _ => False) w).alloc (.cells #[.slice a1 la.length c1, .slice a2 sa.length c2, .bool fa] 25)).alloc (.cells #[.slice a3 lb.length c3, .slice a4 sb.length c4, .bool fb] 25)
 have ha : ((w.alloc (.cells #[.slice a1 la.length c1, .slice a2 sa.length c2, .bool fa] 25)).alloc (.cells #[.slice a3 lb.length c3, .slice a4 sb.length c4, .bool fb] 25)).heap[w.heap.size]? = some (.cells #[.slice a1 la.length c1, .slice a2 sa.length c2, .bool fa] 25 (0, 0)) := ((Only.refl (fun _ => False) _).alloc _).heap (heap_alloc_new w _) (fun h => h)
 have hb : ((w.alloc (.cells #[.slice a1 la.length c1, .slice a2 sa.length c2, .bool fa] 25)).alloc (.cells #[.slice a3 lb.length c3, .slice a4 sb.length c4, .bool fb] 25)).heap[w.heap.size + 1]? = some (.cells #[.slice a3 lb.length c3, .slice a4 sb.length c4, .bool fb] 25 (0, 0)) := by
  have := heap_alloc_new (w.alloc (.cells #[.slice a1 la.length c1, .slice a2 sa.length c2, .bool fa] 25)) (.cells #[.slice a3 lb.length c3, .slice a4 sb.length c4, .bool fb] 25)
  rwa [World.size_alloc] at this
 obtain ⟨W0, hW0⟩ : ∃ W0, (w.alloc (.cells #[.slice a1 la.length c1, .slice a2 sa.length c2, .bool fa] 25)).alloc (.cells #[.slice a3 lb.length c3, .slice a4 sb.length c4, .bool fb] 25) = W0 := ⟨_, rfl⟩
 rw [hW0] at ho ha hb
 have CP := hid (pPlaces v cs n i W0 (hc.only ho) ht (hT.only ho (fun h => h) (fun h => h)) (hE.only ho (fun h => h)))
 have HFA := hid (hA.only ho)
 have HFB := hid (hB.only ho)
 have HA := hid ha
 have HB := hid hb
 have HO := hid ho
 have HW0 := hid hW0
 clear hc ht hA hB hT hE ho ha hb hW0
 go_enter Tryz.func3, Tryz.ntmps3
 go_wp2_with (fail)
 rw [HW0.out]
 refine CP.out.mono ?_
 rintro e w1 ⟨ho1, hcase⟩
 rcases hcase with rfl | ⟨xb, yb, pb, qb, fv, cl, x, rfl, hb⟩
 ·have HOZ := hid (HO.out.trans ho1 (fun _ h _ => h))
  clear ho1 CP
  go_wp2
  go_ret
  exact ⟨rfl, HOZ.out⟩
 ·have hk64 : (kindsZ cs).length ≤ 64 := by have := kindsZ_len cs; have := hb.few; omega
  have hfk := fine_all hb.ok
  have hln := HFA.out.ln
  have hsn := HFA.out.sn
  have hlm := HFB.out.ln
  have hsm := HFB.out.sn
  have CA := hid (fun W (hW : Only (fun _ => False) w1 W) => pAssign11 (hb.place.only hW) hk64 hfk la sa lb sb fa fb _ _ _ _ (HFA.out.l.only (ho1.trans hW (fun _ h _ => h))) (HFA.out.s.only (ho1.trans hW (fun _ h _ => h))) (HFB.out.l.only (ho1.trans hW (fun _ h _ => h))) (HFB.out.s.only (ho1.trans hW (fun _ h _ => h))) HFA.out.lr HFA.out.sr (by omega) (by omega) (by omega) (by omega))
  have CS := hid (fun W (hW : Only (fun _ => False) w1 W) => pAssign11 (hb.place.only hW) hk64 hfk la sa la sa fa fa _ _ _ _ (HFA.out.l.only (ho1.trans hW (fun _ h _ => h))) (HFA.out.s.only (ho1.trans hW (fun _ h _ => h))) (HFA.out.l.only (ho1.trans hW (fun _ h _ => h))) (HFA.out.s.only (ho1.trans hW (fun _ h _ => h))) HFA.out.lr HFA.out.sr (by omega) (by omega) (by omega) (by omega))
  have CR := hid (fun W (hW : Only (fun _ => False) w1 W) => rAssign11 (hb.rplace.only hW) hk64 la sa lb sb fa fb _ _ _ _ (HFA.out.l.only (ho1.trans hW (fun _ h _ => h))) (HFA.out.s.only (ho1.trans hW (fun _ h _ => h))) (HFB.out.l.only (ho1.trans hW (fun _ h _ => h))) (HFB.out.s.only (ho1.trans hW (fun _ h _ => h))) (by omega) (by omega) (by omega) (by omega))
  rw [frZ_self] at CS
  obtain ⟨bz, hbz⟩ : ∃ x, frZ (kindsZ cs) la sa lb sb fa fb = x := ⟨_, rfl⟩
  rw [hbz] at CA CR
  have hbb : (bz == bz) = true := beq_self_eq_true bz
  obtain ⟨d0, d1, d2⟩ := cells3 (ho1.heap HA.out (fun h => h))
  obtain ⟨e0, e1, e2⟩ := cells3 (ho1.heap HB.out (fun h => h))
  have HO1 := hid (HO.out.trans ho1 (fun _ h _ => h))
  clear ho1 hb hbz hk64 hfk CP hln hsn hlm hsm
  go_upto_region 4 with fail
  refine wp_region_held_drew (S := fun W => W.cell? ⟨w.heap.size, 0, none⟩ = some (.slice a1 la.length c1) ∧ W.cell? ⟨w.heap.size, 1, none⟩ = some (.slice a2 sa.length c2) ∧ W.cell? ⟨w.heap.size, 2, none⟩ = some (.bool fa) ∧ W.cell? ⟨w.heap.size + 1, 0, none⟩ = some (.slice a3 lb.length c3) ∧ W.cell? ⟨w.heap.size + 1, 1, none⟩ = some (.slice a4 sb.length c4) ∧ W.cell? ⟨w.heap.size + 1, 2, none⟩ = some (.bool fb)) (by kernel_rfl) ⟨((Only.refl (fun _ => False) w1).drew).cell d0 (fun h => h), ((Only.refl (fun _ => False) w1).drew).cell d1 (fun h => h), ((Only.refl (fun _ => False) w1).drew).cell d2 (fun h => h), ((Only.refl (fun _ => False) w1).drew).cell e0 (fun h => h), ((Only.refl (fun _ => False) w1).drew).cell e1 (fun h => h), ((Only.refl (fun _ => False) w1).drew).cell e2 (fun h => h)⟩ (fun hHeld => ?_)
  refine tk2 0 (h := ?_)
  refine tk2 1 (h := ?_)
  refine tk2 2 (h := ?_)
  refine tk2 4 (h := ?_)
  refine tk2 5 (h := ?_)
  refine tk2 6 (h := ?_)
  refine tkR 3 (h := fun K hK => ?_)
  go_simp
  (refine (CA.out _ (Only.refl (fun _ => False) w1).drew).mono ?_; rintro e3 w3 ⟨rfl, ho3⟩; have HO3 := hid (((Only.refl (fun _ => False) w1).drew).trans ho3 (fun _ h _ => h)); clear ho3)
  go_wp2_with fail
  refine hK.out _ _ ?_ (fun hHeld2 => ?_)
  ·exact ⟨(HO3.out).cell d0 (fun h => h), (HO3.out).cell d1 (fun h => h), (HO3.out).cell d2 (fun h => h), (HO3.out).cell e0 (fun h => h), (HO3.out).cell e1 (fun h => h), (HO3.out).cell e2 (fun h => h)⟩
  clear hK K
  try simp only [Act.put, sIB, sC0, sCS]
  clear hHeld
  have hHeld := hHeld2
  clear hHeld2
  refine tkR 7 (h := fun K hK => ?_)
  go_simp
  (refine (CR.out _ HO3.out).mono ?_; rintro e7 w7 ⟨rfl, ho7⟩; have HO7 := hid ((HO3.out).trans ho7 (fun _ h _ => h)); clear ho7)
  go_wp2_with fail
  refine hK.out _ _ ?_ (fun hHeld2 => ?_)
  ·exact ⟨(HO7.out).cell d0 (fun h => h), (HO7.out).cell d1 (fun h => h), (HO7.out).cell d2 (fun h => h), (HO7.out).cell e0 (fun h => h), (HO7.out).cell e1 (fun h => h), (HO7.out).cell e2 (fun h => h)⟩
  clear hK K
  try simp only [Act.put, sIB, sC0, sCS]
  clear hHeld
  have hHeld := hHeld2
  clear hHeld2
  refine tk2 8 (h := ?_)
  refine tk2 9 (h := ?_)
  refine tk2 10 (h := ?_)
  refine tk2 11 (h := ?_)
  refine tk2 12 (h := ?_)
  refine tkR 13 (h := fun K hK => ?_)
  go_simp
  (refine (CS.out _ HO7.out).mono ?_; rintro e13 w13 ⟨rfl, ho13⟩; have HO13 := hid ((HO7.out).trans ho13 (fun _ h _ => h)); clear ho13)
  go_wp2_with fail
  refine hK.out _ _ ?_ (fun hHeld2 => ?_)
  ·exact ⟨(HO13.out).cell d0 (fun h => h), (HO13.out).cell d1 (fun h => h), (HO13.out).cell d2 (fun h => h), (HO13.out).cell e0 (fun h => h), (HO13.out).cell e1 (fun h => h), (HO13.out).cell e2 (fun h => h)⟩
  clear hK K
  try simp only [Act.put, sIB, sC0, sCS]
  clear hHeld
  have hHeld := hHeld2
  clear hHeld2
  refine tk2 14 (h := ?_)
  refine tk2 15 (h := ?_)
  refine wpAnyH_done (by kernel_rfl) ?_ _
  have HOZ := hid (HO1.out.trans HO13.out (fun _ h _ => h))
  go_wp2
  go_ret
  exact ⟨rfl, HOZ.out⟩
end Go.Proofs.YtinbelghhfodiaaGreatDoor
