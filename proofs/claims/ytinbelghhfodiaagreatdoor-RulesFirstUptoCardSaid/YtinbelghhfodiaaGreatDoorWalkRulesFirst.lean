/- The walk of the law RulesFirst. Condition: the arguments read as what they are. -/
import Derived.Test.YtinbelghhfodiaaGreatDoorMbX
namespace Go.Proofs.YtinbelghhfodiaaGreatDoor
set_option maxHeartbeats 16000000
open Lib (hid)
open Go.RowKit
set_option linter.unusedVariables false
set_option linter.unusedSimpArgs false
theorem sameFr (v1 s1 v2 s2 : Value) (l s : List TypeV) (fr : Bool) (w : World) (h1 : Types w v1 l) (h2 : Types w v2 l) (k1 : Types w s1 s) (k2 : Types w s2 s) (hl : l.length ≤ 9223372036854775806) (hs : s.length ≤ 9223372036854775806) :
  Calls Tryz.prog 10 #[.agg #[v1, s1, .bool fr], .agg #[v2, s2, .bool fr]] w fun e w' => e = .returned (.bool true) ∧ Only (fun _ => False) w w' := by
 obtain ⟨a1, c1, rfl, -⟩ := id h1
 obtain ⟨a2, c2, rfl, -⟩ := id h2
 obtain ⟨a3, c3, rfl, -⟩ := id k1
 obtain ⟨a4, c4, rfl, -⟩ := id k2
 have ho := ((Only.refl (fun _ => False) w).alloc (.cells #[.slice a1 l.length c1, .slice a3 s.length c3, .bool fr] 25)).alloc (.cells #[.slice a2 l.length c2, .slice a4 s.length c4, .bool fr] 25)
 have ha : ((w.alloc (.cells #[.slice a1 l.length c1, .slice a3 s.length c3, .bool fr] 25)).alloc (.cells #[.slice a2 l.length c2, .slice a4 s.length c4, .bool fr] 25)).heap[w.heap.size]? = some (.cells #[.slice a1 l.length c1, .slice a3 s.length c3, .bool fr] 25 (0, 0)) := ((Only.refl (fun _ => False) _).alloc _).heap (heap_alloc_new w _) (fun h => h)
 have hb : ((w.alloc (.cells #[.slice a1 l.length c1, .slice a3 s.length c3, .bool fr] 25)).alloc (.cells #[.slice a2 l.length c2, .slice a4 s.length c4, .bool fr] 25)).heap[w.heap.size + 1]? = some (.cells #[.slice a2 l.length c2, .slice a4 s.length c4, .bool fr] 25 (0, 0)) := by
  have := heap_alloc_new (w.alloc (.cells #[.slice a1 l.length c1, .slice a3 s.length c3, .bool fr] 25)) (.cells #[.slice a2 l.length c2, .slice a4 s.length c4, .bool fr] 25)
  rwa [World.size_alloc] at this
 obtain ⟨W0, hW0⟩ : ∃ W0, (w.alloc (.cells #[.slice a1 l.length c1, .slice a3 s.length c3, .bool fr] 25)).alloc (.cells #[.slice a2 l.length c2, .slice a4 s.length c4, .bool fr] 25) = W0 := ⟨_, rfl⟩
 rw [hW0] at ho ha hb
 have C1 := hid (fun W (hW : Only (fun _ => False) W0 W) => sameTy11 _ _ l W (h1.only (ho.trans hW (fun _ h _ => h))) (h2.only (ho.trans hW (fun _ h _ => h))) hl)
 have C2 := hid (fun W (hW : Only (fun _ => False) W0 W) => sameTy11 _ _ s W (k1.only (ho.trans hW (fun _ h _ => h))) (k2.only (ho.trans hW (fun _ h _ => h))) hs)
 obtain ⟨d0, d1, d2⟩ := cells3 ha
 obtain ⟨e0, e1, e2⟩ := cells3 hb
 have hfr : (fr == fr) = true := beq_self_eq_true fr
 have HA := hid ha
 have HB := hid hb
 have HO := hid ho
 have HW0 := hid hW0
 clear h1 h2 k1 k2 ho ha hb hW0 hl hs
 go_enter Tryz.func10, Tryz.ntmps10
 go_upto_region 1 with fail
 rw [HW0.out]
 go_wp2_with (fail)
 refine (C1.out _ (Only.refl _ _)).mono ?_
 rintro e w1 ⟨rfl, ho1⟩
 obtain ⟨x0, x1, x2⟩ := cells3 (ho1.heap HA.out (fun h => h))
 obtain ⟨y0, y1, y2⟩ := cells3 (ho1.heap HB.out (fun h => h))
 have HO1 := hid ho1
 clear ho1 d0 d1 d2 e0 e1 e2
 go_wp2_with (fail)
 refine (C2.out _ HO1.out).mono ?_
 rintro e w2 ⟨rfl, ho2⟩
 have HOZ := hid (HO.out.trans (HO1.out.trans ho2 (fun _ h _ => h)) (fun _ h _ => h))
 clear ho2
 go_wp2
 go_ret
 exact ⟨rfl, HOZ.out⟩
set_option maxRecDepth 100000 in
theorem walkFirst (v : Value) (cs : List ClassV) (n i z : Int) (w : World) (hc : Classes w v cs) (ht : ∀ c ∈ cs, Texts c.pool) (hT : Tabs w) (hE : ErrV w) :
  Calls Tryz.prog 4 #[v, .int .i64 n, .int .i64 i, .int .i64 z] w fun e w' => e = .returned (.bool true) ∧ Only (fun _ => False) w w' := by
 have CP := hid (pPlaces v cs n i w hc ht hT hE)
 clear hc ht hT hE
 go_enter Tryz.func4, Tryz.ntmps4
 go_wp2_with (fail)
 refine CP.out.mono ?_
 rintro e w1 ⟨ho1, hcase⟩
 rcases hcase with rfl | ⟨xb, yb, pb, qb, fv, cl, x, rfl, hb⟩
 ·have HOZ := hid ho1
  clear ho1 CP
  go_wp2
  go_ret
  exact ⟨rfl, HOZ.out⟩
 ·have hk64 : (kindsZ cs).length ≤ 64 := by have := kindsZ_len cs; have := hb.few; omega
  have hk0 : 0 < (kindsZ cs).length := by have := kindsZ_len cs; omega
  obtain ⟨in1, in2, in3, in4⟩ := hb.inl
  have hrlo := hb.rplace
  obtain ⟨-, -, -, -, -, -, -, -, -, -, -, hlo0, hlo, -, -⟩ := hrlo
  have CX := hid (fun W (hW : Only (fun _ => False) w1 W) => pType11 (hb.place.only hW) (hb.made.only hW).prog hk0 z)
  have CY := hid (fun W (hW : Only (fun _ => False) w1 W) => rType11 (hb.rplace.only hW) (hb.doc.only hW) hk64 z)
  have CF := hid (fun W (hW : Only (fun _ => False) w1 W) => pFirst11 (hb.place.only hW))
  have CG := hid (fun W (hW : Only (fun _ => False) w1 W) L hL => rFirst11 (hb.rplace.only hW) (hb.doc.only hW) _ rfl L hL)
  have hnz : nameZ (kindsZ cs) (n.toNat : Int) = ((kindsZ cs).getD n.toNat default).name := by unfold nameZ; rw [if_neg (by omega), Int.toNat_natCast]
  have HO1 := hid ho1
  clear in1 in2 in3 in4 hk64 hk0 ho1 CP hb
  unfold plZ at CX CF
  unfold rplZ at CY CG hlo0 hlo
  simp only at CX CF CY CG hlo0 hlo
  generalize (cs.getD (n.toNat - 13) default) = c at *
  generalize c.methods.getD i.toNat default = m at *
  obtain ⟨L, hLz⟩ := Int.eq_ofNat_of_zero_le hlo0
  have CGL := hid (fun W hW => CG.out W hW L hLz)
  rw [hLz, Int.toNat_natCast] at CF
  rw [hnz] at CF
  have hL64 : L ≤ 64 := by omega
  generalize ((kindsZ cs).getD n.toNat default).name = nm at *
  generalize decide ((((kindsZ cs).getD n.toNat default).meths.getD i.toNat default).name = initB) = fr at *
  have HLF := hid (firstZ_len m.flags nm fr x.1 L)
  generalize firstZ m.flags nm fr x.1 L = fz at *
  obtain ⟨er, her⟩ : ∃ q : Int, (if (typeAtZ (kindsZ cs) c.pool z).isSome = true then (0 : Int) else 91) = q := ⟨_, rfl⟩
  rw [her] at CX CY
  generalize typO (typeAtZ (kindsZ cs) c.pool z) = t at *
  obtain ⟨k, tn, d, el, a⟩ := t
  unfold valT at CX CY
  simp only at CX CY
  clear her hlo0 hlo hLz CG hnz
  go_wp2_with (fail)
  refine (CX.out _ (Only.refl _ _)).mono ?_
  rintro e w2 ⟨rfl, ho2⟩
  have ht2 := heap_alloc_new w2 (.cells #[.int .i64 k, .string tn, .int .i64 d, .int .i64 el, .int .i64 a] 33)
  have HO2 := hid (ho2.alloc (.cells #[.int .i64 k, .string tn, .int .i64 d, .int .i64 el, .int .i64 a] 33))
  obtain ⟨b12, hb12⟩ : ∃ q, w2.heap.size = q := ⟨_, rfl⟩
  rw [hb12] at ht2
  have HT2 := hid ht2
  clear ho2 ht2
  go_wp2_with (fail)
  refine (CY.out _ HO2.out).mono ?_
  rintro e w3 ⟨rfl, ho3⟩
  have ht3 := heap_alloc_new w3 (.cells #[.int .i64 k, .string tn, .int .i64 d, .int .i64 el, .int .i64 a] 33)
  have ho3a := ho3.alloc (.cells #[.int .i64 k, .string tn, .int .i64 d, .int .i64 el, .int .i64 a] 33)
  have HO3 := hid (HO2.out.trans ho3a (fun _ h _ => h))
  have HT23 := hid (ho3a.heap HT2.out (fun h => h))
  obtain ⟨b14, hb14⟩ : ∃ q, w3.heap.size = q := ⟨_, rfl⟩
  rw [hb14] at ht3
  have HT3 := hid ht3
  clear ho3 ht3 ho3a
  go_wp2_with (fail)
  refine (CF.out _ HO3.out).mono ?_
  rintro e w4 ⟨lv, sv, mm, rfl, hlr, hsr, -, -, ho4⟩
  unfold valFr
  have HLR := hid hlr.types
  have HSR := hid hsr.types
  have HO4 := hid (HO3.out.trans ho4 (fun _ h _ => h))
  have HT4 := hid (ho4.heap HT23.out (fun h => h))
  have HT5 := hid (ho4.heap HT3.out (fun h => h))
  clear hlr hsr ho4
  go_wp2_with (fail)
  refine (CGL.out _ HO4.out).mono ?_
  rintro e w5 ⟨rv, rfl, hrt, ho5⟩
  unfold valFr
  have CS := hid (sameFr lv sv rv (.slice none 0 0) fz [] fr w5 (HLR.out.only ho5) hrt (HSR.out.only ho5) (Types.nil _) (by have := HLF.out; omega) (by simp))
  have HO5 := hid (HO4.out.trans ho5 (fun _ h _ => h))
  have HT6 := hid (ho5.heap HT4.out (fun h => h))
  have HT7 := hid (ho5.heap HT5.out (fun h => h))
  clear hrt ho5
  go_wp2_with (fail)
  refine CS.out.mono ?_
  rintro e w6 ⟨rfl, ho6⟩
  obtain ⟨p0, p1, p2, p3, p4⟩ := cells5T (ho6.heap HT6.out (fun h => h))
  obtain ⟨q0, q1, q2, q3, q4⟩ := cells5T (ho6.heap HT7.out (fun h => h))
  have HOZ := hid (HO1.out.trans (HO5.out.trans ho6 (fun _ h _ => h)) (fun _ h _ => h))
  have heq : ∀ W, (binOp .eql 33 (.agg #[.int .i64 k, .string tn, .int .i64 d, .int .i64 el, .int .i64 a]) (.agg #[.int .i64 k, .string tn, .int .i64 d, .int .i64 el, .int .i64 a])).run Tryz.prog W = .ok (.bool true) W := fun W => by
   have h := eql_type ⟨k, tn, d, el, a⟩ ⟨k, tn, d, el, a⟩ W
   rw [eqT_self] at h
   exact h
  clear ho6
  go_wp2
  go_ret
  exact ⟨rfl, HOZ.out⟩
end Go.Proofs.YtinbelghhfodiaaGreatDoor
