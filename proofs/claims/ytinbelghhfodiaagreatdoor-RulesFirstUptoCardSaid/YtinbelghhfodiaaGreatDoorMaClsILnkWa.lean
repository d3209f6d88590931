import Derived.Test.YtinbelghhfodiaaGreatDoorMaLpVClsH
import Derived.Test.YtinbelghhfodiaaGreatDoorMaLpMeLpTb
import Derived.Test.YtinbelghhfodiaaGreatDoorMaLpRhLpRi
import Derived.Test.YtinbelghhfodiaaGreatDoorMaLnkHLnkN
namespace Go.Proofs.YtinbelghhfodiaaGreatDoor
set_option maxHeartbeats 16000000
open Lib (hid)
open Go.RowKit
set_option linter.unusedVariables false
set_option linter.unusedSimpArgs false
set_option maxRecDepth 100000 in
theorem catch_idle (p : Addr) (w : World) :
  CallsD Tryz.prog 92 #[.pointer (some p)] .returning w fun e u' w' => e = .returned (.tuple #[]) ∧ u' = .returning ∧ w' = w := by
 refine callsD_of_wpS Tryz.func92 rfl fun c₀ cs hu => ?_
 apply wpS_seq
 apply wpS_region
 simp [wpOpsS, go_sem, recoverD, hu, Tryz.ntmps92, Exit.thenS]
 refine wpS_of_wp ?_
 go_wp2
 cases c₀
 simp_all [bodyPostS, results, Tryz.results92]
theorem run_assert_errno (xT : TypeId) (z : Int) (w : World) : (Instr.typeAssert (.iface 34 (.int .i64 z)) xT 34 true).run Tryz.prog w = .ok (.tuple #[.int .i64 z, .bool true]) w := by
 simp [Instr.typeAssert, run_underlying Tryz.underlying34, go_sem, Result.andThen]
set_option maxRecDepth 100000 in
theorem catch_pan (p : Addr) (z : Int) (x : Value) (w : World) (hc : w.cell? p = some x) (hz : w.frozen? p = false) :
  CallsD Tryz.prog 92 #[.pointer (some p)] (.panicking [{ v := .iface 34 (.int .i64 z), recovered := false }]) w fun e u' w' =>
   e = .returned (.tuple #[]) ∧ u' = .panicking [{ v := .iface 34 (.int .i64 z), recovered := true }] ∧ w' = w.setCell p (.int .i64 z) := by
 refine callsD_of_wpS Tryz.func92 rfl fun c₀ cs hu => ?_
 apply wpS_seq
 apply wpS_region
 simp [wpOpsS, go_sem, recoverD, hu, Tryz.ntmps92, Exit.thenS]
 refine wpS_of_wp ?_
 have hta := fun xT w => run_assert_errno xT z w
 go_wp2
 cases c₀
 simp_all [bodyPostS, results, Tryz.results92]
def EndsC (z : Int) (e : Ending) : Prop := (z = 0 ∧ e = .returned (.tuple #[])) ∨ (z ≠ 0 ∧ e = pan z)
set_option maxRecDepth 100000 in
theorem refusal (n : FuncId) (hn : Enters Tryz.prog n) (first cap : Array Value) (w : World) (Q : Int → World → Prop)
  (h : Calls Tryz.prog n (first ++ cap) (w.alloc (.cells #[.int .i64 0] 34)) fun e w1 => ∃ z, EndsC z e ∧ Q z w1)
  (hq : ∀ z w1, Q z w1 → w1.heap[w.heap.size]? = some (.cells #[.int .i64 0] 34 (0, 0))) :
  Calls Tryz.prog 61 #[.func (.func n) first cap] w fun e w' => ∃ z w1, e = .returned (.int .i64 z) ∧ Q z w1 ∧ w' = w1.setCell ⟨w.heap.size, 0, none⟩ (.int .i64 z) := by
 have hmf : ∀ (fn : Fn) (first cap : Array Value) (w : World), (Instr.makeFunc fn first cap).run Tryz.prog w = .ok (.func fn first cap) w := fun _ _ _ _ => rfl
 have hen : ∀ args w, (callFunc n args).run Tryz.prog w = .ok (.enter n args) w := hn
 have H := hid h
 have HQ := hid hq
 clear h hq
 go_enter_defers Tryz.func61, Tryz.ntmps61
 go_wp2_with (fail)
 refine H.out.mono ?_
 rintro e w1 ⟨z, ⟨rfl, rfl⟩ | ⟨hz, rfl⟩, hq⟩
 ·have hb := HQ.out _ _ hq
  have q0 := cell_blk hb 0
  have f0 := frozen_blk hb 0
  simp at q0
  go_wp2
  refine leaves_cons (f := 92) (args := #[.pointer (some ⟨w.heap.size, 0, none⟩)]) (by simp) (by simp [go_sem]) ?_
  refine (catch_idle ⟨w.heap.size, 0, none⟩ _).mono ?_
  rintro e u' w'' ⟨rfl, rfl, rfl⟩
  show Leaves _ _ _ _ [] .returning _
  refine ⟨.int .i64 0, ?_, 0, w1, rfl, hq, rfl⟩
  simp [results, Tryz.results61, go_sem, q0, f0]
 ·have hb := HQ.out _ _ hq
  have q0 := cell_blk hb 0
  have f0 := frozen_blk hb 0
  simp at q0
  show Leaves _ _ _ _ [_] (.panicking _) _
  refine leaves_cons (f := 92) (args := #[.pointer (some ⟨w.heap.size, 0, none⟩)]) (by simp) (by simp [go_sem]) ?_
  refine (catch_pan ⟨w.heap.size, 0, none⟩ z _ _ q0 f0).mono ?_
  rintro e u' w'' ⟨rfl, rfl, rfl⟩
  show Leaves _ _ _ _ [] .returning _
  refine ⟨.int .i64 z, ?_, z, w1, rfl, hq, rfl⟩
  simp [results, Tryz.results61, go_sem, q0, f0]
theorem EndsC.of {Q : Prop} {z : Int} {w w' : World} {e : Ending} (h : GoIf Q z w e w') (hz : z ≠ 0) : EndsC (open Classical in if Q then 0 else z) e := by
 rcases h.1 with ⟨hq, rfl⟩ | ⟨hq, rfl⟩
 ·rw [if_pos hq]; exact .inl ⟨rfl, rfl⟩
 ·rw [if_neg hq]; exact .inr ⟨hz, rfl⟩
def LessP (c : ClassV) : Prop := (c.fields.length : Int) ≤ 64 ∧ (c.methods.length : Int) ≤ 64 ∧ ∀ m ∈ c.methods, m.traps.length ≤ 64
theorem LessP.iff (c : ClassV) : LessP c ↔ ¬ LongP c := by
 unfold LessP LongP
 constructor
 ·rintro ⟨h1, h2, h3⟩ (h | h | ⟨m, hm, h⟩)
  ·omega
  ·omega
  ·have := h3 m hm; omega
 ·intro h
  refine ⟨?_, ?_, fun m hm => ?_⟩
  ·apply Classical.byContradiction; intro h'; exact h (.inl (by omega))
  ·apply Classical.byContradiction; intro h'; exact h (.inr (.inl (by omega)))
  ·apply Classical.byContradiction; intro h'; exact h (.inr (.inr ⟨m, hm, by omega⟩))
set_option maxRecDepth 100000 in
theorem checkCountsP (vp vf vm : Value) (c : ClassV) (w : World) (hc : ClassM w vp vf vm c) :
  Calls Tryz.prog 95 #[.agg #[vp, .int .i64 c.this, .int .i64 c.super, vf, vm]] w (GoIf (LessP c) 2 w) := by
 obtain ⟨pool, this, super, fields, methods⟩ := c
 have hbx := heap_alloc_new w (.cells #[vp, .int .i64 this, .int .i64 super, vf, vm] 84)
 have HON := hid ((Only.refl (fun _ => False) w).alloc (.cells #[vp, .int .i64 this, .int .i64 super, vf, vm] 84))
 obtain ⟨hp, hf, hm, r1, r2⟩ := id hc
 simp only at *
 obtain ⟨af, cf, rfl, hf1, hf2⟩ := hf.1.slice
 obtain ⟨fm, hm1, hm2, hm3⟩ := id hm
 obtain ⟨am, cm, rfl, hm4, hm5⟩ := hm1.slice
 obtain ⟨ap, cp, rfl, _, _, _, _, _⟩ := id hp
 have HBX := hid hbx
 have HM1 := hid hm1
 have HM2 := hid hm2
 clear hc hp hf hm hbx hm1 hm2 hm3
 have HC := hid checkCountP
 go_enter Tryz.func95, Tryz.ntmps95
 go_wp2_with (fail)
 refine (checkCountP _ _).mono ?_
 rintro e w1 ⟨⟨g1, rfl⟩ | ⟨g1, rfl⟩, ho1⟩
 rotate_left
 ·exact ⟨rfl, GoIf.no (fun h => g1 h.1) (HON.out.trans ho1 (fun _ h => h.elim))⟩
 have hb1 := ho1.heap HBX.out (fun h => h)
 have q4 := cell_blk hb1 4
 simp at q4
 have HON1 := hid (HON.out.trans ho1 (fun _ h => h.elim))
 have HB1 := hid hb1
 have G1 := hid g1
 clear ho1 hb1 g1
 go_wp2_with (fail)
 refine (checkCountP _ _).mono ?_
 rintro e w2 ⟨⟨g2, rfl⟩ | ⟨g2, rfl⟩, ho2⟩
 rotate_left
 ·exact ⟨rfl, GoIf.no (fun h => g2 h.2.1) (HON1.out.trans ho2 (fun _ h => h.elim))⟩
 have hb2 := ho2.heap HB1.out (fun h => h)
 have q42 := cell_blk hb2 4
 simp at q42
 have HON2 := hid (HON1.out.trans ho2 (fun _ h => h.elim))
 have G2 := hid g2
 clear ho2 hb2 g2 HB1 HBX q4
 go_wp2
 go_loopw [15] (fun i wr => ∃ j : Nat, j ≤ methods.length ∧ i = .int .i64 j ∧ (∀ m ∈ methods.take j, m.traps.length ≤ 64) ∧ Only (fun _ => False) w2 wr) (fun i _ => methods.length - (intOf i).toNat)
 case atStart => exact ⟨0, Nat.zero_le _, rfl, (fun m hm => by simp at hm), Only.refl _ _⟩
 case round =>
  obtain ⟨j, hj, rfl, hall, hwr⟩ := hrel
  have HALL := hid hall
  have HWR := hid hwr
  have hon := HON2.out.trans hwr (fun _ h => h.elim)
  clear hall hwr
  by_cases hlt : j < methods.length
  ·have hjz : (j : Int) < (methods.length : Int) := by omega
   obtain ⟨b, o, e2, hat⟩ := HM1.out.at hlt
   subst e2
   obtain ⟨k0, k1, k2, k3, k4, k5, k6, k7⟩ := hat.only hon
   have hin := HM2.out j hlt
   have HMEM := hid (getD_mem hlt)
   have HTK := hid (take_snoc hlt)
   obtain ⟨m, hm⟩ : ∃ m, methods.getD j default = m := ⟨_, rfl⟩
   rw [hm] at hin HMEM HTK k0 k1 k2 k3 k4
   obtain ⟨at_, ct, e3, hs1, hs2⟩ := hin.2.1.1.slice
   rw [e3] at k6
   have HON := hid hon
   obtain ⟨ac, cc, e5, _⟩ := hin.1
   obtain ⟨ax, cx, e7, _⟩ := hin.2.2
   rw [e5] at k5
   rw [e7] at k7
   clear hat hin e3 e5 e7 hm hon
   go_wp2_with (fail)
   refine (checkCountP _ _).mono ?_
   rintro e w3 ⟨⟨g3, rfl⟩ | ⟨g3, rfl⟩, ho3⟩
   rotate_left
   ·exact ⟨rfl, GoIf.no (fun h => g3 (by have := h.2.2 m HMEM.out; omega)) ((HON.out.alloc _).trans ho3 (fun _ h => h.elim))⟩
   have G3 := hid g3
   have HO3 := hid ((HWR.out.alloc _).trans ho3 (fun _ h => h.elim))
   clear g3 ho3
   go_wp2
   go_roundw
   case rel => exact ⟨j + 1, by omega, by go_num, (fun x hx => by
    rw [HTK.out] at hx
    rcases List.mem_append.1 hx with hx | hx
    ·exact HALL.out x hx
    ·simp only [List.mem_cons, List.mem_nil_iff, or_false] at hx; subst hx; have := G3.out; omega), HO3.out⟩
   case measure => simp [intOf]; omega
  ·have hjn : j = methods.length := by omega
   have hjz : (methods.length : Int) ≤ (j : Int) := by omega
   have HL := hid (show LessP ⟨pool, this, super, fields, methods⟩ from ⟨G1.out, G2.out, fun m hm => HALL.out m (by rw [hjn, List.take_of_length_le (Nat.le_refl _)]; exact hm)⟩)
   have HON := hid hon
   clear hlt hjn HALL hon
   go_wp2
   go_end0
   exact GoIf.yes HL.out HON.out
def CheckTo (c : ClassV) (w : World) (e : Ending) (w' : World) : Prop := EndsC (clsZ c) e ∧ Only (fun _ => False) w w'
theorem CheckTo.no {c : ClassV} {z : Int} {w w' : World} (h : clsZ c = z) (hz : z ≠ 0) (ho : Only (fun _ => False) w w') : CheckTo c w (pan z) w' := ⟨.inr ⟨by rw [h]; exact hz, by rw [h]⟩, ho⟩
set_option maxRecDepth 100000 in
theorem clsCheck (vp vf vm : Value) (c : ClassV) (w : World) (hc : ClassM w vp vf vm c) (hT : Tabs w) (hg : ErrV w) :
  Calls Tryz.prog 63 #[.agg #[vp, .int .i64 c.this, .int .i64 c.super, vf, vm]] w (CheckTo c w) := by
 obtain ⟨pool, this, super, fields, methods⟩ := c
 have hbx := heap_alloc_new w (.cells #[vp, .int .i64 this, .int .i64 super, vf, vm] 84)
 have ho0 := (Only.refl (fun _ => False) w).alloc (.cells #[vp, .int .i64 this, .int .i64 super, vf, vm] 84)
 obtain ⟨hp, hf, hm, r1, r2⟩ := id hc
 simp only at *
 have cK := progCheck _ pool _ (hp.only ho0 (fun _ _ h => h)) (hT.only ho0 (fun h => h) (fun h => h)) (hg.only ho0 (fun h => h))
 have cN := fun w' (ho : Only (fun _ => False) w w') => checkCountsP vp vf vm ⟨pool, this, super, fields, methods⟩ w' (hc.only ho)
 obtain ⟨ap, cp, rfl, _, _, _, _, _⟩ := id hp
 obtain ⟨af, cf, rfl, hf1, hf2⟩ := hf.1.slice
 obtain ⟨fm, hm1, hm2, hm3⟩ := id hm
 obtain ⟨am, cm, rfl, hm4, hm5⟩ := hm1.slice
 unfold I64 at r1 r2
 have cC := fun i w' (ho : Only (fun _ => False) w w') => isClass _ pool i w' (hp.only ho (fun _ _ h => h))
 have cF := fun fl nm ds w' (ho : Only (fun _ => False) w w') => checkMemberP _ pool fl nm ds w' (hp.only ho (fun _ _ h => h))
 have cM := fun hb m vc vt vm w' (hi : Inside w m vc vt vm) (ho : Only (fun _ => False) w w') => checkMethodP _ pool m vc vt vm w' (hp.only ho (fun _ _ h => h)) hb (hi.only ho)
 have HC := hid hc
 have HO := hid ho0
 have HBX := hid hbx
 have HM1 := hid hm1
 have HM2 := hid hm2
 have CK := hid cK
 have CN := hid cN
 have CC := hid cC
 have CF := hid cF
 have CM := hid cM
 clear hc ho0 hbx hp hf hm hm1 hm2 hm3 cK cN cC cF cM hT hg
 obtain ⟨z, hz⟩ : ∃ z, checkZ pool = z := ⟨_, rfl⟩
 rw [hz] at CK
 have HZ := hid hz
 clear hz
 go_enter Tryz.func63, Tryz.ntmps63
 go_wp2_with (fail)
 refine CK.out.mono ?_
 rintro e w1 ⟨rfl, ho1⟩
 have hb1 := ho1.heap HBX.out (fun h => h)
 have HB1 := hid hb1
 have HO1 := hid (HO.out.trans ho1 (fun _ h => h.elim))
 clear ho1 CK
 by_cases h0 : z = 0
 rotate_left
 ·have HR := hid (show clsZ ⟨pool, this, super, fields, methods⟩ = z by rw [clsZ_pool (by show checkZ pool ≠ 0; rw [HZ.out]; exact h0)]; exact HZ.out)
  go_wp2_with (go_at_call 93; refine (refuseN z h0 _).mono ?_; rintro e w' ⟨rfl, rfl⟩)
  exact ⟨rfl, CheckTo.no HR.out h0 HO1.out⟩
 subst h0
 have q0 := cell_blk hb1 0
 have q1 := cell_blk hb1 1
 have q2 := cell_blk hb1 2
 have q3 := cell_blk hb1 3
 have q4 := cell_blk hb1 4
 simp at q0 q1 q2 q3 q4
 clear hb1
 go_wp2_with (go_at_call 93; refine (refuse0 _).mono ?_; rintro e w' ⟨rfl, rfl⟩)
 refine (CN.out _ HO1.out).mono ?_
 rintro e w2 ⟨⟨g1, rfl⟩ | ⟨g1, rfl⟩, ho2⟩
 rotate_left
 ·have HR := clsZ_long (c := ⟨pool, this, super, fields, methods⟩) HZ.out (Classical.byContradiction fun h => g1 ((LessP.iff _).2 h))
  exact ⟨rfl, CheckTo.no HR (by decide) (HO1.out.trans ho2 (fun _ h => h.elim))⟩
 have HNL := hid ((LessP.iff _).1 g1)
 have wrong : ¬ RightP ⟨pool, this, super, fields, methods⟩ → clsZ ⟨pool, this, super, fields, methods⟩ = 50 := clsZ_wrong HZ.out HNL.out
 have WRONG := hid wrong
 have hb2 := ho2.heap HB1.out (fun h => h)
 have HB2 := hid hb2
 have HO2 := hid (HO1.out.trans ho2 (fun _ h => h.elim))
 clear q0 q1 q2 q3 q4
 have q0 := cell_blk hb2 0
 have q1 := cell_blk hb2 1
 simp at q0 q1
 clear wrong g1 ho2 hb2 CN HB1
 go_wp2_with (fail)
 refine (CC.out _ _ HO2.out).mono ?_
 rintro e w3 ⟨rfl, ho3⟩
 have hb3 := ho3.heap HB2.out (fun h => h)
 have HB3 := hid hb3
 have HO3 := hid (HO2.out.trans ho3 (fun _ h => h.elim))
 clear q0 q1
 have q0 := cell_blk hb3 0
 have q2 := cell_blk hb3 2
 simp at q0 q2
 clear hb3 ho3 HB2
 obtain ⟨b, hb⟩ : ∃ b, (classZ pool this).2 = b := ⟨_, rfl⟩
 rw [hb]
 have HBT := hid hb
 clear hb
 cases b
 ·go_wp2_with (go_at_call 96; refine (mustF _).mono ?_; rintro e w' ⟨rfl, rfl⟩)
  exact ⟨rfl, CheckTo.no (WRONG.out (fun h => by rw [h.1] at HBT; exact absurd HBT.out (by decide))) (by decide) HO3.out⟩
 go_wp2_with (go_at_call 96; refine (mustT _).mono ?_; rintro e w' ⟨rfl, rfl⟩)
 refine (CC.out _ _ HO3.out).mono ?_
 rintro e w4 ⟨rfl, ho4⟩
 have hb4 := ho4.heap HB3.out (fun h => h)
 have HB4 := hid hb4
 have HO4 := hid (HO3.out.trans ho4 (fun _ h => h.elim))
 clear q0 q2
 have q0 := cell_blk hb4 0
 have q3 := cell_blk hb4 3
 simp at q0 q3
 clear hb4 ho4 HB3
 obtain ⟨b, hb⟩ : ∃ b, (classZ pool super).2 = b := ⟨_, rfl⟩
 rw [hb]
 have HBS := hid hb
 clear hb
 cases b
 ·go_wp2_with (go_at_call 96; refine (mustF _).mono ?_; rintro e w' ⟨rfl, rfl⟩)
  exact ⟨rfl, CheckTo.no (WRONG.out (fun h => by have := h.2.1; rw [this] at HBS; exact absurd HBS.out (by decide))) (by decide) HO4.out⟩
 go_wp2_with (go_at_call 96; refine (mustT _).mono ?_; rintro e w' ⟨rfl, rfl⟩)
 go_loopw [27] (fun i wr => ∃ j : Nat, j ≤ fields.length ∧ i = .int .i64 j ∧ (∀ f ∈ fields.take j, FieldP pool f) ∧ Only (fun _ => False) w4 wr) (fun i _ => fields.length - (intOf i).toNat)
 case atStart => exact ⟨0, Nat.zero_le _, rfl, (fun m hm => by simp at hm), Only.refl _ _⟩
 case round =>
  obtain ⟨j, hj, rfl, hall, hwr⟩ := hrel
  have hbr := hwr.heap HB4.out (fun h => h)
  have HBR := hid hbr
  clear q0 q3
  have q0 := cell_blk hbr 0
  have q4 := cell_blk hbr 4
  simp at q0 q4
  have HALL := hid hall
  have HWR := hid hwr
  have hon := HO4.out.trans hwr (fun _ h => h.elim)
  have HON := hid hon
  clear hall hwr hbr
  by_cases hlt : j < fields.length
  ·have hjz : (j : Int) < (fields.length : Int) := by omega
   have HFF := hid HC.out.2.1
   obtain ⟨b, o, e2, hat⟩ := HFF.out.1.at hlt
   subst e2
   obtain ⟨k0, k1, k2⟩ := hat.only hon
   have HMEM := hid (getD_mem hlt)
   have HTK := hid (take_snoc hlt)
   obtain ⟨f, hf⟩ : ∃ f, fields.getD j default = f := ⟨_, rfl⟩
   rw [hf] at HMEM HTK k0 k1 k2
   obtain ⟨fl, nm, ds⟩ := f
   simp only at k0 k1 k2
   have hoa := (Only.refl (fun _ => False) wr).alloc (.cells #[.int .i64 fl, .int .i64 nm, .int .i64 ds] 151)
   have q0a := hoa.cell q0 (fun h => h)
   have HOA := hid (HWR.out.trans hoa (fun _ h => h.elim))
   have HONA := hid (hon.trans hoa (fun _ h => h.elim))
   clear hat hf hon hoa
   go_wp2_with (fail)
   refine (CF.out _ _ _ _ HONA.out).mono ?_
   rintro e w5 ⟨⟨g5, rfl⟩ | ⟨g5, rfl⟩, ho5⟩
   rotate_left
   ·exact ⟨rfl, CheckTo.no (WRONG.out (fun h => g5 (h.2.2.1 _ HMEM.out))) (by decide) (HONA.out.trans ho5 (fun _ h => h.elim))⟩
   have FIN := hid (show ∀ x ∈ fields.take (j + 1), FieldP pool x from fun x hx => by
    rw [HTK.out] at hx
    rcases List.mem_append.1 hx with hx | hx
    ·exact HALL.out x hx
    ·simp only [List.mem_cons, List.mem_nil_iff, or_false] at hx; subst hx; exact g5)
   have HO5 := hid (HOA.out.trans ho5 (fun _ h => h.elim))
   clear g5 ho5 HALL HTK
   go_wp2
   go_roundw
   case rel => exact ⟨j + 1, by omega, by go_num, FIN.out, HO5.out⟩
   case measure => simp [intOf]; omega
  ·have hjn : j = fields.length := by omega
   have hjz : (fields.length : Int) ≤ (j : Int) := by omega
   have HFS := hid (show ∀ f ∈ fields, FieldP pool f from fun f hf => HALL.out f (by rw [hjn, List.take_of_length_le (Nat.le_refl _)]; exact hf))
   have HBB := hid (bare_of_right HZ.out)
   clear hjn HALL hon
   go_wp2
   go_loopw [44] (fun i wr2 => ∃ j : Nat, j ≤ methods.length ∧ i = .int .i64 j ∧ (∀ m ∈ methods.take j, MethodP pool m) ∧ Only (fun _ => False) wr wr2) (fun i _ => methods.length - (intOf i).toNat)
   case atStart => exact ⟨0, Nat.zero_le _, rfl, (fun m hm => by simp at hm), Only.refl _ _⟩
   case round =>
    obtain ⟨j, hj, rfl, hall, hwr⟩ := hrel
    have hbr := hwr.heap HBR.out (fun h => h)
    clear q0 q4
    have q0 := cell_blk hbr 0
    simp at q0
    have HALL := hid hall
    have HWR2 := hid hwr
    have hon := HON.out.trans hwr (fun _ h => h.elim)
    have HON2 := hid hon
    clear hall hwr hbr
    by_cases hlt : j < methods.length
    ·have hjz : (j : Int) < (methods.length : Int) := by omega
     obtain ⟨b, o, e2, hat⟩ := HM1.out.at hlt
     subst e2
     obtain ⟨k0, k1, k2, k3, k4, k5, k6, k7⟩ := hat.only hon
     have hin := HM2.out j hlt
     have HMEM := hid (getD_mem hlt)
     have HTK := hid (take_snoc hlt)
     obtain ⟨m, hm⟩ : ∃ m, methods.getD j default = m := ⟨_, rfl⟩
     rw [hm] at hin HMEM HTK k0 k1 k2 k3 k4
     have hcall := fun w' ho => CM.out HBB.out m _ _ _ w' hin ho
     obtain ⟨ac, cc, e5, _⟩ := hin.1
     obtain ⟨at_, ct, e6, _, _⟩ := hin.2.1.1.slice
     obtain ⟨ax, cx, e7, _⟩ := hin.2.2
     rw [e5, e6, e7] at hcall
     rw [e5] at k5
     rw [e6] at k6
     rw [e7] at k7
     have HCALL := hid hcall
     have hoa := (Only.refl (fun _ => False) wr).alloc (.cells #[.int .i64 m.flags, .int .i64 m.name, .int .i64 m.desc, .int .i64 m.stack, .int .i64 m.locals, .slice ac m.code.length cc, .slice at_ m.traps.length ct, .slice ax m.maps.length cx] 63)
     have q0a := hoa.cell q0 (fun h => h)
     have HOA := hid (HWR2.out.trans hoa (fun _ h => h.elim))
     have HONA := hid (hon.trans hoa (fun _ h => h.elim))
     clear hat hin e5 e6 e7 hm hon hcall hoa
     go_wp2_with (fail)
     refine (HCALL.out _ HONA.out).mono ?_
     rintro e w5 ⟨⟨g5, rfl⟩ | ⟨g5, rfl⟩, ho5⟩
     rotate_left
     ·exact ⟨rfl, CheckTo.no (WRONG.out (fun h => g5 (h.2.2.2 _ HMEM.out))) (by decide) (HONA.out.trans ho5 (fun _ h => h.elim))⟩
     have FIN := hid (show ∀ x ∈ methods.take (j + 1), MethodP pool x from fun x hx => by
      rw [HTK.out] at hx
      rcases List.mem_append.1 hx with hx | hx
      ·exact HALL.out x hx
      ·simp only [List.mem_cons, List.mem_nil_iff, or_false] at hx; subst hx; exact g5)
     have HO5 := hid (HOA.out.trans ho5 (fun _ h => h.elim))
     clear g5 ho5 HALL HTK
     go_wp2
     go_roundw
     case rel => exact ⟨j + 1, by omega, by go_num, FIN.out, HO5.out⟩
     case measure => simp [intOf]; omega
    ·have hjn : j = methods.length := by omega
     have hjz : (methods.length : Int) ≤ (j : Int) := by omega
     have HR := hid (clsZ_ok HZ.out HNL.out (show RightP ⟨pool, this, super, fields, methods⟩ from ⟨HBT.out, HBS.out, HFS.out, fun m hm => HALL.out m (by rw [hjn, List.take_of_length_le (Nat.le_refl _)]; exact hm)⟩))
     clear hlt hjn HALL hon
     go_wp2
     go_end0
     exact ⟨.inl ⟨HR.out, rfl⟩, HON2.out⟩
set_option maxRecDepth 100000 in
theorem progClsCheck (vp vf vm : Value) (c : ClassV) (w : World) (hc : ClassM w vp vf vm c) (hT : Tabs w) (hg : ErrV w) :
  Calls Tryz.prog 29 #[.agg #[vp, .int .i64 c.this, .int .i64 c.super, vf, vm]] w fun e w' => e = .returned (.int .i64 (clsZ c)) ∧ Only (fun _ => False) w w' := by
 have hmf : ∀ (fn : Fn) (first cap : Array Value) (w : World), (Instr.makeFunc fn first cap).run Tryz.prog w = .ok (.func fn first cap) w := fun _ _ _ _ => rfl
 have hen : Enters Tryz.prog 62 := enters_of Tryz.func62 (by kernel_rfl) rfl
 have ho0 := (Only.refl (fun _ => False) w).alloc (.cells #[vp, .int .i64 c.this, .int .i64 c.super, vf, vm] 84)
 have ho1 := ho0.alloc (.cells #[.int .i64 0] 34)
 have hbx := heap_alloc_new w (.cells #[vp, .int .i64 c.this, .int .i64 c.super, vf, vm] 84)
 have hb1 := ((Only.refl (fun _ => False) _).alloc (.cells #[.int .i64 0] 34)).heap hbx (fun h => h)
 have he1 := heap_alloc_new (w.alloc (.cells #[vp, .int .i64 c.this, .int .i64 c.super, vf, vm] 84)) (.cells #[.int .i64 0] 34)
 have cK := clsCheck vp vf vm c _ (hc.only ho1) (hT.only ho1 (fun h => h) (fun h => h)) (hg.only ho1 (fun h => h))
 obtain ⟨hp, hf, hm, r1, r2⟩ := id hc
 obtain ⟨ap, cp, rfl, _, _, _, _, _⟩ := id hp
 obtain ⟨af, cf, rfl, hf1, hf2⟩ := hf.1.slice
 obtain ⟨fm, hm1, hm2, hm3⟩ := id hm
 obtain ⟨am, cm, rfl, hm4, hm5⟩ := hm1.slice
 obtain ⟨pool, this, super, fields, methods⟩ := c
 simp only at *
 have cL : Calls Tryz.prog 62 #[.pointer (some ⟨w.heap.size, 0, none⟩)] ((w.alloc (.cells #[.slice ap pool.length cp, .int .i64 this, .int .i64 super, .slice af fields.length cf, .slice am methods.length cm] 84)).alloc (.cells #[.int .i64 0] 34))
   fun e w1 => ∃ z, EndsC z e ∧ (z = clsZ ⟨pool, this, super, fields, methods⟩ ∧ Only (fun _ => False) ((w.alloc (.cells #[.slice ap pool.length cp, .int .i64 this, .int .i64 super, .slice af fields.length cf, .slice am methods.length cm] 84)).alloc (.cells #[.int .i64 0] 34)) w1) := by
  have q0 := cell_blk hb1 0
  have q1 := cell_blk hb1 1
  have q2 := cell_blk hb1 2
  have q3 := cell_blk hb1 3
  have q4 := cell_blk hb1 4
  have CK := hid cK
  clear cK hc hp hf hm hm1 hm2 hm3 hT hg ho0 ho1 hb1 he1 hbx
  generalize hW : ((w.alloc (.cells #[.slice ap pool.length cp, .int .i64 this, .int .i64 super, .slice af fields.length cf, .slice am methods.length cm] 84)).alloc (.cells #[.int .i64 0] 34)) = W at *
  simp at q0 q1 q2 q3 q4
  clear hW
  go_enter Tryz.func62, Tryz.ntmps62
  go_wp2_with (fail)
  refine CK.out.mono ?_
  rintro e w1 ⟨⟨hz, rfl⟩ | ⟨hz, rfl⟩, ho⟩
  ·have HO := hid ho
   have HZ := hid hz
   clear ho hz
   go_wp2
   go_end0
   exact ⟨0, .inl ⟨rfl, rfl⟩, HZ.out.symm, HO.out⟩
  ·exact ⟨rfl, _, .inr ⟨hz, rfl⟩, rfl, ho⟩
 have cR := refusal 62 hen #[] #[.pointer (some ⟨w.heap.size, 0, none⟩)] (w.alloc (.cells #[.slice ap pool.length cp, .int .i64 this, .int .i64 super, .slice af fields.length cf, .slice am methods.length cm] 84)) (fun z w1 => z = clsZ ⟨pool, this, super, fields, methods⟩ ∧ Only (fun _ => False) ((w.alloc (.cells #[.slice ap pool.length cp, .int .i64 this, .int .i64 super, .slice af fields.length cf, .slice am methods.length cm] 84)).alloc (.cells #[.int .i64 0] 34)) w1) (by simpa using cL) (fun z w1 h => h.2.heap he1 (fun h => h))
 have CR := hid cR
 have HO := hid ho1
 clear cL cR cK hc hp hf hm hm1 hm2 hm3 hT hg ho0 ho1 hb1 he1 hbx hen
 go_enter Tryz.func29, Tryz.ntmps29
 go_wp2_with (fail)
 refine CR.out.mono ?_
 rintro e w' ⟨z, w1, rfl, ⟨rfl, ho⟩, rfl⟩
 have HO1 := hid (HO.out.trans ho (fun _ h => h.elim))
 clear ho
 go_wp2
 go_ret
 exact ⟨rfl, HO1.out.setCell (fun hl => by simp at hl; omega) _⟩
end Go.Proofs.YtinbelghhfodiaaGreatDoor
namespace Go.Proofs.YtinbelghhfodiaaGreatDoor
set_option maxHeartbeats 16000000
open Lib (hid)
open Go.RowKit Go.Maps
set_option linter.unusedVariables false
set_option linter.unusedSimpArgs false
theorem right_good {cs : List ClassV} (h0 : ∀ c ∈ cs, clsZ c = 0) (hl : cs.length ≤ 16) (h : RightK (kindsZ cs)) : GoodK (kindsZ cs) := by
 have hh := (rules_right h0).2 h
 exact rules_good h0 hl hh.r1 hh.r2
structure MadeP (fv : Nat → Value) (w : World) (pb : Nat) (cs : List ClassV) (cl : Nat → ClassV) : Prop where
 prog : ProgG (fun b => ∃ i, i < (kindsZ cs).length ∧ (fv i).ownBlock = some b) fv w pb (kindsZ cs) cl (fun a p => (slotAt (kindsZ cs) a p : Int))
 cls : ∀ i, 13 ≤ i → i < (kindsZ cs).length → cl i = cs.getD (i - 13) default
theorem MadeP.only {fv : Nat → Value} {w w' : World} {pb : Nat} {cs : List ClassV} {cl : Nat → ClassV} (h : MadeP fv w pb cs cl) (ho : Only (fun _ => False) w w') : MadeP fv w' pb cs cl := ⟨h.prog.only ho, h.cls⟩
def BuildTo (w : World) (cs : List ClassV) (e : Ending) (w' : World) : Prop :=
 Only (fun _ => False) w w' ∧ ((buildZ cs ≠ 0 ∧ e = .returned (.tuple #[.pointer none, .int .i64 (buildZ cs)])) ∨
  (buildZ cs = 0 ∧ ∃ pb fv cl, e = .returned (.tuple #[.pointer (some ⟨pb, 0, none⟩), .int .i64 0]) ∧ MadeP fv w' pb cs cl))
theorem build_long {cs : List ClassV} (h : 16 < cs.length) : buildZ cs = 2 := by unfold buildZ; rw [if_pos h]
theorem build_err {cs : List ClassV} (h : ¬ 16 < cs.length) (he : errsC cs ≠ 0) : buildZ cs = errsC cs := by unfold buildZ; rw [if_neg h, if_pos he]
theorem build_no {cs : List ClassV} (h : ¬ 16 < cs.length) (he : errsC cs = 0) (hr : ¬ RightK (kindsZ cs)) : buildZ cs = 90 := by unfold buildZ; rw [if_neg h, if_neg (by simp [he]), if_neg hr]
theorem build_yes {cs : List ClassV} (h : ¬ 16 < cs.length) (he : errsC cs = 0) (hr : RightK (kindsZ cs)) : buildZ cs = 0 := by unfold buildZ; rw [if_neg h, if_neg (by simp [he]), if_pos hr]
theorem build_zero {cs : List ClassV} (h : buildZ cs = 0) : cs.length ≤ 16 ∧ (∀ c ∈ cs, clsZ c = 0) ∧ RightK (kindsZ cs) := by
 unfold buildZ at h
 by_cases h1 : 16 < cs.length
 ·rw [if_pos h1] at h; exact absurd h (by decide)
 ·rw [if_neg h1] at h
  by_cases h2 : errsC cs ≠ 0
  ·rw [if_pos h2] at h; exact absurd h h2
  ·rw [if_neg h2] at h
   by_cases h3 : RightK (kindsZ cs)
   ·exact ⟨by omega, errsC_zero (by omega), h3⟩
   ·rw [if_neg h3] at h; exact absurd h (by decide)
set_option maxRecDepth 100000 in
theorem pBuild (v : Value) (cs : List ClassV) (w : World) (hc : Classes w v cs) (hT : Tabs w) (hg : ErrV w) :
  Calls Tryz.prog 13 #[v] w (BuildTo w cs) := by
 have hc0 := hc
 obtain ⟨f, hsl, hcm⟩ := hc
 obtain ⟨ao, cap, rfl, p1, p2, p3, -⟩ := id hsl
 have HSL := hid hsl
 have HCM := hid hcm
 have HC0 := hid hc0
 have HT := hid hT
 have HGV := hid hg
 clear hsl hcm hc0 hT hg p3
 go_enter Tryz.func13, Tryz.ntmps13
 by_cases h16 : 16 < cs.length
 ·have hz : (16 : Int) < (cs.length : Int) := by omega
  have HB := hid (build_long h16)
  clear h16
  go_wp2
  go_ret2
  exact ⟨Only.refl _ _, .inl ⟨by rw [HB.out]; decide, by rw [HB.out]; rfl⟩⟩
 have hz : ¬ (16 : Int) < (cs.length : Int) := by omega
 have H16 := hid h16
 have hcz : ((cs.length : Nat) : Int) ≤ 16 := by omega
 have HCL := hid (show cs.length ≤ 16 by omega)
 clear h16
 go_wp2
 clear hz
 go_loopw [5, 6, 13] (fun _ _ iv wr => ∃ j : Nat, iv = .int .i64 j ∧ j ≤ cs.length ∧ Hid (errsC cs = errsC (cs.drop j)) ∧ Hid (Only (fun _ => False) w wr)) (fun _ _ iv _ => cs.length - (intOf iv).toNat)
 case atStart => exact ⟨0, rfl, Nat.zero_le _, hid rfl, hid (Only.refl _ _)⟩
 case round =>
  obtain ⟨j, rfl, hj, HE, HON⟩ := hrel
  by_cases hlt : j < cs.length
  ·have hjz : (j : Int) < (cs.length : Int) := by omega
   have hj0 : (0 : Int) ≤ (j : Int) := by omega
   have HST := hid (errsC_at hlt)
   rw [← HE.out] at HST
   obtain ⟨b, o, rfl, y⟩ := Sl.at HSL.out hlt
   obtain ⟨y0, y1, y2, y3, y4⟩ := y
   have y0 := HON.out.cell y0 (fun h => h)
   have y1 := HON.out.cell y1 (fun h => h)
   have y2 := HON.out.cell y2 (fun h => h)
   have y3 := HON.out.cell y3 (fun h => h)
   have y4 := HON.out.cell y4 (fun h => h)
   have hcj := HCM.out j hlt
   generalize (f j).1 = vp at *
   generalize (f j).2.1 = vf at *
   generalize (f j).2.2 = vm at *
   obtain ⟨z1, z2, rfl, -⟩ := id hcj.1
   obtain ⟨z3, z4, rfl, -⟩ := id hcj.2.1.1
   obtain ⟨gm, hgm, -, -⟩ := id hcj.2.2.1
   obtain ⟨z5, z6, rfl, -⟩ := id hgm
   clear hgm
   obtain ⟨vp, hvp⟩ : ∃ x, x = Value.slice z1 (cs.getD j default).pool.length z2 := ⟨_, rfl⟩
   obtain ⟨vf, hvf⟩ : ∃ x, x = Value.slice z3 (cs.getD j default).fields.length z4 := ⟨_, rfl⟩
   obtain ⟨vm, hvm⟩ : ∃ x, x = Value.slice z5 (cs.getD j default).methods.length z6 := ⟨_, rfl⟩
   obtain ⟨c, hcc⟩ : ∃ c, cs.getD j default = c := ⟨_, rfl⟩
   rw [hcc] at y0 y1 y2 y3 y4 hcj HST hvp hvf hvm
   rw [← hvp, ← hvf, ← hvm] at hcj
   have hal := (Only.refl (fun _ => False) wr).alloc (.cells #[vp, .int .i64 c.this, .int .i64 c.super, vf, vm] 84)
   have hoa := HON.out.trans hal (fun _ h _ => h)
   have C1 := hid (progClsCheck vp vf vm c _ (by obtain ⟨a1, a2, a3, a4, a5⟩ := hcj; exact ⟨a1.only hoa (fun _ _ h => h), a2.only hoa, a3.only hoa, a4, a5⟩) (HT.out.only hoa (fun h => h) (fun h => h)) (HGV.out.only hoa (fun h => h)))
   have HOA := hid hoa
   rw [hvp, hvf, hvm] at C1 HOA
   clear hcj hal hoa hcc hvp hvf hvm
   by_cases hz0 : clsZ c = 0
   ·have HE2 := hid (show errsC cs = errsC (cs.drop (j + 1)) by rw [HST.out, if_neg (by simp [hz0])])
    rw [hz0] at C1
    clear hz0
    go_wp2_with (fail)
    refine C1.out.mono ?_
    rintro e w5 ⟨rfl, ho5⟩
    have HO5 := hid (HOA.out.trans ho5 (fun _ h _ => h))
    clear ho5 y0 y1 y2 y3 y4
    go_wp2
    go_roundw
    case rel => exact ⟨j + 1, by go_num, by omega, HE2, HO5⟩
    case measure => simp [intOf]; omega
   ·have HE2 := hid (show errsC cs = clsZ c by rw [HST.out, if_pos hz0])
    have HB := hid (show buildZ cs = clsZ c by rw [build_err H16.out (by rw [HE2.out]; exact hz0), HE2.out])
    have HZ0 := hid hz0
    have hzb : (clsZ c != 0) = true := by simpa using hz0
    generalize clsZ c = ec at *
    clear hz0
    go_wp2_with (fail)
    refine C1.out.mono ?_
    rintro e w5 ⟨rfl, ho5⟩
    have HO5 := hid (HOA.out.trans ho5 (fun _ h _ => h))
    clear ho5 y0 y1 y2 y3 y4
    go_wp2
    go_ret2
    exact ⟨HO5.out, .inl ⟨by rw [HB.out]; exact HZ0.out, by rw [HB.out]; rfl⟩⟩
  ·obtain rfl : j = cs.length := by omega
   have HE0 := hid (show errsC cs = 0 by rw [HE.out, List.drop_of_length_le (Nat.le_refl _)]; rfl)
   have HAL := hid (errsC_zero HE0.out)
   have CG := hid (pGather _ cs wr (HC0.out.only HON.out) HAL.out HCL.out)
   clear hlt hj
   go_wp2_with (fail)
   refine CG.out.mono ?_
   rintro e w5 ⟨pb, fv, cl, rfl, hpb, hprog, ⟨ho5, hown, hcls⟩⟩
   have CR := hid (pIsRight hprog HAL.out HCL.out)
   have HP := hid hprog
   have HOWN := hid hown
   have HCLS := hid hcls
   have HO5 := hid (HON.out.trans ho5 (fun _ h _ => h))
   have HSZ := hid HON.out.size
   clear hprog hown hcls ho5 CG
   go_wp2_with (fail)
   refine CR.out.mono ?_
   rintro e w6 ⟨⟨bb, rfl, hb⟩, ho6⟩
   have HO6 := hid (HO5.out.trans ho6 (fun _ h _ => h))
   have HB := hid hb
   have HP6 := hid (HP.out.only ho6)
   clear hb ho6 CR
   cases bb
   ·have HZ := hid (build_no H16.out HE0.out (fun hr => absurd (HB.out.2 hr) (by decide)))
    go_wp2
    go_ret2
    exact ⟨HO6.out, .inl ⟨by rw [HZ.out]; decide, by rw [HZ.out]; rfl⟩⟩
   ·have hr := HB.out.1 rfl
    have HZ := hid (build_yes H16.out HE0.out hr)
    have CL := hid (pLay HP6.out (right_good HAL.out HCL.out hr))
    clear hr
    go_wp2_with (fail)
    refine CL.out.mono ?_
    rintro e w7 ⟨rfl, hp7, ho7⟩
    have HO7 := hid (HO6.out.trans ho7 (fun k hk hlt => by obtain ⟨i, hi, he⟩ := hk; have := HOWN.out i k hi he; have := HSZ.out; omega))
    have HP7 := hid hp7
    clear hp7 ho7
    go_wp2
    go_ret2
    exact ⟨HO7.out, .inr ⟨HZ.out, pb, fv, cl, rfl, HP7.out, HCLS.out⟩⟩
end Go.Proofs.YtinbelghhfodiaaGreatDoor
namespace Go.Proofs.YtinbelghhfodiaaGreatDoor
set_option maxHeartbeats 16000000
open Lib (hid)
open Go.RowKit
set_option linter.unusedVariables false
set_option linter.unusedSimpArgs false
set_option linter.unusedSectionVars false
structure MTell where
 flags : Int
 code : List Int
 name : ByteArray
 desc : ByteArray
 ok : Bool
def noTell : MTell := ⟨0, [], ⟨#[]⟩, ⟨#[]⟩, false⟩
open Classical in
noncomputable def tellM (ks : List KindV) (cs : List ClassV) (n : Nat) (i : Int) : MTell :=
 if i < 0 ∨ ((ks.getD n default).meths.length : Int) ≤ i then noTell
 else ⟨(methP n (ks.getD n default) (cs.getD (n - 13) default) i.toNat).flags, (methP n (ks.getD n default) (cs.getD (n - 13) default) i.toNat).code, ((ks.getD n default).meths.getD i.toNat default).name, ((ks.getD n default).meths.getD i.toNat default).desc, true⟩
theorem tell_yes {ks : List KindV} {cs : List ClassV} {n j : Nat} (h : j < (ks.getD n default).meths.length) : tellM ks cs n (j : Int) = ⟨(methP n (ks.getD n default) (cs.getD (n - 13) default) j).flags, (methP n (ks.getD n default) (cs.getD (n - 13) default) j).code, ((ks.getD n default).meths.getD j default).name, ((ks.getD n default).meths.getD j default).desc, true⟩ := by
 unfold tellM
 rw [if_neg (by omega), Int.toNat_natCast]
def MTo (t : MTell) (w : World) (e : Ending) (w' : World) : Prop :=
 ∃ b1 b2 b3 b4 a1 l1 c1 a2 l2 c2 a3 l3 c3, e = .returned (.tuple #[.agg #[.int .i64 t.flags, .int .i64 b1, .int .i64 b2, .int .i64 b3, .int .i64 b4, .slice a1 l1 c1, .slice a2 l2 c2, .slice a3 l3 c3], .string t.name, .string t.desc, .bool t.ok]) ∧ Bytes w' (.slice a1 l1 c1) t.code ∧ Only (fun _ => False) w w'
theorem MTo.no {w w' : World} (ho : Only (fun _ => False) w w') : MTo noTell w (.returned (.tuple #[flagM 0, .string ⟨#[]⟩, .string ⟨#[]⟩, .bool false])) w' :=
 ⟨0, 0, 0, 0, none, 0, 0, none, 0, 0, none, 0, 0, rfl, bytes_nil0 w', ho⟩
theorem MTo.inside {w w' : World} {m : MethodV} {vc vt vm : Value} {nm ds : ByteArray} (h : Inside w' m vc vt vm) (ho : Only (fun _ => False) w w') :
  MTo ⟨m.flags, m.code, nm, ds, true⟩ w (.returned (.tuple #[.agg #[.int .i64 m.flags, .int .i64 m.name, .int .i64 m.desc, .int .i64 m.stack, .int .i64 m.locals, vc, vt, vm], .string nm, .string ds, .bool true])) w' := by
 obtain ⟨h1, ⟨⟨a2, c2, rfl, -⟩, -⟩, h3⟩ := h
 obtain ⟨a1, c1, rfl, -⟩ := id h1
 obtain ⟨a3, c3, rfl, -⟩ := h3
 exact ⟨_, _, _, _, _, _, _, _, _, _, _, _, _, rfl, h1, ho⟩
section
variable {cs : List ClassV} (h0 : ∀ c ∈ cs, clsZ c = 0) {n : Nat} (hn : n < (kindsZ cs).length) (i : Int)
include h0 hn
theorem pTell {fv : Nat → Value} {w : World} {pb : Nat} {cl : Nat → ClassV} (h : MadeP fv w pb cs cl) :
  Calls Tryz.prog 43 #[.pointer (some ⟨pb, 0, none⟩), .int .i64 (n : Int), .int .i64 i] w (MTo (tellM (kindsZ cs) cs n i) w) := by
 have hl := kindsZ_len cs
 by_cases hi : i < 0 ∨ (((kindsZ cs).getD n default).meths.length : Int) ≤ i
 ·have ht : tellM (kindsZ cs) cs n i = noTell := by unfold tellM; rw [if_pos hi]
  rw [ht]
  refine (pMethodNoI h.prog (by omega) n i hn hi).mono ?_
  rintro e w' ⟨rfl, ho⟩
  exact MTo.no ho
 ·obtain ⟨j, rfl⟩ := Int.eq_ofNat_of_zero_le (show 0 ≤ i by omega)
  rw [tell_yes (by omega)]
  have hcl : 13 ≤ n → cl n = cs.getD (n - 13) default := fun h13 => h.cls n h13 hn
  have hm : methP n ((kindsZ cs).getD n default) (cl n) j = methP n ((kindsZ cs).getD n default) (cs.getD (n - 13) default) j := by
   unfold methP
   by_cases h13 : n < 13
   ·rw [if_pos h13, if_pos h13]
   ·rw [if_neg h13, if_neg h13, hcl (by omega)]
  refine (pMethod h.prog n j hn (by omega) (fine_all h0 _ (getD_memK hn)).meths (fun h13 => by rw [hcl h13]; exact (few_cls (h0 _ (getD_mem (by omega)))).1)).mono ?_
  rintro e w' ⟨a, b, d, rfl, hin, ho⟩
  rw [hm] at hin ⊢
  exact MTo.inside hin ho
end
end Go.Proofs.YtinbelghhfodiaaGreatDoor
