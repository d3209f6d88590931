import Derived.Test.YtgdgffnaknkbcaaGreatDoorMjPolZClsI
import Derived.Test.YtgdgffnaknkbcaaGreatDoorMjLpTaIxB
import Derived.Test.YtgdgffnaknkbcaaGreatDoorMjLpRhLpRi
import Derived.Test.YtgdgffnaknkbcaaGreatDoorMjLpULpV
import Derived.Test.YtgdgffnaknkbcaaGreatDoorMjLpHLpI
import Derived.Test.YtgdgffnaknkbcaaGreatDoorMjLpJ
import Derived.Test.YtgdgffnaknkbcaaGreatDoorMjLnkFKndT
import Derived.Deep.QuietTactic
import Derived.BigQuiet
import Derived.Test.YtgdgffnaknkbcaaGreatDoorMjLpWLpRe
import Derived.Test.YtgdgffnaknkbcaaGreatDoorMjLpBLpE
namespace Go.Proofs.YtgdgffnaknkbcaaGreatDoor
open Go.RowKit
set_option linter.unusedVariables false
set_option linter.unusedSimpArgs false
def CheckTo (c : ClassV) (w : World) (e : Ending) (w' : World) : Prop := EndsC (clsZ c) e ∧ Only (fun _ => False) w w'
theorem CheckTo.no {c : ClassV} {z : Int} {w w' : World} (h : clsZ c = z) (hz : z ≠ 0) (ho : Only (fun _ => False) w w') : CheckTo c w (pan z) w' := ⟨.inr ⟨by rw [h]; exact hz, by rw [h]⟩, ho⟩
set_option maxHeartbeats 8000000 in
set_option maxRecDepth 100000 in
theorem clsCheck (vp vf vm : Value) (c : ClassV) (w : World) (hc : ClassM w vp vf vm c) (hT : Tabs w) (hg : ErrV w) :
    Calls Tryz.prog 74 #[.agg #[vp, .int .i64 c.this, .int .i64 c.super, vf, vm]] w (CheckTo c w) := by
  obtain ⟨pool, this, super, fields, methods⟩ := c
  have hbx := heap_alloc_new w (.cells #[vp, .int .i64 this, .int .i64 super, vf, vm] 77)
  have ho0 := (Only.refl (fun _ => False) w).alloc (.cells #[vp, .int .i64 this, .int .i64 super, vf, vm] 77)
  obtain ⟨hp, hf, hm, r1, r2⟩ := id hc
  simp only at *
  have cK := progCheck _ pool _ (hp.only ho0 (fun _ _ h => h)) (hT.only ho0 (fun h => h) (fun h => h)) (hg.only ho0 (fun h => h))
  have cN := fun w' (ho : Only (fun _ => False) w w') => checkCountsP vp vf vm ⟨pool, this, super, fields, methods⟩ w' (hc.only ho)
  obtain ⟨ap, cp, rfl, _, _, _, _, _⟩ := id hp
  obtain ⟨af, cf, rfl, hf1, hf2⟩ := hf.1.slice
  obtain ⟨fm, hm1, hm2, hm3⟩ := id hm
  obtain ⟨am, cm, rfl, hm4, hm5⟩ := hm1.slice
  unfold I64 at r1 r2
  have cC := fun i w' (ho : Only (fun _ => False) w w') => isClass _ pool i w' (hp.only ho (fun _ _ h => h))
  have cF := fun fl nm ds w' (ho : Only (fun _ => False) w w') => checkMemberP _ pool fl nm ds w' (hp.only ho (fun _ _ h => h))
  have cM := fun hb m vc vt vm w' (hi : Inside w m vc vt vm) (ho : Only (fun _ => False) w w') => checkMethodP _ pool m vc vt vm w' (hp.only ho (fun _ _ h => h)) hb (hi.only ho)
  have HC := Lib.hid hc
  have HO := Lib.hid ho0
  have HBX := Lib.hid hbx
  have HM1 := Lib.hid hm1
  have HM2 := Lib.hid hm2
  have CK := Lib.hid cK
  have CN := Lib.hid cN
  have CC := Lib.hid cC
  have CF := Lib.hid cF
  have CM := Lib.hid cM
  clear hc ho0 hbx hp hf hm hm1 hm2 hm3 cK cN cC cF cM hT hg
  obtain ⟨z, hz⟩ : ∃ z, checkZ pool = z := ⟨_, rfl⟩
  rw [hz] at CK
  have HZ := Lib.hid hz
  clear hz
  go_enter Tryz.func74, Tryz.ntmps74
  go_wp2_with (fail)
  refine CK.out.mono ?_
  rintro e w1 ⟨rfl, ho1⟩
  have hb1 := ho1.heap HBX.out (fun h => h)
  have HB1 := Lib.hid hb1
  have HO1 := Lib.hid (HO.out.trans ho1 (fun _ h => h.elim))
  clear ho1 CK
  by_cases h0 : z = 0
  rotate_left
  · have HR := Lib.hid (show clsZ ⟨pool, this, super, fields, methods⟩ = z by rw [clsZ_pool (by show checkZ pool ≠ 0; rw [HZ.out]; exact h0)]; exact HZ.out)
    go_wp2_with (go_at_call 103; refine (refuseN z h0 _).mono ?_; rintro e w' ⟨rfl, rfl⟩)
    exact ⟨rfl, CheckTo.no HR.out h0 HO1.out⟩
  subst h0
  have q0 := cell_blk hb1 0
  have q1 := cell_blk hb1 1
  have q2 := cell_blk hb1 2
  have q3 := cell_blk hb1 3
  have q4 := cell_blk hb1 4
  simp at q0 q1 q2 q3 q4
  clear hb1
  go_wp2_with (go_at_call 103; refine (refuse0 _).mono ?_; rintro e w' ⟨rfl, rfl⟩)
  refine (CN.out _ HO1.out).mono ?_
  rintro e w2 ⟨⟨g1, rfl⟩ | ⟨g1, rfl⟩, ho2⟩
  rotate_left
  · have HR := clsZ_long (c := ⟨pool, this, super, fields, methods⟩) HZ.out (Classical.byContradiction fun h => g1 ((LessP.iff _).2 h))
    exact ⟨rfl, CheckTo.no HR (by decide) (HO1.out.trans ho2 (fun _ h => h.elim))⟩
  have HNL := Lib.hid ((LessP.iff _).1 g1)
  have wrong : ¬ RightP ⟨pool, this, super, fields, methods⟩ → clsZ ⟨pool, this, super, fields, methods⟩ = 50 := clsZ_wrong HZ.out HNL.out
  have WRONG := Lib.hid wrong
  have hb2 := ho2.heap HB1.out (fun h => h)
  have HB2 := Lib.hid hb2
  have HO2 := Lib.hid (HO1.out.trans ho2 (fun _ h => h.elim))
  clear q0 q1 q2 q3 q4
  have q0 := cell_blk hb2 0
  have q1 := cell_blk hb2 1
  simp at q0 q1
  clear wrong g1 ho2 hb2 CN HB1
  go_wp2_with (fail)
  refine (CC.out _ _ HO2.out).mono ?_
  rintro e w3 ⟨rfl, ho3⟩
  have hb3 := ho3.heap HB2.out (fun h => h)
  have HB3 := Lib.hid hb3
  have HO3 := Lib.hid (HO2.out.trans ho3 (fun _ h => h.elim))
  clear q0 q1
  have q0 := cell_blk hb3 0
  have q2 := cell_blk hb3 2
  simp at q0 q2
  clear hb3 ho3 HB2
  obtain ⟨b, hb⟩ : ∃ b, (classZ pool this).2 = b := ⟨_, rfl⟩
  rw [hb]
  have HBT := Lib.hid hb
  clear hb
  cases b
  · go_wp2_with (go_at_call 106; refine (mustF _).mono ?_; rintro e w' ⟨rfl, rfl⟩)
    exact ⟨rfl, CheckTo.no (WRONG.out (fun h => by rw [h.1] at HBT; exact absurd HBT.out (by decide))) (by decide) HO3.out⟩
  go_wp2_with (go_at_call 106; refine (mustT _).mono ?_; rintro e w' ⟨rfl, rfl⟩)
  refine (CC.out _ _ HO3.out).mono ?_
  rintro e w4 ⟨rfl, ho4⟩
  have hb4 := ho4.heap HB3.out (fun h => h)
  have HB4 := Lib.hid hb4
  have HO4 := Lib.hid (HO3.out.trans ho4 (fun _ h => h.elim))
  clear q0 q2
  have q0 := cell_blk hb4 0
  have q3 := cell_blk hb4 3
  simp at q0 q3
  clear hb4 ho4 HB3
  obtain ⟨b, hb⟩ : ∃ b, (classZ pool super).2 = b := ⟨_, rfl⟩
  rw [hb]
  have HBS := Lib.hid hb
  clear hb
  cases b
  · go_wp2_with (go_at_call 106; refine (mustF _).mono ?_; rintro e w' ⟨rfl, rfl⟩)
    exact ⟨rfl, CheckTo.no (WRONG.out (fun h => by have := h.2.1; rw [this] at HBS; exact absurd HBS.out (by decide))) (by decide) HO4.out⟩
  go_wp2_with (go_at_call 106; refine (mustT _).mono ?_; rintro e w' ⟨rfl, rfl⟩)
  go_loopw [27] (fun i wr => ∃ j : Nat, j ≤ fields.length ∧ i = .int .i64 j ∧ (∀ f ∈ fields.take j, FieldP pool f) ∧ Only (fun _ => False) w4 wr) (fun i _ => fields.length - (intOf i).toNat)
  case atStart => exact ⟨0, Nat.zero_le _, rfl, (fun m hm => by simp at hm), Only.refl _ _⟩
  case round =>
    obtain ⟨j, hj, rfl, hall, hwr⟩ := hrel
    have hbr := hwr.heap HB4.out (fun h => h)
    have HBR := Lib.hid hbr
    clear q0 q3
    have q0 := cell_blk hbr 0
    have q4 := cell_blk hbr 4
    simp at q0 q4
    have HALL := Lib.hid hall
    have HWR := Lib.hid hwr
    have hon := HO4.out.trans hwr (fun _ h => h.elim)
    have HON := Lib.hid hon
    clear hall hwr hbr
    by_cases hlt : j < fields.length
    · have hjz : (j : Int) < (fields.length : Int) := by omega
      have HFF := Lib.hid HC.out.2.1
      obtain ⟨b, o, e2, hat⟩ := HFF.out.1.at hlt
      subst e2
      obtain ⟨k0, k1, k2⟩ := hat.only hon
      have HMEM := Lib.hid (getD_mem hlt)
      have HTK := Lib.hid (take_snoc hlt)
      obtain ⟨f, hf⟩ : ∃ f, fields.getD j default = f := ⟨_, rfl⟩
      rw [hf] at HMEM HTK k0 k1 k2
      obtain ⟨fl, nm, ds⟩ := f
      simp only at k0 k1 k2
      have hoa := (Only.refl (fun _ => False) wr).alloc (.cells #[.int .i64 fl, .int .i64 nm, .int .i64 ds] 147)
      have q0a := hoa.cell q0 (fun h => h)
      have HOA := Lib.hid (HWR.out.trans hoa (fun _ h => h.elim))
      have HONA := Lib.hid (hon.trans hoa (fun _ h => h.elim))
      clear hat hf hon hoa
      go_wp2_with (fail)
      refine (CF.out _ _ _ _ HONA.out).mono ?_
      rintro e w5 ⟨⟨g5, rfl⟩ | ⟨g5, rfl⟩, ho5⟩
      rotate_left
      · exact ⟨rfl, CheckTo.no (WRONG.out (fun h => g5 (h.2.2.1 _ HMEM.out))) (by decide) (HONA.out.trans ho5 (fun _ h => h.elim))⟩
      have FIN := Lib.hid (show ∀ x ∈ fields.take (j + 1), FieldP pool x from fun x hx => by
        rw [HTK.out] at hx
        rcases List.mem_append.1 hx with hx | hx
        · exact HALL.out x hx
        · simp only [List.mem_cons, List.mem_nil_iff, or_false] at hx; subst hx; exact g5)
      have HO5 := Lib.hid (HOA.out.trans ho5 (fun _ h => h.elim))
      clear g5 ho5 HALL HTK
      go_wp2
      go_roundw
      case rel => exact ⟨j + 1, by omega, by go_num, FIN.out, HO5.out⟩
      case measure => simp [intOf]; omega
    · have hjn : j = fields.length := by omega
      have hjz : (fields.length : Int) ≤ (j : Int) := by omega
      have HFS := Lib.hid (show ∀ f ∈ fields, FieldP pool f from fun f hf => HALL.out f (by rw [hjn, List.take_of_length_le (Nat.le_refl _)]; exact hf))
      have HBB := Lib.hid (bare_of_right HZ.out)
      clear hjn HALL hon
      go_wp2
      go_loopw [44] (fun i wr2 => ∃ j : Nat, j ≤ methods.length ∧ i = .int .i64 j ∧ (∀ m ∈ methods.take j, MethodP pool m) ∧ Only (fun _ => False) wr wr2) (fun i _ => methods.length - (intOf i).toNat)
      case atStart => exact ⟨0, Nat.zero_le _, rfl, (fun m hm => by simp at hm), Only.refl _ _⟩
      case round =>
        obtain ⟨j, hj, rfl, hall, hwr⟩ := hrel
        have hbr := hwr.heap HBR.out (fun h => h)
        clear q0 q4
        have q0 := cell_blk hbr 0
        simp at q0
        have HALL := Lib.hid hall
        have HWR2 := Lib.hid hwr
        have hon := HON.out.trans hwr (fun _ h => h.elim)
        have HON2 := Lib.hid hon
        clear hall hwr hbr
        by_cases hlt : j < methods.length
        · have hjz : (j : Int) < (methods.length : Int) := by omega
          obtain ⟨b, o, e2, hat⟩ := HM1.out.at hlt
          subst e2
          obtain ⟨k0, k1, k2, k3, k4, k5, k6, k7⟩ := hat.only hon
          have hin := HM2.out j hlt
          have HMEM := Lib.hid (getD_mem hlt)
          have HTK := Lib.hid (take_snoc hlt)
          obtain ⟨m, hm⟩ : ∃ m, methods.getD j default = m := ⟨_, rfl⟩
          rw [hm] at hin HMEM HTK k0 k1 k2 k3 k4
          have hcall := fun w' ho => CM.out HBB.out m _ _ _ w' hin ho
          obtain ⟨ac, cc, e5, _⟩ := hin.1
          obtain ⟨at_, ct, e6, _, _⟩ := hin.2.1.1.slice
          obtain ⟨ax, cx, e7, _⟩ := hin.2.2
          rw [e5, e6, e7] at hcall
          rw [e5] at k5
          rw [e6] at k6
          rw [e7] at k7
          have HCALL := Lib.hid hcall
          have hoa := (Only.refl (fun _ => False) wr).alloc (.cells #[.int .i64 m.flags, .int .i64 m.name, .int .i64 m.desc, .int .i64 m.stack, .int .i64 m.locals, .slice ac m.code.length cc, .slice at_ m.traps.length ct, .slice ax m.maps.length cx] 70)
          have q0a := hoa.cell q0 (fun h => h)
          have HOA := Lib.hid (HWR2.out.trans hoa (fun _ h => h.elim))
          have HONA := Lib.hid (hon.trans hoa (fun _ h => h.elim))
          clear hat hin e5 e6 e7 hm hon hcall hoa
          go_wp2_with (fail)
          refine (HCALL.out _ HONA.out).mono ?_
          rintro e w5 ⟨⟨g5, rfl⟩ | ⟨g5, rfl⟩, ho5⟩
          rotate_left
          · exact ⟨rfl, CheckTo.no (WRONG.out (fun h => g5 (h.2.2.2 _ HMEM.out))) (by decide) (HONA.out.trans ho5 (fun _ h => h.elim))⟩
          have FIN := Lib.hid (show ∀ x ∈ methods.take (j + 1), MethodP pool x from fun x hx => by
            rw [HTK.out] at hx
            rcases List.mem_append.1 hx with hx | hx
            · exact HALL.out x hx
            · simp only [List.mem_cons, List.mem_nil_iff, or_false] at hx; subst hx; exact g5)
          have HO5 := Lib.hid (HOA.out.trans ho5 (fun _ h => h.elim))
          clear g5 ho5 HALL HTK
          go_wp2
          go_roundw
          case rel => exact ⟨j + 1, by omega, by go_num, FIN.out, HO5.out⟩
          case measure => simp [intOf]; omega
        · have hjn : j = methods.length := by omega
          have hjz : (methods.length : Int) ≤ (j : Int) := by omega
          have HR := Lib.hid (clsZ_ok HZ.out HNL.out (show RightP ⟨pool, this, super, fields, methods⟩ from ⟨HBT.out, HBS.out, HFS.out, fun m hm => HALL.out m (by rw [hjn, List.take_of_length_le (Nat.le_refl _)]; exact hm)⟩))
          clear hlt hjn HALL hon
          go_wp2
          go_end0
          exact ⟨.inl ⟨HR.out, rfl⟩, HON2.out⟩
set_option maxHeartbeats 4000000 in
set_option maxRecDepth 100000 in
theorem progClsCheck (vp vf vm : Value) (c : ClassV) (w : World) (hc : ClassM w vp vf vm c) (hT : Tabs w) (hg : ErrV w) :
    Calls Tryz.prog 37 #[.agg #[vp, .int .i64 c.this, .int .i64 c.super, vf, vm]] w fun e w' => e = .returned (.int .i64 (clsZ c)) ∧ Only (fun _ => False) w w' := by
  have hmf : ∀ (fn : Fn) (first cap : Array Value) (w : World), (Instr.makeFunc fn first cap).run Tryz.prog w = .ok (.func fn first cap) w := fun _ _ _ _ => rfl
  have hen : Enters Tryz.prog 73 := enters_of Tryz.func73 (by kernel_rfl) rfl
  have ho0 := (Only.refl (fun _ => False) w).alloc (.cells #[vp, .int .i64 c.this, .int .i64 c.super, vf, vm] 77)
  have ho1 := ho0.alloc (.cells #[.int .i64 0] 24)
  have hbx := heap_alloc_new w (.cells #[vp, .int .i64 c.this, .int .i64 c.super, vf, vm] 77)
  have hb1 := ((Only.refl (fun _ => False) _).alloc (.cells #[.int .i64 0] 24)).heap hbx (fun h => h)
  have he1 := heap_alloc_new (w.alloc (.cells #[vp, .int .i64 c.this, .int .i64 c.super, vf, vm] 77)) (.cells #[.int .i64 0] 24)
  have cK := clsCheck vp vf vm c _ (hc.only ho1) (hT.only ho1 (fun h => h) (fun h => h)) (hg.only ho1 (fun h => h))
  obtain ⟨hp, hf, hm, r1, r2⟩ := id hc
  obtain ⟨ap, cp, rfl, _, _, _, _, _⟩ := id hp
  obtain ⟨af, cf, rfl, hf1, hf2⟩ := hf.1.slice
  obtain ⟨fm, hm1, hm2, hm3⟩ := id hm
  obtain ⟨am, cm, rfl, hm4, hm5⟩ := hm1.slice
  obtain ⟨pool, this, super, fields, methods⟩ := c
  simp only at *
  have cL : Calls Tryz.prog 73 #[.pointer (some ⟨w.heap.size, 0, none⟩)] ((w.alloc (.cells #[.slice ap pool.length cp, .int .i64 this, .int .i64 super, .slice af fields.length cf, .slice am methods.length cm] 77)).alloc (.cells #[.int .i64 0] 24))
      fun e w1 => ∃ z, EndsC z e ∧ (z = clsZ ⟨pool, this, super, fields, methods⟩ ∧ Only (fun _ => False) ((w.alloc (.cells #[.slice ap pool.length cp, .int .i64 this, .int .i64 super, .slice af fields.length cf, .slice am methods.length cm] 77)).alloc (.cells #[.int .i64 0] 24)) w1) := by
    have q0 := cell_blk hb1 0
    have q1 := cell_blk hb1 1
    have q2 := cell_blk hb1 2
    have q3 := cell_blk hb1 3
    have q4 := cell_blk hb1 4
    have CK := Lib.hid cK
    clear cK hc hp hf hm hm1 hm2 hm3 hT hg ho0 ho1 hb1 he1 hbx
    generalize hW : ((w.alloc (.cells #[.slice ap pool.length cp, .int .i64 this, .int .i64 super, .slice af fields.length cf, .slice am methods.length cm] 77)).alloc (.cells #[.int .i64 0] 24)) = W at *
    simp at q0 q1 q2 q3 q4
    clear hW
    go_enter Tryz.func73, Tryz.ntmps73
    go_wp2_with (fail)
    refine CK.out.mono ?_
    rintro e w1 ⟨⟨hz, rfl⟩ | ⟨hz, rfl⟩, ho⟩
    · have HO := Lib.hid ho
      have HZ := Lib.hid hz
      clear ho hz
      go_wp2
      go_end0
      exact ⟨0, .inl ⟨rfl, rfl⟩, HZ.out.symm, HO.out⟩
    · exact ⟨rfl, _, .inr ⟨hz, rfl⟩, rfl, ho⟩
  have cR := refusal 73 hen #[] #[.pointer (some ⟨w.heap.size, 0, none⟩)] (w.alloc (.cells #[.slice ap pool.length cp, .int .i64 this, .int .i64 super, .slice af fields.length cf, .slice am methods.length cm] 77)) (fun z w1 => z = clsZ ⟨pool, this, super, fields, methods⟩ ∧ Only (fun _ => False) ((w.alloc (.cells #[.slice ap pool.length cp, .int .i64 this, .int .i64 super, .slice af fields.length cf, .slice am methods.length cm] 77)).alloc (.cells #[.int .i64 0] 24)) w1) (by simpa using cL) (fun z w1 h => h.2.heap he1 (fun h => h))
  have CR := Lib.hid cR
  have HO := Lib.hid ho1
  clear cL cR cK hc hp hf hm hm1 hm2 hm3 hT hg ho0 ho1 hb1 he1 hbx hen
  go_enter Tryz.func37, Tryz.ntmps37
  go_wp2_with (fail)
  refine CR.out.mono ?_
  rintro e w' ⟨z, w1, rfl, ⟨rfl, ho⟩, rfl⟩
  have HO1 := Lib.hid (HO.out.trans ho (fun _ h => h.elim))
  clear ho
  go_wp2
  go_ret
  exact ⟨rfl, HO1.out.setCell (fun hl => by simp at hl; omega) _⟩
end Go.Proofs.YtgdgffnaknkbcaaGreatDoor
namespace Go.Proofs.YtgdgffnaknkbcaaGreatDoor
open Go.RowKit Go.Maps
set_option linter.unusedVariables false
set_option linter.unusedSimpArgs false
theorem right_good {cs : List ClassV} (h0 : ∀ c ∈ cs, clsZ c = 0) (hl : cs.length ≤ 16) (h : RightK (kindsZ cs)) : GoodK (kindsZ cs) := by
  have hh := (rules_right h0).2 h
  exact rules_good h0 hl hh.r1 hh.r2
structure MadeP (fv : Nat → Value) (w : World) (pb : Nat) (cs : List ClassV) (cl : Nat → ClassV) : Prop where
  prog : ProgG (fun b => ∃ i, i < (kindsZ cs).length ∧ (fv i).ownBlock = some b) fv w pb (kindsZ cs) cl (fun a p => (slotAt (kindsZ cs) a p : Int))
  cls : ∀ i, 13 ≤ i → i < (kindsZ cs).length → cl i = cs.getD (i - 13) default
theorem MadeP.only {fv : Nat → Value} {w w' : World} {pb : Nat} {cs : List ClassV} {cl : Nat → ClassV} (h : MadeP fv w pb cs cl) (ho : Only (fun _ => False) w w') : MadeP fv w' pb cs cl := ⟨h.prog.only ho, h.cls⟩
def BuildTo (w : World) (cs : List ClassV) (e : Ending) (w' : World) : Prop :=
  Only (fun _ => False) w w' ∧ ((buildZ cs ≠ 0 ∧ e = .returned (.tuple #[.pointer none, .int .i64 (buildZ cs)])) ∨
    (buildZ cs = 0 ∧ ∃ pb fv cl, e = .returned (.tuple #[.pointer (some ⟨pb, 0, none⟩), .int .i64 0]) ∧ MadeP fv w' pb cs cl))
theorem build_long {cs : List ClassV} (h : 16 < cs.length) : buildZ cs = 2 := by unfold buildZ; rw [if_pos h]
theorem build_err {cs : List ClassV} (h : ¬ 16 < cs.length) (he : errsC cs ≠ 0) : buildZ cs = errsC cs := by unfold buildZ; rw [if_neg h, if_pos he]
theorem build_no {cs : List ClassV} (h : ¬ 16 < cs.length) (he : errsC cs = 0) (hr : ¬ RightK (kindsZ cs)) : buildZ cs = 90 := by unfold buildZ; rw [if_neg h, if_neg (by simp [he]), if_neg hr]
theorem build_yes {cs : List ClassV} (h : ¬ 16 < cs.length) (he : errsC cs = 0) (hr : RightK (kindsZ cs)) : buildZ cs = 0 := by unfold buildZ; rw [if_neg h, if_neg (by simp [he]), if_pos hr]
theorem build_zero {cs : List ClassV} (h : buildZ cs = 0) : cs.length ≤ 16 ∧ (∀ c ∈ cs, clsZ c = 0) ∧ RightK (kindsZ cs) := by
  unfold buildZ at h
  by_cases h1 : 16 < cs.length
  · rw [if_pos h1] at h; exact absurd h (by decide)
  · rw [if_neg h1] at h
    by_cases h2 : errsC cs ≠ 0
    · rw [if_pos h2] at h; exact absurd h h2
    · rw [if_neg h2] at h
      by_cases h3 : RightK (kindsZ cs)
      · exact ⟨by omega, errsC_zero (by omega), h3⟩
      · rw [if_neg h3] at h; exact absurd h (by decide)
set_option maxHeartbeats 16000000 in
set_option maxRecDepth 100000 in
theorem pBuild (v : Value) (cs : List ClassV) (w : World) (hc : Classes w v cs) (hT : Tabs w) (hg : ErrV w) :
    Calls Tryz.prog 9 #[v] w (BuildTo w cs) := by
  have hc0 := hc
  obtain ⟨f, hsl, hcm⟩ := hc
  obtain ⟨ao, cap, rfl, p1, p2, p3, -⟩ := id hsl
  have HSL := Lib.hid hsl
  have HCM := Lib.hid hcm
  have HC0 := Lib.hid hc0
  have HT := Lib.hid hT
  have HGV := Lib.hid hg
  clear hsl hcm hc0 hT hg p3
  go_enter Tryz.func9, Tryz.ntmps9
  by_cases h16 : 16 < cs.length
  · have hz : (16 : Int) < (cs.length : Int) := by omega
    have HB := Lib.hid (build_long h16)
    clear h16
    go_wp2
    go_ret2
    exact ⟨Only.refl _ _, .inl ⟨by rw [HB.out]; decide, by rw [HB.out]; rfl⟩⟩
  have hz : ¬ (16 : Int) < (cs.length : Int) := by omega
  have H16 := Lib.hid h16
  have hcz : ((cs.length : Nat) : Int) ≤ 16 := by omega
  have HCL := Lib.hid (show cs.length ≤ 16 by omega)
  clear h16
  go_wp2
  clear hz
  go_loopw [5, 6, 13] (fun _ _ iv wr => ∃ j : Nat, iv = .int .i64 j ∧ j ≤ cs.length ∧ Hid (errsC cs = errsC (cs.drop j)) ∧ Hid (Only (fun _ => False) w wr)) (fun _ _ iv _ => cs.length - (intOf iv).toNat)
  case atStart => exact ⟨0, rfl, Nat.zero_le _, Lib.hid rfl, Lib.hid (Only.refl _ _)⟩
  case round =>
    obtain ⟨j, rfl, hj, HE, HON⟩ := hrel
    by_cases hlt : j < cs.length
    · have hjz : (j : Int) < (cs.length : Int) := by omega
      have hj0 : (0 : Int) ≤ (j : Int) := by omega
      have HST := Lib.hid (errsC_at hlt)
      rw [← HE.out] at HST
      obtain ⟨b, o, rfl, y⟩ := Sl.at HSL.out hlt
      obtain ⟨y0, y1, y2, y3, y4⟩ := y
      have y0 := HON.out.cell y0 (fun h => h)
      have y1 := HON.out.cell y1 (fun h => h)
      have y2 := HON.out.cell y2 (fun h => h)
      have y3 := HON.out.cell y3 (fun h => h)
      have y4 := HON.out.cell y4 (fun h => h)
      have hcj := HCM.out j hlt
      generalize (f j).1 = vp at *
      generalize (f j).2.1 = vf at *
      generalize (f j).2.2 = vm at *
      obtain ⟨z1, z2, rfl, -⟩ := id hcj.1
      obtain ⟨z3, z4, rfl, -⟩ := id hcj.2.1.1
      obtain ⟨gm, hgm, -, -⟩ := id hcj.2.2.1
      obtain ⟨z5, z6, rfl, -⟩ := id hgm
      clear hgm
      obtain ⟨vp, hvp⟩ : ∃ x, x = Value.slice z1 (cs.getD j default).pool.length z2 := ⟨_, rfl⟩
      obtain ⟨vf, hvf⟩ : ∃ x, x = Value.slice z3 (cs.getD j default).fields.length z4 := ⟨_, rfl⟩
      obtain ⟨vm, hvm⟩ : ∃ x, x = Value.slice z5 (cs.getD j default).methods.length z6 := ⟨_, rfl⟩
      obtain ⟨c, hcc⟩ : ∃ c, cs.getD j default = c := ⟨_, rfl⟩
      rw [hcc] at y0 y1 y2 y3 y4 hcj HST hvp hvf hvm
      rw [← hvp, ← hvf, ← hvm] at hcj
      have hal := (Only.refl (fun _ => False) wr).alloc (.cells #[vp, .int .i64 c.this, .int .i64 c.super, vf, vm] 77)
      have hoa := HON.out.trans hal (fun _ h _ => h)
      have C1 := Lib.hid (progClsCheck vp vf vm c _ (by obtain ⟨a1, a2, a3, a4, a5⟩ := hcj; exact ⟨a1.only hoa (fun _ _ h => h), a2.only hoa, a3.only hoa, a4, a5⟩) (HT.out.only hoa (fun h => h) (fun h => h)) (HGV.out.only hoa (fun h => h)))
      have HOA := Lib.hid hoa
      rw [hvp, hvf, hvm] at C1 HOA
      clear hcj hal hoa hcc hvp hvf hvm
      by_cases hz0 : clsZ c = 0
      · have HE2 := Lib.hid (show errsC cs = errsC (cs.drop (j + 1)) by rw [HST.out, if_neg (by simp [hz0])])
        rw [hz0] at C1
        clear hz0
        go_wp2_with (fail)
        refine C1.out.mono ?_
        rintro e w5 ⟨rfl, ho5⟩
        have HO5 := Lib.hid (HOA.out.trans ho5 (fun _ h _ => h))
        clear ho5 y0 y1 y2 y3 y4
        go_wp2
        go_roundw
        case rel => exact ⟨j + 1, by go_num, by omega, HE2, HO5⟩
        case measure => simp [intOf]; omega
      · have HE2 := Lib.hid (show errsC cs = clsZ c by rw [HST.out, if_pos hz0])
        have HB := Lib.hid (show buildZ cs = clsZ c by rw [build_err H16.out (by rw [HE2.out]; exact hz0), HE2.out])
        have HZ0 := Lib.hid hz0
        have hzb : (clsZ c != 0) = true := by simpa using hz0
        generalize clsZ c = ec at *
        clear hz0
        go_wp2_with (fail)
        refine C1.out.mono ?_
        rintro e w5 ⟨rfl, ho5⟩
        have HO5 := Lib.hid (HOA.out.trans ho5 (fun _ h _ => h))
        clear ho5 y0 y1 y2 y3 y4
        go_wp2
        go_ret2
        exact ⟨HO5.out, .inl ⟨by rw [HB.out]; exact HZ0.out, by rw [HB.out]; rfl⟩⟩
    · obtain rfl : j = cs.length := by omega
      have HE0 := Lib.hid (show errsC cs = 0 by rw [HE.out, List.drop_of_length_le (Nat.le_refl _)]; rfl)
      have HAL := Lib.hid (errsC_zero HE0.out)
      have CG := Lib.hid (pGather _ cs wr (HC0.out.only HON.out) HAL.out HCL.out)
      clear hlt hj
      go_wp2_with (fail)
      refine CG.out.mono ?_
      rintro e w5 ⟨pb, fv, cl, rfl, hpb, hprog, ⟨ho5, hown, hcls⟩⟩
      have CR := Lib.hid (pIsRight hprog HAL.out HCL.out)
      have HP := Lib.hid hprog
      have HOWN := Lib.hid hown
      have HCLS := Lib.hid hcls
      have HO5 := Lib.hid (HON.out.trans ho5 (fun _ h _ => h))
      have HSZ := Lib.hid HON.out.size
      clear hprog hown hcls ho5 CG
      go_wp2_with (fail)
      refine CR.out.mono ?_
      rintro e w6 ⟨⟨bb, rfl, hb⟩, ho6⟩
      have HO6 := Lib.hid (HO5.out.trans ho6 (fun _ h _ => h))
      have HB := Lib.hid hb
      have HP6 := Lib.hid (HP.out.only ho6)
      clear hb ho6 CR
      cases bb
      · have HZ := Lib.hid (build_no H16.out HE0.out (fun hr => absurd (HB.out.2 hr) (by decide)))
        go_wp2
        go_ret2
        exact ⟨HO6.out, .inl ⟨by rw [HZ.out]; decide, by rw [HZ.out]; rfl⟩⟩
      · have hr := HB.out.1 rfl
        have HZ := Lib.hid (build_yes H16.out HE0.out hr)
        have CL := Lib.hid (pLay HP6.out (right_good HAL.out HCL.out hr))
        clear hr
        go_wp2_with (fail)
        refine CL.out.mono ?_
        rintro e w7 ⟨rfl, hp7, ho7⟩
        have HO7 := Lib.hid (HO6.out.trans ho7 (fun k hk hlt => by obtain ⟨i, hi, he⟩ := hk; have := HOWN.out i k hi he; have := HSZ.out; omega))
        have HP7 := Lib.hid hp7
        clear hp7 ho7
        go_wp2
        go_ret2
        exact ⟨HO7.out, .inr ⟨HZ.out, pb, fv, cl, rfl, HP7.out, HCLS.out⟩⟩
end Go.Proofs.YtgdgffnaknkbcaaGreatDoor
namespace Go.Proofs.YtgdgffnaknkbcaaGreatDoor
open Go.RowKit
set_option linter.unusedVariables false
set_option linter.unusedSimpArgs false
theorem subP_in {ks : List KindV} {a b : Nat} (ha : a < ks.length) : subP ks (a : Int) (b : Int) = true ↔ b ∈ upZ ks (a : Int) := by
  unfold subP
  rw [seqX_in (by omega), List.any_eq_true]
  constructor
  · rintro ⟨x, hx, he⟩
    rw [beq_iff_eq] at he
    have : x = b := by omega
    subst this
    exact hx
  · intro h
    exact ⟨b, h, by rw [beq_iff_eq]⟩
theorem tops_mem {ks : List KindV} (he : EndsAll ks) : ∀ (f : Nat) (x : Nat), x < ks.length → topsF ks f (x : Int) = true → 0 ∈ upZ ks (x : Int)
  | 0, x, _, h => by cases h
  | f + 1, x, hx, h => by
    rw [upZ_step he hx]
    by_cases h0 : x = 0
    · subst h0; exact List.mem_cons_self ..
    rw [topsF, if_neg (by omega)] at h
    rcases superZ_cases ks (x : Int) with e | ⟨i, hi, e⟩
    · rw [e, if_pos (by decide)] at h; cases h
    · rw [e] at h ⊢
      rw [if_neg (by omega)] at h
      split at h
      · cases h
      · exact List.mem_cons_of_mem _ (tops_mem he f i hi h)
theorem below_up {ks : List KindV} (he : EndsAll ks) (hon : NamesOnce ks) (hroot : findZ ks (ks.getD 0 default).super = -1) {b : Nat} (hb : b < ks.length) : ∀ (n a : Nat), a < ks.length → (upZ ks (a : Int)).length ≤ n + 1 → (belowN (treeZ ks) (ks.getD b default).name n (ks.getD a default).name = true ↔ b ∈ upZ ks (a : Int))
  | n, a, ha, hn => by
    have hst := upZ_step he ha
    have hpa : pairOf (treeZ ks) (ks.getD a default).name = (a : Int) := hon a ha
    have hpb : findZ ks (ks.getD b default).name = (b : Int) := hon b hb
    rw [hst] at hn ⊢
    by_cases hab : a = b
    · subst hab
      rw [belowN_same]
      simp
    have hne : (ks.getD a default).name ≠ (ks.getD b default).name := fun e => by
      have h1 := hon a ha
      rw [e, hpb] at h1
      omega
    have hsu : superZ ks (a : Int) = findZ ks (ks.getD a default).super := by
      by_cases h0 : a = 0
      · subst h0; rw [hroot]; exact super_zero ks
      · exact super_list (by omega) ha
    have hmem : b ∈ a :: upZ ks (superZ ks (a : Int)) ↔ b ∈ upZ ks (superZ ks (a : Int)) := by
      rw [List.mem_cons]
      exact ⟨fun h => h.resolve_left (fun e => hab e.symm), .inr⟩
    rw [hmem]
    rcases findZ_cases ks (ks.getD a default).super with e | ⟨i, hi, e⟩
    · rw [hsu, e, upZ_end (by decide)]
      have hso : (ks.getD a default).super ≠ (ks.getD b default).name := fun h => by rw [h, hpb] at e; omega
      cases n with
      | zero => rw [belowN_last hne]; simp
      | succ n =>
        rw [belowN_step hne hpa, treeZ_at ha, show (PairV.super ⟨(ks.getD a default).name, (ks.getD a default).super⟩) = (ks.getD a default).super from rfl, belowN_none hso e]
        simp
    · have hh := find_hit e
      rw [hsu, e] at hn ⊢
      cases n with
      | zero =>
        rw [upZ_step he hi] at hn
        simp at hn
      | succ n =>
        rw [belowN_step hne hpa, treeZ_at ha, show (PairV.super ⟨(ks.getD a default).name, (ks.getD a default).super⟩) = (ks.getD a default).super from rfl, ← hh.2]
        exact below_up he hon hroot hb n i hi (by simpa using hn)
section
variable {cs : List ClassV} (h0 : ∀ c ∈ cs, clsZ c = 0) (hl : cs.length ≤ 16) (hR : RightK (kindsZ cs))
include h0 hl hR
theorem top_mem {j : Nat} (hj : j < (kindsZ cs).length) : 0 ∈ upZ (kindsZ cs) (j : Int) := by
  have he := (right_good h0 hl hR).ends
  by_cases h13 : j < 13
  · have z : 0 ∈ upZ (kindsZ cs) 0 := by
      have := upZ_step he (x := 0) (by omega)
      rw [show ((0 : Nat) : Int) = 0 from rfl] at this
      rw [this]; exact List.mem_cons_self ..
    have o : 0 ∈ upZ (kindsZ cs) 1 := by
      have := upZ_step he (x := 1) (by have := kindsZ_len cs; omega)
      rw [show ((1 : Nat) : Int) = 1 from rfl, super_one] at this
      rw [this]; exact List.mem_cons_of_mem _ z
    by_cases hz : j = 0
    · subst hz; exact z
    rw [upZ_step he hj]
    rcases super_built (cs := cs) (show 1 ≤ j by omega) h13 with e | e
    · rw [e]; exact List.mem_cons_of_mem _ z
    · rw [e]; exact List.mem_cons_of_mem _ o
  · exact tops_mem he _ j hj (hR.tops j (by omega) hj)
theorem sub_super {j : Nat} (hj : j < (kindsZ cs).length) (h1 : 0 < j) : ∃ i : Nat, i < (kindsZ cs).length ∧ superZ (kindsZ cs) (j : Int) = (i : Int) ∧ subP (kindsZ cs) (j : Int) (superZ (kindsZ cs) (j : Int)) = true := by
  have he := (right_good h0 hl hR).ends
  have hm := top_mem h0 hl hR hj
  have hst := upZ_step he hj
  rw [hst] at hm
  rcases superZ_cases (kindsZ cs) (j : Int) with e | ⟨i, hi, e⟩
  · rw [e, upZ_end (by decide)] at hm
    have := List.mem_singleton.1 hm
    omega
  · refine ⟨i, hi, e, ?_⟩
    rw [e]
    refine (subP_in hj).2 ?_
    rw [hst, e, upZ_step he hi]
    exact List.mem_cons_of_mem _ (List.mem_cons_self ..)
end
theorem slots_super {ks : List KindV} (he : EndsAll ks) {j : Nat} (hj : j < ks.length) : slotsAny ks (j : Int) = slotsAny ks (superZ ks (j : Int)) ++ typesZ 0 (ks.getD j default).fields := by
  have h1 := superZ_lt ks (j : Int)
  unfold slotsAny
  rw [if_neg (by omega), if_neg (by omega), slotsZ_step he hj]
theorem slotsAny_le {ks : List KindV} (hg : GoodK ks) (x : Int) : (slotsAny ks x).length ≤ 4160 := by
  by_cases h : (ks.length : Int) ≤ x
  · unfold slotsAny; rw [if_pos h]; exact Nat.zero_le _
  · rw [slotsAny_len (by omega)]
    exact slotsN_small hg.small hg.ends (by omega)
theorem types_take {w : World} {a : Option Addr} {cap : Nat} {l r : List TypeV} (h : Types w (.slice a (l ++ r).length cap) (l ++ r)) : Types w (.slice a l.length cap) l := by
  obtain ⟨a', cap', e, h1, h2, h3, h4⟩ := h
  injection e with e1 _ e3
  subst e1 e3
  rw [List.length_append] at h1 h4
  refine ⟨a, cap, rfl, by omega, h2, h3, fun x hx h0 => ?_⟩
  obtain ⟨b, o, hb, h5⟩ := h4 x hx (by omega)
  refine ⟨b, o, hb, fun i hi => ?_⟩
  have : TypeAt w b o i ((l ++ r).getD i default) := h5 i (by omega)
  rw [show (l ++ r).getD i default = l.getD i default by simp [List.getD, List.getElem?_append_left hi]] at this
  exact this
end Go.Proofs.YtgdgffnaknkbcaaGreatDoor
namespace Go.Proofs.YtgdgffnaknkbcaaGreatDoor
open Go.RowKit
set_option linter.unusedVariables false
set_option linter.unusedSimpArgs false
theorem awake9 (w : World) : Calls Tryz.prog 12 #[] w fun e w' => e = .returned (.bool true) ∧ Only (fun _ => False) w w' := by
  have C := Lib.hid (pBuilt w)
  go_enter Tryz.func12, Tryz.ntmps12
  go_wp2_with (fail)
  refine C.out.mono ?_
  rintro e w1 ⟨rfl, ho⟩
  have HO := Lib.hid ho
  clear ho
  go_wp2
  go_ret
  exact ⟨rfl, HO.out⟩
end Go.Proofs.YtgdgffnaknkbcaaGreatDoor
namespace Go.Proofs.YtgdgffnaknkbcaaGreatDoor
open Go.RowKit
set_option linter.unusedVariables false
set_option linter.unusedSimpArgs false
theorem neq_type9 (k : TypeV) (w : World) : (binOp .neq 63 (.agg #[.int .i64 k.k, .string k.name, .int .i64 k.dims, .int .i64 k.elem, .int .i64 k.at_]) (.agg #[.int .i64 k.k, .string k.name, .int .i64 k.dims, .int .i64 k.elem, .int .i64 k.at_])).run Tryz.prog w = .ok (.bool false) w := by
  have h := eql_type k k w
  rw [eqT_self] at h
  unfold valT at h
  rw [run_eql_struct] at h
  rw [run_neq_struct]
  generalize (Op.equalIn 10000 63 _ _).run Tryz.prog w = r at *
  cases r with
  | ok b w' =>
    simp only [Result.andThen, Result.ok.injEq, Value.bool.injEq] at h ⊢
    rw [h.1, h.2]
    exact ⟨rfl, rfl⟩
  | halt x w' => simp [Result.andThen] at h
set_option maxHeartbeats 4000000 in
set_option maxRecDepth 100000 in
theorem sameTy9 (v1 v2 : Value) (l : List TypeV) (w : World) (h1 : Types w v1 l) (h2 : Types w v2 l) (hn : l.length ≤ 9223372036854775806) :
    Calls Tryz.prog 27 #[v1, v2] w fun e w' => e = .returned (.bool true) ∧ Only (fun _ => False) w w' := by
  obtain ⟨a1, c1, rfl, p1, p2, p3, _⟩ := id h1
  obtain ⟨a2, c2, rfl, s1, s2, s3, _⟩ := id h2
  have H1 := Lib.hid h1
  have H2 := Lib.hid h2
  clear h1 h2 p3 s3
  go_enter Tryz.func27, Tryz.ntmps27
  go_wp2
  go_loopw [5] (fun i wr => ∃ j : Nat, i = .int .i64 j ∧ j ≤ l.length ∧ Only (fun _ => False) w wr) (fun i _ => l.length - (intOf i).toNat)
  case atStart => exact ⟨0, rfl, Nat.zero_le _, Only.refl _ _⟩
  case round =>
    obtain ⟨j, rfl, hj, hon⟩ := hrel
    have HON := Lib.hid hon
    by_cases hlt : j < l.length
    · obtain ⟨b, o, rfl, x⟩ := Sl.at (H1.out.only hon) hlt
      obtain ⟨b2, o2, rfl, y⟩ := Sl.at (H2.out.only hon) hlt
      have hjz : (j : Int) < (l.length : Int) := by omega
      obtain ⟨x0, x1, x2, x3, x4⟩ := x
      obtain ⟨y0, y1, y2, y3, y4⟩ := y
      have n1 := neq_type9 (l.getD j default)
      have g1 := guard_type
      generalize l.getD j default = k at *
      clear hon
      go_wp2
      go_quiet (fail)
      go_wp2
      go_roundw
      case rel => exact ⟨j + 1, by go_num, by omega, HON.out.drewN _⟩
      case measure => simp [intOf]; omega
    · obtain rfl : j = l.length := by omega
      clear hlt hj hon
      go_wp2
      go_ret
      exact ⟨rfl, HON.out⟩
end Go.Proofs.YtgdgffnaknkbcaaGreatDoor
namespace Go.Proofs.YtgdgffnaknkbcaaGreatDoor
open Go.RowKit Go.Maps
set_option linter.unusedVariables false
set_option linter.unusedSimpArgs false
set_option maxHeartbeats 4000000 in
set_option maxRecDepth 100000 in
theorem lMethod {G : Nat → Prop} {w : World} {lb n : Nat} {c : ClassV} {vp vf vm vof vom : Value} (hl : w.heap[lb]? = some (listedO n c vp vf vm vof vom)) (hcl : ClassG G w vp vf vm c) (hfew : FewC c) (i : Nat) (hi : i < c.methods.length) :
    Calls Tryz.prog 215 #[.pointer (some ⟨lb, 0, none⟩), .int .i64 (i : Int)] w fun e w' => ∃ a b d, e = .returned (valMth (c.methods.getD i default) a b d) ∧ InsideG (fun k => k < w.heap.size) w' (c.methods.getD i default) a b d ∧ Only (fun _ => False) w w' := by
  have ho0 := (Only.refl (fun _ => False) w).alloc zeroMth
  have hr0 := heap_alloc_new w zeroMth
  obtain ⟨f, hsl, hins, -⟩ := hcl.meths.plain
  obtain ⟨ao, cap, rfl, p1, p2, -, -⟩ := id hsl
  obtain ⟨b9, o9, rfl, hat⟩ := Sl.at hsl hi
  have hin := hins i hi
  have hfw := hfew.each _ (getD_mem hi)
  obtain ⟨m, hm⟩ : ∃ m, m = c.methods.getD i default := ⟨_, rfl⟩
  rw [← hm] at hat hin hfw ⊢
  generalize (f i).1 = fa at *
  generalize (f i).2.1 = fb at *
  generalize (f i).2.2 = fc at *
  obtain ⟨ua, ka, rfl, -⟩ := id hin.1
  obtain ⟨ub, kb, rfl, -⟩ := id hin.2.1.1
  obtain ⟨uc, kc, rfl, -⟩ := id hin.2.2
  obtain ⟨c0, c1, c2, c3, c4, c5, c6, c7⟩ := (hat.only ho0)
  have hol := ho0.heap hl (fun h => h)
  obtain ⟨q0, q1, q2, q3, q4, q5, q6, q7⟩ := cells8M hol
  have CC := Lib.hid (pCloneMethod m _ _ _ (w.alloc zeroMth) (hin.only ho0) hfw.1 hfw.2.1 hfw.2.2)
  have hiz : (i : Int) < (c.methods.length : Int) := by omega
  have hi0 : (0 : Int) ≤ (i : Int) := by omega
  have HO := Lib.hid ho0
  have HR := Lib.hid hr0
  clear hl hcl hfew ho0 hr0 hsl hins hat hin hfw hm hol hi
  go_enter Tryz.func215, Tryz.ntmps215
  go_wp2_with (fail)
  refine CC.out.mono ?_
  rintro e w2 ⟨a, b, d, rfl, hin2, ho2⟩
  obtain ⟨aA, kA, rfl, -⟩ := id hin2.1.1
  obtain ⟨aB, kB, rfl, -⟩ := id hin2.2.1.1
  obtain ⟨aD, kD, rfl, -⟩ := id hin2.2.2.1
  have hr2 := ho2.heap HR.out (fun h => h)
  obtain ⟨u0, u1, u2, u3, u4, u5, u6, u7⟩ := cells8M hr2
  obtain ⟨v0, v1, v2, v3, v4, v5, v6, v7⟩ := marks8M hr2
  have HR2 := Lib.hid hr2
  have HO2 := Lib.hid (HO.out.trans ho2 (fun _ h _ => h))
  have HIN := Lib.hid hin2
  have HLT := Lib.hid (show w.heap.size < (w.alloc zeroMth).heap.size from heap_lt HR.out)
  clear hr2 ho2 hin2 q0 q1 q2 q3 q4 q5 q6 q7 c0 c1 c2 c3 c4 c5 c6 c7
  go_wp2
  exact bodyPost_ret (meth_alone (b := w.heap.size) Tryz.results215 (store8M HR2.out) rfl) rfl ⟨_, _, _, rfl, InsideG.mono (G := fun k => k < (w.alloc zeroMth).heap.size) (fun k _ hk => by have h1 := HLT.out; have h2 : k < w.heap.size := hk; show k < (w.alloc zeroMth).heap.size; omega) (InsideG.only (G := fun k => k < (w.alloc zeroMth).heap.size) (S := fun k => k = w.heap.size) (only8M (Only.refl _ w2) (fun _ => rfl)) (fun k hk => by have h1 := HLT.out; have h2 : k = w.heap.size := hk; show k < (w.alloc zeroMth).heap.size; omega) HIN.out), only8M HO2.out (fun hl => absurd hl (Nat.lt_irrefl _))⟩
end Go.Proofs.YtgdgffnaknkbcaaGreatDoor
