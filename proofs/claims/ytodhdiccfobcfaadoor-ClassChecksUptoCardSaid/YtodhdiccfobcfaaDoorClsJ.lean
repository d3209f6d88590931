/- The program's Check of a class: what the document says. No condition but the form's own reach. -/
import Derived.Test.YtodhdiccfobcfaaDoorClsI
import Derived.Test.YtodhdiccfobcfaaDoorPolN
namespace Go.Proofs.YtodhdiccfobcfaaDoor
open Go.RowKit
set_option linter.unusedVariables false
set_option linter.unusedSimpArgs false

/-- What Check goes through: it goes on, or is refused. -/
def CheckTo (c : ClassV) (w : World) (e : Ending) (w' : World) : Prop := Ends (clsZ c) e ∧ Only (fun _ => False) w w'
theorem CheckTo.no {c : ClassV} {z : Int} {w w' : World} (h : clsZ c = z) (hz : z ≠ 0) (ho : Only (fun _ => False) w w') : CheckTo c w (pan z) w' := ⟨.inr ⟨by rw [h]; exact hz, by rw [h]⟩, ho⟩
set_option maxHeartbeats 8000000 in
set_option maxRecDepth 100000 in
theorem clsCheck (vp vf vm : Value) (c : ClassV) (w : World) (hc : ClassM w vp vf vm c) (hT : Tabs w) (hg : ErrV w) :
    Calls Tryd.prog 13 #[.agg #[vp, .int .i64 c.this, .int .i64 c.super, vf, vm]] w (CheckTo c w) := by
  obtain ⟨pool, this, super, fields, methods⟩ := c
  have hbx := heap_alloc_new w (.cells #[vp, .int .i64 this, .int .i64 super, vf, vm] 26)
  have ho0 := (Only.refl (fun _ => False) w).alloc (.cells #[vp, .int .i64 this, .int .i64 super, vf, vm] 26)
  obtain ⟨hp, hf, hm, r1, r2⟩ := id hc
  simp only at *
  have cK := progCheck _ pool _ (hp.only ho0 (fun _ _ h => h)) (hT.only ho0 (fun h => h) (fun h => h)) (hg.only ho0 (fun h => h))
  have cN := fun w' (ho : Only (fun _ => False) w w') => checkCountsP vp vf vm ⟨pool, this, super, fields, methods⟩ w' (hc.only ho)
  obtain ⟨ap, cp, rfl, _, _, _, _, _⟩ := id hp
  obtain ⟨af, cf, rfl, hf1, hf2⟩ := hf.1.slice
  obtain ⟨fm, hm1, hm2, hm3⟩ := id hm
  obtain ⟨am, cm, rfl, hm4, hm5⟩ := hm1.slice
  unfold I64 at r1 r2
  have cC := fun i w' (ho : Only (fun _ => False) w w') => isClass _ pool i w' (hp.only ho (fun _ _ h => h))
  have cF := fun fl nm ds w' (ho : Only (fun _ => False) w w') => checkMemberP _ pool fl nm ds w' (hp.only ho (fun _ _ h => h))
  have cM := fun hb m vc vt vm w' (hi : Inside w m vc vt vm) (ho : Only (fun _ => False) w w') => checkMethodP _ pool m vc vt vm w' (hp.only ho (fun _ _ h => h)) hb (hi.only ho)
  have HC := Lib.hid hc
  have HO := Lib.hid ho0
  have HBX := Lib.hid hbx
  have HM1 := Lib.hid hm1
  have HM2 := Lib.hid hm2
  have CK := Lib.hid cK
  have CN := Lib.hid cN
  have CC := Lib.hid cC
  have CF := Lib.hid cF
  have CM := Lib.hid cM
  clear hc ho0 hbx hp hf hm hm1 hm2 hm3 cK cN cC cF cM hT hg
  obtain ⟨z, hz⟩ : ∃ z, checkZ pool = z := ⟨_, rfl⟩
  rw [hz] at CK
  have HZ := Lib.hid hz
  clear hz
  go_enter Tryd.func13, Tryd.ntmps13
  go_wp2_with (fail)
  refine CK.out.mono ?_
  rintro e w1 ⟨rfl, ho1⟩
  have hb1 := ho1.heap HBX.out (fun h => h)
  have HB1 := Lib.hid hb1
  have HO1 := Lib.hid (HO.out.trans ho1 (fun _ h => h.elim))
  clear ho1 CK
  by_cases h0 : z = 0
  rotate_left
  · have HR := Lib.hid (show clsZ ⟨pool, this, super, fields, methods⟩ = z by rw [clsZ_pool (by show checkZ pool ≠ 0; rw [HZ.out]; exact h0)]; exact HZ.out)
    go_wp2_with (go_at_call 21; refine (refuseN z h0 _).mono ?_; rintro e w' ⟨rfl, rfl⟩)
    exact ⟨rfl, CheckTo.no HR.out h0 HO1.out⟩
  subst h0
  have q0 := cell_blk hb1 0
  have q1 := cell_blk hb1 1
  have q2 := cell_blk hb1 2
  have q3 := cell_blk hb1 3
  have q4 := cell_blk hb1 4
  simp at q0 q1 q2 q3 q4
  clear hb1
  go_wp2_with (go_at_call 21; refine (refuse0 _).mono ?_; rintro e w' ⟨rfl, rfl⟩)
  refine (CN.out _ HO1.out).mono ?_
  rintro e w2 ⟨⟨g1, rfl⟩ | ⟨g1, rfl⟩, ho2⟩
  rotate_left
  · have HR := clsZ_long (c := ⟨pool, this, super, fields, methods⟩) HZ.out (Classical.byContradiction fun h => g1 ((LessP.iff _).2 h))
    exact ⟨rfl, CheckTo.no HR (by decide) (HO1.out.trans ho2 (fun _ h => h.elim))⟩
  have HNL := Lib.hid ((LessP.iff _).1 g1)
  have wrong : ¬ RightP ⟨pool, this, super, fields, methods⟩ → clsZ ⟨pool, this, super, fields, methods⟩ = 50 := clsZ_wrong HZ.out HNL.out
  have WRONG := Lib.hid wrong
  have hb2 := ho2.heap HB1.out (fun h => h)
  have HB2 := Lib.hid hb2
  have HO2 := Lib.hid (HO1.out.trans ho2 (fun _ h => h.elim))
  clear q0 q1 q2 q3 q4
  have q0 := cell_blk hb2 0
  have q1 := cell_blk hb2 1
  simp at q0 q1
  clear wrong g1 ho2 hb2 CN HB1
  go_wp2_with (fail)
  refine (CC.out _ _ HO2.out).mono ?_
  rintro e w3 ⟨rfl, ho3⟩
  have hb3 := ho3.heap HB2.out (fun h => h)
  have HB3 := Lib.hid hb3
  have HO3 := Lib.hid (HO2.out.trans ho3 (fun _ h => h.elim))
  clear q0 q1
  have q0 := cell_blk hb3 0
  have q2 := cell_blk hb3 2
  simp at q0 q2
  clear hb3 ho3 HB2
  obtain ⟨b, hb⟩ : ∃ b, (classZ pool this).2 = b := ⟨_, rfl⟩
  rw [hb]
  have HBT := Lib.hid hb
  clear hb
  cases b
  · go_wp2_with (go_at_call 24; refine (mustF _).mono ?_; rintro e w' ⟨rfl, rfl⟩)
    exact ⟨rfl, CheckTo.no (WRONG.out (fun h => by rw [h.1] at HBT; exact absurd HBT.out (by decide))) (by decide) HO3.out⟩
  go_wp2_with (go_at_call 24; refine (mustT _).mono ?_; rintro e w' ⟨rfl, rfl⟩)
  refine (CC.out _ _ HO3.out).mono ?_
  rintro e w4 ⟨rfl, ho4⟩
  have hb4 := ho4.heap HB3.out (fun h => h)
  have HB4 := Lib.hid hb4
  have HO4 := Lib.hid (HO3.out.trans ho4 (fun _ h => h.elim))
  clear q0 q2
  have q0 := cell_blk hb4 0
  have q3 := cell_blk hb4 3
  simp at q0 q3
  clear hb4 ho4 HB3
  obtain ⟨b, hb⟩ : ∃ b, (classZ pool super).2 = b := ⟨_, rfl⟩
  rw [hb]
  have HBS := Lib.hid hb
  clear hb
  cases b
  · go_wp2_with (go_at_call 24; refine (mustF _).mono ?_; rintro e w' ⟨rfl, rfl⟩)
    exact ⟨rfl, CheckTo.no (WRONG.out (fun h => by have := h.2.1; rw [this] at HBS; exact absurd HBS.out (by decide))) (by decide) HO4.out⟩
  go_wp2_with (go_at_call 24; refine (mustT _).mono ?_; rintro e w' ⟨rfl, rfl⟩)
  go_loopw [27] (fun i wr => ∃ j : Nat, j ≤ fields.length ∧ i = .int .i64 j ∧ (∀ f ∈ fields.take j, FieldP pool f) ∧ Only (fun _ => False) w4 wr) (fun i _ => fields.length - (intOf i).toNat)
  case atStart => exact ⟨0, Nat.zero_le _, rfl, (fun m hm => by simp at hm), Only.refl _ _⟩
  case round =>
    obtain ⟨j, hj, rfl, hall, hwr⟩ := hrel
    have hbr := hwr.heap HB4.out (fun h => h)
    have HBR := Lib.hid hbr
    clear q0 q3
    have q0 := cell_blk hbr 0
    have q4 := cell_blk hbr 4
    simp at q0 q4
    have HALL := Lib.hid hall
    have HWR := Lib.hid hwr
    have hon := HO4.out.trans hwr (fun _ h => h.elim)
    have HON := Lib.hid hon
    clear hall hwr hbr
    by_cases hlt : j < fields.length
    · have hjz : (j : Int) < (fields.length : Int) := by omega
      have HFF := Lib.hid HC.out.2.1
      obtain ⟨b, o, e2, hat⟩ := HFF.out.1.at hlt
      subst e2
      obtain ⟨k0, k1, k2⟩ := hat.only hon
      have HMEM := Lib.hid (getD_mem hlt)
      have HTK := Lib.hid (take_snoc hlt)
      obtain ⟨f, hf⟩ : ∃ f, fields.getD j default = f := ⟨_, rfl⟩
      rw [hf] at HMEM HTK k0 k1 k2
      obtain ⟨fl, nm, ds⟩ := f
      simp only at k0 k1 k2
      have hoa := (Only.refl (fun _ => False) wr).alloc (.cells #[.int .i64 fl, .int .i64 nm, .int .i64 ds] 42)
      have q0a := hoa.cell q0 (fun h => h)
      have HOA := Lib.hid (HWR.out.trans hoa (fun _ h => h.elim))
      have HONA := Lib.hid (hon.trans hoa (fun _ h => h.elim))
      clear hat hf hon hoa
      go_wp2_with (fail)
      refine (CF.out _ _ _ _ HONA.out).mono ?_
      rintro e w5 ⟨⟨g5, rfl⟩ | ⟨g5, rfl⟩, ho5⟩
      rotate_left
      · exact ⟨rfl, CheckTo.no (WRONG.out (fun h => g5 (h.2.2.1 _ HMEM.out))) (by decide) (HONA.out.trans ho5 (fun _ h => h.elim))⟩
      have FIN := Lib.hid (show ∀ x ∈ fields.take (j + 1), FieldP pool x from fun x hx => by
        rw [HTK.out] at hx
        rcases List.mem_append.1 hx with hx | hx
        · exact HALL.out x hx
        · simp only [List.mem_cons, List.mem_nil_iff, or_false] at hx; subst hx; exact g5)
      have HO5 := Lib.hid (HOA.out.trans ho5 (fun _ h => h.elim))
      clear g5 ho5 HALL HTK
      go_wp2
      go_roundw
      case rel => exact ⟨j + 1, by omega, by go_num, FIN.out, HO5.out⟩
      case measure => simp [intOf]; omega
    · have hjn : j = fields.length := by omega
      have hjz : (fields.length : Int) ≤ (j : Int) := by omega
      have HFS := Lib.hid (show ∀ f ∈ fields, FieldP pool f from fun f hf => HALL.out f (by rw [hjn, List.take_of_length_le (Nat.le_refl _)]; exact hf))
      have HBB := Lib.hid (bare_of_right HZ.out)
      clear hjn HALL hon
      go_wp2
      go_loopw [44] (fun i wr2 => ∃ j : Nat, j ≤ methods.length ∧ i = .int .i64 j ∧ (∀ m ∈ methods.take j, MethodP pool m) ∧ Only (fun _ => False) wr wr2) (fun i _ => methods.length - (intOf i).toNat)
      case atStart => exact ⟨0, Nat.zero_le _, rfl, (fun m hm => by simp at hm), Only.refl _ _⟩
      case round =>
        obtain ⟨j, hj, rfl, hall, hwr⟩ := hrel
        have hbr := hwr.heap HBR.out (fun h => h)
        clear q0 q4
        have q0 := cell_blk hbr 0
        simp at q0
        have HALL := Lib.hid hall
        have HWR2 := Lib.hid hwr
        have hon := HON.out.trans hwr (fun _ h => h.elim)
        have HON2 := Lib.hid hon
        clear hall hwr hbr
        by_cases hlt : j < methods.length
        · have hjz : (j : Int) < (methods.length : Int) := by omega
          obtain ⟨b, o, e2, hat⟩ := HM1.out.at hlt
          subst e2
          obtain ⟨k0, k1, k2, k3, k4, k5, k6, k7⟩ := hat.only hon
          have hin := HM2.out j hlt
          have HMEM := Lib.hid (getD_mem hlt)
          have HTK := Lib.hid (take_snoc hlt)
          obtain ⟨m, hm⟩ : ∃ m, methods.getD j default = m := ⟨_, rfl⟩
          rw [hm] at hin HMEM HTK k0 k1 k2 k3 k4
          have hcall := fun w' ho => CM.out HBB.out m _ _ _ w' hin ho
          obtain ⟨ac, cc, e5, _⟩ := hin.1
          obtain ⟨at_, ct, e6, _, _⟩ := hin.2.1.1.slice
          obtain ⟨ax, cx, e7, _⟩ := hin.2.2
          rw [e5, e6, e7] at hcall
          rw [e5] at k5
          rw [e6] at k6
          rw [e7] at k7
          have HCALL := Lib.hid hcall
          have hoa := (Only.refl (fun _ => False) wr).alloc (.cells #[.int .i64 m.flags, .int .i64 m.name, .int .i64 m.desc, .int .i64 m.stack, .int .i64 m.locals, .slice ac m.code.length cc, .slice at_ m.traps.length ct, .slice ax m.maps.length cx] 39)
          have q0a := hoa.cell q0 (fun h => h)
          have HOA := Lib.hid (HWR2.out.trans hoa (fun _ h => h.elim))
          have HONA := Lib.hid (hon.trans hoa (fun _ h => h.elim))
          clear hat hin e5 e6 e7 hm hon hcall hoa
          go_wp2_with (fail)
          refine (HCALL.out _ HONA.out).mono ?_
          rintro e w5 ⟨⟨g5, rfl⟩ | ⟨g5, rfl⟩, ho5⟩
          rotate_left
          · exact ⟨rfl, CheckTo.no (WRONG.out (fun h => g5 (h.2.2.2 _ HMEM.out))) (by decide) (HONA.out.trans ho5 (fun _ h => h.elim))⟩
          have FIN := Lib.hid (show ∀ x ∈ methods.take (j + 1), MethodP pool x from fun x hx => by
            rw [HTK.out] at hx
            rcases List.mem_append.1 hx with hx | hx
            · exact HALL.out x hx
            · simp only [List.mem_cons, List.mem_nil_iff, or_false] at hx; subst hx; exact g5)
          have HO5 := Lib.hid (HOA.out.trans ho5 (fun _ h => h.elim))
          clear g5 ho5 HALL HTK
          go_wp2
          go_roundw
          case rel => exact ⟨j + 1, by omega, by go_num, FIN.out, HO5.out⟩
          case measure => simp [intOf]; omega
        · have hjn : j = methods.length := by omega
          have hjz : (methods.length : Int) ≤ (j : Int) := by omega
          have HR := Lib.hid (clsZ_ok HZ.out HNL.out (show RightP ⟨pool, this, super, fields, methods⟩ from ⟨HBT.out, HBS.out, HFS.out, fun m hm => HALL.out m (by rw [hjn, List.take_of_length_le (Nat.le_refl _)]; exact hm)⟩))
          clear hlt hjn HALL hon
          go_wp2
          go_end0
          exact ⟨.inl ⟨HR.out, rfl⟩, HON2.out⟩
/-- Where a look at a class begins, the place of the error that it will tell. -/
theorem ClassM.at0 {w w' : World} {vp vf vm : Value} {c : ClassV} (h : ClassM w vp vf vm c) (ho : Only (fun _ => False) w w') : ClassM w' vp vf vm c := h.only ho
set_option maxHeartbeats 4000000 in
set_option maxRecDepth 100000 in
theorem progClsCheck (vp vf vm : Value) (c : ClassV) (w : World) (hc : ClassM w vp vf vm c) (hT : Tabs w) (hg : ErrV w) :
    Calls Tryd.prog 4 #[.agg #[vp, .int .i64 c.this, .int .i64 c.super, vf, vm]] w fun e w' => e = .returned (.int .i64 (clsZ c)) ∧ Only (fun _ => False) w w' := by
  have hmf : ∀ (fn : Fn) (first cap : Array Value) (w : World), (Instr.makeFunc fn first cap).run Tryd.prog w = .ok (.func fn first cap) w := fun _ _ _ _ => rfl
  have hen : Enters Tryd.prog 12 := enters_of Tryd.func12 (by kernel_rfl) rfl
  have ho0 := (Only.refl (fun _ => False) w).alloc (.cells #[vp, .int .i64 c.this, .int .i64 c.super, vf, vm] 26)
  have ho1 := ho0.alloc (.cells #[.int .i64 0] 27)
  have hbx := heap_alloc_new w (.cells #[vp, .int .i64 c.this, .int .i64 c.super, vf, vm] 26)
  have hb1 := ((Only.refl (fun _ => False) _).alloc (.cells #[.int .i64 0] 27)).heap hbx (fun h => h)
  have he1 := heap_alloc_new (w.alloc (.cells #[vp, .int .i64 c.this, .int .i64 c.super, vf, vm] 26)) (.cells #[.int .i64 0] 27)
  have cK := clsCheck vp vf vm c _ (hc.only ho1) (hT.only ho1 (fun h => h) (fun h => h)) (hg.only ho1 (fun h => h))
  obtain ⟨hp, hf, hm, r1, r2⟩ := id hc
  obtain ⟨ap, cp, rfl, _, _, _, _, _⟩ := id hp
  obtain ⟨af, cf, rfl, hf1, hf2⟩ := hf.1.slice
  obtain ⟨fm, hm1, hm2, hm3⟩ := id hm
  obtain ⟨am, cm, rfl, hm4, hm5⟩ := hm1.slice
  obtain ⟨pool, this, super, fields, methods⟩ := c
  simp only at *
  have cL : Calls Tryd.prog 12 #[.pointer (some ⟨w.heap.size, 0, none⟩)] ((w.alloc (.cells #[.slice ap pool.length cp, .int .i64 this, .int .i64 super, .slice af fields.length cf, .slice am methods.length cm] 26)).alloc (.cells #[.int .i64 0] 27))
      fun e w1 => ∃ z, Ends z e ∧ (z = clsZ ⟨pool, this, super, fields, methods⟩ ∧ Only (fun _ => False) ((w.alloc (.cells #[.slice ap pool.length cp, .int .i64 this, .int .i64 super, .slice af fields.length cf, .slice am methods.length cm] 26)).alloc (.cells #[.int .i64 0] 27)) w1) := by
    have q0 := cell_blk hb1 0
    have q1 := cell_blk hb1 1
    have q2 := cell_blk hb1 2
    have q3 := cell_blk hb1 3
    have q4 := cell_blk hb1 4
    have CK := Lib.hid cK
    clear cK hc hp hf hm hm1 hm2 hm3 hT hg ho0 ho1 hb1 he1 hbx
    generalize hW : ((w.alloc (.cells #[.slice ap pool.length cp, .int .i64 this, .int .i64 super, .slice af fields.length cf, .slice am methods.length cm] 26)).alloc (.cells #[.int .i64 0] 27)) = W at *
    simp at q0 q1 q2 q3 q4
    clear hW
    go_enter Tryd.func12, Tryd.ntmps12
    go_wp2_with (fail)
    refine CK.out.mono ?_
    rintro e w1 ⟨⟨hz, rfl⟩ | ⟨hz, rfl⟩, ho⟩
    · have HO := Lib.hid ho
      have HZ := Lib.hid hz
      clear ho hz
      go_wp2
      go_end0
      exact ⟨0, .inl ⟨rfl, rfl⟩, HZ.out.symm, HO.out⟩
    · exact ⟨rfl, _, .inr ⟨hz, rfl⟩, rfl, ho⟩
  have cR := refusal 12 hen #[] #[.pointer (some ⟨w.heap.size, 0, none⟩)] (w.alloc (.cells #[.slice ap pool.length cp, .int .i64 this, .int .i64 super, .slice af fields.length cf, .slice am methods.length cm] 26)) (fun z w1 => z = clsZ ⟨pool, this, super, fields, methods⟩ ∧ Only (fun _ => False) ((w.alloc (.cells #[.slice ap pool.length cp, .int .i64 this, .int .i64 super, .slice af fields.length cf, .slice am methods.length cm] 26)).alloc (.cells #[.int .i64 0] 27)) w1) (by simpa using cL) (fun z w1 h => h.2.heap he1 (fun h => h))
  have CR := Lib.hid cR
  have HO := Lib.hid ho1
  clear cL cR cK hc hp hf hm hm1 hm2 hm3 hT hg ho0 ho1 hb1 he1 hbx hen
  go_enter Tryd.func4, Tryd.ntmps4
  go_wp2_with (fail)
  refine CR.out.mono ?_
  rintro e w' ⟨z, w1, rfl, ⟨rfl, ho⟩, rfl⟩
  have HO1 := Lib.hid (HO.out.trans ho (fun _ h => h.elim))
  clear ho
  go_wp2
  go_ret
  exact ⟨rfl, HO1.out.setCell (fun hl => by simp at hl; omega) _⟩
end Go.Proofs.YtodhdiccfobcfaaDoor
