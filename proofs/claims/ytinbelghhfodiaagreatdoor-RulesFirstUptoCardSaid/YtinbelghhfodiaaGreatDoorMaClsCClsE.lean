import Derived.Test.YtinbelghhfodiaaGreatDoorMaTkH
import Derived.Test.YtinbelghhfodiaaGreatDoorMaClsAKndL
import Derived.Test.YtinbelghhfodiaaGreatDoorMaPolLKndW
import Derived.Test.YtinbelghhfodiaaGreatDoorMaTxtFArg
import Derived.Deep.RegionHeld3
namespace Go.Proofs.YtinbelghhfodiaaGreatDoor
set_option maxHeartbeats 8000000
open Lib (hid)
open Go.RowKit
set_option linter.unusedVariables false
set_option linter.unusedSimpArgs false
def IsTo (Q : Prop) (w : World) (e : Ending) (w' : World) : Prop := ∃ r, e = .returned (.bool r) ∧ (r = true ↔ Q) ∧ Only (fun _ => False) w w'
theorem IsTo.no {Q : Prop} {w w' : World} (h : ¬ Q) (ho : Only (fun _ => False) w w') : IsTo Q w (.returned (.bool false)) w' := ⟨false, rfl, by simp [h], ho⟩
theorem MethodP.mk {cs : List ConstV} {fl nm ds st lo : Int} {code maps : List Int} {traps : List TrapV} (h0 : fl = 0 ∨ fl = 8) (h1 : (textZ cs nm).2 = true) (h2 : (textZ cs ds).2 = true) (h3 : 0 ≤ st) (h4 : st ≤ 64) (h5 : 0 ≤ lo) (h6 : lo ≤ 64)
    (h7 : 1 ≤ (code.length : Int)) (h8 : (code.length : Int) ≤ 4096) (h9 : (maps.length : Int) ≤ 4096) (h10 : ¬ placeOf cs codeT = 0) (h11 : 0 < maps.length → ¬ placeOf cs mapsT = 0) : HeadP cs ⟨fl, nm, ds, st, lo, code, traps, maps⟩ ∧ BodyP cs ⟨fl, nm, ds, st, lo, code, traps, maps⟩ :=
  ⟨⟨h0, h1, h2, h3, h4, h5, h6⟩, ⟨show 1 ≤ code.length by omega, show code.length ≤ 4096 by omega, show maps.length ≤ 4096 by omega, h10, h11⟩⟩
theorem IsTo.yes {Q : Prop} {w w' : World} (h : Q) (ho : Only (fun _ => False) w w') : IsTo Q w (.returned (.bool true)) w' := ⟨true, rfl, by simp [h], ho⟩
set_option maxRecDepth 100000 in
theorem refMethod (v : Value) (cs : List ConstV) (m : MethodV) (vc vt vm : Value) (w : World) (hp : Pool w v cs) (hi : Inside w m vc vt vm) (hr : MethodR m) :
    Calls Tryz.prog 76 #[v, .agg #[.int .i64 m.flags, .int .i64 m.name, .int .i64 m.desc, .int .i64 m.stack, .int .i64 m.locals, vc, vt, vm]] w (IsTo (MethodP cs m) w) := by
  obtain ⟨ao, cap, rfl, _, _, _, _, _⟩ := id hp
  obtain ⟨hc, ht, hm⟩ := hi
  obtain ⟨ac, cc, rfl, hc1, hc2, _, _, _⟩ := id hc
  obtain ⟨am, cm, rfl, hm1, hm2, _, _, _⟩ := id hm
  obtain ⟨at_, ct, rfl, ht1, ht2⟩ := ht.1.slice
  have cU := fun i w' (ho : Only (fun _ => False) w w') => refUtf _ cs i w' (hp.only ho (fun _ _ h => h))
  have cC := fun i w' (ho : Only (fun _ => False) w w') => refCls _ cs i w' (hp.only ho (fun _ _ h => h))
  have cP := fun s w' (ho : Only (fun _ => False) w w') => refPlace _ cs s w' (hp.only ho (fun _ _ h => h))
  have HT := hid ht
  have CU := hid cU
  have CC := hid cC
  have CP := hid cP
  obtain ⟨fl, nm, ds, st, lo, code, traps, maps⟩ := m
  obtain ⟨r0, r1, r2, r3, r4⟩ := hr
  unfold I64 at r0 r1 r2 r3 r4
  simp only at *
  unfold maxLen at hc2 hm2
  have ho0 : ∀ o, Only (fun _ => False) w (w.alloc o) := fun o => (Only.refl _ w).alloc o
  have HO := hid ho0
  have hQ : MethodP cs ⟨fl, nm, ds, st, lo, code, traps, maps⟩ = (HeadP cs ⟨fl, nm, ds, st, lo, code, traps, maps⟩ ∧ BodyP cs ⟨fl, nm, ds, st, lo, code, traps, maps⟩ ∧ ∀ t ∈ traps, TrapP cs code.length t) := rfl
  have HQ := hid hQ
  have hbx := heap_alloc_new w (.cells #[.int .i64 fl, .int .i64 nm, .int .i64 ds, .int .i64 st, .int .i64 lo, .slice ac code.length cc, .slice at_ traps.length ct, .slice am maps.length cm] 63)
  have q6 := cell_blk hbx 6
  simp at q6
  have Q6 := hid q6
  clear hQ hp hc hm ht cU cC cP ho0 hbx q6
  go_enter Tryz.func76, Tryz.ntmps76
  go_wp2_with (first | (go_at_call 75; refine (CU.out _ _ (HO.out _)).mono ?_; rintro e w' ⟨rfl, rfl⟩) | (go_at_call 115; refine (CP.out _ _ (HO.out _)).mono ?_; rintro e w' ⟨rfl, rfl⟩))
  all_goals first
    | (go_ret; exact IsTo.no (fun h => by
        obtain ⟨⟨hf, h1, h2, h3, h4, h5, h6⟩, ⟨h7, h8, h9, h10, h11⟩, _⟩ := h
        unfold FlagsP at hf
        simp only [beq_iff_eq, codeT, mapsT] at *
        first
          | omega
          | exact absurd h1 (by assumption)
          | exact absurd h2 (by assumption)
          | exact absurd (by assumption) h10
          | (have h12 := h11 (by assumption); omega)) (HO.out _))
    | skip
  all_goals
    have hfl : fl = 0 ∨ fl = 8 := by omega
    have hHB := MethodP.mk (cs := cs) (fl := fl) (nm := nm) (ds := ds) (st := st) (lo := lo) (code := code) (maps := maps) (traps := traps) hfl (by assumption) (by assumption) (by omega) (by omega) (by omega) (by omega) (by omega) (by omega) (by omega) (by assumption)
      (fun hpos => by
        first
          | (exfalso; apply absurd hpos; assumption)
          | (simp_all; done))
    have HHB := hid hHB
    clear hHB
    rcases hfl with rfl | rfl
  all_goals first | (exfalso; omega) | skip
  all_goals
    have d1 : decide (st < 0) = false := decide_eq_false (by omega)
    have d2 : decide ((64 : Int) < st) = false := decide_eq_false (by omega)
    have d3 : decide (lo < 0) = false := decide_eq_false (by omega)
    have d4 : decide ((64 : Int) < lo) = false := decide_eq_false (by omega)
    have d5 : decide ((code.length : Int) < 1) = false := decide_eq_false (by omega)
    have d6 : decide ((4096 : Int) < (code.length : Int)) = false := decide_eq_false (by omega)
    have d7 : decide ((4096 : Int) < (maps.length : Int)) = false := decide_eq_false (by omega)
    have e1 : (placeOf cs ⟨#[67, 111, 100, 101]⟩ == 0) = false := beq_eq_false_iff_ne.2 HHB.out.2.2.2.2.1
    have e2 : 0 < maps.length → (placeOf cs ⟨#[83, 116, 97, 99, 107, 77, 97, 112, 84, 97, 98, 108, 101]⟩ == 0) = false := fun h => beq_eq_false_iff_ne.2 (HHB.out.2.2.2.2.2 h)
    try simp only [d1, d2, d3, d4, d5, d6, d7, e1, Bool.or_false, Bool.or_self]
    try simp only [e2 (by first | assumption | omega | (simp_all; done)), Bool.or_false, Bool.or_self]
    clear d1 d2 d3 d4 d5 d6 d7 e1 e2
  all_goals
    go_loopw [6] (fun i wr => ∃ j : Nat, j ≤ traps.length ∧ i = .int .i64 j ∧ (∀ t ∈ traps.take j, TrapP cs code.length t) ∧ wr.cell? ⟨w.heap.size, 6, none⟩ = some (.slice at_ traps.length ct) ∧ Only (fun _ => False) w wr) (fun i _ => traps.length - (intOf i).toNat)
    case atStart => exact ⟨0, Nat.zero_le _, rfl, (fun t ht => by simp at ht), (by first | (simp; done) | exact Q6.out), HO.out _⟩
    case round =>
      obtain ⟨j, hj, rfl, hall, q6, hwo⟩ := hrel
      have Q6R := hid q6
      have HALL := hid hall
      have HWO := hid hwo
      clear hall
      by_cases hlt : j < traps.length
      · have hjz : (j : Int) < (traps.length : Int) := by omega
        have hj0 : (0 : Int) ≤ (j : Int) := by omega
        obtain ⟨b, o, e2, hc⟩ := (Traps.only hwo HT.out).1.at hlt
        subst e2
        have htr := HT.out.2 _ (getD_mem hlt)
        have hmem := getD_mem hlt
        have htk : traps.take (j + 1) = traps.take j ++ [traps.getD j default] := by
          rw [List.take_succ_eq_append_getElem hlt]
          congr 1
          simp [List.getD, hlt]
        have HMEM := hid hmem
        have HTK := hid htk
        obtain ⟨k0, k1, k2, k3⟩ := hc
        clear hwo hmem htk
        obtain ⟨t, ht⟩ : ∃ t, traps.getD j default = t := ⟨_, rfl⟩
        rw [ht] at k0 k1 k2 k3 htr
        have HTJ := hid ht
        clear ht
        obtain ⟨tf, tt, th, ty⟩ := t
        obtain ⟨t0, t1, t2, t3⟩ := htr
        unfold I64 at t0 t1 t2 t3
        simp only at k0 k1 k2 k3 t0 t1 t2 t3
        go_wp2_with (go_at_call 74; refine (CC.out _ _ (HWO.out.alloc _)).mono ?_; rintro e w' ⟨rfl, rfl⟩)
        all_goals first
          | (go_ret; exact IsTo.no (fun h => by
              have h5 := h.2.2 _ HMEM.out
              rw [HTJ.out] at h5
              obtain ⟨h1, h2, h3, h4, h6, h7⟩ := h5
              simp only at h1 h2 h3 h4 h6 h7
              clear HALL HWO HTK HMEM HHB HQ HO CU CC CP
              first
                | (omega; done)
                | (rcases h7 with h7 | h7
                   · first
                       | (omega; done)
                       | (simp_all; done)
                       | (simp_all; omega)
                   · first
                       | (simp_all; done)
                       | (simp_all; omega))) (HWO.out.alloc _))
          | (go_roundw
             case rel =>
               first
                 | refine ⟨j + 1, by omega, by go_num, fun t ht => ?_, ((Only.refl (fun _ => False) wr).alloc _).cell Q6R.out (fun h => h), HWO.out.alloc _⟩
                 | (repeat apply Exists.intro
                    refine ⟨?_, rfl⟩
                    refine ⟨j + 1, by omega, by go_num, fun t ht => ?_, ((Only.refl (fun _ => False) wr).alloc _).cell Q6R.out (fun h => h), HWO.out.alloc _⟩)
               rw [HTK.out, HTJ.out] at ht
               rcases List.mem_append.1 ht with ht | ht
               · exact HALL.out t ht
               · simp only [List.mem_cons, List.mem_nil_iff, or_false] at ht
                 subst ht
                 clear HALL HWO HTK HMEM HHB HQ HO CU CC CP
                 refine ⟨?_, ?_, ?_, ?_, ?_, ?_⟩
                 all_goals first
                   | (omega; done)
                   | (simp_all; done)
                   | (simp_all; omega)
                   | exact .inl (by omega)
                   | exact .inr (by assumption)
             case measure => simp [intOf]; omega)
      · have hjn : j = traps.length := by omega
        have hnz : (traps.length : Int) ≤ (j : Int) := by omega
        clear hlt
        go_wp2
        go_ret
        refine IsTo.yes ⟨HHB.out.1, HHB.out.2, fun t ht => HALL.out t ?_⟩ HWO.out
        rw [hjn, List.take_of_length_le (Nat.le_refl _)]
        exact ht
set_option maxRecDepth 100000 in
theorem refClsCheck (vp vf vm : Value) (c : ClassV) (w : World) (hc : ClassM w vp vf vm c) (ht : Texts c.pool) :
    Calls Tryz.prog 34 #[.agg #[vp, .int .i64 c.this, .int .i64 c.super, vf, vm]] w fun e w' => e = .returned (.int .i64 (clsZ c)) ∧ Only (fun _ => False) w w' := by
  obtain ⟨pool, this, super, fields, methods⟩ := c
  have ho0 : Only (fun _ => False) w (w.alloc (.cells #[vp, .int .i64 this, .int .i64 super, vf, vm] 84)) := (Only.refl _ _).alloc _
  have hbx := heap_alloc_new w (.cells #[vp, .int .i64 this, .int .i64 super, vf, vm] 84)
  obtain ⟨hp, hf, hm, r1, r2⟩ := id hc
  simp only at *
  obtain ⟨ap, cp, rfl, _, _, _, _, _⟩ := id hp
  obtain ⟨af, cf, rfl, hf1, hf2⟩ := hf.1.slice
  obtain ⟨fm, hm1, hm2, hm3⟩ := id hm
  obtain ⟨am, cm, rfl, hm4, hm5⟩ := hm1.slice
  unfold I64 at r1 r2
  have cK := refCheck _ pool _ (hp.only ho0 (fun _ _ h => h)) ht
  have HC := hid hc
  have HO := hid ho0
  have HBX := hid hbx
  have HM1 := hid hm1
  have HM2 := hid hm2
  have HM3 := hid hm3
  obtain ⟨z, hz⟩ : ∃ z, checkZ pool = z := ⟨_, rfl⟩
  rw [hz] at cK
  have HZ := hid hz
  have CK := hid cK
  clear hc ho0 hbx hp hf hm hm1 hm2 hm3 cK hz ht
  go_enter Tryz.func34, Tryz.ntmps34
  go_wp2_with (fail)
  refine CK.out.mono ?_
  rintro e w1 ⟨rfl, ho1⟩
  have hb1 := ho1.heap HBX.out (fun h => h)
  have q0 := cell_blk hb1 0
  have q1 := cell_blk hb1 1
  have q2 := cell_blk hb1 2
  have q3 := cell_blk hb1 3
  have q4 := cell_blk hb1 4
  simp at q0 q1 q2 q3 q4
  have HB1 := hid hb1
  have HO1 := hid (HO.out.trans ho1 (fun _ h => h.elim))
  clear ho1 hb1 CK
  by_cases h0 : z = 0
  rotate_left
  · have z1 : (z == 0) = false := by simpa using h0
    have z2 : (z != 0) = true := by simpa using h0
    have HR := hid (show clsZ ⟨pool, this, super, fields, methods⟩ = z by rw [clsZ_pool (by show checkZ pool ≠ 0; rw [HZ.out]; exact h0)]; exact HZ.out)
    clear h0
    go_wp2
    go_ret
    exact ⟨by rw [HR.out]; rfl, HO1.out⟩
  subst h0
  have long : LongP ⟨pool, this, super, fields, methods⟩ → clsZ ⟨pool, this, super, fields, methods⟩ = 2 := clsZ_long HZ.out
  have LONG := hid long
  clear long
  by_cases hl : 64 < fields.length
  · have hlz : (64 : Int) < (fields.length : Int) := by omega
    have HR := hid (LONG.out (.inl hl))
    go_wp2
    go_ret
    exact ⟨by rw [HR.out]; rfl, HO1.out⟩
  have hlz : (fields.length : Int) ≤ 64 := by omega
  by_cases hl2 : 64 < methods.length
  · have hlz2 : (64 : Int) < (methods.length : Int) := by omega
    have HR := hid (LONG.out (.inr (.inl hl2)))
    go_wp2
    go_ret
    exact ⟨by rw [HR.out]; rfl, HO1.out⟩
  have hlz2 : (methods.length : Int) ≤ 64 := by omega
  go_wp2
  go_loopw [4] (fun i wr => ∃ j : Nat, j ≤ methods.length ∧ i = .int .i64 j ∧ (∀ m ∈ methods.take j, m.traps.length ≤ 64) ∧ w1 = wr) (fun i _ => methods.length - (intOf i).toNat)
  case atStart => exact ⟨0, Nat.zero_le _, rfl, (fun m hm => by simp at hm), rfl⟩
  case round =>
    obtain ⟨j, hj, rfl, hall, rfl⟩ := hrel
    have HALL := hid hall
    clear hall
    by_cases hlt : j < methods.length
    · have hjz : (j : Int) < (methods.length : Int) := by omega
      obtain ⟨b, o, e2, hat⟩ := HM1.out.at hlt
      subst e2
      have k6 := (hat.only HO1.out).c6
      have hin := HM2.out j hlt
      have HMEM := hid (getD_mem hlt)
      have HTK := hid (take_snoc hlt)
      obtain ⟨m, hm⟩ : ∃ m, methods.getD j default = m := ⟨_, rfl⟩
      rw [hm] at hin HMEM HTK
      obtain ⟨at_, ct, e3, hs1, hs2⟩ := hin.2.1.1.slice
      rw [e3] at k6
      clear hat hin e3 hm
      by_cases h64 : 64 < m.traps.length
      · have h64z : (64 : Int) < (m.traps.length : Int) := by omega
        have HR := hid (LONG.out (.inr (.inr ⟨m, HMEM.out, h64⟩)))
        go_wp2
        go_ret
        exact ⟨by rw [HR.out]; rfl, HO1.out⟩
      · have h64z : (m.traps.length : Int) ≤ 64 := by omega
        go_wp2
        go_roundw
        case rel => exact ⟨j + 1, by omega, by go_num, (fun x hx => by
          rw [HTK.out] at hx
          rcases List.mem_append.1 hx with hx | hx
          · exact HALL.out x hx
          · simp only [List.mem_cons, List.mem_nil_iff, or_false] at hx; subst hx; omega), (by first | rfl | trivial)⟩
        case measure => simp [intOf]; omega
    · have hjn : j = methods.length := by omega
      have hjz : (methods.length : Int) ≤ (j : Int) := by omega
      have HNL := hid (show ¬ LongP ⟨pool, this, super, fields, methods⟩ from fun h => by
        rcases h with h | h | ⟨m, hm, h⟩
        · exact hl h
        · exact hl2 h
        · have := HALL.out m (by rw [hjn, List.take_of_length_le (Nat.le_refl _)]; exact hm); omega)
      clear hlt hjn HALL HM1
      have cThis := refCls _ pool this w1 (HC.out.1.only HO1.out (fun _ _ h => h))
      have cSuper := refCls _ pool super w1 (HC.out.1.only HO1.out (fun _ _ h => h))
      have wrong : ¬ RightP ⟨pool, this, super, fields, methods⟩ → clsZ ⟨pool, this, super, fields, methods⟩ = 50 := clsZ_wrong HZ.out HNL.out
      have WRONG := hid wrong
      have CT := hid cThis
      have CS := hid cSuper
      clear wrong cThis cSuper
      obtain ⟨bt, hbt⟩ : ∃ b, (classZ pool this).2 = b := ⟨_, rfl⟩
      obtain ⟨bs, hbs⟩ : ∃ b, (classZ pool super).2 = b := ⟨_, rfl⟩
      rw [hbt] at CT
      rw [hbs] at CS
      have HBT := hid hbt
      have HBS := hid hbs
      clear hbt hbs
      cases bt
      · have HR := hid (WRONG.out (fun h => by rw [h.1] at HBT; exact absurd HBT.out (by decide)))
        go_wp2_with (go_at_call 74; refine CT.out.mono ?_; rintro e w' ⟨rfl, rfl⟩)
        go_ret
        exact ⟨by rw [HR.out]; rfl, HO1.out⟩
      cases bs
      · have HR := hid (WRONG.out (fun h => by have := h.2.1; rw [this] at HBS; exact absurd HBS.out (by decide)))
        go_wp2_with (go_at_call 74; first | (with_reducible refine CT.out.mono ?_; rintro e w' ⟨rfl, rfl⟩) | (with_reducible refine CS.out.mono ?_; rintro e w' ⟨rfl, rfl⟩))
        go_ret
        exact ⟨by rw [HR.out]; rfl, HO1.out⟩
      go_wp2_with (go_at_call 74; first | (with_reducible refine CT.out.mono ?_; rintro e w' ⟨rfl, rfl⟩) | (with_reducible refine CS.out.mono ?_; rintro e w' ⟨rfl, rfl⟩))
      go_loopw [5] (fun i wr => ∃ j : Nat, j ≤ fields.length ∧ i = .int .i64 j ∧ (∀ f ∈ fields.take j, FieldP pool f) ∧ Only (fun _ => False) w1 wr) (fun i _ => fields.length - (intOf i).toNat)
      case atStart => exact ⟨0, Nat.zero_le _, rfl, (fun m hm => by simp at hm), Only.refl _ _⟩
      case round =>
        obtain ⟨j, hj, rfl, hall, hwr⟩ := hrel
        have hbr := hwr.heap HB1.out (fun h => h)
        have HBR := hid hbr
        have q0 := cell_blk hbr 0
        have q3 := cell_blk hbr 3
        have q4 := cell_blk hbr 4
        simp at q0 q3 q4
        have HALL := hid hall
        have HWR := hid hwr
        have hon := HO1.out.trans hwr (fun _ h => h.elim)
        have HON := hid hon
        clear hall hwr hbr
        by_cases hlt : j < fields.length
        · have hjz : (j : Int) < (fields.length : Int) := by omega
          have HFF := hid HC.out.2.1
          obtain ⟨b, o, e2, hat⟩ := HFF.out.1.at hlt
          subst e2
          obtain ⟨k0, k1, k2⟩ := hat.only hon
          have HMEM := hid (getD_mem hlt)
          have HTK := hid (take_snoc hlt)
          obtain ⟨f, hf⟩ : ∃ f, fields.getD j default = f := ⟨_, rfl⟩
          rw [hf] at HMEM HTK k0 k1 k2
          obtain ⟨fl, nm, ds⟩ := f
          simp only at k0 k1 k2
          have hoa := (Only.refl (fun _ => False) wr).alloc (.cells #[.int .i64 fl, .int .i64 nm, .int .i64 ds] 151)
          have q0a := hoa.cell q0 (fun h => h)
          have cU := fun i => refUtf _ pool i _ (HC.out.1.only (hon.trans hoa (fun _ h => h.elim)) (fun _ _ h => h))
          have CU := hid cU
          have HOA := hid (HWR.out.trans hoa (fun _ h => h.elim))
          have HONA := hid (hon.trans hoa (fun _ h => h.elim))
          clear hat hf hon hoa cU
          by_cases hg : FieldP pool ⟨fl, nm, ds⟩
          · obtain ⟨hfl, ht1, ht2⟩ := hg
            unfold FlagsP at hfl
            simp only at hfl ht1 ht2
            have HG := hid (show FieldP pool ⟨fl, nm, ds⟩ from ⟨hfl, ht1, ht2⟩)
            have FIN : ∀ x ∈ fields.take (j + 1), FieldP pool x := fun x hx => by
              rw [HTK.out] at hx
              rcases List.mem_append.1 hx with hx | hx
              · exact HALL.out x hx
              · simp only [List.mem_cons, List.mem_nil_iff, or_false] at hx; subst hx; exact HG.out
            have FIN' := hid FIN
            clear HALL HTK FIN
            rcases hfl with rfl | rfl
            · clear HG
              go_wp2_with (go_at_call 75; refine (CU.out _).mono ?_; rintro e w' ⟨rfl, rfl⟩)
              go_roundw
              case rel => exact ⟨j + 1, by omega, by go_num, FIN'.out, HOA.out⟩
              case measure => simp [intOf]; omega
            · clear HG
              go_wp2_with (go_at_call 75; refine (CU.out _).mono ?_; rintro e w' ⟨rfl, rfl⟩)
              go_roundw
              case rel => exact ⟨j + 1, by omega, by go_num, FIN'.out, HOA.out⟩
              case measure => simp [intOf]; omega
          · have HR := hid (WRONG.out (fun h => hg (h.2.2.1 _ HMEM.out)))
            have HG := hid hg
            clear hg
            by_cases f0 : fl = 0
            · subst f0
              go_wp2_with (go_at_call 75; refine (CU.out _).mono ?_; rintro e w' ⟨rfl, rfl⟩)
              all_goals first
                | (go_ret
                   exact ⟨by rw [HR.out]; rfl, HONA.out⟩)
                | (exfalso
                   apply HG.out
                   refine ⟨?_, ?_, ?_⟩
                   · show _ ∨ _
                     first
                       | (left; rfl)
                       | (right; rfl)
                   · assumption
                   · first
                       | assumption
                       | (have hh : (!(textZ pool ds).2) = false := by assumption
                          simpa using hh))
            by_cases f8 : fl = 8
            · subst f8
              go_wp2_with (go_at_call 75; refine (CU.out _).mono ?_; rintro e w' ⟨rfl, rfl⟩)
              all_goals first
                | (go_ret
                   exact ⟨by rw [HR.out]; rfl, HONA.out⟩)
                | (exfalso
                   apply HG.out
                   refine ⟨?_, ?_, ?_⟩
                   · show _ ∨ _
                     first
                       | (left; rfl)
                       | (right; rfl)
                   · assumption
                   · first
                       | assumption
                       | (have hh : (!(textZ pool ds).2) = false := by assumption
                          simpa using hh))
            have g0 : (fl != 0) = true := by simpa using f0
            have g8 : (fl != 8) = true := by simpa using f8
            clear f0 f8
            go_wp2
            go_ret
            exact ⟨by rw [HR.out]; rfl, HONA.out⟩
        · have hjn : j = fields.length := by omega
          have hjz : (fields.length : Int) ≤ (j : Int) := by omega
          have HFS := hid (show ∀ f ∈ fields, FieldP pool f from fun f hf => HALL.out f (by rw [hjn, List.take_of_length_le (Nat.le_refl _)]; exact hf))
          have hm1 := HC.out.2.2.1
          have HM1 := hid hm1
          have cM := fun m vc vt vm w' (hi : Inside w m vc vt vm) (hr : MethodR m) (ho : Only (fun _ => False) w w') => refMethod _ pool m vc vt vm w' (HC.out.1.only ho (fun _ _ h => h)) (hi.only ho) hr
          have CM := hid cM
          clear hlt hjn HALL hon CT CS hm1 cM
          go_wp2
          go_loopw [7] (fun i wr2 => ∃ j : Nat, j ≤ methods.length ∧ i = .int .i64 j ∧ (∀ m ∈ methods.take j, MethodP pool m) ∧ Only (fun _ => False) wr wr2) (fun i _ => methods.length - (intOf i).toNat)
          case atStart => exact ⟨0, Nat.zero_le _, rfl, (fun m hm => by simp at hm), Only.refl _ _⟩
          case round =>
            obtain ⟨j, hj, rfl, hall, hwr⟩ := hrel
            have hbr := hwr.heap HBR.out (fun h => h)
            have q0 := cell_blk hbr 0
            have q4 := cell_blk hbr 4
            simp at q0 q4
            have HALL := hid hall
            have HWR := hid hwr
            have hon := HON.out.trans hwr (fun _ h => h.elim)
            have HON2 := hid hon
            clear hall hwr hbr
            by_cases hlt : j < methods.length
            · have hjz : (j : Int) < (methods.length : Int) := by omega
              obtain ⟨f2, hs2, hi2, hr2⟩ := HM1.out
              obtain ⟨b, o, e2, hat⟩ := hs2.at hlt
              subst e2
              obtain ⟨k0, k1, k2, k3, k4, k5, k6, k7⟩ := hat.only hon
              have hin := hi2 j hlt
              have hr := hr2 _ (getD_mem hlt)
              have HMEM := hid (getD_mem hlt)
              have HTK := hid (take_snoc hlt)
              obtain ⟨m, hm⟩ : ∃ m, methods.getD j default = m := ⟨_, rfl⟩
              rw [hm] at hin hr HMEM HTK k0 k1 k2 k3 k4
              have hcall := fun w' (ho : Only (fun _ => False) wr w') => CM.out m _ _ _ w' hin hr (hon.trans ho (fun _ h => h.elim))
              obtain ⟨ac, cc, e5, _⟩ := hin.1
              obtain ⟨at_, ct, e6, _, _⟩ := hin.2.1.1.slice
              obtain ⟨ax, cx, e7, _⟩ := hin.2.2
              rw [e5, e6, e7] at hcall
              rw [e5] at k5
              rw [e6] at k6
              rw [e7] at k7
              have HCALL := hid hcall
              clear hat hin e5 e6 e7 hm hon hcall hs2 hi2 hr2 hr
              go_wp2_with (fail)
              refine wp_region_held_drew (S := fun wc => (wc.cell? ⟨w.heap.size, 0, none⟩ = some (.slice ap pool.length cp) ∧ wc.cell? ⟨w.heap.size, 4, none⟩ = some (.slice (some ⟨b, o, none⟩) methods.length cm)) ∧ (wc.cell? ⟨b, o + j * 8, none⟩ = some (.int .i64 m.flags) ∧ wc.cell? ⟨b, o + j * 8 + 1, none⟩ = some (.int .i64 m.name) ∧ wc.cell? ⟨b, o + j * 8 + 2, none⟩ = some (.int .i64 m.desc) ∧ wc.cell? ⟨b, o + j * 8 + 3, none⟩ = some (.int .i64 m.stack) ∧ wc.cell? ⟨b, o + j * 8 + 4, none⟩ = some (.int .i64 m.locals) ∧ wc.cell? ⟨b, o + j * 8 + 5, none⟩ = some (.slice ac m.code.length cc) ∧ wc.cell? ⟨b, o + j * 8 + 6, none⟩ = some (.slice at_ m.traps.length ct) ∧ wc.cell? ⟨b, o + j * 8 + 7, none⟩ = some (.slice ax m.maps.length cx)) ∧ Only (fun _ => False) wr wc) (by kernel_rfl) ⟨⟨q0, q4⟩, ⟨k0, k1, k2, k3, k4, k5, k6, k7⟩, (Only.refl _ _).drew⟩ (fun hHeld => ?_)
              refine wpAnyH_take (i := 0) (v := ?_) (by simp only [List.getElem?_toArray, List.getElem?_cons_succ, List.getElem?_cons_zero]; rfl) (by kernel_rfl) (by kernel_rfl) (by kernel_rfl) (by exact fun _ _ _ h => h) (Or.inl ⟨by rfl, ?_⟩) (by assumption) ?_
              rotate_left 1
              · (intro w h; (try dsimp only at h); go_simp; try with_reducible rfl)
              try simp only [Act.put, sIB, sC0, sCS]
              refine wpAnyH_take (i := 1) (v := ?_) (by simp only [List.getElem?_toArray, List.getElem?_cons_succ, List.getElem?_cons_zero]; rfl) (by kernel_rfl) (by kernel_rfl) (by kernel_rfl) (by exact fun _ _ _ h => h) (Or.inl ⟨by rfl, ?_⟩) (by assumption) ?_
              rotate_left 1
              · (intro w h; (try dsimp only at h); go_simp; try with_reducible rfl)
              try simp only [Act.put, sIB, sC0, sCS]
              refine wpAnyH_take (i := 2) (v := ?_) (by simp only [List.getElem?_toArray, List.getElem?_cons_succ, List.getElem?_cons_zero]; rfl) (by kernel_rfl) (by kernel_rfl) (by kernel_rfl) (by exact fun _ _ _ h => h) (Or.inl ⟨by rfl, ?_⟩) (by assumption) ?_
              rotate_left 1
              · (intro w h; (try dsimp only at h); go_simp; try with_reducible rfl)
              try simp only [Act.put, sIB, sC0, sCS]
              refine wpAnyH_take (i := 3) (v := ?_) (by simp only [List.getElem?_toArray, List.getElem?_cons_succ, List.getElem?_cons_zero]; rfl) (by kernel_rfl) (by kernel_rfl) (by kernel_rfl) (by exact fun _ _ _ h => h) (Or.inl ⟨by rfl, ?_⟩) (by assumption) ?_
              rotate_left 1
              · (intro w h; (try dsimp only at h); go_simp; try with_reducible rfl)
              try simp only [Act.put, sIB, sC0, sCS]
              refine wpAnyH_take (i := 4) (v := ?_) (by simp only [List.getElem?_toArray, List.getElem?_cons_succ, List.getElem?_cons_zero]; rfl) (by kernel_rfl) (by kernel_rfl) (by kernel_rfl) (by exact fun _ _ _ h => h) (Or.inl ⟨by rfl, ?_⟩) (by assumption) ?_
              rotate_left 1
              · (intro w h; (try dsimp only at h); go_simp; try with_reducible rfl)
              try simp only [Act.put, sIB, sC0, sCS]
              refine wpAnyH_take (i := 5) (v := ?_) (by simp only [List.getElem?_toArray, List.getElem?_cons_succ, List.getElem?_cons_zero]; rfl) (by kernel_rfl) (by kernel_rfl) (by kernel_rfl) (by exact fun _ _ _ h => h) (Or.inl ⟨by rfl, ?_⟩) (by assumption) ?_
              rotate_left 1
              · (intro w h; (try dsimp only at h); go_simp; try with_reducible rfl)
              try simp only [Act.put, sIB, sC0, sCS]
              refine wpAnyH_take (i := 6) (v := ?_) (by simp only [List.getElem?_toArray, List.getElem?_cons_succ, List.getElem?_cons_zero]; rfl) (by kernel_rfl) (by kernel_rfl) (by kernel_rfl) (by exact fun _ _ _ h => h) (Or.inl ⟨by rfl, ?_⟩) (by assumption) ?_
              rotate_left 1
              · (intro w h; (try dsimp only at h); go_simp; try with_reducible rfl)
              try simp only [Act.put, sIB, sC0, sCS]
              refine tkR 7 (h := fun K hK => ?_)
              go_simp
              refine (HCALL.out _ hHeld.2.2).mono ?_; rintro e w5 ⟨r, rfl, hr, ho5⟩; have HRR := hid hr; have HO5 := hid (hHeld.2.2.trans ho5 (fun _ h => h.elim)); have HQ := hid (And.intro (And.intro (ho5.cell hHeld.1.1 (fun h => h)) (ho5.cell hHeld.1.2 (fun h => h))) (And.intro (ho5.cell hHeld.2.1.1 (fun h => h)) (And.intro (ho5.cell hHeld.2.1.2.1 (fun h => h)) (And.intro (ho5.cell hHeld.2.1.2.2.1 (fun h => h)) (And.intro (ho5.cell hHeld.2.1.2.2.2.1 (fun h => h)) (And.intro (ho5.cell hHeld.2.1.2.2.2.2.1 (fun h => h)) (And.intro (ho5.cell hHeld.2.1.2.2.2.2.2.1 (fun h => h)) (And.intro (ho5.cell hHeld.2.1.2.2.2.2.2.2.1 (fun h => h)) (ho5.cell hHeld.2.1.2.2.2.2.2.2.2 (fun h => h)))))))))); clear ho5 hr
              go_wp2_with fail
              refine hK.out _ _ ?_ (fun hHeld2 => ?_)
              · exact ⟨HQ.out.1, HQ.out.2, HO5.out⟩
              clear hK K
              try simp only [Act.put, sIB, sC0, sCS]
              clear hHeld
              have hHeld := hHeld2
              clear hHeld2
              refine wpAnyH_take (i := 8) (v := ?_) (by simp only [List.getElem?_toArray, List.getElem?_cons_succ, List.getElem?_cons_zero]; rfl) (by kernel_rfl) (by kernel_rfl) (by kernel_rfl) (by exact fun _ _ _ h => h) (Or.inl ⟨by rfl, ?_⟩) (by assumption) ?_
              rotate_left 1
              · (intro w h; (try dsimp only at h); go_simp; try with_reducible rfl)
              try simp only [Act.put, sIB, sC0, sCS]
              refine wpAnyH_done (by kernel_rfl) ?_ _
              cases r
              · have HR := hid (WRONG.out (fun h => absurd (HRR.out.2 (h.2.2.2 _ HMEM.out)) (by decide)))
                go_wp2
                go_ret
                exact ⟨by rw [HR.out]; rfl, HON2.out.trans HO5.out (fun _ h => h.elim)⟩
              · have FIN := hid (show ∀ x ∈ methods.take (j + 1), MethodP pool x from fun x hx => by
                  rw [HTK.out] at hx
                  rcases List.mem_append.1 hx with hx | hx
                  · exact HALL.out x hx
                  · simp only [List.mem_cons, List.mem_nil_iff, or_false] at hx; subst hx; exact HRR.out.1 rfl)
                have HO6 := hid (HWR.out.trans HO5.out (fun _ h => h.elim))
                clear HALL HTK
                go_wp2
                go_roundw
                case rel => exact ⟨j + 1, by omega, by go_num, FIN.out, HO6.out⟩
                case measure => simp [intOf]; omega
            · have hjn : j = methods.length := by omega
              have hjz : (methods.length : Int) ≤ (j : Int) := by omega
              have HR := hid (clsZ_ok HZ.out HNL.out (show RightP ⟨pool, this, super, fields, methods⟩ from ⟨HBT.out, HBS.out, HFS.out, fun m hm => HALL.out m (by rw [hjn, List.take_of_length_le (Nat.le_refl _)]; exact hm)⟩))
              clear hlt hjn HALL hon
              go_wp2
              go_ret
              exact ⟨by rw [HR.out]; rfl, HON2.out⟩
end Go.Proofs.YtinbelghhfodiaaGreatDoor
