/- Two classes of the same value are the same for the law's own comparison. No condition. -/
import Derived.Test.YtodhdiccfobcfaaGreatDoorGClsR
import Derived.Deep.QuietTactic
import Derived.BigQuiet
namespace Go.Proofs.YtodhdiccfobcfaaGreatDoor
open Go.RowKit
set_option linter.unusedVariables false
set_option linter.unusedSimpArgs false

set_option maxHeartbeats 8000000 in
set_option maxRecDepth 100000 in
theorem sameC (pa fa ma pb fb mb : Value) (c : ClassV) (w : World) (ha : ClassM w pa fa ma c) (hb : ClassM w pb fb mb c) :
    Calls Tryz.prog 13 #[.agg #[pa, .int .i64 c.this, .int .i64 c.super, fa, ma], .agg #[pb, .int .i64 c.this, .int .i64 c.super, fb, mb]] w fun e w' => e = .returned (.bool true) ∧ Only (fun _ => False) w w' := by
  obtain ⟨hpa, hfa, hma, _, _⟩ := ha
  obtain ⟨hpb, hfb, hmb, _, _⟩ := hb
  obtain ⟨ap1, cp1, rfl, k1, k2, _, _, _⟩ := id hpa
  obtain ⟨ap2, cp2, rfl, k3, k4, _, _, _⟩ := id hpb
  obtain ⟨af1, cf1, rfl, k5, k6⟩ := hfa.1.slice
  obtain ⟨af2, cf2, rfl, k7, k8⟩ := hfb.1.slice
  obtain ⟨fm1, hm1, hi1, _⟩ := id hma
  obtain ⟨fm2, hm2, hi2, _⟩ := id hmb
  obtain ⟨am1, cm1, rfl, k9, k10⟩ := hm1.slice
  obtain ⟨am2, cm2, rfl, k11, k12⟩ := hm2.slice
  obtain ⟨pool, this, super, fields, methods⟩ := c
  simp only at *
  obtain ⟨np, hnp⟩ : ∃ np, pool.length = np := ⟨_, rfl⟩
  obtain ⟨nf, hnf⟩ : ∃ nf, fields.length = nf := ⟨_, rfl⟩
  obtain ⟨nm, hnm⟩ : ∃ nm, methods.length = nm := ⟨_, rfl⟩
  have HNP := Lib.hid hnp
  have HNF := Lib.hid hnf
  have HNM := Lib.hid hnm
  have hF1 := hfa.1
  have hF2 := hfb.1
  rw [hnp] at hpa hpb k1 k3
  rw [hnf] at hF1 hF2 k5 k7
  rw [hnm] at hm1 hm2 hi1 hi2 k9 k11
  rw [hnp, hnf, hnm]
  have HPA := Lib.hid hpa
  have HPB := Lib.hid hpb
  have HFA := Lib.hid hF1
  have HFB := Lib.hid hF2
  have HM1 := Lib.hid hm1
  have HM2 := Lib.hid hm2
  have HI1 := Lib.hid hi1
  have HI2 := Lib.hid hi2
  have hb1 := ((Only.refl (fun _ => False) (w.alloc (.cells #[.slice ap1 np cp1, .int .i64 this, .int .i64 super, .slice af1 nf cf1, .slice am1 nm cm1] 26))).alloc (.cells #[.slice ap2 np cp2, .int .i64 this, .int .i64 super, .slice af2 nf cf2, .slice am2 nm cm2] 26)).heap (heap_alloc_new w (.cells #[.slice ap1 np cp1, .int .i64 this, .int .i64 super, .slice af1 nf cf1, .slice am1 nm cm1] 26)) (fun h => h)
  have hb2 := heap_alloc_new (w.alloc (.cells #[.slice ap1 np cp1, .int .i64 this, .int .i64 super, .slice af1 nf cf1, .slice am1 nm cm1] 26)) (.cells #[.slice ap2 np cp2, .int .i64 this, .int .i64 super, .slice af2 nf cf2, .slice am2 nm cm2] 26)
  have hs1 : (w.alloc (.cells #[.slice ap1 np cp1, .int .i64 this, .int .i64 super, .slice af1 nf cf1, .slice am1 nm cm1] 26)).heap.size = w.heap.size + 1 := by simp
  rw [hs1] at hb2
  have ho2 := ((Only.refl (fun _ => False) w).alloc (.cells #[.slice ap1 np cp1, .int .i64 this, .int .i64 super, .slice af1 nf cf1, .slice am1 nm cm1] 26)).alloc (.cells #[.slice ap2 np cp2, .int .i64 this, .int .i64 super, .slice af2 nf cf2, .slice am2 nm cm2] 26)
  have HB1 := Lib.hid hb1
  have HB2 := Lib.hid hb2
  have HO := Lib.hid ho2
  have q0 := cell_blk hb1 0
  have q1 := cell_blk hb1 1
  have q2 := cell_blk hb1 2
  have q3 := cell_blk hb1 3
  have q4 := cell_blk hb1 4
  have p0 := cell_blk hb2 0
  have p1 := cell_blk hb2 1
  have p2 := cell_blk hb2 2
  have p3 := cell_blk hb2 3
  have p4 := cell_blk hb2 4
  have HQ := Lib.hid (And.intro q0 (And.intro q1 (And.intro q2 (And.intro q3 (And.intro q4 (And.intro p0 (And.intro p1 (And.intro p2 (And.intro p3 p4)))))))))
  clear hpa hpb hfa hfb hma hmb hm1 hm2 hi1 hi2 hb1 hb2 hs1 ho2 hnp hnf hnm hF1 hF2 q0 q1 q2 q3 q4 p0 p1 p2 p3 p4
  go_enter Tryz.func13, Tryz.ntmps13
  obtain ⟨q0, q1, q2, q3, q4, p0, p1, p2, p3, p4⟩ := HQ.out
  simp only [List.getElem?_toArray, List.getElem?_cons_succ, List.getElem?_cons_zero] at q0 q1 q2 q3 q4 p0 p1 p2 p3 p4
  clear HQ
  go_wp2
  generalize (w.alloc (.cells #[.slice ap1 np cp1, .int .i64 this, .int .i64 super, .slice af1 nf cf1, .slice am1 nm cm1] 26)).alloc (.cells #[.slice ap2 np cp2, .int .i64 this, .int .i64 super, .slice af2 nf cf2, .slice am2 nm cm2] 26) = W at *
  clear q0 q1 q2 q3 q4 p0 p1 p2 p3 p4
  go_loopw [5] (fun i wr => ∃ j : Nat, j ≤ np ∧ i = .int .i64 j ∧ Only (fun _ => False) W wr) (fun i _ => np - (intOf i).toNat)
  case atStart => exact ⟨0, Nat.zero_le _, rfl, Only.refl _ _⟩
  case round =>
    obtain ⟨j, hj, rfl, hon⟩ := hrel
    have q0 := cell_blk (hon.heap HB1.out (fun h => h)) 0
    have p0 := cell_blk (hon.heap HB2.out (fun h => h)) 0
    have q1 := cell_blk (hon.heap HB1.out (fun h => h)) 1
    have p1 := cell_blk (hon.heap HB2.out (fun h => h)) 1
    have q3 := cell_blk (hon.heap HB1.out (fun h => h)) 3
    have p3 := cell_blk (hon.heap HB2.out (fun h => h)) 3
    have q4 := cell_blk (hon.heap HB1.out (fun h => h)) 4
    have p4 := cell_blk (hon.heap HB2.out (fun h => h)) 4
    simp at q0 p0 q1 p1 q3 p3 q4 p4
    by_cases hlt : j < np
    · have hjz : (j : Int) < (np : Int) := by omega
      have hj0 : (0 : Int) ≤ (j : Int) := by omega
      have hpw := (HPA.out.only HO.out (fun _ _ h => h)).only hon (fun _ _ h => h)
      have hpw2 := (HPB.out.only HO.out (fun _ _ h => h)).only hon (fun _ _ h => h)
      have hltp : j < pool.length := by rw [HNP.out]; exact hlt
      rw [← HNP.out] at hpw hpw2
      obtain ⟨b, o, rfl, hc⟩ := Pool.at hpw hltp
      obtain ⟨b2, o2, rfl, hc2⟩ := Pool.at hpw2 hltp
      obtain ⟨c0, c1, c2, c3, c4⟩ := hc
      obtain ⟨l0, l1, l2, l3, l4⟩ := hc2
      have HON := Lib.hid hon
      clear hpw hpw2 hon hltp
      generalize pool.getD j default = c at *
      obtain ⟨t, x, n, a, bb⟩ := c
      simp only at *
      go_wp2
      go_quiet (fail)
      go_wp2
      go_roundw
      case rel => exact ⟨j + 1, by omega, by go_num, HON.out.drewN _⟩
      case measure => simp [intOf]; omega
    have hjn : j = np := by omega
    have hnz : (np : Int) ≤ (j : Int) := by omega
    have HW1 := Lib.hid (HO.out.trans hon (fun _ h _ => h))
    have HBa := Lib.hid (hon.heap HB1.out (fun h => h))
    have HBb := Lib.hid (hon.heap HB2.out (fun h => h))
    clear hon HPA HPB HB1 HB2 HO hjn
    go_wp2
    clear q0 q1 q3 q4 p0 p1 p3 p4 hnz hlt hj
    have HB1 := HBa
    have HB2 := HBb
    clear HBa HBb
    go_loopw [6] (fun i wx => ∃ j : Nat, j ≤ nf ∧ i = .int .i64 j ∧ Only (fun _ => False) wr wx) (fun i _ => nf - (intOf i).toNat)
    case atStart => exact ⟨0, Nat.zero_le _, rfl, Only.refl _ _⟩
    case round =>
      obtain ⟨j, hj, rfl, hon⟩ := hrel
      have q0 := cell_blk (hon.heap HB1.out (fun h => h)) 0
      have p0 := cell_blk (hon.heap HB2.out (fun h => h)) 0
      have q1 := cell_blk (hon.heap HB1.out (fun h => h)) 1
      have p1 := cell_blk (hon.heap HB2.out (fun h => h)) 1
      have q3 := cell_blk (hon.heap HB1.out (fun h => h)) 3
      have p3 := cell_blk (hon.heap HB2.out (fun h => h)) 3
      have q4 := cell_blk (hon.heap HB1.out (fun h => h)) 4
      have p4 := cell_blk (hon.heap HB2.out (fun h => h)) 4
      simp at q0 p0 q1 p1 q3 p3 q4 p4
      by_cases hlt : j < nf
      · have hjz : (j : Int) < (nf : Int) := by omega
        have hj0 : (0 : Int) ≤ (j : Int) := by omega
        obtain ⟨b, o, rfl, hc⟩ := HFA.out.at hlt
        obtain ⟨b2, o2, rfl, hc2⟩ := HFB.out.at hlt
        obtain ⟨c0, c1, c2⟩ := (hc.only HW1.out).only hon
        obtain ⟨l0, l1, l2⟩ := (hc2.only HW1.out).only hon
        have HON := Lib.hid hon
        clear hc hc2 hon
        generalize fields.getD j default = c at *
        obtain ⟨t, x, n⟩ := c
        simp only at *
        go_wp2
        go_quiet (fail)
        go_wp2
        go_roundw
        case rel => exact ⟨j + 1, by omega, by go_num, HON.out.drewN _⟩
        case measure => simp [intOf]; omega
      have hjn : j = nf := by omega
      have hnz : (nf : Int) ≤ (j : Int) := by omega
      have HW2 := Lib.hid (HW1.out.trans hon (fun _ h _ => h))
      have HBa := Lib.hid (hon.heap HB1.out (fun h => h))
      have HBb := Lib.hid (hon.heap HB2.out (fun h => h))
      clear hon HFA HFB HB1 HB2 HW1 hjn
      go_wp2
      clear q0 q1 q3 q4 p0 p1 p3 p4 hnz hlt hj
      have HB1 := HBa
      have HB2 := HBb
      clear HBa HBb
      generalize wr = wy at *
      go_loopw [7] (fun i wx => ∃ j : Nat, j ≤ nm ∧ i = .int .i64 j ∧ Only (fun _ => False) wy wx) (fun i _ => nm - (intOf i).toNat)
      case atStart => exact ⟨0, Nat.zero_le _, rfl, Only.refl _ _⟩
      case round =>
        obtain ⟨j, hj, rfl, hon⟩ := hrel
        have q0 := cell_blk (hon.heap HB1.out (fun h => h)) 0
        have p0 := cell_blk (hon.heap HB2.out (fun h => h)) 0
        have q1 := cell_blk (hon.heap HB1.out (fun h => h)) 1
        have p1 := cell_blk (hon.heap HB2.out (fun h => h)) 1
        have q3 := cell_blk (hon.heap HB1.out (fun h => h)) 3
        have p3 := cell_blk (hon.heap HB2.out (fun h => h)) 3
        have q4 := cell_blk (hon.heap HB1.out (fun h => h)) 4
        have p4 := cell_blk (hon.heap HB2.out (fun h => h)) 4
        simp at q0 p0 q1 p1 q3 p3 q4 p4
        by_cases hlt : j < nm
        · have hjz : (j : Int) < (nm : Int) := by omega
          have hj0 : (0 : Int) ≤ (j : Int) := by omega
          obtain ⟨b, o, e2, hat⟩ := HM1.out.at hlt
          obtain ⟨b2, o2, e2', hat2⟩ := HM2.out.at hlt
          subst e2 e2'
          have hon' := HW2.out.trans hon (fun _ h _ => h)
          obtain ⟨k0, k1, k2, k3, k4, k5, k6, k7⟩ := hat.only hon'
          obtain ⟨l0, l1, l2, l3, l4, l5, l6, l7⟩ := hat2.only hon'
          have hin1 := (HI1.out j hlt).only hon'
          have hin2 := (HI2.out j hlt).only hon'
          obtain ⟨m, hm⟩ : ∃ m, methods.getD j default = m := ⟨_, rfl⟩
          rw [hm] at hin1 hin2 k0 k1 k2 k3 k4 l0 l1 l2 l3 l4
          obtain ⟨ac1, cc1, e5, _⟩ := id hin1.1
          obtain ⟨at1, ct1, e6, _, _⟩ := hin1.2.1.1.slice
          obtain ⟨ax1, cx1, e7, _⟩ := id hin1.2.2
          obtain ⟨ac2, cc2, g5, _⟩ := id hin2.1
          obtain ⟨at2, ct2, g6, _, _⟩ := hin2.2.1.1.slice
          obtain ⟨ax2, cx2, g7, _⟩ := id hin2.2.2
          rw [e5] at k5
          rw [e6] at k6
          rw [e7] at k7
          rw [g5] at l5
          rw [g6] at l6
          rw [g7] at l7
          rw [e5, e6, e7] at hin1
          rw [g5, g6, g7] at hin2
          have ho1 := (Only.refl (fun _ => False) wr).alloc (.cells #[.int .i64 m.flags, .int .i64 m.name, .int .i64 m.desc, .int .i64 m.stack, .int .i64 m.locals, .slice ac1 m.code.length cc1, .slice at1 m.traps.length ct1, .slice ax1 m.maps.length cx1] 62)
          have ho2 := ho1.alloc (.cells #[.int .i64 m.flags, .int .i64 m.name, .int .i64 m.desc, .int .i64 m.stack, .int .i64 m.locals, .slice ac2 m.code.length cc2, .slice at2 m.traps.length ct2, .slice ax2 m.maps.length cx2] 62)
          have l0 := ho1.cell l0 (fun h => h)
          have l1 := ho1.cell l1 (fun h => h)
          have l2 := ho1.cell l2 (fun h => h)
          have l3 := ho1.cell l3 (fun h => h)
          have l4 := ho1.cell l4 (fun h => h)
          have l5 := ho1.cell l5 (fun h => h)
          have l6 := ho1.cell l6 (fun h => h)
          have l7 := ho1.cell l7 (fun h => h)
          have p4 := ho1.cell p4 (fun h => h)
          have bx := ((Only.refl (fun _ => False) (wr.alloc (.cells #[.int .i64 m.flags, .int .i64 m.name, .int .i64 m.desc, .int .i64 m.stack, .int .i64 m.locals, .slice ac1 m.code.length cc1, .slice at1 m.traps.length ct1, .slice ax1 m.maps.length cx1] 62))).alloc (.cells #[.int .i64 m.flags, .int .i64 m.name, .int .i64 m.desc, .int .i64 m.stack, .int .i64 m.locals, .slice ac2 m.code.length cc2, .slice at2 m.traps.length ct2, .slice ax2 m.maps.length cx2] 62)).heap (heap_alloc_new wr (.cells #[.int .i64 m.flags, .int .i64 m.name, .int .i64 m.desc, .int .i64 m.stack, .int .i64 m.locals, .slice ac1 m.code.length cc1, .slice at1 m.traps.length ct1, .slice ax1 m.maps.length cx1] 62)) (fun h => h)
          have hy := heap_alloc_new (wr.alloc (.cells #[.int .i64 m.flags, .int .i64 m.name, .int .i64 m.desc, .int .i64 m.stack, .int .i64 m.locals, .slice ac1 m.code.length cc1, .slice at1 m.traps.length ct1, .slice ax1 m.maps.length cx1] 62)) (.cells #[.int .i64 m.flags, .int .i64 m.name, .int .i64 m.desc, .int .i64 m.stack, .int .i64 m.locals, .slice ac2 m.code.length cc2, .slice at2 m.traps.length ct2, .slice ax2 m.maps.length cx2] 62)
          rw [show (wr.alloc (.cells #[.int .i64 m.flags, .int .i64 m.name, .int .i64 m.desc, .int .i64 m.stack, .int .i64 m.locals, .slice ac1 m.code.length cc1, .slice at1 m.traps.length ct1, .slice ax1 m.maps.length cx1] 62)).heap.size = wr.heap.size + 1 by simp] at hy
          have cv1 := conv8 (hin1.1.only ho2 (fun _ _ _ h => h))
          have cv2 := conv8 (hin2.1.only ho2 (fun _ _ _ h => h))
          have cv3 := conv8 (hin1.2.2.only ho2 (fun _ _ _ h => h))
          have cv4 := conv8 (hin2.2.2.only ho2 (fun _ _ _ h => h))
          have HT1 := Lib.hid (hin1.2.1.1.imp (fun _ _ _ _ _ h => h.only ho2))
          have HT2 := Lib.hid (hin2.2.1.1.imp (fun _ _ _ _ _ h => h.only ho2))
          have HBX := Lib.hid bx
          have HBY := Lib.hid hy
          have HBa := Lib.hid (ho2.heap (hon.heap HB1.out (fun h => h)) (fun h => h))
          have HON := Lib.hid (hon.trans ho2 (fun _ h _ => h))
          have x0 := cell_blk bx 0
          have y0 := cell_blk hy 0
          have x1 := cell_blk bx 1
          have y1 := cell_blk hy 1
          have x2 := cell_blk bx 2
          have y2 := cell_blk hy 2
          have x3 := cell_blk bx 3
          have y3 := cell_blk hy 3
          have x4 := cell_blk bx 4
          have y4 := cell_blk hy 4
          have x5 := cell_blk bx 5
          have y5 := cell_blk hy 5
          have x6 := cell_blk bx 6
          have y6 := cell_blk hy 6
          have x7 := cell_blk bx 7
          have y7 := cell_blk hy 7
          simp only [List.getElem?_toArray, List.getElem?_cons_succ, List.getElem?_cons_zero] at x0 y0 x1 y1 x2 y2 x3 y3 x4 y4 x5 y5 x6 y6 x7 y7
          clear hat hat2 hon' hin1 hin2 e5 e6 e7 g5 g6 g7 hm ho1 ho2 bx hy hon
          go_wp2
          clear k0 k1 k2 k3 k4 k5 k6 k7 l0 l1 l2 l3 l4 l5 l6 l7 cv1 cv2 cv3 cv4 x0 y0 x1 y1 x2 y2 x3 y3 x4 y4 x5 y5 x6 y6 x7 y7
          generalize (wr.alloc (.cells #[.int .i64 m.flags, .int .i64 m.name, .int .i64 m.desc, .int .i64 m.stack, .int .i64 m.locals, .slice ac1 m.code.length cc1, .slice at1 m.traps.length ct1, .slice ax1 m.maps.length cx1] 62)).alloc (.cells #[.int .i64 m.flags, .int .i64 m.name, .int .i64 m.desc, .int .i64 m.stack, .int .i64 m.locals, .slice ac2 m.code.length cc2, .slice at2 m.traps.length ct2, .slice ax2 m.maps.length cx2] 62) = wm at *
          obtain ⟨nt, hnt⟩ : ∃ nt, m.traps.length = nt := ⟨_, rfl⟩
          rw [hnt] at HT1 HT2 HBX HBY
          have hntb : nt ≤ 9223372036854775807 := by omega
          obtain ⟨bX, hbX⟩ : ∃ bX, wr.heap.size = bX := ⟨_, rfl⟩
          rw [hbX] at HBX HBY
          rw [hbX]
          clear hnt hbX q0 q1 q3 q4 p0 p1 p3 p4
          go_loopw [10] (fun i wx => ∃ k : Nat, k ≤ nt ∧ i = .int .i64 k ∧ Only (fun _ => False) wm wx) (fun i _ => nt - (intOf i).toNat)
          case atStart => exact ⟨0, Nat.zero_le _, rfl, Only.refl _ _⟩
          case round =>
            obtain ⟨k, hk, rfl, hon⟩ := hrel
            have x6 := cell_blk (hon.heap HBX.out (fun h => h)) 6
            have y6 := cell_blk (hon.heap HBY.out (fun h => h)) 6
            simp at x6 y6
            by_cases hltk : k < nt
            · have hkz : (k : Int) < (nt : Int) := by omega
              have hk0 : (0 : Int) ≤ (k : Int) := by omega
              obtain ⟨b, o, e1, hc⟩ := HT1.out.at hltk
              obtain ⟨b2, o2, e2, hc2⟩ := HT2.out.at hltk
              subst e1 e2
              obtain ⟨c0, c1, c2, c3⟩ := hc.only hon
              obtain ⟨l0, l1, l2, l3⟩ := hc2.only hon
              have HONk := Lib.hid hon
              clear hc hc2 hon
              generalize m.traps.getD k default = c at *
              obtain ⟨t, x, n, z⟩ := c
              simp only at *
              go_wp2
              go_quiet (fail)
              go_wp2
              go_roundw
              case rel => exact ⟨k + 1, by omega, by go_num, HONk.out.drewN _⟩
              case measure => simp [intOf]; omega
            have hkn : k = nt := by omega
            have hnz : (nt : Int) ≤ (k : Int) := by omega
            have HONk := Lib.hid (HON.out.trans hon (fun _ h _ => h))
            clear hon hkn
            go_wp2
            go_roundw
            case rel => exact ⟨j + 1, by omega, by go_num, HONk.out⟩
            case measure => simp [intOf]; omega
        have hjn : j = nm := by omega
        have hnz : (nm : Int) ≤ (j : Int) := by omega
        have HW3 := Lib.hid (HW2.out.trans hon (fun _ h _ => h))
        clear hon
        go_wp2
        go_ret
        exact ⟨rfl, HW3.out⟩
end Go.Proofs.YtodhdiccfobcfaaGreatDoor
