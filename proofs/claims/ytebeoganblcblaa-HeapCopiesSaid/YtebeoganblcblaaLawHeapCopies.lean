/- PROVED: the law HeapCopies: a copy has the same, and what is done to one is not seen in the other; the arguments read as before. For every input. No condition. -/
import Derived.Test.YtebeoganblcblaaHpV
import Derived.Test.YtebeoganblcblaaHpU
import Derived.ProofKit
import Derived.ShutString
import Derived.ChangeOld
import Derived.Below
import Derived.SizedLaws
import Derived.PinnedBridge
import Derived.Deep.CondSized
import Derived.Deep.RegionHeld3
namespace Go.Proofs.Ytebeoganblcblaa.heapCopies
open Go.ChangeShapes Go.WideShapes Go.ChangeAt Go.RowKit
set_option linter.unusedVariables false
set_option linter.unusedSimpArgs false

set_option maxHeartbeats 16000000 in
set_option maxRecDepth 100000 in
theorem walk (v0 v1 : Value) (w : World) (w0 : ∃ xs, Ops14 w v0 xs ∧ xs.length ≤ 140737488351232) (w1 : ∃ xs, Ops14 w v1 xs ∧ xs.length ≤ 140737488351232) :
    Calls Try.prog 6 #[v0, v1] w fun e w' => e = .returned (.bool true) ∧ Below w.heap.size w w' := by
  obtain ⟨xs, hx, hlen⟩ := w0
  obtain ⟨ys, hy, hleny⟩ := w1
  obtain ⟨ao, cap, rfl, -⟩ := id hx.1
  obtain ⟨bo, bcap, rfl, -⟩ := id hy.1
  have HXxs := Lib.hid hx
  have HXys := Lib.hid hy
  clear hx hy
  obtain ⟨n, hn⟩ : ∃ n, xs.length = n := ⟨_, rfl⟩
  obtain ⟨n2, hn2⟩ : ∃ n, ys.length = n := ⟨_, rfl⟩
  rw [hn] at hlen
  rw [hn2] at hleny
  have HNxs := Lib.hid hn
  have HNys := Lib.hid hn2
  have HLEN := Lib.hid hlen
  have HLENY := Lib.hid hleny
  rw [hn, hn2]
  clear hlen hleny hn hn2
  have AW := Lib.hid awake14
  have C1 := Lib.hid (fun W => progNew14 200 (by decide) (by decide) W)
  have C2 := Lib.hid (fun W => refNew14 200 (by decide) (by decide) W)
  go_enter Try.func6, Try.ntmps6
  go_wp2_with (fail)
  refine (C1.out _).mono ?_
  rintro e w1 ⟨p, G, rfl, hp1, ho1, hg1⟩
  have H1 := Lib.hid hp1
  have HO1 := Lib.hid ho1
  have HG1 := Lib.hid hg1
  clear hp1 ho1 hg1
  go_wp2_with (fail)
  refine (C2.out _).mono ?_
  rintro e w2 ⟨rfl, hr2, ho2⟩
  have HBO := Lib.hid (show Both14 w2 G (fun k => k = w1.heap.size) p w1.heap.size [] 200 from ⟨HeapP.only H1.out ho2 (fun _ _ h => h), hr2, fun k hk e => by have := HeapP.lt H1.out k hk; omega⟩)
  have HK := Lib.hid (show ∀ k, G k ∨ k = w1.heap.size → w.heap.size ≤ k from fun k hk => hk.elim (HG1.out k) (fun e => by have := HO1.out.size; omega))
  have HO2 := Lib.hid (HO1.out.trans ho2 (fun _ h _ => h))
  generalize w1.heap.size = q at *
  clear hr2 ho2 H1 HG1
  go_wp2
  go_loopw [9] (fun iv wr => ∃ (j : Nat) (G H : Nat → Prop) (os : List ObjV), iv = .int .i64 j ∧ j ≤ n ∧ Hid (Both14 wr G H p q os 200) ∧ Hid (∀ k, G k ∨ H k → w.heap.size ≤ k) ∧ Hid (Only (fun _ => False) w wr)) (fun iv _ => n - (intOf iv).toNat)
  case atStart => exact ⟨0, _, _, _, rfl, Nat.zero_le _, HBO, HK, HO2⟩
  case round =>
    clear G HBO HK HO2
    obtain ⟨j, G, H, os, rfl, hj, HB, HKK, HON⟩ := hrel
    have hn9 := HLEN.out
    by_cases hlt : j < n
    · by_cases h60 : j < 60
      · have d60 : decide ((j : Int) < 60) = true := by simp only [decide_eq_true_eq]; omega
        as_aux_lemma =>
          have hjz : (j : Int) < (n : Int) := by omega
          have hj0 : (0 : Int) ≤ (j : Int) := by omega
          obtain ⟨x, hxe⟩ : ∃ x, x = xs.getD j default := ⟨_, rfl⟩
          obtain ⟨b9, o9, rfl, hat0⟩ := Sl.at (by have := HXxs.out.1; rw [HNxs.out] at this; exact this) hlt
          rw [← hxe] at hat0
          have hat := hat0.only HON.out
          have hty : Types w x.dv x.data := HXxs.out.2 x (by rw [hxe, show xs.getD j default = xs[j]'(by rw [HNxs.out]; exact hlt) from by simp [List.getD, HNxs.out, hlt]]; exact List.getElem_mem _)
          have CP := Lib.hid (play14 HB.out x (fun W hW => Types.far hty HON.out hW (fun k hk hg => by have := HKK.out k (.inl hg); omega)))
          obtain ⟨os', hos⟩ : ∃ os', playZ os 200 x = os' := ⟨_, rfl⟩
          rw [hos] at CP
          unfold valOp at CP
          obtain ⟨k0, k1, k2, k3, k4, k5, k6, k7, k8, k9, k10, k11, k12, k13, k14, k15, k16⟩ := hat
          clear hat0 hxe hty hos
          go_wp2_with (fail)
          refine CP.out.mono ?_
          rintro e w3 ⟨rfl, G3, H3, hb3, hk3, ho3⟩
          have HON3 := Lib.hid (Only.trans HON.out ho3 (fun k hk hl => by have := HKK.out k hk; omega))
          have HB3 := Lib.hid hb3
          have HK3 := Lib.hid (show ∀ k, G3 k ∨ H3 k → w.heap.size ≤ k from fun k hk => by rcases hk3 k hk with e | e; exact HKK.out k e; have := HON.out.size; omega)
          clear hb3 hk3 ho3 k0 k1 k2 k3 k4 k5 k6 k7 k8 k9 k10 k11 k12 k13 k14 k15 k16
          go_wp2
          go_roundw
          case rel => exact ⟨j + 1, G3, H3, os', by go_num, by omega, HB3, HK3, HON3⟩
          case measure => simp [intOf]; omega
      · have d60 : decide ((j : Int) < 60) = false := by simp only [decide_eq_false_iff_not]; omega
        have hjz : (j : Int) < (n : Int) := by omega
        as_aux_lemma =>
          go_wp2_with (fail)
          refine (progCopyR HB.out.hp).mono ?_
          rintro e w3 ⟨c, Gc, rfl, hc, ho3, hgc⟩
          have HC := Lib.hid hc
          have HO3 := Lib.hid ho3
          have HGC := Lib.hid hgc
          have HB3 := Lib.hid (HB.out.only ho3 (fun _ _ h => h))
          clear hc ho3 hgc
          go_wp2_with (fail)
          refine (progAllR HC.out).mono ?_
          rintro e w4 ⟨v4, H4, rfl, hv4, ho4, -⟩
          have HV4 := Lib.hid hv4.objs
          have HO4 := Lib.hid ho4
          clear hv4 ho4
          go_wp2_with (fail)
          refine (progAllR (HeapP.only HB3.out.hp HO4.out (fun _ _ h => h))).mono ?_
          rintro e w5 ⟨v5, H5, rfl, hv5, ho5, -⟩
          have HV5 := Lib.hid hv5.objs
          have HO5 := Lib.hid (HO4.out.trans ho5 (fun _ h _ => h))
          have HV45 := Lib.hid (HV4.out.none ho5)
          clear hv5 ho5
          go_wp2_with (fail)
          refine (same14 _ _ os _ HV45.out HV5.out (HeapP.few HB.out.hp).1 (HeapP.few HB.out.hp).2).mono ?_
          rintro e w6 ⟨rfl, ho6⟩
          have HO6 := Lib.hid (HO5.out.trans ho6 (fun _ h _ => h))
          clear ho6
          go_wp2_with (fail)
          refine (progAllR (HeapP.only HB3.out.hp HO6.out (fun _ _ h => h))).mono ?_
          rintro e w7 ⟨vold, O, rfl, hold, ho7, hok⟩
          have HOLD := Lib.hid hold
          have ho37 := HO6.out.trans ho7 (fun _ h _ => h)
          have HP7 := Lib.hid (HeapP.only HB3.out.hp ho37 (fun _ _ h => h))
          have HBB := Lib.hid (show Both14 w7 Gc H c q os 200 from ⟨HeapP.only HC.out ho37 (fun _ _ h => h), HeapR.only HB3.out.hr ho37 (fun _ _ h => h), fun k hk hq => by have := HGC.out k hk; have := HeapR.lt HB.out.hr k hq; omega⟩)
          have HKC := Lib.hid (show ∀ k, Gc k ∨ H k → w.heap.size ≤ k ∧ ¬ G k ∧ ¬ O k from fun k hk => by
            refine ⟨?_, ?_, ?_⟩
            · rcases hk with e | e
              · have := HGC.out k e; have := HON.out.size; omega
              · exact HKK.out k (.inr e)
            · intro hg
              rcases hk with e | e
              · have := HGC.out k e; have := HeapP.lt HB.out.hp k hg; omega
              · exact HB.out.apart k hg e
            · intro ho
              have h6 := hok k ho
              have h36 := HO6.out.size
              rcases hk with e | e
              · have := HeapP.lt HC.out k e; omega
              · have := HeapR.lt HB3.out.hr k e; omega)
          have HON7 := Lib.hid ((HON.out.trans HO3.out (fun _ h _ => h)).trans ho37 (fun _ h _ => h))
          obtain ⟨os0, hos0⟩ : ∃ x, x = os := ⟨_, rfl⟩
          rw [← hos0] at HP7 HOLD
          have HFEW := Lib.hid (show os0.length ≤ 1024 ∧ ∀ x ∈ os0, x.vs.length ≤ 1024 from by rw [hos0]; exact HeapP.few HB.out.hp)
          clear hold ho7 hok ho37 HB3 HC HGC HO3 HV4 HO4 HV5 HO5 HV45 HO6 hos0
          obtain ⟨ov, oc, hovv⟩ : ∃ a c, vold = .slice a os0.length c := by obtain ⟨zs, hz, he⟩ := HOLD.out.objs; obtain ⟨a, c, e, -⟩ := hz.1; exact ⟨a, c, by rw [e, ← he, List.length_map]⟩
          subst hovv
          go_wp2
          go_loopw [12] (fun iv wr => ∃ (j : Nat) (Gc H : Nat → Prop) (os : List ObjV), iv = .int .i64 j ∧ j ≤ n2 ∧ Hid (Both14 wr Gc H c q os 200) ∧ Hid (∀ k, Gc k ∨ H k → w.heap.size ≤ k ∧ ¬ G k ∧ ¬ O k) ∧ Hid (HeapP wr G p os0 200) ∧ Hid (ObjsO wr O (.slice ov os0.length oc) os0) ∧ Hid (Only (fun _ => False) w wr)) (fun iv _ => n2 - (intOf iv).toNat)
          case atStart => exact ⟨0, _, _, _, rfl, Nat.zero_le _, HBB, HKC, HP7, HOLD, HON7⟩
          case round =>
            clear HB HKK HON HBB HKC HP7 HOLD HON7 H os Gc
            obtain ⟨j, Gc, H, os, rfl, hj, HB, HKK, HP, HOL, HON⟩ := hrel
            have hn9 := HLENY.out
            by_cases hlt : j < n2
            · by_cases h60 : j < 60
              · have d60 : decide ((j : Int) < 60) = true := by simp only [decide_eq_true_eq]; omega
                as_aux_lemma =>
                  have hjz : (j : Int) < (n2 : Int) := by omega
                  have hj0 : (0 : Int) ≤ (j : Int) := by omega
                  obtain ⟨x, hxe⟩ : ∃ x, x = ys.getD j default := ⟨_, rfl⟩
                  obtain ⟨b9, o9, rfl, hat0⟩ := Sl.at (by have := HXys.out.1; rw [HNys.out] at this; exact this) hlt
                  rw [← hxe] at hat0
                  have hat := hat0.only HON.out
                  have hty : Types w x.dv x.data := HXys.out.2 x (by rw [hxe, show ys.getD j default = ys[j]'(by rw [HNys.out]; exact hlt) from by simp [List.getD, HNys.out, hlt]]; exact List.getElem_mem _)
                  have CP := Lib.hid (play14 HB.out x (fun W hW => Types.far hty HON.out hW (fun k hk hg => by have := (HKK.out k (.inl hg)).1; omega)))
                  obtain ⟨os', hos⟩ : ∃ os', playZ os 200 x = os' := ⟨_, rfl⟩
                  rw [hos] at CP
                  unfold valOp at CP
                  obtain ⟨k0, k1, k2, k3, k4, k5, k6, k7, k8, k9, k10, k11, k12, k13, k14, k15, k16⟩ := hat
                  clear hat0 hxe hty hos
                  go_wp2_with (fail)
                  refine CP.out.mono ?_
                  rintro e w3 ⟨rfl, G3, H3, hb3, hk3, ho3⟩
                  have HON3 := Lib.hid (Only.trans HON.out ho3 (fun k hk hl => by have := (HKK.out k hk).1; omega))
                  have HB3 := Lib.hid hb3
                  have HP3 := Lib.hid (HeapP.only HP.out ho3 (fun k hk hq => (HKK.out k hq).2.1 hk))
                  have HOL3 := Lib.hid (HOL.out.only ho3 (fun k hk hq => (HKK.out k hq).2.2 hk))
                  have HOlt := Lib.hid (show ∀ k, O k → k < wr.heap.size from fun k hk => by obtain ⟨zs, hz, -⟩ := HOL.out; exact hz.lt k hk)
                  have HK3 := Lib.hid (show ∀ k, G3 k ∨ H3 k → w.heap.size ≤ k ∧ ¬ G k ∧ ¬ O k from fun k hk => by
              rcases hk3 k hk with e | e
              · exact HKK.out k e
              · have := HON.out.size
                exact ⟨by omega, fun hg => by have := HeapP.lt HP.out k hg; omega, fun ho => by have := HOlt.out k ho; omega⟩)
                  clear hb3 hk3 ho3 k0 k1 k2 k3 k4 k5 k6 k7 k8 k9 k10 k11 k12 k13 k14 k15 k16
                  go_wp2
                  go_roundw
                  case rel => exact ⟨j + 1, G3, H3, os', by go_num, by omega, HB3, HK3, HP3, HOL3, HON3⟩
                  case measure => simp [intOf]; omega
              · have d60 : decide ((j : Int) < 60) = false := by simp only [decide_eq_false_iff_not]; omega
                have hjz : (j : Int) < (n2 : Int) := by omega
                as_aux_lemma =>
                  obtain ⟨Lv, hL0, ⟨aL, cL, rfl⟩, hLR⟩ := HB.out.hr.list
                  have HL0 := Lib.hid hL0
                  have HLR := Lib.hid hLR
                  have hS : (fun wc => wc.cell? ⟨q, 0, none⟩ = some (.slice aL os.length cL)) wr.drew := hL0
                  clear hLR hL0
                  go_wp2_with (fail)
                  refine wp_region_held_drew (S := fun wc => wc.cell? ⟨q, 0, none⟩ = some (.slice aL os.length cL)) (by kernel_rfl) hS (fun hHeld => ?_)
                  refine wpAnyH_take (i := 0) (v := ?_) (by simp only [List.getElem?_toArray, List.getElem?_cons_succ, List.getElem?_cons_zero]; rfl) (by kernel_rfl) (by kernel_rfl) (by kernel_rfl) (by exact fun _ _ _ h => h) (Or.inl ⟨by rfl, ?_⟩) (by assumption) ?_
                  rotate_left 1
                  · (intro w hSw; (try dsimp only at hSw); go_simp; try with_reducible rfl)
                  try simp only [Act.put, List.setIfInBounds_toArray, List.set_cons_zero, List.set_cons_succ]
                  refine wpAnyH_take (i := 2) (v := ?_) (by simp only [List.getElem?_toArray, List.getElem?_cons_succ, List.getElem?_cons_zero]; rfl) (by kernel_rfl) (by kernel_rfl) (by kernel_rfl) (by exact fun _ _ _ h => h) (Or.inl ⟨by rfl, ?_⟩) (by assumption) ?_
                  rotate_left 1
                  · (intro w hSw; (try dsimp only at hSw); go_simp; try with_reducible rfl)
                  try simp only [Act.put, List.setIfInBounds_toArray, List.set_cons_zero, List.set_cons_succ]
                  refine wpAnyH_ready (rs := [1]) (by kernel_rfl) (by simp) ?_
                  refine AllReadyH.cons (by simp only [List.getElem?_toArray, List.getElem?_cons_succ, List.getElem?_cons_zero]; rfl) (fun K hK => ?_) AllReadyH.nil
                  go_simp
                  (refine (progAllR (HeapP.only HP.out (Only.refl (fun _ => False) wr).drew (fun _ _ h => h))).mono ?_; rintro e w8 ⟨v8, H8, rfl, hv8, hq, -⟩; have HV8 := Lib.hid hv8.objs; have HQ8 := Lib.hid ((Only.refl (fun _ => False) wr).drew.trans hq (fun _ h _ => h)); clear hv8 hq)
                  go_wp2_with fail
                  refine hK.out _ _ ?_ (fun hHeld2 => ?_)
                  · exact HQ8.out.cell HL0.out (fun h => h)
                  clear hK K
                  try simp only [Act.put, List.setIfInBounds_toArray, List.set_cons_zero, List.set_cons_succ]
                  clear hHeld
                  have hHeld := hHeld2
                  clear hHeld2
                  refine wpAnyH_ready (rs := [3]) (by kernel_rfl) (by simp) ?_
                  refine AllReadyH.cons (by simp only [List.getElem?_toArray, List.getElem?_cons_succ, List.getElem?_cons_zero]; rfl) (fun K hK => ?_) AllReadyH.nil
                  go_simp
                  (refine (same14 _ _ os0 _ HV8.out (HOL.out.objs.none HQ8.out) HFEW.out.1 HFEW.out.2).mono ?_; rintro e w9 ⟨rfl, hq⟩; have HQ9 := Lib.hid (HQ8.out.trans hq (fun _ h _ => h)); clear hq)
                  go_wp2_with fail
                  refine hK.out _ _ ?_ (fun hHeld2 => ?_)
                  · exact HQ9.out.cell HL0.out (fun h => h)
                  clear hK K
                  try simp only [Act.put, List.setIfInBounds_toArray, List.set_cons_zero, List.set_cons_succ]
                  clear hHeld
                  have hHeld := hHeld2
                  clear hHeld2
                  refine wpAnyH_take (i := 4) (v := ?_) (by simp only [List.getElem?_toArray, List.getElem?_cons_succ, List.getElem?_cons_zero]; rfl) (by kernel_rfl) (by kernel_rfl) (by kernel_rfl) (by exact fun _ _ _ h => h) (Or.inl ⟨by rfl, ?_⟩) (by assumption) ?_
                  rotate_left 1
                  · (intro w hSw; (try dsimp only at hSw); go_simp; try with_reducible rfl)
                  try simp only [Act.put, List.setIfInBounds_toArray, List.set_cons_zero, List.set_cons_succ]
                  refine wpAnyH_take (i := 5) (v := ?_) (by simp only [List.getElem?_toArray, List.getElem?_cons_succ, List.getElem?_cons_zero]; rfl) (by kernel_rfl) (by kernel_rfl) (by kernel_rfl) (by exact fun _ _ _ h => h) (Or.inl ⟨by rfl, ?_⟩) (by assumption) ?_
                  rotate_left 1
                  · (intro w hSw; (try dsimp only at hSw); go_simp; try with_reducible rfl)
                  try simp only [Act.put, List.setIfInBounds_toArray, List.set_cons_zero, List.set_cons_succ]
                  refine wpAnyH_take (i := 7) (v := ?_) (by simp only [List.getElem?_toArray, List.getElem?_cons_succ, List.getElem?_cons_zero]; rfl) (by kernel_rfl) (by kernel_rfl) (by kernel_rfl) (by exact fun _ _ _ h => h) (Or.inl ⟨by rfl, ?_⟩) (by assumption) ?_
                  rotate_left 1
                  · (intro w hSw; (try dsimp only at hSw); go_simp; try with_reducible rfl)
                  try simp only [Act.put, List.setIfInBounds_toArray, List.set_cons_zero, List.set_cons_succ]
                  refine wpAnyH_take (i := 8) (v := ?_) (by simp only [List.getElem?_toArray, List.getElem?_cons_succ, List.getElem?_cons_zero]; rfl) (by kernel_rfl) (by kernel_rfl) (by kernel_rfl) (by exact fun _ _ _ h => h) (Or.inl ⟨by rfl, ?_⟩) (by assumption) ?_
                  rotate_left 1
                  · (intro w hSw; (try dsimp only at hSw); go_simp; try with_reducible rfl)
                  try simp only [Act.put, List.setIfInBounds_toArray, List.set_cons_zero, List.set_cons_succ]
                  refine wpAnyH_take (i := 9) (v := ?_) (by simp only [List.getElem?_toArray, List.getElem?_cons_succ, List.getElem?_cons_zero]; rfl) (by kernel_rfl) (by kernel_rfl) (by kernel_rfl) (by exact fun _ _ _ h => h) (Or.inl ⟨by rfl, ?_⟩) (by assumption) ?_
                  rotate_left 1
                  · (intro w hSw; (try dsimp only at hSw); go_simp; try with_reducible rfl)
                  try simp only [Act.put, List.setIfInBounds_toArray, List.set_cons_zero, List.set_cons_succ]
                  refine wpAnyH_take (i := 10) (v := ?_) (by simp only [List.getElem?_toArray, List.getElem?_cons_succ, List.getElem?_cons_zero]; rfl) (by kernel_rfl) (by kernel_rfl) (by kernel_rfl) (by exact fun _ _ _ h => h) (Or.inl ⟨by rfl, ?_⟩) (by assumption) ?_
                  rotate_left 1
                  · (intro w hSw; (try dsimp only at hSw); go_simp; try with_reducible rfl)
                  try simp only [Act.put, List.setIfInBounds_toArray, List.set_cons_zero, List.set_cons_succ]
                  refine wpAnyH_ready (rs := [6]) (by kernel_rfl) (by simp) ?_
                  refine AllReadyH.cons (by simp only [List.getElem?_toArray, List.getElem?_cons_succ, List.getElem?_cons_zero]; rfl) (fun K hK => ?_) AllReadyH.nil
                  go_simp
                  (refine (progAllR (HeapP.only HB.out.hp HQ9.out (fun _ _ h => h))).mono ?_; rintro e w10 ⟨v10, H10, rfl, hv10, hq, -⟩; have HV10 := Lib.hid hv10.objs; have HQ10 := Lib.hid (HQ9.out.trans hq (fun _ h _ => h)); clear hv10 hq)
                  go_wp2_with fail
                  refine hK.out _ _ ?_ (fun hHeld2 => ?_)
                  · exact HQ10.out.cell HL0.out (fun h => h)
                  clear hK K
                  try simp only [Act.put, List.setIfInBounds_toArray, List.set_cons_zero, List.set_cons_succ]
                  clear hHeld
                  have hHeld := hHeld2
                  clear hHeld2
                  refine wpAnyH_ready (rs := [11]) (by kernel_rfl) (by simp) ?_
                  refine AllReadyH.cons (by simp only [List.getElem?_toArray, List.getElem?_cons_succ, List.getElem?_cons_zero]; rfl) (fun K hK => ?_) AllReadyH.nil
                  go_simp
                  (refine (same14 _ _ os _ HV10.out (HLR.out.none HQ10.out) (HeapR.few HB.out.hr).1 (HeapR.few HB.out.hr).2).mono ?_; rintro e w11 ⟨rfl, hq⟩; have HQ11 := Lib.hid (HQ10.out.trans hq (fun _ h _ => h)); clear hq)
                  go_wp2_with fail
                  refine hK.out _ _ ?_ (fun hHeld2 => ?_)
                  · exact HQ11.out.cell HL0.out (fun h => h)
                  clear hK K
                  try simp only [Act.put, List.setIfInBounds_toArray, List.set_cons_zero, List.set_cons_succ]
                  clear hHeld
                  have hHeld := hHeld2
                  clear hHeld2
                  refine wpAnyH_take (i := 12) (v := ?_) (by simp only [List.getElem?_toArray, List.getElem?_cons_succ, List.getElem?_cons_zero]; rfl) (by kernel_rfl) (by kernel_rfl) (by kernel_rfl) (by exact fun _ _ _ h => h) (Or.inl ⟨by rfl, ?_⟩) (by assumption) ?_
                  rotate_left 1
                  · (intro w hSw; (try dsimp only at hSw); go_simp; try with_reducible rfl)
                  try simp only [Act.put, List.setIfInBounds_toArray, List.set_cons_zero, List.set_cons_succ]
                  refine wpAnyH_take (i := 13) (v := ?_) (by simp only [List.getElem?_toArray, List.getElem?_cons_succ, List.getElem?_cons_zero]; rfl) (by kernel_rfl) (by kernel_rfl) (by kernel_rfl) (by exact fun _ _ _ h => h) (Or.inl ⟨by rfl, ?_⟩) (by assumption) ?_
                  rotate_left 1
                  · (intro w hSw; (try dsimp only at hSw); go_simp; try with_reducible rfl)
                  try simp only [Act.put, List.setIfInBounds_toArray, List.set_cons_zero, List.set_cons_succ]
                  refine wpAnyH_ready (rs := [14]) (by kernel_rfl) (by simp) ?_
                  refine AllReadyH.cons (by simp only [List.getElem?_toArray, List.getElem?_cons_succ, List.getElem?_cons_zero]; rfl) (fun K hK => ?_) AllReadyH.nil
                  go_simp
                  (refine (AW.out _).mono ?_; rintro e w12 ⟨rfl, hq⟩; have HQ12 := Lib.hid (HQ11.out.trans hq (fun _ h _ => h)); clear hq)
                  go_wp2_with fail
                  refine hK.out _ _ ?_ (fun hHeld2 => ?_)
                  · exact HQ12.out.cell HL0.out (fun h => h)
                  clear hK K
                  try simp only [Act.put, List.setIfInBounds_toArray, List.set_cons_zero, List.set_cons_succ]
                  clear hHeld
                  have hHeld := hHeld2
                  clear hHeld2
                  refine wpAnyH_take (i := 15) (v := ?_) (by simp only [List.getElem?_toArray, List.getElem?_cons_succ, List.getElem?_cons_zero]; rfl) (by kernel_rfl) (by kernel_rfl) (by kernel_rfl) (by exact fun _ _ _ h => h) (Or.inl ⟨by rfl, ?_⟩) (by assumption) ?_
                  rotate_left 1
                  · (intro w hSw; (try dsimp only at hSw); go_simp; try with_reducible rfl)
                  try simp only [Act.put, List.setIfInBounds_toArray, List.set_cons_zero, List.set_cons_succ]
                  refine wpAnyH_take (i := 16) (v := ?_) (by simp only [List.getElem?_toArray, List.getElem?_cons_succ, List.getElem?_cons_zero]; rfl) (by kernel_rfl) (by kernel_rfl) (by kernel_rfl) (by exact fun _ _ _ h => h) (Or.inl ⟨by rfl, ?_⟩) (by assumption) ?_
                  rotate_left 1
                  · (intro w hSw; (try dsimp only at hSw); go_simp; try with_reducible rfl)
                  try simp only [Act.put, List.setIfInBounds_toArray, List.set_cons_zero, List.set_cons_succ]
                  refine wpAnyH_done (by kernel_rfl) ?_ _
                  go_wp2
                  go_ret
                  exact ⟨rfl, (HON.out.trans HQ12.out (fun _ h _ => h)).none⟩
            · have hnj : ¬ ((j : Int) < (n2 : Int)) := by omega
              as_aux_lemma =>
                obtain ⟨Lv, hL0, ⟨aL, cL, rfl⟩, hLR⟩ := HB.out.hr.list
                have HL0 := Lib.hid hL0
                have HLR := Lib.hid hLR
                have hS : (fun wc => wc.cell? ⟨q, 0, none⟩ = some (.slice aL os.length cL)) wr.drew := hL0
                clear hLR hL0
                go_wp2_with (fail)
                refine wp_region_held_drew (S := fun wc => wc.cell? ⟨q, 0, none⟩ = some (.slice aL os.length cL)) (by kernel_rfl) hS (fun hHeld => ?_)
                refine wpAnyH_take (i := 0) (v := ?_) (by simp only [List.getElem?_toArray, List.getElem?_cons_succ, List.getElem?_cons_zero]; rfl) (by kernel_rfl) (by kernel_rfl) (by kernel_rfl) (by exact fun _ _ _ h => h) (Or.inl ⟨by rfl, ?_⟩) (by assumption) ?_
                rotate_left 1
                · (intro w hSw; (try dsimp only at hSw); go_simp; try with_reducible rfl)
                try simp only [Act.put, List.setIfInBounds_toArray, List.set_cons_zero, List.set_cons_succ]
                refine wpAnyH_take (i := 2) (v := ?_) (by simp only [List.getElem?_toArray, List.getElem?_cons_succ, List.getElem?_cons_zero]; rfl) (by kernel_rfl) (by kernel_rfl) (by kernel_rfl) (by exact fun _ _ _ h => h) (Or.inl ⟨by rfl, ?_⟩) (by assumption) ?_
                rotate_left 1
                · (intro w hSw; (try dsimp only at hSw); go_simp; try with_reducible rfl)
                try simp only [Act.put, List.setIfInBounds_toArray, List.set_cons_zero, List.set_cons_succ]
                refine wpAnyH_ready (rs := [1]) (by kernel_rfl) (by simp) ?_
                refine AllReadyH.cons (by simp only [List.getElem?_toArray, List.getElem?_cons_succ, List.getElem?_cons_zero]; rfl) (fun K hK => ?_) AllReadyH.nil
                go_simp
                (refine (progAllR (HeapP.only HP.out (Only.refl (fun _ => False) wr).drew (fun _ _ h => h))).mono ?_; rintro e w8 ⟨v8, H8, rfl, hv8, hq, -⟩; have HV8 := Lib.hid hv8.objs; have HQ8 := Lib.hid ((Only.refl (fun _ => False) wr).drew.trans hq (fun _ h _ => h)); clear hv8 hq)
                go_wp2_with fail
                refine hK.out _ _ ?_ (fun hHeld2 => ?_)
                · exact HQ8.out.cell HL0.out (fun h => h)
                clear hK K
                try simp only [Act.put, List.setIfInBounds_toArray, List.set_cons_zero, List.set_cons_succ]
                clear hHeld
                have hHeld := hHeld2
                clear hHeld2
                refine wpAnyH_ready (rs := [3]) (by kernel_rfl) (by simp) ?_
                refine AllReadyH.cons (by simp only [List.getElem?_toArray, List.getElem?_cons_succ, List.getElem?_cons_zero]; rfl) (fun K hK => ?_) AllReadyH.nil
                go_simp
                (refine (same14 _ _ os0 _ HV8.out (HOL.out.objs.none HQ8.out) HFEW.out.1 HFEW.out.2).mono ?_; rintro e w9 ⟨rfl, hq⟩; have HQ9 := Lib.hid (HQ8.out.trans hq (fun _ h _ => h)); clear hq)
                go_wp2_with fail
                refine hK.out _ _ ?_ (fun hHeld2 => ?_)
                · exact HQ9.out.cell HL0.out (fun h => h)
                clear hK K
                try simp only [Act.put, List.setIfInBounds_toArray, List.set_cons_zero, List.set_cons_succ]
                clear hHeld
                have hHeld := hHeld2
                clear hHeld2
                refine wpAnyH_take (i := 4) (v := ?_) (by simp only [List.getElem?_toArray, List.getElem?_cons_succ, List.getElem?_cons_zero]; rfl) (by kernel_rfl) (by kernel_rfl) (by kernel_rfl) (by exact fun _ _ _ h => h) (Or.inl ⟨by rfl, ?_⟩) (by assumption) ?_
                rotate_left 1
                · (intro w hSw; (try dsimp only at hSw); go_simp; try with_reducible rfl)
                try simp only [Act.put, List.setIfInBounds_toArray, List.set_cons_zero, List.set_cons_succ]
                refine wpAnyH_take (i := 5) (v := ?_) (by simp only [List.getElem?_toArray, List.getElem?_cons_succ, List.getElem?_cons_zero]; rfl) (by kernel_rfl) (by kernel_rfl) (by kernel_rfl) (by exact fun _ _ _ h => h) (Or.inl ⟨by rfl, ?_⟩) (by assumption) ?_
                rotate_left 1
                · (intro w hSw; (try dsimp only at hSw); go_simp; try with_reducible rfl)
                try simp only [Act.put, List.setIfInBounds_toArray, List.set_cons_zero, List.set_cons_succ]
                refine wpAnyH_take (i := 7) (v := ?_) (by simp only [List.getElem?_toArray, List.getElem?_cons_succ, List.getElem?_cons_zero]; rfl) (by kernel_rfl) (by kernel_rfl) (by kernel_rfl) (by exact fun _ _ _ h => h) (Or.inl ⟨by rfl, ?_⟩) (by assumption) ?_
                rotate_left 1
                · (intro w hSw; (try dsimp only at hSw); go_simp; try with_reducible rfl)
                try simp only [Act.put, List.setIfInBounds_toArray, List.set_cons_zero, List.set_cons_succ]
                refine wpAnyH_take (i := 8) (v := ?_) (by simp only [List.getElem?_toArray, List.getElem?_cons_succ, List.getElem?_cons_zero]; rfl) (by kernel_rfl) (by kernel_rfl) (by kernel_rfl) (by exact fun _ _ _ h => h) (Or.inl ⟨by rfl, ?_⟩) (by assumption) ?_
                rotate_left 1
                · (intro w hSw; (try dsimp only at hSw); go_simp; try with_reducible rfl)
                try simp only [Act.put, List.setIfInBounds_toArray, List.set_cons_zero, List.set_cons_succ]
                refine wpAnyH_take (i := 9) (v := ?_) (by simp only [List.getElem?_toArray, List.getElem?_cons_succ, List.getElem?_cons_zero]; rfl) (by kernel_rfl) (by kernel_rfl) (by kernel_rfl) (by exact fun _ _ _ h => h) (Or.inl ⟨by rfl, ?_⟩) (by assumption) ?_
                rotate_left 1
                · (intro w hSw; (try dsimp only at hSw); go_simp; try with_reducible rfl)
                try simp only [Act.put, List.setIfInBounds_toArray, List.set_cons_zero, List.set_cons_succ]
                refine wpAnyH_take (i := 10) (v := ?_) (by simp only [List.getElem?_toArray, List.getElem?_cons_succ, List.getElem?_cons_zero]; rfl) (by kernel_rfl) (by kernel_rfl) (by kernel_rfl) (by exact fun _ _ _ h => h) (Or.inl ⟨by rfl, ?_⟩) (by assumption) ?_
                rotate_left 1
                · (intro w hSw; (try dsimp only at hSw); go_simp; try with_reducible rfl)
                try simp only [Act.put, List.setIfInBounds_toArray, List.set_cons_zero, List.set_cons_succ]
                refine wpAnyH_ready (rs := [6]) (by kernel_rfl) (by simp) ?_
                refine AllReadyH.cons (by simp only [List.getElem?_toArray, List.getElem?_cons_succ, List.getElem?_cons_zero]; rfl) (fun K hK => ?_) AllReadyH.nil
                go_simp
                (refine (progAllR (HeapP.only HB.out.hp HQ9.out (fun _ _ h => h))).mono ?_; rintro e w10 ⟨v10, H10, rfl, hv10, hq, -⟩; have HV10 := Lib.hid hv10.objs; have HQ10 := Lib.hid (HQ9.out.trans hq (fun _ h _ => h)); clear hv10 hq)
                go_wp2_with fail
                refine hK.out _ _ ?_ (fun hHeld2 => ?_)
                · exact HQ10.out.cell HL0.out (fun h => h)
                clear hK K
                try simp only [Act.put, List.setIfInBounds_toArray, List.set_cons_zero, List.set_cons_succ]
                clear hHeld
                have hHeld := hHeld2
                clear hHeld2
                refine wpAnyH_ready (rs := [11]) (by kernel_rfl) (by simp) ?_
                refine AllReadyH.cons (by simp only [List.getElem?_toArray, List.getElem?_cons_succ, List.getElem?_cons_zero]; rfl) (fun K hK => ?_) AllReadyH.nil
                go_simp
                (refine (same14 _ _ os _ HV10.out (HLR.out.none HQ10.out) (HeapR.few HB.out.hr).1 (HeapR.few HB.out.hr).2).mono ?_; rintro e w11 ⟨rfl, hq⟩; have HQ11 := Lib.hid (HQ10.out.trans hq (fun _ h _ => h)); clear hq)
                go_wp2_with fail
                refine hK.out _ _ ?_ (fun hHeld2 => ?_)
                · exact HQ11.out.cell HL0.out (fun h => h)
                clear hK K
                try simp only [Act.put, List.setIfInBounds_toArray, List.set_cons_zero, List.set_cons_succ]
                clear hHeld
                have hHeld := hHeld2
                clear hHeld2
                refine wpAnyH_take (i := 12) (v := ?_) (by simp only [List.getElem?_toArray, List.getElem?_cons_succ, List.getElem?_cons_zero]; rfl) (by kernel_rfl) (by kernel_rfl) (by kernel_rfl) (by exact fun _ _ _ h => h) (Or.inl ⟨by rfl, ?_⟩) (by assumption) ?_
                rotate_left 1
                · (intro w hSw; (try dsimp only at hSw); go_simp; try with_reducible rfl)
                try simp only [Act.put, List.setIfInBounds_toArray, List.set_cons_zero, List.set_cons_succ]
                refine wpAnyH_take (i := 13) (v := ?_) (by simp only [List.getElem?_toArray, List.getElem?_cons_succ, List.getElem?_cons_zero]; rfl) (by kernel_rfl) (by kernel_rfl) (by kernel_rfl) (by exact fun _ _ _ h => h) (Or.inl ⟨by rfl, ?_⟩) (by assumption) ?_
                rotate_left 1
                · (intro w hSw; (try dsimp only at hSw); go_simp; try with_reducible rfl)
                try simp only [Act.put, List.setIfInBounds_toArray, List.set_cons_zero, List.set_cons_succ]
                refine wpAnyH_ready (rs := [14]) (by kernel_rfl) (by simp) ?_
                refine AllReadyH.cons (by simp only [List.getElem?_toArray, List.getElem?_cons_succ, List.getElem?_cons_zero]; rfl) (fun K hK => ?_) AllReadyH.nil
                go_simp
                (refine (AW.out _).mono ?_; rintro e w12 ⟨rfl, hq⟩; have HQ12 := Lib.hid (HQ11.out.trans hq (fun _ h _ => h)); clear hq)
                go_wp2_with fail
                refine hK.out _ _ ?_ (fun hHeld2 => ?_)
                · exact HQ12.out.cell HL0.out (fun h => h)
                clear hK K
                try simp only [Act.put, List.setIfInBounds_toArray, List.set_cons_zero, List.set_cons_succ]
                clear hHeld
                have hHeld := hHeld2
                clear hHeld2
                refine wpAnyH_take (i := 15) (v := ?_) (by simp only [List.getElem?_toArray, List.getElem?_cons_succ, List.getElem?_cons_zero]; rfl) (by kernel_rfl) (by kernel_rfl) (by kernel_rfl) (by exact fun _ _ _ h => h) (Or.inl ⟨by rfl, ?_⟩) (by assumption) ?_
                rotate_left 1
                · (intro w hSw; (try dsimp only at hSw); go_simp; try with_reducible rfl)
                try simp only [Act.put, List.setIfInBounds_toArray, List.set_cons_zero, List.set_cons_succ]
                refine wpAnyH_take (i := 16) (v := ?_) (by simp only [List.getElem?_toArray, List.getElem?_cons_succ, List.getElem?_cons_zero]; rfl) (by kernel_rfl) (by kernel_rfl) (by kernel_rfl) (by exact fun _ _ _ h => h) (Or.inl ⟨by rfl, ?_⟩) (by assumption) ?_
                rotate_left 1
                · (intro w hSw; (try dsimp only at hSw); go_simp; try with_reducible rfl)
                try simp only [Act.put, List.setIfInBounds_toArray, List.set_cons_zero, List.set_cons_succ]
                refine wpAnyH_done (by kernel_rfl) ?_ _
                go_wp2
                go_ret
                exact ⟨rfl, (HON.out.trans HQ12.out (fun _ h _ => h)).none⟩
    · have hnj : ¬ ((j : Int) < (n : Int)) := by omega
      as_aux_lemma =>
        go_wp2_with (fail)
        refine (progCopyR HB.out.hp).mono ?_
        rintro e w3 ⟨c, Gc, rfl, hc, ho3, hgc⟩
        have HC := Lib.hid hc
        have HO3 := Lib.hid ho3
        have HGC := Lib.hid hgc
        have HB3 := Lib.hid (HB.out.only ho3 (fun _ _ h => h))
        clear hc ho3 hgc
        go_wp2_with (fail)
        refine (progAllR HC.out).mono ?_
        rintro e w4 ⟨v4, H4, rfl, hv4, ho4, -⟩
        have HV4 := Lib.hid hv4.objs
        have HO4 := Lib.hid ho4
        clear hv4 ho4
        go_wp2_with (fail)
        refine (progAllR (HeapP.only HB3.out.hp HO4.out (fun _ _ h => h))).mono ?_
        rintro e w5 ⟨v5, H5, rfl, hv5, ho5, -⟩
        have HV5 := Lib.hid hv5.objs
        have HO5 := Lib.hid (HO4.out.trans ho5 (fun _ h _ => h))
        have HV45 := Lib.hid (HV4.out.none ho5)
        clear hv5 ho5
        go_wp2_with (fail)
        refine (same14 _ _ os _ HV45.out HV5.out (HeapP.few HB.out.hp).1 (HeapP.few HB.out.hp).2).mono ?_
        rintro e w6 ⟨rfl, ho6⟩
        have HO6 := Lib.hid (HO5.out.trans ho6 (fun _ h _ => h))
        clear ho6
        go_wp2_with (fail)
        refine (progAllR (HeapP.only HB3.out.hp HO6.out (fun _ _ h => h))).mono ?_
        rintro e w7 ⟨vold, O, rfl, hold, ho7, hok⟩
        have HOLD := Lib.hid hold
        have ho37 := HO6.out.trans ho7 (fun _ h _ => h)
        have HP7 := Lib.hid (HeapP.only HB3.out.hp ho37 (fun _ _ h => h))
        have HBB := Lib.hid (show Both14 w7 Gc H c q os 200 from ⟨HeapP.only HC.out ho37 (fun _ _ h => h), HeapR.only HB3.out.hr ho37 (fun _ _ h => h), fun k hk hq => by have := HGC.out k hk; have := HeapR.lt HB.out.hr k hq; omega⟩)
        have HKC := Lib.hid (show ∀ k, Gc k ∨ H k → w.heap.size ≤ k ∧ ¬ G k ∧ ¬ O k from fun k hk => by
            refine ⟨?_, ?_, ?_⟩
            · rcases hk with e | e
              · have := HGC.out k e; have := HON.out.size; omega
              · exact HKK.out k (.inr e)
            · intro hg
              rcases hk with e | e
              · have := HGC.out k e; have := HeapP.lt HB.out.hp k hg; omega
              · exact HB.out.apart k hg e
            · intro ho
              have h6 := hok k ho
              have h36 := HO6.out.size
              rcases hk with e | e
              · have := HeapP.lt HC.out k e; omega
              · have := HeapR.lt HB3.out.hr k e; omega)
        have HON7 := Lib.hid ((HON.out.trans HO3.out (fun _ h _ => h)).trans ho37 (fun _ h _ => h))
        obtain ⟨os0, hos0⟩ : ∃ x, x = os := ⟨_, rfl⟩
        rw [← hos0] at HP7 HOLD
        have HFEW := Lib.hid (show os0.length ≤ 1024 ∧ ∀ x ∈ os0, x.vs.length ≤ 1024 from by rw [hos0]; exact HeapP.few HB.out.hp)
        clear hold ho7 hok ho37 HB3 HC HGC HO3 HV4 HO4 HV5 HO5 HV45 HO6 hos0
        obtain ⟨ov, oc, hovv⟩ : ∃ a c, vold = .slice a os0.length c := by obtain ⟨zs, hz, he⟩ := HOLD.out.objs; obtain ⟨a, c, e, -⟩ := hz.1; exact ⟨a, c, by rw [e, ← he, List.length_map]⟩
        subst hovv
        go_wp2
        go_loopw [12] (fun iv wr => ∃ (j : Nat) (Gc H : Nat → Prop) (os : List ObjV), iv = .int .i64 j ∧ j ≤ n2 ∧ Hid (Both14 wr Gc H c q os 200) ∧ Hid (∀ k, Gc k ∨ H k → w.heap.size ≤ k ∧ ¬ G k ∧ ¬ O k) ∧ Hid (HeapP wr G p os0 200) ∧ Hid (ObjsO wr O (.slice ov os0.length oc) os0) ∧ Hid (Only (fun _ => False) w wr)) (fun iv _ => n2 - (intOf iv).toNat)
        case atStart => exact ⟨0, _, _, _, rfl, Nat.zero_le _, HBB, HKC, HP7, HOLD, HON7⟩
        case round =>
          clear HB HKK HON HBB HKC HP7 HOLD HON7 H os Gc
          obtain ⟨j, Gc, H, os, rfl, hj, HB, HKK, HP, HOL, HON⟩ := hrel
          have hn9 := HLENY.out
          by_cases hlt : j < n2
          · by_cases h60 : j < 60
            · have d60 : decide ((j : Int) < 60) = true := by simp only [decide_eq_true_eq]; omega
              as_aux_lemma =>
                have hjz : (j : Int) < (n2 : Int) := by omega
                have hj0 : (0 : Int) ≤ (j : Int) := by omega
                obtain ⟨x, hxe⟩ : ∃ x, x = ys.getD j default := ⟨_, rfl⟩
                obtain ⟨b9, o9, rfl, hat0⟩ := Sl.at (by have := HXys.out.1; rw [HNys.out] at this; exact this) hlt
                rw [← hxe] at hat0
                have hat := hat0.only HON.out
                have hty : Types w x.dv x.data := HXys.out.2 x (by rw [hxe, show ys.getD j default = ys[j]'(by rw [HNys.out]; exact hlt) from by simp [List.getD, HNys.out, hlt]]; exact List.getElem_mem _)
                have CP := Lib.hid (play14 HB.out x (fun W hW => Types.far hty HON.out hW (fun k hk hg => by have := (HKK.out k (.inl hg)).1; omega)))
                obtain ⟨os', hos⟩ : ∃ os', playZ os 200 x = os' := ⟨_, rfl⟩
                rw [hos] at CP
                unfold valOp at CP
                obtain ⟨k0, k1, k2, k3, k4, k5, k6, k7, k8, k9, k10, k11, k12, k13, k14, k15, k16⟩ := hat
                clear hat0 hxe hty hos
                go_wp2_with (fail)
                refine CP.out.mono ?_
                rintro e w3 ⟨rfl, G3, H3, hb3, hk3, ho3⟩
                have HON3 := Lib.hid (Only.trans HON.out ho3 (fun k hk hl => by have := (HKK.out k hk).1; omega))
                have HB3 := Lib.hid hb3
                have HP3 := Lib.hid (HeapP.only HP.out ho3 (fun k hk hq => (HKK.out k hq).2.1 hk))
                have HOL3 := Lib.hid (HOL.out.only ho3 (fun k hk hq => (HKK.out k hq).2.2 hk))
                have HOlt := Lib.hid (show ∀ k, O k → k < wr.heap.size from fun k hk => by obtain ⟨zs, hz, -⟩ := HOL.out; exact hz.lt k hk)
                have HK3 := Lib.hid (show ∀ k, G3 k ∨ H3 k → w.heap.size ≤ k ∧ ¬ G k ∧ ¬ O k from fun k hk => by
              rcases hk3 k hk with e | e
              · exact HKK.out k e
              · have := HON.out.size
                exact ⟨by omega, fun hg => by have := HeapP.lt HP.out k hg; omega, fun ho => by have := HOlt.out k ho; omega⟩)
                clear hb3 hk3 ho3 k0 k1 k2 k3 k4 k5 k6 k7 k8 k9 k10 k11 k12 k13 k14 k15 k16
                go_wp2
                go_roundw
                case rel => exact ⟨j + 1, G3, H3, os', by go_num, by omega, HB3, HK3, HP3, HOL3, HON3⟩
                case measure => simp [intOf]; omega
            · have d60 : decide ((j : Int) < 60) = false := by simp only [decide_eq_false_iff_not]; omega
              have hjz : (j : Int) < (n2 : Int) := by omega
              as_aux_lemma =>
                obtain ⟨Lv, hL0, ⟨aL, cL, rfl⟩, hLR⟩ := HB.out.hr.list
                have HL0 := Lib.hid hL0
                have HLR := Lib.hid hLR
                have hS : (fun wc => wc.cell? ⟨q, 0, none⟩ = some (.slice aL os.length cL)) wr.drew := hL0
                clear hLR hL0
                go_wp2_with (fail)
                refine wp_region_held_drew (S := fun wc => wc.cell? ⟨q, 0, none⟩ = some (.slice aL os.length cL)) (by kernel_rfl) hS (fun hHeld => ?_)
                refine wpAnyH_take (i := 0) (v := ?_) (by simp only [List.getElem?_toArray, List.getElem?_cons_succ, List.getElem?_cons_zero]; rfl) (by kernel_rfl) (by kernel_rfl) (by kernel_rfl) (by exact fun _ _ _ h => h) (Or.inl ⟨by rfl, ?_⟩) (by assumption) ?_
                rotate_left 1
                · (intro w hSw; (try dsimp only at hSw); go_simp; try with_reducible rfl)
                try simp only [Act.put, List.setIfInBounds_toArray, List.set_cons_zero, List.set_cons_succ]
                refine wpAnyH_take (i := 2) (v := ?_) (by simp only [List.getElem?_toArray, List.getElem?_cons_succ, List.getElem?_cons_zero]; rfl) (by kernel_rfl) (by kernel_rfl) (by kernel_rfl) (by exact fun _ _ _ h => h) (Or.inl ⟨by rfl, ?_⟩) (by assumption) ?_
                rotate_left 1
                · (intro w hSw; (try dsimp only at hSw); go_simp; try with_reducible rfl)
                try simp only [Act.put, List.setIfInBounds_toArray, List.set_cons_zero, List.set_cons_succ]
                refine wpAnyH_ready (rs := [1]) (by kernel_rfl) (by simp) ?_
                refine AllReadyH.cons (by simp only [List.getElem?_toArray, List.getElem?_cons_succ, List.getElem?_cons_zero]; rfl) (fun K hK => ?_) AllReadyH.nil
                go_simp
                (refine (progAllR (HeapP.only HP.out (Only.refl (fun _ => False) wr).drew (fun _ _ h => h))).mono ?_; rintro e w8 ⟨v8, H8, rfl, hv8, hq, -⟩; have HV8 := Lib.hid hv8.objs; have HQ8 := Lib.hid ((Only.refl (fun _ => False) wr).drew.trans hq (fun _ h _ => h)); clear hv8 hq)
                go_wp2_with fail
                refine hK.out _ _ ?_ (fun hHeld2 => ?_)
                · exact HQ8.out.cell HL0.out (fun h => h)
                clear hK K
                try simp only [Act.put, List.setIfInBounds_toArray, List.set_cons_zero, List.set_cons_succ]
                clear hHeld
                have hHeld := hHeld2
                clear hHeld2
                refine wpAnyH_ready (rs := [3]) (by kernel_rfl) (by simp) ?_
                refine AllReadyH.cons (by simp only [List.getElem?_toArray, List.getElem?_cons_succ, List.getElem?_cons_zero]; rfl) (fun K hK => ?_) AllReadyH.nil
                go_simp
                (refine (same14 _ _ os0 _ HV8.out (HOL.out.objs.none HQ8.out) HFEW.out.1 HFEW.out.2).mono ?_; rintro e w9 ⟨rfl, hq⟩; have HQ9 := Lib.hid (HQ8.out.trans hq (fun _ h _ => h)); clear hq)
                go_wp2_with fail
                refine hK.out _ _ ?_ (fun hHeld2 => ?_)
                · exact HQ9.out.cell HL0.out (fun h => h)
                clear hK K
                try simp only [Act.put, List.setIfInBounds_toArray, List.set_cons_zero, List.set_cons_succ]
                clear hHeld
                have hHeld := hHeld2
                clear hHeld2
                refine wpAnyH_take (i := 4) (v := ?_) (by simp only [List.getElem?_toArray, List.getElem?_cons_succ, List.getElem?_cons_zero]; rfl) (by kernel_rfl) (by kernel_rfl) (by kernel_rfl) (by exact fun _ _ _ h => h) (Or.inl ⟨by rfl, ?_⟩) (by assumption) ?_
                rotate_left 1
                · (intro w hSw; (try dsimp only at hSw); go_simp; try with_reducible rfl)
                try simp only [Act.put, List.setIfInBounds_toArray, List.set_cons_zero, List.set_cons_succ]
                refine wpAnyH_take (i := 5) (v := ?_) (by simp only [List.getElem?_toArray, List.getElem?_cons_succ, List.getElem?_cons_zero]; rfl) (by kernel_rfl) (by kernel_rfl) (by kernel_rfl) (by exact fun _ _ _ h => h) (Or.inl ⟨by rfl, ?_⟩) (by assumption) ?_
                rotate_left 1
                · (intro w hSw; (try dsimp only at hSw); go_simp; try with_reducible rfl)
                try simp only [Act.put, List.setIfInBounds_toArray, List.set_cons_zero, List.set_cons_succ]
                refine wpAnyH_take (i := 7) (v := ?_) (by simp only [List.getElem?_toArray, List.getElem?_cons_succ, List.getElem?_cons_zero]; rfl) (by kernel_rfl) (by kernel_rfl) (by kernel_rfl) (by exact fun _ _ _ h => h) (Or.inl ⟨by rfl, ?_⟩) (by assumption) ?_
                rotate_left 1
                · (intro w hSw; (try dsimp only at hSw); go_simp; try with_reducible rfl)
                try simp only [Act.put, List.setIfInBounds_toArray, List.set_cons_zero, List.set_cons_succ]
                refine wpAnyH_take (i := 8) (v := ?_) (by simp only [List.getElem?_toArray, List.getElem?_cons_succ, List.getElem?_cons_zero]; rfl) (by kernel_rfl) (by kernel_rfl) (by kernel_rfl) (by exact fun _ _ _ h => h) (Or.inl ⟨by rfl, ?_⟩) (by assumption) ?_
                rotate_left 1
                · (intro w hSw; (try dsimp only at hSw); go_simp; try with_reducible rfl)
                try simp only [Act.put, List.setIfInBounds_toArray, List.set_cons_zero, List.set_cons_succ]
                refine wpAnyH_take (i := 9) (v := ?_) (by simp only [List.getElem?_toArray, List.getElem?_cons_succ, List.getElem?_cons_zero]; rfl) (by kernel_rfl) (by kernel_rfl) (by kernel_rfl) (by exact fun _ _ _ h => h) (Or.inl ⟨by rfl, ?_⟩) (by assumption) ?_
                rotate_left 1
                · (intro w hSw; (try dsimp only at hSw); go_simp; try with_reducible rfl)
                try simp only [Act.put, List.setIfInBounds_toArray, List.set_cons_zero, List.set_cons_succ]
                refine wpAnyH_take (i := 10) (v := ?_) (by simp only [List.getElem?_toArray, List.getElem?_cons_succ, List.getElem?_cons_zero]; rfl) (by kernel_rfl) (by kernel_rfl) (by kernel_rfl) (by exact fun _ _ _ h => h) (Or.inl ⟨by rfl, ?_⟩) (by assumption) ?_
                rotate_left 1
                · (intro w hSw; (try dsimp only at hSw); go_simp; try with_reducible rfl)
                try simp only [Act.put, List.setIfInBounds_toArray, List.set_cons_zero, List.set_cons_succ]
                refine wpAnyH_ready (rs := [6]) (by kernel_rfl) (by simp) ?_
                refine AllReadyH.cons (by simp only [List.getElem?_toArray, List.getElem?_cons_succ, List.getElem?_cons_zero]; rfl) (fun K hK => ?_) AllReadyH.nil
                go_simp
                (refine (progAllR (HeapP.only HB.out.hp HQ9.out (fun _ _ h => h))).mono ?_; rintro e w10 ⟨v10, H10, rfl, hv10, hq, -⟩; have HV10 := Lib.hid hv10.objs; have HQ10 := Lib.hid (HQ9.out.trans hq (fun _ h _ => h)); clear hv10 hq)
                go_wp2_with fail
                refine hK.out _ _ ?_ (fun hHeld2 => ?_)
                · exact HQ10.out.cell HL0.out (fun h => h)
                clear hK K
                try simp only [Act.put, List.setIfInBounds_toArray, List.set_cons_zero, List.set_cons_succ]
                clear hHeld
                have hHeld := hHeld2
                clear hHeld2
                refine wpAnyH_ready (rs := [11]) (by kernel_rfl) (by simp) ?_
                refine AllReadyH.cons (by simp only [List.getElem?_toArray, List.getElem?_cons_succ, List.getElem?_cons_zero]; rfl) (fun K hK => ?_) AllReadyH.nil
                go_simp
                (refine (same14 _ _ os _ HV10.out (HLR.out.none HQ10.out) (HeapR.few HB.out.hr).1 (HeapR.few HB.out.hr).2).mono ?_; rintro e w11 ⟨rfl, hq⟩; have HQ11 := Lib.hid (HQ10.out.trans hq (fun _ h _ => h)); clear hq)
                go_wp2_with fail
                refine hK.out _ _ ?_ (fun hHeld2 => ?_)
                · exact HQ11.out.cell HL0.out (fun h => h)
                clear hK K
                try simp only [Act.put, List.setIfInBounds_toArray, List.set_cons_zero, List.set_cons_succ]
                clear hHeld
                have hHeld := hHeld2
                clear hHeld2
                refine wpAnyH_take (i := 12) (v := ?_) (by simp only [List.getElem?_toArray, List.getElem?_cons_succ, List.getElem?_cons_zero]; rfl) (by kernel_rfl) (by kernel_rfl) (by kernel_rfl) (by exact fun _ _ _ h => h) (Or.inl ⟨by rfl, ?_⟩) (by assumption) ?_
                rotate_left 1
                · (intro w hSw; (try dsimp only at hSw); go_simp; try with_reducible rfl)
                try simp only [Act.put, List.setIfInBounds_toArray, List.set_cons_zero, List.set_cons_succ]
                refine wpAnyH_take (i := 13) (v := ?_) (by simp only [List.getElem?_toArray, List.getElem?_cons_succ, List.getElem?_cons_zero]; rfl) (by kernel_rfl) (by kernel_rfl) (by kernel_rfl) (by exact fun _ _ _ h => h) (Or.inl ⟨by rfl, ?_⟩) (by assumption) ?_
                rotate_left 1
                · (intro w hSw; (try dsimp only at hSw); go_simp; try with_reducible rfl)
                try simp only [Act.put, List.setIfInBounds_toArray, List.set_cons_zero, List.set_cons_succ]
                refine wpAnyH_ready (rs := [14]) (by kernel_rfl) (by simp) ?_
                refine AllReadyH.cons (by simp only [List.getElem?_toArray, List.getElem?_cons_succ, List.getElem?_cons_zero]; rfl) (fun K hK => ?_) AllReadyH.nil
                go_simp
                (refine (AW.out _).mono ?_; rintro e w12 ⟨rfl, hq⟩; have HQ12 := Lib.hid (HQ11.out.trans hq (fun _ h _ => h)); clear hq)
                go_wp2_with fail
                refine hK.out _ _ ?_ (fun hHeld2 => ?_)
                · exact HQ12.out.cell HL0.out (fun h => h)
                clear hK K
                try simp only [Act.put, List.setIfInBounds_toArray, List.set_cons_zero, List.set_cons_succ]
                clear hHeld
                have hHeld := hHeld2
                clear hHeld2
                refine wpAnyH_take (i := 15) (v := ?_) (by simp only [List.getElem?_toArray, List.getElem?_cons_succ, List.getElem?_cons_zero]; rfl) (by kernel_rfl) (by kernel_rfl) (by kernel_rfl) (by exact fun _ _ _ h => h) (Or.inl ⟨by rfl, ?_⟩) (by assumption) ?_
                rotate_left 1
                · (intro w hSw; (try dsimp only at hSw); go_simp; try with_reducible rfl)
                try simp only [Act.put, List.setIfInBounds_toArray, List.set_cons_zero, List.set_cons_succ]
                refine wpAnyH_take (i := 16) (v := ?_) (by simp only [List.getElem?_toArray, List.getElem?_cons_succ, List.getElem?_cons_zero]; rfl) (by kernel_rfl) (by kernel_rfl) (by kernel_rfl) (by exact fun _ _ _ h => h) (Or.inl ⟨by rfl, ?_⟩) (by assumption) ?_
                rotate_left 1
                · (intro w hSw; (try dsimp only at hSw); go_simp; try with_reducible rfl)
                try simp only [Act.put, List.setIfInBounds_toArray, List.set_cons_zero, List.set_cons_succ]
                refine wpAnyH_done (by kernel_rfl) ?_ _
                go_wp2
                go_ret
                exact ⟨rfl, (HON.out.trans HQ12.out (fun _ h _ => h)).none⟩
          · have hnj : ¬ ((j : Int) < (n2 : Int)) := by omega
            as_aux_lemma =>
              obtain ⟨Lv, hL0, ⟨aL, cL, rfl⟩, hLR⟩ := HB.out.hr.list
              have HL0 := Lib.hid hL0
              have HLR := Lib.hid hLR
              have hS : (fun wc => wc.cell? ⟨q, 0, none⟩ = some (.slice aL os.length cL)) wr.drew := hL0
              clear hLR hL0
              go_wp2_with (fail)
              refine wp_region_held_drew (S := fun wc => wc.cell? ⟨q, 0, none⟩ = some (.slice aL os.length cL)) (by kernel_rfl) hS (fun hHeld => ?_)
              refine wpAnyH_take (i := 0) (v := ?_) (by simp only [List.getElem?_toArray, List.getElem?_cons_succ, List.getElem?_cons_zero]; rfl) (by kernel_rfl) (by kernel_rfl) (by kernel_rfl) (by exact fun _ _ _ h => h) (Or.inl ⟨by rfl, ?_⟩) (by assumption) ?_
              rotate_left 1
              · (intro w hSw; (try dsimp only at hSw); go_simp; try with_reducible rfl)
              try simp only [Act.put, List.setIfInBounds_toArray, List.set_cons_zero, List.set_cons_succ]
              refine wpAnyH_take (i := 2) (v := ?_) (by simp only [List.getElem?_toArray, List.getElem?_cons_succ, List.getElem?_cons_zero]; rfl) (by kernel_rfl) (by kernel_rfl) (by kernel_rfl) (by exact fun _ _ _ h => h) (Or.inl ⟨by rfl, ?_⟩) (by assumption) ?_
              rotate_left 1
              · (intro w hSw; (try dsimp only at hSw); go_simp; try with_reducible rfl)
              try simp only [Act.put, List.setIfInBounds_toArray, List.set_cons_zero, List.set_cons_succ]
              refine wpAnyH_ready (rs := [1]) (by kernel_rfl) (by simp) ?_
              refine AllReadyH.cons (by simp only [List.getElem?_toArray, List.getElem?_cons_succ, List.getElem?_cons_zero]; rfl) (fun K hK => ?_) AllReadyH.nil
              go_simp
              (refine (progAllR (HeapP.only HP.out (Only.refl (fun _ => False) wr).drew (fun _ _ h => h))).mono ?_; rintro e w8 ⟨v8, H8, rfl, hv8, hq, -⟩; have HV8 := Lib.hid hv8.objs; have HQ8 := Lib.hid ((Only.refl (fun _ => False) wr).drew.trans hq (fun _ h _ => h)); clear hv8 hq)
              go_wp2_with fail
              refine hK.out _ _ ?_ (fun hHeld2 => ?_)
              · exact HQ8.out.cell HL0.out (fun h => h)
              clear hK K
              try simp only [Act.put, List.setIfInBounds_toArray, List.set_cons_zero, List.set_cons_succ]
              clear hHeld
              have hHeld := hHeld2
              clear hHeld2
              refine wpAnyH_ready (rs := [3]) (by kernel_rfl) (by simp) ?_
              refine AllReadyH.cons (by simp only [List.getElem?_toArray, List.getElem?_cons_succ, List.getElem?_cons_zero]; rfl) (fun K hK => ?_) AllReadyH.nil
              go_simp
              (refine (same14 _ _ os0 _ HV8.out (HOL.out.objs.none HQ8.out) HFEW.out.1 HFEW.out.2).mono ?_; rintro e w9 ⟨rfl, hq⟩; have HQ9 := Lib.hid (HQ8.out.trans hq (fun _ h _ => h)); clear hq)
              go_wp2_with fail
              refine hK.out _ _ ?_ (fun hHeld2 => ?_)
              · exact HQ9.out.cell HL0.out (fun h => h)
              clear hK K
              try simp only [Act.put, List.setIfInBounds_toArray, List.set_cons_zero, List.set_cons_succ]
              clear hHeld
              have hHeld := hHeld2
              clear hHeld2
              refine wpAnyH_take (i := 4) (v := ?_) (by simp only [List.getElem?_toArray, List.getElem?_cons_succ, List.getElem?_cons_zero]; rfl) (by kernel_rfl) (by kernel_rfl) (by kernel_rfl) (by exact fun _ _ _ h => h) (Or.inl ⟨by rfl, ?_⟩) (by assumption) ?_
              rotate_left 1
              · (intro w hSw; (try dsimp only at hSw); go_simp; try with_reducible rfl)
              try simp only [Act.put, List.setIfInBounds_toArray, List.set_cons_zero, List.set_cons_succ]
              refine wpAnyH_take (i := 5) (v := ?_) (by simp only [List.getElem?_toArray, List.getElem?_cons_succ, List.getElem?_cons_zero]; rfl) (by kernel_rfl) (by kernel_rfl) (by kernel_rfl) (by exact fun _ _ _ h => h) (Or.inl ⟨by rfl, ?_⟩) (by assumption) ?_
              rotate_left 1
              · (intro w hSw; (try dsimp only at hSw); go_simp; try with_reducible rfl)
              try simp only [Act.put, List.setIfInBounds_toArray, List.set_cons_zero, List.set_cons_succ]
              refine wpAnyH_take (i := 7) (v := ?_) (by simp only [List.getElem?_toArray, List.getElem?_cons_succ, List.getElem?_cons_zero]; rfl) (by kernel_rfl) (by kernel_rfl) (by kernel_rfl) (by exact fun _ _ _ h => h) (Or.inl ⟨by rfl, ?_⟩) (by assumption) ?_
              rotate_left 1
              · (intro w hSw; (try dsimp only at hSw); go_simp; try with_reducible rfl)
              try simp only [Act.put, List.setIfInBounds_toArray, List.set_cons_zero, List.set_cons_succ]
              refine wpAnyH_take (i := 8) (v := ?_) (by simp only [List.getElem?_toArray, List.getElem?_cons_succ, List.getElem?_cons_zero]; rfl) (by kernel_rfl) (by kernel_rfl) (by kernel_rfl) (by exact fun _ _ _ h => h) (Or.inl ⟨by rfl, ?_⟩) (by assumption) ?_
              rotate_left 1
              · (intro w hSw; (try dsimp only at hSw); go_simp; try with_reducible rfl)
              try simp only [Act.put, List.setIfInBounds_toArray, List.set_cons_zero, List.set_cons_succ]
              refine wpAnyH_take (i := 9) (v := ?_) (by simp only [List.getElem?_toArray, List.getElem?_cons_succ, List.getElem?_cons_zero]; rfl) (by kernel_rfl) (by kernel_rfl) (by kernel_rfl) (by exact fun _ _ _ h => h) (Or.inl ⟨by rfl, ?_⟩) (by assumption) ?_
              rotate_left 1
              · (intro w hSw; (try dsimp only at hSw); go_simp; try with_reducible rfl)
              try simp only [Act.put, List.setIfInBounds_toArray, List.set_cons_zero, List.set_cons_succ]
              refine wpAnyH_take (i := 10) (v := ?_) (by simp only [List.getElem?_toArray, List.getElem?_cons_succ, List.getElem?_cons_zero]; rfl) (by kernel_rfl) (by kernel_rfl) (by kernel_rfl) (by exact fun _ _ _ h => h) (Or.inl ⟨by rfl, ?_⟩) (by assumption) ?_
              rotate_left 1
              · (intro w hSw; (try dsimp only at hSw); go_simp; try with_reducible rfl)
              try simp only [Act.put, List.setIfInBounds_toArray, List.set_cons_zero, List.set_cons_succ]
              refine wpAnyH_ready (rs := [6]) (by kernel_rfl) (by simp) ?_
              refine AllReadyH.cons (by simp only [List.getElem?_toArray, List.getElem?_cons_succ, List.getElem?_cons_zero]; rfl) (fun K hK => ?_) AllReadyH.nil
              go_simp
              (refine (progAllR (HeapP.only HB.out.hp HQ9.out (fun _ _ h => h))).mono ?_; rintro e w10 ⟨v10, H10, rfl, hv10, hq, -⟩; have HV10 := Lib.hid hv10.objs; have HQ10 := Lib.hid (HQ9.out.trans hq (fun _ h _ => h)); clear hv10 hq)
              go_wp2_with fail
              refine hK.out _ _ ?_ (fun hHeld2 => ?_)
              · exact HQ10.out.cell HL0.out (fun h => h)
              clear hK K
              try simp only [Act.put, List.setIfInBounds_toArray, List.set_cons_zero, List.set_cons_succ]
              clear hHeld
              have hHeld := hHeld2
              clear hHeld2
              refine wpAnyH_ready (rs := [11]) (by kernel_rfl) (by simp) ?_
              refine AllReadyH.cons (by simp only [List.getElem?_toArray, List.getElem?_cons_succ, List.getElem?_cons_zero]; rfl) (fun K hK => ?_) AllReadyH.nil
              go_simp
              (refine (same14 _ _ os _ HV10.out (HLR.out.none HQ10.out) (HeapR.few HB.out.hr).1 (HeapR.few HB.out.hr).2).mono ?_; rintro e w11 ⟨rfl, hq⟩; have HQ11 := Lib.hid (HQ10.out.trans hq (fun _ h _ => h)); clear hq)
              go_wp2_with fail
              refine hK.out _ _ ?_ (fun hHeld2 => ?_)
              · exact HQ11.out.cell HL0.out (fun h => h)
              clear hK K
              try simp only [Act.put, List.setIfInBounds_toArray, List.set_cons_zero, List.set_cons_succ]
              clear hHeld
              have hHeld := hHeld2
              clear hHeld2
              refine wpAnyH_take (i := 12) (v := ?_) (by simp only [List.getElem?_toArray, List.getElem?_cons_succ, List.getElem?_cons_zero]; rfl) (by kernel_rfl) (by kernel_rfl) (by kernel_rfl) (by exact fun _ _ _ h => h) (Or.inl ⟨by rfl, ?_⟩) (by assumption) ?_
              rotate_left 1
              · (intro w hSw; (try dsimp only at hSw); go_simp; try with_reducible rfl)
              try simp only [Act.put, List.setIfInBounds_toArray, List.set_cons_zero, List.set_cons_succ]
              refine wpAnyH_take (i := 13) (v := ?_) (by simp only [List.getElem?_toArray, List.getElem?_cons_succ, List.getElem?_cons_zero]; rfl) (by kernel_rfl) (by kernel_rfl) (by kernel_rfl) (by exact fun _ _ _ h => h) (Or.inl ⟨by rfl, ?_⟩) (by assumption) ?_
              rotate_left 1
              · (intro w hSw; (try dsimp only at hSw); go_simp; try with_reducible rfl)
              try simp only [Act.put, List.setIfInBounds_toArray, List.set_cons_zero, List.set_cons_succ]
              refine wpAnyH_ready (rs := [14]) (by kernel_rfl) (by simp) ?_
              refine AllReadyH.cons (by simp only [List.getElem?_toArray, List.getElem?_cons_succ, List.getElem?_cons_zero]; rfl) (fun K hK => ?_) AllReadyH.nil
              go_simp
              (refine (AW.out _).mono ?_; rintro e w12 ⟨rfl, hq⟩; have HQ12 := Lib.hid (HQ11.out.trans hq (fun _ h _ => h)); clear hq)
              go_wp2_with fail
              refine hK.out _ _ ?_ (fun hHeld2 => ?_)
              · exact HQ12.out.cell HL0.out (fun h => h)
              clear hK K
              try simp only [Act.put, List.setIfInBounds_toArray, List.set_cons_zero, List.set_cons_succ]
              clear hHeld
              have hHeld := hHeld2
              clear hHeld2
              refine wpAnyH_take (i := 15) (v := ?_) (by simp only [List.getElem?_toArray, List.getElem?_cons_succ, List.getElem?_cons_zero]; rfl) (by kernel_rfl) (by kernel_rfl) (by kernel_rfl) (by exact fun _ _ _ h => h) (Or.inl ⟨by rfl, ?_⟩) (by assumption) ?_
              rotate_left 1
              · (intro w hSw; (try dsimp only at hSw); go_simp; try with_reducible rfl)
              try simp only [Act.put, List.setIfInBounds_toArray, List.set_cons_zero, List.set_cons_succ]
              refine wpAnyH_take (i := 16) (v := ?_) (by simp only [List.getElem?_toArray, List.getElem?_cons_succ, List.getElem?_cons_zero]; rfl) (by kernel_rfl) (by kernel_rfl) (by kernel_rfl) (by exact fun _ _ _ h => h) (Or.inl ⟨by rfl, ?_⟩) (by assumption) ?_
              rotate_left 1
              · (intro w hSw; (try dsimp only at hSw); go_simp; try with_reducible rfl)
              try simp only [Act.put, List.setIfInBounds_toArray, List.set_cons_zero, List.set_cons_succ]
              refine wpAnyH_done (by kernel_rfl) ?_ _
              go_wp2
              go_ret
              exact ⟨rfl, (HON.out.trans HQ12.out (fun _ h _ => h)).none⟩

theorem own : ownKnob Try.prog.godebug = none := by kernel_rfl
theorem laidOut : laidOutB Try.prog = true := by kernel_rfl

set_option maxRecDepth 100000 in
theorem lifted (os : Os) (started : os.Started) (H : Type) (enc : TypeId × Value → H) :
    ReturnsInHanded {} Try.checked os 6 .any (Rows.heapCopiesSpec.pre6 enc Try.prog Try.f6 Rows.heapCopiesRow.domain false) (Rows.heapCopiesSpec.post enc Try.prog Try.f6 false true false false) := by
  refine returnsInHanded_of_change_sized (C := Try.checked) own started (by kernel_rfl) Try.func6
    (ChangeSpec.witness6 (enc := enc) (C := Try.checked) false ⟨#[], #[.slice none 0 0, .slice none 0 0], []⟩ 8 (by kernel_rfl) (by kernel_rfl) (by kernel_rfl) (by kernel_rfl)) ?_
  intro W base args ds gs before hval0 hW hcnd hsz0 _
  have hsz : (DataW.weightsEach Try.prog (Try.f6.params.toList ++ Rows.heapCopiesSpec.plain.varTypes Try.prog) (ds ++ gs)).all (· ≤ reachBytes) = true := hsz0
  clear hsz0
  have hval : ∀ (j : Nat) t v, Try.f6.params[j]? = some t → args[j]? = some v → Value.okWide Try.prog W .any base t v := hval0
  have hW' := hW
  obtain ⟨p, q, hA0, hV, rfl, hfz, hnd⟩ := hW
  have hA : DataW.TrodAll enc Try.prog W 0 (fun _ => true) true Try.f6.params.toList args.toList ds p := hA0
  rw [Try.params6] at hA hval hsz
  obtain ⟨v0, vs0, d0, ds0, p0, q0, hargs, rfl, rfl, h0, r0⟩ := trodAll_cons hA
  obtain ⟨v1, vs1, d1, ds1, p1, q1, rfl, rfl, rfl, h1, r1⟩ := trodAll_cons r0
  obtain ⟨rfl, rfl, rfl⟩ := trodAll_nil r1
  obtain rfl : args = #[v0, v1] := by cases args; simp_all
  obtain ⟨rfl, rfl⟩ := trodVars_none hV
  have k0 := h0
  have lt0 : ∀ x ∈ p0, x.block < W.heap.size := by obtain ⟨m, hm⟩ := k0; exact DataW.trod_lt m _ _ _ hm
  have w0 := arg_ops14 (hval 0 22 v0 rfl rfl) h0 (light_arg (j := 0) hsz rfl rfl)
  have k1 := h1
  have lt1 : ∀ x ∈ p1, x.block < W.heap.size := by obtain ⟨m, hm⟩ := k1; exact DataW.trod_lt m _ _ _ hm
  have w1 := arg_ops14 (hval 1 22 v1 rfl rfl) h1 (light_arg (j := 1) hsz rfl rfl)
  clear hA0 hval0
  refine (walk v0 v1 W w0 w1).mono fun e W' ⟨he, bel⟩ => ?_
  subst he
  exact ⟨_, rfl, _, _, _, [], _, [], hW', trodAll_mk1 (shut_bool Try.underlying4 _), (trodAll_cons_mk (Below.trod laidOut (by kernel_rfl) (of_decide_eq_true (by kernel_rfl)) k0 bel lt0) (trodAll_cons_mk (Below.trod laidOut (by kernel_rfl) (of_decide_eq_true (by kernel_rfl)) k1 bel lt1) trodAll_mk0)), rfl, bel.frame _, fun h => by cases h⟩

theorem over : Rows.heapCopiesRow.holds Try.pinned (OpenSpec.ofChange Rows.heapCopiesSpec) :=
  OpenClaim.holds_of_wide 6 Try.f6 rfl rfl rfl rfl rfl rfl rfl ⟨rfl, rfl, rfl, rfl, rfl⟩ rfl rfl rfl rfl rfl (by kernel_rfl) Try.func6 (by kernel_rfl)
    (of_decide_eq_true (by kernel_rfl)) (by unfold Func.isWrapper; first | (rw [if_pos (by decide +kernel)]; kernel_rfl) | (rw [if_neg (by decide +kernel)]; exact ⟨rfl, rfl⟩))
    (fun os started H enc _ => lifted os started H enc)

theorem proved : Rows.HeapCopiesSaid := over
#print axioms proved
end Go.Proofs.Ytebeoganblcblaa.heapCopies
