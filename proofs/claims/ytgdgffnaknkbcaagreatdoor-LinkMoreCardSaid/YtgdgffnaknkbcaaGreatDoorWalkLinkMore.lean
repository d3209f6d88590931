/- The walk of the law LinkMore. Condition: the argument reads as a list of classes. -/
import Derived.Test.YtgdgffnaknkbcaaGreatDoorMjLpYLnkMc
import Derived.Test.YtgdgffnaknkbcaaGreatDoorMjClsJLpX
import Derived.Test.YtgdgffnaknkbcaaGreatDoorMjLnkMe
namespace Go.Proofs.YtgdgffnaknkbcaaGreatDoor
open Go.RowKit
set_option linter.unusedVariables false
set_option linter.unusedSimpArgs false
def ResB (w : World) (cs : List ClassV) (p : Value) (b : Int) : Prop :=
  (b ≠ 0 ∧ p = .pointer none) ∨ (b = 0 ∧ buildZ cs = 0 ∧ ∃ pb fv cl, p = .pointer (some ⟨pb, 0, none⟩) ∧ MadeP fv w pb cs cl)
theorem resB_of {w : World} {cs : List ClassV} {e : Ending} (h : (buildZ cs ≠ 0 ∧ e = .returned (.tuple #[.pointer none, .int .i64 (buildZ cs)])) ∨
    (buildZ cs = 0 ∧ ∃ pb fv cl, e = .returned (.tuple #[.pointer (some ⟨pb, 0, none⟩), .int .i64 0]) ∧ MadeP fv w pb cs cl)) : ∃ p b, e = .returned (.tuple #[p, .int .i64 b]) ∧ ResB w cs p b := by
  rcases h with ⟨h1, rfl⟩ | ⟨h1, pb, fv, cl, rfl, h2⟩
  · exact ⟨_, _, rfl, .inl ⟨h1, rfl⟩⟩
  · exact ⟨_, _, rfl, .inr ⟨rfl, h1, pb, fv, cl, rfl, h2⟩⟩
def HeldC (w1 : World) (NB : Nat) (vp vf vm : Value) (c : ClassV) (wc : World) : Prop := (fun wc => (wc.heap[NB]? = some (.cells #[vp, .int .i64 c.this, .int .i64 c.super, vf, vm] 77 (0, 0)) ∧ wc.cell? ⟨NB, 0, none⟩ = some vp ∧ wc.cell? ⟨NB, 1, none⟩ = some (.int .i64 c.this) ∧ wc.cell? ⟨NB, 2, none⟩ = some (.int .i64 c.super) ∧ wc.cell? ⟨NB, 3, none⟩ = some vf ∧ wc.cell? ⟨NB, 4, none⟩ = some vm) ∧ Only (fun _ => False) w1 wc) wc
theorem keepG {w1 W W' : World} {NB : Nat} {vp vf vm : Value} {c : ClassV} {Q : Nat → Prop} (h : (fun wc => (wc.heap[NB]? = some (.cells #[vp, .int .i64 c.this, .int .i64 c.super, vf, vm] 77 (0, 0)) ∧ wc.cell? ⟨NB, 0, none⟩ = some vp ∧ wc.cell? ⟨NB, 1, none⟩ = some (.int .i64 c.this) ∧ wc.cell? ⟨NB, 2, none⟩ = some (.int .i64 c.super) ∧ wc.cell? ⟨NB, 3, none⟩ = some vf ∧ wc.cell? ⟨NB, 4, none⟩ = some vm) ∧ Only (fun _ => False) w1 wc) W) (ho : Only Q W W') (hQ : ∀ j, Q j → ¬ j < w1.heap.size) (hN : ¬ Q NB) : (fun wc => (wc.heap[NB]? = some (.cells #[vp, .int .i64 c.this, .int .i64 c.super, vf, vm] 77 (0, 0)) ∧ wc.cell? ⟨NB, 0, none⟩ = some vp ∧ wc.cell? ⟨NB, 1, none⟩ = some (.int .i64 c.this) ∧ wc.cell? ⟨NB, 2, none⟩ = some (.int .i64 c.super) ∧ wc.cell? ⟨NB, 3, none⟩ = some vf ∧ wc.cell? ⟨NB, 4, none⟩ = some vm) ∧ Only (fun _ => False) w1 wc) W' :=
  ⟨⟨ho.heap h.1.1 hN, ho.cell h.1.2.1 hN, ho.cell h.1.2.2.1 hN, ho.cell h.1.2.2.2.1 hN, ho.cell h.1.2.2.2.2.1 hN, ho.cell h.1.2.2.2.2.2 hN⟩, h.2.trans ho hQ⟩
theorem keepC {w1 W W' : World} {NB : Nat} {vp vf vm : Value} {c : ClassV} (h : (fun wc => (wc.heap[NB]? = some (.cells #[vp, .int .i64 c.this, .int .i64 c.super, vf, vm] 77 (0, 0)) ∧ wc.cell? ⟨NB, 0, none⟩ = some vp ∧ wc.cell? ⟨NB, 1, none⟩ = some (.int .i64 c.this) ∧ wc.cell? ⟨NB, 2, none⟩ = some (.int .i64 c.super) ∧ wc.cell? ⟨NB, 3, none⟩ = some vf ∧ wc.cell? ⟨NB, 4, none⟩ = some vm) ∧ Only (fun _ => False) w1 wc) W) (ho : Only (fun _ => False) W W') : (fun wc => (wc.heap[NB]? = some (.cells #[vp, .int .i64 c.this, .int .i64 c.super, vf, vm] 77 (0, 0)) ∧ wc.cell? ⟨NB, 0, none⟩ = some vp ∧ wc.cell? ⟨NB, 1, none⟩ = some (.int .i64 c.this) ∧ wc.cell? ⟨NB, 2, none⟩ = some (.int .i64 c.super) ∧ wc.cell? ⟨NB, 3, none⟩ = some vf ∧ wc.cell? ⟨NB, 4, none⟩ = some vm) ∧ Only (fun _ => False) w1 wc) W' :=
  keepG h ho (fun _ h => h.elim) (fun h => h)
theorem cls_more {wB W : World} {EB : Nat} {v : Value} {l : List ClP} {p : ClP} {cs : List ClassV} (h : RowG 77 5 cellsCl W EB v (l ++ [p])) (hl : l.map (·.1) = cs) (hok : ∀ p ∈ l, OkCl wB p) (hp : OkCl wB p) (ho : Only (fun _ => False) wB W) : Classes W v (cs ++ [p.1]) := by
  have hcl := RowG.classes h (fun q hq => by
    rcases List.mem_append.1 hq with h | h
    · exact (hok q h).only ho
    · rw [List.mem_singleton.1 h]; exact hp.only ho)
  rw [List.map_append, hl] at hcl
  exact hcl
set_option maxHeartbeats 32000000 in
set_option maxRecDepth 100000 in
theorem walkMore (v : Value) (cs : List ClassV) (vp vf vm : Value) (c : ClassV) (w : World) (hc : Classes w v cs) (hn : cs.length * 88 ≤ 140737488351232) (hk : ClassM w vp vf vm c) (hT : Tabs w) (hE : ErrV w) :
    Calls Tryz.prog 8 #[v, .agg #[vp, .int .i64 c.this, .int .i64 c.super, vf, vm]] w fun e w' => e = .returned (.bool true) ∧ Only (fun _ => False) w w' := by
  obtain ⟨i0, hi, hz0, hz1, hz2⟩ := info_parts info_class9
  have hoB := (Only.refl (fun _ => False) w).alloc (.cells #[vp, .int .i64 c.this, .int .i64 c.super, vf, vm] 77)
  have hnB := heap_alloc_new w (.cells #[vp, .int .i64 c.this, .int .i64 c.super, vf, vm] 77)
  have hsB := alloc_sz9 w (.cells #[vp, .int .i64 c.this, .int .i64 c.super, vf, vm] 77)
  obtain ⟨NB, hNB⟩ : ∃ x, w.heap.size = x := ⟨_, rfl⟩
  obtain ⟨wB, hwB⟩ : ∃ x, w.alloc (.cells #[vp, .int .i64 c.this, .int .i64 c.super, vf, vm] 77) = x := ⟨_, rfl⟩
  rw [hwB] at hoB hnB hsB
  rw [hNB] at hnB hsB
  have HNBL := Lib.hid (show NB < wB.heap.size by omega)
  have HWB := Lib.hid hwB
  have HNB := Lib.hid hNB
  have HOB := Lib.hid hoB
  have HBB := Lib.hid hnB
  have HT := Lib.hid (hT.only hoB (fun h => h) (fun h => h))
  have HE := Lib.hid (hE.only hoB (fun h => h))
  have HCB := Lib.hid (hc.only hoB)
  have CB1 := Lib.hid (pBuild v cs wB HCB.out HT.out HE.out)
  have CB2 := Lib.hid (fun v' W (hW : Only (fun _ => False) wB W) (h : Classes W v' (cs ++ [c])) => pBuild v' (cs ++ [c]) W h (HT.out.only hW (fun h => h) (fun h => h)) (HE.out.only hW (fun h => h)))
  have CA := Lib.hid awake9
  obtain ⟨av, cv, rfl, -⟩ := id hc.choose_spec.1
  have HKB := Lib.hid (show OkCl wB (c, vp, vf, vm) from OkCl.only (p := (c, vp, vf, vm)) hk hoB)
  have HN88 := Lib.hid hn
  clear hc hn hk hT hE hoB hnB hsB hwB hNB
  go_enter Tryz.func8, Tryz.ntmps8
  go_wp2_with (fail)
  rw [HNB.out, HWB.out]
  refine CB1.out.mono ?_
  rintro e w1 ⟨ho1, hcase⟩
  obtain ⟨p1, b1, rfl, hr1⟩ := resB_of hcase
  have HR1 := Lib.hid hr1
  obtain ⟨l, hml, hok, hsrc⟩ := Src.of_classes (HCB.out.only ho1)
  have hlen : l.length = cs.length := by rw [← hml, List.length_map]
  have HML := Lib.hid hml
  have HOK := Lib.hid hok
  have HSRC := Lib.hid hsrc
  have HOKC := Lib.hid (show OkCl w1 (c, vp, vf, vm) from HKB.out.only ho1)
  have HONE := Lib.hid (OkCl.one HOKC.out)
  have HM1 := Lib.hid (show 0 + l.length ≤ maxLen ∧ (0 + l.length) * 88 ≤ 140737488355328 from ⟨by unfold maxLen; have := HN88.out; omega, by have := HN88.out; omega⟩)
  have HM2 := Lib.hid (show l.length + 1 ≤ maxLen ∧ (l.length + 1) * 88 ≤ 140737488355328 from ⟨by unfold maxLen; have := HN88.out; omega, by have := HN88.out; omega⟩)
  have HNBL1 := Lib.hid (Nat.lt_of_lt_of_le HNBL.out ho1.size)
  have hnb1 := ho1.heap HBB.out (fun h => h)
  have HSZ0 := Lib.hid (Nat.le_trans (Nat.le_of_eq rfl) ho1.size)
  have HS0 := Lib.hid (show (fun wc => (wc.heap[NB]? = some (.cells #[vp, .int .i64 c.this, .int .i64 c.super, vf, vm] 77 (0, 0)) ∧ wc.cell? ⟨NB, 0, none⟩ = some vp ∧ wc.cell? ⟨NB, 1, none⟩ = some (.int .i64 c.this) ∧ wc.cell? ⟨NB, 2, none⟩ = some (.int .i64 c.super) ∧ wc.cell? ⟨NB, 3, none⟩ = some vf ∧ wc.cell? ⟨NB, 4, none⟩ = some vm) ∧ Only (fun _ => False) w1 wc) (w1.drewN 1) from ⟨⟨hnb1, cell_blk hnb1 0, cell_blk hnb1 1, cell_blk hnb1 2, cell_blk hnb1 3, cell_blk hnb1 4⟩, (Only.refl _ w1).drewN 1⟩)
  have HO1 := Lib.hid ho1
  clear hcase hr1 ho1 hnb1 CB1 hml hok hlen hsrc
  go_upto_region 2 with fail
  go_cut [7, 8] from 17 (fun p2 e2 wx => ∃ b2, e2 = .int .i64 b2 ∧ ResB wx (cs ++ [c]) p2 b2 ∧ HeldC w1 NB vp vf vm c wx)
  case first =>
      refine wp_region_held_drew (S := fun wc => (wc.heap[NB]? = some (.cells #[vp, .int .i64 c.this, .int .i64 c.super, vf, vm] 77 (0, 0)) ∧ wc.cell? ⟨NB, 0, none⟩ = some vp ∧ wc.cell? ⟨NB, 1, none⟩ = some (.int .i64 c.this) ∧ wc.cell? ⟨NB, 2, none⟩ = some (.int .i64 c.super) ∧ wc.cell? ⟨NB, 3, none⟩ = some vf ∧ wc.cell? ⟨NB, 4, none⟩ = some vm) ∧ Only (fun _ => False) w1 wc) (by kernel_rfl) HS0.out (fun hHeld => ?_)
      refine wpAnyH_take (i := 1) (v := ?_) (by simp only [List.getElem?_toArray, List.getElem?_cons_succ, List.getElem?_cons_zero]; rfl) (by kernel_rfl) (by kernel_rfl) (by kernel_rfl) (by exact fun _ _ _ h => h) (Or.inl ⟨by rfl, ?_⟩) (by assumption) ?_
      rotate_left 1
      · (intro w hSw; (try dsimp only at hSw); go_simp; try with_reducible rfl)
      try simp only [Act.put, List.setIfInBounds_toArray, List.set_cons_zero, List.set_cons_succ]
      refine wpAnyH_take (i := 3) (v := ?_) (by simp only [List.getElem?_toArray, List.getElem?_cons_succ, List.getElem?_cons_zero]; rfl) (by kernel_rfl) (by kernel_rfl) (by kernel_rfl) (by exact fun _ _ _ h => h) (Or.inl ⟨by rfl, ?_⟩) (by assumption) ?_
      rotate_left 1
      · (intro w hSw; (try dsimp only at hSw); go_simp; try with_reducible rfl)
      try simp only [Act.put, List.setIfInBounds_toArray, List.set_cons_zero, List.set_cons_succ]
      refine wpAnyH_ready (rs := [0, 4]) (by kernel_rfl) (by simp) ?_
      refine AllReadyH.cons (by simp only [List.getElem?_toArray, List.getElem?_cons_succ, List.getElem?_cons_zero]; rfl) (fun K hK => ?_) (AllReadyH.cons (by simp only [List.getElem?_toArray, List.getElem?_cons_succ, List.getElem?_cons_zero]; rfl) (fun K hK => ?_) (AllReadyH.nil))
      · go_simp
        have hoe := (Only.refl (fun _ => False) (w1.drewN 1)).alloc (.cells #[] 77)
        have HQ := Lib.hid (keepC hHeld hoe)
        have HE0 := Lib.hid (show RowG 77 5 cellsCl ((w1.drewN 1).alloc (.cells #[] 77)) (w1.drewN 1).heap.size (.slice (some ⟨(w1.drewN 1).heap.size, 0, none⟩) 0 0) [] from World.ownsRow_made (w1.drewN 1) #[] 0 (Nat.le_refl _) (Nat.zero_le _) rfl)
        have HEB0 := Lib.hid hHeld.2.size
        clear hoe
        refine hK.out _ _ ?_ (fun hHeld2 => ?_)
        · exact HQ.out
        clear hK K
        try simp only [Act.put, List.setIfInBounds_toArray, List.set_cons_zero, List.set_cons_succ]
        clear hHeld
        have hHeld := hHeld2
        clear hHeld2
        clear HQ
        obtain ⟨EB, hEB⟩ : ∃ x, w1.heap.size = x := ⟨_, rfl⟩
        obtain ⟨we, hwe⟩ : ∃ x, (w1.alloc (.cells #[] 77)).drew = x := ⟨_, rfl⟩
        have HE := Lib.hid (show RowG 77 5 cellsCl we EB (.slice (some ⟨EB, 0, none⟩) 0 0) [] from by rw [← hEB, ← hwe]; exact HE0.out)
        have HEB := Lib.hid (show w1.heap.size ≤ EB by rw [← hEB]; exact HEB0.out)
        rw [hwe] at hHeld ⊢
        rw [hEB]
        clear HE0 HEB0 hEB hwe
        refine wpAnyH_ready (rs := [2, 4]) (by kernel_rfl) (by simp) ?_
        refine AllReadyH.cons (by simp only [List.getElem?_toArray, List.getElem?_cons_succ, List.getElem?_cons_zero]; rfl) (fun K hK => ?_) (AllReadyH.cons (by simp only [List.getElem?_toArray, List.getElem?_cons_succ, List.getElem?_cons_zero]; rfl) (fun K hK => ?_) (AllReadyH.nil))
        · have HEBS := Lib.hid (show EB ≤ we.heap.size from Nat.le_of_lt (RowG.ge HE.out EB rfl).2)
          refine step_append_src rfl (.tmp 18) (.tmp 19) 22 rfl 77 i0 (.agg #[.slice none 0 0, .int .i64 0, .int .i64 0, .slice none 0 0, .slice none 0 0]) 5 88 Tryz.underlying22 hi hz0 hz1 hz2 rfl (by decide) EB (.slice (some ⟨EB, 0, none⟩) 0 0) 0 [] rfl (by exact HE.out) (by exact HEBS.out) (.slice av cs.length cv) l.length (l.flatMap cellsCl) rfl (by exact HSRC.out.only hHeld.2) (by exact HM1.out.1) (by exact HM1.out.2) ?_
          intro v1 wa hown hgrow hnew
          have hos := only_grownT hgrow
          have HQ := Lib.hid (keepG hHeld hos (fun j hj hl => by have := HEB.out; have : EB = j := Option.some.inj hj; omega) (by intro hj; have := HEB.out; have := HNBL1.out; have : EB = NB := Option.some.inj hj; omega))
          have HE1 := Lib.hid (show RowG 77 5 cellsCl wa EB v1 l from by unfold RowG; simpa using hown)
          obtain ⟨a1, c1, rfl, -, -⟩ := slice_of_owns HE1.out
          have HSZ := Lib.hid (show EB ≤ wa.heap.size from Nat.le_trans HEBS.out hos.size)
          clear hown hgrow hnew hos HE HEBS
          refine hK.out _ _ ?_ (fun hHeld2 => ?_)
          · exact HQ.out
          clear hK K
          try simp only [Act.put, List.setIfInBounds_toArray, List.set_cons_zero, List.set_cons_succ]
          clear hHeld
          have hHeld := hHeld2
          clear hHeld2
          clear HQ
          refine wpAnyH_ready (rs := [4]) (by kernel_rfl) (by simp) ?_
          refine AllReadyH.cons (by simp only [List.getElem?_toArray, List.getElem?_cons_succ, List.getElem?_cons_zero]; rfl) (fun K hK => ?_) (AllReadyH.nil)
          go_simp
          have hoe := (Only.refl (fun _ => False) wa).alloc (.cells #[vp, .int .i64 c.this, .int .i64 c.super, vf, vm] 77)
          have HQ := Lib.hid (keepC hHeld hoe)
          have HB0 := Lib.hid (heap_alloc_new wa (.cells #[vp, .int .i64 c.this, .int .i64 c.super, vf, vm] 77))
          have HE10 := Lib.hid (RowG.only HE1.out hoe (fun _ _ h => h))
          clear hoe
          refine hK.out _ _ ?_ (fun hHeld2 => ?_)
          · exact HQ.out
          clear hK K
          try simp only [Act.put, List.setIfInBounds_toArray, List.set_cons_zero, List.set_cons_succ]
          clear hHeld
          have hHeld := hHeld2
          clear hHeld2
          clear HQ
          obtain ⟨MB, hMB⟩ : ∃ x, wa.heap.size = x := ⟨_, rfl⟩
          obtain ⟨wb, hwb⟩ : ∃ x, wa.alloc (.cells #[vp, .int .i64 c.this, .int .i64 c.super, vf, vm] 77) = x := ⟨_, rfl⟩
          have HB := Lib.hid (show wb.heap[MB]? = some (.cells #[vp, .int .i64 c.this, .int .i64 c.super, vf, vm] 77 (0, 0)) from by rw [← hMB, ← hwb]; exact HB0.out)
          have HSB := Lib.hid (show wa.heap.size ≤ wb.heap.size by rw [← hwb, alloc_sz9]; omega)
          have HE11 := Lib.hid (show RowG 77 5 cellsCl wb EB _ l from by rw [← hwb]; exact HE10.out)
          clear HE1 HE10
          have HE1 := HE11
          clear HE11
          rw [hwb] at hHeld ⊢
          rw [hMB]
          clear HB0 hMB hwb
          have HEL := Lib.hid (show EB ≤ wb.heap.size from Nat.le_trans HSZ.out HSB.out)
          refine wpAnyH_ready (rs := [5]) (by kernel_rfl) (by simp) ?_
          refine AllReadyH.cons (by simp only [List.getElem?_toArray, List.getElem?_cons_succ, List.getElem?_cons_zero]; rfl) (fun K hK => ?_) (AllReadyH.nil)
          have HEBS := Lib.hid (show EB ≤ wb.heap.size from HEL.out)
          refine step_append_src rfl (.tmp 20) (.tmp 22) 22 rfl 77 i0 (.agg #[.slice none 0 0, .int .i64 0, .int .i64 0, .slice none 0 0, .slice none 0 0]) 5 88 Tryz.underlying22 hi hz0 hz1 hz2 rfl (by decide) EB (.slice a1 l.length c1) l.length (l.flatMap cellsCl) rfl (by exact HE1.out) (by exact HEBS.out) (.slice (some ⟨MB, 0, none⟩) 1 1) 1 (cellsCl (c, vp, vf, vm)) rfl (by exact Src.blkCl (c, vp, vf, vm) HONE.out HB.out) (by exact HM2.out.1) (by exact HM2.out.2) ?_
          intro v2 wz hown hgrow hnew
          have hos := only_grownT hgrow
          have HQ := Lib.hid (keepG hHeld hos (fun j hj hl => by have := HEB.out; have := (RowG.ge HE1.out j hj).1; omega) (by intro hj; have := HEB.out; have := HNBL1.out; have := (RowG.ge HE1.out _ hj).1; omega))
          have HE2 := Lib.hid (show RowG 77 5 cellsCl wz EB v2 (l ++ [(c, vp, vf, vm)]) from RowG.more hown)
          obtain ⟨a2, c2, hv2, -, -⟩ := slice_of_owns HE2.out
          obtain ⟨ln, hln⟩ : ∃ x, (l ++ [((c, vp, vf, vm) : ClP)]).length = x := ⟨_, rfl⟩
          rw [hln] at hv2
          subst hv2
          clear hln
          clear hown hgrow hnew hos HEBS
          refine hK.out _ _ ?_ (fun hHeld2 => ?_)
          · exact HQ.out
          clear hK K
          try simp only [Act.put, List.setIfInBounds_toArray, List.set_cons_zero, List.set_cons_succ]
          clear hHeld
          have hHeld := hHeld2
          clear hHeld2
          clear HQ
          refine wpAnyH_ready (rs := [6]) (by kernel_rfl) (by simp) ?_
          refine AllReadyH.cons (by simp only [List.getElem?_toArray, List.getElem?_cons_succ, List.getElem?_cons_zero]; rfl) (fun K hK => ?_) (AllReadyH.nil)
          go_simp
          have CB := Lib.hid (CB2.out _ _ (HO1.out.trans hHeld.2 (fun _ h _ => h)) (cls_more HE2.out HML.out HOK.out HOKC.out hHeld.2))
          refine CB.out.mono ?_
          rintro e w2 ⟨ho2, hcase⟩
          obtain ⟨p2, b2, rfl, hr2⟩ := resB_of hcase
          have HR2 := Lib.hid hr2
          have HQ := Lib.hid (keepC hHeld ho2)
          clear hcase hr2 ho2 CB
          go_wp2_with fail
          refine hK.out _ _ ?_ (fun hHeld2 => ?_)
          · exact HQ.out
          clear hK K
          try simp only [Act.put, List.setIfInBounds_toArray, List.set_cons_zero, List.set_cons_succ]
          clear hHeld
          have hHeld := hHeld2
          clear hHeld2
          refine wpAnyH_take (i := 7) (v := ?_) (by simp only [List.getElem?_toArray, List.getElem?_cons_succ, List.getElem?_cons_zero]; rfl) (by kernel_rfl) (by kernel_rfl) (by kernel_rfl) (by exact fun _ _ _ h => h) (Or.inl ⟨by rfl, ?_⟩) (by assumption) ?_
          rotate_left 1
          · (intro w hSw; (try dsimp only at hSw); go_simp; try with_reducible rfl)
          try simp only [Act.put, List.setIfInBounds_toArray, List.set_cons_zero, List.set_cons_succ]
          refine wpAnyH_take (i := 8) (v := ?_) (by simp only [List.getElem?_toArray, List.getElem?_cons_succ, List.getElem?_cons_zero]; rfl) (by kernel_rfl) (by kernel_rfl) (by kernel_rfl) (by exact fun _ _ _ h => h) (Or.inl ⟨by rfl, ?_⟩) (by assumption) ?_
          rotate_left 1
          · (intro w hSw; (try dsimp only at hSw); go_simp; try with_reducible rfl)
          try simp only [Act.put, List.setIfInBounds_toArray, List.set_cons_zero, List.set_cons_succ]
          refine wpAnyH_take (i := 9) (v := ?_) (by simp only [List.getElem?_toArray, List.getElem?_cons_succ, List.getElem?_cons_zero]; rfl) (by kernel_rfl) (by kernel_rfl) (by kernel_rfl) (by exact fun _ _ _ h => h) (Or.inl ⟨by rfl, ?_⟩) (by assumption) ?_
          rotate_left 1
          · (intro w hSw; (try dsimp only at hSw); go_simp; try with_reducible rfl)
          try simp only [Act.put, List.setIfInBounds_toArray, List.set_cons_zero, List.set_cons_succ]
          refine wpAnyH_take (i := 10) (v := ?_) (by simp only [List.getElem?_toArray, List.getElem?_cons_succ, List.getElem?_cons_zero]; rfl) (by kernel_rfl) (by kernel_rfl) (by kernel_rfl) (by exact fun _ _ _ h => h) (Or.inl ⟨by rfl, ?_⟩) (by assumption) ?_
          rotate_left 1
          · (intro w hSw; (try dsimp only at hSw); go_simp; try with_reducible rfl)
          try simp only [Act.put, List.setIfInBounds_toArray, List.set_cons_zero, List.set_cons_succ]
          refine wpAnyH_take (i := 11) (v := ?_) (by simp only [List.getElem?_toArray, List.getElem?_cons_succ, List.getElem?_cons_zero]; rfl) (by kernel_rfl) (by kernel_rfl) (by kernel_rfl) (by exact fun _ _ _ h => h) (Or.inl ⟨by rfl, ?_⟩) (by assumption) ?_
          rotate_left 1
          · (intro w hSw; (try dsimp only at hSw); go_simp; try with_reducible rfl)
          try simp only [Act.put, List.setIfInBounds_toArray, List.set_cons_zero, List.set_cons_succ]
          refine wpAnyH_done (by kernel_rfl) ?_ _
          have HOF := Lib.hid hHeld
          clear hHeld HQ
          go_wp2_with fail
          go_meet
          exact ⟨b2, rfl, HR2.out, HOF.out⟩
        · go_simp
          have HLM0 := Lib.hid (show EB < we.heap.size from (RowG.ge HE.out EB rfl).2)
          have hoe := (Only.refl (fun _ => False) we).alloc (.cells #[vp, .int .i64 c.this, .int .i64 c.super, vf, vm] 77)
          have HQ := Lib.hid (keepC hHeld hoe)
          have HB0 := Lib.hid (heap_alloc_new we (.cells #[vp, .int .i64 c.this, .int .i64 c.super, vf, vm] 77))
          have HE0 := Lib.hid (RowG.only HE.out hoe (fun _ _ h => h))
          clear hoe
          refine hK.out _ _ ?_ (fun hHeld2 => ?_)
          · exact HQ.out
          clear hK K
          try simp only [Act.put, List.setIfInBounds_toArray, List.set_cons_zero, List.set_cons_succ]
          clear hHeld
          have hHeld := hHeld2
          clear hHeld2
          clear HQ
          obtain ⟨MB, hMB⟩ : ∃ x, we.heap.size = x := ⟨_, rfl⟩
          obtain ⟨wb, hwb⟩ : ∃ x, we.alloc (.cells #[vp, .int .i64 c.this, .int .i64 c.super, vf, vm] 77) = x := ⟨_, rfl⟩
          have HB := Lib.hid (show wb.heap[MB]? = some (.cells #[vp, .int .i64 c.this, .int .i64 c.super, vf, vm] 77 (0, 0)) from by rw [← hMB, ← hwb]; exact HB0.out)
          have HSB := Lib.hid (show we.heap.size ≤ wb.heap.size by rw [← hwb, alloc_sz9]; omega)
          have HE2 := Lib.hid (show RowG 77 5 cellsCl wb EB _ _ from by rw [← hwb]; exact HE0.out)
          clear HE HE0
          have HE := HE2
          clear HE2
          have HLM := Lib.hid (show EB < MB from by rw [← hMB]; exact HLM0.out)
          rw [hwb] at hHeld ⊢
          rw [hMB]
          clear HB0 hMB hwb
          have HBE := Lib.hid (show EB < MB from HLM.out)
          refine wpAnyH_ready (rs := [2]) (by kernel_rfl) (by simp) ?_
          refine AllReadyH.cons (by simp only [List.getElem?_toArray, List.getElem?_cons_succ, List.getElem?_cons_zero]; rfl) (fun K hK => ?_) (AllReadyH.nil)
          have HEBS := Lib.hid (show EB ≤ wb.heap.size from Nat.le_of_lt (RowG.ge HE.out EB rfl).2)
          refine step_append_src rfl (.tmp 18) (.tmp 19) 22 rfl 77 i0 (.agg #[.slice none 0 0, .int .i64 0, .int .i64 0, .slice none 0 0, .slice none 0 0]) 5 88 Tryz.underlying22 hi hz0 hz1 hz2 rfl (by decide) EB (.slice (some ⟨EB, 0, none⟩) 0 0) 0 [] rfl (by exact HE.out) (by exact HEBS.out) (.slice av cs.length cv) l.length (l.flatMap cellsCl) rfl (by exact HSRC.out.only hHeld.2) (by exact HM1.out.1) (by exact HM1.out.2) ?_
          intro v1 wa hown hgrow hnew
          have hos := only_grownT hgrow
          have HQ := Lib.hid (keepG hHeld hos (fun j hj hl => by have := HEB.out; have : EB = j := Option.some.inj hj; omega) (by intro hj; have := HEB.out; have := HNBL1.out; have : EB = NB := Option.some.inj hj; omega))
          have HE1 := Lib.hid (show RowG 77 5 cellsCl wa EB v1 l from by unfold RowG; simpa using hown)
          have HB2 := Lib.hid (hos.heap HB.out (fun hj => by have := HBE.out; have : EB = MB := Option.some.inj hj; omega))
          clear HB
          have HB := HB2
          clear HB2
          obtain ⟨a1, c1, rfl, -, -⟩ := slice_of_owns HE1.out
          have HSZ := Lib.hid (show EB ≤ wa.heap.size from Nat.le_trans HEBS.out hos.size)
          clear hown hgrow hnew hos HE HEBS
          refine hK.out _ _ ?_ (fun hHeld2 => ?_)
          · exact HQ.out
          clear hK K
          try simp only [Act.put, List.setIfInBounds_toArray, List.set_cons_zero, List.set_cons_succ]
          clear hHeld
          have hHeld := hHeld2
          clear hHeld2
          clear HQ
          have HEL := HSZ
          refine wpAnyH_ready (rs := [5]) (by kernel_rfl) (by simp) ?_
          refine AllReadyH.cons (by simp only [List.getElem?_toArray, List.getElem?_cons_succ, List.getElem?_cons_zero]; rfl) (fun K hK => ?_) (AllReadyH.nil)
          have HEBS := Lib.hid (show EB ≤ wa.heap.size from HEL.out)
          refine step_append_src rfl (.tmp 20) (.tmp 22) 22 rfl 77 i0 (.agg #[.slice none 0 0, .int .i64 0, .int .i64 0, .slice none 0 0, .slice none 0 0]) 5 88 Tryz.underlying22 hi hz0 hz1 hz2 rfl (by decide) EB (.slice a1 l.length c1) l.length (l.flatMap cellsCl) rfl (by exact HE1.out) (by exact HEBS.out) (.slice (some ⟨MB, 0, none⟩) 1 1) 1 (cellsCl (c, vp, vf, vm)) rfl (by exact Src.blkCl (c, vp, vf, vm) HONE.out HB.out) (by exact HM2.out.1) (by exact HM2.out.2) ?_
          intro v2 wz hown hgrow hnew
          have hos := only_grownT hgrow
          have HQ := Lib.hid (keepG hHeld hos (fun j hj hl => by have := HEB.out; have := (RowG.ge HE1.out j hj).1; omega) (by intro hj; have := HEB.out; have := HNBL1.out; have := (RowG.ge HE1.out _ hj).1; omega))
          have HE2 := Lib.hid (show RowG 77 5 cellsCl wz EB v2 (l ++ [(c, vp, vf, vm)]) from RowG.more hown)
          obtain ⟨a2, c2, hv2, -, -⟩ := slice_of_owns HE2.out
          obtain ⟨ln, hln⟩ : ∃ x, (l ++ [((c, vp, vf, vm) : ClP)]).length = x := ⟨_, rfl⟩
          rw [hln] at hv2
          subst hv2
          clear hln
          clear hown hgrow hnew hos HEBS
          refine hK.out _ _ ?_ (fun hHeld2 => ?_)
          · exact HQ.out
          clear hK K
          try simp only [Act.put, List.setIfInBounds_toArray, List.set_cons_zero, List.set_cons_succ]
          clear hHeld
          have hHeld := hHeld2
          clear hHeld2
          clear HQ
          refine wpAnyH_ready (rs := [6]) (by kernel_rfl) (by simp) ?_
          refine AllReadyH.cons (by simp only [List.getElem?_toArray, List.getElem?_cons_succ, List.getElem?_cons_zero]; rfl) (fun K hK => ?_) (AllReadyH.nil)
          go_simp
          have CB := Lib.hid (CB2.out _ _ (HO1.out.trans hHeld.2 (fun _ h _ => h)) (cls_more HE2.out HML.out HOK.out HOKC.out hHeld.2))
          refine CB.out.mono ?_
          rintro e w2 ⟨ho2, hcase⟩
          obtain ⟨p2, b2, rfl, hr2⟩ := resB_of hcase
          have HR2 := Lib.hid hr2
          have HQ := Lib.hid (keepC hHeld ho2)
          clear hcase hr2 ho2 CB
          go_wp2_with fail
          refine hK.out _ _ ?_ (fun hHeld2 => ?_)
          · exact HQ.out
          clear hK K
          try simp only [Act.put, List.setIfInBounds_toArray, List.set_cons_zero, List.set_cons_succ]
          clear hHeld
          have hHeld := hHeld2
          clear hHeld2
          refine wpAnyH_take (i := 7) (v := ?_) (by simp only [List.getElem?_toArray, List.getElem?_cons_succ, List.getElem?_cons_zero]; rfl) (by kernel_rfl) (by kernel_rfl) (by kernel_rfl) (by exact fun _ _ _ h => h) (Or.inl ⟨by rfl, ?_⟩) (by assumption) ?_
          rotate_left 1
          · (intro w hSw; (try dsimp only at hSw); go_simp; try with_reducible rfl)
          try simp only [Act.put, List.setIfInBounds_toArray, List.set_cons_zero, List.set_cons_succ]
          refine wpAnyH_take (i := 8) (v := ?_) (by simp only [List.getElem?_toArray, List.getElem?_cons_succ, List.getElem?_cons_zero]; rfl) (by kernel_rfl) (by kernel_rfl) (by kernel_rfl) (by exact fun _ _ _ h => h) (Or.inl ⟨by rfl, ?_⟩) (by assumption) ?_
          rotate_left 1
          · (intro w hSw; (try dsimp only at hSw); go_simp; try with_reducible rfl)
          try simp only [Act.put, List.setIfInBounds_toArray, List.set_cons_zero, List.set_cons_succ]
          refine wpAnyH_take (i := 9) (v := ?_) (by simp only [List.getElem?_toArray, List.getElem?_cons_succ, List.getElem?_cons_zero]; rfl) (by kernel_rfl) (by kernel_rfl) (by kernel_rfl) (by exact fun _ _ _ h => h) (Or.inl ⟨by rfl, ?_⟩) (by assumption) ?_
          rotate_left 1
          · (intro w hSw; (try dsimp only at hSw); go_simp; try with_reducible rfl)
          try simp only [Act.put, List.setIfInBounds_toArray, List.set_cons_zero, List.set_cons_succ]
          refine wpAnyH_take (i := 10) (v := ?_) (by simp only [List.getElem?_toArray, List.getElem?_cons_succ, List.getElem?_cons_zero]; rfl) (by kernel_rfl) (by kernel_rfl) (by kernel_rfl) (by exact fun _ _ _ h => h) (Or.inl ⟨by rfl, ?_⟩) (by assumption) ?_
          rotate_left 1
          · (intro w hSw; (try dsimp only at hSw); go_simp; try with_reducible rfl)
          try simp only [Act.put, List.setIfInBounds_toArray, List.set_cons_zero, List.set_cons_succ]
          refine wpAnyH_take (i := 11) (v := ?_) (by simp only [List.getElem?_toArray, List.getElem?_cons_succ, List.getElem?_cons_zero]; rfl) (by kernel_rfl) (by kernel_rfl) (by kernel_rfl) (by exact fun _ _ _ h => h) (Or.inl ⟨by rfl, ?_⟩) (by assumption) ?_
          rotate_left 1
          · (intro w hSw; (try dsimp only at hSw); go_simp; try with_reducible rfl)
          try simp only [Act.put, List.setIfInBounds_toArray, List.set_cons_zero, List.set_cons_succ]
          refine wpAnyH_done (by kernel_rfl) ?_ _
          have HOF := Lib.hid hHeld
          clear hHeld HQ
          go_wp2_with fail
          go_meet
          exact ⟨b2, rfl, HR2.out, HOF.out⟩
      · go_simp
        have hoe := (Only.refl (fun _ => False) (w1.drewN 1)).alloc (.cells #[vp, .int .i64 c.this, .int .i64 c.super, vf, vm] 77)
        have HQ := Lib.hid (keepC hHeld hoe)
        have HB0 := Lib.hid (heap_alloc_new (w1.drewN 1) (.cells #[vp, .int .i64 c.this, .int .i64 c.super, vf, vm] 77))
        clear hoe
        refine hK.out _ _ ?_ (fun hHeld2 => ?_)
        · exact HQ.out
        clear hK K
        try simp only [Act.put, List.setIfInBounds_toArray, List.set_cons_zero, List.set_cons_succ]
        clear hHeld
        have hHeld := hHeld2
        clear hHeld2
        clear HQ
        obtain ⟨MB, hMB⟩ : ∃ x, w1.heap.size = x := ⟨_, rfl⟩
        obtain ⟨wb, hwb⟩ : ∃ x, (w1.alloc (.cells #[vp, .int .i64 c.this, .int .i64 c.super, vf, vm] 77)).drew = x := ⟨_, rfl⟩
        have HB := Lib.hid (show wb.heap[MB]? = some (.cells #[vp, .int .i64 c.this, .int .i64 c.super, vf, vm] 77 (0, 0)) from by rw [← hMB, ← hwb]; exact HB0.out)
        rw [hwb] at hHeld ⊢
        rw [hMB]
        clear HB0 hMB hwb
        refine wpAnyH_ready (rs := [0]) (by kernel_rfl) (by simp) ?_
        refine AllReadyH.cons (by simp only [List.getElem?_toArray, List.getElem?_cons_succ, List.getElem?_cons_zero]; rfl) (fun K hK => ?_) (AllReadyH.nil)
        go_simp
        have HLM0 := Lib.hid (heap_lt HB.out)
        have hoe := (Only.refl (fun _ => False) wb).alloc (.cells #[] 77)
        have HQ := Lib.hid (keepC hHeld hoe)
        have HE0 := Lib.hid (show RowG 77 5 cellsCl (wb.alloc (.cells #[] 77)) wb.heap.size (.slice (some ⟨wb.heap.size, 0, none⟩) 0 0) [] from World.ownsRow_made wb #[] 0 (Nat.le_refl _) (Nat.zero_le _) rfl)
        have HEB0 := Lib.hid hHeld.2.size
        have HB := Lib.hid (hoe.heap HB.out (fun h => h))
        clear hoe
        refine hK.out _ _ ?_ (fun hHeld2 => ?_)
        · exact HQ.out
        clear hK K
        try simp only [Act.put, List.setIfInBounds_toArray, List.set_cons_zero, List.set_cons_succ]
        clear hHeld
        have hHeld := hHeld2
        clear hHeld2
        clear HQ
        obtain ⟨EB, hEB⟩ : ∃ x, wb.heap.size = x := ⟨_, rfl⟩
        obtain ⟨we, hwe⟩ : ∃ x, wb.alloc (.cells #[] 77) = x := ⟨_, rfl⟩
        have HE := Lib.hid (show RowG 77 5 cellsCl we EB (.slice (some ⟨EB, 0, none⟩) 0 0) [] from by rw [← hEB, ← hwe]; exact HE0.out)
        have HEB := Lib.hid (show w1.heap.size ≤ EB by rw [← hEB]; exact HEB0.out)
        have HB2 := Lib.hid (show we.heap[MB]? = some (.cells #[vp, .int .i64 c.this, .int .i64 c.super, vf, vm] 77 (0, 0)) from by rw [← hwe]; exact HB.out)
        clear HB
        have HB := HB2
        clear HB2
        have HLM := Lib.hid (show EB ≠ MB from by have := HLM0.out; omega)
        rw [hwe] at hHeld ⊢
        rw [hEB]
        clear HE0 HEB0 hEB hwe
        have HBE := Lib.hid (show EB ≠ MB from HLM.out)
        refine wpAnyH_ready (rs := [2]) (by kernel_rfl) (by simp) ?_
        refine AllReadyH.cons (by simp only [List.getElem?_toArray, List.getElem?_cons_succ, List.getElem?_cons_zero]; rfl) (fun K hK => ?_) (AllReadyH.nil)
        have HEBS := Lib.hid (show EB ≤ we.heap.size from Nat.le_of_lt (RowG.ge HE.out EB rfl).2)
        refine step_append_src rfl (.tmp 18) (.tmp 19) 22 rfl 77 i0 (.agg #[.slice none 0 0, .int .i64 0, .int .i64 0, .slice none 0 0, .slice none 0 0]) 5 88 Tryz.underlying22 hi hz0 hz1 hz2 rfl (by decide) EB (.slice (some ⟨EB, 0, none⟩) 0 0) 0 [] rfl (by exact HE.out) (by exact HEBS.out) (.slice av cs.length cv) l.length (l.flatMap cellsCl) rfl (by exact HSRC.out.only hHeld.2) (by exact HM1.out.1) (by exact HM1.out.2) ?_
        intro v1 wa hown hgrow hnew
        have hos := only_grownT hgrow
        have HQ := Lib.hid (keepG hHeld hos (fun j hj hl => by have := HEB.out; have : EB = j := Option.some.inj hj; omega) (by intro hj; have := HEB.out; have := HNBL1.out; have : EB = NB := Option.some.inj hj; omega))
        have HE1 := Lib.hid (show RowG 77 5 cellsCl wa EB v1 l from by unfold RowG; simpa using hown)
        have HB2 := Lib.hid (hos.heap HB.out (fun hj => by have := HBE.out; have : EB = MB := Option.some.inj hj; omega))
        clear HB
        have HB := HB2
        clear HB2
        obtain ⟨a1, c1, rfl, -, -⟩ := slice_of_owns HE1.out
        have HSZ := Lib.hid (show EB ≤ wa.heap.size from Nat.le_trans HEBS.out hos.size)
        clear hown hgrow hnew hos HE HEBS
        refine hK.out _ _ ?_ (fun hHeld2 => ?_)
        · exact HQ.out
        clear hK K
        try simp only [Act.put, List.setIfInBounds_toArray, List.set_cons_zero, List.set_cons_succ]
        clear hHeld
        have hHeld := hHeld2
        clear hHeld2
        clear HQ
        have HEL := HSZ
        refine wpAnyH_ready (rs := [5]) (by kernel_rfl) (by simp) ?_
        refine AllReadyH.cons (by simp only [List.getElem?_toArray, List.getElem?_cons_succ, List.getElem?_cons_zero]; rfl) (fun K hK => ?_) (AllReadyH.nil)
        have HEBS := Lib.hid (show EB ≤ wa.heap.size from HEL.out)
        refine step_append_src rfl (.tmp 20) (.tmp 22) 22 rfl 77 i0 (.agg #[.slice none 0 0, .int .i64 0, .int .i64 0, .slice none 0 0, .slice none 0 0]) 5 88 Tryz.underlying22 hi hz0 hz1 hz2 rfl (by decide) EB (.slice a1 l.length c1) l.length (l.flatMap cellsCl) rfl (by exact HE1.out) (by exact HEBS.out) (.slice (some ⟨MB, 0, none⟩) 1 1) 1 (cellsCl (c, vp, vf, vm)) rfl (by exact Src.blkCl (c, vp, vf, vm) HONE.out HB.out) (by exact HM2.out.1) (by exact HM2.out.2) ?_
        intro v2 wz hown hgrow hnew
        have hos := only_grownT hgrow
        have HQ := Lib.hid (keepG hHeld hos (fun j hj hl => by have := HEB.out; have := (RowG.ge HE1.out j hj).1; omega) (by intro hj; have := HEB.out; have := HNBL1.out; have := (RowG.ge HE1.out _ hj).1; omega))
        have HE2 := Lib.hid (show RowG 77 5 cellsCl wz EB v2 (l ++ [(c, vp, vf, vm)]) from RowG.more hown)
        obtain ⟨a2, c2, hv2, -, -⟩ := slice_of_owns HE2.out
        obtain ⟨ln, hln⟩ : ∃ x, (l ++ [((c, vp, vf, vm) : ClP)]).length = x := ⟨_, rfl⟩
        rw [hln] at hv2
        subst hv2
        clear hln
        clear hown hgrow hnew hos HEBS
        refine hK.out _ _ ?_ (fun hHeld2 => ?_)
        · exact HQ.out
        clear hK K
        try simp only [Act.put, List.setIfInBounds_toArray, List.set_cons_zero, List.set_cons_succ]
        clear hHeld
        have hHeld := hHeld2
        clear hHeld2
        clear HQ
        refine wpAnyH_ready (rs := [6]) (by kernel_rfl) (by simp) ?_
        refine AllReadyH.cons (by simp only [List.getElem?_toArray, List.getElem?_cons_succ, List.getElem?_cons_zero]; rfl) (fun K hK => ?_) (AllReadyH.nil)
        go_simp
        have CB := Lib.hid (CB2.out _ _ (HO1.out.trans hHeld.2 (fun _ h _ => h)) (cls_more HE2.out HML.out HOK.out HOKC.out hHeld.2))
        refine CB.out.mono ?_
        rintro e w2 ⟨ho2, hcase⟩
        obtain ⟨p2, b2, rfl, hr2⟩ := resB_of hcase
        have HR2 := Lib.hid hr2
        have HQ := Lib.hid (keepC hHeld ho2)
        clear hcase hr2 ho2 CB
        go_wp2_with fail
        refine hK.out _ _ ?_ (fun hHeld2 => ?_)
        · exact HQ.out
        clear hK K
        try simp only [Act.put, List.setIfInBounds_toArray, List.set_cons_zero, List.set_cons_succ]
        clear hHeld
        have hHeld := hHeld2
        clear hHeld2
        refine wpAnyH_take (i := 7) (v := ?_) (by simp only [List.getElem?_toArray, List.getElem?_cons_succ, List.getElem?_cons_zero]; rfl) (by kernel_rfl) (by kernel_rfl) (by kernel_rfl) (by exact fun _ _ _ h => h) (Or.inl ⟨by rfl, ?_⟩) (by assumption) ?_
        rotate_left 1
        · (intro w hSw; (try dsimp only at hSw); go_simp; try with_reducible rfl)
        try simp only [Act.put, List.setIfInBounds_toArray, List.set_cons_zero, List.set_cons_succ]
        refine wpAnyH_take (i := 8) (v := ?_) (by simp only [List.getElem?_toArray, List.getElem?_cons_succ, List.getElem?_cons_zero]; rfl) (by kernel_rfl) (by kernel_rfl) (by kernel_rfl) (by exact fun _ _ _ h => h) (Or.inl ⟨by rfl, ?_⟩) (by assumption) ?_
        rotate_left 1
        · (intro w hSw; (try dsimp only at hSw); go_simp; try with_reducible rfl)
        try simp only [Act.put, List.setIfInBounds_toArray, List.set_cons_zero, List.set_cons_succ]
        refine wpAnyH_take (i := 9) (v := ?_) (by simp only [List.getElem?_toArray, List.getElem?_cons_succ, List.getElem?_cons_zero]; rfl) (by kernel_rfl) (by kernel_rfl) (by kernel_rfl) (by exact fun _ _ _ h => h) (Or.inl ⟨by rfl, ?_⟩) (by assumption) ?_
        rotate_left 1
        · (intro w hSw; (try dsimp only at hSw); go_simp; try with_reducible rfl)
        try simp only [Act.put, List.setIfInBounds_toArray, List.set_cons_zero, List.set_cons_succ]
        refine wpAnyH_take (i := 10) (v := ?_) (by simp only [List.getElem?_toArray, List.getElem?_cons_succ, List.getElem?_cons_zero]; rfl) (by kernel_rfl) (by kernel_rfl) (by kernel_rfl) (by exact fun _ _ _ h => h) (Or.inl ⟨by rfl, ?_⟩) (by assumption) ?_
        rotate_left 1
        · (intro w hSw; (try dsimp only at hSw); go_simp; try with_reducible rfl)
        try simp only [Act.put, List.setIfInBounds_toArray, List.set_cons_zero, List.set_cons_succ]
        refine wpAnyH_take (i := 11) (v := ?_) (by simp only [List.getElem?_toArray, List.getElem?_cons_succ, List.getElem?_cons_zero]; rfl) (by kernel_rfl) (by kernel_rfl) (by kernel_rfl) (by exact fun _ _ _ h => h) (Or.inl ⟨by rfl, ?_⟩) (by assumption) ?_
        rotate_left 1
        · (intro w hSw; (try dsimp only at hSw); go_simp; try with_reducible rfl)
        try simp only [Act.put, List.setIfInBounds_toArray, List.set_cons_zero, List.set_cons_succ]
        refine wpAnyH_done (by kernel_rfl) ?_ _
        have HOF := Lib.hid hHeld
        clear hHeld HQ
        go_wp2_with fail
        go_meet
        exact ⟨b2, rfl, HR2.out, HOF.out⟩
  case rest =>
    obtain ⟨b2, rfl, hr2, ⟨⟨-, x0, x1, x2, x3, x4⟩, hoc⟩⟩ := hcut
    have HOZ := Lib.hid (HOB.out.trans (HO1.out.trans hoc (fun _ h _ => h)) (fun _ h _ => h))
    rcases HR1.out with ⟨hb1, rfl⟩ | ⟨rfl, hz1, pb1, fv1, cl1, rfl, hm1⟩
    · have hb1b : (b1 != 0) = true := by simpa using hb1
      rcases hr2 with ⟨hb2, rfl⟩ | ⟨rfl, hz2, pb2, fv2, cl2, rfl, hm2⟩
      · have hb2b : (b2 != 0) = true := by simpa using hb2
        clear hb1 hb2 hoc HR1
        go_wp2_with (fail)
        refine (CA.out _).mono ?_
        rintro e w2 ⟨rfl, ho2⟩
        have HOF := Lib.hid (HOZ.out.trans ho2 (fun _ h _ => h))
        clear ho2
        go_wp2
        go_ret
        exact ⟨rfl, HOF.out⟩
      · clear hb1 hoc HR1 hm2
        go_wp2_with (fail)
        refine (CA.out _).mono ?_
        rintro e w2 ⟨rfl, ho2⟩
        have HOF := Lib.hid (HOZ.out.trans ho2 (fun _ h _ => h))
        clear ho2
        go_wp2
        go_ret
        exact ⟨rfl, HOF.out⟩
    · rcases hr2 with ⟨hb2, rfl⟩ | ⟨rfl, hz2, pb2, fv2, cl2, rfl, hm2⟩
      · have hb2b : (b2 != 0) = true := by simpa using hb2
        clear hb2 hoc HR1 hm1
        go_wp2_with (fail)
        refine (CA.out _).mono ?_
        rintro e w2 ⟨rfl, ho2⟩
        have HOF := Lib.hid (HOZ.out.trans ho2 (fun _ h _ => h))
        clear ho2
        go_wp2
        go_ret
        exact ⟨rfl, HOF.out⟩
      · obtain ⟨hl16, h0, hR⟩ := build_zero hz1
        obtain ⟨hl16', h0', hR'⟩ := build_zero hz2
        have HG := Lib.hid (right_good h0 hl16 hR)
        have HG2 := Lib.hid (right_good h0' hl16' hR')
        have HP := Lib.hid (hm1.prog.only hoc)
        have HQ := Lib.hid hm2.prog
        have HUP := Lib.hid (fun j (h1 : 0 < j) (hj : j < (kindsZ cs).length) => by
          obtain ⟨i, hi, he, _⟩ := sub_super h0 hl16 hR hj h1
          exact (show ∃ i : Nat, i < (kindsZ cs).length ∧ superZ (kindsZ cs) (j : Int) = (i : Int) from ⟨i, hi, he⟩))
        have H13 := Lib.hid hR.main.1
        have HKN := Lib.hid (show (loadZ c cs.length).name = (classZ c.pool c.this).1 from rfl)
        have HPL := Lib.hid (HOKC.out.only hoc).1
        rw [kindsZ_snoc] at HG2 HQ
        have HX := Lib.hid (show wc.cell? ⟨NB, 0, none⟩ = some vp ∧ wc.cell? ⟨NB, 1, none⟩ = some (.int .i64 c.this) ∧ wc.cell? ⟨NB, 2, none⟩ = some (.int .i64 c.super) ∧ wc.cell? ⟨NB, 3, none⟩ = some vf ∧ wc.cell? ⟨NB, 4, none⟩ = some vm from ⟨x0, x1, x2, x3, x4⟩)
        clear hm1 hm2 hz1 hz2 h0 h0' hR hR' hl16 hl16' hoc HR1 HT HE HCB HML HOK HSRC HOKC HONE HM1 HM2 CB2 HKB HN88
        generalize kindsZ cs = ks at *
        generalize loadZ c cs.length = k at *
        have MS := Lib.hid (fun j (hj : j < ks.length) => more_super HG.out HG2.out HUP.out hj)
        have ML := Lib.hid (fun j (hj : j < ks.length) => more_slotsAny HG.out HG2.out HUP.out hj)
        have MF := Lib.hid (more_find HG.out HG2.out)
        have MM := Lib.hid (more_main HG.out HG2.out H13.out)
        have MT := Lib.hid (more_statics ks k)
        have hkl := HG.out.small.1
        have h13 := H13.out
        have hl2 : (ks ++ [k]).length = ks.length + 1 := by simp
        have CL1 := Lib.hid (fun W (hW : Only (fun _ => False) wc W) => pLen (HP.out.only hW) (by omega))
        have CL2 := Lib.hid (fun W (hW : Only (fun _ => False) wc W) => pLen (HQ.out.only hW) (by omega))
        have CNm := Lib.hid (fun W (hW : Only (fun _ => False) wc W) => clsName vp vf vm c.pool c.this c.super W (HPL.out.only hW (fun _ _ h => h)))
        rw [← HKN.out] at CNm
        have CFd := Lib.hid (fun W (hW : Only (fun _ => False) wc W) => pFind (HQ.out.only hW) (by omega) k.name (by have := (HG2.out.fine k (by simp)).name; unfold maxLen; omega))
        rw [MF.out] at CFd
        have CM1 := Lib.hid (fun W (hW : Only (fun _ => False) wc W) => pMain (HP.out.only hW) HG.out)
        have CM2 := Lib.hid (fun W (hW : Only (fun _ => False) wc W) => pMain (HQ.out.only hW) HG2.out)
        rw [MM.out] at CM2
        have hl2z : (((ks ++ [k]).length : Nat) : Int) = (ks.length : Int) + 1 := by omega
        rw [hl2z] at CL2
        have nm := neq_mem (mainZ ks)
        have g1 := guard_mem
        have hw1 : wrap64 ((ks.length : Int) + 1) = (ks.length : Int) + 1 := (show wrap64 ((ks.length : Int) + 1) = (ks.length : Int) + 1 from IntWalk.wrap64_in _ ⟨by omega, by omega⟩)
        have e1 : ((ks.length : Int) + 1 != (ks.length : Int) + 1) = false := by simp
        have e2 : ((ks.length : Int) != (ks.length : Int)) = false := by simp
        unfold valM at CM1 CM2
        generalize mainZ ks = mz at *
        have HOC := Lib.hid (Only.refl (fun _ => False) wc)
        clear hl2 hl2z
        go_wp2_with (fail)
        refine (CL2.out _ (Only.refl _ _)).mono ?_
        rintro e w2 ⟨rfl, hww⟩
        subst hww
        go_wp2_with (fail)
        refine (CL1.out _ (Only.refl _ _)).mono ?_
        rintro e w2 ⟨rfl, hww⟩
        subst hww
        go_wp2_with (fail)
        refine (CNm.out _ (Only.refl _ _)).mono ?_
        rintro e w3 ⟨rfl, ho3⟩
        have HO3 := Lib.hid ho3
        clear ho3 x0 x1 x2 x3 x4
        go_wp2_with (fail)
        refine (CFd.out _ HO3.out).mono ?_
        rintro e w4 ⟨rfl, hww⟩
        subst hww
        go_wp2_with (fail)
        refine (CL1.out _ HO3.out).mono ?_
        rintro e w4 ⟨rfl, hww⟩
        subst hww
        go_wp2_with (fail)
        refine (CM1.out _ HO3.out).mono ?_
        rintro e w4 ⟨rfl, ho4⟩
        have HO4 := Lib.hid (HO3.out.trans ho4 (fun _ h _ => h))
        clear ho4
        go_wp2_with (fail)
        refine (CM2.out _ HO4.out).mono ?_
        rintro e w5 ⟨rfl, ho5⟩
        have HO5 := Lib.hid (HO4.out.trans ho5 (fun _ h _ => h))
        clear ho5
        go_wp2
        go_loopw [9] (fun iv wr => ∃ n : Nat, iv = .int .i64 n ∧ n ≤ ks.length ∧ Hid (Only (fun _ => False) wc wr)) (fun iv _ => ks.length - (Lib.intOf iv).toNat)
        case atStart => exact ⟨0, rfl, Nat.zero_le _, HO5⟩
        case round =>
          obtain ⟨n, rfl, hn, HON⟩ := hrel
          by_cases hlt : n < ks.length
          · have hnz : (n : Int) < (ks.length : Int) := by omega
            have hn0 : (0 : Int) ≤ (n : Int) := by omega
            have CN1 := Lib.hid (fun W (hW : Only (fun _ => False) wc W) => pName (HP.out.only hW) (by omega) (n : Int))
            have CN2 := Lib.hid (fun W (hW : Only (fun _ => False) wc W) => pName (HQ.out.only hW) (by simp) (n : Int))
            have hne : nameZ (ks ++ [k]) (n : Int) = nameZ ks (n : Int) := by unfold nameZ; rw [Int.toNat_natCast, getK_app hlt]
            rw [hne] at CN2
            have CS1 := Lib.hid (fun W (hW : Only (fun _ => False) wc W) => pSuper (HP.out.only hW) (by omega) HG.out.root HG.out.fine (n : Int))
            have CS2 := Lib.hid (fun W (hW : Only (fun _ => False) wc W) => pSuper (HQ.out.only hW) (by simp) HG2.out.root HG2.out.fine (n : Int))
            rw [MS.out n hlt] at CS2
            have CT1 := Lib.hid (fun W (hW : Only (fun _ => False) wc W) => pSlotsAny HG.out _ (n : Int) rfl W (HP.out.only hW))
            have CT2 := Lib.hid (fun W (hW : Only (fun _ => False) wc W) => pSlotsAny HG2.out _ (n : Int) rfl W (HQ.out.only hW))
            rw [ML.out n hlt] at CT2
            have HSL := Lib.hid (slotsAny_le HG.out (n : Int))
            generalize slotsAny ks (n : Int) = ts at *
            generalize nameZ ks (n : Int) = nn at *
            generalize superZ ks (n : Int) = su at *
            have e4 : (su != su) = false := by simp
            clear hne
            go_wp2_with (fail)
            refine (CL1.out _ HON.out).mono ?_
            rintro e w6 ⟨rfl, hww⟩
            subst hww
            go_wp2_with (fail)
            refine (CN1.out _ HON.out).mono ?_
            rintro e w6 ⟨rfl, ho6⟩
            have HO6 := Lib.hid (HON.out.trans ho6 (fun _ h _ => h))
            clear ho6
            go_wp2_with (fail)
            refine (CN2.out _ HO6.out).mono ?_
            rintro e w7 ⟨rfl, ho7⟩
            have HO7 := Lib.hid (HO6.out.trans ho7 (fun _ h _ => h))
            clear ho7
            go_wp2_with (fail)
            refine (CS1.out _ HO7.out).mono ?_
            rintro e w8 ⟨rfl, ho8⟩
            have HO8 := Lib.hid (HO7.out.trans ho8 (fun _ h _ => h))
            clear ho8
            go_wp2_with (fail)
            refine (CS2.out _ HO8.out).mono ?_
            rintro e w9 ⟨rfl, ho9⟩
            have HO9 := Lib.hid (HO8.out.trans ho9 (fun _ h _ => h))
            clear ho9
            go_wp2_with (fail)
            refine (CT1.out _ HO9.out).mono ?_
            rintro e wa ⟨ra, rfl, hra, hoa⟩
            obtain ⟨aa, ca, rfl, -, -, -, -⟩ := id hra.types
            have HTA := Lib.hid hra.types
            have HOA := Lib.hid (HO9.out.trans hoa (fun _ h _ => h))
            clear hra hoa
            go_wp2_with (fail)
            refine (CT2.out _ HOA.out).mono ?_
            rintro e wb ⟨rb, rfl, hrb, hob⟩
            obtain ⟨ab, cb, rfl, -, -, -, -⟩ := id hrb.types
            have CE := Lib.hid (sameTy9 (.slice aa ts.length ca) (.slice ab ts.length cb) ts wb (HTA.out.only hob) hrb.types (by have := HSL.out; omega))
            have HOB2 := Lib.hid (HOA.out.trans hob (fun _ h _ => h))
            clear hrb hob
            go_wp2_with (fail)
            refine CE.out.mono ?_
            rintro e wd ⟨rfl, hod⟩
            have HOD := Lib.hid (HOB2.out.trans hod (fun _ h _ => h))
            clear hod
            go_wp2
            go_roundw
            case rel => exact ⟨n + 1, by go_num, by omega, HOD⟩
            case measure => simp [Lib.intOf]; omega
          · obtain rfl : n = ks.length := by omega
            have CA1 := Lib.hid (fun W (hW : Only (fun _ => False) wc W) => pStatics (HP.out.only hW) HG.out)
            have CA2 := Lib.hid (fun W (hW : Only (fun _ => False) wc W) => pStatics (HQ.out.only hW) HG2.out)
            rw [show (ks ++ [k]).length = ks.length + 1 by simp, MT.out] at CA2
            have HSL := Lib.hid (show (staticsZ ks ks.length).length ≤ 4096 by rw [staticsZ_len (Nat.le_refl _)]; have := staticsN_le HG.out.small (Nat.le_refl ks.length); omega)
            generalize staticsZ ks ks.length = ts at *
            generalize typesZ 8 k.fields = us at *
            obtain ⟨lt, hlt2⟩ : ∃ x, ts.length = x := ⟨_, rfl⟩
            obtain ⟨la, hla⟩ : ∃ x, (ts ++ us).length = x := ⟨_, rfl⟩
            have hle : (lt : Int) ≤ (la : Int) := by rw [← hlt2, ← hla, List.length_append]; omega
            have hle0 : (0 : Int) ≤ (lt : Int) := by omega
            have HLT := Lib.hid hlt2
            have HLA := Lib.hid hla
            obtain ⟨wo, hwo⟩ : ∃ x, x = wr := ⟨_, rfl⟩
            subst hwo
            clear hlt2 hla hlt hn
            go_wp2_with (fail)
            refine (CL1.out _ HON.out).mono ?_
            rintro e w6 ⟨rfl, hww⟩
            subst hww
            go_wp2_with (fail)
            refine (CA1.out _ HON.out).mono ?_
            rintro e wa ⟨ra, rfl, hra, hoa⟩
            obtain ⟨aa, ca, rfl, -, -, -, -⟩ := id hra.types
            have HTA := Lib.hid hra.types
            rw [HLT.out] at HTA ⊢
            have HOA := Lib.hid (HON.out.trans hoa (fun _ h _ => h))
            clear hra hoa
            go_wp2_with (fail)
            refine (CA2.out _ HOA.out).mono ?_
            rintro e wb ⟨rb, rfl, hrb, hob⟩
            obtain ⟨ab, cb, rfl, m1, m2, -, -⟩ := id hrb.types
            have HTB := Lib.hid (types_take hrb.types)
            rw [HLA.out] at m1 ⊢
            rw [HLT.out] at HTB
            have hcap : (lt : Int) ≤ (cb : Int) := by omega
            have CE := Lib.hid (sameTy9 (.slice ab lt cb) (.slice aa lt ca) ts wb (by rw [← HLT.out]; rw [← HLT.out] at HTB; exact HTB.out) (by rw [← HLT.out]; rw [← HLT.out] at HTA; exact HTA.out.only hob) (by have := HSL.out; omega))
            have HOB2 := Lib.hid (HOA.out.trans hob (fun _ h _ => h))
            clear hrb hob
            go_wp2_with (fail)
            refine CE.out.mono ?_
            rintro e wd ⟨rfl, hod⟩
            have HOF := Lib.hid (HOZ.out.trans (HOB2.out.trans hod (fun _ h _ => h)) (fun _ h _ => h))
            clear hod
            go_wp2
            go_ret
            exact ⟨rfl, HOF.out⟩
end Go.Proofs.YtgdgffnaknkbcaaGreatDoor
