/- The program reads a class file's pool. No condition beyond a reader that was made. -/
import Derived.Test.YtodhdiccfobcfaaGreatDoorClsF
namespace Go.Proofs.YtodhdiccfobcfaaGreatDoor
open Go.RowKit
set_option linter.unusedVariables false
set_option linter.unusedSimpArgs false

theorem Bytes.behind_if {w : World} {g o cap : Nat} {zs : List Int} (hb : Bytes w (.slice (some ⟨g, o, none⟩) zs.length cap) zs) (k : Nat) (hk : k ≤ zs.length) :
    Bytes w (.slice (if cap = k then (some ⟨g, o, none⟩ : Option Addr) else some (⟨g, o + k, none⟩ : Addr)) (zs.length - k) (cap - k)) (zs.drop k) := by
  by_cases h : cap = k
  · rw [if_pos h]
    obtain ⟨_, _, e, h1, h2, h3, h4, _⟩ := hb
    injection e with _ _ e3
    have hl : zs.length = k := by omega
    have hd : zs.drop k = [] := List.drop_eq_nil_of_le (by omega)
    rw [hd, show zs.length - k = 0 by omega, show cap - k = 0 by omega]
    exact ⟨_, 0, rfl, Nat.le_refl _, by unfold maxLen; omega, (fun e => by cases e), Bytish.nil, fun x hx j hj => by simp at hj⟩
  · rw [if_neg h]
    exact Bytes.behind hb k hk

set_option maxHeartbeats 4000000 in
set_option maxRecDepth 100000 in
theorem readConstants (b rb : Nat) (sv : Value) (zs : List Int) (k : Nat) (w : World) (g o L cap : Nat) (fv mv : Value) (hsl : ∀ s, fv ≠ .string s ∧ mv ≠ .string s)
    (h : KS w w b rb sv zs k (.slice none 0 0) [] #[.pointer (some ⟨rb, 0, none⟩), .slice (some ⟨g, o, none⟩) L cap, .slice none 0 0, .int .i64 0, .int .i64 0, fv, mv]) (ne : Ap2 b rb sv (.slice none 0 0) w.heap.size)
    (hw : Bytes w (.slice (some ⟨g, o, none⟩) L cap) zs) (hT : Tabs w) (hg : ErrV w) :
    Calls Tryz.prog 58 #[.pointer (some ⟨b, 0, none⟩)] w (ClsPoolTo w b rb sv zs k (.slice (some ⟨g, o, none⟩) L cap) fv mv) := by
  have hL : L = zs.length := by obtain ⟨_, _, e, _⟩ := hw; injection e
  subst hL
  have hz := h.rd.byt
  have hkle := h.rd.le
  have hlim := h.rd.lim
  obtain ⟨ao', cap', e0_, hcl, hcm, _, _, _⟩ := id hw
  injection e0_ with e1_ _ e3_
  subst e1_ e3_
  unfold maxLen at hcm
  have hwb := Bytes.behind_if hw k hkle
  have q0 := cell_blk h.blk 0
  have q1 := cell_blk h.blk 1
  simp at q0 q1
  have hkz : (k : Int) ≤ (zs.length : Int) := by omega
  have HW := Lib.hid hwb
  have HR := Lib.hid h.rd
  have HZ := Lib.hid hz
  have HT := Lib.hid hT
  have HG := Lib.hid hg
  have NE := Lib.hid ne
  have H0 := Lib.hid h
  have HS := Lib.hid hsl
  clear h ne hw hT hg hz hwb hsl
  go_enter Tryz.func58, Tryz.ntmps58
  go_wp2_with (fail)
  refine wp_region_held_drew (S := fun wc => (wc.cell? ⟨b, 0, none⟩ = some (.pointer (some ⟨rb, 0, none⟩)) ∧ wc.cell? ⟨b, 1, none⟩ = some (.slice (some ⟨g, o, none⟩) zs.length cap)) ∧ Only (fun _ => False) w wc) (by kernel_rfl) ⟨⟨q0, q1⟩, (Only.refl _ _).drew⟩ (fun hHeld => ?_)
  refine wpAnyH_take (i := 0) (v := ?_) (by simp only [List.getElem?_toArray, List.getElem?_cons_succ, List.getElem?_cons_zero]; rfl) (by kernel_rfl) (by kernel_rfl) (by kernel_rfl) (by exact fun _ _ _ h => h) (Or.inl ⟨by rfl, ?_⟩) (by assumption) ?_
  rotate_left 1
  · (intro w hSw; (try dsimp only at hSw); go_simp; try with_reducible rfl)
  try simp only [Act.put, List.setIfInBounds_toArray, List.set_cons_zero, List.set_cons_succ]
  refine wpAnyH_take (i := 1) (v := ?_) (by simp only [List.getElem?_toArray, List.getElem?_cons_succ, List.getElem?_cons_zero]; rfl) (by kernel_rfl) (by kernel_rfl) (by kernel_rfl) (by exact fun _ _ _ h => h) (Or.inl ⟨by rfl, ?_⟩) (by assumption) ?_
  rotate_left 1
  · (intro w hSw; (try dsimp only at hSw); go_simp; try with_reducible rfl)
  try simp only [Act.put, List.setIfInBounds_toArray, List.set_cons_zero, List.set_cons_succ]
  refine wpAnyH_take (i := 2) (v := ?_) (by simp only [List.getElem?_toArray, List.getElem?_cons_succ, List.getElem?_cons_zero]; rfl) (by kernel_rfl) (by kernel_rfl) (by kernel_rfl) (by exact fun _ _ _ h => h) (Or.inl ⟨by rfl, ?_⟩) (by assumption) ?_
  rotate_left 1
  · (intro w hSw; (try dsimp only at hSw); go_simp; try with_reducible rfl)
  try simp only [Act.put, List.setIfInBounds_toArray, List.set_cons_zero, List.set_cons_succ]
  refine wpAnyH_take (i := 3) (v := ?_) (by simp only [List.getElem?_toArray, List.getElem?_cons_succ, List.getElem?_cons_zero]; rfl) (by kernel_rfl) (by kernel_rfl) (by kernel_rfl) (by exact fun _ _ _ h => h) (Or.inl ⟨by rfl, ?_⟩) (by assumption) ?_
  rotate_left 1
  · (intro w hSw; (try dsimp only at hSw); go_simp; try with_reducible rfl)
  try simp only [Act.put, List.setIfInBounds_toArray, List.set_cons_zero, List.set_cons_succ]
  refine wpAnyH_take (i := 4) (v := ?_) (by simp only [List.getElem?_toArray, List.getElem?_cons_succ, List.getElem?_cons_zero]; rfl) (by kernel_rfl) (by kernel_rfl) (by kernel_rfl) (by exact fun _ _ _ h => h) (Or.inl ⟨by rfl, ?_⟩) (by assumption) ?_
  rotate_left 1
  · (intro w hSw; (try dsimp only at hSw); go_simp; try with_reducible rfl)
  try simp only [Act.put, List.setIfInBounds_toArray, List.set_cons_zero, List.set_cons_succ]
  refine wpAnyH_take (i := 5) (v := ?_) (by simp only [List.getElem?_toArray, List.getElem?_cons_succ, List.getElem?_cons_zero]; rfl) (by kernel_rfl) (by kernel_rfl) (by kernel_rfl) (by exact fun _ _ _ h => h) (Or.inl ⟨by rfl, ?_⟩) (by assumption) ?_
  rotate_left 1
  · (intro w hSw; (try dsimp only at hSw); go_simp; try with_reducible rfl)
  try simp only [Act.put, List.setIfInBounds_toArray, List.set_cons_zero, List.set_cons_succ]
  refine wpAnyH_take (i := 6) (v := ?_) (by simp only [List.getElem?_toArray, List.getElem?_cons_succ, List.getElem?_cons_zero]; rfl) (by kernel_rfl) (by kernel_rfl) (by kernel_rfl) (by exact fun _ _ _ h => h) (Or.inl ⟨by rfl, ?_⟩) (by assumption) ?_
  rotate_left 1
  · (intro w hSw; (try dsimp only at hSw); go_simp; try with_reducible rfl)
  try simp only [Act.put, List.setIfInBounds_toArray, List.set_cons_zero, List.set_cons_succ]
  refine wpAnyH_take (i := 7) (v := ?_) (by simp only [List.getElem?_toArray, List.getElem?_cons_succ, List.getElem?_cons_zero]; rfl) (by kernel_rfl) (by kernel_rfl) (by kernel_rfl) (by exact fun _ _ _ h => h) (Or.inl ⟨by rfl, ?_⟩) (by assumption) ?_
  rotate_left 1
  · (intro w hSw; (try dsimp only at hSw); go_simp; try with_reducible rfl)
  try simp only [Act.put, List.setIfInBounds_toArray, List.set_cons_zero, List.set_cons_succ]
  refine wpAnyH_ready (rs := [8]) (by kernel_rfl) (by simp) ?_
  refine AllReadyH.cons (by simp only [List.getElem?_toArray, List.getElem?_cons_succ, List.getElem?_cons_zero]; rfl) (fun K hK => ?_) AllReadyH.nil
  go_simp
  refine (rdAtM rb sv zs k _ (HR.out.only hHeld.2 (fun h => h) (fun _ _ h => h))).mono ?_; rintro e w1 ⟨rfl, rfl⟩
  go_wp2_with fail
  refine hK.out _ _ ?_ (fun hHeld2 => ?_)
  · exact hHeld
  clear hK K
  try simp only [Act.put, List.setIfInBounds_toArray, List.set_cons_zero, List.set_cons_succ]
  clear hHeld
  have hHeld := hHeld2
  clear hHeld2
  refine wpAnyH_take (i := 9) (v := ?_) (by simp only [List.getElem?_toArray, List.getElem?_cons_succ, List.getElem?_cons_zero]; rfl) (by kernel_rfl) (by kernel_rfl) (by kernel_rfl) (by exact fun _ _ _ h => h) (Or.inl ⟨by rfl, ?_⟩) (by assumption) ?_
  rotate_left 1
  · (intro w hSw; (try dsimp only at hSw); go_simp; try with_reducible rfl)
  try simp only [Act.put, List.setIfInBounds_toArray, List.set_cons_zero, List.set_cons_succ]
  refine wpAnyH_ready (rs := [10]) (by kernel_rfl) (by simp) ?_
  refine AllReadyH.cons (by simp only [List.getElem?_toArray, List.getElem?_cons_succ, List.getElem?_cons_zero]; rfl) (fun K hK => ?_) AllReadyH.nil
  go_simp
  refine (progDecode _ (zs.drop k) _ (HW.out.only hHeld.2 (fun _ _ _ h => h)) (by rw [List.length_drop]; omega) (HT.out.only hHeld.2 (fun h => h) (fun h => h)) (HG.out.only hHeld.2 (fun h => h))).mono ?_; rintro e w2 ⟨pv, cs', n, e0, rfl, hd, hod, hp, hf⟩; have HD := Lib.hid hd; have HP := Lib.hid hp; have HF := Lib.hid hf; have HQ := Lib.hid (And.intro (And.intro (hod.cell hHeld.1.1 (fun h => h)) (hod.cell hHeld.1.2 (fun h => h))) (hHeld.2.trans hod (fun _ h => h.elim))); clear hd hod hp hf; clear HW; generalize (if cap = k then (some (⟨g, o, none⟩ : Addr)) else some ⟨g, o + k, none⟩) = vs
  go_wp2_with fail
  refine hK.out _ _ ?_ (fun hHeld2 => ?_)
  · exact HQ.out
  clear hK K
  try simp only [Act.put, List.setIfInBounds_toArray, List.set_cons_zero, List.set_cons_succ]
  clear hHeld
  have hHeld := hHeld2
  clear hHeld2
  refine wpAnyH_take (i := 11) (v := ?_) (by simp only [List.getElem?_toArray, List.getElem?_cons_succ, List.getElem?_cons_zero]; rfl) (by kernel_rfl) (by kernel_rfl) (by kernel_rfl) (by exact fun _ _ _ h => h) (Or.inl ⟨by rfl, ?_⟩) (by assumption) ?_
  rotate_left 1
  · (intro w hSw; (try dsimp only at hSw); go_simp; try with_reducible rfl)
  try simp only [Act.put, List.setIfInBounds_toArray, List.set_cons_zero, List.set_cons_succ]
  refine wpAnyH_take (i := 12) (v := ?_) (by simp only [List.getElem?_toArray, List.getElem?_cons_succ, List.getElem?_cons_zero]; rfl) (by kernel_rfl) (by kernel_rfl) (by kernel_rfl) (by exact fun _ _ _ h => h) (Or.inl ⟨by rfl, ?_⟩) (by assumption) ?_
  rotate_left 1
  · (intro w hSw; (try dsimp only at hSw); go_simp; try with_reducible rfl)
  try simp only [Act.put, List.setIfInBounds_toArray, List.set_cons_zero, List.set_cons_succ]
  refine wpAnyH_take (i := 13) (v := ?_) (by simp only [List.getElem?_toArray, List.getElem?_cons_succ, List.getElem?_cons_zero]; rfl) (by kernel_rfl) (by kernel_rfl) (by kernel_rfl) (by exact fun _ _ _ h => h) (Or.inl ⟨by rfl, ?_⟩) (by assumption) ?_
  rotate_left 1
  · (intro w hSw; (try dsimp only at hSw); go_simp; try with_reducible rfl)
  try simp only [Act.put, List.setIfInBounds_toArray, List.set_cons_zero, List.set_cons_succ]
  refine wpAnyH_take (i := 14) (v := ?_) (by simp only [List.getElem?_toArray, List.getElem?_cons_succ, List.getElem?_cons_zero]; rfl) (by kernel_rfl) (by kernel_rfl) (by kernel_rfl) (by exact fun _ _ _ h => h) (Or.inl ⟨by rfl, ?_⟩) (by assumption) ?_
  rotate_left 1
  · (intro w hSw; (try dsimp only at hSw); go_simp; try with_reducible rfl)
  try simp only [Act.put, List.setIfInBounds_toArray, List.set_cons_zero, List.set_cons_succ]
  refine wpAnyH_take (i := 15) (v := ?_) (by simp only [List.getElem?_toArray, List.getElem?_cons_succ, List.getElem?_cons_zero]; rfl) (by kernel_rfl) (by kernel_rfl) (by kernel_rfl) (by exact fun _ _ _ h => h) (Or.inl ⟨by rfl, ?_⟩) (by assumption) ?_
  rotate_left 1
  · (intro w hSw; (try dsimp only at hSw); go_simp; try with_reducible rfl)
  try simp only [Act.put, List.setIfInBounds_toArray, List.set_cons_zero, List.set_cons_succ]
  refine wpAnyH_take (i := 16) (v := ?_) (by simp only [List.getElem?_toArray, List.getElem?_cons_succ, List.getElem?_cons_zero]; rfl) (by kernel_rfl) (by kernel_rfl) (by kernel_rfl) (by exact fun _ _ _ h => h) (Or.inl ⟨by rfl, ?_⟩) (by assumption) ?_
  rotate_left 1
  · (intro w hSw; (try dsimp only at hSw); go_simp; try with_reducible rfl)
  try simp only [Act.put, List.setIfInBounds_toArray, List.set_cons_zero, List.set_cons_succ]
  refine wpAnyH_take (i := 17) (v := ?_) (by simp only [List.getElem?_toArray, List.getElem?_cons_succ, List.getElem?_cons_zero]; rfl) (by kernel_rfl) (by kernel_rfl) (by kernel_rfl) (by exact fun _ _ _ h => h) (Or.inl ⟨by rfl, ?_⟩) (by assumption) ?_
  rotate_left 1
  · (intro w hSw; (try dsimp only at hSw); go_simp; try with_reducible rfl)
  try simp only [Act.put, List.setIfInBounds_toArray, List.set_cons_zero, List.set_cons_succ]
  refine wpAnyH_done (by kernel_rfl) ?_ _
  have HO2 := Lib.hid hHeld.2
  clear hHeld q0 q1 HQ
  by_cases h0 : e0 = 0
  rotate_left
  · have HNE := Lib.hid h0
    clear h0
    go_wp2_with (fail)
    refine (refuseN e0 HNE.out _).mono ?_
    rintro e w3 ⟨rfl, rfl⟩
    exact ⟨rfl, pv, cs', n, e0, HD.out, .inr ⟨HNE.out, rfl, HO2.out.mono (fun _ h _ => h.elim)⟩⟩
  subst h0
  obtain ⟨hchk, hpos, m, rfl, hm1, hm2⟩ := HD.out.good (HZ.out.drop k)
  rw [List.length_drop] at hm1
  obtain ⟨ap, cp, rfl, _, _, _, _, _⟩ := id HP.out
  have h2 := H0.out.idle HO2.out
  have q2 := cell_blk h2.blk 2
  have f2 := frozen_blk h2.blk 2
  simp at q2
  have hap : ∀ j, (Value.slice ap cs'.length cp).ownBlock = some j → ¬ j = rb ∧ ¬ j = b ∧ j < w2.heap.size := fun j hj => by
    obtain ⟨hlt, o', s', hc⟩ := Pool.apart HP.out hpos hj
    refine ⟨fun e => ?_, fun e => ?_, hlt⟩
    · subst e
      refine no_string h2.rd.blk (fun u hu s => ?_) hc
      obtain ⟨ao, cc, e, _⟩ := slice_of_owns h2.rd.own
      simp only [List.mem_cons, List.mem_nil_iff, or_false] at hu
      rcases hu with rfl | rfl | rfl
      · rw [e]; simp
      · simp
      · simp
    · subst e
      refine no_string h2.blk (fun u hu s => ?_) hc
      simp only [List.mem_cons, List.mem_nil_iff, or_false] at hu
      rcases hu with rfl | rfl | rfl | rfl | rfl | rfl | rfl
      · simp
      · simp
      · simp
      · simp
      · simp
      · exact (HS.out s).1
      · exact (HS.out s).2
  have hne2 : Ap2 b rb sv (.slice ap cs'.length cp) w2.heap.size :=
    ⟨NE.out.brb, fun j hj => (hap j hj).1, fun j hj => (hap j hj).2.1, NE.out.sb, Nat.lt_of_lt_of_le NE.out.rbn HO2.out.size, Nat.lt_of_lt_of_le NE.out.bn HO2.out.size, fun j hj => (hap j hj).2.2, fun j hj => Nat.lt_of_lt_of_le (NE.out.sn j hj) HO2.out.size⟩
  have h3 : KS w w2 b rb sv zs k (.slice ap cs'.length cp) cs' _ := ⟨h2.rd, h2.blk, HP.out, h2.only⟩
  have H3 := Lib.hid (show KS w (w2.setCell ⟨b, 2, none⟩ (.slice ap cs'.length cp)) b rb sv zs k (.slice ap cs'.length cp) cs' #[.pointer (some ⟨rb, 0, none⟩), .slice (some ⟨g, o, none⟩) zs.length cap, .slice ap cs'.length cp, .int .i64 0, .int .i64 0, fv, mv] from h3.store hne2 2 _)
  have NE3 := Lib.hid (hne2.mono (show w2.heap.size ≤ (w2.setCell ⟨b, 2, none⟩ (.slice ap cs'.length cp)).heap.size from ((Only.refl (fun j => j = b) w2).setCell (p := ⟨b, 2, none⟩) (fun _ => rfl) _).size))
  have HCH := Lib.hid hchk
  obtain ⟨N, hN⟩ : ∃ N, cs'.length = N := ⟨_, rfl⟩
  rw [hN] at H3 NE3
  rw [hN]
  have KM := Lib.hid (show k + m ≤ zs.length by omega)
  have hm3 : m ≤ 1048576 := by omega
  clear h2 h3 hap hne2 hchk hpos hm1 hm2 hN HO2 NE
  go_wp2_with (fail)
  refine (refuse0 _).mono ?_
  rintro e w3 ⟨rfl, rfl⟩
  go_wp2_with (fail)
  clear q2 f2
  generalize w2.setCell ⟨b, 2, none⟩ (.slice ap N cp) = w3 at *
  refine (readList b rb sv zs k w3 m hm3 H3.out.rd (cell_blk H3.out.blk 0)).mono ?_
  rintro e w4 ⟨⟨ys, k4, vl, hx, rfl, hr, hrow, hby⟩ | ⟨x, hx, rfl⟩, ho⟩
  rotate_left
  · exact absurd hx (by unfold bytesP; rw [if_pos KM.out]; simp)
  have hk4 : k4 = k + m := by
    unfold bytesP at hx
    rw [if_pos KM.out] at hx
    injection hx with hx
    injection hx with _ hx
    exact hx.symm
  subst hk4
  obtain ⟨al, cl, rfl, _, _⟩ := slice_of_owns hrow
  have H4 := Lib.hid (H3.out.read NE3.out ho hr)
  have NE4 := Lib.hid (NE3.out.mono ho.size)
  clear hx hr hrow hby ho H3 NE3
  go_wp2
  go_end0
  exact ⟨_, cs', m, 0, HD.out, .inl ⟨rfl, rfl, H4.out, NE4.out, HCH.out, HF.out⟩⟩
end Go.Proofs.YtodhdiccfobcfaaGreatDoor
