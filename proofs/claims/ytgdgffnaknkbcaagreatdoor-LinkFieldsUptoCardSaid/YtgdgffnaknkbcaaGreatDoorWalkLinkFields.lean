/- The walk of the law LinkFields. Condition: the argument reads as a list of classes. -/
import Derived.Test.YtgdgffnaknkbcaaGreatDoorMiLpTcLnkV
import Derived.Test.YtgdgffnaknkbcaaGreatDoorMiLnkYLnkS
import Derived.Test.YtgdgffnaknkbcaaGreatDoorMiLnkFKndT
import Derived.Test.YtgdgffnaknkbcaaGreatDoorMiLnkCLnkE
import Derived.Test.YtgdgffnaknkbcaaGreatDoorMiKndMLnkI
namespace Go.Proofs.YtgdgffnaknkbcaaGreatDoor
open Go.RowKit
set_option linter.unusedVariables false
set_option linter.unusedSimpArgs false
theorem info_bool9 : (Tryz.prog.info? 4).map (fun i => (i.zero, i.size, i.bytes)) = some (some (.bool false), 1, 1) := by kernel_rfl
theorem made_seen (n : Nat) : madeCells #[Value.bool false] n = seenA n 0 := by
 apply Array.ext'
 rw [toList_madeCells_one]
 unfold seenA
 simp
theorem run_mkB (n : Nat) (hn : n ≤ 4096) (w : World) : (Instr.makeSlice 52 (.int .i64 (n : Int)) (.int .i64 (n : Int))).run Tryz.prog w = .ok (.slice (some ⟨w.heap.size, 0, none⟩) n n) (w.alloc (.cells (seenA n 0) 4)) := by
 obtain ⟨i0, hi, hz0, hz1, hz2⟩ := info_parts info_bool9
 have := run_make (P := Tryz.prog) w 52 4 i0 _ Tryz.underlying52 hi hz0 .i64 .i64 (n : Int) (n : Int) (by omega) (Int.le_refl _) (by rw [hz2]; omega) (by omega)
 simp only [Int.toNat_natCast, hz1, Nat.mul_one] at this
 rw [← made_seen]
 exact this
theorem cell_lt9 {w : World} {b i : Nat} {v : Value} (h : w.cell? ⟨b, i, none⟩ = some v) : b < w.heap.size := by
 rcases Nat.lt_or_ge b w.heap.size with h1 | h1
 ·exact h1
 ·have : w.heap[b]? = none := by simpa using h1
  simp [World.cell?, this] at h
theorem seen_set {W : World} {NS L m : Nat} (h : W.heap[NS]? = some (.cells (seenA L m) 4 (0, 0))) (hm : m < L) : (W.setCell ⟨NS, m, none⟩ (.bool true)).heap[NS]? = some (.cells (seenA L (m + 1)) 4 (0, 0)) := by
 have := heap_setCell_at (i := m) (u := .bool true) h
 rw [seenA_set hm] at this
 exact this
section
variable {w2 W W' : World} {qb b o n XB NS L mm cap : Nat} {ks : List KindV} {kn nm ds : ByteArray}
theorem keepFH (h : (fun wc => (wc.cell? ⟨qb, 0, none⟩ = some (.slice (some ⟨b, o, none⟩) ks.length cap) ∧ wc.cell? ⟨b, o + n * 5, none⟩ = some (.string kn) ∧ wc.cell? ⟨XB, 0, none⟩ = some (.string nm) ∧ wc.cell? ⟨XB, 1, none⟩ = some (.string ds) ∧ wc.heap[NS]? = some (.cells (seenA L mm) 4 (0, 0))) ∧ Only (fun _ => False) w2 wc) W) (ho : Only (fun _ => False) W W') : (fun wc => (wc.cell? ⟨qb, 0, none⟩ = some (.slice (some ⟨b, o, none⟩) ks.length cap) ∧ wc.cell? ⟨b, o + n * 5, none⟩ = some (.string kn) ∧ wc.cell? ⟨XB, 0, none⟩ = some (.string nm) ∧ wc.cell? ⟨XB, 1, none⟩ = some (.string ds) ∧ wc.heap[NS]? = some (.cells (seenA L mm) 4 (0, 0))) ∧ Only (fun _ => False) w2 wc) W' :=
 ⟨⟨ho.cell h.1.1 (fun h => h), ho.cell h.1.2.1 (fun h => h), ho.cell h.1.2.2.1 (fun h => h), ho.cell h.1.2.2.2.1 (fun h => h), ho.heap h.1.2.2.2.2 (fun h => h)⟩, h.2.trans ho (fun _ h _ => h)⟩
theorem keepFX {X : Nat} (h : (fun wc => (wc.cell? ⟨qb, 0, none⟩ = some (.slice (some ⟨b, o, none⟩) ks.length cap) ∧ wc.cell? ⟨b, o + n * 5, none⟩ = some (.string kn) ∧ wc.cell? ⟨XB, 0, none⟩ = some (.string nm) ∧ wc.cell? ⟨XB, 1, none⟩ = some (.string ds) ∧ wc.heap[NS]? = some (.cells (seenA L mm) 4 (0, 0))) ∧ Only (fun _ => False) w2 wc) W) (g0 : w2.cell? ⟨qb, 0, none⟩ = some (.slice (some ⟨b, o, none⟩) ks.length cap)) (g1 : w2.cell? ⟨b, o + n * 5, none⟩ = some (.string kn)) (hx : w2.heap.size ≤ X ∧ NS ≠ X ∧ XB ≠ X) (a0 a1 a2 a3 a4 : Value) :
  (fun wc => (wc.cell? ⟨qb, 0, none⟩ = some (.slice (some ⟨b, o, none⟩) ks.length cap) ∧ wc.cell? ⟨b, o + n * 5, none⟩ = some (.string kn) ∧ wc.cell? ⟨XB, 0, none⟩ = some (.string nm) ∧ wc.cell? ⟨XB, 1, none⟩ = some (.string ds) ∧ wc.heap[NS]? = some (.cells (seenA L mm) 4 (0, 0))) ∧ Only (fun _ => False) w2 wc) (((((W.setCell ⟨X, 0, none⟩ a0).setCell ⟨X, 1, none⟩ a1).setCell ⟨X, 2, none⟩ a2).setCell ⟨X, 3, none⟩ a3).setCell ⟨X, 4, none⟩ a4) := by
 have ho := only5T (a0 := a0) (a1 := a1) (a2 := a2) (a3 := a3) (a4 := a4) (Only.refl (fun k => k = X) W) (fun _ => rfl)
 have hon := h.2.trans ho (fun k hk hl => by have := hx.1; omega)
 exact ⟨⟨hon.cell g0 (fun h => h), hon.cell g1 (fun h => h), ho.cell h.1.2.2.1 hx.2.2, ho.cell h.1.2.2.2.1 hx.2.2, ho.heap h.1.2.2.2.2 hx.2.1⟩, hon⟩
end
set_option maxHeartbeats 32000000 in
set_option maxRecDepth 100000 in
theorem walkFields (v : Value) (cs : List ClassV) (w : World) (hc : Classes w v cs) (ht : ∀ c ∈ cs, Texts c.pool) (hT : Tabs w) (hE : ErrV w) :
  Calls Tryz.prog 6 #[v] w fun e w' => e = .returned (.bool true) ∧ Only (fun _ => False) w w' := by
 have CB := Lib.hid (pBuild v cs w hc hT hE)
 have CR := Lib.hid (fun W (hW : Only (fun _ => False) w W) => refBuild v cs W (hc.only hW) ht)
 have CA := Lib.hid awake9
 obtain ⟨av, cv, rfl, -⟩ := id hc.choose_spec.1
 clear hc hT hE ht
 go_enter Tryz.func6, Tryz.ntmps6
 go_wp2_with (fail)
 refine CB.out.mono ?_
 rintro e w1 ⟨ho1, hcase⟩
 have HO1 := Lib.hid ho1
 clear CB
 rcases hcase with ⟨hz, rfl⟩ | ⟨hz, pb, fv, cl, rfl, hm⟩
 ·have hzb : (buildZ cs != 0) = true := by simpa using hz
  have HZ := Lib.hid hz
  clear hz
  go_wp2_with (fail)
  refine (CR.out _ ho1).mono ?_
  rintro e w2 ⟨ho2, hcase⟩
  clear ho1
  rcases hcase with ⟨_, rfl⟩ | ⟨hz2, _⟩
  ·have HO2 := Lib.hid (HO1.out.trans ho2 (fun _ h _ => h))
   generalize buildZ cs = bz at *
   clear ho2
   go_wp2_with (fail)
   refine (CA.out _).mono ?_
   rintro e w3 ⟨rfl, ho3⟩
   have HO3 := Lib.hid (HO2.out.trans ho3 (fun _ h _ => h))
   clear ho3
   go_wp2
   go_ret
   exact ⟨rfl, HO3.out⟩
  ·exact absurd hz2 HZ.out
 ·obtain ⟨hl16, h0, hR⟩ := build_zero hz
  have HG := Lib.hid (right_good h0 hl16 hR)
  have HP := Lib.hid hm.prog
  have HZ := Lib.hid hz
  have HM := Lib.hid (fun j (h1 : 13 ≤ j) (h2 : j < (kindsZ cs).length) => (hR.own j h1 h2).2)
  have HSB := Lib.hid (statics_built cs 13 (Nat.le_refl _))
  have H13 := Lib.hid hR.main.1
  have HDS := Lib.hid (fine_descs h0)
  clear hm hz h0 hR hl16
  go_wp2_with (fail)
  refine (CR.out _ ho1).mono ?_
  rintro e w2 ⟨ho2, hcase⟩
  clear ho1
  rcases hcase with ⟨hz2, _⟩ | ⟨_, qb, rfl, hd⟩
  ·exact absurd HZ.out hz2
  have HO2 := Lib.hid (HO1.out.trans ho2 (fun _ h _ => h))
  have HP2 := Lib.hid (HP.out.only ho2)
  have HD := Lib.hid hd
  clear CR CA HZ HO1 HP
  generalize kindsZ cs = ks at *
  have CT := Lib.hid (fun W (hW : Only (fun _ => False) w2 W) => refStatics qb ks cs W (HD.out.only hW) HG.out.small HDS.out)
  have CST := Lib.hid (fun W (hW : Only (fun _ => False) w2 W) => pStatics (HP2.out.only hW) HG.out)
  have hL4 : (staticsZ ks ks.length).length ≤ 4096 := by rw [staticsZ_len (Nat.le_refl _)]; have := staticsN_le HG.out.small (Nat.le_refl ks.length); have := HG.out.small.1; omega
  have HLS := Lib.hid (staticsZ_len (ks := ks) (Nat.le_refl ks.length))
  obtain ⟨L, hLL⟩ : ∃ x, (staticsZ ks ks.length).length = x := ⟨_, rfl⟩
  have HLL := Lib.hid hLL
  rw [hLL] at hL4 HLS
  have mkB := run_mkB L hL4
  obtain ⟨vl, vi, g0, g1', hk, -⟩ := id hd
  obtain ⟨ao, cap, rfl, p1, p2⟩ := hk.len
  have HK := Lib.hid hk
  have HG0 := Lib.hid g0
  have h13 := H13.out
  have hk64 := HG.out.small.1
  clear ho2 hd g1' hk g0 hLL
  go_wp2_with (fail)
  refine (CT.out _ (Only.refl _ _)).mono ?_
  rintro e w3 ⟨r3, rfl, hr3, ho3⟩
  obtain ⟨a3, c3, rfl, -, -, -, -⟩ := id hr3.types
  rw [HLL.out]
  have hnN := heap_alloc_new w3 (.cells (seenA L 0) 4)
  have hoN := ho3.alloc (.cells (seenA L 0) 4)
  obtain ⟨NS, hNS⟩ : ∃ x, w3.heap.size = x := ⟨_, rfl⟩
  obtain ⟨w4, hw4⟩ : ∃ x, w3.alloc (.cells (seenA L 0) 4) = x := ⟨_, rfl⟩
  rw [hw4] at hnN hoN
  rw [hNS] at hnN
  have HN := Lib.hid hnN
  have HON := Lib.hid hoN
  have HNS := Lib.hid hNS
  have HW4 := Lib.hid hw4
  have HNG := Lib.hid (show w2.heap.size ≤ NS by rw [← hNS]; exact ho3.size)
  clear hr3 ho3 hnN hoN hNS hw4 CT
  go_upto_region 7 with fail
  rw [HNS.out, HW4.out]
  go_wp2
  go_loopw [7, 9, 10, 11, 12, 13, 14, 15, 16] (fun mv nv _ _ _ _ _ _ _ wr => ∃ n : Nat, nv = .int .i64 n ∧ 13 ≤ n ∧ n ≤ ks.length ∧ mv = .int .i64 ((staticsN ks n : Nat) : Int) ∧ Hid (wr.heap[NS]? = some (.cells (seenA L (staticsN ks n)) 4 (0, 0))) ∧ Hid (Only (fun _ => False) w2 wr)) (fun _ nv _ _ _ _ _ _ _ _ => ks.length - (Lib.intOf nv).toNat)
  case atStart => exact ⟨13, rfl, Nat.le_refl _, by omega, by rw [HSB.out]; rfl, Lib.hid (by rw [HSB.out]; exact HN.out), HON⟩
  case round =>
   obtain ⟨n, rfl, hn13, hn, rfl, HNR, HOR⟩ := hrel
   by_cases hlt : n < ks.length
   ·have hnz : (n : Int) < (ks.length : Int) := by omega
    have hn0 : (0 : Int) ≤ (n : Int) := by omega
    obtain ⟨b, o, vf, vm, rfl, y, hf, -⟩ := HK.out.at hlt
    have gA := HG0.out
    have gB := y.c0
    have gC := y.c2
    have qA := HOR.out.cell gA (fun h => h)
    obtain ⟨af, cf, rfl, f1, f2, -, -⟩ := id hf
    have HF := Lib.hid hf
    have HGA := Lib.hid gA
    have HGB := Lib.hid gB
    have HGC := Lib.hid gC
    have hfine := HG.out.fine _ (getD_memK hlt)
    have HFN := Lib.hid hfine
    have hf64 := hfine.fields
    obtain ⟨wo, hwo⟩ : ∃ x, x = wr := ⟨_, rfl⟩
    subst hwo
    clear y hf hfine gA gB gC
    go_wp2
    go_loopw [7, 10, 11, 12, 13, 14, 15, 16] (fun mv iv _ _ _ _ _ _ wr => ∃ i : Nat, iv = .int .i64 i ∧ i ≤ (ks.getD n default).fields.length ∧ mv = .int .i64 ((aheadN ks n i : Nat) : Int) ∧ Hid (wr.heap[NS]? = some (.cells (seenA L (aheadN ks n i)) 4 (0, 0))) ∧ Hid (Only (fun _ => False) w2 wr)) (fun _ iv _ _ _ _ _ _ _ => (ks.getD n default).fields.length - (Lib.intOf iv).toNat)
    case atStart => exact ⟨0, rfl, Nat.zero_le _, by rw [ahead_zero], Lib.hid (by rw [ahead_zero]; exact HNR.out), HOR⟩
    case round =>
     obtain ⟨i, rfl, hi, rfl, HNI, HOI⟩ := hrel
     have qA := HOI.out.cell HGA.out (fun h => h)
     have qB := HOI.out.cell HGB.out (fun h => h)
     have qC := HOI.out.cell HGC.out (fun h => h)
     by_cases hil : i < (ks.getD n default).fields.length
     ·have hiz : (i : Int) < ((ks.getD n default).fields.length : Int) := by omega
      have hi0 : (0 : Int) ≤ (i : Int) := by omega
      have FF := Lib.hid (field_found HG.out HM.out hn13 hlt hil)
      have SS := Lib.hid (fun hf => slot_static HG.out hlt hil hf)
      have SO := Lib.hid (fun hf => slot_own HG.out hlt hil hf)
      have A1 := Lib.hid (fun hf => ahead_yes hil hf)
      have A2 := Lib.hid (fun hf => ahead_no hil hf)
      have A3 := Lib.hid (fun hf => slot_ahead (ks := ks) (n := n) (i := i) hf)
      have hnmz := HFN.out.fnm _ (getD_memM hil)
      obtain ⟨bf, of_, haf, y0, y1, y2⟩ := Sl.at HF.out hil
      subst haf
      have z0 := HOI.out.cell y0 (fun h => h)
      have z1 := HOI.out.cell y1 (fun h => h)
      have z2 := HOI.out.cell y2 (fun h => h)
      clear y0 y1 y2
      have hknz := HFN.out.name
      obtain ⟨fl, hfl⟩ : ∃ x, (ks.getD n default).fields.length = x := ⟨_, rfl⟩
      obtain ⟨m, hm⟩ : ∃ x, (ks.getD n default).fields.getD i default = x := ⟨_, rfl⟩
      obtain ⟨kn, hkn⟩ : ∃ x, (ks.getD n default).name = x := ⟨_, rfl⟩
      rw [hm] at FF SS SO A1 A2 A3 z0 z1 z2 hnmz
      rw [hkn] at FF qB hknz HGB
      rw [hfl] at qC hil hi hiz hf64
      obtain ⟨nm, ds, fg⟩ := m
      simp only at z0 z1 z2 FF SS SO A1 A2 A3 hnmz
      obtain ⟨sl, hsl⟩ : ∃ x, slotAt ks n i = x := ⟨_, rfl⟩
      obtain ⟨mm, hmm⟩ : ∃ x, aheadN ks n i = x := ⟨_, rfl⟩
      obtain ⟨tt, htt⟩ : ∃ x, typO (oneZ8 (nums ds)) = x := ⟨_, rfl⟩
      obtain ⟨er, her⟩ : ∃ x, errO (oneZ8 (nums ds)) = x := ⟨_, rfl⟩
      obtain ⟨sb, hsb⟩ : ∃ x, (fg == 8) = x := ⟨_, rfl⟩
      have htz : typeZ ⟨nm, ds, fg⟩ = tt := htt
      rw [hsl, hsb] at FF
      rw [hsl, htz] at SS SO
      rw [hsl, hmm] at A3
      rw [hmm] at A1 A2 HNI
      have HCASE : Hid ((sb = true ∧ fg = 8 ∧ (staticsZ ks ks.length).getD sl default = tt ∧ sl < (staticsZ ks ks.length).length) ∨ (sb = false ∧ fg ≠ 8 ∧ (slotsAny ks (n : Int)).getD sl default = tt ∧ sl < (slotsAny ks (n : Int)).length)) := Lib.hid (by
       by_cases h8 : fg = 8
       ·exact .inl ⟨by rw [← hsb]; simp [h8], h8, SS.out h8⟩
       ·exact .inr ⟨by rw [← hsb]; simp [h8], h8, SO.out h8⟩)
      have HAH : Hid ((fg = 8 → sl = mm) ∧ (fg = 8 → aheadN ks n (i + 1) = mm + 1) ∧ (fg ≠ 8 → aheadN ks n (i + 1) = mm)) := Lib.hid ⟨A3.out, A1.out, A2.out⟩
      have CF := Lib.hid (fun W (hW : Only (fun _ => False) w2 W) => (pField (HP2.out.only hW) HG.out kn nm ds (by unfold maxLen; omega)).mono (fun e w' h => show e = .returned (.tuple #[.agg #[.int .i64 (n : Int), .int .i64 (i : Int), .string ds, .bool sb, .int .i64 (sl : Int)], .int .i64 0]) ∧ Only (fun _ => False) W w' from ⟨h.1.trans (by rw [field_same, FF.out]; rfl), h.2⟩))
      have CK := Lib.hid (fun W => (progField ds W (by omega)).mono (fun e w' h => show e = .returned (.tuple #[.agg #[.int .i64 tt.k, .string tt.name, .int .i64 tt.dims, .int .i64 tt.elem, .int .i64 tt.at_], .int .i64 er]) ∧ Only (fun _ => False) W w' from ⟨h.1.trans (by rw [← htt, ← her]; rfl), h.2⟩))
      have CSL := Lib.hid (fun W (hW : Only (fun _ => False) w2 W) => pSlotsAny HG.out _ (n : Int) rfl W (HP2.out.only hW))
      have HSLE := Lib.hid (slotsAny_le HG.out (n : Int))
      have GQ : Hid (w2.cell? ⟨qb, 0, none⟩ = some (.slice (some ⟨b, o, none⟩) ks.length cap) ∧ w2.cell? ⟨b, o + n * 5, none⟩ = some (.string kn)) := Lib.hid ⟨HGA.out, HGB.out⟩
      have hoX := (Only.refl (fun _ => False) wr).alloc (.cells #[.string nm, .string ds, .int .i64 fg] 61)
      have hnX := heap_alloc_new wr (.cells #[.string nm, .string ds, .int .i64 fg] 61)
      obtain ⟨XB, hXB⟩ : ∃ x, wr.heap.size = x := ⟨_, rfl⟩
      obtain ⟨wx, hwx⟩ : ∃ x, wr.alloc (.cells #[.string nm, .string ds, .int .i64 fg] 61) = x := ⟨_, rfl⟩
      rw [hwx] at hoX hnX
      rw [hXB] at hnX
      have HS0 := Lib.hid (show (fun wc => (wc.cell? ⟨qb, 0, none⟩ = some (.slice (some ⟨b, o, none⟩) ks.length cap) ∧ wc.cell? ⟨b, o + n * 5, none⟩ = some (.string kn) ∧ wc.cell? ⟨XB, 0, none⟩ = some (.string nm) ∧ wc.cell? ⟨XB, 1, none⟩ = some (.string ds) ∧ wc.heap[NS]? = some (.cells (seenA L mm) 4 (0, 0))) ∧ Only (fun _ => False) w2 wc) (wx.drewN 1) from ⟨⟨hoX.cell qA (fun h => h), hoX.cell qB (fun h => h), cell_blk hnX 0, cell_blk hnX 1, hoX.heap HNI.out (fun h => h)⟩, (HOI.out.trans hoX (fun _ h _ => h)).drewN 1⟩)
      have HWX := Lib.hid hwx
      have HXB := Lib.hid hXB
      have HMM := Lib.hid hmm
      have HFL := Lib.hid hfl
      have hLL := HLL.out
      have nt := neq_type9 tt
      have gt := guard_type
      have e1 : ((n : Int) != (n : Int)) = false := by simp
      have e2 : ((i : Int) != (i : Int)) = false := by simp
      have e3 : (0 : Int) ≤ (sl : Int) := by omega
      have e4 : ¬ (sl : Int) < 0 := by omega
      have e5 : decide ((sl : Int) < 0) = false := decide_eq_false e4
      clear hoX hnX hXB hwx htt her hsb htz hsl hmm hm hkn hfl FF SS SO A1 A2 A3 hnmz hknz
      go_wp2
      rw [HXB.out, HWX.out]
      refine wp_region_held_drew (S := fun wc => (wc.cell? ⟨qb, 0, none⟩ = some (.slice (some ⟨b, o, none⟩) ks.length cap) ∧ wc.cell? ⟨b, o + n * 5, none⟩ = some (.string kn) ∧ wc.cell? ⟨XB, 0, none⟩ = some (.string nm) ∧ wc.cell? ⟨XB, 1, none⟩ = some (.string ds) ∧ wc.heap[NS]? = some (.cells (seenA L mm) 4 (0, 0))) ∧ Only (fun _ => False) w2 wc) (by kernel_rfl) HS0.out (fun hHeld => ?_)
      refine wpAnyH_take (i := 0) (v := ?_) (by simp only [List.getElem?_toArray, List.getElem?_cons_succ, List.getElem?_cons_zero]; rfl) (by kernel_rfl) (by kernel_rfl) (by kernel_rfl) (by exact fun _ _ _ h => h) (Or.inl ⟨by rfl, ?_⟩) (by assumption) ?_
      rotate_left 1
      ·(intro w hSw; (try dsimp only at hSw); go_simp; try with_reducible rfl)
      try simp only [Act.put, sIB, sC0, sCS]
      refine wpAnyH_take (i := 1) (v := ?_) (by simp only [List.getElem?_toArray, List.getElem?_cons_succ, List.getElem?_cons_zero]; rfl) (by kernel_rfl) (by kernel_rfl) (by kernel_rfl) (by exact fun _ _ _ h => h) (Or.inl ⟨by rfl, ?_⟩) (by assumption) ?_
      rotate_left 1
      ·(intro w hSw; (try dsimp only at hSw); go_simp; try with_reducible rfl)
      try simp only [Act.put, sIB, sC0, sCS]
      refine wpAnyH_take (i := 2) (v := ?_) (by simp only [List.getElem?_toArray, List.getElem?_cons_succ, List.getElem?_cons_zero]; rfl) (by kernel_rfl) (by kernel_rfl) (by kernel_rfl) (by exact fun _ _ _ h => h) (Or.inl ⟨by rfl, ?_⟩) (by assumption) ?_
      rotate_left 1
      ·(intro w hSw; (try dsimp only at hSw); go_simp; try with_reducible rfl)
      try simp only [Act.put, sIB, sC0, sCS]
      refine wpAnyH_take (i := 3) (v := ?_) (by simp only [List.getElem?_toArray, List.getElem?_cons_succ, List.getElem?_cons_zero]; rfl) (by kernel_rfl) (by kernel_rfl) (by kernel_rfl) (by exact fun _ _ _ h => h) (Or.inl ⟨by rfl, ?_⟩) (by assumption) ?_
      rotate_left 1
      ·(intro w hSw; (try dsimp only at hSw); go_simp; try with_reducible rfl)
      try simp only [Act.put, sIB, sC0, sCS]
      refine wpAnyH_take (i := 4) (v := ?_) (by simp only [List.getElem?_toArray, List.getElem?_cons_succ, List.getElem?_cons_zero]; rfl) (by kernel_rfl) (by kernel_rfl) (by kernel_rfl) (by exact fun _ _ _ h => h) (Or.inl ⟨by rfl, ?_⟩) (by assumption) ?_
      rotate_left 1
      ·(intro w hSw; (try dsimp only at hSw); go_simp; try with_reducible rfl)
      try simp only [Act.put, sIB, sC0, sCS]
      refine wpAnyH_take (i := 5) (v := ?_) (by simp only [List.getElem?_toArray, List.getElem?_cons_succ, List.getElem?_cons_zero]; rfl) (by kernel_rfl) (by kernel_rfl) (by kernel_rfl) (by exact fun _ _ _ h => h) (Or.inl ⟨by rfl, ?_⟩) (by assumption) ?_
      rotate_left 1
      ·(intro w hSw; (try dsimp only at hSw); go_simp; try with_reducible rfl)
      try simp only [Act.put, sIB, sC0, sCS]
      refine wpAnyH_take (i := 6) (v := ?_) (by simp only [List.getElem?_toArray, List.getElem?_cons_succ, List.getElem?_cons_zero]; rfl) (by kernel_rfl) (by kernel_rfl) (by kernel_rfl) (by exact fun _ _ _ h => h) (Or.inl ⟨by rfl, ?_⟩) (by assumption) ?_
      rotate_left 1
      ·(intro w hSw; (try dsimp only at hSw); go_simp; try with_reducible rfl)
      try simp only [Act.put, sIB, sC0, sCS]
      refine wpAnyH_take (i := 7) (v := ?_) (by simp only [List.getElem?_toArray, List.getElem?_cons_succ, List.getElem?_cons_zero]; rfl) (by kernel_rfl) (by kernel_rfl) (by kernel_rfl) (by exact fun _ _ _ h => h) (Or.inl ⟨by rfl, ?_⟩) (by assumption) ?_
      rotate_left 1
      ·(intro w hSw; (try dsimp only at hSw); go_simp; try with_reducible rfl)
      try simp only [Act.put, sIB, sC0, sCS]
      refine wpAnyH_take (i := 8) (v := ?_) (by simp only [List.getElem?_toArray, List.getElem?_cons_succ, List.getElem?_cons_zero]; rfl) (by kernel_rfl) (by kernel_rfl) (by kernel_rfl) (by exact fun _ _ _ h => h) (Or.inl ⟨by rfl, ?_⟩) (by assumption) ?_
      rotate_left 1
      ·(intro w hSw; (try dsimp only at hSw); go_simp; try with_reducible rfl)
      try simp only [Act.put, sIB, sC0, sCS]
      refine wpAnyH_take (i := 9) (v := ?_) (by simp only [List.getElem?_toArray, List.getElem?_cons_succ, List.getElem?_cons_zero]; rfl) (by kernel_rfl) (by kernel_rfl) (by kernel_rfl) (by exact fun _ _ _ h => h) (Or.inl ⟨by rfl, ?_⟩) (by assumption) ?_
      rotate_left 1
      ·(intro w hSw; (try dsimp only at hSw); go_simp; try with_reducible rfl)
      try simp only [Act.put, sIB, sC0, sCS]
      refine wpAnyH_take (i := 10) (v := ?_) (by simp only [List.getElem?_toArray, List.getElem?_cons_succ, List.getElem?_cons_zero]; rfl) (by kernel_rfl) (by kernel_rfl) (by kernel_rfl) (by exact fun _ _ _ h => h) (Or.inl ⟨by rfl, ?_⟩) (by assumption) ?_
      rotate_left 1
      ·(intro w hSw; (try dsimp only at hSw); go_simp; try with_reducible rfl)
      try simp only [Act.put, sIB, sC0, sCS]
      refine wpAnyH_take (i := 11) (v := ?_) (by simp only [List.getElem?_toArray, List.getElem?_cons_succ, List.getElem?_cons_zero]; rfl) (by kernel_rfl) (by kernel_rfl) (by kernel_rfl) (by exact fun _ _ _ h => h) (Or.inl ⟨by rfl, ?_⟩) (by assumption) ?_
      rotate_left 1
      ·(intro w hSw; (try dsimp only at hSw); go_simp; try with_reducible rfl)
      try simp only [Act.put, sIB, sC0, sCS]
      refine wpAnyH_take (i := 12) (v := ?_) (by simp only [List.getElem?_toArray, List.getElem?_cons_succ, List.getElem?_cons_zero]; rfl) (by kernel_rfl) (by kernel_rfl) (by kernel_rfl) (by exact fun _ _ _ h => h) (Or.inl ⟨by rfl, ?_⟩) (by assumption) ?_
      rotate_left 1
      ·(intro w hSw; (try dsimp only at hSw); go_simp; try with_reducible rfl)
      try simp only [Act.put, sIB, sC0, sCS]
      refine wpAnyH_ready (rs := [13, 17]) (by kernel_rfl) (by simp) ?_
      refine AllReadyH.cons (by simp only [List.getElem?_toArray, List.getElem?_cons_succ, List.getElem?_cons_zero]; rfl) (fun K hK => ?_) (AllReadyH.cons (by simp only [List.getElem?_toArray, List.getElem?_cons_succ, List.getElem?_cons_zero]; rfl) (fun K hK => ?_) (AllReadyH.nil))
      ·go_simp
       refine (CF.out _ hHeld.2).mono ?_
       rintro e w5 ⟨rfl, ho⟩
       have HQ := Lib.hid (keepFH hHeld ho)
       clear ho
       go_wp2_with fail
       refine hK.out _ _ ?_ (fun hHeld2 => ?_)
       ·exact HQ.out
       clear hK K
       try simp only [Act.put, sIB, sC0, sCS]
       clear hHeld
       have hHeld := hHeld2
       clear hHeld2
       clear HQ
       refine wpAnyH_take (i := 14) (v := ?_) (by simp only [List.getElem?_toArray, List.getElem?_cons_succ, List.getElem?_cons_zero]; rfl) (by kernel_rfl) (by kernel_rfl) (by kernel_rfl) (by exact fun _ _ _ h => h) (Or.inl ⟨by rfl, ?_⟩) (by assumption) ?_
       rotate_left 1
       ·(intro w hSw; (try dsimp only at hSw); go_simp; try with_reducible rfl)
       try simp only [Act.put, sIB, sC0, sCS]
       refine wpAnyH_take (i := 15) (v := ?_) (by simp only [List.getElem?_toArray, List.getElem?_cons_succ, List.getElem?_cons_zero]; rfl) (by kernel_rfl) (by kernel_rfl) (by kernel_rfl) (by exact fun _ _ _ h => h) (Or.inl ⟨by rfl, ?_⟩) (by assumption) ?_
       rotate_left 1
       ·(intro w hSw; (try dsimp only at hSw); go_simp; try with_reducible rfl)
       try simp only [Act.put, sIB, sC0, sCS]
       refine wpAnyH_take (i := 16) (v := ?_) (by simp only [List.getElem?_toArray, List.getElem?_cons_succ, List.getElem?_cons_zero]; rfl) (by kernel_rfl) (by kernel_rfl) (by kernel_rfl) (by exact fun _ _ _ h => h) (Or.inl ⟨by rfl, ?_⟩) (by assumption) ?_
       rotate_left 1
       ·(intro w hSw; (try dsimp only at hSw); go_simp; try with_reducible rfl)
       try simp only [Act.put, sIB, sC0, sCS]
       refine wpAnyH_ready (rs := [17]) (by kernel_rfl) (by simp) ?_
       refine AllReadyH.cons (by simp only [List.getElem?_toArray, List.getElem?_cons_succ, List.getElem?_cons_zero]; rfl) (fun K hK => ?_) (AllReadyH.nil)
       go_simp
       have HQ := Lib.hid (keepFH hHeld ((Only.refl (fun _ => False) w5).alloc (.cells #[.int .i64 0, .int .i64 0, .string ⟨#[]⟩, .bool false, .int .i64 0] 34)))
       have HX0 := Lib.hid (heap_alloc_new w5 (.cells #[.int .i64 0, .int .i64 0, .string ⟨#[]⟩, .bool false, .int .i64 0] 34))
       have HSZ := Lib.hid hHeld.2.size
       have HNX := Lib.hid (heap_lt hHeld.1.2.2.2.2)
       have HBX := Lib.hid (cell_lt9 hHeld.1.2.2.1)
       refine hK.out _ _ ?_ (fun hHeld2 => ?_)
       ·exact HQ.out
       clear hK K
       try simp only [Act.put, sIB, sC0, sCS]
       clear hHeld
       have hHeld := hHeld2
       clear hHeld2
       clear HQ
       obtain ⟨X, hX⟩ : ∃ x, w5.heap.size = x := ⟨_, rfl⟩
       obtain ⟨wy, hwy⟩ : ∃ x, w5.alloc (.cells #[.int .i64 0, .int .i64 0, .string ⟨#[]⟩, .bool false, .int .i64 0] 34) = x := ⟨_, rfl⟩
       have HX := Lib.hid (show wy.heap[X]? = some (.cells #[.int .i64 0, .int .i64 0, .string ⟨#[]⟩, .bool false, .int .i64 0] 34 (0, 0)) from by rw [← hwy, ← hX]; exact HX0.out)
       have HXG := Lib.hid (show w2.heap.size ≤ X ∧ NS ≠ X ∧ XB ≠ X from ⟨by rw [← hX]; exact HSZ.out, by rw [← hX]; exact Nat.ne_of_lt HNX.out, by rw [← hX]; exact Nat.ne_of_lt HBX.out⟩)
       rw [hX, hwy]
       rw [hwy] at hHeld
       clear HX0 hX hwy HSZ HNX HBX
       obtain ⟨x0, x1, x2, x3, x4⟩ := cells5T HX.out
       obtain ⟨v0, v1, v2, v3, v4⟩ := marks5T HX.out
       refine wpAnyH_ready (rs := [18]) (by kernel_rfl) (by simp) ?_
       refine AllReadyH.cons (by simp only [List.getElem?_toArray, List.getElem?_cons_succ, List.getElem?_cons_zero]; rfl) (fun K hK => ?_) (AllReadyH.nil)
       go_simp
       have HQ := Lib.hid (keepFX hHeld GQ.out.1 GQ.out.2 HXG.out (.int .i64 (n : Int)) (.int .i64 (i : Int)) (.string ds) (.bool sb) (.int .i64 (sl : Int)))
       refine hK.out _ _ ?_ (fun hHeld2 => ?_)
       ·exact HQ.out
       clear hK K
       try simp only [Act.put, sIB, sC0, sCS]
       clear hHeld
       have hHeld := hHeld2
       clear hHeld2
       clear HQ
       refine wpAnyH_take (i := 19) (v := ?_) (by simp only [List.getElem?_toArray, List.getElem?_cons_succ, List.getElem?_cons_zero]; rfl) (by kernel_rfl) (by kernel_rfl) (by kernel_rfl) (by exact fun _ _ _ h => h) (Or.inl ⟨by rfl, ?_⟩) (by assumption) ?_
       rotate_left 1
       ·(intro w hSw; (try dsimp only at hSw); go_simp; try with_reducible rfl)
       try simp only [Act.put, sIB, sC0, sCS]
       refine wpAnyH_done (by kernel_rfl) ?_ _
       have HXF := Lib.hid (store5T (a0 := (.int .i64 (n : Int))) (a1 := (.int .i64 (i : Int))) (a2 := (.string ds)) (a3 := (.bool sb)) (a4 := (.int .i64 (sl : Int))) HX.out)
       obtain ⟨wf, hwf⟩ : ∃ x, (((((wy.setCell ⟨X, 0, none⟩ (.int .i64 (n : Int))).setCell ⟨X, 1, none⟩ (.int .i64 (i : Int))).setCell ⟨X, 2, none⟩ (.string ds)).setCell ⟨X, 3, none⟩ (.bool sb)).setCell ⟨X, 4, none⟩ (.int .i64 (sl : Int))) = x := ⟨_, rfl⟩
       rw [hwf] at HXF hHeld ⊢
       clear hwf x0 x1 x2 x3 x4 v0 v1 v2 v3 v4 HX
       have x1 := hHeld.1.2.2.2.1
       have HS := Lib.hid hHeld
       clear hHeld
       go_wp2_with (fail)
       refine (CK.out wf).mono ?_
       rintro e wg ⟨rfl, ho⟩
       have hal := ho.alloc (.cells #[.int .i64 tt.k, .string tt.name, .int .i64 tt.dims, .int .i64 tt.elem, .int .i64 tt.at_] 63)
       have hnT := heap_alloc_new wg (.cells #[.int .i64 tt.k, .string tt.name, .int .i64 tt.dims, .int .i64 tt.elem, .int .i64 tt.at_] 63)
       have hsz := ho.size
       obtain ⟨XT, hXT⟩ : ∃ x, wg.heap.size = x := ⟨_, rfl⟩
       obtain ⟨wh, hwh⟩ : ∃ x, wg.alloc (.cells #[.int .i64 tt.k, .string tt.name, .int .i64 tt.dims, .int .i64 tt.elem, .int .i64 tt.at_] 63) = x := ⟨_, rfl⟩
       rw [hwh] at hal hnT
       rw [hXT] at hnT
       have HS2 := Lib.hid (keepFH HS.out hal)
       have HX2 := Lib.hid (hal.heap HXF.out (fun h => h))
       have HT2 := Lib.hid hnT
       have HWH := Lib.hid hwh
       have HXTT := Lib.hid hXT
       clear hal hnT ho hsz x1 hwh hXT HS HXF
       go_wp2_with (fail)
       rw [HXTT.out, HWH.out]
       refine (CSL.out _ HS2.out.2).mono ?_
       rintro e wi ⟨ri, rfl, hri, hoi⟩
       obtain ⟨ai, ci, rfl, -, -, -, -⟩ := id hri.types
       have HRI := Lib.hid hri.types
       have hXi := hoi.heap HX2.out (fun h => h)
       have hTi := hoi.heap HT2.out (fun h => h)
       have HS3 := Lib.hid (keepFH HS2.out hoi)
       clear hri hoi HS2 HX2 HT2
       obtain ⟨z0, z1, z2, z3, z4⟩ := cells5T hXi
       rcases HCASE.out with ⟨hsb, hfl, hst, hsl⟩ | ⟨hsb, hfl, hst, hsl⟩
       ·subst hsb
        have HXi := Lib.hid hXi
        have HTi := Lib.hid hTi
        clear hXi hTi
        go_wp2_with (fail)
        refine (CST.out _ HS3.out.2).mono ?_
        rintro e wj ⟨rj, rfl, hrj, hoj⟩
        obtain ⟨aj, cj, rfl, -, -, -, -⟩ := id hrj.types
        have hXi := hoj.heap HXi.out (fun h => h)
        have hTi := hoj.heap HTi.out (fun h => h)
        have HS4 := Lib.hid (keepFH HS3.out hoj)
        obtain ⟨b5, o5, hb5, y⟩ := Sl.at hrj.types hsl
        subst hb5
        rw [hst] at y
        obtain ⟨y0, y1, y2, y3, y4⟩ := y
        clear z0 z1 z2 z3 z4 hrj hoj HS3
        obtain ⟨z0, z1, z2, z3, z4⟩ := cells5T hXi
        obtain ⟨t0, t1, t2, t3, t4⟩ := cells5T hTi
        have hnw := HS4.out.1.2.2.2.2
        have HSLM := Lib.hid (HAH.out.1 hfl)
        rw [hLL] at hsl
        have HML2 := Lib.hid (show mm < L by have := HSLM.out; omega)
        have s0 := cell_blk hnw mm
        rw [seenA_at HML2.out] at s0
        have s1 := frozen_blk hnw mm
        have hsli : (sl : Int) < (L : Int) := by omega
        have hd2 : decide ((L : Int) ≤ (sl : Int)) = false := decide_eq_false (by omega)
        have hp2 : ¬ (L : Int) ≤ (sl : Int) := by omega
        rw [hLL]
        rw [← HSLM.out] at s0 s1
        have HN4 := Lib.hid hnw
        clear hnw
        have HAH2 := Lib.hid (HAH.out.2.1 hfl)
        skip
        go_wp2
        go_quiet (fail)
        go_wp2
        go_roundw
        case rel => exact ⟨i + 1, by go_num, by have := HFL.out; omega, (by have h1 := HML2.out; have h2 := HMM.out; rw [HAH2.out, ← h2]; rw [← h2] at h1; have hw : wrap64 (((aheadN ks n i : Nat) : Int) + 1) = ((aheadN ks n i : Nat) : Int) + 1 := IntWalk.wrap64_in _ ⟨by omega, by omega⟩; rw [hw]; go_num), Lib.hid (by rw [HAH2.out, HSLM.out]; exact seen_set (heap_drewN HN4.out) HML2.out), Lib.hid ((HS4.out.2.drewN _).setCell (fun hl => by have h3 : NS < w2.heap.size := hl; have := HNG.out; omega) _)⟩
        case measure => (have h1 := HFL.out; simp only [Lib.intOf]; rw [h1]; omega)
       ·subst hsb
        obtain ⟨b5, o5, hb5, y⟩ := Sl.at HRI.out hsl
        subst hb5
        rw [hst] at y
        obtain ⟨y0, y1, y2, y3, y4⟩ := y
        obtain ⟨t0, t1, t2, t3, t4⟩ := cells5T hTi
        obtain ⟨la, hla⟩ : ∃ x, (slotsAny ks (n : Int)).length = x := ⟨_, rfl⟩
        rw [hla] at hsl ⊢
        have hsli : (sl : Int) < (la : Int) := by omega
        have hd2 : decide ((la : Int) ≤ (sl : Int)) = false := decide_eq_false (by omega)
        have hp2 : ¬ (la : Int) ≤ (sl : Int) := by omega
        have HAH2 := Lib.hid (HAH.out.2.2 hfl)
        have HN4 := Lib.hid HS3.out.1.2.2.2.2
        go_wp2
        go_quiet (fail)
        go_wp2
        go_roundw
        case rel => exact ⟨i + 1, by go_num, by have := HFL.out; omega, (by rw [HAH2.out, HMM.out]), Lib.hid (by rw [HAH2.out]; exact HN4.out), Lib.hid (HS3.out.2.drewN _)⟩
        case measure => (have h1 := HFL.out; simp only [Lib.intOf]; rw [h1]; omega)
      ·go_simp
       have HQ := Lib.hid (keepFH hHeld ((Only.refl (fun _ => False) (wx.drewN 1)).alloc (.cells #[.int .i64 0, .int .i64 0, .string ⟨#[]⟩, .bool false, .int .i64 0] 34)))
       have HX0 := Lib.hid (heap_alloc_new (wx.drewN 1) (.cells #[.int .i64 0, .int .i64 0, .string ⟨#[]⟩, .bool false, .int .i64 0] 34))
       have HSZ := Lib.hid hHeld.2.size
       have HNX := Lib.hid (heap_lt hHeld.1.2.2.2.2)
       have HBX := Lib.hid (cell_lt9 hHeld.1.2.2.1)
       refine hK.out _ _ ?_ (fun hHeld2 => ?_)
       ·exact HQ.out
       clear hK K
       try simp only [Act.put, sIB, sC0, sCS]
       clear hHeld
       have hHeld := hHeld2
       clear hHeld2
       clear HQ
       obtain ⟨X, hX⟩ : ∃ x, wx.heap.size = x := ⟨_, rfl⟩
       obtain ⟨wy, hwy⟩ : ∃ x, (wx.alloc (.cells #[.int .i64 0, .int .i64 0, .string ⟨#[]⟩, .bool false, .int .i64 0] 34)).drew = x := ⟨_, rfl⟩
       have HX := Lib.hid (show wy.heap[X]? = some (.cells #[.int .i64 0, .int .i64 0, .string ⟨#[]⟩, .bool false, .int .i64 0] 34 (0, 0)) from by rw [← hwy, ← hX]; exact HX0.out)
       have HXG := Lib.hid (show w2.heap.size ≤ X ∧ NS ≠ X ∧ XB ≠ X from ⟨by rw [← hX]; exact HSZ.out, by rw [← hX]; exact Nat.ne_of_lt HNX.out, by rw [← hX]; exact Nat.ne_of_lt HBX.out⟩)
       rw [hX, hwy]
       rw [hwy] at hHeld
       clear HX0 hX hwy HSZ HNX HBX
       refine wpAnyH_ready (rs := [13]) (by kernel_rfl) (by simp) ?_
       refine AllReadyH.cons (by simp only [List.getElem?_toArray, List.getElem?_cons_succ, List.getElem?_cons_zero]; rfl) (fun K hK => ?_) (AllReadyH.nil)
       go_simp
       refine (CF.out _ hHeld.2).mono ?_
       rintro e w5 ⟨rfl, ho⟩
       have HQ := Lib.hid (keepFH hHeld ho)
       have HX2 := Lib.hid (ho.heap HX.out (fun h => h))
       clear HX
       have HX := HX2
       clear HX2
       clear ho
       go_wp2_with fail
       refine hK.out _ _ ?_ (fun hHeld2 => ?_)
       ·exact HQ.out
       clear hK K
       try simp only [Act.put, sIB, sC0, sCS]
       clear hHeld
       have hHeld := hHeld2
       clear hHeld2
       clear HQ
       refine wpAnyH_take (i := 14) (v := ?_) (by simp only [List.getElem?_toArray, List.getElem?_cons_succ, List.getElem?_cons_zero]; rfl) (by kernel_rfl) (by kernel_rfl) (by kernel_rfl) (by exact fun _ _ _ h => h) (Or.inl ⟨by rfl, ?_⟩) (by assumption) ?_
       rotate_left 1
       ·(intro w hSw; (try dsimp only at hSw); go_simp; try with_reducible rfl)
       try simp only [Act.put, sIB, sC0, sCS]
       refine wpAnyH_take (i := 15) (v := ?_) (by simp only [List.getElem?_toArray, List.getElem?_cons_succ, List.getElem?_cons_zero]; rfl) (by kernel_rfl) (by kernel_rfl) (by kernel_rfl) (by exact fun _ _ _ h => h) (Or.inl ⟨by rfl, ?_⟩) (by assumption) ?_
       rotate_left 1
       ·(intro w hSw; (try dsimp only at hSw); go_simp; try with_reducible rfl)
       try simp only [Act.put, sIB, sC0, sCS]
       refine wpAnyH_take (i := 16) (v := ?_) (by simp only [List.getElem?_toArray, List.getElem?_cons_succ, List.getElem?_cons_zero]; rfl) (by kernel_rfl) (by kernel_rfl) (by kernel_rfl) (by exact fun _ _ _ h => h) (Or.inl ⟨by rfl, ?_⟩) (by assumption) ?_
       rotate_left 1
       ·(intro w hSw; (try dsimp only at hSw); go_simp; try with_reducible rfl)
       try simp only [Act.put, sIB, sC0, sCS]
       obtain ⟨x0, x1, x2, x3, x4⟩ := cells5T HX.out
       obtain ⟨v0, v1, v2, v3, v4⟩ := marks5T HX.out
       refine wpAnyH_ready (rs := [18]) (by kernel_rfl) (by simp) ?_
       refine AllReadyH.cons (by simp only [List.getElem?_toArray, List.getElem?_cons_succ, List.getElem?_cons_zero]; rfl) (fun K hK => ?_) (AllReadyH.nil)
       go_simp
       have HQ := Lib.hid (keepFX hHeld GQ.out.1 GQ.out.2 HXG.out (.int .i64 (n : Int)) (.int .i64 (i : Int)) (.string ds) (.bool sb) (.int .i64 (sl : Int)))
       refine hK.out _ _ ?_ (fun hHeld2 => ?_)
       ·exact HQ.out
       clear hK K
       try simp only [Act.put, sIB, sC0, sCS]
       clear hHeld
       have hHeld := hHeld2
       clear hHeld2
       clear HQ
       refine wpAnyH_take (i := 19) (v := ?_) (by simp only [List.getElem?_toArray, List.getElem?_cons_succ, List.getElem?_cons_zero]; rfl) (by kernel_rfl) (by kernel_rfl) (by kernel_rfl) (by exact fun _ _ _ h => h) (Or.inl ⟨by rfl, ?_⟩) (by assumption) ?_
       rotate_left 1
       ·(intro w hSw; (try dsimp only at hSw); go_simp; try with_reducible rfl)
       try simp only [Act.put, sIB, sC0, sCS]
       refine wpAnyH_done (by kernel_rfl) ?_ _
       have HXF := Lib.hid (store5T (a0 := (.int .i64 (n : Int))) (a1 := (.int .i64 (i : Int))) (a2 := (.string ds)) (a3 := (.bool sb)) (a4 := (.int .i64 (sl : Int))) HX.out)
       obtain ⟨wf, hwf⟩ : ∃ x, (((((w5.setCell ⟨X, 0, none⟩ (.int .i64 (n : Int))).setCell ⟨X, 1, none⟩ (.int .i64 (i : Int))).setCell ⟨X, 2, none⟩ (.string ds)).setCell ⟨X, 3, none⟩ (.bool sb)).setCell ⟨X, 4, none⟩ (.int .i64 (sl : Int))) = x := ⟨_, rfl⟩
       rw [hwf] at HXF hHeld ⊢
       clear hwf x0 x1 x2 x3 x4 v0 v1 v2 v3 v4 HX
       have x1 := hHeld.1.2.2.2.1
       have HS := Lib.hid hHeld
       clear hHeld
       go_wp2_with (fail)
       refine (CK.out wf).mono ?_
       rintro e wg ⟨rfl, ho⟩
       have hal := ho.alloc (.cells #[.int .i64 tt.k, .string tt.name, .int .i64 tt.dims, .int .i64 tt.elem, .int .i64 tt.at_] 63)
       have hnT := heap_alloc_new wg (.cells #[.int .i64 tt.k, .string tt.name, .int .i64 tt.dims, .int .i64 tt.elem, .int .i64 tt.at_] 63)
       have hsz := ho.size
       obtain ⟨XT, hXT⟩ : ∃ x, wg.heap.size = x := ⟨_, rfl⟩
       obtain ⟨wh, hwh⟩ : ∃ x, wg.alloc (.cells #[.int .i64 tt.k, .string tt.name, .int .i64 tt.dims, .int .i64 tt.elem, .int .i64 tt.at_] 63) = x := ⟨_, rfl⟩
       rw [hwh] at hal hnT
       rw [hXT] at hnT
       have HS2 := Lib.hid (keepFH HS.out hal)
       have HX2 := Lib.hid (hal.heap HXF.out (fun h => h))
       have HT2 := Lib.hid hnT
       have HWH := Lib.hid hwh
       have HXTT := Lib.hid hXT
       clear hal hnT ho hsz x1 hwh hXT HS HXF
       go_wp2_with (fail)
       rw [HXTT.out, HWH.out]
       refine (CSL.out _ HS2.out.2).mono ?_
       rintro e wi ⟨ri, rfl, hri, hoi⟩
       obtain ⟨ai, ci, rfl, -, -, -, -⟩ := id hri.types
       have HRI := Lib.hid hri.types
       have hXi := hoi.heap HX2.out (fun h => h)
       have hTi := hoi.heap HT2.out (fun h => h)
       have HS3 := Lib.hid (keepFH HS2.out hoi)
       clear hri hoi HS2 HX2 HT2
       obtain ⟨z0, z1, z2, z3, z4⟩ := cells5T hXi
       rcases HCASE.out with ⟨hsb, hfl, hst, hsl⟩ | ⟨hsb, hfl, hst, hsl⟩
       ·subst hsb
        have HXi := Lib.hid hXi
        have HTi := Lib.hid hTi
        clear hXi hTi
        go_wp2_with (fail)
        refine (CST.out _ HS3.out.2).mono ?_
        rintro e wj ⟨rj, rfl, hrj, hoj⟩
        obtain ⟨aj, cj, rfl, -, -, -, -⟩ := id hrj.types
        have hXi := hoj.heap HXi.out (fun h => h)
        have hTi := hoj.heap HTi.out (fun h => h)
        have HS4 := Lib.hid (keepFH HS3.out hoj)
        obtain ⟨b5, o5, hb5, y⟩ := Sl.at hrj.types hsl
        subst hb5
        rw [hst] at y
        obtain ⟨y0, y1, y2, y3, y4⟩ := y
        clear z0 z1 z2 z3 z4 hrj hoj HS3
        obtain ⟨z0, z1, z2, z3, z4⟩ := cells5T hXi
        obtain ⟨t0, t1, t2, t3, t4⟩ := cells5T hTi
        have hnw := HS4.out.1.2.2.2.2
        have HSLM := Lib.hid (HAH.out.1 hfl)
        rw [hLL] at hsl
        have HML2 := Lib.hid (show mm < L by have := HSLM.out; omega)
        have s0 := cell_blk hnw mm
        rw [seenA_at HML2.out] at s0
        have s1 := frozen_blk hnw mm
        have hsli : (sl : Int) < (L : Int) := by omega
        have hd2 : decide ((L : Int) ≤ (sl : Int)) = false := decide_eq_false (by omega)
        have hp2 : ¬ (L : Int) ≤ (sl : Int) := by omega
        rw [hLL]
        rw [← HSLM.out] at s0 s1
        have HN4 := Lib.hid hnw
        clear hnw
        have HAH2 := Lib.hid (HAH.out.2.1 hfl)
        skip
        go_wp2
        go_quiet (fail)
        go_wp2
        go_roundw
        case rel => exact ⟨i + 1, by go_num, by have := HFL.out; omega, (by have h1 := HML2.out; have h2 := HMM.out; rw [HAH2.out, ← h2]; rw [← h2] at h1; have hw : wrap64 (((aheadN ks n i : Nat) : Int) + 1) = ((aheadN ks n i : Nat) : Int) + 1 := IntWalk.wrap64_in _ ⟨by omega, by omega⟩; rw [hw]; go_num), Lib.hid (by rw [HAH2.out, HSLM.out]; exact seen_set (heap_drewN HN4.out) HML2.out), Lib.hid ((HS4.out.2.drewN _).setCell (fun hl => by have h3 : NS < w2.heap.size := hl; have := HNG.out; omega) _)⟩
        case measure => (have h1 := HFL.out; simp only [Lib.intOf]; rw [h1]; omega)
       ·subst hsb
        obtain ⟨b5, o5, hb5, y⟩ := Sl.at HRI.out hsl
        subst hb5
        rw [hst] at y
        obtain ⟨y0, y1, y2, y3, y4⟩ := y
        obtain ⟨t0, t1, t2, t3, t4⟩ := cells5T hTi
        obtain ⟨la, hla⟩ : ∃ x, (slotsAny ks (n : Int)).length = x := ⟨_, rfl⟩
        rw [hla] at hsl ⊢
        have hsli : (sl : Int) < (la : Int) := by omega
        have hd2 : decide ((la : Int) ≤ (sl : Int)) = false := decide_eq_false (by omega)
        have hp2 : ¬ (la : Int) ≤ (sl : Int) := by omega
        have HAH2 := Lib.hid (HAH.out.2.2 hfl)
        have HN4 := Lib.hid HS3.out.1.2.2.2.2
        go_wp2
        go_quiet (fail)
        go_wp2
        go_roundw
        case rel => exact ⟨i + 1, by go_num, by have := HFL.out; omega, (by rw [HAH2.out, HMM.out]), Lib.hid (by rw [HAH2.out]; exact HN4.out), Lib.hid (HS3.out.2.drewN _)⟩
        case measure => (have h1 := HFL.out; simp only [Lib.intOf]; rw [h1]; omega)
     ·obtain rfl : i = (ks.getD n default).fields.length := by omega
      have HAE := Lib.hid (ahead_end hlt)
      clear hil hi qB
      go_wp2
      go_roundw
      case rel => exact ⟨n + 1, by go_num, by omega, by omega, (by rw [HAE.out]), Lib.hid (by rw [← HAE.out]; exact HNI.out), HOI⟩
      case measure => simp only [Lib.intOf]; omega
   ·obtain rfl : n = ks.length := by omega
    have qA := HOR.out.cell HG0.out (fun h => h)
    have HLS2 := HLS.out
    have CS2 := Lib.hid (CST.out _ HOR.out)
    clear hlt hn
    rw [← HLS2]
    go_wp2_with (fail)
    refine CS2.out.mono ?_
    rintro e w5 ⟨r5, rfl, hr5, ho5⟩
    obtain ⟨a5, c5, rfl, -, -, -, -⟩ := id hr5.types
    rw [HLL.out]
    have HOZ := Lib.hid (HO2.out.trans (HOR.out.trans ho5 (fun _ h _ => h)) (fun _ h _ => h))
    clear hr5 ho5
    go_wp2
    go_ret
    exact ⟨rfl, HOZ.out⟩
end Go.Proofs.YtgdgffnaknkbcaaGreatDoor
