import Derived.Test.YtemplkpcckmcoaaGreatDoorMkKndPLpN
import Derived.Laws.World
import Derived.Shelf.Strings.IndexAnyAll
import Derived.Lib.OthersKept
import Derived.Deep.QuietTactic
import Derived.BigQuiet
import Derived.Laws.Runes
import Derived.Test.YtemplkpcckmcoaaGreatDoorMkClsDKndB
import Derived.WalkMore
namespace Go.Proofs.YtemplkpcckmcoaaGreatDoor
set_option maxHeartbeats 16000000
open Lib (hid)
open Go.RowKit Go.Maps
set_option linter.unusedVariables false
set_option linter.unusedSimpArgs false
section
variable {G : Nat → Prop} {fv : Nat → Value} {w : World} {pb : Nat} {ks : List KindV} {cl : Nat → ClassV} {sl sl' : Nat → Nat → Int}
theorem ProgG.congr (h : ProgG G fv w pb ks cl sl) (he : ∀ a p, a < ks.length → p < (ks.getD a default).fields.length → sl a p = sl' a p) : ProgG G fv w pb ks cl sl' :=
 ⟨h.head, fun a ha => (h.fields a ha).imp (fun b o i hb hi hm => ⟨by rw [← he a i ha hi]; exact hm.1, hm.2⟩), h.own, h.apart⟩
theorem ProgG.store (h : ProgG G fv w pb ks cl sl) {n i b o cap : Nat} (hn : n < ks.length) (hi : i < (ks.getD n default).fields.length) (hv : fv n = .slice (some ⟨b, o, none⟩) (ks.getD n default).fields.length cap) (x : Int)
  (he : ∀ a p, a < ks.length → p < (ks.getD a default).fields.length → sl' a p = if a = n ∧ p = i then x else sl a p) :
  ProgG G fv (w.setCell ⟨b, o + i * 4 + 3, none⟩ (.int .i64 x)) pb ks cl sl' := by
 have hob : (fv n).ownBlock = some b := by rw [hv]; rfl
 have hbG := (h.own n b hn hob).2
 have ho : Only (fun k => k = b) w (w.setCell ⟨b, o + i * 4 + 3, none⟩ (.int .i64 x)) := Only.setCell (S := fun k => k = b) (Only.refl _ w) (fun _ => rfl) _
 have hG : ∀ k, k = b → G k := fun k e => by subst e; exact hbG
 obtain ⟨vl, mb, h1, h2, h3, h4, h5⟩ := h.head
 refine ⟨⟨vl, mb, ho.heap h1 (fun e => h4 (hG _ e)), h2.only ho (fun e => h5 (hG _ e)), h3.imp (fun b o i _ _ h => ?_), h4, h5⟩, fun a ha => ?_, fun a k ha hk => ⟨Nat.lt_of_lt_of_le (h.own a k ha hk).1 ho.size, (h.own a k ha hk).2⟩, h.apart⟩
 ·obtain ⟨⟨iv, hc, hk⟩, hg⟩ := h
  exact ⟨⟨iv, ho.cell hc (fun e => hg (hG _ e)), hk.only ho hG⟩, hg⟩
 ·by_cases hna : a = n
  ·subst hna
   obtain ⟨ao, cap', e, e1, e2, e3, e4⟩ := h.fields a ha
   refine ⟨ao, cap', e, e1, e2, e3, fun y hy h0 => ?_⟩
   obtain ⟨b', o', hb', h6⟩ := e4 y hy h0
   rw [hv] at e
   injection e with e _ _
   subst hb' hy
   injection e with e
   injection e with eb eo _
   subst eb eo
   refine ⟨b, o, rfl, fun p hp => ?_⟩
   obtain ⟨⟨c0, c1, c2, c3⟩, hf⟩ := h6 p hp
   have hne : ∀ d, (d < 3 ∨ p ≠ i) → d < 4 → (⟨b, o + i * 4 + 3, none⟩ : Addr) ≠ ⟨b, o + p * 4 + d, none⟩ := fun d hd h4 e => by injection e with _ e; omega
   refine ⟨⟨?_, ?_, ?_, ?_⟩, ?_⟩
   ·rw [World.cell?_setCell_other _ _ _ _ (show (⟨b, o + i * 4 + 3, none⟩ : Addr) ≠ ⟨b, o + p * 4, none⟩ from hne 0 (.inl (by decide)) (by decide))]; exact c0
   ·rw [World.cell?_setCell_other _ _ _ _ (hne 1 (.inl (by decide)) (by decide))]; exact c1
   ·rw [World.cell?_setCell_other _ _ _ _ (hne 2 (.inl (by decide)) (by decide))]; exact c2
   ·rw [he a p ha hp]
    by_cases hpi : p = i
    ·subst hpi
     rw [if_pos ⟨rfl, rfl⟩]
     exact World.cell?_setCell_same _ _ _ c3
    ·rw [if_neg (fun h => hpi h.2), World.cell?_setCell_other _ _ _ _ (hne 3 (.inr hpi) (by decide))]; exact c3
   ·rw [World.frozen?_setCell]; exact hf
  ·refine FldS.only (S := fun k => k = b) ((h.fields a ha).imp (fun b o p hb hp hm => ⟨by rw [he a p ha hp, if_neg (fun h => hna h.1)]; exact hm.1, hm.2⟩)) ho (fun k hk e => ?_)
   subst e
   exact hna (h.apart a n k ha hn hk hob)
end
def slL (ks : List KindV) (n i : Nat) : Nat → Nat → Int := fun a p => if a < n ∨ (a = n ∧ p < i) then (slotAt ks a p : Int) else 0
theorem slL_zero (ks : List KindV) : slL ks 0 0 = fun _ _ => 0 := by
 funext a p
 unfold slL
 rw [if_neg (by omega)]
theorem slL_store {ks : List KindV} {n i : Nat} (a p : Nat) : slL ks n (i + 1) a p = if a = n ∧ p = i then (slotAt ks n i : Int) else slL ks n i a p := by
 unfold slL
 by_cases h : a = n ∧ p = i
 ·obtain ⟨rfl, rfl⟩ := h
  rw [if_pos (.inr ⟨rfl, by omega⟩), if_pos ⟨rfl, rfl⟩]
 ·rw [if_neg h]
  by_cases h2 : a < n ∨ (a = n ∧ p < i)
  ·rw [if_pos h2, if_pos (by omega)]
  ·rw [if_neg h2, if_neg (by omega)]
theorem slL_next {ks : List KindV} {n a p : Nat} (hp : p < (ks.getD a default).fields.length) : slL ks n (ks.getD n default).fields.length a p = slL ks (n + 1) 0 a p := by
 unfold slL
 by_cases h : a < n + 1
 ·rw [if_pos (show a < n + 1 ∨ _ from .inl h), if_pos]
  by_cases ha : a = n
  ·subst ha; exact .inr ⟨rfl, hp⟩
  ·exact .inl (by omega)
 ·rw [if_neg (by omega), if_neg (by omega)]
theorem slL_end {ks : List KindV} {a p : Nat} (ha : a < ks.length) : slL ks ks.length 0 a p = (slotAt ks a p : Int) := by
 unfold slL
 rw [if_pos (.inl ha)]
theorem slotAt_static {ks : List KindV} {n i : Nat} (h : ((ks.getD n default).fields.getD i default).flags = 8) : slotAt ks n i = staticsN ks n + countL 8 ((ks.getD n default).fields.take i) := by
 unfold slotAt; rw [if_pos h]
theorem slotAt_own {ks : List KindV} {n i : Nat} (h : ¬ ((ks.getD n default).fields.getD i default).flags = 8) : slotAt ks n i = slotsN ks (superZ ks n) + countL 0 ((ks.getD n default).fields.take i) := by
 unfold slotAt; rw [if_neg h]
theorem slotsAny_len {ks : List KindV} {x : Int} (h : x < ks.length) : (slotsAny ks x).length = slotsN ks x := by
 unfold slotsAny
 rw [if_neg (by omega), slotsZ_len]
set_option maxRecDepth 100000 in
theorem pLay {G : Nat → Prop} {fv : Nat → Value} {pb : Nat} {ks : List KindV} {cl : Nat → ClassV} {w : World} (h : ProgG G fv w pb ks cl (fun _ _ => 0)) (hg : GoodK ks) :
  Calls Tryz.prog 11 #[.pointer (some ⟨pb, 0, none⟩)] w fun e w' => e = .returned (.tuple #[]) ∧ ProgG G fv w' pb ks cl (fun a p => (slotAt ks a p : Int)) ∧ Only G w w' := by
 have hp0 := hg.pos
 have hkl := hg.small.1
 have HG := hid hg
 have H := hid (show ProgG G fv w pb ks cl (slL ks 0 0) by rw [slL_zero]; exact h)
 obtain ⟨b, o, cap, mb, g0, -, e1, e2, -, -⟩ := h.open (by omega)
 have hkz : ((ks.length : Nat) : Int) ≤ 64 := by omega
 clear h hg
 go_enter Tryz.func11, Tryz.ntmps11
 go_wp2
 clear g0 e1 e2
 go_loopw [2, 3, 4, 5, 6, 12] (fun sv _ _ _ _ iv wr => ∃ n : Nat, iv = .int .i64 n ∧ n ≤ ks.length ∧ sv = .int .i64 ((staticsN ks n : Nat) : Int) ∧ Hid (ProgG G fv wr pb ks cl (slL ks n 0)) ∧ Hid (Only G w wr)) (fun _ _ _ _ _ iv _ => ks.length - (intOf iv).toNat)
 case atStart => exact ⟨0, rfl, Nat.zero_le _, rfl, H, hid (Only.refl _ _)⟩
 case round =>
  obtain ⟨n, rfl, hn, rfl, HP, HON⟩ := hrel
  by_cases hlt : n < ks.length
  ·have hnz : (n : Int) < (ks.length : Int) := by omega
   have hn0 : (0 : Int) ≤ (n : Int) := by omega
   have CS := hid (pSuper HP.out (by omega) HG.out.root HG.out.fine (n : Int))
   have hsl := superZ_lt ks (n : Int)
   have hlen := slotsAny_len hsl
   have hsm := slotsN_small HG.out.small HG.out.ends hsl
   have hst := staticsN_le HG.out.small (n := n) (by omega)
   have HSS := hid (staticsN_step hlt)
   have HSO := hid (fun i => slotAt_own (ks := ks) (n := n) (i := i))
   have HST := hid (fun i => slotAt_static (ks := ks) (n := n) (i := i))
   have CL := hid (fun W (hW : Only (fun _ => False) wr W) => pSlotsAny HG.out _ (superZ ks (n : Int)) rfl W (HP.out.only hW))
   obtain ⟨sj, hsj⟩ : ∃ sj, superZ ks (n : Int) = sj := ⟨_, rfl⟩
   rw [hsj] at CS CL hlen hsm HSO
   obtain ⟨ts, hts⟩ : ∃ ts, slotsAny ks sj = ts := ⟨_, rfl⟩
   rw [hts] at CL hlen
   obtain ⟨sn, hsn⟩ : ∃ sn, slotsN ks sj = sn := ⟨_, rfl⟩
   rw [hsn] at hlen hsm HSO
   obtain ⟨st, hstn⟩ : ∃ st, staticsN ks n = st := ⟨_, rfl⟩
   rw [hstn] at hst HSS HST ⊢
   obtain ⟨b, o, cap, mb, q0, -, e1, e2, -, hk⟩ := HP.out.open (by omega)
   obtain ⟨iv, qi, hkn⟩ := hk n hlt
   obtain ⟨T, v, vom, rfl, -, -, ⟨nn, hq, hen, hcalls⟩, -, -⟩ := hkn.told
   have CF := hid hcalls
   have Q0 := hid q0
   have QI := hid qi
   obtain ⟨af, cf, ef, f1, f2, f3, -⟩ := id (HP.out.fields n hlt)
   have HEF := hid ef
   have hfl := (HG.out.fine _ (getD_mem hlt)).fields
   have HFF := hid (HG.out.fine _ (getD_mem hlt)).ff
   have HLE := hid hlen
   rw [ef] at CF
   obtain ⟨fs, hfs⟩ : ∃ fs, (ks.getD n default).fields = fs := ⟨_, rfl⟩
   rw [hfs] at hfl f1 CF HEF HSS HFF
   have HFS := hid hfs
   have hflz : ((fs.length : Nat) : Int) ≤ 64 := by omega
   have hstz : (st : Int) ≤ 4096 := by omega
   have hsnz : (sn : Int) ≤ 4160 := by omega
   clear hk hkn hcalls q0 qi ef hsj hts hsn hstn hsl hlen f2 f3 hfs
   go_wp2_with (fail)
   refine CS.out.mono ?_
   rintro e w1 ⟨rfl, ho1⟩
   have HO1 := hid ho1
   clear ho1
   go_wp2_with (fail)
   refine (CL.out _ HO1.out).mono ?_
   rintro e w2 ⟨r2, rfl, hr2, ho2⟩
   obtain ⟨a2, c2, rfl, -, -, -, -⟩ := id hr2.types
   have HO2 := hid (HO1.out.trans ho2 (fun _ h _ => h))
   rw [HLE.out]
   have q0 := HO2.out.cell Q0.out (fun h => h)
   have qi := HO2.out.cell QI.out (fun h => h)
   clear hr2 ho2
   go_wp2_with (fail)
   refine (CF.out _ HO2.out).mono ?_
   rintro e w3 ⟨rfl, ho3⟩
   have HO3 := hid (HO2.out.trans ho3 (fun _ h _ => h))
   have HP3 := hid (HP.out.only HO3.out)
   have HN3 := hid (HON.out.trans HO3.out (fun _ h _ => h.elim))
   clear ho3 q0 qi e1 e2
   go_wp2
   go_loopw [2, 4, 6, 31] (fun sv ov _ iv wr2 => ∃ i : Nat, iv = .int .i64 i ∧ i ≤ fs.length ∧ sv = .int .i64 (((st + countL 8 (fs.take i) : Nat)) : Int) ∧ ov = .int .i64 (((sn + countL 0 (fs.take i) : Nat)) : Int) ∧ Hid (ProgG G fv wr2 pb ks cl (slL ks n i)) ∧ Hid (Only G w wr2)) (fun _ _ _ iv _ => fs.length - (intOf iv).toNat)
   case atStart => exact ⟨0, rfl, Nat.zero_le _, rfl, rfl, HP3, HN3⟩
   case round =>
    obtain ⟨i, rfl, hi, rfl, rfl, HPI, HNI⟩ := hrel
    by_cases hil : i < fs.length
    ·have hiz : (i : Int) < (fs.length : Int) := by omega
     have hi0 : (0 : Int) ≤ (i : Int) := by omega
     have hfd := HPI.out.fields n hlt
     rw [HFS.out, HEF.out] at hfd
     obtain ⟨b9, o9, rfl, ⟨y0, y1, y2, y3⟩, yf⟩ := Sl.at hfd hil
     have H8 := hid (countL_take (f := 8) hil)
     have H0 := hid (countL_take (f := 0) hil)
     have h8 := countL_le 8 (fs.take i)
     have h0 := countL_le 0 (fs.take i)
     rw [List.length_take] at h8 h0
     have hsi := HST.out i
     have hoi := HSO.out i
     rw [HFS.out] at hsi hoi
     have hfl2 := HFF.out _ (getD_memM hil)
     obtain ⟨m, hm⟩ : ∃ m, fs.getD i default = m := ⟨_, rfl⟩
     rw [hm] at y0 y1 y2 H8 H0 hsi hoi hfl2
     obtain ⟨s0, hs0⟩ : ∃ s0, slL ks n i n i = s0 := ⟨_, rfl⟩
     rw [hs0] at y3
     obtain ⟨A, hA⟩ : ∃ A, countL 8 (fs.take i) = A := ⟨_, rfl⟩
     obtain ⟨C, hC⟩ : ∃ C, countL 0 (fs.take i) = C := ⟨_, rfl⟩
     rw [hA] at h8 H8 hsi ⊢
     rw [hC] at h0 H0 hoi ⊢
     have hAz : ((st + A : Nat) : Int) ≤ 9000 := by omega
     have hCz : ((sn + C : Nat) : Int) ≤ 9000 := by omega
     have hA0 : (0 : Int) ≤ ((st + A : Nat) : Int) := by omega
     have hC0 : (0 : Int) ≤ ((sn + C : Nat) : Int) := by omega
     have CST := hid (fun W => pStatic m s0 W)
     have HFL := hid hfl2
     have HSI := hid hsi
     have HOI := hid hoi
     have Y3 := hid y3
     have YF := hid yf
     clear hfd hm hs0 hA hC h8 h0 hsi hoi hfl2
     go_wp2_with (fail)
     refine (CST.out _).mono ?_
     rintro e w4 ⟨rfl, ho4⟩
     have z3 := ho4.cell Y3.out (fun h => h)
     have zf := frozen_only ho4 (World.block_lt_of_cell? _ _ Y3.out) (fun h => h) YF.out
     have HP4 := hid (HPI.out.only ho4)
     have HN4 := hid (HNI.out.trans ho4 (fun _ h _ => h.elim))
     have hown := (HP4.out.own n b9 hlt (by rw [HEF.out]; rfl)).2
     clear ho4
     by_cases hf8 : m.flags = 8
     ·have h8t : (m.flags == 8) = true := by rw [beq_iff_eq]; exact hf8
      have HPS := hid (HP4.out.store (sl' := slL ks n (i + 1)) hlt (by rw [HFS.out]; exact hil) (by rw [HFS.out]; exact HEF.out) (((st + A : Nat)) : Int) (fun a p _ _ => by rw [slL_store, HSI.out hf8]))
      have HNS := hid (HN4.out.setCell (p := ⟨b9, o9 + i * 4 + 3, none⟩) (fun _ => hown) (.int .i64 (((st + A : Nat)) : Int)))
      have HA1 : Hid (countL 8 (fs.take (i + 1)) = A + 1) := hid (by rw [H8.out, if_pos hf8])
      have HC1 : Hid (countL 0 (fs.take (i + 1)) = C) := hid (by rw [H0.out, if_neg (by rw [hf8]; decide)]; rfl)
      rw [h8t]
      obtain ⟨X, hX⟩ : ∃ X, st + A = X := ⟨_, rfl⟩
      have HX := hid hX
      rw [hX] at hAz hA0 HPS HNS ⊢
      clear hf8 h8t hown hX
      go_wp2
      go_roundw
      case rel => exact ⟨i + 1, by go_num, by omega, by rw [HA1.out, show st + (A + 1) = X + 1 by have := HX.out; omega]; go_num, by rw [HC1.out]; simp, HPS, HNS⟩
      case measure => simp [intOf]; omega
     ·have h8t : (m.flags == 8) = false := by rw [beq_eq_false_iff_ne]; exact hf8
      have hf0 : m.flags = 0 := HFL.out.resolve_right hf8
      have HPS := hid (HP4.out.store (sl' := slL ks n (i + 1)) hlt (by rw [HFS.out]; exact hil) (by rw [HFS.out]; exact HEF.out) (((sn + C : Nat)) : Int) (fun a p _ _ => by rw [slL_store, HOI.out hf8]))
      have HNS := hid (HN4.out.setCell (p := ⟨b9, o9 + i * 4 + 3, none⟩) (fun _ => hown) (.int .i64 (((sn + C : Nat)) : Int)))
      have HA1 : Hid (countL 8 (fs.take (i + 1)) = A) := hid (by rw [H8.out, if_neg hf8]; rfl)
      have HC1 : Hid (countL 0 (fs.take (i + 1)) = C + 1) := hid (by rw [H0.out, if_pos hf0])
      rw [h8t]
      obtain ⟨X, hX⟩ : ∃ X, sn + C = X := ⟨_, rfl⟩
      have HX := hid hX
      rw [hX] at hCz hC0 HPS HNS ⊢
      clear hf8 h8t hf0 hown hX
      go_wp2
      go_roundw
      case rel => exact ⟨i + 1, by go_num, by omega, by rw [HA1.out]; simp, by rw [HC1.out, show sn + (C + 1) = X + 1 by have := HX.out; omega]; go_num, HPS, HNS⟩
      case measure => simp [intOf]; omega
    ·obtain rfl : i = fs.length := by omega
     have HNX := hid (HPI.out.congr (sl' := slL ks (n + 1) 0) (fun a p _ hp => by rw [← slL_next hp, HFS.out]))
     have HA1 : Hid (st + countL 8 (fs.take fs.length) = staticsN ks (n + 1)) := hid (by rw [List.take_length, HSS.out])
     rw [HA1.out]
     clear hil hi
     go_wp2
     go_roundw
     case rel => exact ⟨n + 1, by go_num, by omega, rfl, HNX, HNI⟩
     case measure => simp [intOf]; omega
  ·obtain rfl : n = ks.length := by omega
   have HF := hid (HP.out.congr (sl' := fun a p => (slotAt ks a p : Int)) (fun a p ha _ => slL_end ha))
   clear hlt hn
   go_wp2
   go_end0
   exact ⟨rfl, HF.out, HON.out⟩
end Go.Proofs.YtemplkpcckmcoaaGreatDoor
namespace Go.Proofs
open Go.Shelf
def Tryz.lays153_ren : Go.Shelf.Ren := ⟨fun | 119 => 172 | 137 => 171 | 152 => 157 | 153 => 145 | 217 => 179 | 224 => 173 | 225 => 174 | 226 => 158 | 227 => 159 | 228 => 160 | 266 => 182 | n => n, fun | 0 => 0 | 3 => 3 | 4 => 4 | 5 => 5 | 9 => 9 | 21 => 21 | 46 => 216 | 116 => 237 | 117 => 238 | 124 => 250 | n => n, fun | n => n⟩
set_option maxRecDepth 100000 in
theorem Tryz.lays153 : Go.Proofs.Lays.n153 Tryz.prog Tryz.lays153_ren := {
 mixed := by kernel_rfl
 f119 := Tryz.func172.trans (congrArg some (by kernel_rfl))
 f137 := Tryz.func171.trans (congrArg some (by kernel_rfl))
 f152 := Tryz.func157.trans (congrArg some (by kernel_rfl))
 f153 := Tryz.func145.trans (congrArg some (by kernel_rfl))
 f217 := Tryz.func179.trans (congrArg some (by kernel_rfl))
 f224 := Tryz.func173.trans (congrArg some (by kernel_rfl))
 f225 := Tryz.func174.trans (congrArg some (by kernel_rfl))
 f226 := Tryz.func158.trans (congrArg some (by kernel_rfl))
 f227 := Tryz.func159.trans (congrArg some (by kernel_rfl))
 f228 := Tryz.func160.trans (congrArg some (by kernel_rfl))
 f266 := Tryz.func182.trans (congrArg some (by kernel_rfl))
 t0 := Tryz.underlying0
 a0 := Tryz.isAgg0
 z0 := Tryz.sizeOf0
 v0 := Tryz.zeroValue0
 t3 := Tryz.underlying3
 a3 := Tryz.isAgg3
 z3 := Tryz.sizeOf3
 v3 := Tryz.zeroValue3
 t4 := Tryz.underlying4
 a4 := Tryz.isAgg4
 z4 := Tryz.sizeOf4
 v4 := Tryz.zeroValue4
 t5 := Tryz.underlying5
 a5 := Tryz.isAgg5
 z5 := Tryz.sizeOf5
 v5 := Tryz.zeroValue5
 t9 := Tryz.underlying9
 a9 := Tryz.isAgg9
 z9 := Tryz.sizeOf9
 v9 := Tryz.zeroValue9
 t21 := Tryz.underlying21
 a21 := Tryz.isAgg21
 z21 := Tryz.sizeOf21
 v21 := Tryz.zeroValue21
 t46 := Tryz.underlying216
 a46 := Tryz.isAgg216
 z46 := Tryz.sizeOf216
 v46 := Tryz.zeroValue216
 t116 := Tryz.underlying237
 a116 := Tryz.isAgg237
 z116 := Tryz.sizeOf237
 t117 := Tryz.underlying238
 a117 := Tryz.isAgg238
 z117 := Tryz.sizeOf238
 v117 := Tryz.zeroValue238
 t124 := Tryz.underlying250
 a124 := Tryz.isAgg250
 z124 := Tryz.sizeOf250
 v124 := Tryz.zeroValue250 }
def Tryz.lays152_ren : Go.Shelf.Ren := ⟨fun | 119 => 172 | 137 => 171 | 152 => 157 | 217 => 179 | 224 => 173 | 225 => 174 | 266 => 182 | n => n, fun | 0 => 0 | 3 => 3 | 4 => 4 | 5 => 5 | 9 => 9 | 21 => 21 | 46 => 216 | n => n, fun | n => n⟩
theorem Tryz.set153 : (Tryz.prog.info? 237).map (fun i => (i.zero, i.size)) = some (some (.agg (Array.replicate 256 (.bool false))), 256) := by kernel_rfl
end Go.Proofs
namespace Go.Proofs.YtemplkpcckmcoaaGreatDoor
set_option maxHeartbeats 16000000
open Lib (hid)
open Go.RowKit
set_option linter.unusedVariables false
set_option linter.unusedSimpArgs false
def CH : ByteArray := ⟨#[46, 59, 91, 47, 60, 62]⟩
def chs : List UInt8 := [46, 59, 91, 47, 60, 62]
theorem dec_far {l : List UInt8} {x : UInt8} (hx : l[0]? = some x) (h : 128 ≤ x.toNat) :
  128 ≤ (Lib.decodeL l).1 ∧ ((Lib.decodeL l).1 < 55296 ∨ (57343 < (Lib.decodeL l).1 ∧ (Lib.decodeL l).1 ≤ 1114111)) ∧ 1 ≤ (Lib.decodeL l).2 ∧ (Lib.decodeL l).2 ≤ l.length ∧ ∀ k b, k < (Lib.decodeL l).2 → l[k]? = some b → 128 ≤ b.toNat := by
 have hg : ∀ k b, l[k]? = some b → l.getD k 0 = b := fun k b hb => by rw [List.getD_eq_getElem?_getD, hb]; rfl
 have hl : 0 < l.length := by
  cases l with
  | nil => simp at hx
  | cons _ _ => simp
 have e0 := hg 0 x hx
 have hk : ∀ k b, l[k]? = some b → b.toNat = (l.getD k 0).toNat := fun k b hb => by rw [hg k b hb]
 have h0 : 128 ≤ (l.getD 0 0).toNat := by rw [e0]; exact h
 rw [Lib.decodeL_N]
 have l0 := (l.getD 0 0).toNat_lt
 have l1 := (l.getD 1 0).toNat_lt
 have l2 := (l.getD 2 0).toNat_lt
 have l3 := (l.getD 3 0).toNat_lt
 rcases Lib.decodeN_shape l.length (l.getD 0 0).toNat (l.getD 1 0).toNat (l.getD 2 0).toNat (l.getD 3 0).toNat with ⟨c, e⟩ | ⟨c1, c2, c3, cv, e⟩ | ⟨c1, c2, c3, c4, cv, cs, e⟩ | ⟨c1, c2, c3, c4, c5, cv, cw, e⟩ | e
 ·omega
 ·rw [e]
  refine ⟨cv, .inl (by simp only; omega), by simp, by simp only; omega, fun k b hkn hb => ?_⟩
  simp only at hkn
  have := hk k b hb
  rcases (by omega : k = 0 ∨ k = 1) with rfl | rfl <;> omega
 ·rw [e]
  refine ⟨by simp only; omega, by simp only; omega, by simp, by simp only; omega, fun k b hkn hb => ?_⟩
  simp only at hkn
  have := hk k b hb
  rcases (by omega : k = 0 ∨ k = 1 ∨ k = 2) with rfl | rfl | rfl <;> omega
 ·rw [e]
  refine ⟨by simp only; omega, .inr (by simp only; omega), by simp, by simp only; omega, fun k b hkn hb => ?_⟩
  simp only at hkn
  have := hk k b hb
  rcases (by omega : k = 0 ∨ k = 1 ∨ k = 2 ∨ k = 3) with rfl | rfl | rfl | rfl <;> omega
 ·rw [e]
  refine ⟨by simp, .inr (by simp), by simp, by simp only; omega, fun k b hkn hb => ?_⟩
  simp only at hkn
  have := hk k b hb
  obtain rfl : k = 0 := by omega
  omega
theorem encode_last {r : Int} (h0 : 128 ≤ r) (hv : r < 55296 ∨ (57343 < r ∧ r ≤ 1114111)) : ∃ n x, 1 ≤ n ∧ n ≤ 3 ∧ ∃ h : n < (Utf8.encode r).size, (Utf8.encode r)[n]'h = x ∧ 128 ≤ x.toNat ∧ (Utf8.encode r).size = n + 1 := by
 obtain ⟨h2, h4, h⟩ := encode_facts r (by simp only [Utf8.valid, Bool.or_eq_true, Bool.and_eq_true, decide_eq_true_eq]; omega) h0
 exact ⟨(Utf8.encode r).size - 1, _, by omega, by omega, by omega, rfl, h (by omega), by omega⟩
theorem validRune (r : Int) (h0 : 0 ≤ r) (hv : r < 55296 ∨ (57343 < r ∧ r ≤ 1114111)) (w : World) :
  Calls Tryz.prog 172 #[.int .i32 r] w fun e w' => e = .returned (.bool true) ∧ w = w' := by
 go_enter Tryz.func172, Tryz.ntmps172
 by_cases h1 : r < 55296
 ·go_wp2
  go_ret
  exact ⟨rfl, rfl⟩
 ·have h2 : (57343 : Int) < r := by omega
  have h3 : r ≤ 1114111 := by omega
  go_wp2
  go_ret
  exact ⟨rfl, rfl⟩
theorem indexByte_no : ∀ {l : List UInt8} {x : UInt8}, (∀ b ∈ l, b ≠ x) → Lib.indexByte l x = -1
 | [], _, _ => rfl
 | b :: l, x, h => by
  have hb : (b == x) = false := beq_eq_false_iff_ne.2 (h b (by simp))
  rw [Lib.indexByte, hb, indexByte_no (fun c hc => h c (by simp [hc]))]
  rfl
theorem ch_far (m : Nat) (b : UInt8) (h : CH.data.toList[m]? = some b) : b.toNat < 128 := by
 have : b ∈ CH.data.toList := List.mem_of_getElem? h
 simp [CH] at this
 rcases this with rfl | rfl | rfl | rfl | rfl | rfl <;> decide
theorem ch_lt (i : Nat) (h : i < CH.size) : (CH[i]'h).toNat < 128 := ch_far i _ (Lib.data_getElem? CH i h)
theorem ixByte (s : ByteArray) (c : Int) (w : World) : Calls Tryz.prog 171 #[.string s, .int .u8 c] w fun e w' => e = .returned (.int .i64 (Lib.indexByte s.data.toList c.toNat.toUInt8)) ∧ w' = w :=
 Any.strings_IndexByte { Tryz.lays153 with } s c w
theorem ixByteNo (a : Nat) (x : UInt8) (h : 128 ≤ x.toNat) (w : World) : Calls Tryz.prog 171 #[.string (CH.extract a 6), .int .u8 x.toNat] w fun e w' => e = .returned (.int .i64 (-1)) ∧ w' = w := by
 refine (ixByte _ _ w).mono ?_
 rintro e w' ⟨rfl, hw⟩
 refine ⟨?_, hw⟩
 have he : (CH.extract a 6).data.toList = CH.data.toList.drop a := Lib.extract_to_end CH a
 rw [he, Lib.byte_back, indexByte_no]
 intro b hb
 obtain ⟨m, hm⟩ := List.getElem?_of_mem (List.mem_of_mem_drop hb)
 rintro rfl
 have := ch_far m b hm
 omega
set_option maxRecDepth 100000 in
theorem runeBad (w : World) : Calls Tryz.prog 157 #[.string CH, .int .i32 65533] w fun e w' => e = .returned (.int .i64 (-1)) ∧ Only (fun _ => False) w w' := by
 go_enter Tryz.func157, Tryz.ntmps157
 go_wp2
 go_loopg [5, 6] 6 (fun g _ _ wx => ∃ i : Nat, i + g = 6 ∧ wx = w.iter CH i)
 case atStart => exact ⟨0, by omega, rfl⟩
 case round =>
  obtain ⟨i, hig, rfl⟩ := hrel
  cases gk with
  | zero =>
   obtain rfl : i = 6 := by omega
   have hnx := fun ty => run_next_end (P := Tryz.prog) w CH 6 ty (by decide)
   go_wp2
   go_ret
   exact ⟨rfl, ⟨rfl, rfl, rfl, by simp [World.iter], fun k hk _ => by rw [World.iter, World.alloc]; exact Array.getElem?_push_lt hk |>.trans (Array.getElem?_eq_getElem hk).symm⟩⟩
  | succ g =>
   have hi : i < CH.size := by show i < 6; omega
   have hx128 := ch_lt i hi
   have hnx := fun ty => run_next_ascii (P := Tryz.prog) w CH i ty hi hx128
   obtain ⟨z, hz⟩ : ∃ z : Int, (((CH[i]'hi).toNat : Nat) : Int) = z := ⟨_, rfl⟩
   have hne : ¬ z = 65533 := by omega
   rw [hz] at hnx
   clear hz hx128
   go_wp2
   go_roundg g
   case measure => omega
   case rel => exact ⟨i + 1, by omega, rfl⟩
set_option maxRecDepth 100000 in
theorem runeFar1 (r : Int) (rs : ByteArray) (x : UInt8) (h0 : 128 ≤ r) (hr : ¬ r = 65533) (hv : r < 55296 ∨ (57343 < r ∧ r ≤ 1114111)) (w : World) (hrs : Utf8.encode r = rs) (hsz : rs.size = 2) (hx : rs[1]'(by omega) = x) (hx128 : 128 ≤ x.toNat) :
  Calls Tryz.prog 157 #[.string CH, .int .i32 r] w fun e w' => e = .returned (.int .i64 (-1)) ∧ Only (fun _ => False) w w' := by
 have h00 : (0 : Int) ≤ r := by omega
 have hn128 : ¬ r < 128 := by omega
 have hV := fun w => validRune r h00 hv w
 have hlt : 1 < rs.size := by omega
 clear h0 hv h00
 go_enter Tryz.func157, Tryz.ntmps157
 go_wp2_with (go_at_call 172; refine (hV _).mono ?_; rintro e w' ⟨rfl, rfl⟩)
 go_step3
 rename_i hq1 hq2
 clear hq1 hq2
 clear hV
 go_wp2
 go_loopg [9, 10, 11, 12] 0 (fun _ v9 _ _ _ wx => v9 = .int .i64 1 ∧ wx = w)
 case atStart => exact ⟨rfl, rfl⟩
 case round =>
  obtain ⟨rfl, rfl⟩ := hrel
  have hch : CH.size = 6 := rfl
  have hw2 : IntKind.i64.wrap 2 = 2 := by decide
  have hc1 : ∀ h, CH[1]'h = 59 := fun _ => rfl
  have hne : ¬ ((59 : Int) = (x.toNat : Int)) := by omega
  go_wp2
  have hx1 : ∀ h, rs[1]'h = x := fun _ => hx
  have HB := fun a w => ixByteNo a x hx128 w
  clear hx
  go_step3
  go_wp2
  go_quiet (fail)
  go_wp2
  go_quiet ((go_at_call 171; exact (HB _ _).mono (fun _ _ h => ⟨h.1, _, h.2⟩)))
  go_wp2
  simp only [Exit.noGoto, Exit.inBlock, Exit.then]
  go_ret
  exact ⟨rfl, (Only.refl _ _).drewN _⟩
set_option maxRecDepth 100000 in
theorem runeFar2 (r : Int) (rs : ByteArray) (x : UInt8) (h0 : 128 ≤ r) (hr : ¬ r = 65533) (hv : r < 55296 ∨ (57343 < r ∧ r ≤ 1114111)) (w : World) (hrs : Utf8.encode r = rs) (hsz : rs.size = 3) (hx : rs[2]'(by omega) = x) (hx128 : 128 ≤ x.toNat) :
  Calls Tryz.prog 157 #[.string CH, .int .i32 r] w fun e w' => e = .returned (.int .i64 (-1)) ∧ Only (fun _ => False) w w' := by
 have h00 : (0 : Int) ≤ r := by omega
 have hn128 : ¬ r < 128 := by omega
 have hV := fun w => validRune r h00 hv w
 have hlt : 2 < rs.size := by omega
 clear h0 hv h00
 go_enter Tryz.func157, Tryz.ntmps157
 go_wp2_with (go_at_call 172; refine (hV _).mono ?_; rintro e w' ⟨rfl, rfl⟩)
 go_step3
 rename_i hq1 hq2
 clear hq1 hq2
 clear hV
 go_wp2
 go_loopg [9, 10, 11, 12] 0 (fun _ v9 _ _ _ wx => v9 = .int .i64 2 ∧ wx = w)
 case atStart => exact ⟨rfl, rfl⟩
 case round =>
  obtain ⟨rfl, rfl⟩ := hrel
  have hch : CH.size = 6 := rfl
  have hw2 : IntKind.i64.wrap 3 = 3 := by decide
  have hc1 : ∀ h, CH[2]'h = 91 := fun _ => rfl
  have hne : ¬ ((91 : Int) = (x.toNat : Int)) := by omega
  go_wp2
  have hx1 : ∀ h, rs[2]'h = x := fun _ => hx
  have HB := fun a w => ixByteNo a x hx128 w
  clear hx
  go_step3
  go_wp2
  go_quiet (fail)
  go_wp2
  go_quiet ((go_at_call 171; exact (HB _ _).mono (fun _ _ h => ⟨h.1, _, h.2⟩)))
  go_wp2
  simp only [Exit.noGoto, Exit.inBlock, Exit.then]
  go_ret
  exact ⟨rfl, (Only.refl _ _).drewN _⟩
set_option maxRecDepth 100000 in
theorem runeFar3 (r : Int) (rs : ByteArray) (x : UInt8) (h0 : 128 ≤ r) (hr : ¬ r = 65533) (hv : r < 55296 ∨ (57343 < r ∧ r ≤ 1114111)) (w : World) (hrs : Utf8.encode r = rs) (hsz : rs.size = 4) (hx : rs[3]'(by omega) = x) (hx128 : 128 ≤ x.toNat) :
  Calls Tryz.prog 157 #[.string CH, .int .i32 r] w fun e w' => e = .returned (.int .i64 (-1)) ∧ Only (fun _ => False) w w' := by
 have h00 : (0 : Int) ≤ r := by omega
 have hn128 : ¬ r < 128 := by omega
 have hV := fun w => validRune r h00 hv w
 have hlt : 3 < rs.size := by omega
 clear h0 hv h00
 go_enter Tryz.func157, Tryz.ntmps157
 go_wp2_with (go_at_call 172; refine (hV _).mono ?_; rintro e w' ⟨rfl, rfl⟩)
 go_step3
 rename_i hq1 hq2
 clear hq1 hq2
 clear hV
 go_wp2
 go_loopg [9, 10, 11, 12] 0 (fun _ v9 _ _ _ wx => v9 = .int .i64 3 ∧ wx = w)
 case atStart => exact ⟨rfl, rfl⟩
 case round =>
  obtain ⟨rfl, rfl⟩ := hrel
  have hch : CH.size = 6 := rfl
  have hw2 : IntKind.i64.wrap 4 = 4 := by decide
  have hc1 : ∀ h, CH[3]'h = 47 := fun _ => rfl
  have hne : ¬ ((47 : Int) = (x.toNat : Int)) := by omega
  go_wp2
  have hx1 : ∀ h, rs[3]'h = x := fun _ => hx
  have HB := fun a w => ixByteNo a x hx128 w
  clear hx
  go_step3
  go_wp2
  go_quiet (fail)
  go_wp2
  go_quiet ((go_at_call 171; exact (HB _ _).mono (fun _ _ h => ⟨h.1, _, h.2⟩)))
  go_wp2
  simp only [Exit.noGoto, Exit.inBlock, Exit.then]
  go_ret
  exact ⟨rfl, (Only.refl _ _).drewN _⟩
theorem runeFar (r : Int) (h0 : 128 ≤ r) (hv : r < 55296 ∨ (57343 < r ∧ r ≤ 1114111)) (w : World) : Calls Tryz.prog 157 #[.string CH, .int .i32 r] w fun e w' => e = .returned (.int .i64 (-1)) ∧ Only (fun _ => False) w w' := by
 by_cases hr : r = 65533
 ·subst hr
  exact runeBad w
 obtain ⟨n, x, hn1, hn3, hlt, hx, hx128, hsz⟩ := encode_last h0 hv
 rcases (by omega : n = 1 ∨ n = 2 ∨ n = 3) with rfl | rfl | rfl
 ·exact runeFar1 r _ x h0 hr hv w rfl hsz hx hx128
 ·exact runeFar2 r _ x h0 hr hv w rfl hsz hx hx128
 ·exact runeFar3 r _ x h0 hr hv w rfl hsz hx hx128
theorem NoAny_far {s chars : List UInt8} {i n : Nat} (h : Lib.NoAny s chars i) (hs : ∀ k b, i ≤ k → k < i + n → s[k]? = some b → chars.contains b = false) : Lib.NoAny s chars (i + n) := fun j b hj hb => by
 by_cases e : j < i
 ·exact h j b e hb
 ·exact hs j b (by omega) hj hb
theorem runeNear (r : Int) (h0 : 0 ≤ r) (h1 : r < 128) (w : World) : Calls Tryz.prog 157 #[.string CH, .int .i32 r] w fun e w' => e = .returned (.int .i64 (Lib.indexByte CH.data.toList r.toNat.toUInt8)) ∧ w' = w :=
 Any.strings_IndexRune_ascii { Tryz.lays153 with } CH r w h0 h1
theorem iter_only {w wr : World} (ho : Only (fun _ => False) w wr) (s : ByteArray) (i : Nat) : Only (fun _ => False) w (wr.iterAt w.heap.size s i) :=
 ⟨ho.os, ho.tape, ho.output, by rw [Lib.iterAt_size]; exact ho.size, fun k hk hn => by rw [Lib.iterAt_other wr w.heap.size k s i (by omega)]; exact ho.block k hk hn⟩
set_option maxRecDepth 100000 in
theorem anyShort (s : ByteArray) (w : World) (h8 : s.size ≤ 8) : Calls Tryz.prog 145 #[.string s, .string CH] w fun e w' => e = .returned (.int .i64 (Lib.indexAny s.data.toList CH.data.toList)) ∧ Only (fun _ => False) w w' := by
 have hemp : CH.toList.isEmpty = false := by rw [Lib.toList_data]; rfl
 have hch : CH.size = 6 := rfl
 have h8z : decide ((8 : Int) < (s.size : Int)) = false := decide_eq_false (by omega)
 have C1 := fun n w => Any.strings_shouldUseASCIISet (P := Tryz.prog) (ρ := Tryz.lays153_ren) { Tryz.lays153 with } n w
 go_enter Tryz.func145, Tryz.ntmps145
 go_wp2_with (go_at_call 158; refine (C1 _ _).mono ?_; rintro e w' ⟨rfl, hw⟩; rw [hw, h8z])
 clear C1 h8z
 go_loopw [9, 10] (fun _ _ wr => ∃ i : Nat, i ≤ s.size ∧ wr.heap[w.heap.size]? = some (.stringIter s i) ∧ Only (fun _ => False) w wr ∧ Lib.NoAny s.data.toList CH.data.toList i) (fun _ _ wr => s.size - wr.iterPos w.heap.size)
 case atStart => exact ⟨0, by omega, World.iter_heap w s 0, (Only.refl _ _).alloc _, Lib.NoAny.zero _ _⟩
 case round =>
  obtain ⟨i, hig, hit, ho, hno⟩ := hrel
  have HN : Aside (Lib.NoAny s.data.toList CH.data.toList i) := hno
  clear hno
  by_cases hi : i < s.size
  ·obtain ⟨x, hx⟩ : ∃ x : UInt8, s[i]'hi = x := ⟨_, rfl⟩
   have hxl : s.data.toList[i]? = some x := by rw [← hx]; exact Lib.data_getElem? s i hi
   have hm : ∀ d, 1 ≤ d → s.size - (i + d) < s.size - wr.iterPos w.heap.size := by intro d hd; simp only [World.iterPos, hit]; omega
   by_cases h128 : x.toNat < 128
   ·have hnx : ∀ ty, (Instr.next (.pointer (some ⟨w.heap.size, 0, none⟩)) true ty).run Tryz.prog wr = .ok (.tuple #[.bool true, .int .i64 i, .int .i32 (x.toNat : Int)]) (wr.iterAt w.heap.size s (i + 1)) := fun ty => by rw [Lib.run_next_ascii_at wr w.heap.size s i ty hit hi (by rw [hx]; exact h128), hx]
    have hoa : Only (fun _ => False) w (wr.iterAt w.heap.size s (i + 1)) := iter_only ho _ _
    have hita := Lib.iterAt_heap wr w.heap.size s i (i + 1) hit
    have hma := hm 1 (by omega)
    generalize wr.iterAt w.heap.size s (i + 1) = wa at *
    have Hx : Aside (s.data.toList[i]? = some x) := hxl
    have Hma := hid hma
    clear hxl hx hm hma ho hit
    have hcon := Lib.contains_iff_indexByte CH.data.toList x
    have hback : ((x.toNat : Int)).toNat.toUInt8 = x := by simp
    have R := fun w => runeNear (x.toNat : Int) (by omega) (by omega) w
    cases hin : CH.data.toList.contains x
    ·rw [hin] at hcon
     have hlt : ¬ ((0 : Int) ≤ Lib.indexByte CH.data.toList x) := of_decide_eq_false hcon.symm
     clear hcon
     go_wp2_with (go_at_call 157; refine (R _).mono ?_; rintro e w' ⟨rfl, hw⟩; rw [hw, hback])
     go_roundw
     case measure => rw [World.iterPos, hita]; exact Hma.out
     case rel => exact ⟨i + 1, by omega, hita, hoa, HN.out.succ Hx.out hin⟩
    ·rw [hin] at hcon
     have hge : (0 : Int) ≤ Lib.indexByte CH.data.toList x := of_decide_eq_true hcon.symm
     clear hcon
     go_wp2_with (go_at_call 157; refine (R _).mono ?_; rintro e w' ⟨rfl, hw⟩; rw [hw, hback])
     go_ret
     exact ⟨by rw [Lib.indexAny_hit HN.out Hx.out hin]; rfl, hoa⟩
   ·have hd0 : (s.data.toList.drop i)[0]? = some x := by rw [List.getElem?_drop]; exact hxl
    obtain ⟨hc1, hc2, hn1, hn2, hfar⟩ := dec_far hd0 (by omega)
    rw [Lib.decodeL_drop] at hc1 hc2 hn1 hn2 hfar
    have hn2' : i + (Utf8.decode s i).2 ≤ s.size := by rw [List.length_drop, ← Lib.size_eq] at hn2; omega
    have hno2 : Lib.NoAny s.data.toList CH.data.toList (i + (Utf8.decode s i).2) := NoAny_far HN.out (fun k b hk1 hk2 hb => by
     have h1 := hfar (k - i) b (by omega) (by rw [List.getElem?_drop, show i + (k - i) = k by omega]; exact hb)
     cases hcc : CH.data.toList.contains b with
     | false => rfl
     | true =>
      obtain ⟨m, hm2⟩ := List.getElem?_of_mem (List.contains_iff_mem.1 hcc)
      have := ch_far m b hm2
      omega)
    have hnx : ∀ ty, (Instr.next (.pointer (some ⟨w.heap.size, 0, none⟩)) true ty).run Tryz.prog wr = .ok (.tuple #[.bool true, .int .i64 i, .int .i32 ((Utf8.decode s i).1 : Int)]) (wr.iterAt w.heap.size s (i + (Utf8.decode s i).2)) := fun ty => by rw [Lib.run_next_any_at wr w.heap.size s i ty hit hi]
    have hma := hm (Utf8.decode s i).2 hn1
    obtain ⟨c, hc⟩ : ∃ c : Int, ((Utf8.decode s i).1 : Int) = c := ⟨_, rfl⟩
    have hc128 : 128 ≤ c := by omega
    have hcv : c < 55296 ∨ (57343 < c ∧ c ≤ 1114111) := by omega
    rw [hc] at hnx
    obtain ⟨n, hn⟩ : ∃ n, (Utf8.decode s i).2 = n := ⟨_, rfl⟩
    rw [hn] at hnx hma hno2 hn2'
    clear hfar hn1 hn2 hc1 hc2 hc hn hd0 h128 hxl hx hm
    have hoa : Only (fun _ => False) w (wr.iterAt w.heap.size s (i + n)) := iter_only ho _ _
    have hita := Lib.iterAt_heap wr w.heap.size s i (i + n) hit
    generalize wr.iterAt w.heap.size s (i + n) = wa at *
    have Hma := hid hma
    have HN2 := hid hno2
    have HN2' := hid hn2'
    clear hma hno2 ho hit hn2'
    have R := fun w => runeFar c hc128 hcv w
    clear hc128 hcv
    go_wp2_with (go_at_call 157; refine (R _).mono ?_; rintro e w' ⟨rfl, hw⟩)
    have hs1 := hw.heap hita (fun h => h)
    go_roundw
    case measure => rw [World.iterPos, hs1]; exact Hma.out
    case rel => exact ⟨i + n, HN2'.out, hs1, hoa.trans hw (fun _ h => h.elim), HN2.out⟩
  ·have hnx := fun ty => Lib.run_next_end_at (P := Tryz.prog) wr w.heap.size s i ty hit hi
   go_wp2
   go_ret
   obtain rfl : i = s.size := by omega
   exact ⟨by rw [Lib.indexAny_none (by rw [← Lib.size_eq]; exact HN.out)]; rfl, ho⟩
theorem anyAt (s : ByteArray) (w : World) (hs : s.size < 4294967281) : Calls Tryz.prog 145 #[.string s, .string CH] w fun e w' => e = .returned (.int .i64 (Lib.indexAny s.data.toList CH.data.toList)) ∧ Only (fun _ => False) w w' := by
 by_cases h8 : s.size ≤ 8
 ·exact anyShort s w h8
 ·refine (Any.strings_IndexAny_long Tryz.lays153 (zero_of_info Tryz.set153).1 (zero_of_info Tryz.set153).2 s CH w (by decide) (by omega) hs (by decide) ch_far).mono ?_
  rintro e w' ⟨h1, h2⟩
  exact ⟨h1, h2 ▸ ((Only.refl _ _).alloc _).alloc _⟩
theorem contAny (s : ByteArray) (w : World) (hs : s.size < 4294967281) : Calls Tryz.prog 124 #[.string s, .string CH] w fun e w' => e = .returned (.bool (Lib.containsAny s.data.toList CH.data.toList)) ∧ Only (fun _ => False) w w' := by
 have C := anyAt s w hs
 go_enter Tryz.func124, Tryz.ntmps124
 go_wp2_with (go_at_call 145; refine C.mono ?_; rintro e w' ⟨rfl, hw⟩)
 go_ret
 exact ⟨rfl, hw⟩
theorem any_bad : ∀ l : List UInt8, Lib.containsAny l CH.data.toList = (numsL l).any badC
 | [] => rfl
 | b :: l => by
  have ih := any_bad l
  have hge := Lib.indexAny_ge CH.data.toList l
  have hb : CH.data.toList.contains b = badC (b.toNat : Int) := by
   have h : ∀ c : UInt8, (b == c) = ((b.toNat : Int) == (c.toNat : Int)) := fun c => by
    rw [Bool.eq_iff_iff, beq_iff_eq, beq_iff_eq]
    exact ⟨fun e => by rw [e], fun e => UInt8.toNat_inj.1 (by omega)⟩
   show List.contains [46, 59, 91, 47, 60, 62] b = _
   simp only [List.contains_cons, List.contains_nil, Bool.or_false, h]
   rfl
  have e : (numsL (b :: l)).any badC = (badC (b.toNat : Int) || (numsL l).any badC) := rfl
  rw [e, ← hb, ← ih]
  unfold Lib.containsAny
  rw [Lib.indexAny]
  cases CH.data.toList.contains b with
  | true => rfl
  | false =>
   rw [if_neg Bool.false_ne_true, Bool.false_or]
   by_cases h1 : Lib.indexAny l CH.data.toList = -1
   ·rw [h1]; rfl
   ·rw [if_neg (by simpa using h1)]
    congr 1
    apply propext
    omega
theorem plain_any (s : ByteArray) (h : s.size ≤ 256) : plainN (nums s) = (!s.toList.isEmpty && !Lib.containsAny s.data.toList CH.data.toList) := by
 rw [any_bad]
 unfold plainN
 have hl : (nums s).length = s.size := nums_len s
 have e1 : decide (1 ≤ (nums s).length) = !s.toList.isEmpty := by
  rw [hl, Lib.toList_data]
  cases hd : s.data.toList with
  | nil => have := Lib.size_eq s; rw [hd, List.length_nil] at this; rw [this]; rfl
  | cons _ _ => have := Lib.size_eq s; rw [hd, List.length_cons] at this; rw [this]; simp
 have e2 : decide ((nums s).length ≤ 256) = true := by rw [hl]; exact decide_eq_true h
 rw [e1, e2, Bool.and_true, List.not_any_eq_all_not]
 rfl
set_option maxRecDepth 100000 in
theorem pIsName (s : ByteArray) (w : World) (h : s.size ≤ 256) : Calls Tryz.prog 105 #[.string s] w fun e w' => e = .returned (.bool (plainN (nums s))) ∧ Only (fun _ => False) w w' := by
 rw [plain_any s h]
 have C := contAny s w (by omega)
 have C2 : Calls Tryz.prog 124 #[.string s, .string ⟨#[46, 59, 91, 47, 60, 62]⟩] w _ := C
 clear C
 go_enter Tryz.func105, Tryz.ntmps105
 cases he : s.toList.isEmpty
 ·go_wp2_with (go_at_call 124; refine C2.mono ?_; rintro e w' ⟨rfl, hw⟩)
  go_ret
  exact ⟨rfl, hw⟩
 ·go_wp2
  go_ret
  exact ⟨rfl, Only.refl _ _⟩
end Go.Proofs.YtemplkpcckmcoaaGreatDoor
