import Derived.Test.YtinbelghhfodiaaGreatDoorMaTlk
import Derived.Test.YtinbelghhfodiaaGreatDoorMaRuwARulE
import Derived.Test.YtinbelghhfodiaaGreatDoorMaKndOLpO
import Derived.Test.YtinbelghhfodiaaGreatDoorMaTillPolI
import Derived.Test.YtinbelghhfodiaaGreatDoorMaLnkHLnkN
namespace Go.Proofs.YtinbelghhfodiaaGreatDoor
set_option maxHeartbeats 16000000
open Lib (hid)
open Go.RowKit
set_option linter.unusedVariables false
set_option linter.unusedSimpArgs false
theorem Only.setRowT {S : Nat → Prop} {a w : World} (h : Only S a w) {g : Nat} (hg : g < a.heap.size → S g) (cs : Array Value) : Only S a (w.setRow g cs) := by
 refine ⟨h.os, h.tape, h.output, by simpa [World.setRow] using h.size, fun k hk hs => ?_⟩
 rw [setRow_other _ _ _ _ (fun e => hs (by rw [e]; exact hg (by rw [← e]; exact hk)))]
 exact h.block k hk hs
theorem copy_over {W : World} {B g : Nat} {u : Value} {base : List TypeV} {L : Nat} {ty : TypeId} (hu : TRow W B u base) (hg : W.heap[g]? = some (.cells (madeCells zcT (L * 5)) 33 (0, 0))) :
  (Builtin.copy_ #[23, 23] ty #[.slice (some ⟨g, 0, none⟩) L L, u]).run Tryz.prog W = .ok (goInt (Nat.min base.length L)) (W.setRow g ((base.take L ++ List.replicate (L - base.length) zeroT).flatMap cellsTy).toArray) := by
 obtain ⟨i0, hi, hz0, hz1, hz2⟩ := info_parts info_type
 have hsrc := Src.of_types hu.types
 have hcz := first_cells base L
 obtain ⟨h1, h2, ao, c, rfl, h3, h4⟩ := hsrc
 cases ao with
 | none =>
  obtain ⟨hb, rfl⟩ := h3 rfl
  obtain rfl : base = [] := List.eq_nil_of_length_eq_zero hb
  have := run_copy_nil (P := Tryz.prog) W 23 23 ty 33 ⟨g, 0, none⟩ L L Tryz.underlying23 (by rw [hi]; rfl)
  rw [show (([] : List TypeV).length) = 0 from rfl, this]
  simp only [List.take_nil, List.flatMap_nil, List.append_nil, List.length_nil, Nat.add_zero, List.take_zero, List.nil_append, List.drop_zero] at hcz
  simp only [List.take_nil, List.nil_append, List.length_nil]
  rw [← hcz, Array.toArray_toList, setRow_self W g _ _ _ hg]
  try simp
 | some a =>
  have hlen : ((base.take L).flatMap cellsTy).length = Nat.min base.length L * 5 := by rw [flat_lenT, List.length_take, Nat.min_comm]
  have := run_copy_rowN Tryz.prog W 23 23 ty 33 g 0 L L a base.length c (madeCells zcT (L * 5)) 33 ((base.take L).flatMap cellsTy) 5 Tryz.underlying23 (by rw [hi]; simpa using hz1) hg hlen (fun j v hj => h4 a rfl j v (by
   rw [← flat_takeT] at hj
   rw [List.getElem?_take] at hj
   split at hj
   ·exact hj
   ·cases hj)) (by rw [hlen, size_madeCells, Nat.zero_add]; exact Nat.mul_le_mul_right _ (Nat.min_le_right _ _)) (fun v hv => by
   obtain ⟨x, _, hx⟩ := List.mem_flatMap.1 hv
   simp only [cellsTy, List.mem_cons, List.mem_nil_iff, or_false] at hx
   rcases hx with rfl | rfl | rfl | rfl | rfl <;> rfl)
  rw [hcz] at this
  exact this
section
variable {w : World} {xb pb : Nat} {ks : List KindV} {p : PlcV} (h : PlaceP w xb pb ks p) {G : Nat → Prop} {fv : Nat → Value} {cl : Nat → ClassV} {sl : Nat → Nat → Int} (hp : ProgG G fv w pb ks cl sl) (hn : 0 < ks.length)
include h hp hn
set_option maxRecDepth 100000 in
theorem pBegin (fl a1 a2 stk : Int) (L : Nat) (vc vt vm tv : Value) (name : ByteArray) (ts : List TypeV) (hts : Types w tv ts) (h16 : ts.length ≤ 16) (hL : L ≤ 64) :
  Calls Tryz.prog 46 #[.pointer (some ⟨xb, 0, none⟩), .agg #[.int .i64 fl, .int .i64 a1, .int .i64 a2, .int .i64 stk, .int .i64 (L : Int), vc, vt, vm], .string name, tv] w (FrTo w (firstZ fl (nameZ ks p.cls) (decide (name = initB)) ts L) [] (decide (name = initB))) := by
 obtain ⟨i0, hi, hz0, hz1, hz2⟩ := info_parts info_type
 have ho := ((Only.refl (fun _ => False) w).alloc (.cells #[.int .i64 fl, .int .i64 a1, .int .i64 a2, .int .i64 stk, .int .i64 (L : Int), vc, vt, vm] 63)).alloc (.cells #[.slice none 0 0, .slice none 0 0, .bool false] 25)
 have hm0 : ((w.alloc (.cells #[.int .i64 fl, .int .i64 a1, .int .i64 a2, .int .i64 stk, .int .i64 (L : Int), vc, vt, vm] 63)).alloc (.cells #[.slice none 0 0, .slice none 0 0, .bool false] 25)).heap[w.heap.size]? = some (.cells #[.int .i64 fl, .int .i64 a1, .int .i64 a2, .int .i64 stk, .int .i64 (L : Int), vc, vt, vm] 63 (0, 0)) := ((Only.refl (fun _ => False) _).alloc _).heap (heap_alloc_new w _) (fun h => h)
 have hr0 : ((w.alloc (.cells #[.int .i64 fl, .int .i64 a1, .int .i64 a2, .int .i64 stk, .int .i64 (L : Int), vc, vt, vm] 63)).alloc (.cells #[.slice none 0 0, .slice none 0 0, .bool false] 25)).heap[w.heap.size + 1]? = some (.cells #[.slice none 0 0, .slice none 0 0, .bool false] 25 (0, 0)) := by
  have := heap_alloc_new (w.alloc (.cells #[.int .i64 fl, .int .i64 a1, .int .i64 a2, .int .i64 stk, .int .i64 (L : Int), vc, vt, vm] 63)) (.cells #[.slice none 0 0, .slice none 0 0, .bool false] 25)
  rwa [World.size_alloc] at this
 have hs0 : ((w.alloc (.cells #[.int .i64 fl, .int .i64 a1, .int .i64 a2, .int .i64 stk, .int .i64 (L : Int), vc, vt, vm] 63)).alloc (.cells #[.slice none 0 0, .slice none 0 0, .bool false] 25)).heap.size = w.heap.size + 2 := by simp
 obtain ⟨W0, hW0⟩ : ∃ W0, (w.alloc (.cells #[.int .i64 fl, .int .i64 a1, .int .i64 a2, .int .i64 stk, .int .i64 (L : Int), vc, vt, vm] 63)).alloc (.cells #[.slice none 0 0, .slice none 0 0, .bool false] 25) = W0 := ⟨_, rfl⟩
 rw [hW0] at ho hm0 hr0 hs0
 have CT := hid (fun fr => pThis (h.only ho) (hp.only ho) hn fr)
 have HTS := hid (hts.only ho)
 obtain ⟨at_, ct, rfl, p1, p2, -, -⟩ := id hts
 have c0 := cell_blk hm0 0
 have c4 := cell_blk hm0 4
 simp only [List.getElem?_toArray, List.getElem?_cons_zero, List.getElem?_cons_succ] at c0 c4
 have HM := hid hm0
 have HR := hid hr0
 have HS := hid hs0
 have HO := hid ho
 have HW0 := hid hW0
 have hnm := init_eq name
 obtain ⟨fr, hfr⟩ : ∃ x, decide (name = initB) = x := ⟨_, rfl⟩
 rw [hfr] at hnm ⊢
 have HZ := hid (show firstZ fl (nameZ ks p.cls) fr ts L = (baseT fl (nameZ ks p.cls) fr ts).take L ++ List.replicate (L - (baseT fl (nameZ ks p.cls) fr ts).length) zeroT from rfl)
 have HB16 := hid (show (baseT fl (nameZ ks p.cls) fr ts).length ≤ 17 by unfold baseT; rw [List.length_append]; split <;> simp <;> omega)
 have HFL := hid (firstZ_len fl (nameZ ks p.cls) fr ts L)
 have hbz : baseT fl (nameZ ks p.cls) fr ts = (if fl = 8 then [] else [thisT (nameZ ks p.cls) fr]) ++ ts := rfl
 obtain ⟨nm, hnmz⟩ : ∃ x, nameZ ks p.cls = x := ⟨_, rfl⟩
 rw [hnmz] at CT HZ HB16 HFL hbz ⊢
 generalize firstZ fl nm fr ts L = fz at *
 generalize baseT fl nm fr ts = bs at *
 clear h hp hts hm0 hr0 hs0 ho hW0 hfr hnmz
 go_enter Tryz.func46, Tryz.ntmps46
 go_upto_region 2 with fail
 rw [HW0.out]
 by_cases h8 : fl = 8
 ·rw [if_pos h8, List.nil_append] at hbz
  have HBZ := hid hbz
  have hfb : (fl != 8) = false := by rw [bne_eq_false_iff_eq]; exact h8
  have HSRC := hid (Src.of_types HTS.out)
  clear hbz h8
  go_upto_region 6 with (at_builtin; go_loud (refine wpList_append_src rfl (.tmp 23) (.tmp 24) 23 rfl 33 i0 (.agg #[.int .i64 0, .string ⟨#[]⟩, .int .i64 0, .int .i64 0, .int .i64 0]) 5 48 Tryz.underlying23 hi hz0 hz1 hz2 rfl (by decide) W0.heap.size (.slice none 0 0) 0 [] rfl (World.ownsRow_nil _ _ _ _) (Nat.le_refl _) (.slice at_ ts.length ct) ts.length (ts.flatMap cellsTy) rfl (by exact HSRC.out) (by unfold maxLen; omega) (by omega) ?_); intro v5 w5 hown hgrow hnew; have HROW : Hid (TRow w5 W0.heap.size v5 bs) := hid (by rw [HBZ.out]; unfold TRow; simpa using hown); have HON := hid ((Only.refl (fun _ => False) W0).grown hgrow (fun k hk hl => by cases hk)); clear hown hgrow hnew)
  have hm5 := cell_blk (HON.out.heap HM.out (fun h => h)) 4
  simp only [List.getElem?_toArray, List.getElem?_cons_zero, List.getElem?_cons_succ] at hm5
  obtain ⟨av, cv5, rfl, -⟩ := slice_of_owns HROW.out
  have hmk := run_mkTy L (by omega) w5
  have hL0 : (0 : Int) ≤ (L : Int) := by omega
  go_upto_region 7 with fail
  have hg7 : ((w5.alloc (.cells (madeCells zcT (L * 5)) 33)).alloc (.cells #[.slice (some ⟨w5.heap.size, 0, none⟩) L L, .slice none 0 0, .bool fr] 25)).heap[w5.heap.size]? = some (.cells (madeCells zcT (L * 5)) 33 (0, 0)) := ((Only.refl (fun _ => False) _).alloc _).heap (heap_alloc_new w5 _) (fun h => h)
  have hf7 : ((w5.alloc (.cells (madeCells zcT (L * 5)) 33)).alloc (.cells #[.slice (some ⟨w5.heap.size, 0, none⟩) L L, .slice none 0 0, .bool fr] 25)).heap[w5.heap.size + 1]? = some (.cells #[.slice (some ⟨w5.heap.size, 0, none⟩) L L, .slice none 0 0, .bool fr] 25 (0, 0)) := by
   have := heap_alloc_new (w5.alloc (.cells (madeCells zcT (L * 5)) 33)) (.cells #[.slice (some ⟨w5.heap.size, 0, none⟩) L L, .slice none 0 0, .bool fr] 25)
   rwa [World.size_alloc] at this
  have ho7 := ((Only.refl (fun _ => False) w5).alloc (.cells (madeCells zcT (L * 5)) 33)).alloc (.cells #[.slice (some ⟨w5.heap.size, 0, none⟩) L L, .slice none 0 0, .bool fr] 25)
  have hs7 : ((w5.alloc (.cells (madeCells zcT (L * 5)) 33)).alloc (.cells #[.slice (some ⟨w5.heap.size, 0, none⟩) L L, .slice none 0 0, .bool fr] 25)).heap.size = w5.heap.size + 2 := by simp
  obtain ⟨W7, hW7⟩ : ∃ W7, (w5.alloc (.cells (madeCells zcT (L * 5)) 33)).alloc (.cells #[.slice (some ⟨w5.heap.size, 0, none⟩) L L, .slice none 0 0, .bool fr] 25) = W7 := ⟨_, rfl⟩
  rw [hW7] at hg7 hf7 ho7 hs7 ⊢
  have hcp := fun ty => copy_over (ty := ty) (HROW.out.only ho7 (fun _ _ h => h)) hg7
  rw [← HZ.out] at hcp
  have hc7 := cell_blk hf7 0
  simp only [List.getElem?_toArray, List.getElem?_cons_zero] at hc7
  have HG7 := hid hg7
  have HF7 := hid hf7
  have HO7 := hid ho7
  have HS7 := hid hs7
  clear hg7 hf7 ho7 hs7 hW7 hmk hm5
  go_upto_region 8 with fail
  have hg8 := setRow_heap W7 w5.heap.size _ (fz.flatMap cellsTy).toArray _ _ HG7.out
  have ho8 := Only.setRowT (S := fun k => k = w5.heap.size) (Only.refl _ W7) (g := w5.heap.size) (fun _ => rfl) (fz.flatMap cellsTy).toArray
  obtain ⟨W8, hW8⟩ : ∃ W8, W7.setRow w5.heap.size (fz.flatMap cellsTy).toArray = W8 := ⟨_, rfl⟩
  rw [hW8] at hg8 ho8 ⊢
  have hf8 := ho8.heap HF7.out (by omega)
  have h05 := HON.out.size
  have hs := HS.out
  have ho58 : Only (fun _ => False) w5 W8 := HO7.out.trans ho8 (fun k hk hl => by subst hk; exact absurd hl (Nat.lt_irrefl _))
  have hr8 := ho58.heap (HON.out.heap HR.out (fun h => h)) (fun h => h)
  obtain ⟨x0, x1, x2⟩ := cells3 hf8
  obtain ⟨y0, y1, y2⟩ := cells3 hr8
  obtain ⟨m0, m1, m2⟩ := marks3 hr8
  have HR8 := hid hr8
  have HG8 := hid hg8
  have H058 := hid (HON.out.trans ho58 (fun _ h _ => h))
  have H5 := hid h05
  clear hg8 ho8 hf8 hr8 ho58 hW8 hcp hc7 h05
  go_wp2
  have h05 := H5.out
  have hos : Only (fun k => k < W0.heap.size) W8 (((W8.setCell ⟨w.heap.size + 1, 0, none⟩ (.slice (some ⟨w5.heap.size, 0, none⟩) L L)).setCell ⟨w.heap.size + 1, 1, none⟩ (.slice none 0 0)).setCell ⟨w.heap.size + 1, 2, none⟩ (.bool fr)) := only3 (Only.refl _ _) (fun _ => by omega)
  have hgz := hos.heap HG8.out (by omega)
  refine bodyPost_ret (frame_alone (b := w.heap.size + 1) Tryz.results46 (store3 HR8.out) rfl) rfl ⟨_, _, w5.heap.size + 1, rfl, ?_, TRow.nil _ _, by omega, fun k hk => ?_, ?_⟩
  ·have e := HFL.out
   unfold TRow
   rw [e]
   exact ⟨by rw [flat_lenT, e], .inr ⟨w5.heap.size, L, _, rfl, by omega, hgz, Nat.le_refl _, by unfold maxLen; omega, by simp only [List.size_toArray]; rw [flat_lenT, e], by rw [List.take_of_length_le (by simp only [List.size_toArray] at *; rw [flat_lenT, e]; exact Nat.le_refl _)]⟩⟩
  ·simp only [Value.ownBlock, Option.some.injEq] at hk
   omega
  ·exact only3 (HO.out.trans H058.out (fun _ h _ => h)) (fun hl => absurd hl (by omega))
 ·rw [if_neg h8] at hbz
  have HBZ := hid hbz
  have hfb : (fl != 8) = true := by simpa using h8
  have CTf := hid (CT.out fr)
  obtain ⟨u, hu⟩ : ∃ x, thisT nm fr = x := ⟨_, rfl⟩
  rw [hu] at CTf HBZ
  clear hbz h8 hu CT
  go_wp2_with (fail)
  refine CTf.out.mono ?_
  rintro e w2 ⟨rfl, ho2⟩
  unfold valT
  have HSRC1 := hid (Src.type (w := w2) u rfl)
  have HO2 := hid ho2
  have HT2 := hid (HTS.out.only (ho2.alloc (.cells #[.int .i64 u.k, .string u.name, .int .i64 u.dims, .int .i64 u.elem, .int .i64 u.at_] 33)))
  clear ho2 CTf
  go_upto_region 5 with (at_builtin; go_loud (refine wpList_append_src rfl (.tmp 17) (.tmp 21) 23 rfl 33 i0 (.agg #[.int .i64 0, .string ⟨#[]⟩, .int .i64 0, .int .i64 0, .int .i64 0]) 5 48 Tryz.underlying23 hi hz0 hz1 hz2 rfl (by decide) W0.heap.size (.slice none 0 0) 0 [] rfl (World.ownsRow_nil _ _ _ _) (by have := (HO2.out.alloc (.cells #[.int .i64 u.k, .string u.name, .int .i64 u.dims, .int .i64 u.elem, .int .i64 u.at_] 33)).size; exact this) (.slice (some ⟨w2.heap.size, 0, none⟩) 1 1) 1 (cellsTy u) rfl (by exact HSRC1.out) (by unfold maxLen; omega) (by omega) ?_); intro v4 w4 hown hgrow hnew; have HROW4 : Hid (TRow w4 W0.heap.size v4 [u]) := hid (by unfold TRow; simpa using hown); have HON4 := hid (((HO2.out.alloc (.cells #[.int .i64 u.k, .string u.name, .int .i64 u.dims, .int .i64 u.elem, .int .i64 u.at_] 33))).trans ((Only.refl (fun _ => False) _).grown hgrow (fun k hk hl => by cases hk)) (fun _ h _ => h)); have HG4 := hid ((Only.refl (fun _ => False) (w2.alloc (.cells #[.int .i64 u.k, .string u.name, .int .i64 u.dims, .int .i64 u.elem, .int .i64 u.at_] 33))).grown hgrow (fun k hk hl => by cases hk)); clear hown hgrow hnew)
  obtain ⟨a4, k4, rfl, -⟩ := slice_of_owns HROW4.out
  have HSRC := hid (Src.of_types (HT2.out.only HG4.out))
  have HSZ4 := hid HON4.out.size
  have HGE4 := hid HROW4.out.ge
  go_upto_region 6 with (at_builtin; go_loud (refine wpList_append_src rfl (.tmp 23) (.tmp 24) 23 rfl 33 i0 (.agg #[.int .i64 0, .string ⟨#[]⟩, .int .i64 0, .int .i64 0, .int .i64 0]) 5 48 Tryz.underlying23 hi hz0 hz1 hz2 rfl (by decide) W0.heap.size (.slice a4 1 k4) 1 (cellsTy u) rfl (by exact (show w4.ownsRow W0.heap.size _ 5 _ 1 (cellsTy u) by have := HROW4.out; unfold TRow at this; simpa using this)) (by exact HSZ4.out) (.slice at_ ts.length ct) ts.length (ts.flatMap cellsTy) rfl (by exact HSRC.out) (by unfold maxLen; omega) (by omega) ?_); intro v5 w5 hown hgrow hnew; have HROW : Hid (TRow w5 W0.heap.size v5 bs) := hid (by rw [HBZ.out]; unfold TRow; rw [List.length_append, List.flatMap_append]; simpa [Nat.add_comm] using hown); have HON := hid (HON4.out.trans ((Only.refl (fun k => (Value.slice a4 1 k4).ownBlock = some k) w4).grown hgrow (fun k hk _ => hk)) (fun k hk hl => by have := (HGE4.out k hk).1; omega)); clear hown hgrow hnew)
  have hm5 := cell_blk (HON.out.heap HM.out (fun h => h)) 4
  simp only [List.getElem?_toArray, List.getElem?_cons_zero, List.getElem?_cons_succ] at hm5
  obtain ⟨av, cv5, rfl, -⟩ := slice_of_owns HROW.out
  have hmk := run_mkTy L (by omega) w5
  have hL0 : (0 : Int) ≤ (L : Int) := by omega
  go_upto_region 7 with fail
  have hg7 : ((w5.alloc (.cells (madeCells zcT (L * 5)) 33)).alloc (.cells #[.slice (some ⟨w5.heap.size, 0, none⟩) L L, .slice none 0 0, .bool fr] 25)).heap[w5.heap.size]? = some (.cells (madeCells zcT (L * 5)) 33 (0, 0)) := ((Only.refl (fun _ => False) _).alloc _).heap (heap_alloc_new w5 _) (fun h => h)
  have hf7 : ((w5.alloc (.cells (madeCells zcT (L * 5)) 33)).alloc (.cells #[.slice (some ⟨w5.heap.size, 0, none⟩) L L, .slice none 0 0, .bool fr] 25)).heap[w5.heap.size + 1]? = some (.cells #[.slice (some ⟨w5.heap.size, 0, none⟩) L L, .slice none 0 0, .bool fr] 25 (0, 0)) := by
   have := heap_alloc_new (w5.alloc (.cells (madeCells zcT (L * 5)) 33)) (.cells #[.slice (some ⟨w5.heap.size, 0, none⟩) L L, .slice none 0 0, .bool fr] 25)
   rwa [World.size_alloc] at this
  have ho7 := ((Only.refl (fun _ => False) w5).alloc (.cells (madeCells zcT (L * 5)) 33)).alloc (.cells #[.slice (some ⟨w5.heap.size, 0, none⟩) L L, .slice none 0 0, .bool fr] 25)
  have hs7 : ((w5.alloc (.cells (madeCells zcT (L * 5)) 33)).alloc (.cells #[.slice (some ⟨w5.heap.size, 0, none⟩) L L, .slice none 0 0, .bool fr] 25)).heap.size = w5.heap.size + 2 := by simp
  obtain ⟨W7, hW7⟩ : ∃ W7, (w5.alloc (.cells (madeCells zcT (L * 5)) 33)).alloc (.cells #[.slice (some ⟨w5.heap.size, 0, none⟩) L L, .slice none 0 0, .bool fr] 25) = W7 := ⟨_, rfl⟩
  rw [hW7] at hg7 hf7 ho7 hs7 ⊢
  have hcp := fun ty => copy_over (ty := ty) (HROW.out.only ho7 (fun _ _ h => h)) hg7
  rw [← HZ.out] at hcp
  have hc7 := cell_blk hf7 0
  simp only [List.getElem?_toArray, List.getElem?_cons_zero] at hc7
  have HG7 := hid hg7
  have HF7 := hid hf7
  have HO7 := hid ho7
  have HS7 := hid hs7
  clear hg7 hf7 ho7 hs7 hW7 hmk hm5
  go_upto_region 8 with fail
  have hg8 := setRow_heap W7 w5.heap.size _ (fz.flatMap cellsTy).toArray _ _ HG7.out
  have ho8 := Only.setRowT (S := fun k => k = w5.heap.size) (Only.refl _ W7) (g := w5.heap.size) (fun _ => rfl) (fz.flatMap cellsTy).toArray
  obtain ⟨W8, hW8⟩ : ∃ W8, W7.setRow w5.heap.size (fz.flatMap cellsTy).toArray = W8 := ⟨_, rfl⟩
  rw [hW8] at hg8 ho8 ⊢
  have hf8 := ho8.heap HF7.out (by omega)
  have h05 := HON.out.size
  have hs := HS.out
  have ho58 : Only (fun _ => False) w5 W8 := HO7.out.trans ho8 (fun k hk hl => by subst hk; exact absurd hl (Nat.lt_irrefl _))
  have hr8 := ho58.heap (HON.out.heap HR.out (fun h => h)) (fun h => h)
  obtain ⟨x0, x1, x2⟩ := cells3 hf8
  obtain ⟨y0, y1, y2⟩ := cells3 hr8
  obtain ⟨m0, m1, m2⟩ := marks3 hr8
  have HR8 := hid hr8
  have HG8 := hid hg8
  have H058 := hid (HON.out.trans ho58 (fun _ h _ => h))
  have H5 := hid h05
  clear hg8 ho8 hf8 hr8 ho58 hW8 hcp hc7 h05
  go_wp2
  have h05 := H5.out
  have hos : Only (fun k => k < W0.heap.size) W8 (((W8.setCell ⟨w.heap.size + 1, 0, none⟩ (.slice (some ⟨w5.heap.size, 0, none⟩) L L)).setCell ⟨w.heap.size + 1, 1, none⟩ (.slice none 0 0)).setCell ⟨w.heap.size + 1, 2, none⟩ (.bool fr)) := only3 (Only.refl _ _) (fun _ => by omega)
  have hgz := hos.heap HG8.out (by omega)
  refine bodyPost_ret (frame_alone (b := w.heap.size + 1) Tryz.results46 (store3 HR8.out) rfl) rfl ⟨_, _, w5.heap.size + 1, rfl, ?_, TRow.nil _ _, by omega, fun k hk => ?_, ?_⟩
  ·have e := HFL.out
   unfold TRow
   rw [e]
   exact ⟨by rw [flat_lenT, e], .inr ⟨w5.heap.size, L, _, rfl, by omega, hgz, Nat.le_refl _, by unfold maxLen; omega, by simp only [List.size_toArray]; rw [flat_lenT, e], by rw [List.take_of_length_le (by simp only [List.size_toArray] at *; rw [flat_lenT, e]; exact Nat.le_refl _)]⟩⟩
  ·simp only [Value.ownBlock, Option.some.injEq] at hk
   omega
  ·exact only3 (HO.out.trans H058.out (fun _ h _ => h)) (fun hl => absurd hl (by omega))
end
end Go.Proofs.YtinbelghhfodiaaGreatDoor
namespace Go.Proofs.YtinbelghhfodiaaGreatDoor
set_option maxHeartbeats 16000000
open Lib (hid)
open Go.RowKit Go.Maps
set_option linter.unusedVariables false
set_option linter.unusedSimpArgs false
def cellsTrap (t : TrapV) : List Value := [.int .i64 t.from_, .int .i64 t.to_, .int .i64 t.hand, .int .i64 t.type]
def cellsField (f : FieldV) : List Value := [.int .i64 f.flags, .int .i64 f.name, .int .i64 f.desc]
def cellsConst (c : ConstV) : List Value := [.int .i64 c.tag, .string c.text, .int .i64 c.n, .int .i64 c.a, .int .i64 c.b]
def cellsMeth (m : MethodV) (f : Value × Value × Value) : List Value := [.int .i64 m.flags, .int .i64 m.name, .int .i64 m.desc, .int .i64 m.stack, .int .i64 m.locals, f.1, f.2.1, f.2.2]
section
variable {w : World} {b o i : Nat} {f : Nat → List Value}
theorem TrapAt.cells {t : TrapV} (h : TrapAt w b o i t) (hf : f i = cellsTrap t) : CellsAt w 4 f b o i := fun d hd => by
 rw [hf]
 match d, hd with
 | 0, _ => exact h.c0
 | 1, _ => exact h.c1
 | 2, _ => exact h.c2
 | 3, _ => exact h.c3
theorem TrapAt.of {t : TrapV} (h : CellsAt w 4 f b o i) (hf : f i = cellsTrap t) : TrapAt w b o i t := by
 have k := fun d hd => (h d hd).trans (by rw [hf])
 exact ⟨k 0 (by decide), k 1 (by decide), k 2 (by decide), k 3 (by decide)⟩
theorem FieldAt.cells {t : FieldV} (h : FieldAt w b o i t) (hf : f i = cellsField t) : CellsAt w 3 f b o i := fun d hd => by
 rw [hf]
 match d, hd with
 | 0, _ => exact h.c0
 | 1, _ => exact h.c1
 | 2, _ => exact h.c2
theorem FieldAt.of {t : FieldV} (h : CellsAt w 3 f b o i) (hf : f i = cellsField t) : FieldAt w b o i t := by
 have k := fun d hd => (h d hd).trans (by rw [hf])
 exact ⟨k 0 (by decide), k 1 (by decide), k 2 (by decide)⟩
theorem ConstAt.cells {t : ConstV} (h : ConstAt w b o i t) (hf : f i = cellsConst t) : CellsAt w 5 f b o i := fun d hd => by
 rw [hf]
 match d, hd with
 | 0, _ => exact h.c0
 | 1, _ => exact h.c1
 | 2, _ => exact h.c2
 | 3, _ => exact h.c3
 | 4, _ => exact h.c4
theorem ConstAt.of {t : ConstV} (h : CellsAt w 5 f b o i) (hf : f i = cellsConst t) : ConstAt w b o i t := by
 have k := fun d hd => (h d hd).trans (by rw [hf])
 exact ⟨k 0 (by decide), k 1 (by decide), k 2 (by decide), k 3 (by decide), k 4 (by decide)⟩
theorem MethodAt.cells {t : MethodV} {x : Value × Value × Value} (h : MethodAt w b o i t x.1 x.2.1 x.2.2) (hf : f i = cellsMeth t x) : CellsAt w 8 f b o i := fun d hd => by
 rw [hf]
 match d, hd with
 | 0, _ => exact h.c0
 | 1, _ => exact h.c1
 | 2, _ => exact h.c2
 | 3, _ => exact h.c3
 | 4, _ => exact h.c4
 | 5, _ => exact h.c5
 | 6, _ => exact h.c6
 | 7, _ => exact h.c7
theorem MethodAt.of {t : MethodV} {x : Value × Value × Value} (h : CellsAt w 8 f b o i) (hf : f i = cellsMeth t x) : MethodAt w b o i t x.1 x.2.1 x.2.2 := by
 have k := fun d hd => (h d hd).trans (by rw [hf])
 exact ⟨k 0 (by decide), k 1 (by decide), k 2 (by decide), k 3 (by decide), k 4 (by decide), k 5 (by decide), k 6 (by decide), k 7 (by decide)⟩
end
theorem copyTraps (v : Value) (ts : List TrapV) (w : World) (h : Traps w v ts) (hl : ts.length ≤ 1048576) :
  Calls Tryz.prog 144 #[v] w fun e w' => ∃ v', e = .returned v' ∧ TrapsG (fun k => k < w.heap.size) w' v' ts ∧ Only (fun _ => False) w w' := by
 refine (copyCTrap v ts.length (fun i => cellsTrap (ts.getD i default)) w (h.1.imp (fun _ _ _ _ _ k => k.cells rfl)) (fun _ => rfl) (fun i u hu => ?_) hl).mono ?_
 ·simp only [cellsTrap, List.mem_cons, List.mem_nil_iff, or_false] at hu
  rcases hu with rfl | rfl | rfl | rfl <;> rfl
 ·rintro e w' ⟨v', rfl, k1, k2, k3, -⟩
  exact ⟨v', rfl, ⟨k1.imp (fun _ _ _ _ _ k => ⟨TrapAt.of k.1 rfl, fun hk => by have := k.2.1; omega⟩), h.2⟩, k3⟩
theorem copyFields (v : Value) (ts : List FieldV) (w : World) (h : Fields w v ts) (hl : ts.length ≤ 1048576) :
  Calls Tryz.prog 117 #[v] w fun e w' => ∃ v', e = .returned v' ∧ FieldsG (fun k => k < w.heap.size) w' v' ts ∧ Only (fun _ => False) w w' := by
 refine (copyCField v ts.length (fun i => cellsField (ts.getD i default)) w (h.1.imp (fun _ _ _ _ _ k => k.cells rfl)) (fun _ => rfl) (fun i u hu => ?_) hl).mono ?_
 ·simp only [cellsField, List.mem_cons, List.mem_nil_iff, or_false] at hu
  rcases hu with rfl | rfl | rfl <;> rfl
 ·rintro e w' ⟨v', rfl, k1, k2, k3, -⟩
  exact ⟨v', rfl, ⟨k1.imp (fun _ _ _ _ _ k => ⟨FieldAt.of k.1 rfl, fun hk => by have := k.2.1; omega⟩), h.2⟩, k3⟩
theorem copyPool (v : Value) (cs : List ConstV) (w : World) (h : Pool w v cs) (hl : cs.length ≤ 1048576) :
  Calls Tryz.prog 116 #[v] w fun e w' => ∃ v', e = .returned v' ∧ Pool w' v' cs ∧ (∀ k, v'.ownBlock = some k → w.heap.size ≤ k ∧ k < w'.heap.size) ∧ Only (fun _ => False) w w' := by
 obtain ⟨ao, cap, rfl, h1, h2, h3, h4, h5⟩ := id h
 refine (copyCConst _ cs.length (fun i => cellsConst (cs.getD i default)) w ⟨ao, cap, rfl, h1, h2, h3, fun x hx h0 => ?_⟩ (fun _ => rfl) (fun i u hu => ?_) hl).mono ?_
 ·obtain ⟨b, o, rfl, h6⟩ := h5 x hx h0
  exact ⟨b, o, rfl, fun i hi => (h6 i hi).cells rfl⟩
 ·simp only [cellsConst, List.mem_cons, List.mem_nil_iff, or_false] at hu
  rcases hu with rfl | rfl | rfl | rfl | rfl <;> rfl
 ·rintro e w' ⟨v', rfl, k1, k2, k3, -⟩
  obtain ⟨ao', cap', rfl, e1, e2, e3, e5⟩ := k1
  refine ⟨_, rfl, ⟨ao', cap', rfl, e1, e2, e3, h4, fun x hx h0 => ?_⟩, k2, k3⟩
  obtain ⟨b, o, rfl, e6⟩ := e5 x hx h0
  exact ⟨b, o, rfl, fun i hi => ConstAt.of (e6 i hi).1 rfl⟩
theorem copyMeths (v : Value) (n : Nat) (ms : List MethodV) (f : Nat → Value × Value × Value) (w : World) (hn : ms.length = n) (h : Sl v n (fun b o i => MethodAt w b o i (ms.getD i default) (f i).1 (f i).2.1 (f i).2.2))
  (hone : ∀ i, (f i).1.oneCell' = true ∧ (f i).2.1.oneCell' = true ∧ (f i).2.2.oneCell' = true) (hl : n ≤ 1048576) :
  Calls Tryz.prog 118 #[v] w (CopyTo w 63 8 n (fun i => cellsMeth (ms.getD i default) (f i))) := by
 refine copyCMeth v n (fun i => cellsMeth (ms.getD i default) (f i)) w (h.imp (fun _ _ _ _ _ k => k.cells rfl)) (fun _ => rfl) (fun i u hu => ?_) hl
 obtain ⟨a, b, c⟩ := hone i
 simp only [cellsMeth, List.mem_cons, List.mem_nil_iff, or_false] at hu
 rcases hu with rfl | rfl | rfl | rfl | rfl | rfl | rfl | rfl <;> first | rfl | assumption
abbrev valMth (m : MethodV) (a b c : Value) : Value := .agg #[.int .i64 m.flags, .int .i64 m.name, .int .i64 m.desc, .int .i64 m.stack, .int .i64 m.locals, a, b, c]
abbrev objMth (m : MethodV) (a b c : Value) : Obj := .cells #[.int .i64 m.flags, .int .i64 m.name, .int .i64 m.desc, .int .i64 m.stack, .int .i64 m.locals, a, b, c] 63
abbrev zeroMth : Obj := .cells #[.int .i64 0, .int .i64 0, .int .i64 0, .int .i64 0, .int .i64 0, .slice none 0 0, .slice none 0 0, .slice none 0 0] 63
theorem meth_alone {fn : Func} {p : Tmp} (hr : fn.results = #[.cell p 63]) {w : World} {b : Nat} {a0 a1 a2 a3 a4 a5 a6 a7 : Value} {tmps : Array Value} (h : w.heap[b]? = some (.cells #[a0, a1, a2, a3, a4, a5, a6, a7] 63 (0, 0))) (ht : tmps.getD p undef = .pointer (some ⟨b, 0, none⟩)) :
  (results fn tmps).run Tryz.prog w = .ok (.agg #[a0, a1, a2, a3, a4, a5, a6, a7]) w :=
 results_cell_row hr tmps w b 63 _ (0, 0) _ ht h Tryz.underlying63 rfl info8_meth9
set_option maxRecDepth 100000 in
theorem pCloneMethod (m : MethodV) (vc vt vm : Value) (w : World) (hi : Inside w m vc vt vm) (hc : m.code.length ≤ 1048576) (ht : m.traps.length ≤ 1048576) (hm : m.maps.length ≤ 1048576) :
  Calls Tryz.prog 119 #[valMth m vc vt vm] w fun e w' => ∃ a b c, e = .returned (valMth m a b c) ∧ InsideG (fun k => k < w.heap.size) w' m a b c ∧ Only (fun _ => False) w w' := by
 have ho0 := ((Only.refl (fun _ => False) w).alloc (objMth m vc vt vm)).alloc zeroMth
 have hx0 : ((w.alloc (objMth m vc vt vm)).alloc zeroMth).heap[w.heap.size]? = some (objMth m vc vt vm) := ((Only.refl (fun _ => False) _).alloc _).heap (heap_alloc_new w _) (fun h => h)
 have hr0 : ((w.alloc (objMth m vc vt vm)).alloc zeroMth).heap[w.heap.size + 1]? = some zeroMth := by
  have := heap_alloc_new (w.alloc (objMth m vc vt vm)) zeroMth
  rwa [World.size_alloc] at this
 have hs0 : ((w.alloc (objMth m vc vt vm)).alloc zeroMth).heap.size = w.heap.size + 2 := by simp
 obtain ⟨W0, hW0⟩ : ∃ W0, (w.alloc (objMth m vc vt vm)).alloc zeroMth = W0 := ⟨_, rfl⟩
 rw [hW0] at ho0 hx0 hr0 hs0
 have CC := hid (fun W (hW : Only (fun _ => False) W0 W) => copyBytes vc m.code W (hi.1.only (ho0.trans hW (fun _ h _ => h)) (fun _ _ _ h => h)) (by omega))
 have CT := hid (fun W (hW : Only (fun _ => False) W0 W) => copyTraps vt m.traps W (hi.2.1.only (ho0.trans hW (fun _ h _ => h))) ht)
 have CM := hid (fun W (hW : Only (fun _ => False) W0 W) => copyBytes vm m.maps W (hi.2.2.only (ho0.trans hW (fun _ h _ => h)) (fun _ _ _ h => h)) (by omega))
 obtain ⟨c0, c1, c2, c3, c4, c5, c6, c7⟩ := cells8M hx0
 have HO0 := hid ho0
 have HR0 := hid hr0
 have HS0 := hid hs0
 have HW0 := hid hW0
 have hSd : W0.drew.cell? ⟨w.heap.size, 5, none⟩ = some vc ∧ W0.drew.cell? ⟨w.heap.size, 6, none⟩ = some vt ∧ W0.drew.cell? ⟨w.heap.size, 7, none⟩ = some vm := ⟨(Only.refl (fun _ => False) W0).drew.cell c5 (fun h => h), (Only.refl (fun _ => False) W0).drew.cell c6 (fun h => h), (Only.refl (fun _ => False) W0).drew.cell c7 (fun h => h)⟩
 clear ho0 hr0 hs0 hW0 hi
 go_enter Tryz.func119, Tryz.ntmps119
 go_wp2_with (fail)
 rw [HW0.out]
 refine wp_till 10 (fun wc => wc.cell? ⟨w.heap.size, 5, none⟩ = some vc ∧ wc.cell? ⟨w.heap.size, 6, none⟩ = some vt ∧ wc.cell? ⟨w.heap.size, 7, none⟩ = some vm) (by kernel_rfl) ?_
 refine Till.tk 0 (h := ?_)
 refine Till.tk 1 (h := ?_)
 refine Till.tk 3 (h := ?_)
 refine Till.tk 4 (h := ?_)
 refine Till.tk 6 (h := ?_)
 refine Till.tk 7 (h := ?_)
 refine Till.ts 2 (h := fun K hK => ?_)
 go_simp
 (refine (CC.out _ (Only.refl (fun _ => False) W0).drew).mono ?_; rintro e1 w1 ⟨v1, rfl, hb1, hn1, ho1⟩; have HO1 := hid (((Only.refl (fun _ => False) W0).drew).trans ho1 (fun _ h _ => h)); have HI1 := hid ho1; obtain ⟨a1, k1, rfl, -⟩ := id hb1; have HB1 := hid hb1; have HN1 := hid hn1; have hSd1 : w1.cell? ⟨w.heap.size, 5, none⟩ = some vc ∧ w1.cell? ⟨w.heap.size, 6, none⟩ = some vt ∧ w1.cell? ⟨w.heap.size, 7, none⟩ = some vm := ⟨HO1.out.cell c5 (fun h => h), HO1.out.cell c6 (fun h => h), HO1.out.cell c7 (fun h => h)⟩; clear hb1 hn1 ho1)
 go_wp2_with fail
 refine hK.out _ _ ?_ ?_
 ·exact fun _ => ⟨HO1.out.cell c5 (fun h => h), HO1.out.cell c6 (fun h => h), HO1.out.cell c7 (fun h => h)⟩
 clear hK K
 try simp only [Act.put, sIB, sC0, sCS]
 refine Till.tk 9 (h := ?_)
 refine Till.ts 5 (h := fun K hK => ?_)
 go_simp
 (refine (CT.out _ HO1.out).mono ?_; rintro e2 w2 ⟨v2, rfl, ht2, ho2⟩; have HO2 := hid ((HO1.out).trans ho2 (fun _ h _ => h)); have HI2 := hid ho2; obtain ⟨a2, k2, rfl, -⟩ := id ht2.1; have HT2 := hid ht2; clear ht2 ho2)
 go_wp2_with fail
 refine hK.out _ _ ?_ ?_
 ·exact fun _ => ⟨HO2.out.cell c5 (fun h => h), HO2.out.cell c6 (fun h => h), HO2.out.cell c7 (fun h => h)⟩
 clear hK K
 try simp only [Act.put, sIB, sC0, sCS]
 refine Till.ts 8 (h := fun K hK => ?_)
 go_simp
 (refine (CM.out _ HO2.out).mono ?_; rintro e3 w3 ⟨v3, rfl, hb3, hn3, ho3⟩; have HO3 := hid ((HO2.out).trans ho3 (fun _ h _ => h)); have HI3 := hid ho3; obtain ⟨a3, k3, rfl, -⟩ := id hb3; have HB3 := hid hb3; have HN3 := hid hn3; have hx3 := HO3.out.heap hx0 (fun h => h); have f5 := frozen_blk hx3 5; have f6 := frozen_blk hx3 6; have f7 := frozen_blk hx3 7; have HX3 := hid hx3; obtain ⟨y0, y1, y2, y3, y4, y5, y6, y7⟩ := cells8M hx3; clear hb3 hn3 ho3 hx3)
 go_wp2_with fail
 refine hK.out _ _ ?_ ?_
 ·exact fun _ => ⟨HO3.out.cell c5 (fun h => h), HO3.out.cell c6 (fun h => h), HO3.out.cell c7 (fun h => h)⟩
 clear hK K
 try simp only [Act.put, sIB, sC0, sCS]
 refine Till.ts 10 (h := fun K hK => ?_)
 go_simp
 refine hK.out _ _ ?_ ?_
 ·exact fun h => by cases h
 clear hK K
 try simp only [Act.put, sIB, sC0, sCS]
 refine Till.ts 11 (h := fun K hK => ?_)
 go_simp
 refine hK.out _ _ ?_ ?_
 ·exact fun h => by cases h
 clear hK K
 try simp only [Act.put, sIB, sC0, sCS]
 refine Till.ts 12 (h := fun K hK => ?_)
 go_simp
 refine hK.out _ _ ?_ ?_
 ·exact fun h => by cases h
 clear hK K
 try simp only [Act.put, sIB, sC0, sCS]
 refine Till.ts 13 (h := fun K hK => ?_)
 go_simp
 refine hK.out _ _ ?_ ?_
 ·exact fun h => by cases h
 clear hK K
 try simp only [Act.put, sIB, sC0, sCS]
 refine Till.ts 14 (h := fun K hK => ?_)
 go_simp
 refine hK.out _ _ ?_ ?_
 ·exact fun h => by cases h
 clear hK K
 try simp only [Act.put, sIB, sC0, sCS]
 refine Till.done (by kernel_rfl) ?_ _
 have hx4 := heap_setCell_at (i := 7) (u := (.slice a3 m.maps.length k3)) (heap_setCell_at (i := 6) (u := (.slice a2 m.traps.length k2)) (heap_setCell_at (i := 5) (u := (.slice a1 m.code.length k1)) HX3.out))
 simp only [List.setIfInBounds_toArray, List.set_cons_zero, List.set_cons_succ] at hx4
 have ho4 := (((Only.refl (fun k => k = w.heap.size) w3).setCell (p := ⟨w.heap.size, 5, none⟩) (fun _ => rfl) (.slice a1 m.code.length k1)).setCell (p := ⟨w.heap.size, 6, none⟩) (fun _ => rfl) (.slice a2 m.traps.length k2)).setCell (p := ⟨w.heap.size, 7, none⟩) (fun _ => rfl) (.slice a3 m.maps.length k3)
 obtain ⟨W4, hW4⟩ : ∃ W4, ((w3.setCell ⟨w.heap.size, 5, none⟩ (.slice a1 m.code.length k1)).setCell ⟨w.heap.size, 6, none⟩ (.slice a2 m.traps.length k2)).setCell ⟨w.heap.size, 7, none⟩ (.slice a3 m.maps.length k3) = W4 := ⟨_, rfl⟩
 rw [hW4] at hx4 ho4 ⊢
 clear f5 f6 f7 y0 y1 y2 y3 y4 y5 y6 y7 c0 c1 c2 c3 c4 c5 c6 c7 hSd hSd1
 obtain ⟨y0, y1, y2, y3, y4, y5, y6, y7⟩ := cells8M hx4
 have hr4 := ho4.heap (HO3.out.heap HR0.out (fun h => h)) (by omega)
 obtain ⟨z0, z1, z2, z3, z4, z5, z6, z7⟩ := cells8M hr4
 obtain ⟨f0, f1, f2, f3, f4, f5, f6, f7⟩ := marks8M hr4
 have HR4 := hid hr4
 have HO4 := hid ho4
 clear hx4 hr4 ho4 hW4 hx0
 go_wp2
 refine bodyPost_ret (meth_alone (b := w.heap.size + 1) Tryz.results119 (store8M HR4.out) rfl) rfl ⟨_, _, _, rfl, ?_, ?_⟩
 ·have HS := HS0.out
  have h1 : BytesG (fun k => k < W0.heap.size) w3 (.slice a1 m.code.length k1) m.code := ⟨HB1.out.only (HI2.out.trans HI3.out (fun _ h _ => h)) (fun _ _ _ h => h), fun k hk _ hG => by have := (HN1.out k hk).1; have h2 : W0.heap.size ≤ W0.drew.heap.size := (Only.refl (fun _ => False) W0).drew.size; omega⟩
  have h2 : TrapsG (fun k => k < W0.heap.size) w3 (.slice a2 m.traps.length k2) m.traps := (HT2.out.only HI3.out (fun _ h => h.elim)).mono (fun k _ hk => by have := HO1.out.size; omega)
  have h3 : BytesG (fun k => k < W0.heap.size) w3 (.slice a3 m.maps.length k3) m.maps := ⟨HB3.out, fun k hk _ hG => by have := (HN3.out k hk).1; have := HO2.out.size; omega⟩
  exact InsideG.mono (G := fun k => k < W0.heap.size) (fun k _ hk => by omega) (InsideG.only (S := fun k => k < W0.heap.size) (only8M (HO4.out.mono (T := fun k => k < W0.heap.size) (fun k hk _ => by omega)) (fun _ => by omega)) (fun _ h => h) ⟨h1, h2, h3⟩)
 ·refine only8M (Only.trans (HO0.out.trans HO3.out (fun _ h _ => h)) HO4.out ?_) (fun hl => absurd hl (by omega))
  rintro i rfl hl
  omega
end Go.Proofs.YtinbelghhfodiaaGreatDoor
