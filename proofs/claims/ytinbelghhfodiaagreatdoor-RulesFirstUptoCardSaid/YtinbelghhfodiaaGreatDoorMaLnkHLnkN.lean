import Derived.Test.YtinbelghhfodiaaGreatDoorMaLnkELnkG
import Derived.Deep.Onto
namespace Go.Proofs.YtinbelghhfodiaaGreatDoor
set_option maxHeartbeats 16000000
open Lib (hid)
open Go.RowKit
set_option linter.unusedVariables false
set_option linter.unusedSimpArgs false
theorem cellsTy_len (cs : List TypeV) : (cs.flatMap cellsTy).length = cs.length * 5 := by
 induction cs with
 | nil => rfl
 | cons c r ih => rw [List.flatMap_cons, List.length_append, ih]; simp [cellsTy]; omega
theorem Src.of_types {w : World} {v : Value} {cs : List TypeV} (h : Types w v cs) : Src w 5 v cs.length (cs.flatMap cellsTy) := by
 obtain ⟨ao, cap, rfl, h1, h2, h3, h5⟩ := h
 refine ⟨cellsTy_len cs, ?_, ao, cap, rfl, fun e => ⟨by have := h3 e; omega, h3 e⟩, fun ad hd j u hj => ?_⟩
 ·intro u hu
  obtain ⟨c, _, hc⟩ := List.mem_flatMap.1 hu
  simp only [cellsTy, List.mem_cons, List.mem_nil_iff, or_false] at hc
  rcases hc with rfl | rfl | rfl | rfl | rfl <;> rfl
 ·have hjl : j < cs.length * 5 := by rw [← cellsTy_len]; exact (List.getElem?_eq_some_iff.1 hj).1
  obtain ⟨b, o, rfl, hc⟩ := h5 ad hd (by omega)
  have hi : j / 5 < cs.length := by omega
  have hd5 : j % 5 < 5 := by omega
  have hat := cellsT_at (cs := cs) (i := j / 5) (d := j % 5) hi hd5
  rw [show j / 5 * 5 + j % 5 = j by omega, hj] at hat
  rw [add_lit, show o + j = o + j / 5 * 5 + j % 5 by omega]
  obtain ⟨c0, c1, c2, c3, c4⟩ := hc (j / 5) hi
  generalize cs.getD (j / 5) default = c at *
  have h5' : j % 5 = 0 ∨ j % 5 = 1 ∨ j % 5 = 2 ∨ j % 5 = 3 ∨ j % 5 = 4 := by omega
  rcases h5' with e | e | e | e | e
  ·rw [e] at hat ⊢; rw [Nat.add_zero, c0]; simpa [cellsTy] using hat.symm
  ·rw [e] at hat ⊢; rw [c1]; simpa [cellsTy] using hat.symm
  ·rw [e] at hat ⊢; rw [c2]; simpa [cellsTy] using hat.symm
  ·rw [e] at hat ⊢; rw [c3]; simpa [cellsTy] using hat.symm
  ·rw [e] at hat ⊢; rw [c4]; simpa [cellsTy] using hat.symm
theorem TRow.join {w3 : World} {B : Nat} {v' : Value} {cs ds : List TypeV} (hown : w3.ownsRow B 33 5 v' (cs.length + ds.length) (cs.flatMap cellsTy ++ ds.flatMap cellsTy)) : TRow w3 B v' (cs ++ ds) := by
 unfold TRow
 rw [List.length_append, List.flatMap_append]
 exact hown
def staticsZ (ks : List KindV) (n : Nat) : List TypeV := (ks.take n).flatMap (fun k => typesZ 8 k.fields)
theorem staticsZ_step {ks : List KindV} {n : Nat} (h : n < ks.length) : staticsZ ks (n + 1) = staticsZ ks n ++ typesZ 8 (ks.getD n default).fields := by
 rw [staticsZ, List.take_succ_eq_append_getElem h, List.flatMap_append]
 rw [show ks.getD n default = ks[n] by simp [List.getD, h]]
 simp [staticsZ]
theorem staticsZ_len {ks : List KindV} : ∀ {n : Nat}, n ≤ ks.length → (staticsZ ks n).length = staticsN ks n
 | 0, _ => rfl
 | n + 1, h => by rw [staticsZ_step (by omega), List.length_append, staticsZ_len (by omega), staticsN_step (by omega), typesZ_len]
def DescsAll (ks : List KindV) : Prop := ∀ k ∈ ks, Descs k.fields
def slotsZ (ks : List KindV) (x : Int) : List TypeV := (upZ ks x).reverse.flatMap (fun j => typesZ 0 (ks.getD j default).fields)
theorem slotsZ_end {ks : List KindV} {x : Int} (h : x < 0) : slotsZ ks x = [] := by unfold slotsZ; rw [upZ_end h]; rfl
theorem slotsZ_step {ks : List KindV} (he : EndsAll ks) {x : Nat} (h : x < ks.length) : slotsZ ks (x : Int) = slotsZ ks (superZ ks x) ++ typesZ 0 (ks.getD x default).fields := by
 unfold slotsZ
 rw [upZ_step he h, List.reverse_cons, List.flatMap_append]
 simp
theorem sumN_reverse : ∀ l : List Nat, sumN l.reverse = sumN l
 | [] => rfl
 | a :: r => by
  rw [List.reverse_cons, sumN_append, sumN_reverse r]
  show sumN r + (a + 0) = a + sumN r
  omega
theorem slotsZ_len (ks : List KindV) (x : Int) : (slotsZ ks x).length = slotsN ks x := by
 unfold slotsZ slotsN
 rw [← sumN_reverse, ← List.map_reverse]
 generalize (upZ ks x).reverse = l
 induction l with
 | nil => rfl
 | cons a r ih => rw [List.flatMap_cons, List.length_append, ih, typesZ_len]; rfl
def slotsAny (ks : List KindV) (x : Int) : List TypeV := if (ks.length : Int) ≤ x then [] else slotsZ ks x
def cellsPr (p : PairV) : List Value := [.string p.name, .string p.super]
def PRow (w : World) (B : Nat) (v : Value) (l : List PairV) : Prop := w.ownsRow B 165 2 v l.length (l.flatMap cellsPr)
theorem cellsPr_at : ∀ {cs : List PairV} {i d : Nat}, i < cs.length → d < 2 → (cs.flatMap cellsPr)[i * 2 + d]? = (cellsPr (cs.getD i default))[d]?
 | c :: r, 0, d, _, hd => by
  rw [List.flatMap_cons, List.getElem?_append_left (by simp [cellsPr]; omega)]
  simp
 | c :: r, i + 1, d, hi, hd => by
  rw [List.flatMap_cons, List.getElem?_append_right (by simp [cellsPr]; omega)]
  have : (i + 1) * 2 + d - (cellsPr c).length = i * 2 + d := by simp [cellsPr]; omega
  rw [this, cellsPr_at (by simpa using hi) hd]
  simp
theorem PRow.pairs {w : World} {B : Nat} {v : Value} {cs : List PairV} (h : PRow w B v cs) : Pairs w v cs := by
 rcases h.2 with ⟨rfl, hn⟩ | ⟨g, cap, cur, rfl, hb, hg, hnc, hcm, hcs, htake⟩
 ·have : cs = [] := List.eq_nil_of_length_eq_zero hn
  subst this
  exact Sl.nil _
 ·refine ⟨_, cap, rfl, hnc, by unfold maxLen at hcm; omega, (fun e => by cases e), fun x hx _ => ?_⟩
  cases hx
  refine ⟨g, 0, rfl, fun i hi => ?_⟩
  have hc : ∀ d, d < 2 → w.cell? ⟨g, 0 + i * 2 + d, none⟩ = (cellsPr (cs.getD i default))[d]? := fun d hd => by
   rw [Nat.zero_add, ← cellsPr_at hi hd]
   exact (show w.ownsRow B _ 2 _ _ _ from h).cellAt (g := g) (cap := cap) (i * 2 + d) (by omega)
  exact ⟨hc 0 (by decide), hc 1 (by decide)⟩
theorem PRow.only {S : Nat → Prop} {w w' : World} {B : Nat} {v : Value} {cs : List PairV} (h : PRow w B v cs) (ho : Only S w w') (hs : ∀ k, v.ownBlock = some k → ¬ S k) : PRow w' B v cs := ho.owns h hs
theorem PRow.ge {w : World} {B : Nat} {v : Value} {cs : List PairV} (h : PRow w B v cs) : ∀ k, v.ownBlock = some k → B ≤ k ∧ k < w.heap.size := fun k hk => World.ownsRow.lt h k hk
theorem PRow.nil (w : World) (B : Nat) : PRow w B (.slice none 0 0) [] := World.ownsRow_nil _ _ _ _
theorem Src.pair {w : World} {m : Nat} (c : PairV) (h : w.heap.size = m) : Src (w.alloc (.cells #[.string c.name, .string c.super] 165)) 2 (.slice (some ⟨m, 0, none⟩) 1 1) 1 (cellsPr c) := by
 subst h
 refine ⟨rfl, ?_, _, 1, rfl, (fun e => by cases e), fun ad hd j u hj => ?_⟩
 ·intro x hx
  simp only [cellsPr, List.mem_cons, List.mem_nil_iff, or_false] at hx
  rcases hx with rfl | rfl <;> rfl
 ·cases hd
  rw [add_lit, Nat.zero_add, cell_blk (heap_alloc_new w _)]
  simpa [cellsPr] using hj
theorem PRow.more {w3 : World} {B : Nat} {v' : Value} {cs : List PairV} {c : PairV} (hown : w3.ownsRow B 165 2 v' (cs.length + 1) (cs.flatMap cellsPr ++ cellsPr c)) : PRow w3 B v' (cs ++ [c]) := by
 unfold PRow
 rw [List.length_append, List.flatMap_append]
 simpa using hown
theorem info_pair : (Tryz.prog.info? 165).map (fun i => (i.zero, i.size, i.bytes)) = some (some (.agg #[.string ⟨#[]⟩, .string ⟨#[]⟩]), 2, 32) := by kernel_rfl
def KindV.pr (k : KindV) : PairV := ⟨k.name, k.super⟩
theorem treeZ_take {ks : List KindV} {j : Nat} (h : j < ks.length) : treeZ (ks.take (j + 1)) = treeZ (ks.take j) ++ [⟨(ks.getD j default).name, (ks.getD j default).super⟩] := by
 rw [List.take_succ_eq_append_getElem h, treeZ, List.map_append]
 rw [show ks.getD j default = ks[j] by simp [List.getD, h]]
 rfl
def PairsTo (w : World) (l : List PairV) (e : Ending) (w' : World) : Prop := ∃ r, e = .returned r ∧ PRow w' w.heap.size r l ∧ Only (fun _ => False) w w'
set_option maxRecDepth 100000 in
theorem refTree (pb : Nat) (ks : List KindV) (cs : List ClassV) (w : World) (hd : DocP w pb ks cs) (hn : ks.length ≤ 1048576) :
  Calls Tryz.prog 48 #[.pointer (some ⟨pb, 0, none⟩)] w (PairsTo w (treeZ ks)) := by
 obtain ⟨i0, hi, hz0, hz1, hz2⟩ := info_parts info_pair
 have HD := hid hd
 clear hd
 go_enter Tryz.func48, Tryz.ntmps48
 go_wp2
 go_loopw [4, 3] (fun iv lv wr => ∃ j : Nat, iv = .int .i64 j ∧ j ≤ ks.length ∧ PRow wr w.heap.size lv (treeZ (ks.take j)) ∧ Only (fun _ => False) w wr) (fun iv _ _ => ks.length - (intOf iv).toNat)
 case atStart => exact ⟨0, rfl, Nat.zero_le _, PRow.nil _ _, Only.refl _ _⟩
 case round =>
  obtain ⟨j, rfl, hj, hrow, hon⟩ := hrel
  obtain ⟨al, cl, rfl, l1, l2, l3, -⟩ := id hrow.pairs
  have HROW := hid hrow
  have HON := hid hon
  obtain ⟨vl, vi, g0, g1, hk, hc⟩ := HD.out
  obtain ⟨ao, cap, rfl, p1, p2⟩ := hk.len
  have hO := hon
  have q0 := hon.cell g0 (fun h => h)
  clear l3 hrow hon
  by_cases hlt : j < ks.length
  ·have hjz : (j : Int) < (ks.length : Int) := by omega
   have hj0 : (0 : Int) ≤ (j : Int) := by omega
   obtain ⟨b, o, vf, vm, rfl, y, -, -⟩ := hk.at hlt
   have g2 := y.c0
   have g3 := y.c1
   have q2 := HON.out.cell g2 (fun h => h)
   have q3 := HON.out.cell g3 (fun h => h)
   have hstep := treeZ_take hlt
   have hln : (treeZ (ks.take j)).length ≤ 1048576 := by rw [treeZ_len, List.length_take]; omega
   generalize ks.getD j default = p at *
   generalize treeZ (ks.take j) = ts at *
   have HST := hid hstep
   have MKS : Hid (∀ W, Only (fun _ => False) w W → (W.cell? ⟨pb, 0, none⟩ = some (.slice (some ⟨b, o, none⟩) ks.length cap) ∧ W.cell? ⟨b, o + j * 5, none⟩ = some (.string p.name) ∧ W.cell? ⟨b, o + j * 5 + 1, none⟩ = some (.string p.super)) ∧ Only (fun _ => False) w W) := hid (fun W h => ⟨⟨h.cell g0 (fun h => h), h.cell g2 (fun h => h), h.cell g3 (fun h => h)⟩, h⟩)
   clear hstep hk hc g1 y g0 g2 g3
   go_wp2
   go_region_held3 (fun W => (W.cell? ⟨pb, 0, none⟩ = some (.slice (some ⟨b, o, none⟩) ks.length cap) ∧ W.cell? ⟨b, o + j * 5, none⟩ = some (.string p.name) ∧ W.cell? ⟨b, o + j * 5 + 1, none⟩ = some (.string p.super)) ∧ Only (fun _ => False) w W)
    (first | exact ⟨⟨q0, q2, q3⟩, hO⟩ | exact ⟨⟨q0, q2, q3⟩, hO.drew⟩ | exact hkp | exact MKS.out _ (And.right (by assumption)) | exact MKS.out _ (Only.alloc (And.right (by assumption)) _))
    (first
     | (refine step_append_src rfl (.tmp 14) (.tmp 32) 64 rfl 165 i0 (.agg #[.string ⟨#[]⟩, .string ⟨#[]⟩]) 2 32 Tryz.underlying64 hi hz0 hz1 hz2 rfl (by decide) w.heap.size (.slice al ts.length cl) ts.length (ts.flatMap cellsPr) rfl (by first | exact HROW.out.only ((Only.refl (fun _ => False) wr).drew.alloc _) (fun _ _ h => h) | exact HROW.out.only (((Only.refl (fun _ => False) wr).alloc _).drew) (fun _ _ h => h) | exact HROW.out.only ((Only.refl (fun _ => False) wr).alloc _) (fun _ _ h => h)) (Nat.le_trans HON.out.size (by simp)) (.slice (some ⟨wr.heap.size, 0, none⟩) 1 1) 1 (cellsPr p.pr) rfl (Src.pair p.pr rfl) (by unfold maxLen; omega) (by omega) ?_; intro v' w5 hown hgrow hnew; have hos := only_grownT hgrow; have hrow6 := PRow.more hown; have hkp := MKS.out w5 (Only.trans (And.right (by assumption)) hos (fun j hj hl => by have := (PRow.ge HROW.out _ hj).1; omega))))
   all_goals
    have HO7 := hid (show Only (fun _ => False) w w5 from And.right (by assumption))
    have HR7 := hid hrow6
    clear hown hgrow hnew hos hrow6
    go_wp2
    go_roundw
    case rel => exact ⟨j + 1, rfl, by omega, by rw [HST.out]; exact HR7.out, HO7.out⟩
    case measure => simp only [intOf]; omega
  ·have hje : j = ks.length := by omega
   subst hje
   clear hk hc
   go_wp2
   go_ret
   refine ⟨_, rfl, ?_, HON.out⟩
   rw [show treeZ ks = treeZ (ks.take ks.length) by rw [List.take_length]]
   exact HROW.out
def mainB : ByteArray := ⟨#[109, 97, 105, 110]⟩
def voidB : ByteArray := ⟨#[40, 41, 86]⟩
def mainZ (ks : List KindV) : MemV := memO (ownZ ks (ks.getD 13 default).name mainB voidB)
theorem info8_meth9 : (Tryz.prog.info? 63).map (·.size) = some 8 := by kernel_rfl
theorem method_result4 {fn : Func} {p q q2 q3 : Tmp} (hr : fn.results = #[.cell p 63, .tmp q, .tmp q2, .tmp q3]) {w : World} {b : Nat} {a0 a1 a2 a3 a4 a5 a6 a7 x y z : Value} {tmps : Array Value} (h : w.heap[b]? = some (.cells #[a0, a1, a2, a3, a4, a5, a6, a7] 63 (0, 0))) (ht : tmps.getD p undef = .pointer (some ⟨b, 0, none⟩)) (hx : tmps.getD q undef = x) (hy : tmps.getD q2 undef = y) (hz : tmps.getD q3 undef = z) :
  (results fn tmps).run Tryz.prog w = .ok (.tuple #[.agg #[a0, a1, a2, a3, a4, a5, a6, a7], x, y, z]) w := by
 have hp' : tmps[p]?.getD undef = .pointer (some ⟨b, 0, none⟩) := by simpa using ht
 have hx' : tmps[q]?.getD undef = x := by simpa using hx
 have hy' : tmps[q2]?.getD undef = y := by simpa using hy
 have hz' : tmps[q3]?.getD undef = z := by simpa using hz
 have hL := run_loadVar_row w b 63 63 _ (0, 0) _ h Tryz.underlying63 rfl info8_meth9
 simp only [results, hr]
 simp [Sem.run_bind, Result.andThen, hp', hx', hy', hz', asAddr, hL]
theorem cells8M {w : World} {b : Nat} {c0 c1 c2 c3 c4 c5 c6 c7 : Value} {t : TypeId} {f : Nat × Nat} (h : w.heap[b]? = some (.cells #[c0, c1, c2, c3, c4, c5, c6, c7] t f)) :
  w.cell? ⟨b, 0, none⟩ = some c0 ∧ w.cell? ⟨b, 1, none⟩ = some c1 ∧ w.cell? ⟨b, 2, none⟩ = some c2 ∧ w.cell? ⟨b, 3, none⟩ = some c3 ∧ w.cell? ⟨b, 4, none⟩ = some c4 ∧ w.cell? ⟨b, 5, none⟩ = some c5 ∧ w.cell? ⟨b, 6, none⟩ = some c6 ∧ w.cell? ⟨b, 7, none⟩ = some c7 :=
 ⟨cell_blk h 0, cell_blk h 1, cell_blk h 2, cell_blk h 3, cell_blk h 4, cell_blk h 5, cell_blk h 6, cell_blk h 7⟩
theorem marks8M {w : World} {b : Nat} {c : Array Value} {t : TypeId} (h : w.heap[b]? = some (.cells c t (0, 0))) :
  w.frozen? ⟨b, 0, none⟩ = false ∧ w.frozen? ⟨b, 1, none⟩ = false ∧ w.frozen? ⟨b, 2, none⟩ = false ∧ w.frozen? ⟨b, 3, none⟩ = false ∧ w.frozen? ⟨b, 4, none⟩ = false ∧ w.frozen? ⟨b, 5, none⟩ = false ∧ w.frozen? ⟨b, 6, none⟩ = false ∧ w.frozen? ⟨b, 7, none⟩ = false :=
 ⟨frozen_blk h 0, frozen_blk h 1, frozen_blk h 2, frozen_blk h 3, frozen_blk h 4, frozen_blk h 5, frozen_blk h 6, frozen_blk h 7⟩
theorem store8M {w : World} {b : Nat} {T : TypeId} {f : Nat × Nat} {o0 o1 o2 o3 o4 o5 o6 o7 a0 a1 a2 a3 a4 a5 a6 a7 : Value} (h : w.heap[b]? = some (.cells #[o0, o1, o2, o3, o4, o5, o6, o7] T f)) :
  ((((((((w.setCell ⟨b, 0, none⟩ a0).setCell ⟨b, 1, none⟩ a1).setCell ⟨b, 2, none⟩ a2).setCell ⟨b, 3, none⟩ a3).setCell ⟨b, 4, none⟩ a4).setCell ⟨b, 5, none⟩ a5).setCell ⟨b, 6, none⟩ a6).setCell ⟨b, 7, none⟩ a7).heap[b]? = some (.cells #[a0, a1, a2, a3, a4, a5, a6, a7] T f) := by
 have h0 := heap_setCell_at (i := 0) (u := a0) h
 simp only [List.setIfInBounds_toArray, List.set_cons_zero, List.set_cons_succ] at h0
 have h1 := heap_setCell_at (i := 1) (u := a1) h0
 simp only [List.setIfInBounds_toArray, List.set_cons_zero, List.set_cons_succ] at h1
 have h2 := heap_setCell_at (i := 2) (u := a2) h1
 simp only [List.setIfInBounds_toArray, List.set_cons_zero, List.set_cons_succ] at h2
 have h3 := heap_setCell_at (i := 3) (u := a3) h2
 simp only [List.setIfInBounds_toArray, List.set_cons_zero, List.set_cons_succ] at h3
 have h4 := heap_setCell_at (i := 4) (u := a4) h3
 simp only [List.setIfInBounds_toArray, List.set_cons_zero, List.set_cons_succ] at h4
 have h5 := heap_setCell_at (i := 5) (u := a5) h4
 simp only [List.setIfInBounds_toArray, List.set_cons_zero, List.set_cons_succ] at h5
 have h6 := heap_setCell_at (i := 6) (u := a6) h5
 simp only [List.setIfInBounds_toArray, List.set_cons_zero, List.set_cons_succ] at h6
 have h7 := heap_setCell_at (i := 7) (u := a7) h6
 simp only [List.setIfInBounds_toArray, List.set_cons_zero, List.set_cons_succ] at h7
 exact h7
theorem only8M {S : Nat → Prop} {w w' : World} {b : Nat} {a0 a1 a2 a3 a4 a5 a6 a7 : Value} (h : Only S w w') (hb : b < w.heap.size → S b) :
  Only S w ((((((((w'.setCell ⟨b, 0, none⟩ a0).setCell ⟨b, 1, none⟩ a1).setCell ⟨b, 2, none⟩ a2).setCell ⟨b, 3, none⟩ a3).setCell ⟨b, 4, none⟩ a4).setCell ⟨b, 5, none⟩ a5).setCell ⟨b, 6, none⟩ a6).setCell ⟨b, 7, none⟩ a7) := by
 iterate 8 (refine Only.setCell (S := S) ?_ hb _)
 exact h
def flagM (f : Int) : Value := .agg #[.int .i64 f, .int .i64 0, .int .i64 0, .int .i64 0, .int .i64 0, .slice none 0 0, .slice none 0 0, .slice none 0 0]
def noMeth (ks : List KindV) (n i : Int) : Prop := n < 0 ∨ (ks.length : Int) ≤ n ∨ i < 0 ∨ ((ks.getD n.toNat default).meths.length : Int) ≤ i
set_option maxRecDepth 100000 in
theorem refMethodNone (pb : Nat) (ks : List KindV) (cs : List ClassV) (n i : Int) (w : World) (hd : DocP w pb ks cs) (hno : noMeth ks n i) :
  Calls Tryz.prog 47 #[.pointer (some ⟨pb, 0, none⟩), .int .i64 n, .int .i64 i] w fun e w' => e = .returned (.tuple #[flagM 0, .string ⟨#[]⟩, .string ⟨#[]⟩, .bool false]) ∧ Only (fun _ => False) w w' := by
 have ho0 := (Only.refl (fun _ => False) w).alloc (.cells #[.int .i64 0, .int .i64 0, .int .i64 0, .int .i64 0, .int .i64 0, .slice none 0 0, .slice none 0 0, .slice none 0 0] 63)
 have hr0 := heap_alloc_new w (.cells #[.int .i64 0, .int .i64 0, .int .i64 0, .int .i64 0, .int .i64 0, .slice none 0 0, .slice none 0 0, .slice none 0 0] 63)
 have HO := hid ho0
 have HR := hid hr0
 obtain ⟨vl, vi, q0, q1, hk, hc⟩ := hd.only ho0
 obtain ⟨ao, cap, rfl, p1, p2⟩ := hk.len
 have HK := hid hk
 clear hk hc q1 hd ho0 hr0
 by_cases h0 : n < 0
 ·go_enter Tryz.func47, Tryz.ntmps47
  go_wp2
  exact bodyPost_ret (method_result4 (b := w.heap.size) Tryz.results47 HR.out rfl rfl rfl rfl) rfl ⟨rfl, HO.out⟩
 by_cases h1 : (ks.length : Int) ≤ n
 ·go_enter Tryz.func47, Tryz.ntmps47
  go_wp2
  exact bodyPost_ret (method_result4 (b := w.heap.size) Tryz.results47 HR.out rfl rfl rfl rfl) rfl ⟨rfl, HO.out⟩
 by_cases h2 : i < 0
 ·go_enter Tryz.func47, Tryz.ntmps47
  go_wp2
  exact bodyPost_ret (method_result4 (b := w.heap.size) Tryz.results47 HR.out rfl rfl rfl rfl) rfl ⟨rfl, HO.out⟩
 obtain ⟨j, rfl⟩ := Int.eq_ofNat_of_zero_le (show 0 ≤ n by omega)
 have hjk : j < ks.length := by omega
 have hjz : (j : Int) < (ks.length : Int) := by omega
 have hj0 : (0 : Int) ≤ (j : Int) := by omega
 obtain ⟨b, o, vf, vm, rfl, y, -, hm⟩ := HK.out.at hjk
 obtain ⟨am, cm, rfl, m1, m2, m3, -⟩ := id hm
 have q2 := y.c3
 have h3 : ((ks.getD j default).meths.length : Int) ≤ i := by
  rcases hno with h | h | h | h
  ·omega
  ·omega
  ·omega
  ·exact h
 generalize ks.getD j default = p at *
 clear hm y hno m3
 go_enter Tryz.func47, Tryz.ntmps47
 go_wp2
 exact bodyPost_ret (method_result4 (b := w.heap.size) Tryz.results47 HR.out rfl rfl rfl rfl) rfl ⟨rfl, HO.out⟩
set_option maxRecDepth 100000 in
theorem refMethodBuilt (pb : Nat) (ks : List KindV) (cs : List ClassV) (j i : Nat) (w : World) (hd : DocP w pb ks cs) (hj : j < ks.length) (hj13 : j < 13) (hi : i < (ks.getD j default).meths.length) :
  Calls Tryz.prog 47 #[.pointer (some ⟨pb, 0, none⟩), .int .i64 j, .int .i64 i] w fun e w' => e = .returned (.tuple #[flagM ((ks.getD j default).meths.getD i default).flags, .string ((ks.getD j default).meths.getD i default).name, .string ((ks.getD j default).meths.getD i default).desc, .bool true]) ∧ Only (fun _ => False) w w' := by
 have ho0 := (Only.refl (fun _ => False) w).alloc (.cells #[.int .i64 0, .int .i64 0, .int .i64 0, .int .i64 0, .int .i64 0, .slice none 0 0, .slice none 0 0, .slice none 0 0] 63)
 have hr0 := heap_alloc_new w (.cells #[.int .i64 0, .int .i64 0, .int .i64 0, .int .i64 0, .int .i64 0, .slice none 0 0, .slice none 0 0, .slice none 0 0] 63)
 obtain ⟨vl, vi, q0, q1, hk, hc⟩ := hd.only ho0
 obtain ⟨ao, cap, rfl, p1, p2⟩ := hk.len
 have hjz : (j : Int) < (ks.length : Int) := by omega
 have hj0 : (0 : Int) ≤ (j : Int) := by omega
 have hj00 : ¬ (j : Int) < 0 := by omega
 have hjg : ¬ (ks.length : Int) ≤ (j : Int) := by omega
 have hi0 : (0 : Int) ≤ (i : Int) := by omega
 have hi00 : ¬ (i : Int) < 0 := by omega
 have h13 : (j : Int) < 13 := by omega
 obtain ⟨b, o, vf, vm, rfl, y, -, hm⟩ := hk.at hj
 obtain ⟨am, cm, rfl, m1, m2, m3, -⟩ := id hm
 obtain ⟨bm, om, rfl, z⟩ := Sl.at hm hi
 obtain ⟨z0, z1, z2⟩ := z
 have q2 := y.c3
 have hiz : (i : Int) < ((ks.getD j default).meths.length : Int) := by omega
 have hig : ¬ ((ks.getD j default).meths.length : Int) ≤ (i : Int) := by omega
 generalize ks.getD j default = p at *
 generalize p.meths.getD i default = m at *
 have ho1 := ho0.alloc (.cells #[.string m.name, .string m.desc, .int .i64 m.flags] 95)
 have hr1 := heap_alloc_new (w.alloc (.cells #[.int .i64 0, .int .i64 0, .int .i64 0, .int .i64 0, .int .i64 0, .slice none 0 0, .slice none 0 0, .slice none 0 0] 63)) (.cells #[.string m.name, .string m.desc, .int .i64 m.flags] 95)
 have hr2 : ((w.alloc (.cells #[.int .i64 0, .int .i64 0, .int .i64 0, .int .i64 0, .int .i64 0, .slice none 0 0, .slice none 0 0, .slice none 0 0] 63)).alloc (.cells #[.string m.name, .string m.desc, .int .i64 m.flags] 95)).heap[w.heap.size]? = some (.cells #[.int .i64 0, .int .i64 0, .int .i64 0, .int .i64 0, .int .i64 0, .slice none 0 0, .slice none 0 0, .slice none 0 0] 63 (0, 0)) := heap2
 obtain ⟨W, hW⟩ : ∃ W, (w.alloc (.cells #[.int .i64 0, .int .i64 0, .int .i64 0, .int .i64 0, .int .i64 0, .slice none 0 0, .slice none 0 0, .slice none 0 0] 63)).alloc (.cells #[.string m.name, .string m.desc, .int .i64 m.flags] 95) = W := ⟨_, rfl⟩
 rw [hW] at ho1 hr1 hr2
 rw [show (w.alloc (.cells #[.int .i64 0, .int .i64 0, .int .i64 0, .int .i64 0, .int .i64 0, .slice none 0 0, .slice none 0 0, .slice none 0 0] 63)).heap.size = w.heap.size + 1 by simp] at hr1
 have hx0 := cell_blk hr1 0
 have hx1 := cell_blk hr1 1
 have hx2 := cell_blk hr1 2
 have hmk := marks8M hr2
 have MKS : Hid (∀ W', Only (fun k => k = w.heap.size) W W' → (W'.cell? ⟨w.heap.size + 1, 0, none⟩ = some (.string m.name) ∧ W'.cell? ⟨w.heap.size + 1, 1, none⟩ = some (.string m.desc) ∧ W'.cell? ⟨w.heap.size + 1, 2, none⟩ = some (.int .i64 m.flags)) ∧ Only (fun k => k = w.heap.size) W W') := hid (fun W' h => ⟨⟨h.cell hx0 (by simp), h.cell hx1 (by simp), h.cell hx2 (by simp)⟩, h⟩)
 have HO := hid ho1
 have HR := hid hr2
 have HW := hid hW
 have HX0 := hid hx0
 have HX1 := hid hx1
 have HX2 := hid hx2
 have HMK := hid hmk
 clear hk hc q1 hd y hm m3 hr0 ho0 hr1 hr2 hW hx0 hx1 hx2 hmk ho1
 go_enter Tryz.func47, Tryz.ntmps47
 go_wp2
 rw [HW.out]
 have x0 := HX0.out
 have x1 := HX1.out
 have x2 := HX2.out
 obtain ⟨f0, f1, f2, f3, f4, f5, f6, f7⟩ := HMK.out
 obtain ⟨r0, r1, r2, r3, r4, r5, r6, r7⟩ := cells8M HR.out
 have hoo : Only (fun k => k = w.heap.size) W W := Only.refl _ _
 clear q0 q2 z0 z1 z2
 go_region_held3 (fun W' => (W'.cell? ⟨w.heap.size + 1, 0, none⟩ = some (.string m.name) ∧ W'.cell? ⟨w.heap.size + 1, 1, none⟩ = some (.string m.desc) ∧ W'.cell? ⟨w.heap.size + 1, 2, none⟩ = some (.int .i64 m.flags)) ∧ Only (fun k => k = w.heap.size) W W')
  ((refine MKS.out _ ?_; first | with_reducible exact hoo.drew | with_reducible assumption | with_reducible exact (only8M hoo (fun _ => rfl)).drew | with_reducible exact only8M hoo.drew (fun _ => rfl) | with_reducible exact only8M hoo (fun _ => rfl)))
  (fail)
 all_goals
  clear x0 x1 x2 f0 f1 f2 f3 f4 f5 f6 f7 r0 r1 r2 r3 r4 r5 r6 r7 hoo
  have hfin := store8M (a0 := .int .i64 m.flags) (a1 := .int .i64 0) (a2 := .int .i64 0) (a3 := .int .i64 0) (a4 := .int .i64 0) (a5 := .slice none 0 0) (a6 := .slice none 0 0) (a7 := .slice none 0 0) HR.out
  have hofin := (only8M (a0 := .int .i64 m.flags) (a1 := .int .i64 0) (a2 := .int .i64 0) (a3 := .int .i64 0) (a4 := .int .i64 0) (a5 := .slice none 0 0) (a6 := .slice none 0 0) (a7 := .slice none 0 0) HO.out (fun hl => absurd hl (Nat.lt_irrefl w.heap.size))).drew
  generalize ((((((((W.setCell ⟨w.heap.size, 0, none⟩ (.int .i64 m.flags)).setCell ⟨w.heap.size, 1, none⟩ (.int .i64 0)).setCell ⟨w.heap.size, 2, none⟩ (.int .i64 0)).setCell ⟨w.heap.size, 3, none⟩ (.int .i64 0)).setCell ⟨w.heap.size, 4, none⟩ (.int .i64 0)).setCell ⟨w.heap.size, 5, none⟩ (.slice none 0 0)).setCell ⟨w.heap.size, 6, none⟩ (.slice none 0 0)).setCell ⟨w.heap.size, 7, none⟩ (.slice none 0 0)) = W6 at *
  go_wp2
  exact bodyPost_ret (method_result4 (b := w.heap.size) Tryz.results47 (heap_drewT hfin) rfl rfl rfl rfl) rfl ⟨rfl, hofin⟩
def MethListTo (w : World) (m : MethodV) (nm ds : ByteArray) (e : Ending) (w' : World) : Prop :=
 ∃ vc vt vm, e = .returned (.tuple #[.agg #[.int .i64 m.flags, .int .i64 m.name, .int .i64 m.desc, .int .i64 m.stack, .int .i64 m.locals, vc, vt, vm], .string nm, .string ds, .bool true]) ∧ Inside w' m vc vt vm ∧ Only (fun _ => False) w w'
set_option maxRecDepth 100000 in
theorem refMethodList (pb : Nat) (ks : List KindV) (cs : List ClassV) (j i k : Nat) (w : World) (hd : DocP w pb ks cs) (hj : j < ks.length) (hj13 : 13 ≤ j) (hi : i < (ks.getD j default).meths.length) (hpl : (ks.getD j default).place = (k : Int)) (hk : k < cs.length) (him : i < (cs.getD k default).methods.length) :
  Calls Tryz.prog 47 #[.pointer (some ⟨pb, 0, none⟩), .int .i64 j, .int .i64 i] w (MethListTo w ((cs.getD k default).methods.getD i default) ((ks.getD j default).meths.getD i default).name ((ks.getD j default).meths.getD i default).desc) := by
 have ho0 := (Only.refl (fun _ => False) w).alloc (.cells #[.int .i64 0, .int .i64 0, .int .i64 0, .int .i64 0, .int .i64 0, .slice none 0 0, .slice none 0 0, .slice none 0 0] 63)
 obtain ⟨vl, vi, g0, g1, hks, fc, hc1, hc2⟩ := hd
 obtain ⟨ao, cap, rfl, p1, p2⟩ := hks.len
 obtain ⟨ac, capc, rfl, p3, p4⟩ := hc1.slice
 have hjz : (j : Int) < (ks.length : Int) := by omega
 have hj0 : (0 : Int) ≤ (j : Int) := by omega
 have hj00 : ¬ (j : Int) < 0 := by omega
 have hjg : ¬ (ks.length : Int) ≤ (j : Int) := by omega
 have hi0 : (0 : Int) ≤ (i : Int) := by omega
 have hi00 : ¬ (i : Int) < 0 := by omega
 have h13 : ¬ (j : Int) < 13 := by omega
 have hk0 : (0 : Int) ≤ (k : Int) := by omega
 have hkz : (k : Int) < (cs.length : Int) := by omega
 obtain ⟨b, o, vf, vm, rfl, y, -, hm⟩ := hks.at hj
 obtain ⟨am, cm, rfl, m1, m2, m3, -⟩ := id hm
 obtain ⟨bm, om, rfl, z0, z1, z2⟩ := Sl.at hm hi
 obtain ⟨bc, oc, rfl, yc⟩ := Sl.at hc1 hk
 obtain ⟨-, -, hms, -, -⟩ := hc2 k hk
 obtain ⟨fm, hm1, hm2, hm3⟩ := hms
 have ec := yc.c4
 obtain ⟨an, cn, hvn, n1, n2⟩ := hm1.slice
 rw [hvn] at hm1 ec
 obtain ⟨bn, on, rfl, yn⟩ := Sl.at hm1 him
 obtain ⟨e0, e1, e2, e3, e4, e5, e6, e7⟩ := yn
 have hins := hm2 i him
 generalize (fm i).1 = vc at *
 generalize (fm i).2.1 = vt at *
 generalize (fm i).2.2 = vmp at *
 obtain ⟨a5, c5, h5, -⟩ := id hins.1
 obtain ⟨a6, c6, h6, -⟩ := id hins.2.1.1
 obtain ⟨a7, c7, h7, -⟩ := id hins.2.2
 subst h5 h6 h7
 have y3 := y.c3
 have y4 := y.c4
 rw [hpl] at y4
 have hiz : (i : Int) < ((ks.getD j default).meths.length : Int) := by omega
 have hig : ¬ ((ks.getD j default).meths.length : Int) ≤ (i : Int) := by omega
 have himz : (i : Int) < ((cs.getD k default).methods.length : Int) := by omega
 generalize ks.getD j default = p at *
 generalize p.meths.getD i default = m at *
 generalize cs.getD k default = c at *
 generalize c.methods.getD i default = mv at *
 have q0 := ho0.cell g0 (fun h => h)
 have q2 := ho0.cell y3 (fun h => h)
 have q3 := ho0.cell z0 (fun h => h)
 have q4 := ho0.cell z1 (fun h => h)
 have q5 := ho0.cell z2 (fun h => h)
 have ho1 := ho0.alloc (.cells #[.string m.name, .string m.desc, .int .i64 m.flags] 95)
 have hr1 := heap_alloc_new (w.alloc (.cells #[.int .i64 0, .int .i64 0, .int .i64 0, .int .i64 0, .int .i64 0, .slice none 0 0, .slice none 0 0, .slice none 0 0] 63)) (.cells #[.string m.name, .string m.desc, .int .i64 m.flags] 95)
 have hr2 : ((w.alloc (.cells #[.int .i64 0, .int .i64 0, .int .i64 0, .int .i64 0, .int .i64 0, .slice none 0 0, .slice none 0 0, .slice none 0 0] 63)).alloc (.cells #[.string m.name, .string m.desc, .int .i64 m.flags] 95)).heap[w.heap.size]? = some (.cells #[.int .i64 0, .int .i64 0, .int .i64 0, .int .i64 0, .int .i64 0, .slice none 0 0, .slice none 0 0, .slice none 0 0] 63 (0, 0)) := heap2
 obtain ⟨W, hW⟩ : ∃ W, (w.alloc (.cells #[.int .i64 0, .int .i64 0, .int .i64 0, .int .i64 0, .int .i64 0, .slice none 0 0, .slice none 0 0, .slice none 0 0] 63)).alloc (.cells #[.string m.name, .string m.desc, .int .i64 m.flags] 95) = W := ⟨_, rfl⟩
 rw [hW] at ho1 hr1 hr2
 rw [show (w.alloc (.cells #[.int .i64 0, .int .i64 0, .int .i64 0, .int .i64 0, .int .i64 0, .slice none 0 0, .slice none 0 0, .slice none 0 0] 63)).heap.size = w.heap.size + 1 by simp] at hr1
 have hx0 := cell_blk hr1 0
 have hx1 := cell_blk hr1 1
 have hmk := marks8M hr2
 obtain ⟨S, hS⟩ : ∃ S : World → Prop, S = fun W' => (W'.cell? ⟨w.heap.size + 1, 0, none⟩ = some (.string m.name) ∧ W'.cell? ⟨w.heap.size + 1, 1, none⟩ = some (.string m.desc)) ∧ (W'.cell? ⟨pb, 0, none⟩ = some (.slice (some ⟨b, o, none⟩) ks.length cap) ∧ W'.cell? ⟨pb, 1, none⟩ = some (.slice (some ⟨bc, oc, none⟩) cs.length capc) ∧ W'.cell? ⟨b, o + j * 5 + 4, none⟩ = some (.int .i64 k) ∧ W'.cell? ⟨bc, oc + k * 5 + 4, none⟩ = some (.slice (some ⟨bn, on, none⟩) c.methods.length cn)) ∧ (W'.cell? ⟨bn, on + i * 8, none⟩ = some (.int .i64 mv.flags) ∧ W'.cell? ⟨bn, on + i * 8 + 1, none⟩ = some (.int .i64 mv.name) ∧ W'.cell? ⟨bn, on + i * 8 + 2, none⟩ = some (.int .i64 mv.desc) ∧ W'.cell? ⟨bn, on + i * 8 + 3, none⟩ = some (.int .i64 mv.stack) ∧ W'.cell? ⟨bn, on + i * 8 + 4, none⟩ = some (.int .i64 mv.locals) ∧ W'.cell? ⟨bn, on + i * 8 + 5, none⟩ = some (.slice a5 mv.code.length c5) ∧ W'.cell? ⟨bn, on + i * 8 + 6, none⟩ = some (.slice a6 mv.traps.length c6) ∧ W'.cell? ⟨bn, on + i * 8 + 7, none⟩ = some (.slice a7 mv.maps.length c7)) ∧ Only (fun k => k = w.heap.size) W W' := ⟨_, rfl⟩
 have MKS : Hid (∀ W', Only (fun k => k = w.heap.size) W W' → S W') := hid (fun W' h => by
  have h2 : Only (fun _ => False) w W' := ho1.trans h (fun k hk hl => by omega)
  rw [hS]
  exact ⟨⟨h.cell hx0 (by simp), h.cell hx1 (by simp)⟩, ⟨h2.cell g0 (fun h => h), h2.cell g1 (fun h => h), h2.cell y4 (fun h => h), h2.cell ec (fun h => h)⟩, ⟨h2.cell e0 (fun h => h), h2.cell e1 (fun h => h), h2.cell e2 (fun h => h), h2.cell e3 (fun h => h), h2.cell e4 (fun h => h), h2.cell e5 (fun h => h), h2.cell e6 (fun h => h), h2.cell e7 (fun h => h)⟩, h⟩)
 have HO := hid ho1
 have HR := hid hr2
 have HW := hid hW
 have HMK := hid hmk
 have HIN : Hid (∀ W', Only (fun _ => False) w W' → Inside W' mv (.slice a5 mv.code.length c5) (.slice a6 mv.traps.length c6) (.slice a7 mv.maps.length c7)) := hid (fun W' h => ⟨hins.1.only h (fun _ _ _ h => h), hins.2.1.only h, hins.2.2.only h (fun _ _ _ h => h)⟩)
 clear hks hc1 hc2 hm y yc m3 hr1 hr2 hW hx0 hx1 hmk ho1 ho0 hm1 hm2 hm3 hvn hins g0 g1 y3 y4 z0 z1 z2 ec e0 e1 e2 e3 e4 e5 e6 e7 hpl
 go_enter Tryz.func47, Tryz.ntmps47
 go_wp2
 rw [HW.out]
 obtain ⟨f0, f1, f2, f3, f4, f5, f6, f7⟩ := HMK.out
 obtain ⟨r0, r1, r2, r3, r4, r5, r6, r7⟩ := cells8M HR.out
 have hoo : Only (fun k => k = w.heap.size) W W := Only.refl _ _
 have hs0 := MKS.out W hoo
 clear q0 q2 q3 q4 q5
 subst hS
 obtain ⟨⟨x0, x1⟩, ⟨g0, g1, y4, ec⟩, ⟨e0, e1, e2, e3, e4, e5, e6, e7⟩, -⟩ := hs0
 go_region_held3 (fun W' => (W'.cell? ⟨w.heap.size + 1, 0, none⟩ = some (.string m.name) ∧ W'.cell? ⟨w.heap.size + 1, 1, none⟩ = some (.string m.desc)) ∧ (W'.cell? ⟨pb, 0, none⟩ = some (.slice (some ⟨b, o, none⟩) ks.length cap) ∧ W'.cell? ⟨pb, 1, none⟩ = some (.slice (some ⟨bc, oc, none⟩) cs.length capc) ∧ W'.cell? ⟨b, o + j * 5 + 4, none⟩ = some (.int .i64 k) ∧ W'.cell? ⟨bc, oc + k * 5 + 4, none⟩ = some (.slice (some ⟨bn, on, none⟩) c.methods.length cn)) ∧ (W'.cell? ⟨bn, on + i * 8, none⟩ = some (.int .i64 mv.flags) ∧ W'.cell? ⟨bn, on + i * 8 + 1, none⟩ = some (.int .i64 mv.name) ∧ W'.cell? ⟨bn, on + i * 8 + 2, none⟩ = some (.int .i64 mv.desc) ∧ W'.cell? ⟨bn, on + i * 8 + 3, none⟩ = some (.int .i64 mv.stack) ∧ W'.cell? ⟨bn, on + i * 8 + 4, none⟩ = some (.int .i64 mv.locals) ∧ W'.cell? ⟨bn, on + i * 8 + 5, none⟩ = some (.slice a5 mv.code.length c5) ∧ W'.cell? ⟨bn, on + i * 8 + 6, none⟩ = some (.slice a6 mv.traps.length c6) ∧ W'.cell? ⟨bn, on + i * 8 + 7, none⟩ = some (.slice a7 mv.maps.length c7)) ∧ Only (fun k => k = w.heap.size) W W')
  ((refine MKS.out _ ?_; first | with_reducible exact hoo.drew | with_reducible assumption | with_reducible exact (only8M hoo (fun _ => rfl)).drew | with_reducible exact only8M hoo.drew (fun _ => rfl) | with_reducible exact only8M hoo (fun _ => rfl)))
  (fail)
 all_goals
  clear x0 x1 g0 g1 y4 ec e0 e1 e2 e3 e4 e5 e6 e7 f0 f1 f2 f3 f4 f5 f6 f7 r0 r1 r2 r3 r4 r5 r6 r7 hoo
  have hfin := store8M (a0 := .int .i64 mv.flags) (a1 := .int .i64 mv.name) (a2 := .int .i64 mv.desc) (a3 := .int .i64 mv.stack) (a4 := .int .i64 mv.locals) (a5 := .slice a5 mv.code.length c5) (a6 := .slice a6 mv.traps.length c6) (a7 := .slice a7 mv.maps.length c7) HR.out
  have hofin := (only8M (a0 := .int .i64 mv.flags) (a1 := .int .i64 mv.name) (a2 := .int .i64 mv.desc) (a3 := .int .i64 mv.stack) (a4 := .int .i64 mv.locals) (a5 := .slice a5 mv.code.length c5) (a6 := .slice a6 mv.traps.length c6) (a7 := .slice a7 mv.maps.length c7) HO.out (fun hl => absurd hl (Nat.lt_irrefl w.heap.size))).drew
  generalize ((((((((W.setCell ⟨w.heap.size, 0, none⟩ (.int .i64 mv.flags)).setCell ⟨w.heap.size, 1, none⟩ (.int .i64 mv.name)).setCell ⟨w.heap.size, 2, none⟩ (.int .i64 mv.desc)).setCell ⟨w.heap.size, 3, none⟩ (.int .i64 mv.stack)).setCell ⟨w.heap.size, 4, none⟩ (.int .i64 mv.locals)).setCell ⟨w.heap.size, 5, none⟩ (.slice a5 mv.code.length c5)).setCell ⟨w.heap.size, 6, none⟩ (.slice a6 mv.traps.length c6)).setCell ⟨w.heap.size, 7, none⟩ (.slice a7 mv.maps.length c7)) = W6 at *
  go_wp2
  exact bodyPost_ret (method_result4 (b := w.heap.size) Tryz.results47 (heap_drewT hfin) rfl rfl rfl rfl) rfl ⟨_, _, _, rfl, HIN.out _ hofin, hofin⟩
def sysB : ByteArray := ⟨#[83, 121, 115]⟩
theorem lit_sys : (⟨#[83, 121, 115]⟩ : ByteArray).toList = [83, 121, 115] := by rw [ByteArray.toList_eq]
def topsF (ks : List KindV) : Nat → Int → Bool
 | 0, _ => false
 | f + 1, x => if x = 0 then true else if superZ ks x < 0 then false else if (ks.getD (superZ ks x).toNat default).name = sysB then false else topsF ks f (superZ ks x)
def topsZ (ks : List KindV) (x : Int) : Bool := topsF ks (ks.length + 1) x
set_option maxRecDepth 100000 in
theorem refTops (pb : Nat) (ks : List KindV) (cs : List ClassV) (a : Int) (w : World) (hd : DocP w pb ks cs) (hn : ks.length ≤ 4611686018427387904) :
  Calls Tryz.prog 38 #[.pointer (some ⟨pb, 0, none⟩), .int .i64 a] w fun e w' => e = .returned (.bool (topsZ ks a)) ∧ w = w' := by
 have HD := hid hd
 obtain ⟨vl, vi, q0, q1, hk, hc⟩ := hd
 obtain ⟨ao, cap, rfl, p1, p2⟩ := hk.len
 have HK := hid hk
 have HR : Hid (topsZ ks a = topsF ks (ks.length + 1) a) := hid rfl
 have hlit := lit_sys
 clear hk hc q1
 go_enter Tryz.func38, Tryz.ntmps38
 go_wp2
 go_loop [1, 5] (fun av nv => ∃ (x : Int) (k : Nat), av = .int .i64 x ∧ nv = .int .i64 k ∧ k ≤ ks.length + 1 ∧ Hid (topsZ ks a = topsF ks (ks.length + 1 - k) x)) (fun _ nv => ks.length + 1 - (intOf nv).toNat)
 case atStart => exact ⟨a, 0, rfl, rfl, Nat.zero_le _, HR⟩
 case round =>
  obtain ⟨x, k, rfl, rfl, hk, HS⟩ := hrel
  by_cases hkl : k ≤ ks.length
  ·have hkz : (k : Int) ≤ (ks.length : Int) := by omega
   have HU : Hid (topsF ks (ks.length + 1 - k) x = if x = 0 then true else if superZ ks x < 0 then false else if (ks.getD (superZ ks x).toNat default).name = sysB then false else topsF ks (ks.length + 1 - (k + 1)) (superZ ks x)) := hid (by rw [show ks.length + 1 - k = (ks.length + 1 - (k + 1)) + 1 by omega]; rfl)
   by_cases x0 : x = 0
   ·subst x0
    have HF := hid (show topsZ ks a = true by rw [HS.out, HU.out, if_pos rfl])
    go_wp2
    go_ret
    rw [HF.out]
    exact ⟨rfl, rfl⟩
   have hx0 : (x == 0) = false := by rw [beq_eq_false_iff_ne]; exact x0
   have C1 := hid (refSuperN pb ks cs x w HD.out hn)
   rcases superZ_cases ks x with hs | ⟨j, hj, hs⟩
   ·have HF := hid (show topsZ ks a = false by rw [HS.out, HU.out, if_neg x0, hs, if_pos (by decide)])
    rw [hs] at C1
    clear hs x0
    go_wp2_with (fail)
    refine C1.out.mono ?_
    rintro e w2 ⟨rfl, rfl⟩
    go_wp2
    go_ret
    rw [HF.out]
    exact ⟨rfl, rfl⟩
   ·rw [hs] at C1
    have hjz : (j : Int) < (ks.length : Int) := by omega
    have hj0 : (0 : Int) ≤ (j : Int) := by omega
    have hj1 : ¬ (j : Int) < 0 := by omega
    obtain ⟨b, o, vf, vm, rfl, y, -, -⟩ := HK.out.at hj
    have q2 := y.c0
    by_cases hn : (ks.getD j default).name = sysB
    ·have HF := hid (show topsZ ks a = false by rw [HS.out, HU.out, if_neg x0, hs, if_neg hj1, Int.toNat_natCast, if_pos hn])
     rw [hn] at q2
     unfold sysB at q2
     clear hs x0 hn y
     go_wp2_with (fail)
     refine C1.out.mono ?_
     rintro e w2 ⟨rfl, rfl⟩
     go_wp2
     go_ret
     rw [HF.out]
     exact ⟨rfl, rfl⟩
    ·have HF := hid (show topsZ ks a = topsF ks (ks.length + 1 - (k + 1)) (j : Int) by rw [HS.out, HU.out, if_neg x0, hs, if_neg hj1, Int.toNat_natCast, if_neg hn])
     obtain ⟨n1, n2⟩ := toList_beq hn
     unfold sysB at n1 n2
     rw [lit_sys] at n1 n2
     generalize (ks.getD j default).name = nm at *
     clear hs x0 hn y
     go_wp2_with (fail)
     refine C1.out.mono ?_
     rintro e w2 ⟨rfl, rfl⟩
     go_wp2
     go_round
     case rel => exact ⟨_, k + 1, rfl, by go_num, by omega, HF⟩
     case measure => simp [intOf]; omega
  ·obtain rfl : k = ks.length + 1 := by omega
   have HF := hid (show topsZ ks a = false by rw [HS.out, Nat.sub_self]; rfl)
   clear hkl hk
   go_wp2
   go_ret
   rw [HF.out]
   exact ⟨rfl, rfl⟩
end Go.Proofs.YtinbelghhfodiaaGreatDoor
