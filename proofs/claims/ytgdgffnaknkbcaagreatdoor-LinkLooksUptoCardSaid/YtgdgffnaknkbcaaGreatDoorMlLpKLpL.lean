import Derived.Test.YtgdgffnaknkbcaaGreatDoorMlLpHLpI
import Derived.Laws.MakeOwn
import Derived.Deep.RegionHeld3
import Derived.Test.YtgdgffnaknkbcaaGreatDoorMlLpJ
namespace Go.Proofs.YtgdgffnaknkbcaaGreatDoor
open Go.RowKit Go.Maps
set_option linter.unusedVariables false
set_option linter.unusedSimpArgs false
attribute [local go_sem] Oper.semAt_some
def subP (ks : List KindV) (a b : Int) : Bool := (seqX ks a).any (fun j => (j : Int) == b)
theorem bool_resultC {fn : Func} {p : Tmp} (hr : fn.results = #[.cell p 4]) {w : World} {c : Nat} {x : Bool} {tmps : Array Value} (h2 : w.heap[c]? = some (.cells #[.bool x] 4 (0, 0))) (ht : tmps.getD p undef = .pointer (some ⟨c, 0, none⟩)) :
  (results fn tmps).run Tryz.prog w = .ok (.bool x) w := by
 have hp' : tmps[p]?.getD undef = .pointer (some ⟨c, 0, none⟩) := by simpa using ht
 have hc := cell1 h2
 have hL2 : (loadVar 4 ⟨c, 0, none⟩).run Tryz.prog w = .ok (.bool x) w := by simp [loadVar, isAgg, underlying, Tryz.underlying4, hc, Result.andThen]
 simp only [results, hr]
 simp [Sem.run_bind, Result.andThen, hp', asAddr, hL2]
theorem fin_heap1 {w W : World} {D E N : Nat} {o : Obj} {ce : Array Value} {te : TypeId} (hD : N ≤ D) (hN : w.heap.size ≤ E ∧ E < N) (hB : Below w.heap.size w W) (hK : W.heap[D]? = some o) (he : W.heap[E]? = some (.cells ce te (0, 0))) :
  (W.putObj D (.deferred none)).heap[E]? = some (.cells ce te (0, 0)) ∧ Only (fun _ => False) w (W.putObj D (.deferred none)) :=
 ⟨(World.putObj_heap_other (by omega)).trans he, Only.of_below (hB.grown (grownBy_putObj' W D _) hB.size (fun k e => by cases e; omega)) _⟩
def SubV (w W : World) (b : Int) (x : Bool) : Prop := W.heap[w.heap.size]? = some (.cells #[.int .i64 b] 3 (0, 0)) ∧ W.heap[w.heap.size + 1]? = some (.cells #[.bool x] 4 (0, 0))
theorem SubV.own {w X Y : World} {b : Int} {x : Bool} {row : Option Nat} {N : Nat} (h : SubV w X b x) (hg : X.grownBy Y row) (hr : ∀ r, row = some r → N ≤ r ∧ ∃ o : Obj, X.heap[r]? = some o ∧ o.isCells = false) : SubV w Y b x := ⟨own_heap h.1 rfl hg hr, own_heap h.2 rfl hg hr⟩
set_option maxHeartbeats 8000000 in
set_option maxRecDepth 100000 in
theorem pSub {G : Nat → Prop} {fv : Nat → Value} {pb : Nat} {ks : List KindV} {cl : Nat → ClassV} {sl : Nat → Nat → Int} {w : World} (h : ProgG G fv w pb ks cl sl) (hg : GoodK ks) (a b : Int) :
  Calls Tryz.prog 21 #[.pointer (some ⟨pb, 0, none⟩), .int .i64 a, .int .i64 b] w fun e w' => e = .returned (.bool (subP ks a b)) ∧ Only (fun _ => False) w w' := by
 have hp0 := hg.pos
 have ho0 := ((Only.refl (fun _ => False) w).alloc (.cells #[.int .i64 b] 3)).alloc (.cells #[.bool false] 4)
 have hv0 : SubV w ((w.alloc (.cells #[.int .i64 b] 3)).alloc (.cells #[.bool false] 4)) b false := ⟨((Only.refl (fun _ => False) _).alloc _).heap (heap_alloc_new w _) (fun h => h), by
  have := heap_alloc_new (w.alloc (.cells #[.int .i64 b] 3)) (.cells #[.bool false] 4)
  rwa [World.size_alloc] at this⟩
 have hs0 : ((w.alloc (.cells #[.int .i64 b] 3)).alloc (.cells #[.bool false] 4)).heap.size = w.heap.size + 2 := by simp
 obtain ⟨W0, hW0⟩ : ∃ W0, (w.alloc (.cells #[.int .i64 b] 3)).alloc (.cells #[.bool false] 4) = W0 := ⟨_, rfl⟩
 rw [hW0] at ho0 hv0 hs0
 have h1 := h.only ho0
 have ha : Only (fun _ => False) W0 ((W0.alloc (.cells #[.pointer (some ⟨pb, 0, none⟩)] 23)).alloc (.cells #[.int .i64 a] 3)) := ((Only.refl _ W0).alloc _).alloc _
 have hbp : ((W0.alloc (.cells #[.pointer (some ⟨pb, 0, none⟩)] 23)).alloc (.cells #[.int .i64 a] 3)).cell? ⟨W0.heap.size, 0, none⟩ = some (.pointer (some ⟨pb, 0, none⟩)) := cell1 (((Only.refl (fun _ => False) _).alloc _).heap (heap_alloc_new W0 (.cells #[.pointer (some ⟨pb, 0, none⟩)] 23)) (fun h => h))
 have hbn : ((W0.alloc (.cells #[.pointer (some ⟨pb, 0, none⟩)] 23)).alloc (.cells #[.int .i64 a] 3)).cell? ⟨W0.heap.size + 1, 0, none⟩ = some (.int .i64 a) := by
  have := cell1 (heap_alloc_new (W0.alloc (.cells #[.pointer (some ⟨pb, 0, none⟩)] 23)) (.cells #[.int .i64 a] 3))
  rwa [World.size_alloc] at this
 have CU := Lib.hid (pUp pb a W0)
 have hsa : ((W0.alloc (.cells #[.pointer (some ⟨pb, 0, none⟩)] 23)).alloc (.cells #[.int .i64 a] 3)).heap.size = w.heap.size + 4 := by simp; omega
 obtain ⟨W1, hW1⟩ : ∃ W1, (W0.alloc (.cells #[.pointer (some ⟨pb, 0, none⟩)] 23)).alloc (.cells #[.int .i64 a] 3) = W1 := ⟨_, rfl⟩
 rw [hW1] at ha hbp hbn hsa CU
 have IT := Lib.hid (up_in 8 (by decide) (h1.only ha) hg a (W0.heap.size + 1) W0.heap.size hbn hbp)
 have hv1 : SubV w W1 b false := ⟨ha.heap hv0.1 (fun h => h), ha.heap hv0.2 (fun h => h)⟩
 have HV1 := Lib.hid hv1
 have HO1 := Lib.hid (ho0.trans ha (fun _ h _ => h))
 have HW0 := Lib.hid hW0
 have HSEQ := Lib.hid (show subP ks a b = (seqX ks a).any (fun j => (j : Int) == b) from rfl)
 generalize subP ks a b = res at *
 generalize seqX ks a = xs at *
 clear h h1 hg ho0 hv0 ha hbp hbn hv1 hW0 hW1
 refine (callsIn_wide (n := 9)).1 ?_
 refine callsIn_of_wp_marks Tryz.func21 rfl trivial ?_ rfl
 simp only [Tryz.ntmps21, List.size_toArray, List.length_cons, List.length_nil, Nat.reduceAdd, Nat.reduceSub, Array.replicate_succ, Array.replicate_zero, List.push_toArray, List.append_toArray, List.nil_append, List.cons_append]
 refine wpIn_wide.2 ?_
 go_wp2_with (fail)
 rw [HW0.out]
 refine CU.out.mono ?_
 rintro e w3 ⟨rfl, hw3⟩
 subst hw3
 go_wp2
 have hv1 := HV1.out
 have ho1 := HO1.out
 refine (wpIn_wide (n := 9)).1 ?_
 refine wpIn_rangeFunc_ownG (α := Fin ks.length) (F := Fence.wide) rfl (by decide) (gf := 90) (lb := #[.pointer (some ⟨w.heap.size + 2 + 1, 0, none⟩), .pointer (some ⟨w.heap.size + 2, 0, none⟩)]) rfl trivial (enters_of Tryz.func90 (by kernel_rfl) rfl)
  (encs := encJ ks) (Kp := Below w3.heap.size) (S := fun l => vals l = xs) (Sp := fun pre => vals pre <+: xs) (N := ks.length + 2) (w0 := w3)
  (by rw [← hs0]; exact IT.out) (fun h k => belowK_t h k) (belowK_b (w := w3) (Nat.le_refl _)) (Below.refl _ _) (fun _ => rfl)
  (fun pre W => (SubV w W b false ∧ (vals pre).any (fun j => (j : Int) == b) = false) ∧ Below w.heap.size w W)
  (fun c pre W => (c = .ret ∧ (vals pre).any (fun j => (j : Int) == b) = true ∧ SubV w W b true) ∧ Below w.heap.size w W)
  (OwnFrom.and (fun s X Y row hs hg hr => ⟨hs.1.own hg hr, hs.2⟩) (ownFrom_below (Nat.le_refl _) (by omega)))
  (fun c => OwnFrom.and (fun s X Y row hs hg hr => ⟨hs.1, hs.2.1, hs.2.2.own hg hr⟩) (ownFrom_below (Nat.le_refl _) (by omega)))
  ⟨⟨hv1, rfl⟩, Only.none ho1⟩
  (fun x => { tmps := #[.pointer (some ⟨pb, 0, none⟩), .int .i64 a, .int .i64 b, undef, undef, .pointer (some ⟨w.heap.size, 0, none⟩), .pointer (some ⟨w.heap.size + 1, 0, none⟩), .int .i64 (x.val : Int), .pointer (some ⟨pb, 0, none⟩), .int .i64 a, .func (.func 90) #[] #[.pointer (some ⟨w.heap.size + 2 + 1, 0, none⟩), .pointer (some ⟨w.heap.size + 2, 0, none⟩)], .int .i64 (x.val : Int), undef, undef, undef], defers := [] })
  ?assign ?body ?done ?stop
 case assign =>
  intro lo x W K hK
  gi_wp2
  exact hK
 case body =>
  rintro lo pre ⟨j, hj⟩ W ⟨⟨hv, hq⟩, hB⟩ _
  have x0 := cell1 hv.1
  have x1 := cell1 hv.2
  have xf := frozen_blk hv.2 0
  have HV := Lib.hid hv
  have HQ := Lib.hid hq
  have HB := Lib.hid hB
  clear hv hq hB
  by_cases hjb : (j : Int) = b
  ·have he : ((j : Int) == b) = true := by simpa using hjb
   have HL : Hid ((vals (pre ++ [(⟨j, hj⟩ : Fin ks.length)])).any (fun j => (j : Int) == b) = true) := Lib.hid (by rw [vals_snoc, List.any_append]; simp [he])
   have h2 := heap_setCell_at (i := 0) (u := .bool true) HV.out.2
   have h1 : (W.setCell ⟨w.heap.size + 1, 0, none⟩ (.bool true)).heap[w.heap.size]? = _ := (Below.heap_setCell _ _ _ _ (by simp)).trans HV.out.1
   simp only [List.setIfInBounds_toArray, List.set_cons_zero] at h2
   have HV2 : Hid (SubV w (W.setCell ⟨w.heap.size + 1, 0, none⟩ (.bool true)) b true) := Lib.hid ⟨h1, h2⟩
   have HO2 := Lib.hid ((Only.refl (fun k => k = w.heap.size + 1) W).setCell (p := ⟨w.heap.size + 1, 0, none⟩) (fun _ => rfl) (.bool true))
   clear h1 h2
   subst hjb
   clear he
   gi_wp2
   exact ⟨⟨HO2.out.size, fun k o hk ho _ => HO2.out.heap ho (by omega)⟩, ⟨rfl, HL.out, HV2.out⟩, HB.out.trans (HO2.out.below HB.out.size (fun k hk => by omega))⟩
  ·have he : ((j : Int) == b) = false := by simpa using hjb
   have HL : Hid ((vals (pre ++ [(⟨j, hj⟩ : Fin ks.length)])).any (fun j => (j : Int) == b) = false) := Lib.hid (by rw [vals_snoc, List.any_append, HQ.out]; simp [he])
   clear hjb
   gi_wp2
   exact ⟨KeepsFrom.refl _ _, Below.refl _ _, ⟨HV.out, HL.out⟩, HB.out⟩
 case done =>
  rintro D ys W hD hS ⟨⟨hv, hq⟩, hB⟩ hK
  have HR := Lib.hid (show res = false by rw [HSEQ.out, ← hS]; exact hq)
  have x1 := cell1 hv.2
  have xf := frozen_blk hv.2 0
  have h2 := heap_setCell_at (i := 0) (u := .bool false) hv.2
  simp only [List.setIfInBounds_toArray, List.set_cons_zero] at h2
  have h5 := (Only.refl (fun k => k = w.heap.size + 1) W).setCell (p := ⟨w.heap.size + 1, 0, none⟩) (fun _ => rfl) (.bool false)
  have hK5 := h5.heap hK (by omega)
  have HEND := Lib.hid (fin_heap1 hD (by omega) (hB.trans (h5.below hB.size (fun k hk => by omega))) hK5 h2)
  have HK5 := Lib.hid hK5
  clear hv hq hB hS hK h2 h5 hK5
  go_wp2
  refine ⟨by simp, .inl ⟨_, _, rfl, run_takeDeferred HK5.out, ?_⟩⟩
  exact ⟨_, bool_resultC Tryz.results21 HEND.out.1 rfl, by rw [HR.out], HEND.out.2⟩
 case stop =>
  rintro D c pre W hD hA ⟨⟨rfl, hl, hv⟩, hB⟩ hK
  have HR := Lib.hid (show res = true by
   rw [HSEQ.out]
   obtain ⟨t, ht⟩ := hA
   rw [← ht, List.any_append, hl, Bool.true_or])
  have HEND := Lib.hid (fin_heap1 hD (by omega) hB hK hv.2)
  have HK := Lib.hid hK
  clear hv hl hB hA hK
  refine wpIn_wide.2 ?_
  go_wp2
  refine ⟨by simp, .inl ⟨_, _, rfl, run_takeDeferred HK.out, ?_⟩⟩
  exact ⟨_, bool_resultC Tryz.results21 HEND.out.1 rfl, by rw [HR.out], HEND.out.2⟩
theorem info_kpair : (Tryz.prog.info? 95).map (fun i => (i.zero, i.size, i.bytes)) = some (some (.agg #[.string ⟨#[]⟩, .string ⟨#[]⟩]), 2, 32) := by kernel_rfl
theorem run_mkP (n : Nat) (hn : n ≤ 4096) (w : World) : (Instr.makeSlice 42 (.int .i64 (n : Int)) (.int .i64 (n : Int))).run Tryz.prog w = .ok (.slice (some ⟨w.heap.size, 0, none⟩) n n) (w.alloc (.cells (madeCells #[.string ⟨#[]⟩, .string ⟨#[]⟩] (n * 2)) 95)) := by
 obtain ⟨i0, hi, hz0, hz1, hz2⟩ := info_parts info_kpair
 have := run_make (P := Tryz.prog) w 42 95 i0 _ Tryz.underlying42 hi hz0 .i64 .i64 (n : Int) (n : Int) (by omega) (Int.le_refl _) (by rw [hz2]; omega) (by omega)
 simp only [Int.toNat_natCast, hz1] at this
 exact this
def LaidP (cur : Array Value) (n : Nat) (l : List PairV) (j : Nat) : Prop := cur.size = n * 2 ∧ ∀ i, i < j → cur[i * 2]? = some (.string (l.getD i default).name) ∧ cur[i * 2 + 1]? = some (.string (l.getD i default).super)
theorem LaidP.step {cur : Array Value} {n : Nat} {l : List PairV} {j : Nat} {x y : ByteArray} (h : LaidP cur n l j) (hj : j < n) (hx : x = (l.getD j default).name) (hy : y = (l.getD j default).super) : LaidP ((cur.setIfInBounds (j * 2) (.string x)).setIfInBounds (j * 2 + 1) (.string y)) n l (j + 1) := by
 obtain ⟨h1, h2⟩ := h
 refine ⟨by simpa using h1, fun i hi => ?_⟩
 by_cases hij : i = j
 ·subst hij
  subst hx
  subst hy
  constructor
  ·rw [Array.getElem?_setIfInBounds_ne (by omega), Array.getElem?_setIfInBounds_self_of_lt (by omega)]
  ·rw [Array.getElem?_setIfInBounds_self_of_lt (by rw [Array.size_setIfInBounds]; omega)]
 ·obtain ⟨a, b⟩ := h2 i (by omega)
  constructor
  ·rw [Array.getElem?_setIfInBounds_ne (by omega), Array.getElem?_setIfInBounds_ne (by omega)]; exact a
  ·rw [Array.getElem?_setIfInBounds_ne (by omega), Array.getElem?_setIfInBounds_ne (by omega)]; exact b
section
variable {G : Nat → Prop} {fv : Nat → Value} {w : World} {pb : Nat} {ks : List KindV} {cl : Nat → ClassV} {sl : Nat → Nat → Int} (h : ProgG G fv w pb ks cl sl) (hpos : 0 < ks.length) (hsm : ks.length ≤ 64)
include h hpos hsm
set_option maxHeartbeats 8000000 in
set_option maxRecDepth 100000 in
theorem pTree : Calls Tryz.prog 23 #[.pointer (some ⟨pb, 0, none⟩)] w fun e w' => ∃ r, e = .returned r ∧ Pairs w' r (treeZ ks) ∧ Only (fun _ => False) w w' := by
 have C1 := Lib.hid (pLen h hpos)
 obtain ⟨n, hn⟩ : ∃ n, ks.length = n := ⟨_, rfl⟩
 have hmk := run_mkP n (by omega)
 have hb0 := heap_alloc_new w (.cells (madeCells #[.string ⟨#[]⟩, .string ⟨#[]⟩] (n * 2)) 95)
 have hlp : LaidP (madeCells #[.string ⟨#[]⟩, .string ⟨#[]⟩] (n * 2)) n (treeZ ks) 0 := ⟨size_madeCells _ _, fun i hi => by omega⟩
 have ho0 := (Only.refl (fun _ => False) w).alloc (.cells (madeCells #[.string ⟨#[]⟩, .string ⟨#[]⟩] (n * 2)) 95)
 generalize madeCells #[.string ⟨#[]⟩, .string ⟨#[]⟩] (n * 2) = mc at *
 have HB0 := Lib.hid hb0
 have HLP := Lib.hid hlp
 have HO0 := Lib.hid ho0
 obtain ⟨b, o, cap, mb, g0, -, e1, e2, -, hk⟩ := h.open hpos
 have HK := Lib.hid hk
 have HN := Lib.hid hn
 rw [hn] at C1 g0 e1
 have hn64 : n ≤ 64 := by omega
 clear hb0 hlp ho0 hk h hn
 go_enter Tryz.func23, Tryz.ntmps23
 go_wp2_with (fail)
 refine C1.out.mono ?_
 rintro e w1 ⟨rfl, hww⟩
 subst hww
 go_wp2
 go_loopw [10] (fun iv wr => ∃ (j : Nat) (cur : Array Value), iv = .int .i64 j ∧ j ≤ n ∧ Hid (wr.heap[w.heap.size]? = some (.cells cur 95 (0, 0))) ∧ Hid (LaidP cur n (treeZ ks) j) ∧ Hid (Only (fun _ => False) w wr)) (fun iv _ => n - (intOf iv).toNat)
 case atStart => exact ⟨0, mc, rfl, Nat.zero_le _, HB0, HLP, HO0⟩
 case round =>
  obtain ⟨j, cur, rfl, hj, HB, HL, HO⟩ := hrel
  by_cases hlt : j < n
  ·have hjz : (j : Int) < (n : Int) := by omega
   have hj0 : (0 : Int) ≤ (j : Int) := by omega
   have hjk : j < ks.length := by rw [HN.out]; exact hlt
   obtain ⟨iv, gi, hkn⟩ := HK.out j hjk
   obtain ⟨T, v, vom, rfl, ⟨na, hqa, hena, hca⟩, ⟨ns, hqs, hens, hcs⟩, -, -, -⟩ := hkn.told
   have q0 := HO.out.cell g0 (fun h => h)
   have qi := HO.out.cell gi (fun h => h)
   have HT := Lib.hid (treeZ_at hjk)
   have CN := Lib.hid hca
   have CSU := Lib.hid hcs
   obtain ⟨u0, hu0⟩ : ∃ u0, cur[j * 2]? = some u0 := ⟨cur[j * 2]'(by have := HL.out.1; omega), by rw [Array.getElem?_eq_getElem]⟩
   obtain ⟨u1, hu1⟩ : ∃ u1, cur[j * 2 + 1]? = some u1 := ⟨cur[j * 2 + 1]'(by have := HL.out.1; omega), by rw [Array.getElem?_eq_getElem]⟩
   have HU0 := Lib.hid hu0
   have HU1 := Lib.hid hu1
   generalize (ks.getD j default).name = x at *
   generalize (ks.getD j default).super = y at *
   have TO : Hid (∀ W, Only (fun _ => False) w W → Only (fun _ => False) w ((W.setCell ⟨w.heap.size, j * 2, none⟩ (.string x)).setCell ⟨w.heap.size, j * 2 + 1, none⟩ (.string y))) := Lib.hid (fun W hW => (hW.setCell (fun hl => absurd hl (Nat.lt_irrefl _)) _).setCell (fun hl => absurd hl (Nat.lt_irrefl _)) _)
   clear hkn hca hcs hu0 hu1
   go_wp2
   refine wp_region_held_drew (S := fun wc => wc.cell? ⟨pb, 0, none⟩ = some (.slice (some ⟨b, o, none⟩) n cap) ∧ wc.cell? ⟨b, o + j, none⟩ = some (.iface T v)) (by kernel_rfl) ⟨q0, qi⟩ (fun hHeld => ?_)
   refine wpAnyH_take (i := 0) (v := ?_) (by simp only [List.getElem?_toArray, List.getElem?_cons_succ, List.getElem?_cons_zero]; rfl) (by kernel_rfl) (by kernel_rfl) (by kernel_rfl) (by exact fun _ _ _ h => h) (Or.inl ⟨by rfl, ?_⟩) (by assumption) ?_
   rotate_left 1
   ·(intro w hSw; (try dsimp only at hSw); go_simp; try with_reducible rfl)
   try simp only [Act.put, sIB, sC0, sCS]
   refine wpAnyH_take (i := 1) (v := ?_) (by simp only [List.getElem?_toArray, List.getElem?_cons_succ, List.getElem?_cons_zero]; rfl) (by kernel_rfl) (by kernel_rfl) (by kernel_rfl) (by exact fun _ _ _ h => h) (Or.inl ⟨by rfl, ?_⟩) (by assumption) ?_
   rotate_left 1
   ·(intro w hSw; (try dsimp only at hSw); go_simp; try with_reducible rfl)
   try simp only [Act.put, sIB, sC0, sCS]
   refine wpAnyH_take (i := 2) (v := ?_) (by simp only [List.getElem?_toArray, List.getElem?_cons_succ, List.getElem?_cons_zero]; rfl) (by kernel_rfl) (by kernel_rfl) (by kernel_rfl) (by exact fun _ _ _ h => h) (Or.inl ⟨by rfl, ?_⟩) (by assumption) ?_
   rotate_left 1
   ·(intro w hSw; (try dsimp only at hSw); go_simp; try with_reducible rfl)
   try simp only [Act.put, sIB, sC0, sCS]
   refine wpAnyH_take (i := 3) (v := ?_) (by simp only [List.getElem?_toArray, List.getElem?_cons_succ, List.getElem?_cons_zero]; rfl) (by kernel_rfl) (by kernel_rfl) (by kernel_rfl) (by exact fun _ _ _ h => h) (Or.inl ⟨by rfl, ?_⟩) (by assumption) ?_
   rotate_left 1
   ·(intro w hSw; (try dsimp only at hSw); go_simp; try with_reducible rfl)
   try simp only [Act.put, sIB, sC0, sCS]
   refine wpAnyH_take (i := 4) (v := ?_) (by simp only [List.getElem?_toArray, List.getElem?_cons_succ, List.getElem?_cons_zero]; rfl) (by kernel_rfl) (by kernel_rfl) (by kernel_rfl) (by exact fun _ _ _ h => h) (Or.inl ⟨by rfl, ?_⟩) (by assumption) ?_
   rotate_left 1
   ·(intro w hSw; (try dsimp only at hSw); go_simp; try with_reducible rfl)
   try simp only [Act.put, sIB, sC0, sCS]
   refine wpAnyH_take (i := 5) (v := ?_) (by simp only [List.getElem?_toArray, List.getElem?_cons_succ, List.getElem?_cons_zero]; rfl) (by kernel_rfl) (by kernel_rfl) (by kernel_rfl) (by exact fun _ _ _ h => h) (Or.inl ⟨by rfl, ?_⟩) (by assumption) ?_
   rotate_left 1
   ·(intro w hSw; (try dsimp only at hSw); go_simp; try with_reducible rfl)
   try simp only [Act.put, sIB, sC0, sCS]
   refine wpAnyH_take (i := 6) (v := ?_) (by simp only [List.getElem?_toArray, List.getElem?_cons_succ, List.getElem?_cons_zero]; rfl) (by kernel_rfl) (by kernel_rfl) (by kernel_rfl) (by exact fun _ _ _ h => h) (Or.inl ⟨by rfl, ?_⟩) (by assumption) ?_
   rotate_left 1
   ·(intro w hSw; (try dsimp only at hSw); go_simp; try with_reducible rfl)
   try simp only [Act.put, sIB, sC0, sCS]
   refine wpAnyH_take (i := 7) (v := ?_) (by simp only [List.getElem?_toArray, List.getElem?_cons_succ, List.getElem?_cons_zero]; rfl) (by kernel_rfl) (by kernel_rfl) (by kernel_rfl) (by exact fun _ _ _ h => h) (Or.inl ⟨by rfl, ?_⟩) (by assumption) ?_
   rotate_left 1
   ·(intro w hSw; (try dsimp only at hSw); go_simp; try with_reducible rfl)
   try simp only [Act.put, sIB, sC0, sCS]
   refine wpAnyH_take (i := 8) (v := ?_) (by simp only [List.getElem?_toArray, List.getElem?_cons_succ, List.getElem?_cons_zero]; rfl) (by kernel_rfl) (by kernel_rfl) (by kernel_rfl) (by exact fun _ _ _ h => h) (Or.inl ⟨by rfl, ?_⟩) (by assumption) ?_
   rotate_left 1
   ·(intro w hSw; (try dsimp only at hSw); go_simp; try with_reducible rfl)
   try simp only [Act.put, sIB, sC0, sCS]
   refine wpAnyH_take (i := 10) (v := ?_) (by simp only [List.getElem?_toArray, List.getElem?_cons_succ, List.getElem?_cons_zero]; rfl) (by kernel_rfl) (by kernel_rfl) (by kernel_rfl) (by exact fun _ _ _ h => h) (Or.inl ⟨by rfl, ?_⟩) (by assumption) ?_
   rotate_left 1
   ·(intro w hSw; (try dsimp only at hSw); go_simp; try with_reducible rfl)
   try simp only [Act.put, sIB, sC0, sCS]
   refine wpAnyH_take (i := 11) (v := ?_) (by simp only [List.getElem?_toArray, List.getElem?_cons_succ, List.getElem?_cons_zero]; rfl) (by kernel_rfl) (by kernel_rfl) (by kernel_rfl) (by exact fun _ _ _ h => h) (Or.inl ⟨by rfl, ?_⟩) (by assumption) ?_
   rotate_left 1
   ·(intro w hSw; (try dsimp only at hSw); go_simp; try with_reducible rfl)
   try simp only [Act.put, sIB, sC0, sCS]
   refine wpAnyH_take (i := 12) (v := ?_) (by simp only [List.getElem?_toArray, List.getElem?_cons_succ, List.getElem?_cons_zero]; rfl) (by kernel_rfl) (by kernel_rfl) (by kernel_rfl) (by exact fun _ _ _ h => h) (Or.inl ⟨by rfl, ?_⟩) (by assumption) ?_
   rotate_left 1
   ·(intro w hSw; (try dsimp only at hSw); go_simp; try with_reducible rfl)
   try simp only [Act.put, sIB, sC0, sCS]
   refine wpAnyH_take (i := 13) (v := ?_) (by simp only [List.getElem?_toArray, List.getElem?_cons_succ, List.getElem?_cons_zero]; rfl) (by kernel_rfl) (by kernel_rfl) (by kernel_rfl) (by exact fun _ _ _ h => h) (Or.inl ⟨by rfl, ?_⟩) (by assumption) ?_
   rotate_left 1
   ·(intro w hSw; (try dsimp only at hSw); go_simp; try with_reducible rfl)
   try simp only [Act.put, sIB, sC0, sCS]
   refine wpAnyH_take (i := 14) (v := ?_) (by simp only [List.getElem?_toArray, List.getElem?_cons_succ, List.getElem?_cons_zero]; rfl) (by kernel_rfl) (by kernel_rfl) (by kernel_rfl) (by exact fun _ _ _ h => h) (Or.inl ⟨by rfl, ?_⟩) (by assumption) ?_
   rotate_left 1
   ·(intro w hSw; (try dsimp only at hSw); go_simp; try with_reducible rfl)
   try simp only [Act.put, sIB, sC0, sCS]
   refine wpAnyH_take (i := 15) (v := ?_) (by simp only [List.getElem?_toArray, List.getElem?_cons_succ, List.getElem?_cons_zero]; rfl) (by kernel_rfl) (by kernel_rfl) (by kernel_rfl) (by exact fun _ _ _ h => h) (Or.inl ⟨by rfl, ?_⟩) (by assumption) ?_
   rotate_left 1
   ·(intro w hSw; (try dsimp only at hSw); go_simp; try with_reducible rfl)
   try simp only [Act.put, sIB, sC0, sCS]
   refine wpAnyH_take (i := 16) (v := ?_) (by simp only [List.getElem?_toArray, List.getElem?_cons_succ, List.getElem?_cons_zero]; rfl) (by kernel_rfl) (by kernel_rfl) (by kernel_rfl) (by exact fun _ _ _ h => h) (Or.inl ⟨by rfl, ?_⟩) (by assumption) ?_
   rotate_left 1
   ·(intro w hSw; (try dsimp only at hSw); go_simp; try with_reducible rfl)
   try simp only [Act.put, sIB, sC0, sCS]
   refine wpAnyH_ready (rs := [9]) (by kernel_rfl) (by simp) ?_
   refine AllReadyH.cons (by simp only [List.getElem?_toArray, List.getElem?_cons_succ, List.getElem?_cons_zero]; rfl) (fun K hK => ?_) AllReadyH.nil
   go_simp
   (refine (CN.out _ HO.out.drew).mono ?_; rintro e1 w1 ⟨rfl, ho1⟩; have HO1 := Lib.hid (HO.out.drew.trans ho1 (fun _ h _ => h)))
   go_wp2_with fail
   refine hK.out _ _ ?_ (fun hHeld2 => ?_)
   ·exact ⟨HO1.out.cell g0 (fun h => h), HO1.out.cell gi (fun h => h)⟩
   clear hK K
   try simp only [Act.put, sIB, sC0, sCS]
   clear hHeld
   have hHeld := hHeld2
   clear hHeld2
   refine wpAnyH_ready (rs := [17]) (by kernel_rfl) (by simp) ?_
   refine AllReadyH.cons (by simp only [List.getElem?_toArray, List.getElem?_cons_succ, List.getElem?_cons_zero]; rfl) (fun K hK => ?_) AllReadyH.nil
   go_simp
   (refine (CSU.out _ HO1.out).mono ?_; rintro e2 w2 ⟨rfl, ho2⟩; have HO2 := Lib.hid (HO1.out.trans ho2 (fun _ h _ => h)); have hb2 := ho2.heap (ho1.heap HB.out (fun h => h)) (fun h => h); have x0 : w2.cell? ⟨w.heap.size, j * 2, none⟩ = some u0 := (cell_blk hb2 _).trans HU0.out; have x1 : w2.cell? ⟨w.heap.size, j * 2 + 1, none⟩ = some u1 := (cell_blk hb2 _).trans HU1.out; have f0 := frozen_blk hb2 (j * 2); have f1 := frozen_blk hb2 (j * 2 + 1); have HB2 := Lib.hid hb2; clear hb2)
   go_wp2_with fail
   refine hK.out _ _ ?_ (fun hHeld2 => ?_)
   ·exact ⟨HO2.out.cell g0 (fun h => h), HO2.out.cell gi (fun h => h)⟩
   clear hK K
   try simp only [Act.put, sIB, sC0, sCS]
   clear hHeld
   have hHeld := hHeld2
   clear hHeld2
   refine wpAnyH_take (i := 18) (v := ?_) (by simp only [List.getElem?_toArray, List.getElem?_cons_succ, List.getElem?_cons_zero]; rfl) (by kernel_rfl) (by kernel_rfl) (by kernel_rfl) (by exact fun _ _ _ h => h) (Or.inl ⟨by rfl, ?_⟩) (by assumption) ?_
   rotate_left 1
   ·(intro w hSw; (try dsimp only at hSw); go_simp; try with_reducible rfl)
   try simp only [Act.put, sIB, sC0, sCS]
   refine wpAnyH_take (i := 19) (v := ?_) (by simp only [List.getElem?_toArray, List.getElem?_cons_succ, List.getElem?_cons_zero]; rfl) (by kernel_rfl) (by kernel_rfl) (by kernel_rfl) (by exact fun _ _ _ h => h) (Or.inl ⟨by rfl, ?_⟩) (by assumption) ?_
   rotate_left 1
   ·(intro w hSw; (try dsimp only at hSw); go_simp; try with_reducible rfl)
   try simp only [Act.put, sIB, sC0, sCS]
   refine wpAnyH_ready (rs := [20]) (by kernel_rfl) (by simp) ?_
   refine AllReadyH.cons (by simp only [List.getElem?_toArray, List.getElem?_cons_succ, List.getElem?_cons_zero]; rfl) (fun K hK => ?_) AllReadyH.nil
   go_simp
   refine hK.out _ _ ?_ (fun hHeld2 => ?_)
   ·exact ⟨(TO.out _ HO2.out).cell g0 (fun h => h), (TO.out _ HO2.out).cell gi (fun h => h)⟩
   clear hK K
   try simp only [Act.put, sIB, sC0, sCS]
   clear hHeld
   have hHeld := hHeld2
   clear hHeld2
   refine wpAnyH_done (by kernel_rfl) ?_ _
   have hb3 := heap_setCell_at (i := j * 2 + 1) (u := .string y) (heap_setCell_at (i := j * 2) (u := .string x) HB2.out)
   have HB3 := Lib.hid hb3
   have HL3 := Lib.hid (HL.out.step (x := x) (y := y) hlt (by rw [HT.out]) (by rw [HT.out]))
   have HO3 := Lib.hid (TO.out _ HO2.out)
   clear hb3 x0 x1 f0 f1 hHeld ho1 ho2
   go_wp2
   go_roundw
   case rel => exact ⟨j + 1, _, by go_num, by omega, HB3, HL3, HO3⟩
   case measure => simp [intOf]; omega
  ·have hje : j = n := by omega
   subst hje
   have HR : Hid (Pairs wr (.slice (some ⟨w.heap.size, 0, none⟩) j j) (treeZ ks)) := Lib.hid (by
    have hl : (treeZ ks).length = j := by rw [treeZ_len, HN.out]
    unfold Pairs
    rw [hl]
    refine ⟨_, _, rfl, Nat.le_refl _, by omega, (fun e => by cases e), fun z hz h0 => ?_⟩
    cases hz
    refine ⟨_, 0, rfl, fun i hi => ?_⟩
    obtain ⟨a, c⟩ := HL.out.2 i hi
    exact ⟨by rw [Nat.zero_add, cell_blk HB.out]; exact a, by rw [Nat.zero_add, cell_blk HB.out]; exact c⟩)
   clear hlt hj
   go_wp2
   go_ret
   exact ⟨_, rfl, HR.out, HO.out⟩
end
section
variable {G : Nat → Prop} {fv : Nat → Value} {w : World} {pb : Nat} {ks : List KindV} {cl : Nat → ClassV} {sl : Nat → Nat → Int} (h : ProgG G fv w pb ks cl sl) (hg : GoodK ks)
include h hg
omit h in
theorem name_small (n : Int) : (nameZ ks n).size ≤ 256 := by
 unfold nameZ
 split
 ·decide
 ·by_cases hn : n.toNat < ks.length
  ·exact (hg.fine _ (getD_mem hn)).name
  ·have : (ks.getD n.toNat default) = default := by simp [List.getD, List.getElem?_eq_none (show ks.length ≤ n.toNat by omega)]
   rw [this]
   decide
set_option maxHeartbeats 4000000 in
set_option maxRecDepth 100000 in
theorem pMain : Calls Tryz.prog 36 #[.pointer (some ⟨pb, 0, none⟩)] w fun e w' => e = .returned (valM (mainZ ks)) ∧ Only (fun _ => False) w w' := by
 have hp0 := hg.pos
 have ho0 := (Only.refl (fun _ => False) w).alloc (.cells #[.int .i64 0, .int .i64 0, .string ⟨#[]⟩, .bool false, .int .i64 0] 34)
 have hr0 := heap_alloc_new w (.cells #[.int .i64 0, .int .i64 0, .string ⟨#[]⟩, .bool false, .int .i64 0] 34)
 obtain ⟨W0, hW0⟩ : ∃ W0, w.alloc (.cells #[.int .i64 0, .int .i64 0, .string ⟨#[]⟩, .bool false, .int .i64 0] 34) = W0 := ⟨_, rfl⟩
 rw [hW0] at ho0 hr0
 have C1 := Lib.hid (pBuilt W0)
 have C2 := Lib.hid (fun W (hW : Only (fun _ => False) w W) => pName (h.only hW) (by omega) 13)
 have C3 := Lib.hid (fun W (hW : Only (fun _ => False) w W) => pOwn (h.only hW) hg (nameZ ks 13) mainB voidB (by have := name_small hg 13; unfold maxLen; omega))
 obtain ⟨m, hm⟩ : ∃ m, m = mainZ ks := ⟨_, rfl⟩
 have HM : Hid (memO (ownZ ks (nameZ ks 13) mainB voidB) = m) := Lib.hid (by rw [hm]; rfl)
 rw [← hm]
 unfold mainB voidB at C3 HM
 generalize ownZ ks (nameZ ks 13) ⟨#[109, 97, 105, 110]⟩ ⟨#[40, 41, 86]⟩ = oz at *
 generalize nameZ ks 13 = nm at *
 obtain ⟨er, her⟩ : ∃ er, errM oz = er := ⟨_, rfl⟩
 have HER := Lib.hid her
 have HO := Lib.hid ho0
 have HR := Lib.hid hr0
 have HW0 := Lib.hid hW0
 clear h hg ho0 hr0 hm hW0 her
 go_enter Tryz.func36, Tryz.ntmps36
 go_wp2_with (fail)
 rw [HW0.out]
 refine C1.out.mono ?_
 rintro e w1 ⟨rfl, ho1⟩
 have HO1 := Lib.hid (HO.out.trans ho1 (fun _ h _ => h))
 go_wp2_with (fail)
 refine (C2.out _ HO1.out).mono ?_
 rintro e w2 ⟨rfl, ho2⟩
 have HO2 := Lib.hid (HO1.out.trans ho2 (fun _ h _ => h))
 go_wp2_with (fail)
 refine (C3.out _ HO2.out).mono ?_
 rintro e w3 ⟨rfl, ho3⟩
 rw [HM.out, HER.out]
 unfold valM
 have hal := (Only.refl (fun _ => False) w3).alloc (.cells #[.int .i64 m.cls, .int .i64 m.place, .string m.desc, .bool m.static, .int .i64 m.slot] 34)
 have hx := heap_alloc_new w3 (.cells #[.int .i64 m.cls, .int .i64 m.place, .string m.desc, .bool m.static, .int .i64 m.slot] 34)
 have hr3 := hal.heap (ho3.heap (ho2.heap (ho1.heap HR.out (fun h => h)) (fun h => h)) (fun h => h)) (fun h => h)
 have HO3 := Lib.hid ((HO2.out.trans ho3 (fun _ h _ => h)).trans hal (fun _ h _ => h))
 obtain ⟨f0, f1, f2, f3, f4⟩ := marks5T hr3
 obtain ⟨r0, r1, r2, r3, r4⟩ := cells5T hr3
 obtain ⟨x0, x1, x2, x3, x4⟩ := cells5T hx
 have HR3 := Lib.hid hr3
 clear hal hr3 ho3 ho2 ho1 C1 hx HM
 go_wp2
 exact bodyPost_ret (mem_alone (i := m) (b := w.heap.size) Tryz.results36 (store5T HR3.out) rfl) rfl ⟨rfl, only5T HO3.out (fun hl => absurd hl (Nat.lt_irrefl _))⟩
end
end Go.Proofs.YtgdgffnaknkbcaaGreatDoor
