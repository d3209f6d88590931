/- The program's Sub. Condition: the program is as it was laid; all chains end. -/
import Derived.Test.YtmakfnghkpdpkaaLpH
namespace Go.Proofs.Ytmakfnghkpdpkaa
open Go.RowKit Go.Maps
set_option linter.unusedVariables false
set_option linter.unusedSimpArgs false
attribute [local go_sem] Oper.semAt_some

/-- Is a class one of those that an iterator goes over. -/
def subP (ks : List KindV) (a b : Int) : Bool := (seqX ks a).any (fun j => (j : Int) == b)
theorem bool_resultC {fn : Func} {p : Tmp} (hr : fn.results = #[.cell p 4]) {w : World} {c : Nat} {x : Bool} {tmps : Array Value} (h2 : w.heap[c]? = some (.cells #[.bool x] 4 (0, 0))) (ht : tmps.getD p undef = .pointer (some ⟨c, 0, none⟩)) :
    (results fn tmps).run Try.prog w = .ok (.bool x) w := by
  have hp' : tmps[p]?.getD undef = .pointer (some ⟨c, 0, none⟩) := by simpa using ht
  have hc := cell1 h2
  have hL2 : (loadVar 4 ⟨c, 0, none⟩).run Try.prog w = .ok (.bool x) w := by simp [loadVar, isAgg, underlying, Try.underlying4, hc, Result.andThen]
  simp only [results, hr]
  simp [Sem.run_bind, Result.andThen, hp', asAddr, hL2]
theorem fin_heap1 {w W : World} {D E N : Nat} {o : Obj} {ce : Array Value} {te : TypeId} (hD : N ≤ D) (hN : w.heap.size ≤ E ∧ E < N) (hB : Below w.heap.size w W) (hK : W.heap[D]? = some o) (he : W.heap[E]? = some (.cells ce te (0, 0))) :
    (W.putObj D (.deferred none)).heap[E]? = some (.cells ce te (0, 0)) ∧ Only (fun _ => False) w (W.putObj D (.deferred none)) :=
  ⟨(World.putObj_heap_other (by omega)).trans he, Only.of_below (hB.grown (grownBy_putObj' W D _) hB.size (fun k e => by cases e; omega)) _⟩
def SubV (w W : World) (b : Int) (x : Bool) : Prop := W.heap[w.heap.size]? = some (.cells #[.int .i64 b] 3 (0, 0)) ∧ W.heap[w.heap.size + 1]? = some (.cells #[.bool x] 4 (0, 0))
theorem SubV.own {w X Y : World} {b : Int} {x : Bool} {row : Option Nat} {N : Nat} (h : SubV w X b x) (hg : X.grownBy Y row) (hr : ∀ r, row = some r → N ≤ r ∧ ∃ o : Obj, X.heap[r]? = some o ∧ o.isCells = false) : SubV w Y b x := ⟨own_heap h.1 rfl hg hr, own_heap h.2 rfl hg hr⟩
set_option maxHeartbeats 8000000 in
set_option maxRecDepth 100000 in
theorem pSub {G : Nat → Prop} {fv : Nat → Value} {pb : Nat} {ks : List KindV} {cl : Nat → ClassV} {sl : Nat → Nat → Int} {w : World} (h : ProgG G fv w pb ks cl sl) (hg : GoodK ks) (a b : Int) :
    Calls Try.prog 14 #[.pointer (some ⟨pb, 0, none⟩), .int .i64 a, .int .i64 b] w fun e w' => e = .returned (.bool (subP ks a b)) ∧ Only (fun _ => False) w w' := by
  have hp0 := hg.pos
  have ho0 := ((Only.refl (fun _ => False) w).alloc (.cells #[.int .i64 b] 3)).alloc (.cells #[.bool false] 4)
  have hv0 : SubV w ((w.alloc (.cells #[.int .i64 b] 3)).alloc (.cells #[.bool false] 4)) b false := ⟨((Only.refl (fun _ => False) _).alloc _).heap (heap_alloc_new w _) (fun h => h), by
    have := heap_alloc_new (w.alloc (.cells #[.int .i64 b] 3)) (.cells #[.bool false] 4)
    rwa [World.size_alloc] at this⟩
  have hs0 : ((w.alloc (.cells #[.int .i64 b] 3)).alloc (.cells #[.bool false] 4)).heap.size = w.heap.size + 2 := by simp
  obtain ⟨W0, hW0⟩ : ∃ W0, (w.alloc (.cells #[.int .i64 b] 3)).alloc (.cells #[.bool false] 4) = W0 := ⟨_, rfl⟩
  rw [hW0] at ho0 hv0 hs0
  have h1 := h.only ho0
  have ha : Only (fun _ => False) W0 ((W0.alloc (.cells #[.pointer (some ⟨pb, 0, none⟩)] 22)).alloc (.cells #[.int .i64 a] 3)) := ((Only.refl _ W0).alloc _).alloc _
  have hbp : ((W0.alloc (.cells #[.pointer (some ⟨pb, 0, none⟩)] 22)).alloc (.cells #[.int .i64 a] 3)).cell? ⟨W0.heap.size, 0, none⟩ = some (.pointer (some ⟨pb, 0, none⟩)) := cell1 (((Only.refl (fun _ => False) _).alloc _).heap (heap_alloc_new W0 (.cells #[.pointer (some ⟨pb, 0, none⟩)] 22)) (fun h => h))
  have hbn : ((W0.alloc (.cells #[.pointer (some ⟨pb, 0, none⟩)] 22)).alloc (.cells #[.int .i64 a] 3)).cell? ⟨W0.heap.size + 1, 0, none⟩ = some (.int .i64 a) := by
    have := cell1 (heap_alloc_new (W0.alloc (.cells #[.pointer (some ⟨pb, 0, none⟩)] 22)) (.cells #[.int .i64 a] 3))
    rwa [World.size_alloc] at this
  have CU := Lib.hid (pUp pb a W0)
  have hsa : ((W0.alloc (.cells #[.pointer (some ⟨pb, 0, none⟩)] 22)).alloc (.cells #[.int .i64 a] 3)).heap.size = w.heap.size + 4 := by simp; omega
  obtain ⟨W1, hW1⟩ : ∃ W1, (W0.alloc (.cells #[.pointer (some ⟨pb, 0, none⟩)] 22)).alloc (.cells #[.int .i64 a] 3) = W1 := ⟨_, rfl⟩
  rw [hW1] at ha hbp hbn hsa CU
  have IT := Lib.hid (up_in 8 (by decide) (h1.only ha) hg a (W0.heap.size + 1) W0.heap.size hbn hbp)
  have hv1 : SubV w W1 b false := ⟨ha.heap hv0.1 (fun h => h), ha.heap hv0.2 (fun h => h)⟩
  have HV1 := Lib.hid hv1
  have HO1 := Lib.hid (ho0.trans ha (fun _ h _ => h))
  have HW0 := Lib.hid hW0
  have HSEQ := Lib.hid (show subP ks a b = (seqX ks a).any (fun j => (j : Int) == b) from rfl)
  generalize subP ks a b = res at *
  generalize seqX ks a = xs at *
  clear h h1 hg ho0 hv0 ha hbp hbn hv1 hW0 hW1
  refine (callsIn_wide (n := 9)).1 ?_
  refine callsIn_of_wp_marks Try.func14 rfl trivial ?_ rfl
  simp only [Try.ntmps14, List.size_toArray, List.length_cons, List.length_nil, Nat.reduceAdd, Nat.reduceSub, Array.replicate_succ, Array.replicate_zero, List.push_toArray, List.append_toArray, List.nil_append, List.cons_append]
  refine wpIn_wide.2 ?_
  go_wp2_with (fail)
  rw [HW0.out]
  refine CU.out.mono ?_
  rintro e w3 ⟨rfl, hw3⟩
  subst hw3
  go_wp2
  have hv1 := HV1.out
  have ho1 := HO1.out
  refine (wpIn_wide (n := 9)).1 ?_
  refine wpIn_rangeFunc_ownG (α := Fin ks.length) (F := Fence.wide) rfl (by decide) (gf := 32) (lb := #[.pointer (some ⟨w.heap.size + 2 + 1, 0, none⟩), .pointer (some ⟨w.heap.size + 2, 0, none⟩)]) rfl trivial (enters_of Try.func32 (by kernel_rfl) rfl)
    (encs := encJ ks) (Kp := Below w3.heap.size) (S := fun l => vals l = xs) (Sp := fun pre => vals pre <+: xs) (N := ks.length + 2) (w0 := w3)
    (by rw [← hs0]; exact IT.out) (fun h k => belowK_t h k) (belowK_b (w := w3) (Nat.le_refl _)) (Below.refl _ _) (fun _ => rfl)
    (fun pre W => (SubV w W b false ∧ (vals pre).any (fun j => (j : Int) == b) = false) ∧ Below w.heap.size w W)
    (fun c pre W => (c = .ret ∧ (vals pre).any (fun j => (j : Int) == b) = true ∧ SubV w W b true) ∧ Below w.heap.size w W)
    (OwnFrom.and (fun s X Y row hs hg hr => ⟨hs.1.own hg hr, hs.2⟩) (ownFrom_below (Nat.le_refl _) (by omega)))
    (fun c => OwnFrom.and (fun s X Y row hs hg hr => ⟨hs.1, hs.2.1, hs.2.2.own hg hr⟩) (ownFrom_below (Nat.le_refl _) (by omega)))
    ⟨⟨hv1, rfl⟩, Only.none ho1⟩
    (fun x => { tmps := #[.pointer (some ⟨pb, 0, none⟩), .int .i64 a, .int .i64 b, undef, undef, .pointer (some ⟨w.heap.size, 0, none⟩), .pointer (some ⟨w.heap.size + 1, 0, none⟩), .int .i64 (x.val : Int), .pointer (some ⟨pb, 0, none⟩), .int .i64 a, .func (.func 32) #[] #[.pointer (some ⟨w.heap.size + 2 + 1, 0, none⟩), .pointer (some ⟨w.heap.size + 2, 0, none⟩)], .int .i64 (x.val : Int), undef, undef, undef], defers := [] })
    ?assign ?body ?done ?stop
  case assign =>
    intro lo x W K hK
    gi_wp2
    exact hK
  case body =>
    rintro lo pre ⟨j, hj⟩ W ⟨⟨hv, hq⟩, hB⟩ _
    have x0 := cell1 hv.1
    have x1 := cell1 hv.2
    have xf := frozen_blk hv.2 0
    have HV := Lib.hid hv
    have HQ := Lib.hid hq
    have HB := Lib.hid hB
    clear hv hq hB
    by_cases hjb : (j : Int) = b
    · have he : ((j : Int) == b) = true := by simpa using hjb
      have HL : Hid ((vals (pre ++ [(⟨j, hj⟩ : Fin ks.length)])).any (fun j => (j : Int) == b) = true) := Lib.hid (by rw [vals_snoc, List.any_append]; simp [he])
      have h2 := heap_setCell_at (i := 0) (u := .bool true) HV.out.2
      have h1 : (W.setCell ⟨w.heap.size + 1, 0, none⟩ (.bool true)).heap[w.heap.size]? = _ := (Below.heap_setCell _ _ _ _ (by simp)).trans HV.out.1
      simp only [List.setIfInBounds_toArray, List.set_cons_zero] at h2
      have HV2 : Hid (SubV w (W.setCell ⟨w.heap.size + 1, 0, none⟩ (.bool true)) b true) := Lib.hid ⟨h1, h2⟩
      have HO2 := Lib.hid ((Only.refl (fun k => k = w.heap.size + 1) W).setCell (p := ⟨w.heap.size + 1, 0, none⟩) (fun _ => rfl) (.bool true))
      clear h1 h2
      subst hjb
      clear he
      gi_wp2
      exact ⟨⟨HO2.out.size, fun k o hk ho _ => HO2.out.heap ho (by omega)⟩, ⟨rfl, HL.out, HV2.out⟩, HB.out.trans (HO2.out.below HB.out.size (fun k hk => by omega))⟩
    · have he : ((j : Int) == b) = false := by simpa using hjb
      have HL : Hid ((vals (pre ++ [(⟨j, hj⟩ : Fin ks.length)])).any (fun j => (j : Int) == b) = false) := Lib.hid (by rw [vals_snoc, List.any_append, HQ.out]; simp [he])
      clear hjb
      gi_wp2
      exact ⟨KeepsFrom.refl _ _, Below.refl _ _, ⟨HV.out, HL.out⟩, HB.out⟩
  case done =>
    rintro D ys W hD hS ⟨⟨hv, hq⟩, hB⟩ hK
    have HR := Lib.hid (show res = false by rw [HSEQ.out, ← hS]; exact hq)
    have x1 := cell1 hv.2
    have xf := frozen_blk hv.2 0
    have h2 := heap_setCell_at (i := 0) (u := .bool false) hv.2
    simp only [List.setIfInBounds_toArray, List.set_cons_zero] at h2
    have h5 := (Only.refl (fun k => k = w.heap.size + 1) W).setCell (p := ⟨w.heap.size + 1, 0, none⟩) (fun _ => rfl) (.bool false)
    have hK5 := h5.heap hK (by omega)
    have HEND := Lib.hid (fin_heap1 hD (by omega) (hB.trans (h5.below hB.size (fun k hk => by omega))) hK5 h2)
    have HK5 := Lib.hid hK5
    clear hv hq hB hS hK h2 h5 hK5
    go_wp2
    refine ⟨by simp, .inl ⟨_, _, rfl, run_takeDeferred HK5.out, ?_⟩⟩
    exact ⟨_, bool_resultC Try.results14 HEND.out.1 rfl, by rw [HR.out], HEND.out.2⟩
  case stop =>
    rintro D c pre W hD hA ⟨⟨rfl, hl, hv⟩, hB⟩ hK
    have HR := Lib.hid (show res = true by
      rw [HSEQ.out]
      obtain ⟨t, ht⟩ := hA
      rw [← ht, List.any_append, hl, Bool.true_or])
    have HEND := Lib.hid (fin_heap1 hD (by omega) hB hK hv.2)
    have HK := Lib.hid hK
    clear hv hl hB hA hK
    refine wpIn_wide.2 ?_
    go_wp2
    refine ⟨by simp, .inl ⟨_, _, rfl, run_takeDeferred HK.out, ?_⟩⟩
    exact ⟨_, bool_resultC Try.results14 HEND.out.1 rfl, by rw [HR.out], HEND.out.2⟩
end Go.Proofs.Ytmakfnghkpdpkaa
