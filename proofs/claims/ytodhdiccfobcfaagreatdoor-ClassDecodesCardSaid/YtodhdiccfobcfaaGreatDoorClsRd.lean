/- The document's own Decode of a class file. The bound is the form's own reach. -/
import Derived.Test.YtodhdiccfobcfaaGreatDoorClsRc
import Derived.Test.YtodhdiccfobcfaaGreatDoorClsNa
import Derived.Test.YtodhdiccfobcfaaGreatDoorGClsF
import Derived.Test.YtodhdiccfobcfaaGreatDoorClsE
import Derived.Test.YtodhdiccfobcfaaGreatDoorGPolR
import Derived.Laws.ResultCell
import Derived.Laws.Rows
namespace Go.Proofs.YtodhdiccfobcfaaGreatDoor
open Go.RowKit
set_option linter.unusedVariables false
set_option linter.unusedSimpArgs false

/-- What stands apart: the result's block, the file's two, the class's, the pool's; B: from there on the lists. -/
structure Ac (w0 : World) (fb rb cb B : Nat) (v pv : Value) (zs : List Int) : Prop where
  fbn : w0.heap.size < fb
  rbn : w0.heap.size < rb
  cbn : w0.heap.size < cb
  fc : fb ≠ cb
  rc : rb ≠ cb
  fB : fb < B
  rB : rb < B
  cB : cb < B
  vn : ∀ j, v.ownBlock = some j → zs ≠ [] → j < w0.heap.size
  pn : ∀ j, pv.ownBlock = some j → w0.heap.size < j ∧ j < B ∧ j ≠ fb ∧ j ≠ rb ∧ j ≠ cb
/-- So far: the file, the pool, the class's block, the result's. -/
structure CQ (w0 w : World) (fb rb cb : Nat) (v pv : Value) (zs : List Int) (cs : List ConstV) (σ : StZ) (k : Nat) (e : Int) (cc : Array Value) : Prop where
  fl : Fl w fb rb v zs σ k e
  pool : Pool w pv cs
  blk : w.heap[cb]? = some (.cells cc 26 (0, 0))
  res : w.heap[w0.heap.size]? = some (.cells #[.slice none 0 0, .int .i64 0, .int .i64 0, .slice none 0 0, .slice none 0 0] 26 (0, 0))
  only : Only (fun _ => False) w0 w
section
variable {w0 w w' : World} {fb rb cb B : Nat} {v pv : Value} {zs : List Int} {cs : List ConstV} {σ σ' : StZ} {k : Nat} {e : Int} {cc : Array Value}
theorem CQ.call (h : CQ w0 w fb rb cb v pv zs cs σ k e cc) (a : Ac w0 fb rb cb B v pv zs) (ht : FlTo w fb rb v zs σ' w') : ∃ k' e', CQ w0 w' fb rb cb v pv zs cs σ' k' e' cc := by
  obtain ⟨⟨k', e', h1⟩, ho⟩ := ht
  have n1 := a.fbn
  have n2 := a.rbn
  have n3 := a.fc
  have n4 := a.rc
  exact ⟨k', e', h1, Pool.only h.pool ho (fun j hj e => by have := a.pn j hj; omega), ho.heap h.blk (by omega), ho.heap h.res (by omega), h.only.trans ho (fun i hi hl => by have hi' : i = fb ∨ i = rb := hi; omega)⟩
theorem CQ.idle (h : CQ w0 w fb rb cb v pv zs cs σ k e cc) (ho : Only (fun _ => False) w w') : CQ w0 w' fb rb cb v pv zs cs σ k e cc :=
  ⟨h.fl.idle ho, Pool.only h.pool ho (fun _ _ h => h), ho.heap h.blk (fun h => h), ho.heap h.res (fun h => h), h.only.trans ho (fun _ h _ => h.elim)⟩
theorem CQ.store (h : CQ w0 w fb rb cb v pv zs cs σ k e cc) (a : Ac w0 fb rb cb B v pv zs) (i : Nat) (u : Value) : CQ w0 (w.setCell ⟨cb, i, none⟩ u) fb rb cb v pv zs cs σ k e (cc.setIfInBounds i u) := by
  have ho := (Only.refl (fun j => j = cb) w).setCell (p := ⟨cb, i, none⟩) (fun _ => rfl) u
  have n1 := a.fc
  have n2 := a.rc
  have n3 := a.cbn
  exact ⟨h.fl.only ho n1 n2 (fun j hj hz e => by have := a.vn j hj hz; omega), Pool.only h.pool ho (fun j hj e => (a.pn j hj).2.2.2.2 e), heap_setCell_at h.blk, ho.heap h.res (by omega), h.only.trans ho (fun i hi hl => by have hi' : i = cb := hi; omega)⟩
/-- What a growing list leaves. -/
theorem CQ.grown {w1 : World} {lv : Value} (h : CQ w0 w fb rb cb v pv zs cs σ k e cc) (a : Ac w0 fb rb cb B v pv zs) (hge : ∀ j, lv.ownBlock = some j → B ≤ j) (hg : w.grownBy w1 lv.ownBlock) : CQ w0 w1 fb rb cb v pv zs cs σ k e cc ∧ Only (fun j => lv.ownBlock = some j) w w1 := by
  have ho : Only (fun j => lv.ownBlock = some j) w w1 := (Only.refl _ w).grown hg (fun k hk _ => hk)
  have far : ∀ j, j < B → ¬ lv.ownBlock = some j := fun j hj e => by have := hge j e; omega
  have n1 := a.fB
  have n2 := a.rB
  have n3 := a.cB
  have n4 := a.cbn
  exact ⟨⟨h.fl.only ho (far _ n1) (far _ n2) (fun j hj hz => far j (by have := a.vn j hj hz; omega)), Pool.only h.pool ho (fun j hj => far j (a.pn j hj).2.1), ho.heap h.blk (far _ n3), ho.heap h.res (far _ (by omega)), h.only.trans ho (fun i hi hl => by have := hge i hi; omega)⟩, ho⟩
end
/-- In the loop over the fields. -/
structure FQ (w0 w : World) (fb rb cb B : Nat) (v pv : Value) (zs : List Int) (cs : List ConstV) (σ : StZ) (k : Nat) (e : Int) (th su : Int) (vf : Value) (fs : List FieldV) : Prop where
  cq : CQ w0 w fb rb cb v pv zs cs σ k e #[pv, .int .i64 th, .int .i64 su, vf, .slice none 0 0]
  rg : RowG 59 3 cellsF w B vf fs
  sz : B ≤ w.heap.size
section
variable {w0 w w' : World} {fb rb cb B : Nat} {v pv : Value} {zs : List Int} {cs : List ConstV} {σ σ' : StZ} {k : Nat} {e : Int} {th su : Int} {vf : Value} {fs : List FieldV}
theorem FQ.call (h : FQ w0 w fb rb cb B v pv zs cs σ k e th su vf fs) (a : Ac w0 fb rb cb B v pv zs) (ht : FlTo w fb rb v zs σ' w') : ∃ k' e', FQ w0 w' fb rb cb B v pv zs cs σ' k' e' th su vf fs := by
  obtain ⟨k', e', h1⟩ := h.cq.call a ht
  exact ⟨k', e', h1, h.rg.keep ht.2 (fun j hj => by have := a.fB; have := a.rB; omega), Nat.le_trans h.sz ht.2.size⟩
theorem FQ.idle (h : FQ w0 w fb rb cb B v pv zs cs σ k e th su vf fs) (ho : Only (fun _ => False) w w') : FQ w0 w' fb rb cb B v pv zs cs σ k e th su vf fs :=
  ⟨h.cq.idle ho, RowG.only h.rg ho (fun _ _ h => h), Nat.le_trans h.sz ho.size⟩
theorem FQ.push {w1 : World} {v' : Value} {t : FieldV} (h : FQ w0 w fb rb cb B v pv zs cs σ k e th su vf fs) (a : Ac w0 fb rb cb B v pv zs)
    (hown : w1.ownsRow B 59 3 v' (fs.length + 1) (fs.flatMap cellsF ++ cellsF t)) (hg : w.grownBy w1 vf.ownBlock) :
    FQ w0 (w1.setCell ⟨cb, 3, none⟩ v') fb rb cb B v pv zs cs σ k e th su v' (fs ++ [t]) ∧ w1.cell? ⟨cb, 3, none⟩ = some vf ∧ w1.frozen? ⟨cb, 3, none⟩ = false := by
  obtain ⟨hk, ho⟩ := h.cq.grown a (fun j hj => (RowG.ge h.rg j hj).1) hg
  have ho2 := (Only.refl (fun j => j = cb) w1).setCell (p := ⟨cb, 3, none⟩) (fun _ => rfl) v'
  exact ⟨⟨hk.store a 3 v', (RowG.more hown).keep ho2 (fun j hj => by have := a.cB; omega), Nat.le_trans h.sz (Nat.le_trans ho.size ho2.size)⟩, by rw [cell_blk hk.blk 3]; rfl, frozen_blk hk.blk 3⟩
end
/-- In the loop over the methods. -/
structure GQ (w0 w : World) (fb rb cb B : Nat) (v pv : Value) (zs : List Int) (cs : List ConstV) (σ : StZ) (k : Nat) (e : Int) (th su : Int) (vf : Value) (fs : List FieldV) (vm : Value) (xs : List (MethodV × Value × Value × Value)) : Prop where
  cq : CQ w0 w fb rb cb v pv zs cs σ k e #[pv, .int .i64 th, .int .i64 su, vf, vm]
  frg : RowG 59 3 cellsF w B vf fs
  rg : RowG 62 8 cellsM w B vm xs
  ins : ∀ x ∈ xs, MethodR x.1 ∧ MIn w B x.1 x.2.1 x.2.2.1 x.2.2.2 ∧ Off vm x.2.1 x.2.2.1 x.2.2.2
  fo : ∀ j, vf.ownBlock = some j → vm.ownBlock ≠ some j
  sz : B ≤ w.heap.size
section
variable {w0 w w' : World} {fb rb cb B : Nat} {v pv : Value} {zs : List Int} {cs : List ConstV} {σ σ' : StZ} {k : Nat} {e : Int} {th su : Int} {vf : Value} {fs : List FieldV} {vm : Value} {xs : List (MethodV × Value × Value × Value)}
theorem GQ.call (h : GQ w0 w fb rb cb B v pv zs cs σ k e th su vf fs vm xs) (a : Ac w0 fb rb cb B v pv zs) (ht : FlTo w fb rb v zs σ' w') : ∃ k' e', GQ w0 w' fb rb cb B v pv zs cs σ' k' e' th su vf fs vm xs := by
  obtain ⟨k', e', h1⟩ := h.cq.call a ht
  have hS : ∀ j, (j = fb ∨ j = rb) → j < B := fun j hj => by have := a.fB; have := a.rB; omega
  exact ⟨k', e', h1, h.frg.keep ht.2 hS, h.rg.keep ht.2 hS, fun x hx => ⟨(h.ins x hx).1, (h.ins x hx).2.1.keep ht.2 hS, (h.ins x hx).2.2⟩, h.fo, Nat.le_trans h.sz ht.2.size⟩
theorem GQ.idle (h : GQ w0 w fb rb cb B v pv zs cs σ k e th su vf fs vm xs) (ho : Only (fun _ => False) w w') : GQ w0 w' fb rb cb B v pv zs cs σ k e th su vf fs vm xs :=
  ⟨h.cq.idle ho, RowG.only h.frg ho (fun _ _ h => h), RowG.only h.rg ho (fun _ _ h => h), fun x hx => ⟨(h.ins x hx).1, (h.ins x hx).2.1.keep ho (fun j hj => hj.elim), (h.ins x hx).2.2⟩, h.fo, Nat.le_trans h.sz ho.size⟩
theorem GQ.push {w1 : World} {v' : Value} {t : MethodV × Value × Value × Value} (h : GQ w0 w fb rb cb B v pv zs cs σ k e th su vf fs vm xs) (a : Ac w0 fb rb cb B v pv zs) (ht : MethodR t.1 ∧ MIn w B t.1 t.2.1 t.2.2.1 t.2.2.2 ∧ Off vm t.2.1 t.2.2.1 t.2.2.2)
    (hown : w1.ownsRow B 62 8 v' (xs.length + 1) (xs.flatMap cellsM ++ cellsM t)) (hg : w.grownBy w1 vm.ownBlock) (hn : ∀ k, v'.ownBlock = some k → vm.ownBlock = some k ∨ w.heap.size ≤ k) :
    GQ w0 (w1.setCell ⟨cb, 4, none⟩ v') fb rb cb B v pv zs cs σ k e th su vf fs v' (xs ++ [t]) ∧ w1.cell? ⟨cb, 4, none⟩ = some vm ∧ w1.frozen? ⟨cb, 4, none⟩ = false := by
  obtain ⟨hk, ho⟩ := h.cq.grown a (fun j hj => (RowG.ge h.rg j hj).1) hg
  have ho2 := (Only.refl (fun j => j = cb) w1).setCell (p := ⟨cb, 4, none⟩) (fun _ => rfl) v'
  have hS : ∀ j, (fun j => j = cb) j → j < B := fun j hj => by have := a.cB; have hj' : j = cb := hj; omega
  refine ⟨⟨hk.store a 4 v', (RowG.only h.frg ho h.fo).keep ho2 hS, (RowG.more hown).keep ho2 hS, fun x hx => ?_, fun j hj e => ?_, Nat.le_trans h.sz (Nat.le_trans ho.size ho2.size)⟩, by rw [cell_blk hk.blk 4]; rfl, frozen_blk hk.blk 4⟩
  · have hx' : MethodR x.1 ∧ MIn w B x.1 x.2.1 x.2.2.1 x.2.2.2 ∧ Off vm x.2.1 x.2.2.1 x.2.2.2 := by
      rcases List.mem_append.1 hx with hx | hx
      · exact h.ins x hx
      · simp only [List.mem_cons, List.mem_nil_iff, or_false] at hx
        subst hx
        exact ht
    obtain ⟨h1, h2, h3⟩ := hx'
    refine ⟨h1, (h2.only ho h3.c h3.t h3.m).keep ho2 hS, ⟨fun j hj e => ?_, fun j hj e => ?_, fun j hj e => ?_⟩⟩
    · rcases hn j e with e1 | e1
      · exact h3.c j hj e1
      · have := (h2.code.ge j hj).2; omega
    · rcases hn j e with e1 | e1
      · exact h3.t j hj e1
      · have := (RowG.ge h2.traps j hj).2; omega
    · rcases hn j e with e1 | e1
      · exact h3.m j hj e1
      · have := (h2.maps.ge j hj).2; omega
  · rcases hn j e with e1 | e1
    · exact h.fo j hj e1
    · have := (RowG.ge h.frg j hj).2; omega
theorem GQ.dm (h : GQ w0 w fb rb cb B v pv zs cs σ k e th su vf fs vm xs) (hf : ∀ f ∈ fs, FieldR f) (hr : I64 th ∧ I64 su) : DM w B pv vf vm ⟨cs, th, su, fs, xs.map (·.1)⟩ :=
  ⟨h.cq.pool, h.frg, hf, ⟨xs, rfl, h.rg, fun x hx => ⟨(h.ins x hx).1, (h.ins x hx).2.1⟩⟩, hr⟩
end
theorem Texts.fits {cs : List ConstV} (h : ∀ c ∈ cs, Fits c) : Texts cs := fun c hc => Nat.le_trans (h c hc).2 (by decide)
theorem dec_body {zs : List Int} {cs : List ConstV} {kh m : Nat} {r : Except Int ClassV} (h1 : headP zs 0 = .ok ((), kh)) (h2 : DecP (zs.drop kh) cs m 0) (h3 : endP zs (bodyP cs zs (kh + m)) = r) : DecC zs r :=
  .inr ⟨kh, cs, m, 0, h1, h2, .inr ⟨rfl, h3.symm⟩⟩

theorem store5 {w : World} {b : Nat} {T : TypeId} {f : Nat × Nat} {o0 o1 o2 o3 o4 a0 a1 a2 a3 a4 : Value} (h : w.heap[b]? = some (.cells #[o0, o1, o2, o3, o4] T f)) :
    (((((w.setCell ⟨b, 0, none⟩ a0).setCell ⟨b, 1, none⟩ a1).setCell ⟨b, 2, none⟩ a2).setCell ⟨b, 3, none⟩ a3).setCell ⟨b, 4, none⟩ a4).heap[b]? = some (.cells #[a0, a1, a2, a3, a4] T f) := by
  have h0 := heap_setCell_at (i := 0) (u := a0) h
  simp only [List.setIfInBounds_toArray, List.set_cons_zero, List.set_cons_succ] at h0
  have h1 := heap_setCell_at (i := 1) (u := a1) h0
  simp only [List.setIfInBounds_toArray, List.set_cons_zero, List.set_cons_succ] at h1
  have h2 := heap_setCell_at (i := 2) (u := a2) h1
  simp only [List.setIfInBounds_toArray, List.set_cons_zero, List.set_cons_succ] at h2
  have h3 := heap_setCell_at (i := 3) (u := a3) h2
  simp only [List.setIfInBounds_toArray, List.set_cons_zero, List.set_cons_succ] at h3
  have h4 := heap_setCell_at (i := 4) (u := a4) h3
  simp only [List.setIfInBounds_toArray, List.set_cons_zero, List.set_cons_succ] at h4
  exact h4
theorem only5 {S : Nat → Prop} {w w' : World} {b : Nat} {a0 a1 a2 a3 a4 : Value} (h : Only S w w') (hb : b < w.heap.size → S b) :
    Only S w (((((w'.setCell ⟨b, 0, none⟩ a0).setCell ⟨b, 1, none⟩ a1).setCell ⟨b, 2, none⟩ a2).setCell ⟨b, 3, none⟩ a3).setCell ⟨b, 4, none⟩ a4) := by
  iterate 5 (refine Only.setCell (S := S) ?_ hb _)
  exact h
theorem heap_drew {w : World} {b : Nat} {o : Option Obj} (h : w.heap[b]? = o) : w.drew.heap[b]? = o := h
theorem info5_class : (Tryz.prog.info? 26).map (·.size) = some 5 := by kernel_rfl
set_option maxHeartbeats 400000 in
theorem class_result {w : World} {b : Nat} {a0 a1 a2 a3 a4 x : Value} {tmps : Array Value} (h : w.heap[b]? = some (.cells #[a0, a1, a2, a3, a4] 26 (0, 0))) (ht : tmps.getD 2 undef = .pointer (some ⟨b, 0, none⟩)) (hx : tmps.getD 3 undef = x) :
    (results Tryz.f12 tmps).run Tryz.prog w = .ok (.tuple #[.agg #[a0, a1, a2, a3, a4], x]) w := by
  rw [results_cell_tmp Tryz.results12, ht, hx, show (asAddr (.pointer (some ⟨b, 0, none⟩))).run Tryz.prog w = .ok ⟨b, 0, none⟩ w from rfl]
  simp only [Result.andThen]
  rw [run_loadVar_row w b 26 26 _ (0, 0) _ h Tryz.underlying26 rfl info5_class]

set_option maxHeartbeats 64000000 in
set_option maxRecDepth 100000 in
theorem refClsDecode (v : Value) (zs : List Int) (w : World) (hb : Bytes w v zs) (hl : zs.length ≤ 140737488351232) :
    Calls Tryz.prog 12 #[v] w (DecCTo w zs) := by
  obtain ⟨ao, cap, rfl, hq1, hq2, hq3, hbz, hcells⟩ := id hb
  unfold maxLen at hq2
  have hoA := (Only.refl (fun _ => False) w).alloc (.cells #[.slice none 0 0, .int .i64 0, .int .i64 0, .slice none 0 0, .slice none 0 0] 26)
  have hoB := (Only.refl (fun _ => False) (w.alloc (.cells #[.slice none 0 0, .int .i64 0, .int .i64 0, .slice none 0 0, .slice none 0 0] 26))).alloc (.cells #[.slice ao zs.length cap, .int .i64 0] 78)
  have hoC := (Only.refl (fun _ => False) ((w.alloc (.cells #[.slice none 0 0, .int .i64 0, .int .i64 0, .slice none 0 0, .slice none 0 0] 26)).alloc (.cells #[.slice ao zs.length cap, .int .i64 0] 78))).alloc (.cells #[.pointer (some ⟨w.heap.size + 1, 0, none⟩), .int .i64 0] 80)
  have hrf := ((Rf.new (hb.only hoA (fun _ _ _ h => h)) (by omega)).only hoC (fun h => h) (fun _ _ _ h => h))
  have hfb := heap_alloc_new ((w.alloc (.cells #[.slice none 0 0, .int .i64 0, .int .i64 0, .slice none 0 0, .slice none 0 0] 26)).alloc (.cells #[.slice ao zs.length cap, .int .i64 0] 78)) (.cells #[.pointer (some ⟨w.heap.size + 1, 0, none⟩), .int .i64 0] 80)
  have hre := hoC.heap (hoB.heap (heap_alloc_new w (.cells #[.slice none 0 0, .int .i64 0, .int .i64 0, .slice none 0 0, .slice none 0 0] 26)) (fun h => h)) (fun h => h)
  simp only [World.size_alloc] at hrf hfb
  have HVN := Lib.hid (show ∀ j, (Value.slice ao zs.length cap).ownBlock = some j → zs ≠ [] → j < w.heap.size from fun j hj hz => hb.lt j hj hz)
  have HON0 := Lib.hid ((hoA.trans hoB (fun _ h _ => h)).trans hoC (fun _ h _ => h))
  have HF0 := Lib.hid (show Fl (((w.alloc (.cells #[.slice none 0 0, .int .i64 0, .int .i64 0, .slice none 0 0, .slice none 0 0] 26)).alloc (.cells #[.slice ao zs.length cap, .int .i64 0] 78)).alloc (.cells #[.pointer (some ⟨w.heap.size + 1, 0, none⟩), .int .i64 0] 80)) (w.heap.size + 1 + 1) (w.heap.size + 1) (.slice ao zs.length cap) zs (.ok 0) 0 0 from ⟨hfb, hrf, ⟨rfl, rfl⟩, by omega, fun j hj hz e => by have := hb.lt j hj hz; omega⟩)
  have HRES0 := Lib.hid hre
  have HB := Lib.hid hb
  have HBZ := Lib.hid hbz
  clear hb hcells hoA hoB hoC hrf hfb hre hq3 hbz
  go_enter Tryz.func12, Tryz.ntmps12
  go_wp2_with (fail)
  generalize (((w.alloc (.cells #[.slice none 0 0, .int .i64 0, .int .i64 0, .slice none 0 0, .slice none 0 0] 26)).alloc (.cells #[.slice ao zs.length cap, .int .i64 0] 78)).alloc (.cells #[.pointer (some ⟨w.heap.size + 1, 0, none⟩), .int .i64 0] 80)) = w1 at *
  have HFN := Lib.hid (show w.heap.size < w.heap.size + 1 + 1 ∧ w.heap.size < w.heap.size + 1 ∧ w.heap.size + 1 + 1 ≠ w.heap.size + 1 from by omega)
  generalize w.heap.size + 1 + 1 = fb at *
  generalize w.heap.size + 1 = rb at *
  refine (dfNum fb rb (.slice ao zs.length cap) zs _ _ _ _ 4 (by decide) (by decide) HF0.out).mono ?_
  rintro en w2 ⟨x1, σ1, rfl, hN, hb1, hto⟩
  have HN1 := Lib.hid hN
  have HON2 := Lib.hid (HON0.out.trans hto.2 (fun i hi hl => by have := HFN.out; have hi' : i = fb ∨ i = rb := hi; omega))
  have HRES2 := Lib.hid (hto.2.heap HRES0.out (by have := HFN.out; omega))
  obtain ⟨⟨k1, e1, hf⟩, _⟩ := hto
  have HF1 := Lib.hid hf
  clear hN hb1 hf HF0 HRES0 HON0
  by_cases hx1 : x1 = 3405691582
  rotate_left
  · have hxb : (x1 == 3405691582) = false := by simpa using hx1
    have hxc : (x1 != 3405691582) = true := by simpa using hx1
    go_wp2_with (fail)
    refine (dfFail fb rb (.slice ao zs.length cap) zs _ _ _ _ 50 HF1.out).mono ?_
    rintro en w3 ⟨rfl, hto⟩
    have HON := Lib.hid (HON2.out.trans hto.2 (fun i hi hl => by have := HFN.out; have hi' : i = fb ∨ i = rb := hi; omega))
    have HRES := Lib.hid (hto.2.heap HRES2.out (by have := HFN.out; omega))
    have HNH := Lib.hid (show Nx headP zs (.ok 0) () _ from Nx.bind (show Nx (fixedP 4 3405691582) zs (.ok 0) () (failS 50 σ1) from HN1.out.bind (Nx.must_false hx1)) (show Nx (fixedP 4 61) zs (failS 50 σ1) () (failS 50 σ1) from by cases σ1 <;> rfl))
    obtain ⟨y, hy⟩ : ∃ y, failS 50 σ1 = .error y := by cases σ1 <;> exact ⟨_, rfl⟩
    obtain ⟨⟨kf, ef, hf⟩, _⟩ := hto
    rw [hy] at hf HNH
    obtain ⟨rfl, hyn⟩ := hf.e_no
    have HF := Lib.hid hf
    have HNE := Lib.hid hyn
    have HDEC := Lib.hid (show DecC zs (.error ef) from .inl ⟨ef, HNH.out, rfl⟩)
    clear hf hy hyn HF1 HON2 HRES2
    have q1 := cell_blk HF.out.blk 1
    simp at q1
    have hyb : (ef != 0) = true := by first | decide | (have := HNE.out; simpa using this)
    have hyc : (ef == 0) = false := by first | decide | (have := HNE.out; simpa using this)
    have hr := HRES.out
    have d0 := cell_blk hr 0
    have d1 := cell_blk hr 1
    have d2 := cell_blk hr 2
    have d3 := cell_blk hr 3
    have d4 := cell_blk hr 4
    have g0 := frozen_blk hr 0
    have g1 := frozen_blk hr 1
    have g2 := frozen_blk hr 2
    have g3 := frozen_blk hr 3
    have g4 := frozen_blk hr 4
    simp at d0 d1 d2 d3 d4
    have hne0 : w.heap.size ≠ fb := by have := HFN.out; omega
    go_wp2_with (fail)
    refine wp_region_held_drew (S := fun wc => wc.cell? ⟨fb, 1, none⟩ = some (.int .i64 ef)) (by kernel_rfl) q1 (fun hHeld => ?_)
    refine wpAnyH_take (i := 0) (v := ?_) (by simp only [List.getElem?_toArray, List.getElem?_cons_succ, List.getElem?_cons_zero]; rfl) (by kernel_rfl) (by kernel_rfl) (by kernel_rfl) (by exact fun _ _ _ h => h) (Or.inl ⟨by rfl, ?_⟩) (by assumption) ?_
    rotate_left 1
    · (intro w hSw; (try dsimp only at hSw); go_simp; try with_reducible rfl)
    try simp only [Act.put, List.setIfInBounds_toArray, List.set_cons_zero, List.set_cons_succ]
    refine wpAnyH_take (i := 1) (v := ?_) (by simp only [List.getElem?_toArray, List.getElem?_cons_succ, List.getElem?_cons_zero]; rfl) (by kernel_rfl) (by kernel_rfl) (by kernel_rfl) (by exact fun _ _ _ h => h) (Or.inl ⟨by rfl, ?_⟩) (by assumption) ?_
    rotate_left 1
    · (intro w hSw; (try dsimp only at hSw); go_simp; try with_reducible rfl)
    try simp only [Act.put, List.setIfInBounds_toArray, List.set_cons_zero, List.set_cons_succ]
    refine wpAnyH_take (i := 2) (v := ?_) (by simp only [List.getElem?_toArray, List.getElem?_cons_succ, List.getElem?_cons_zero]; rfl) (by kernel_rfl) (by kernel_rfl) (by kernel_rfl) (by exact fun _ _ _ h => h) (Or.inl ⟨by rfl, ?_⟩) (by assumption) ?_
    rotate_left 1
    · (intro w hSw; (try dsimp only at hSw); go_simp; try with_reducible rfl)
    try simp only [Act.put, List.setIfInBounds_toArray, List.set_cons_zero, List.set_cons_succ]
    refine wpAnyH_take (i := 3) (v := ?_) (by simp only [List.getElem?_toArray, List.getElem?_cons_succ, List.getElem?_cons_zero]; rfl) (by kernel_rfl) (by kernel_rfl) (by kernel_rfl) (by exact fun _ _ _ h => h) (Or.inl ⟨by rfl, ?_⟩) (by assumption) ?_
    rotate_left 1
    · (intro w hSw; (try dsimp only at hSw); go_simp; try with_reducible rfl)
    try simp only [Act.put, List.setIfInBounds_toArray, List.set_cons_zero, List.set_cons_succ]
    refine wpAnyH_take (i := 4) (v := ?_) (by simp only [List.getElem?_toArray, List.getElem?_cons_succ, List.getElem?_cons_zero]; rfl) (by kernel_rfl) (by kernel_rfl) (by kernel_rfl) (by exact fun _ _ _ h => h) (Or.inl ⟨by rfl, ?_⟩) (by assumption) ?_
    rotate_left 1
    · (intro w hSw; (try dsimp only at hSw); go_simp; try with_reducible rfl)
    try simp only [Act.put, List.setIfInBounds_toArray, List.set_cons_zero, List.set_cons_succ]
    refine wpAnyH_ready (rs := [5]) (by kernel_rfl) (by simp) ?_
    refine AllReadyH.cons (by simp only [List.getElem?_toArray, List.getElem?_cons_succ, List.getElem?_cons_zero]; rfl) (fun K hK => ?_) AllReadyH.nil
    go_simp
    refine hK.out _ _ ?_ (fun hHeld2 => ?_)
    · exact (only5 (Only.refl (fun j => j = w.heap.size) _) (fun _ => rfl)).drew.cell hHeld (fun e => hne0 e.symm)
    clear hK K
    try simp only [Act.put, List.setIfInBounds_toArray, List.set_cons_zero, List.set_cons_succ]
    clear hHeld
    have hHeld := hHeld2
    clear hHeld2
    refine wpAnyH_take (i := 6) (v := ?_) (by simp only [List.getElem?_toArray, List.getElem?_cons_succ, List.getElem?_cons_zero]; rfl) (by kernel_rfl) (by kernel_rfl) (by kernel_rfl) (by exact fun _ _ _ h => h) (Or.inl ⟨by rfl, ?_⟩) (by assumption) ?_
    rotate_left 1
    · (intro w hSw; (try dsimp only at hSw); go_simp; try with_reducible rfl)
    try simp only [Act.put, List.setIfInBounds_toArray, List.set_cons_zero, List.set_cons_succ]
    refine wpAnyH_done (by kernel_rfl) ?_ _
    clear hHeld
    generalize hfn : Tryz.f12 = fn at *
    go_wp2
    subst hfn
    refine bodyPost_ret (v := .tuple #[.agg #[.slice none 0 0, .int .i64 0, .int .i64 0, .slice none 0 0, .slice none 0 0], .int .i64 ef]) (class_result (heap_drew (store5 hr)) rfl rfl) rfl ?_
    refine ⟨_, _, _, ⟨[], 0, 0, [], []⟩, ef, rfl, ?_, ClassM.nil _, .inr ⟨HNE.out, HDEC.out, rfl, rfl, rfl, rfl⟩⟩
    exact (only5 HON.out (fun hl => absurd hl (Nat.lt_irrefl _))).drew
  subst hx1
  have HM1 := Lib.hid (show Nx (fixedP 4 3405691582) zs (.ok 0) () σ1 from HN1.out.bind (Nx.must_true rfl))
  go_wp2_with (fail)
  refine (dfNum fb rb (.slice ao zs.length cap) zs _ _ _ _ 4 (by decide) (by decide) HF1.out).mono ?_
  rintro en w3 ⟨x2, σ2, rfl, hN, hb1, hto⟩
  have HN2 := Lib.hid hN
  have HON3 := Lib.hid (HON2.out.trans hto.2 (fun i hi hl => by have := HFN.out; have hi' : i = fb ∨ i = rb := hi; omega))
  have HRES3 := Lib.hid (hto.2.heap HRES2.out (by have := HFN.out; omega))
  obtain ⟨⟨k2, e2, hf⟩, _⟩ := hto
  have HF2 := Lib.hid hf
  clear hN hb1 hf HF1 HRES2 HON2 HN1
  by_cases hx2 : x2 = 61
  rotate_left
  · have hxb : (x2 == 61) = false := by simpa using hx2
    have hxc : (x2 != 61) = true := by simpa using hx2
    go_wp2_with (fail)
    refine (dfFail fb rb (.slice ao zs.length cap) zs _ _ _ _ 50 HF2.out).mono ?_
    rintro en w4 ⟨rfl, hto⟩
    have HON := Lib.hid (HON3.out.trans hto.2 (fun i hi hl => by have := HFN.out; have hi' : i = fb ∨ i = rb := hi; omega))
    have HRES := Lib.hid (hto.2.heap HRES3.out (by have := HFN.out; omega))
    have HNH := Lib.hid (show Nx headP zs (.ok 0) () _ from Nx.bind HM1.out (show Nx (fixedP 4 61) zs σ1 () (failS 50 σ2) from HN2.out.bind (Nx.must_false hx2)))
    obtain ⟨y, hy⟩ : ∃ y, failS 50 σ2 = .error y := by cases σ2 <;> exact ⟨_, rfl⟩
    obtain ⟨⟨kf, ef, hf⟩, _⟩ := hto
    rw [hy] at hf HNH
    obtain ⟨rfl, hyn⟩ := hf.e_no
    have HF := Lib.hid hf
    have HNE := Lib.hid hyn
    have HDEC := Lib.hid (show DecC zs (.error ef) from .inl ⟨ef, HNH.out, rfl⟩)
    clear hf hy hyn HF2 HON3 HRES3
    have q1 := cell_blk HF.out.blk 1
    simp at q1
    have hyb : (ef != 0) = true := by first | decide | (have := HNE.out; simpa using this)
    have hyc : (ef == 0) = false := by first | decide | (have := HNE.out; simpa using this)
    have hr := HRES.out
    have d0 := cell_blk hr 0
    have d1 := cell_blk hr 1
    have d2 := cell_blk hr 2
    have d3 := cell_blk hr 3
    have d4 := cell_blk hr 4
    have g0 := frozen_blk hr 0
    have g1 := frozen_blk hr 1
    have g2 := frozen_blk hr 2
    have g3 := frozen_blk hr 3
    have g4 := frozen_blk hr 4
    simp at d0 d1 d2 d3 d4
    have hne0 : w.heap.size ≠ fb := by have := HFN.out; omega
    go_wp2_with (fail)
    refine wp_region_held_drew (S := fun wc => wc.cell? ⟨fb, 1, none⟩ = some (.int .i64 ef)) (by kernel_rfl) q1 (fun hHeld => ?_)
    refine wpAnyH_take (i := 0) (v := ?_) (by simp only [List.getElem?_toArray, List.getElem?_cons_succ, List.getElem?_cons_zero]; rfl) (by kernel_rfl) (by kernel_rfl) (by kernel_rfl) (by exact fun _ _ _ h => h) (Or.inl ⟨by rfl, ?_⟩) (by assumption) ?_
    rotate_left 1
    · (intro w hSw; (try dsimp only at hSw); go_simp; try with_reducible rfl)
    try simp only [Act.put, List.setIfInBounds_toArray, List.set_cons_zero, List.set_cons_succ]
    refine wpAnyH_take (i := 1) (v := ?_) (by simp only [List.getElem?_toArray, List.getElem?_cons_succ, List.getElem?_cons_zero]; rfl) (by kernel_rfl) (by kernel_rfl) (by kernel_rfl) (by exact fun _ _ _ h => h) (Or.inl ⟨by rfl, ?_⟩) (by assumption) ?_
    rotate_left 1
    · (intro w hSw; (try dsimp only at hSw); go_simp; try with_reducible rfl)
    try simp only [Act.put, List.setIfInBounds_toArray, List.set_cons_zero, List.set_cons_succ]
    refine wpAnyH_take (i := 2) (v := ?_) (by simp only [List.getElem?_toArray, List.getElem?_cons_succ, List.getElem?_cons_zero]; rfl) (by kernel_rfl) (by kernel_rfl) (by kernel_rfl) (by exact fun _ _ _ h => h) (Or.inl ⟨by rfl, ?_⟩) (by assumption) ?_
    rotate_left 1
    · (intro w hSw; (try dsimp only at hSw); go_simp; try with_reducible rfl)
    try simp only [Act.put, List.setIfInBounds_toArray, List.set_cons_zero, List.set_cons_succ]
    refine wpAnyH_take (i := 3) (v := ?_) (by simp only [List.getElem?_toArray, List.getElem?_cons_succ, List.getElem?_cons_zero]; rfl) (by kernel_rfl) (by kernel_rfl) (by kernel_rfl) (by exact fun _ _ _ h => h) (Or.inl ⟨by rfl, ?_⟩) (by assumption) ?_
    rotate_left 1
    · (intro w hSw; (try dsimp only at hSw); go_simp; try with_reducible rfl)
    try simp only [Act.put, List.setIfInBounds_toArray, List.set_cons_zero, List.set_cons_succ]
    refine wpAnyH_take (i := 4) (v := ?_) (by simp only [List.getElem?_toArray, List.getElem?_cons_succ, List.getElem?_cons_zero]; rfl) (by kernel_rfl) (by kernel_rfl) (by kernel_rfl) (by exact fun _ _ _ h => h) (Or.inl ⟨by rfl, ?_⟩) (by assumption) ?_
    rotate_left 1
    · (intro w hSw; (try dsimp only at hSw); go_simp; try with_reducible rfl)
    try simp only [Act.put, List.setIfInBounds_toArray, List.set_cons_zero, List.set_cons_succ]
    refine wpAnyH_ready (rs := [5]) (by kernel_rfl) (by simp) ?_
    refine AllReadyH.cons (by simp only [List.getElem?_toArray, List.getElem?_cons_succ, List.getElem?_cons_zero]; rfl) (fun K hK => ?_) AllReadyH.nil
    go_simp
    refine hK.out _ _ ?_ (fun hHeld2 => ?_)
    · exact (only5 (Only.refl (fun j => j = w.heap.size) _) (fun _ => rfl)).drew.cell hHeld (fun e => hne0 e.symm)
    clear hK K
    try simp only [Act.put, List.setIfInBounds_toArray, List.set_cons_zero, List.set_cons_succ]
    clear hHeld
    have hHeld := hHeld2
    clear hHeld2
    refine wpAnyH_take (i := 6) (v := ?_) (by simp only [List.getElem?_toArray, List.getElem?_cons_succ, List.getElem?_cons_zero]; rfl) (by kernel_rfl) (by kernel_rfl) (by kernel_rfl) (by exact fun _ _ _ h => h) (Or.inl ⟨by rfl, ?_⟩) (by assumption) ?_
    rotate_left 1
    · (intro w hSw; (try dsimp only at hSw); go_simp; try with_reducible rfl)
    try simp only [Act.put, List.setIfInBounds_toArray, List.set_cons_zero, List.set_cons_succ]
    refine wpAnyH_done (by kernel_rfl) ?_ _
    clear hHeld
    generalize hfn : Tryz.f12 = fn at *
    go_wp2
    subst hfn
    refine bodyPost_ret (v := .tuple #[.agg #[.slice none 0 0, .int .i64 0, .int .i64 0, .slice none 0 0, .slice none 0 0], .int .i64 ef]) (class_result (heap_drew (store5 hr)) rfl rfl) rfl ?_
    refine ⟨_, _, _, ⟨[], 0, 0, [], []⟩, ef, rfl, ?_, ClassM.nil _, .inr ⟨HNE.out, HDEC.out, rfl, rfl, rfl, rfl⟩⟩
    exact (only5 HON.out (fun hl => absurd hl (Nat.lt_irrefl _))).drew
  subst hx2
  have HNH := Lib.hid (show Nx headP zs (.ok 0) () σ2 from Nx.bind HM1.out (show Nx (fixedP 4 61) zs σ1 () σ2 from HN2.out.bind (Nx.must_true rfl)))
  clear HM1 HN2
  cases σ2 with
  | error y =>
    have HF := Lib.hid HF2.out
    have hyn := HF2.out.e_no
    obtain ⟨rfl, hyn⟩ := hyn
    have HNE := Lib.hid hyn
    have HON := Lib.hid HON3.out
    have HRES := Lib.hid HRES3.out
    have HDEC := Lib.hid (show DecC zs (.error e2) from .inl ⟨e2, HNH.out, rfl⟩)
    clear hyn HF2 HON3 HRES3
    have q1 := cell_blk HF.out.blk 1
    simp at q1
    have hyb : (e2 != 0) = true := by first | decide | (have := HNE.out; simpa using this)
    have hyc : (e2 == 0) = false := by first | decide | (have := HNE.out; simpa using this)
    have hr := HRES.out
    have d0 := cell_blk hr 0
    have d1 := cell_blk hr 1
    have d2 := cell_blk hr 2
    have d3 := cell_blk hr 3
    have d4 := cell_blk hr 4
    have g0 := frozen_blk hr 0
    have g1 := frozen_blk hr 1
    have g2 := frozen_blk hr 2
    have g3 := frozen_blk hr 3
    have g4 := frozen_blk hr 4
    simp at d0 d1 d2 d3 d4
    have hne0 : w.heap.size ≠ fb := by have := HFN.out; omega
    go_wp2_with (fail)
    refine wp_region_held_drew (S := fun wc => wc.cell? ⟨fb, 1, none⟩ = some (.int .i64 e2)) (by kernel_rfl) q1 (fun hHeld => ?_)
    refine wpAnyH_take (i := 0) (v := ?_) (by simp only [List.getElem?_toArray, List.getElem?_cons_succ, List.getElem?_cons_zero]; rfl) (by kernel_rfl) (by kernel_rfl) (by kernel_rfl) (by exact fun _ _ _ h => h) (Or.inl ⟨by rfl, ?_⟩) (by assumption) ?_
    rotate_left 1
    · (intro w hSw; (try dsimp only at hSw); go_simp; try with_reducible rfl)
    try simp only [Act.put, List.setIfInBounds_toArray, List.set_cons_zero, List.set_cons_succ]
    refine wpAnyH_take (i := 1) (v := ?_) (by simp only [List.getElem?_toArray, List.getElem?_cons_succ, List.getElem?_cons_zero]; rfl) (by kernel_rfl) (by kernel_rfl) (by kernel_rfl) (by exact fun _ _ _ h => h) (Or.inl ⟨by rfl, ?_⟩) (by assumption) ?_
    rotate_left 1
    · (intro w hSw; (try dsimp only at hSw); go_simp; try with_reducible rfl)
    try simp only [Act.put, List.setIfInBounds_toArray, List.set_cons_zero, List.set_cons_succ]
    refine wpAnyH_take (i := 2) (v := ?_) (by simp only [List.getElem?_toArray, List.getElem?_cons_succ, List.getElem?_cons_zero]; rfl) (by kernel_rfl) (by kernel_rfl) (by kernel_rfl) (by exact fun _ _ _ h => h) (Or.inl ⟨by rfl, ?_⟩) (by assumption) ?_
    rotate_left 1
    · (intro w hSw; (try dsimp only at hSw); go_simp; try with_reducible rfl)
    try simp only [Act.put, List.setIfInBounds_toArray, List.set_cons_zero, List.set_cons_succ]
    refine wpAnyH_take (i := 3) (v := ?_) (by simp only [List.getElem?_toArray, List.getElem?_cons_succ, List.getElem?_cons_zero]; rfl) (by kernel_rfl) (by kernel_rfl) (by kernel_rfl) (by exact fun _ _ _ h => h) (Or.inl ⟨by rfl, ?_⟩) (by assumption) ?_
    rotate_left 1
    · (intro w hSw; (try dsimp only at hSw); go_simp; try with_reducible rfl)
    try simp only [Act.put, List.setIfInBounds_toArray, List.set_cons_zero, List.set_cons_succ]
    refine wpAnyH_take (i := 4) (v := ?_) (by simp only [List.getElem?_toArray, List.getElem?_cons_succ, List.getElem?_cons_zero]; rfl) (by kernel_rfl) (by kernel_rfl) (by kernel_rfl) (by exact fun _ _ _ h => h) (Or.inl ⟨by rfl, ?_⟩) (by assumption) ?_
    rotate_left 1
    · (intro w hSw; (try dsimp only at hSw); go_simp; try with_reducible rfl)
    try simp only [Act.put, List.setIfInBounds_toArray, List.set_cons_zero, List.set_cons_succ]
    refine wpAnyH_ready (rs := [5]) (by kernel_rfl) (by simp) ?_
    refine AllReadyH.cons (by simp only [List.getElem?_toArray, List.getElem?_cons_succ, List.getElem?_cons_zero]; rfl) (fun K hK => ?_) AllReadyH.nil
    go_simp
    refine hK.out _ _ ?_ (fun hHeld2 => ?_)
    · exact (only5 (Only.refl (fun j => j = w.heap.size) _) (fun _ => rfl)).drew.cell hHeld (fun e => hne0 e.symm)
    clear hK K
    try simp only [Act.put, List.setIfInBounds_toArray, List.set_cons_zero, List.set_cons_succ]
    clear hHeld
    have hHeld := hHeld2
    clear hHeld2
    refine wpAnyH_take (i := 6) (v := ?_) (by simp only [List.getElem?_toArray, List.getElem?_cons_succ, List.getElem?_cons_zero]; rfl) (by kernel_rfl) (by kernel_rfl) (by kernel_rfl) (by exact fun _ _ _ h => h) (Or.inl ⟨by rfl, ?_⟩) (by assumption) ?_
    rotate_left 1
    · (intro w hSw; (try dsimp only at hSw); go_simp; try with_reducible rfl)
    try simp only [Act.put, List.setIfInBounds_toArray, List.set_cons_zero, List.set_cons_succ]
    refine wpAnyH_done (by kernel_rfl) ?_ _
    clear hHeld
    generalize hfn : Tryz.f12 = fn at *
    go_wp2
    subst hfn
    refine bodyPost_ret (v := .tuple #[.agg #[.slice none 0 0, .int .i64 0, .int .i64 0, .slice none 0 0, .slice none 0 0], .int .i64 e2]) (class_result (heap_drew (store5 hr)) rfl rfl) rfl ?_
    refine ⟨_, _, _, ⟨[], 0, 0, [], []⟩, e2, rfl, ?_, ClassM.nil _, .inr ⟨HNE.out, HDEC.out, rfl, rfl, rfl, rfl⟩⟩
    exact (only5 HON.out (fun hl => absurd hl (Nat.lt_irrefl _))).drew
  | ok kh =>
    have hst := HF2.out.e_ok
    obtain ⟨rfl, rfl⟩ := hst
    have h8 := HF2.out.rf.le
    obtain ⟨g, o, rfl⟩ := Bytes.addr HB.out (by have := headP_ok HNH.out; omega)
    have hbh := Bytes.behind_if HB.out kh h8
    obtain ⟨vs, hif⟩ : ∃ vs, (if cap = kh then (some (⟨g, o, none⟩ : Addr)) else some ⟨g, o + kh, none⟩) = vs := ⟨_, rfl⟩
    rw [hif] at hbh
    have q1 := cell_blk HF2.out.blk 1
    simp at q1
    have hoD := (Only.refl (fun _ => False) w3).alloc (.cells #[.slice none 0 0, .int .i64 0, .int .i64 0, .slice none 0 0, .slice none 0 0] 26)
    have hcb := heap_alloc_new w3 (.cells #[.slice none 0 0, .int .i64 0, .int .i64 0, .slice none 0 0, .slice none 0 0] 26)
    obtain ⟨cb, hcbe⟩ : ∃ cb, w3.heap.size = cb := ⟨_, rfl⟩
    rw [hcbe] at hcb
    have hF4 := HF2.out.idle hoD
    have q0 := cell_blk hF4.blk 0
    have r1 := cell_blk hF4.rf.blk 1
    simp at q0 r1
    have HF4 := Lib.hid hF4
    have HCB := Lib.hid hcb
    have HBH := Lib.hid (hbh.only (HON3.out.trans hoD (fun _ h _ => h)) (fun _ _ _ h => h))
    have HON4 := Lib.hid (HON3.out.trans hoD (fun _ h _ => h))
    have HRES4 := Lib.hid (hoD.heap HRES3.out (fun h => h))
    have HSZ := Lib.hid (show fb < cb ∧ rb < cb ∧ w.heap.size < cb ∧ cb < (w3.alloc (.cells #[.slice none 0 0, .int .i64 0, .int .i64 0, .slice none 0 0, .slice none 0 0] 26)).heap.size from by have h1 := heap_lt HF2.out.blk; have h2 := HF2.out.rf.lt; have h3 := heap_lt HRES3.out; have h4 := heap_lt hcb; omega)
    have h8z : (kh : Int) ≤ (zs.length : Int) := by omega
    have hcz : (zs.length : Int) ≤ (cap : Int) := by omega
    have HL8 := Lib.hid h8
    clear hF4 hoD hcb hbh h8 HF2 HON3 HRES3
    go_wp2_with (fail)
    try rw [hcbe]
    clear hcbe q1 q0 r1
    generalize w3.alloc (.cells #[.slice none 0 0, .int .i64 0, .int .i64 0, .slice none 0 0, .slice none 0 0] 26) = w4 at *
    have cR := refPoolDecode _ (zs.drop kh) w4 HBH.out (by rw [List.length_drop]; omega)
    have CR := Lib.hid cR
    clear cR HBH
    clear hif
    refine CR.out.mono ?_
    rintro en w5 ⟨pv, cs, n, e0, rfl, hd, ho5, hrow, hfit⟩
    clear CR
    obtain ⟨ap, cp, rfl, _, _⟩ := slice_of_owns hrow
    have HD := Lib.hid hd
    have HFIT := Lib.hid hfit
    have HP5 := Lib.hid (hrow.pool (fun c hc => (hfit c hc).1))
    have HPN := Lib.hid (show ∀ j, (Value.slice ap cs.length cp).ownBlock = some j → w4.heap.size ≤ j ∧ j < w5.heap.size from fun j hj => World.ownsRow.lt hrow j hj)
    have HF5 := Lib.hid (HF4.out.idle ho5)
    have HCB5 := Lib.hid (ho5.heap HCB.out (fun h => h))
    have HON5 := Lib.hid (HON4.out.trans ho5 (fun _ h _ => h))
    have HRES5 := Lib.hid (ho5.heap HRES4.out (fun h => h))
    have HSZ5 := Lib.hid ho5.size
    obtain ⟨np, hnp⟩ : ∃ np, cs.length = np := ⟨_, rfl⟩
    rw [hnp] at HP5 HPN
    rw [hnp]
    clear hd ho5 hrow hfit HF4 HCB HON4 HRES4 hnp
    by_cases h0 : e0 = 0
    rotate_left
    · have hyb : (e0 != 0) = true := by simpa using h0
      have hr := HRES5.out
      have d0 := cell_blk hr 0
      have d1 := cell_blk hr 1
      have d2 := cell_blk hr 2
      have d3 := cell_blk hr 3
      have d4 := cell_blk hr 4
      have g0 := frozen_blk hr 0
      have g1 := frozen_blk hr 1
      have g2 := frozen_blk hr 2
      have g3 := frozen_blk hr 3
      have g4 := frozen_blk hr 4
      simp at d0 d1 d2 d3 d4
      have HNE := Lib.hid h0
      clear h0
      generalize hfn : Tryz.f12 = fn at *
      go_wp2
      subst hfn
      refine bodyPost_ret (v := .tuple #[.agg #[.slice none 0 0, .int .i64 0, .int .i64 0, .slice none 0 0, .slice none 0 0], .int .i64 e0]) (class_result (store5 hr) rfl rfl) rfl ?_
      refine ⟨_, _, _, ⟨[], 0, 0, [], []⟩, e0, rfl, ?_, ClassM.nil _, .inr ⟨HNE.out, .inr ⟨kh, cs, n, e0, HNH.out, HD.out, .inl ⟨HNE.out, rfl⟩⟩, rfl, rfl, rfl, rfl⟩⟩
      exact only5 HON5.out (fun hl => absurd hl (Nat.lt_irrefl _))
    subst h0
    obtain ⟨_, hpos, m, rfl, hm1, hm2⟩ := HD.out.good (HBZ.out.drop kh)
    rw [List.length_drop] at hm1
    have hw8 : IntKind.i64.wrap ((kh : Int) + (m : Int)) = (kh : Int) + (m : Int) := IntWalk.i64_in _ (by omega)
    have HKM := Lib.hid (show kh + m ≤ zs.length by have := HL8.out; omega)
    have AC := Lib.hid (show Ac w fb rb cb w5.heap.size (.slice (some ⟨g, o, none⟩) zs.length cap) (.slice ap np cp) zs from ⟨HFN.out.1, HFN.out.2.1, HSZ.out.2.2.1, by have := HSZ.out; omega, by have := HSZ.out; omega, by have := HSZ.out; have := HSZ5.out; omega, by have := HSZ.out; have := HSZ5.out; omega, by have := HSZ.out; have := HSZ5.out; omega, HVN.out, fun j hj => by have := HPN.out j hj; have := HSZ.out; omega⟩)
    have h5 : CQ w w5 fb rb cb (.slice (some ⟨g, o, none⟩) zs.length cap) (.slice ap np cp) zs cs (.ok kh) kh 0 _ := ⟨HF5.out, HP5.out, HCB5.out, HRES5.out, HON5.out⟩
    have c0 := cell_blk h5.blk 0
    have fz0 := frozen_blk h5.blk 0
    simp at c0
    have h6 := h5.store AC.out 0 (.slice ap np cp)
    have hset := h6.fl.rf.set HKM.out
    rw [Int.natCast_add] at hset
    obtain ⟨k8, e8, hm⟩ := h6.call AC.out (FlTo.of_rf h6.fl hset)
    have H8 := Lib.hid (hm.idle (Only.refl (fun _ => False) _).drew)
    clear hm
    have H6 := Lib.hid h6
    have HS8 := Lib.hid hset.2.drew.size
    have HSQ := Lib.hid (show w5.heap.size ≤ (w5.setCell ⟨cb, 0, none⟩ (.slice ap np cp)).heap.size from ((Only.refl (fun j => j = cb) w5).setCell (p := ⟨cb, 0, none⟩) (fun _ => rfl) _).size)
    clear h5 h6 hset hpos hm1 hm2 HF5 HP5 HCB5 HRES5 HON5 HPN HSZ HSZ5 HVN
    go_wp2
    clear c0 fz0
    generalize w5.setCell ⟨cb, 0, none⟩ (.slice ap np cp) = w6 at *
    have q0 := cell_blk H6.out.fl.blk 0
    have r0 := cell_blk H6.out.fl.rf.blk 0
    have r1 := cell_blk H6.out.fl.rf.blk 1
    have fr1 := frozen_blk H6.out.fl.rf.blk 1
    simp at q0 r0 r1
    have hnfr : ¬ fb = rb := by have := HFN.out; omega
    refine wp_region_held_drew (S := fun wc => wc.cell? ⟨fb, 0, none⟩ = some (.pointer (some ⟨rb, 0, none⟩))) (by kernel_rfl) q0 (fun hHeld => ?_)
    refine wpAnyH_take (i := 0) (v := ?_) (by simp only [List.getElem?_toArray, List.getElem?_cons_succ, List.getElem?_cons_zero]; rfl) (by kernel_rfl) (by kernel_rfl) (by kernel_rfl) (by exact fun _ _ _ h => h) (Or.inl ⟨by rfl, ?_⟩) (by assumption) ?_
    rotate_left 1
    · (intro w hSw; (try dsimp only at hSw); go_simp; try with_reducible rfl)
    try simp only [Act.put, List.setIfInBounds_toArray, List.set_cons_zero, List.set_cons_succ]
    refine wpAnyH_take (i := 1) (v := ?_) (by simp only [List.getElem?_toArray, List.getElem?_cons_succ, List.getElem?_cons_zero]; rfl) (by kernel_rfl) (by kernel_rfl) (by kernel_rfl) (by exact fun _ _ _ h => h) (Or.inl ⟨by rfl, ?_⟩) (by assumption) ?_
    rotate_left 1
    · (intro w hSw; (try dsimp only at hSw); go_simp; try with_reducible rfl)
    try simp only [Act.put, List.setIfInBounds_toArray, List.set_cons_zero, List.set_cons_succ]
    refine wpAnyH_take (i := 2) (v := ?_) (by simp only [List.getElem?_toArray, List.getElem?_cons_succ, List.getElem?_cons_zero]; rfl) (by kernel_rfl) (by kernel_rfl) (by kernel_rfl) (by exact fun _ _ _ h => h) (Or.inl ⟨by rfl, ?_⟩) (by assumption) ?_
    rotate_left 1
    · (intro w hSw; (try dsimp only at hSw); go_simp; try with_reducible rfl)
    try simp only [Act.put, List.setIfInBounds_toArray, List.set_cons_zero, List.set_cons_succ]
    refine wpAnyH_take (i := 3) (v := ?_) (by simp only [List.getElem?_toArray, List.getElem?_cons_succ, List.getElem?_cons_zero]; rfl) (by kernel_rfl) (by kernel_rfl) (by kernel_rfl) (by exact fun _ _ _ h => h) (Or.inl ⟨by rfl, ?_⟩) (by assumption) ?_
    rotate_left 1
    · (intro w hSw; (try dsimp only at hSw); go_simp; try with_reducible rfl)
    try simp only [Act.put, List.setIfInBounds_toArray, List.set_cons_zero, List.set_cons_succ]
    refine wpAnyH_take (i := 4) (v := ?_) (by simp only [List.getElem?_toArray, List.getElem?_cons_succ, List.getElem?_cons_zero]; rfl) (by kernel_rfl) (by kernel_rfl) (by kernel_rfl) (by exact fun _ _ _ h => h) (Or.inl ⟨by rfl, ?_⟩) (by assumption) ?_
    rotate_left 1
    · (intro w hSw; (try dsimp only at hSw); go_simp; try with_reducible rfl)
    try simp only [Act.put, List.setIfInBounds_toArray, List.set_cons_zero, List.set_cons_succ]
    refine wpAnyH_take (i := 5) (v := ?_) (by simp only [List.getElem?_toArray, List.getElem?_cons_succ, List.getElem?_cons_zero]; rfl) (by kernel_rfl) (by kernel_rfl) (by kernel_rfl) (by exact fun _ _ _ h => h) (Or.inl ⟨by rfl, ?_⟩) (by assumption) ?_
    rotate_left 1
    · (intro w hSw; (try dsimp only at hSw); go_simp; try with_reducible rfl)
    try simp only [Act.put, List.setIfInBounds_toArray, List.set_cons_zero, List.set_cons_succ]
    refine wpAnyH_take (i := 6) (v := ?_) (by simp only [List.getElem?_toArray, List.getElem?_cons_succ, List.getElem?_cons_zero]; rfl) (by kernel_rfl) (by kernel_rfl) (by kernel_rfl) (by exact fun _ _ _ h => h) (Or.inl ⟨by rfl, ?_⟩) (by assumption) ?_
    rotate_left 1
    · (intro w hSw; (try dsimp only at hSw); go_simp; try with_reducible rfl)
    try simp only [Act.put, List.setIfInBounds_toArray, List.set_cons_zero, List.set_cons_succ]
    refine wpAnyH_take (i := 7) (v := ?_) (by simp only [List.getElem?_toArray, List.getElem?_cons_succ, List.getElem?_cons_zero]; rfl) (by kernel_rfl) (by kernel_rfl) (by kernel_rfl) (by exact fun _ _ _ h => h) (Or.inl ⟨by rfl, ?_⟩) (by assumption) ?_
    rotate_left 1
    · (intro w hSw; (try dsimp only at hSw); go_simp; try with_reducible rfl)
    try simp only [Act.put, List.setIfInBounds_toArray, List.set_cons_zero, List.set_cons_succ]
    refine wpAnyH_take (i := 8) (v := ?_) (by simp only [List.getElem?_toArray, List.getElem?_cons_succ, List.getElem?_cons_zero]; rfl) (by kernel_rfl) (by kernel_rfl) (by kernel_rfl) (by exact fun _ _ _ h => h) (Or.inl ⟨by rfl, ?_⟩) (by assumption) ?_
    rotate_left 1
    · (intro w hSw; (try dsimp only at hSw); go_simp; try with_reducible rfl)
    try simp only [Act.put, List.setIfInBounds_toArray, List.set_cons_zero, List.set_cons_succ]
    refine wpAnyH_take (i := 9) (v := ?_) (by simp only [List.getElem?_toArray, List.getElem?_cons_succ, List.getElem?_cons_zero]; rfl) (by kernel_rfl) (by kernel_rfl) (by kernel_rfl) (by exact fun _ _ _ h => h) (Or.inl ⟨by rfl, ?_⟩) (by assumption) ?_
    rotate_left 1
    · (intro w hSw; (try dsimp only at hSw); go_simp; try with_reducible rfl)
    try simp only [Act.put, List.setIfInBounds_toArray, List.set_cons_zero, List.set_cons_succ]
    refine wpAnyH_take (i := 11) (v := ?_) (by simp only [List.getElem?_toArray, List.getElem?_cons_succ, List.getElem?_cons_zero]; rfl) (by kernel_rfl) (by kernel_rfl) (by kernel_rfl) (by exact fun _ _ _ h => h) (Or.inl ⟨by rfl, ?_⟩) (by assumption) ?_
    rotate_left 1
    · (intro w hSw; (try dsimp only at hSw); go_simp; try with_reducible rfl)
    try simp only [Act.put, List.setIfInBounds_toArray, List.set_cons_zero, List.set_cons_succ]
    refine wpAnyH_ready (rs := [10]) (by kernel_rfl) (by simp) ?_
    refine AllReadyH.cons (by simp only [List.getElem?_toArray, List.getElem?_cons_succ, List.getElem?_cons_zero]; rfl) (fun K hK => ?_) AllReadyH.nil
    go_simp
    refine hK.out _ _ ?_ (fun hHeld2 => ?_)
    · exact hHeld
    clear hK K
    try simp only [Act.put, List.setIfInBounds_toArray, List.set_cons_zero, List.set_cons_succ]
    clear hHeld
    have hHeld := hHeld2
    clear hHeld2
    refine wpAnyH_take (i := 12) (v := ?_) (by simp only [List.getElem?_toArray, List.getElem?_cons_succ, List.getElem?_cons_zero]; rfl) (by kernel_rfl) (by kernel_rfl) (by kernel_rfl) (by exact fun _ _ _ h => h) (Or.inl ⟨by rfl, ?_⟩) (by assumption) ?_
    rotate_left 1
    · (intro w hSw; (try dsimp only at hSw); go_simp; try with_reducible rfl)
    try simp only [Act.put, List.setIfInBounds_toArray, List.set_cons_zero, List.set_cons_succ]
    refine wpAnyH_take (i := 13) (v := ?_) (by simp only [List.getElem?_toArray, List.getElem?_cons_succ, List.getElem?_cons_zero]; rfl) (by kernel_rfl) (by kernel_rfl) (by kernel_rfl) (by exact fun _ _ _ h => h) (Or.inl ⟨by rfl, ?_⟩) (by assumption) ?_
    rotate_left 1
    · (intro w hSw; (try dsimp only at hSw); go_simp; try with_reducible rfl)
    try simp only [Act.put, List.setIfInBounds_toArray, List.set_cons_zero, List.set_cons_succ]
    refine wpAnyH_take (i := 14) (v := ?_) (by simp only [List.getElem?_toArray, List.getElem?_cons_succ, List.getElem?_cons_zero]; rfl) (by kernel_rfl) (by kernel_rfl) (by kernel_rfl) (by exact fun _ _ _ h => h) (Or.inl ⟨by rfl, ?_⟩) (by assumption) ?_
    rotate_left 1
    · (intro w hSw; (try dsimp only at hSw); go_simp; try with_reducible rfl)
    try simp only [Act.put, List.setIfInBounds_toArray, List.set_cons_zero, List.set_cons_succ]
    refine wpAnyH_ready (rs := [15]) (by kernel_rfl) (by simp) ?_
    refine AllReadyH.cons (by simp only [List.getElem?_toArray, List.getElem?_cons_succ, List.getElem?_cons_zero]; rfl) (fun K hK => ?_) AllReadyH.nil
    go_simp
    refine hK.out _ _ ?_ (fun hHeld2 => ?_)
    · exact ((Only.refl (fun j => j = rb) _).setCell (p := ⟨rb, 1, none⟩) (fun _ => rfl) _).drew.cell hHeld hnfr
    clear hK K
    try simp only [Act.put, List.setIfInBounds_toArray, List.set_cons_zero, List.set_cons_succ]
    clear hHeld
    have hHeld := hHeld2
    clear hHeld2
    refine wpAnyH_done (by kernel_rfl) ?_ _
    clear q0 r0 r1 fr1 hw8 hHeld hnfr
    clear H6
    generalize (w6.setCell ⟨rb, 1, none⟩ (.int .i64 ((kh : Int) + (m : Int)))).drew = w8 at *
    have HB8 := Lib.hid (show w5.heap.size ≤ w8.heap.size from Nat.le_trans HSQ.out HS8.out)
    clear HSQ HS8
    generalize w5.heap.size = B at *
    go_wp2_with (fail)
    refine (dfMust fb rb (.slice (some ⟨g, o, none⟩) zs.length cap) zs _ _ _ _ 0 H8.out.fl).mono ?_
    rintro en w9 ⟨σ9, rfl, hN, hto⟩
    have HN9 := Lib.hid hN
    have HB9 := Lib.hid (Nat.le_trans HB8.out hto.2.size)
    obtain ⟨k9, e9, hm⟩ := H8.out.call AC.out hto
    have H9 := Lib.hid hm
    clear hN hto hm H8 HB8
    go_wp2_with (fail)
    refine (dfNum fb rb (.slice (some ⟨g, o, none⟩) zs.length cap) zs _ _ _ _ 2 (by decide) (by decide) H9.out.fl).mono ?_
    rintro en w10 ⟨th, σ10, rfl, hN, hb1, hto⟩
    have HN10 := Lib.hid hN
    have Vth := Lib.hid (i64_short hb1)
    obtain ⟨k10, e10, hm⟩ := H9.out.call AC.out hto
    have c0 := cell_blk hm.blk 1
    have fz0 := frozen_blk hm.blk 1
    simp at c0
    have H10 := Lib.hid (show CQ w (w10.setCell ⟨cb, 1, none⟩ (.int .i64 th)) fb rb cb (.slice (some ⟨g, o, none⟩) zs.length cap) (.slice ap np cp) zs cs σ10 k10 e10 #[.slice ap np cp, .int .i64 th, .int .i64 0, .slice none 0 0, .slice none 0 0] from hm.store AC.out 1 (.int .i64 th))
    have HB10 := Lib.hid (Nat.le_trans HB9.out (Nat.le_trans hto.2.size ((Only.refl (fun j => j = cb) w10).setCell (p := ⟨cb, 1, none⟩) (fun _ => rfl) (.int .i64 th)).size))
    clear hN hb1 hto hm H9 HB9
    go_wp2_with (fail)
    clear c0 fz0
    generalize w10.setCell ⟨cb, 1, none⟩ (.int .i64 th) = w10' at *
    refine (dfNum fb rb (.slice (some ⟨g, o, none⟩) zs.length cap) zs _ _ _ _ 2 (by decide) (by decide) H10.out.fl).mono ?_
    rintro en w11 ⟨su, σ11, rfl, hN, hb1, hto⟩
    have HN11 := Lib.hid hN
    have Vsu := Lib.hid (i64_short hb1)
    obtain ⟨k11, e11, hm⟩ := H10.out.call AC.out hto
    have c0 := cell_blk hm.blk 2
    have fz0 := frozen_blk hm.blk 2
    simp at c0
    have H11 := Lib.hid (show CQ w (w11.setCell ⟨cb, 2, none⟩ (.int .i64 su)) fb rb cb (.slice (some ⟨g, o, none⟩) zs.length cap) (.slice ap np cp) zs cs σ11 k11 e11 #[.slice ap np cp, .int .i64 th, .int .i64 su, .slice none 0 0, .slice none 0 0] from hm.store AC.out 2 (.int .i64 su))
    have HB11 := Lib.hid (Nat.le_trans HB10.out (Nat.le_trans hto.2.size ((Only.refl (fun j => j = cb) w11).setCell (p := ⟨cb, 2, none⟩) (fun _ => rfl) (.int .i64 su)).size))
    clear hN hb1 hto hm H10 HB10
    go_wp2_with (fail)
    clear c0 fz0
    generalize w11.setCell ⟨cb, 2, none⟩ (.int .i64 su) = w11' at *
    refine (dfMust fb rb (.slice (some ⟨g, o, none⟩) zs.length cap) zs _ _ _ _ 0 H11.out.fl).mono ?_
    rintro en w12 ⟨σ12, rfl, hN, hto⟩
    have HN12 := Lib.hid hN
    have HB12 := Lib.hid (Nat.le_trans HB11.out hto.2.size)
    obtain ⟨k12, e12, hm⟩ := H11.out.call AC.out hto
    have H12 := Lib.hid hm
    clear hN hto hm H11 HB11
    go_wp2_with (fail)
    refine (dfCount fb rb (.slice (some ⟨g, o, none⟩) zs.length cap) zs _ _ _ _ 2 (.inl rfl) 64 (by decide) H12.out.fl).mono ?_
    rintro en w13 ⟨nf, σ13, rfl, hN, hb1, hto⟩
    obtain ⟨mf, rfl⟩ : ∃ mf : Nat, nf = mf := ⟨nf.toNat, by omega⟩
    have HN13 := Lib.hid hN
    have mf1 := hb1.2
    have HB13 := Nat.le_trans HB12.out hto.2.size
    obtain ⟨k13, e13, hm⟩ := H12.out.call AC.out hto
    have H13 := Lib.hid (show FQ w w13 fb rb cb B (.slice (some ⟨g, o, none⟩) zs.length cap) (.slice ap np cp) zs cs σ13 k13 e13 th su (.slice none 0 0) [] from ⟨hm, RowG.nil _ _, HB13⟩)
    clear hN hb1 hto hm H12 HB12 HB13
    obtain ⟨i0, hi, hz0, hz1, hz2⟩ := info_parts info_field
    go_wp2
    go_loopw [9] (fun i wr => ∃ (ts : List FieldV) (σj : StZ) (kj : Nat) (ej : Int) (vt : Value), i = .int .i64 ts.length ∧ ts.length ≤ mf ∧ ListS fieldP mf zs σ13 ts σj ∧ FQ w wr fb rb cb B (.slice (some ⟨g, o, none⟩) zs.length cap) (.slice ap np cp) zs cs σj kj ej th su vt ts ∧ ∀ t ∈ ts, FieldR t) (fun i _ => mf - (intOf i).toNat)
    case atStart => exact ⟨[], σ13, k13, e13, _, rfl, Nat.zero_le _, ListS.start, H13.out, fun t ht => by cases ht⟩
    case round =>
      obtain ⟨ts, σj, kj, ej, vt, rfl, hle, hto, hl, htr⟩ := hrel
      obtain ⟨at_, ct, rfl, _, _⟩ := slice_of_owns hl.rg
      have HTO := Lib.hid hto
      have HTR := Lib.hid htr
      have HL := Lib.hid hl
      have q1 := cell_blk hl.cq.fl.blk 1
      simp at q1
      clear hto htr H13
      by_cases hlt : ts.length < mf
      · have hltz : (ts.length : Int) < (mf : Int) := by omega
        cases σj with
        | ok kk =>
          have hkk := hl.cq.fl.e_ok
          have HLT := Lib.hid hlt
          obtain ⟨_, rfl⟩ := hkk
          have HL0 := Lib.hid (HL.out.idle (Only.refl (fun _ => False) wr).drew)
          have q6 := cell_blk HL0.out.cq.blk 3
          simp at q6
          clear HL hl
          go_wp2_with (fail)
          refine wp_region_held_drew (S := fun _ => True) (by kernel_rfl) trivial (fun hHeld => ?_)
          refine wpAnyH_take (i := 0) (v := ?_) (by simp only [List.getElem?_toArray, List.getElem?_cons_succ, List.getElem?_cons_zero]; rfl) (by kernel_rfl) (by kernel_rfl) (by kernel_rfl) (by exact fun _ _ _ h => h) (Or.inl ⟨by rfl, ?_⟩) (by assumption) ?_
          rotate_left 1
          · (intro w hSw; (try dsimp only at hSw); go_simp; try with_reducible rfl)
          try simp only [Act.put, List.setIfInBounds_toArray, List.set_cons_zero, List.set_cons_succ]
          refine wpAnyH_take (i := 2) (v := ?_) (by simp only [List.getElem?_toArray, List.getElem?_cons_succ, List.getElem?_cons_zero]; rfl) (by kernel_rfl) (by kernel_rfl) (by kernel_rfl) (by exact fun _ _ _ h => h) (Or.inl ⟨by rfl, ?_⟩) (by assumption) ?_
          rotate_left 1
          · (intro w hSw; (try dsimp only at hSw); go_simp; try with_reducible rfl)
          try simp only [Act.put, List.setIfInBounds_toArray, List.set_cons_zero, List.set_cons_succ]
          refine wpAnyH_take (i := 4) (v := ?_) (by simp only [List.getElem?_toArray, List.getElem?_cons_succ, List.getElem?_cons_zero]; rfl) (by kernel_rfl) (by kernel_rfl) (by kernel_rfl) (by exact fun _ _ _ h => h) (Or.inl ⟨by rfl, ?_⟩) (by assumption) ?_
          rotate_left 1
          · (intro w hSw; (try dsimp only at hSw); go_simp; try with_reducible rfl)
          try simp only [Act.put, List.setIfInBounds_toArray, List.set_cons_zero, List.set_cons_succ]
          refine wpAnyH_take (i := 6) (v := ?_) (by simp only [List.getElem?_toArray, List.getElem?_cons_succ, List.getElem?_cons_zero]; rfl) (by kernel_rfl) (by kernel_rfl) (by kernel_rfl) (by exact fun _ _ _ h => h) (Or.inl ⟨by rfl, ?_⟩) (by assumption) ?_
          rotate_left 1
          · (intro w hSw; (try dsimp only at hSw); go_simp; try with_reducible rfl)
          try simp only [Act.put, List.setIfInBounds_toArray, List.set_cons_zero, List.set_cons_succ]
          refine wpAnyH_ready (rs := [1, 3]) (by kernel_rfl) (by simp) ?_
          refine AllReadyH.cons (by simp only [List.getElem?_toArray, List.getElem?_cons_succ, List.getElem?_cons_zero]; rfl) (fun K hK => ?_) ?_
          · go_simp
            refine hK.out _ _ trivial (fun hHeld2 => ?_)
            clear hK K
            try simp only [Act.put, List.setIfInBounds_toArray, List.set_cons_zero, List.set_cons_succ]
            clear hHeld
            have hHeld := hHeld2
            clear hHeld2
            refine wpAnyH_ready (rs := [3]) (by kernel_rfl) (by simp) ?_
            refine AllReadyH.cons (by simp only [List.getElem?_toArray, List.getElem?_cons_succ, List.getElem?_cons_zero]; rfl) (fun K hK => ?_) AllReadyH.nil
            go_simp
            refine (dfNum fb rb (.slice (some ⟨g, o, none⟩) zs.length cap) zs _ _ _ _ 2 (by decide) (by decide) HL0.out.cq.fl).mono ?_
            rintro en wc1 ⟨a, σt1, rfl, hN, hb1, hto⟩
            have T1 := Lib.hid hN
            have U1 := Lib.hid hb1
            obtain ⟨kt1, et1, hl⟩ := HL0.out.call AC.out hto
            have HL1 := Lib.hid hl
            have q6 := cell_blk HL1.out.cq.blk 3
            simp at q6
            clear hN hb1 hto hl
            go_wp2_with fail
            refine hK.out _ _ trivial (fun hHeld2 => ?_)
            clear hK K
            try simp only [Act.put, List.setIfInBounds_toArray, List.set_cons_zero, List.set_cons_succ]
            clear hHeld
            have hHeld := hHeld2
            clear hHeld2
            refine wpAnyH_ready (rs := [5]) (by kernel_rfl) (by simp) ?_
            refine AllReadyH.cons (by simp only [List.getElem?_toArray, List.getElem?_cons_succ, List.getElem?_cons_zero]; rfl) (fun K hK => ?_) AllReadyH.nil
            go_simp
            refine (dfNum fb rb (.slice (some ⟨g, o, none⟩) zs.length cap) zs _ _ _ _ 2 (by decide) (by decide) HL1.out.cq.fl).mono ?_
            rintro en wc2 ⟨b_, σt2, rfl, hN, hb1, hto⟩
            have T2 := Lib.hid hN
            have U2 := Lib.hid hb1
            obtain ⟨kt2, et2, hl⟩ := HL1.out.call AC.out hto
            have HL2 := Lib.hid hl
            have q6 := cell_blk HL2.out.cq.blk 3
            simp at q6
            clear hN hb1 hto hl
            go_wp2_with fail
            refine hK.out _ _ trivial (fun hHeld2 => ?_)
            clear hK K
            try simp only [Act.put, List.setIfInBounds_toArray, List.set_cons_zero, List.set_cons_succ]
            clear hHeld
            have hHeld := hHeld2
            clear hHeld2
            refine wpAnyH_ready (rs := [7]) (by kernel_rfl) (by simp) ?_
            refine AllReadyH.cons (by simp only [List.getElem?_toArray, List.getElem?_cons_succ, List.getElem?_cons_zero]; rfl) (fun K hK => ?_) AllReadyH.nil
            go_simp
            refine (dfNum fb rb (.slice (some ⟨g, o, none⟩) zs.length cap) zs _ _ _ _ 2 (by decide) (by decide) HL2.out.cq.fl).mono ?_
            rintro en wc3 ⟨c_, σt3, rfl, hN, hb1, hto⟩
            have T3 := Lib.hid hN
            have U3 := Lib.hid hb1
            obtain ⟨kt3, et3, hl⟩ := HL2.out.call AC.out hto
            have HL3 := Lib.hid hl
            have q6 := cell_blk HL3.out.cq.blk 3
            simp at q6
            clear hN hb1 hto hl
            go_wp2_with fail
            refine hK.out _ _ trivial (fun hHeld2 => ?_)
            clear hK K
            try simp only [Act.put, List.setIfInBounds_toArray, List.set_cons_zero, List.set_cons_succ]
            clear hHeld
            have hHeld := hHeld2
            clear hHeld2
            refine wpAnyH_take (i := 8) (v := ?_) (by simp only [List.getElem?_toArray, List.getElem?_cons_succ, List.getElem?_cons_zero]; rfl) (by kernel_rfl) (by kernel_rfl) (by kernel_rfl) (by exact fun _ _ _ h => h) (Or.inl ⟨by rfl, ?_⟩) (by assumption) ?_
            rotate_left 1
            · (intro w hSw; (try dsimp only at hSw); go_simp; try with_reducible rfl)
            try simp only [Act.put, List.setIfInBounds_toArray, List.set_cons_zero, List.set_cons_succ]
            refine wpAnyH_ready (rs := [9]) (by kernel_rfl) (by simp) ?_
            refine AllReadyH.cons (by simp only [List.getElem?_toArray, List.getElem?_cons_succ, List.getElem?_cons_zero]; rfl) (fun K hK => ?_) AllReadyH.nil
            go_simp
            have HLa := Lib.hid (HL3.out.idle ((Only.refl (fun _ => False) wc3).alloc (.cells #[.int .i64 a, .int .i64 b_, .int .i64 c_] 59)))
            have q6 := cell_blk HLa.out.cq.blk 3
            simp at q6
            refine hK.out _ _ trivial (fun hHeld2 => ?_)
            clear hK K
            try simp only [Act.put, List.setIfInBounds_toArray, List.set_cons_zero, List.set_cons_succ]
            clear hHeld
            have hHeld := hHeld2
            clear hHeld2
            refine wpAnyH_ready (rs := [10]) (by kernel_rfl) (by simp) ?_
            refine AllReadyH.cons (by simp only [List.getElem?_toArray, List.getElem?_cons_succ, List.getElem?_cons_zero]; rfl) (fun K hK => ?_) AllReadyH.nil
            (refine step_append_src rfl (.tmp 97) (.tmp 105) 23 rfl 59 i0 (.agg #[.int .i64 0, .int .i64 0, .int .i64 0]) 3 24 Tryz.underlying23 hi hz0 hz1 hz2 rfl (by decide) B (.slice at_ ts.length ct) ts.length (ts.flatMap cellsF) rfl (by exact HLa.out.rg) (by exact HLa.out.sz) (.slice (some ⟨wc3.heap.size, 0, none⟩) 1 1) 1 (cellsF ⟨a, b_, c_⟩) rfl (by exact Src.struct (w := wc3) (cellsF ⟨a, b_, c_⟩) rfl (by intro u hu; simp [cellsF] at hu; rcases hu with rfl | rfl | rfl <;> rfl) rfl) (by unfold maxLen; omega) (by omega) ?_; intro v' wz hown hgrow hnew; obtain ⟨av', cv', rfl, _, _⟩ := slice_of_owns hown)
            obtain ⟨hp, q6, f6⟩ := HLa.out.push AC.out hown hgrow
            have HP := Lib.hid hp
            clear hown hgrow hnew hp
            refine hK.out _ _ trivial (fun hHeld2 => ?_)
            clear hK K
            try simp only [Act.put, List.setIfInBounds_toArray, List.set_cons_zero, List.set_cons_succ]
            clear hHeld
            have hHeld := hHeld2
            clear hHeld2
            refine wpAnyH_take (i := 11) (v := ?_) (by simp only [List.getElem?_toArray, List.getElem?_cons_succ, List.getElem?_cons_zero]; rfl) (by kernel_rfl) (by kernel_rfl) (by kernel_rfl) (by exact fun _ _ _ h => h) (Or.inl ⟨by rfl, ?_⟩) (by assumption) ?_
            rotate_left 1
            · (intro w hSw; (try dsimp only at hSw); go_simp; try with_reducible rfl)
            try simp only [Act.put, List.setIfInBounds_toArray, List.set_cons_zero, List.set_cons_succ]
            refine wpAnyH_ready (rs := [12]) (by kernel_rfl) (by simp) ?_
            refine AllReadyH.cons (by simp only [List.getElem?_toArray, List.getElem?_cons_succ, List.getElem?_cons_zero]; rfl) (fun K hK => ?_) AllReadyH.nil
            go_simp
            refine hK.out _ _ trivial (fun hHeld2 => ?_)
            clear hK K
            try simp only [Act.put, List.setIfInBounds_toArray, List.set_cons_zero, List.set_cons_succ]
            clear hHeld
            have hHeld := hHeld2
            clear hHeld2
            refine wpAnyH_done (by kernel_rfl) ?_ _
            clear hHeld
            go_wp2_with (fail)
            clear q6 f6
            generalize wz.setCell ⟨cb, 3, none⟩ (.slice av' (ts.length + 1) cv') = wz' at *
            refine (dfMust fb rb (.slice (some ⟨g, o, none⟩) zs.length cap) zs _ _ _ _ 0 HP.out.cq.fl).mono ?_
            rintro en wd ⟨σd, rfl, hN, hto⟩
            obtain ⟨kd, ed, hl⟩ := HP.out.call AC.out hto
            have HLD := Lib.hid hl
            have TD := Lib.hid hN
            clear hN hto hl HP
            go_wp2
            go_roundw
            case rel =>
              exact ⟨ts ++ [⟨a, b_, c_⟩], σd, kd, ed, _, by simp, by simp; omega, HTO.out.more HLT.out (show Nx fieldP zs (.ok kk) ⟨a, b_, c_⟩ σd from T1.out.bind (T2.out.bind (T3.out.bind (TD.out.bind (Nx.ret _ _ _))))), HLD.out, fun t ht => by
                rcases List.mem_append.1 ht with ht | ht
                · exact HTR.out t ht
                · simp only [List.mem_cons, List.mem_nil_iff, or_false] at ht
                  subst ht
                  exact ⟨i64_short U1.out, i64_short U2.out, i64_short U3.out⟩⟩
            case measure => simp [intOf]; omega
          refine AllReadyH.cons (by simp only [List.getElem?_toArray, List.getElem?_cons_succ, List.getElem?_cons_zero]; rfl) (fun K hK => ?_) AllReadyH.nil
          go_simp
          refine (dfNum fb rb (.slice (some ⟨g, o, none⟩) zs.length cap) zs _ _ _ _ 2 (by decide) (by decide) HL0.out.cq.fl).mono ?_
          rintro en wc1 ⟨a, σt1, rfl, hN, hb1, hto⟩
          have T1 := Lib.hid hN
          have U1 := Lib.hid hb1
          obtain ⟨kt1, et1, hl⟩ := HL0.out.call AC.out hto
          have HL1 := Lib.hid hl
          have q6 := cell_blk HL1.out.cq.blk 3
          simp at q6
          clear hN hb1 hto hl
          go_wp2_with fail
          refine hK.out _ _ trivial (fun hHeld2 => ?_)
          clear hK K
          try simp only [Act.put, List.setIfInBounds_toArray, List.set_cons_zero, List.set_cons_succ]
          clear hHeld
          have hHeld := hHeld2
          clear hHeld2
          refine wpAnyH_ready (rs := [1, 5]) (by kernel_rfl) (by simp) ?_
          refine AllReadyH.cons (by simp only [List.getElem?_toArray, List.getElem?_cons_succ, List.getElem?_cons_zero]; rfl) (fun K hK => ?_) ?_
          · go_simp
            refine hK.out _ _ trivial (fun hHeld2 => ?_)
            clear hK K
            try simp only [Act.put, List.setIfInBounds_toArray, List.set_cons_zero, List.set_cons_succ]
            clear hHeld
            have hHeld := hHeld2
            clear hHeld2
            refine wpAnyH_ready (rs := [5]) (by kernel_rfl) (by simp) ?_
            refine AllReadyH.cons (by simp only [List.getElem?_toArray, List.getElem?_cons_succ, List.getElem?_cons_zero]; rfl) (fun K hK => ?_) AllReadyH.nil
            go_simp
            refine (dfNum fb rb (.slice (some ⟨g, o, none⟩) zs.length cap) zs _ _ _ _ 2 (by decide) (by decide) HL1.out.cq.fl).mono ?_
            rintro en wc2 ⟨b_, σt2, rfl, hN, hb1, hto⟩
            have T2 := Lib.hid hN
            have U2 := Lib.hid hb1
            obtain ⟨kt2, et2, hl⟩ := HL1.out.call AC.out hto
            have HL2 := Lib.hid hl
            have q6 := cell_blk HL2.out.cq.blk 3
            simp at q6
            clear hN hb1 hto hl
            go_wp2_with fail
            refine hK.out _ _ trivial (fun hHeld2 => ?_)
            clear hK K
            try simp only [Act.put, List.setIfInBounds_toArray, List.set_cons_zero, List.set_cons_succ]
            clear hHeld
            have hHeld := hHeld2
            clear hHeld2
            refine wpAnyH_ready (rs := [7]) (by kernel_rfl) (by simp) ?_
            refine AllReadyH.cons (by simp only [List.getElem?_toArray, List.getElem?_cons_succ, List.getElem?_cons_zero]; rfl) (fun K hK => ?_) AllReadyH.nil
            go_simp
            refine (dfNum fb rb (.slice (some ⟨g, o, none⟩) zs.length cap) zs _ _ _ _ 2 (by decide) (by decide) HL2.out.cq.fl).mono ?_
            rintro en wc3 ⟨c_, σt3, rfl, hN, hb1, hto⟩
            have T3 := Lib.hid hN
            have U3 := Lib.hid hb1
            obtain ⟨kt3, et3, hl⟩ := HL2.out.call AC.out hto
            have HL3 := Lib.hid hl
            have q6 := cell_blk HL3.out.cq.blk 3
            simp at q6
            clear hN hb1 hto hl
            go_wp2_with fail
            refine hK.out _ _ trivial (fun hHeld2 => ?_)
            clear hK K
            try simp only [Act.put, List.setIfInBounds_toArray, List.set_cons_zero, List.set_cons_succ]
            clear hHeld
            have hHeld := hHeld2
            clear hHeld2
            refine wpAnyH_take (i := 8) (v := ?_) (by simp only [List.getElem?_toArray, List.getElem?_cons_succ, List.getElem?_cons_zero]; rfl) (by kernel_rfl) (by kernel_rfl) (by kernel_rfl) (by exact fun _ _ _ h => h) (Or.inl ⟨by rfl, ?_⟩) (by assumption) ?_
            rotate_left 1
            · (intro w hSw; (try dsimp only at hSw); go_simp; try with_reducible rfl)
            try simp only [Act.put, List.setIfInBounds_toArray, List.set_cons_zero, List.set_cons_succ]
            refine wpAnyH_ready (rs := [9]) (by kernel_rfl) (by simp) ?_
            refine AllReadyH.cons (by simp only [List.getElem?_toArray, List.getElem?_cons_succ, List.getElem?_cons_zero]; rfl) (fun K hK => ?_) AllReadyH.nil
            go_simp
            have HLa := Lib.hid (HL3.out.idle ((Only.refl (fun _ => False) wc3).alloc (.cells #[.int .i64 a, .int .i64 b_, .int .i64 c_] 59)))
            have q6 := cell_blk HLa.out.cq.blk 3
            simp at q6
            refine hK.out _ _ trivial (fun hHeld2 => ?_)
            clear hK K
            try simp only [Act.put, List.setIfInBounds_toArray, List.set_cons_zero, List.set_cons_succ]
            clear hHeld
            have hHeld := hHeld2
            clear hHeld2
            refine wpAnyH_ready (rs := [10]) (by kernel_rfl) (by simp) ?_
            refine AllReadyH.cons (by simp only [List.getElem?_toArray, List.getElem?_cons_succ, List.getElem?_cons_zero]; rfl) (fun K hK => ?_) AllReadyH.nil
            (refine step_append_src rfl (.tmp 97) (.tmp 105) 23 rfl 59 i0 (.agg #[.int .i64 0, .int .i64 0, .int .i64 0]) 3 24 Tryz.underlying23 hi hz0 hz1 hz2 rfl (by decide) B (.slice at_ ts.length ct) ts.length (ts.flatMap cellsF) rfl (by exact HLa.out.rg) (by exact HLa.out.sz) (.slice (some ⟨wc3.heap.size, 0, none⟩) 1 1) 1 (cellsF ⟨a, b_, c_⟩) rfl (by exact Src.struct (w := wc3) (cellsF ⟨a, b_, c_⟩) rfl (by intro u hu; simp [cellsF] at hu; rcases hu with rfl | rfl | rfl <;> rfl) rfl) (by unfold maxLen; omega) (by omega) ?_; intro v' wz hown hgrow hnew; obtain ⟨av', cv', rfl, _, _⟩ := slice_of_owns hown)
            obtain ⟨hp, q6, f6⟩ := HLa.out.push AC.out hown hgrow
            have HP := Lib.hid hp
            clear hown hgrow hnew hp
            refine hK.out _ _ trivial (fun hHeld2 => ?_)
            clear hK K
            try simp only [Act.put, List.setIfInBounds_toArray, List.set_cons_zero, List.set_cons_succ]
            clear hHeld
            have hHeld := hHeld2
            clear hHeld2
            refine wpAnyH_take (i := 11) (v := ?_) (by simp only [List.getElem?_toArray, List.getElem?_cons_succ, List.getElem?_cons_zero]; rfl) (by kernel_rfl) (by kernel_rfl) (by kernel_rfl) (by exact fun _ _ _ h => h) (Or.inl ⟨by rfl, ?_⟩) (by assumption) ?_
            rotate_left 1
            · (intro w hSw; (try dsimp only at hSw); go_simp; try with_reducible rfl)
            try simp only [Act.put, List.setIfInBounds_toArray, List.set_cons_zero, List.set_cons_succ]
            refine wpAnyH_ready (rs := [12]) (by kernel_rfl) (by simp) ?_
            refine AllReadyH.cons (by simp only [List.getElem?_toArray, List.getElem?_cons_succ, List.getElem?_cons_zero]; rfl) (fun K hK => ?_) AllReadyH.nil
            go_simp
            refine hK.out _ _ trivial (fun hHeld2 => ?_)
            clear hK K
            try simp only [Act.put, List.setIfInBounds_toArray, List.set_cons_zero, List.set_cons_succ]
            clear hHeld
            have hHeld := hHeld2
            clear hHeld2
            refine wpAnyH_done (by kernel_rfl) ?_ _
            clear hHeld
            go_wp2_with (fail)
            clear q6 f6
            generalize wz.setCell ⟨cb, 3, none⟩ (.slice av' (ts.length + 1) cv') = wz' at *
            refine (dfMust fb rb (.slice (some ⟨g, o, none⟩) zs.length cap) zs _ _ _ _ 0 HP.out.cq.fl).mono ?_
            rintro en wd ⟨σd, rfl, hN, hto⟩
            obtain ⟨kd, ed, hl⟩ := HP.out.call AC.out hto
            have HLD := Lib.hid hl
            have TD := Lib.hid hN
            clear hN hto hl HP
            go_wp2
            go_roundw
            case rel =>
              exact ⟨ts ++ [⟨a, b_, c_⟩], σd, kd, ed, _, by simp, by simp; omega, HTO.out.more HLT.out (show Nx fieldP zs (.ok kk) ⟨a, b_, c_⟩ σd from T1.out.bind (T2.out.bind (T3.out.bind (TD.out.bind (Nx.ret _ _ _))))), HLD.out, fun t ht => by
                rcases List.mem_append.1 ht with ht | ht
                · exact HTR.out t ht
                · simp only [List.mem_cons, List.mem_nil_iff, or_false] at ht
                  subst ht
                  exact ⟨i64_short U1.out, i64_short U2.out, i64_short U3.out⟩⟩
            case measure => simp [intOf]; omega
          refine AllReadyH.cons (by simp only [List.getElem?_toArray, List.getElem?_cons_succ, List.getElem?_cons_zero]; rfl) (fun K hK => ?_) AllReadyH.nil
          go_simp
          refine (dfNum fb rb (.slice (some ⟨g, o, none⟩) zs.length cap) zs _ _ _ _ 2 (by decide) (by decide) HL1.out.cq.fl).mono ?_
          rintro en wc2 ⟨b_, σt2, rfl, hN, hb1, hto⟩
          have T2 := Lib.hid hN
          have U2 := Lib.hid hb1
          obtain ⟨kt2, et2, hl⟩ := HL1.out.call AC.out hto
          have HL2 := Lib.hid hl
          have q6 := cell_blk HL2.out.cq.blk 3
          simp at q6
          clear hN hb1 hto hl
          go_wp2_with fail
          refine hK.out _ _ trivial (fun hHeld2 => ?_)
          clear hK K
          try simp only [Act.put, List.setIfInBounds_toArray, List.set_cons_zero, List.set_cons_succ]
          clear hHeld
          have hHeld := hHeld2
          clear hHeld2
          refine wpAnyH_ready (rs := [1, 7]) (by kernel_rfl) (by simp) ?_
          refine AllReadyH.cons (by simp only [List.getElem?_toArray, List.getElem?_cons_succ, List.getElem?_cons_zero]; rfl) (fun K hK => ?_) ?_
          · go_simp
            refine hK.out _ _ trivial (fun hHeld2 => ?_)
            clear hK K
            try simp only [Act.put, List.setIfInBounds_toArray, List.set_cons_zero, List.set_cons_succ]
            clear hHeld
            have hHeld := hHeld2
            clear hHeld2
            refine wpAnyH_ready (rs := [7]) (by kernel_rfl) (by simp) ?_
            refine AllReadyH.cons (by simp only [List.getElem?_toArray, List.getElem?_cons_succ, List.getElem?_cons_zero]; rfl) (fun K hK => ?_) AllReadyH.nil
            go_simp
            refine (dfNum fb rb (.slice (some ⟨g, o, none⟩) zs.length cap) zs _ _ _ _ 2 (by decide) (by decide) HL2.out.cq.fl).mono ?_
            rintro en wc3 ⟨c_, σt3, rfl, hN, hb1, hto⟩
            have T3 := Lib.hid hN
            have U3 := Lib.hid hb1
            obtain ⟨kt3, et3, hl⟩ := HL2.out.call AC.out hto
            have HL3 := Lib.hid hl
            have q6 := cell_blk HL3.out.cq.blk 3
            simp at q6
            clear hN hb1 hto hl
            go_wp2_with fail
            refine hK.out _ _ trivial (fun hHeld2 => ?_)
            clear hK K
            try simp only [Act.put, List.setIfInBounds_toArray, List.set_cons_zero, List.set_cons_succ]
            clear hHeld
            have hHeld := hHeld2
            clear hHeld2
            refine wpAnyH_take (i := 8) (v := ?_) (by simp only [List.getElem?_toArray, List.getElem?_cons_succ, List.getElem?_cons_zero]; rfl) (by kernel_rfl) (by kernel_rfl) (by kernel_rfl) (by exact fun _ _ _ h => h) (Or.inl ⟨by rfl, ?_⟩) (by assumption) ?_
            rotate_left 1
            · (intro w hSw; (try dsimp only at hSw); go_simp; try with_reducible rfl)
            try simp only [Act.put, List.setIfInBounds_toArray, List.set_cons_zero, List.set_cons_succ]
            refine wpAnyH_ready (rs := [9]) (by kernel_rfl) (by simp) ?_
            refine AllReadyH.cons (by simp only [List.getElem?_toArray, List.getElem?_cons_succ, List.getElem?_cons_zero]; rfl) (fun K hK => ?_) AllReadyH.nil
            go_simp
            have HLa := Lib.hid (HL3.out.idle ((Only.refl (fun _ => False) wc3).alloc (.cells #[.int .i64 a, .int .i64 b_, .int .i64 c_] 59)))
            have q6 := cell_blk HLa.out.cq.blk 3
            simp at q6
            refine hK.out _ _ trivial (fun hHeld2 => ?_)
            clear hK K
            try simp only [Act.put, List.setIfInBounds_toArray, List.set_cons_zero, List.set_cons_succ]
            clear hHeld
            have hHeld := hHeld2
            clear hHeld2
            refine wpAnyH_ready (rs := [10]) (by kernel_rfl) (by simp) ?_
            refine AllReadyH.cons (by simp only [List.getElem?_toArray, List.getElem?_cons_succ, List.getElem?_cons_zero]; rfl) (fun K hK => ?_) AllReadyH.nil
            (refine step_append_src rfl (.tmp 97) (.tmp 105) 23 rfl 59 i0 (.agg #[.int .i64 0, .int .i64 0, .int .i64 0]) 3 24 Tryz.underlying23 hi hz0 hz1 hz2 rfl (by decide) B (.slice at_ ts.length ct) ts.length (ts.flatMap cellsF) rfl (by exact HLa.out.rg) (by exact HLa.out.sz) (.slice (some ⟨wc3.heap.size, 0, none⟩) 1 1) 1 (cellsF ⟨a, b_, c_⟩) rfl (by exact Src.struct (w := wc3) (cellsF ⟨a, b_, c_⟩) rfl (by intro u hu; simp [cellsF] at hu; rcases hu with rfl | rfl | rfl <;> rfl) rfl) (by unfold maxLen; omega) (by omega) ?_; intro v' wz hown hgrow hnew; obtain ⟨av', cv', rfl, _, _⟩ := slice_of_owns hown)
            obtain ⟨hp, q6, f6⟩ := HLa.out.push AC.out hown hgrow
            have HP := Lib.hid hp
            clear hown hgrow hnew hp
            refine hK.out _ _ trivial (fun hHeld2 => ?_)
            clear hK K
            try simp only [Act.put, List.setIfInBounds_toArray, List.set_cons_zero, List.set_cons_succ]
            clear hHeld
            have hHeld := hHeld2
            clear hHeld2
            refine wpAnyH_take (i := 11) (v := ?_) (by simp only [List.getElem?_toArray, List.getElem?_cons_succ, List.getElem?_cons_zero]; rfl) (by kernel_rfl) (by kernel_rfl) (by kernel_rfl) (by exact fun _ _ _ h => h) (Or.inl ⟨by rfl, ?_⟩) (by assumption) ?_
            rotate_left 1
            · (intro w hSw; (try dsimp only at hSw); go_simp; try with_reducible rfl)
            try simp only [Act.put, List.setIfInBounds_toArray, List.set_cons_zero, List.set_cons_succ]
            refine wpAnyH_ready (rs := [12]) (by kernel_rfl) (by simp) ?_
            refine AllReadyH.cons (by simp only [List.getElem?_toArray, List.getElem?_cons_succ, List.getElem?_cons_zero]; rfl) (fun K hK => ?_) AllReadyH.nil
            go_simp
            refine hK.out _ _ trivial (fun hHeld2 => ?_)
            clear hK K
            try simp only [Act.put, List.setIfInBounds_toArray, List.set_cons_zero, List.set_cons_succ]
            clear hHeld
            have hHeld := hHeld2
            clear hHeld2
            refine wpAnyH_done (by kernel_rfl) ?_ _
            clear hHeld
            go_wp2_with (fail)
            clear q6 f6
            generalize wz.setCell ⟨cb, 3, none⟩ (.slice av' (ts.length + 1) cv') = wz' at *
            refine (dfMust fb rb (.slice (some ⟨g, o, none⟩) zs.length cap) zs _ _ _ _ 0 HP.out.cq.fl).mono ?_
            rintro en wd ⟨σd, rfl, hN, hto⟩
            obtain ⟨kd, ed, hl⟩ := HP.out.call AC.out hto
            have HLD := Lib.hid hl
            have TD := Lib.hid hN
            clear hN hto hl HP
            go_wp2
            go_roundw
            case rel =>
              exact ⟨ts ++ [⟨a, b_, c_⟩], σd, kd, ed, _, by simp, by simp; omega, HTO.out.more HLT.out (show Nx fieldP zs (.ok kk) ⟨a, b_, c_⟩ σd from T1.out.bind (T2.out.bind (T3.out.bind (TD.out.bind (Nx.ret _ _ _))))), HLD.out, fun t ht => by
                rcases List.mem_append.1 ht with ht | ht
                · exact HTR.out t ht
                · simp only [List.mem_cons, List.mem_nil_iff, or_false] at ht
                  subst ht
                  exact ⟨i64_short U1.out, i64_short U2.out, i64_short U3.out⟩⟩
            case measure => simp [intOf]; omega
          refine AllReadyH.cons (by simp only [List.getElem?_toArray, List.getElem?_cons_succ, List.getElem?_cons_zero]; rfl) (fun K hK => ?_) AllReadyH.nil
          go_simp
          refine (dfNum fb rb (.slice (some ⟨g, o, none⟩) zs.length cap) zs _ _ _ _ 2 (by decide) (by decide) HL2.out.cq.fl).mono ?_
          rintro en wc3 ⟨c_, σt3, rfl, hN, hb1, hto⟩
          have T3 := Lib.hid hN
          have U3 := Lib.hid hb1
          obtain ⟨kt3, et3, hl⟩ := HL2.out.call AC.out hto
          have HL3 := Lib.hid hl
          have q6 := cell_blk HL3.out.cq.blk 3
          simp at q6
          clear hN hb1 hto hl
          go_wp2_with fail
          refine hK.out _ _ trivial (fun hHeld2 => ?_)
          clear hK K
          try simp only [Act.put, List.setIfInBounds_toArray, List.set_cons_zero, List.set_cons_succ]
          clear hHeld
          have hHeld := hHeld2
          clear hHeld2
          refine wpAnyH_take (i := 8) (v := ?_) (by simp only [List.getElem?_toArray, List.getElem?_cons_succ, List.getElem?_cons_zero]; rfl) (by kernel_rfl) (by kernel_rfl) (by kernel_rfl) (by exact fun _ _ _ h => h) (Or.inl ⟨by rfl, ?_⟩) (by assumption) ?_
          rotate_left 1
          · (intro w hSw; (try dsimp only at hSw); go_simp; try with_reducible rfl)
          try simp only [Act.put, List.setIfInBounds_toArray, List.set_cons_zero, List.set_cons_succ]
          refine wpAnyH_ready (rs := [1, 9]) (by kernel_rfl) (by simp) ?_
          refine AllReadyH.cons (by simp only [List.getElem?_toArray, List.getElem?_cons_succ, List.getElem?_cons_zero]; rfl) (fun K hK => ?_) ?_
          · go_simp
            refine hK.out _ _ trivial (fun hHeld2 => ?_)
            clear hK K
            try simp only [Act.put, List.setIfInBounds_toArray, List.set_cons_zero, List.set_cons_succ]
            clear hHeld
            have hHeld := hHeld2
            clear hHeld2
            refine wpAnyH_ready (rs := [9]) (by kernel_rfl) (by simp) ?_
            refine AllReadyH.cons (by simp only [List.getElem?_toArray, List.getElem?_cons_succ, List.getElem?_cons_zero]; rfl) (fun K hK => ?_) AllReadyH.nil
            go_simp
            have HLa := Lib.hid (HL3.out.idle ((Only.refl (fun _ => False) wc3).alloc (.cells #[.int .i64 a, .int .i64 b_, .int .i64 c_] 59)))
            have q6 := cell_blk HLa.out.cq.blk 3
            simp at q6
            refine hK.out _ _ trivial (fun hHeld2 => ?_)
            clear hK K
            try simp only [Act.put, List.setIfInBounds_toArray, List.set_cons_zero, List.set_cons_succ]
            clear hHeld
            have hHeld := hHeld2
            clear hHeld2
            refine wpAnyH_ready (rs := [10]) (by kernel_rfl) (by simp) ?_
            refine AllReadyH.cons (by simp only [List.getElem?_toArray, List.getElem?_cons_succ, List.getElem?_cons_zero]; rfl) (fun K hK => ?_) AllReadyH.nil
            (refine step_append_src rfl (.tmp 97) (.tmp 105) 23 rfl 59 i0 (.agg #[.int .i64 0, .int .i64 0, .int .i64 0]) 3 24 Tryz.underlying23 hi hz0 hz1 hz2 rfl (by decide) B (.slice at_ ts.length ct) ts.length (ts.flatMap cellsF) rfl (by exact HLa.out.rg) (by exact HLa.out.sz) (.slice (some ⟨wc3.heap.size, 0, none⟩) 1 1) 1 (cellsF ⟨a, b_, c_⟩) rfl (by exact Src.struct (w := wc3) (cellsF ⟨a, b_, c_⟩) rfl (by intro u hu; simp [cellsF] at hu; rcases hu with rfl | rfl | rfl <;> rfl) rfl) (by unfold maxLen; omega) (by omega) ?_; intro v' wz hown hgrow hnew; obtain ⟨av', cv', rfl, _, _⟩ := slice_of_owns hown)
            obtain ⟨hp, q6, f6⟩ := HLa.out.push AC.out hown hgrow
            have HP := Lib.hid hp
            clear hown hgrow hnew hp
            refine hK.out _ _ trivial (fun hHeld2 => ?_)
            clear hK K
            try simp only [Act.put, List.setIfInBounds_toArray, List.set_cons_zero, List.set_cons_succ]
            clear hHeld
            have hHeld := hHeld2
            clear hHeld2
            refine wpAnyH_take (i := 11) (v := ?_) (by simp only [List.getElem?_toArray, List.getElem?_cons_succ, List.getElem?_cons_zero]; rfl) (by kernel_rfl) (by kernel_rfl) (by kernel_rfl) (by exact fun _ _ _ h => h) (Or.inl ⟨by rfl, ?_⟩) (by assumption) ?_
            rotate_left 1
            · (intro w hSw; (try dsimp only at hSw); go_simp; try with_reducible rfl)
            try simp only [Act.put, List.setIfInBounds_toArray, List.set_cons_zero, List.set_cons_succ]
            refine wpAnyH_ready (rs := [12]) (by kernel_rfl) (by simp) ?_
            refine AllReadyH.cons (by simp only [List.getElem?_toArray, List.getElem?_cons_succ, List.getElem?_cons_zero]; rfl) (fun K hK => ?_) AllReadyH.nil
            go_simp
            refine hK.out _ _ trivial (fun hHeld2 => ?_)
            clear hK K
            try simp only [Act.put, List.setIfInBounds_toArray, List.set_cons_zero, List.set_cons_succ]
            clear hHeld
            have hHeld := hHeld2
            clear hHeld2
            refine wpAnyH_done (by kernel_rfl) ?_ _
            clear hHeld
            go_wp2_with (fail)
            clear q6 f6
            generalize wz.setCell ⟨cb, 3, none⟩ (.slice av' (ts.length + 1) cv') = wz' at *
            refine (dfMust fb rb (.slice (some ⟨g, o, none⟩) zs.length cap) zs _ _ _ _ 0 HP.out.cq.fl).mono ?_
            rintro en wd ⟨σd, rfl, hN, hto⟩
            obtain ⟨kd, ed, hl⟩ := HP.out.call AC.out hto
            have HLD := Lib.hid hl
            have TD := Lib.hid hN
            clear hN hto hl HP
            go_wp2
            go_roundw
            case rel =>
              exact ⟨ts ++ [⟨a, b_, c_⟩], σd, kd, ed, _, by simp, by simp; omega, HTO.out.more HLT.out (show Nx fieldP zs (.ok kk) ⟨a, b_, c_⟩ σd from T1.out.bind (T2.out.bind (T3.out.bind (TD.out.bind (Nx.ret _ _ _))))), HLD.out, fun t ht => by
                rcases List.mem_append.1 ht with ht | ht
                · exact HTR.out t ht
                · simp only [List.mem_cons, List.mem_nil_iff, or_false] at ht
                  subst ht
                  exact ⟨i64_short U1.out, i64_short U2.out, i64_short U3.out⟩⟩
            case measure => simp [intOf]; omega
          refine AllReadyH.cons (by simp only [List.getElem?_toArray, List.getElem?_cons_succ, List.getElem?_cons_zero]; rfl) (fun K hK => ?_) AllReadyH.nil
          go_simp
          have HLa := Lib.hid (HL3.out.idle ((Only.refl (fun _ => False) wc3).alloc (.cells #[.int .i64 a, .int .i64 b_, .int .i64 c_] 59)))
          have q6 := cell_blk HLa.out.cq.blk 3
          simp at q6
          refine hK.out _ _ trivial (fun hHeld2 => ?_)
          clear hK K
          try simp only [Act.put, List.setIfInBounds_toArray, List.set_cons_zero, List.set_cons_succ]
          clear hHeld
          have hHeld := hHeld2
          clear hHeld2
          refine wpAnyH_ready (rs := [1]) (by kernel_rfl) (by simp) ?_
          refine AllReadyH.cons (by simp only [List.getElem?_toArray, List.getElem?_cons_succ, List.getElem?_cons_zero]; rfl) (fun K hK => ?_) AllReadyH.nil
          go_simp
          refine hK.out _ _ trivial (fun hHeld2 => ?_)
          clear hK K
          try simp only [Act.put, List.setIfInBounds_toArray, List.set_cons_zero, List.set_cons_succ]
          clear hHeld
          have hHeld := hHeld2
          clear hHeld2
          refine wpAnyH_ready (rs := [10]) (by kernel_rfl) (by simp) ?_
          refine AllReadyH.cons (by simp only [List.getElem?_toArray, List.getElem?_cons_succ, List.getElem?_cons_zero]; rfl) (fun K hK => ?_) AllReadyH.nil
          (refine step_append_src rfl (.tmp 97) (.tmp 105) 23 rfl 59 i0 (.agg #[.int .i64 0, .int .i64 0, .int .i64 0]) 3 24 Tryz.underlying23 hi hz0 hz1 hz2 rfl (by decide) B (.slice at_ ts.length ct) ts.length (ts.flatMap cellsF) rfl (by exact HLa.out.rg) (by exact HLa.out.sz) (.slice (some ⟨wc3.heap.size, 0, none⟩) 1 1) 1 (cellsF ⟨a, b_, c_⟩) rfl (by exact Src.struct (w := wc3) (cellsF ⟨a, b_, c_⟩) rfl (by intro u hu; simp [cellsF] at hu; rcases hu with rfl | rfl | rfl <;> rfl) rfl) (by unfold maxLen; omega) (by omega) ?_; intro v' wz hown hgrow hnew; obtain ⟨av', cv', rfl, _, _⟩ := slice_of_owns hown)
          obtain ⟨hp, q6, f6⟩ := HLa.out.push AC.out hown hgrow
          have HP := Lib.hid hp
          clear hown hgrow hnew hp
          refine hK.out _ _ trivial (fun hHeld2 => ?_)
          clear hK K
          try simp only [Act.put, List.setIfInBounds_toArray, List.set_cons_zero, List.set_cons_succ]
          clear hHeld
          have hHeld := hHeld2
          clear hHeld2
          refine wpAnyH_take (i := 11) (v := ?_) (by simp only [List.getElem?_toArray, List.getElem?_cons_succ, List.getElem?_cons_zero]; rfl) (by kernel_rfl) (by kernel_rfl) (by kernel_rfl) (by exact fun _ _ _ h => h) (Or.inl ⟨by rfl, ?_⟩) (by assumption) ?_
          rotate_left 1
          · (intro w hSw; (try dsimp only at hSw); go_simp; try with_reducible rfl)
          try simp only [Act.put, List.setIfInBounds_toArray, List.set_cons_zero, List.set_cons_succ]
          refine wpAnyH_ready (rs := [12]) (by kernel_rfl) (by simp) ?_
          refine AllReadyH.cons (by simp only [List.getElem?_toArray, List.getElem?_cons_succ, List.getElem?_cons_zero]; rfl) (fun K hK => ?_) AllReadyH.nil
          go_simp
          refine hK.out _ _ trivial (fun hHeld2 => ?_)
          clear hK K
          try simp only [Act.put, List.setIfInBounds_toArray, List.set_cons_zero, List.set_cons_succ]
          clear hHeld
          have hHeld := hHeld2
          clear hHeld2
          refine wpAnyH_done (by kernel_rfl) ?_ _
          clear hHeld
          go_wp2_with (fail)
          clear q6 f6
          generalize wz.setCell ⟨cb, 3, none⟩ (.slice av' (ts.length + 1) cv') = wz' at *
          refine (dfMust fb rb (.slice (some ⟨g, o, none⟩) zs.length cap) zs _ _ _ _ 0 HP.out.cq.fl).mono ?_
          rintro en wd ⟨σd, rfl, hN, hto⟩
          obtain ⟨kd, ed, hl⟩ := HP.out.call AC.out hto
          have HLD := Lib.hid hl
          have TD := Lib.hid hN
          clear hN hto hl HP
          go_wp2
          go_roundw
          case rel =>
            exact ⟨ts ++ [⟨a, b_, c_⟩], σd, kd, ed, _, by simp, by simp; omega, HTO.out.more HLT.out (show Nx fieldP zs (.ok kk) ⟨a, b_, c_⟩ σd from T1.out.bind (T2.out.bind (T3.out.bind (TD.out.bind (Nx.ret _ _ _))))), HLD.out, fun t ht => by
              rcases List.mem_append.1 ht with ht | ht
              · exact HTR.out t ht
              · simp only [List.mem_cons, List.mem_nil_iff, or_false] at ht
                subst ht
                exact ⟨i64_short U1.out, i64_short U2.out, i64_short U3.out⟩⟩
          case measure => simp [intOf]; omega
        | error y =>
          have hyy := hl.cq.fl.e_no
          obtain ⟨rfl, hy⟩ := hyy
          have hyb : (ej == 0) = false := by simpa using hy
          have HNF := Lib.hid (HTO.out.done (.inl ⟨_, rfl⟩))
          clear hl hy HTO
          clear hi hz0 hz1 hz2
          go_wp2_with (fail)
          clear q1
          refine (dfCount fb rb (.slice (some ⟨g, o, none⟩) zs.length cap) zs _ _ _ _ 2 (.inl rfl) 64 (by decide) HL.out.cq.fl).mono ?_
          rintro en w14 ⟨nm, σ14, rfl, hN, hb1, hto⟩
          obtain ⟨mm, rfl⟩ : ∃ mm : Nat, nm = mm := ⟨nm.toNat, by omega⟩
          have HN14 := Lib.hid hN
          have mm1 := hb1.2
          obtain ⟨k14, e14, hm⟩ := HL.out.call AC.out hto
          have H14 := Lib.hid (show GQ w w14 fb rb cb B (.slice (some ⟨g, o, none⟩) zs.length cap) (.slice ap np cp) zs cs σ14 k14 e14 th su (.slice at_ ts.length ct) ts (.slice none 0 0) [] from ⟨hm.cq, hm.rg, RowG.nil _ _, fun x hx => (by cases hx), fun j _ e => (by cases e), hm.sz⟩)
          clear hN hb1 hto hm HL
          obtain ⟨i0, hi, hz0, hz1, hz2⟩ := info_parts info_method
          go_wp2
          go_loopw [10] (fun i wr2 => ∃ (xs : List (MethodV × Value × Value × Value)) (σj : StZ) (kj : Nat) (ej : Int) (vt : Value), i = .int .i64 xs.length ∧ xs.length ≤ mm ∧ ListS (methodP cs) mm zs σ14 (xs.map (·.1)) σj ∧ GQ w wr2 fb rb cb B (.slice (some ⟨g, o, none⟩) zs.length cap) (.slice ap np cp) zs cs σj kj ej th su (.slice at_ ts.length ct) ts vt xs) (fun i _ => mm - (intOf i).toNat)
          case atStart => exact ⟨[], σ14, k14, e14, _, rfl, Nat.zero_le _, ListS.start, H14.out⟩
          case round =>
            obtain ⟨xs, σm, km, em, vt2, rfl, hle2, hto, hl⟩ := hrel
            obtain ⟨am_, cm_, rfl, _, _⟩ := slice_of_owns hl.rg
            have HTO := Lib.hid hto
            have HL := Lib.hid hl
            have q1 := cell_blk hl.cq.fl.blk 1
            simp at q1
            clear hto H14
            by_cases hlt2 : xs.length < mm
            · have hltz2 : (xs.length : Int) < (mm : Int) := by omega
              cases σm with
              | ok kk =>
                have hkk := hl.cq.fl.e_ok
                have HLT := Lib.hid hlt2
                obtain ⟨_, rfl⟩ := hkk
                have HL0 := Lib.hid (HL.out.idle (Only.refl (fun _ => False) _).drew)
                have q6 := cell_blk HL0.out.cq.blk 4
                simp at q6
                clear HL hl
                go_wp2_with (fail)
                refine wp_region_held_drew (S := fun _ => True) (by kernel_rfl) trivial (fun hHeld => ?_)
                refine wpAnyH_take (i := 0) (v := ?_) (by simp only [List.getElem?_toArray, List.getElem?_cons_succ, List.getElem?_cons_zero]; rfl) (by kernel_rfl) (by kernel_rfl) (by kernel_rfl) (by exact fun _ _ _ h => h) (Or.inl ⟨by rfl, ?_⟩) (by assumption) ?_
                rotate_left 1
                · (intro w hSw; (try dsimp only at hSw); go_simp; try with_reducible rfl)
                try simp only [Act.put, List.setIfInBounds_toArray, List.set_cons_zero, List.set_cons_succ]
                refine wpAnyH_take (i := 2) (v := ?_) (by simp only [List.getElem?_toArray, List.getElem?_cons_succ, List.getElem?_cons_zero]; rfl) (by kernel_rfl) (by kernel_rfl) (by kernel_rfl) (by exact fun _ _ _ h => h) (Or.inl ⟨by rfl, ?_⟩) (by assumption) ?_
                rotate_left 1
                · (intro w hSw; (try dsimp only at hSw); go_simp; try with_reducible rfl)
                try simp only [Act.put, List.setIfInBounds_toArray, List.set_cons_zero, List.set_cons_succ]
                refine wpAnyH_take (i := 3) (v := ?_) (by simp only [List.getElem?_toArray, List.getElem?_cons_succ, List.getElem?_cons_zero]; rfl) (by kernel_rfl) (by kernel_rfl) (by kernel_rfl) (by exact fun _ _ _ h => h) (Or.inl ⟨by rfl, ?_⟩) (by assumption) ?_
                rotate_left 1
                · (intro w hSw; (try dsimp only at hSw); go_simp; try with_reducible rfl)
                try simp only [Act.put, List.setIfInBounds_toArray, List.set_cons_zero, List.set_cons_succ]
                refine wpAnyH_ready (rs := [1, 4]) (by kernel_rfl) (by simp) ?_
                refine AllReadyH.cons (by simp only [List.getElem?_toArray, List.getElem?_cons_succ, List.getElem?_cons_zero]; rfl) (fun K hK => ?_) ?_
                · go_simp
                  refine hK.out _ _ trivial (fun hHeld2 => ?_)
                  clear hK K
                  try simp only [Act.put, List.setIfInBounds_toArray, List.set_cons_zero, List.set_cons_succ]
                  clear hHeld
                  have hHeld := hHeld2
                  clear hHeld2
                  refine wpAnyH_ready (rs := [4]) (by kernel_rfl) (by simp) ?_
                  refine AllReadyH.cons (by simp only [List.getElem?_toArray, List.getElem?_cons_succ, List.getElem?_cons_zero]; rfl) (fun K hK => ?_) AllReadyH.nil
                  go_simp
                  refine (dfMethod fb rb (.slice (some ⟨g, o, none⟩) zs.length cap) zs _ _ _ _ ap np cp cs HL0.out.cq.pool (fun j hj => ⟨Nat.lt_of_lt_of_le (AC.out.pn j hj).2.1 HL0.out.sz, by have := AC.out.pn j hj; omega⟩) HL0.out.cq.fl).mono ?_
                  rintro en wc1 ⟨mt, vc, vtt, vmm, σt1, rfl, hN, hto, hin, hmr⟩
                  have T1 := Lib.hid hN
                  obtain ⟨kt1, et1, hl⟩ := HL0.out.call AC.out hto
                  have HL1 := Lib.hid hl
                  obtain ⟨ac, cc, rfl, _, _⟩ := slice_of_owns hin.code
                  obtain ⟨at2, ct2, rfl, _, _⟩ := slice_of_owns hin.traps
                  obtain ⟨am, cm, rfl, _, _⟩ := slice_of_owns hin.maps
                  have HMT := Lib.hid (show MethodR mt ∧ MIn wc1 B mt (.slice ac mt.code.length cc) (.slice at2 mt.traps.length ct2) (.slice am mt.maps.length cm) ∧ Off (.slice am_ xs.length cm_) (.slice ac mt.code.length cc) (.slice at2 mt.traps.length ct2) (.slice am mt.maps.length cm) from
                    ⟨hmr, hin.base HL0.out.sz, ⟨fun j hj e => by have h1 := (hin.code.ge j hj).1; have h2 := (RowG.ge HL0.out.rg j e).2; omega, fun j hj e => by have h1 := (RowG.ge hin.traps j hj).1; have h2 := (RowG.ge HL0.out.rg j e).2; omega, fun j hj e => by have h1 := (hin.maps.ge j hj).1; have h2 := (RowG.ge HL0.out.rg j e).2; omega⟩⟩)
                  have q6 := cell_blk HL1.out.cq.blk 4
                  simp at q6
                  clear hN hto hl hin hmr
                  go_wp2_with fail
                  refine hK.out _ _ trivial (fun hHeld2 => ?_)
                  clear hK K
                  try simp only [Act.put, List.setIfInBounds_toArray, List.set_cons_zero, List.set_cons_succ]
                  clear hHeld
                  have hHeld := hHeld2
                  clear hHeld2
                  refine wpAnyH_ready (rs := [5]) (by kernel_rfl) (by simp) ?_
                  refine AllReadyH.cons (by simp only [List.getElem?_toArray, List.getElem?_cons_succ, List.getElem?_cons_zero]; rfl) (fun K hK => ?_) AllReadyH.nil
                  go_simp
                  have HLa := Lib.hid (HL1.out.idle ((Only.refl (fun _ => False) wc1).alloc (.cells #[.int .i64 mt.flags, .int .i64 mt.name, .int .i64 mt.desc, .int .i64 mt.stack, .int .i64 mt.locals, .slice ac mt.code.length cc, .slice at2 mt.traps.length ct2, .slice am mt.maps.length cm] 62)))
                  have HMa := Lib.hid (And.intro HMT.out.1 (And.intro (HMT.out.2.1.keep ((Only.refl (fun _ => False) wc1).alloc (.cells #[.int .i64 mt.flags, .int .i64 mt.name, .int .i64 mt.desc, .int .i64 mt.stack, .int .i64 mt.locals, .slice ac mt.code.length cc, .slice at2 mt.traps.length ct2, .slice am mt.maps.length cm] 62)) (fun j hj => hj.elim)) HMT.out.2.2))
                  have q6 := cell_blk HLa.out.cq.blk 4
                  simp at q6
                  refine hK.out _ _ trivial (fun hHeld2 => ?_)
                  clear hK K
                  try simp only [Act.put, List.setIfInBounds_toArray, List.set_cons_zero, List.set_cons_succ]
                  clear hHeld
                  have hHeld := hHeld2
                  clear hHeld2
                  refine wpAnyH_ready (rs := [6]) (by kernel_rfl) (by simp) ?_
                  refine AllReadyH.cons (by simp only [List.getElem?_toArray, List.getElem?_cons_succ, List.getElem?_cons_zero]; rfl) (fun K hK => ?_) AllReadyH.nil
                  (refine step_append_src rfl (.tmp 125) (.tmp 129) 24 rfl 62 i0 (.agg #[.int .i64 0, .int .i64 0, .int .i64 0, .int .i64 0, .int .i64 0, .slice none 0 0, .slice none 0 0, .slice none 0 0]) 8 112 Tryz.underlying24 hi hz0 hz1 hz2 rfl (by decide) B (.slice am_ xs.length cm_) xs.length (xs.flatMap cellsM) rfl (by exact HLa.out.rg) (by exact HLa.out.sz) (.slice (some ⟨wc1.heap.size, 0, none⟩) 1 1) 1 (cellsM (mt, .slice ac mt.code.length cc, .slice at2 mt.traps.length ct2, .slice am mt.maps.length cm)) rfl (by exact Src.struct (w := wc1) (cellsM (mt, .slice ac mt.code.length cc, .slice at2 mt.traps.length ct2, .slice am mt.maps.length cm)) rfl (by intro u hu; simp [cellsM] at hu; rcases hu with rfl | rfl | rfl | rfl | rfl | rfl | rfl | rfl <;> rfl) rfl) (by unfold maxLen; omega) (by omega) ?_; intro v' wz hown hgrow hnew; obtain ⟨av', cv', rfl, _, _⟩ := slice_of_owns hown)
                  obtain ⟨hp, q6, f6⟩ := HLa.out.push AC.out HMa.out hown hgrow hnew
                  have HP := Lib.hid hp
                  clear hown hgrow hnew hp
                  refine hK.out _ _ trivial (fun hHeld2 => ?_)
                  clear hK K
                  try simp only [Act.put, List.setIfInBounds_toArray, List.set_cons_zero, List.set_cons_succ]
                  clear hHeld
                  have hHeld := hHeld2
                  clear hHeld2
                  refine wpAnyH_take (i := 7) (v := ?_) (by simp only [List.getElem?_toArray, List.getElem?_cons_succ, List.getElem?_cons_zero]; rfl) (by kernel_rfl) (by kernel_rfl) (by kernel_rfl) (by exact fun _ _ _ h => h) (Or.inl ⟨by rfl, ?_⟩) (by assumption) ?_
                  rotate_left 1
                  · (intro w hSw; (try dsimp only at hSw); go_simp; try with_reducible rfl)
                  try simp only [Act.put, List.setIfInBounds_toArray, List.set_cons_zero, List.set_cons_succ]
                  refine wpAnyH_ready (rs := [8]) (by kernel_rfl) (by simp) ?_
                  refine AllReadyH.cons (by simp only [List.getElem?_toArray, List.getElem?_cons_succ, List.getElem?_cons_zero]; rfl) (fun K hK => ?_) AllReadyH.nil
                  go_simp
                  refine hK.out _ _ trivial (fun hHeld2 => ?_)
                  clear hK K
                  try simp only [Act.put, List.setIfInBounds_toArray, List.set_cons_zero, List.set_cons_succ]
                  clear hHeld
                  have hHeld := hHeld2
                  clear hHeld2
                  refine wpAnyH_done (by kernel_rfl) ?_ _
                  clear hHeld
                  go_wp2
                  go_roundw
                  case rel =>
                    exact ⟨xs ++ [(mt, .slice ac mt.code.length cc, .slice at2 mt.traps.length ct2, .slice am mt.maps.length cm)], σt1, kt1, et1, _, by simp, by simp; omega, by rw [List.map_append]; exact HTO.out.more (by simpa using HLT.out) T1.out, HP.out⟩
                  case measure => simp [intOf]; omega
                refine AllReadyH.cons (by simp only [List.getElem?_toArray, List.getElem?_cons_succ, List.getElem?_cons_zero]; rfl) (fun K hK => ?_) AllReadyH.nil
                go_simp
                refine (dfMethod fb rb (.slice (some ⟨g, o, none⟩) zs.length cap) zs _ _ _ _ ap np cp cs HL0.out.cq.pool (fun j hj => ⟨Nat.lt_of_lt_of_le (AC.out.pn j hj).2.1 HL0.out.sz, by have := AC.out.pn j hj; omega⟩) HL0.out.cq.fl).mono ?_
                rintro en wc1 ⟨mt, vc, vtt, vmm, σt1, rfl, hN, hto, hin, hmr⟩
                have T1 := Lib.hid hN
                obtain ⟨kt1, et1, hl⟩ := HL0.out.call AC.out hto
                have HL1 := Lib.hid hl
                obtain ⟨ac, cc, rfl, _, _⟩ := slice_of_owns hin.code
                obtain ⟨at2, ct2, rfl, _, _⟩ := slice_of_owns hin.traps
                obtain ⟨am, cm, rfl, _, _⟩ := slice_of_owns hin.maps
                have HMT := Lib.hid (show MethodR mt ∧ MIn wc1 B mt (.slice ac mt.code.length cc) (.slice at2 mt.traps.length ct2) (.slice am mt.maps.length cm) ∧ Off (.slice am_ xs.length cm_) (.slice ac mt.code.length cc) (.slice at2 mt.traps.length ct2) (.slice am mt.maps.length cm) from
                  ⟨hmr, hin.base HL0.out.sz, ⟨fun j hj e => by have h1 := (hin.code.ge j hj).1; have h2 := (RowG.ge HL0.out.rg j e).2; omega, fun j hj e => by have h1 := (RowG.ge hin.traps j hj).1; have h2 := (RowG.ge HL0.out.rg j e).2; omega, fun j hj e => by have h1 := (hin.maps.ge j hj).1; have h2 := (RowG.ge HL0.out.rg j e).2; omega⟩⟩)
                have q6 := cell_blk HL1.out.cq.blk 4
                simp at q6
                clear hN hto hl hin hmr
                go_wp2_with fail
                refine hK.out _ _ trivial (fun hHeld2 => ?_)
                clear hK K
                try simp only [Act.put, List.setIfInBounds_toArray, List.set_cons_zero, List.set_cons_succ]
                clear hHeld
                have hHeld := hHeld2
                clear hHeld2
                refine wpAnyH_ready (rs := [1, 5]) (by kernel_rfl) (by simp) ?_
                refine AllReadyH.cons (by simp only [List.getElem?_toArray, List.getElem?_cons_succ, List.getElem?_cons_zero]; rfl) (fun K hK => ?_) ?_
                · go_simp
                  refine hK.out _ _ trivial (fun hHeld2 => ?_)
                  clear hK K
                  try simp only [Act.put, List.setIfInBounds_toArray, List.set_cons_zero, List.set_cons_succ]
                  clear hHeld
                  have hHeld := hHeld2
                  clear hHeld2
                  refine wpAnyH_ready (rs := [5]) (by kernel_rfl) (by simp) ?_
                  refine AllReadyH.cons (by simp only [List.getElem?_toArray, List.getElem?_cons_succ, List.getElem?_cons_zero]; rfl) (fun K hK => ?_) AllReadyH.nil
                  go_simp
                  have HLa := Lib.hid (HL1.out.idle ((Only.refl (fun _ => False) wc1).alloc (.cells #[.int .i64 mt.flags, .int .i64 mt.name, .int .i64 mt.desc, .int .i64 mt.stack, .int .i64 mt.locals, .slice ac mt.code.length cc, .slice at2 mt.traps.length ct2, .slice am mt.maps.length cm] 62)))
                  have HMa := Lib.hid (And.intro HMT.out.1 (And.intro (HMT.out.2.1.keep ((Only.refl (fun _ => False) wc1).alloc (.cells #[.int .i64 mt.flags, .int .i64 mt.name, .int .i64 mt.desc, .int .i64 mt.stack, .int .i64 mt.locals, .slice ac mt.code.length cc, .slice at2 mt.traps.length ct2, .slice am mt.maps.length cm] 62)) (fun j hj => hj.elim)) HMT.out.2.2))
                  have q6 := cell_blk HLa.out.cq.blk 4
                  simp at q6
                  refine hK.out _ _ trivial (fun hHeld2 => ?_)
                  clear hK K
                  try simp only [Act.put, List.setIfInBounds_toArray, List.set_cons_zero, List.set_cons_succ]
                  clear hHeld
                  have hHeld := hHeld2
                  clear hHeld2
                  refine wpAnyH_ready (rs := [6]) (by kernel_rfl) (by simp) ?_
                  refine AllReadyH.cons (by simp only [List.getElem?_toArray, List.getElem?_cons_succ, List.getElem?_cons_zero]; rfl) (fun K hK => ?_) AllReadyH.nil
                  (refine step_append_src rfl (.tmp 125) (.tmp 129) 24 rfl 62 i0 (.agg #[.int .i64 0, .int .i64 0, .int .i64 0, .int .i64 0, .int .i64 0, .slice none 0 0, .slice none 0 0, .slice none 0 0]) 8 112 Tryz.underlying24 hi hz0 hz1 hz2 rfl (by decide) B (.slice am_ xs.length cm_) xs.length (xs.flatMap cellsM) rfl (by exact HLa.out.rg) (by exact HLa.out.sz) (.slice (some ⟨wc1.heap.size, 0, none⟩) 1 1) 1 (cellsM (mt, .slice ac mt.code.length cc, .slice at2 mt.traps.length ct2, .slice am mt.maps.length cm)) rfl (by exact Src.struct (w := wc1) (cellsM (mt, .slice ac mt.code.length cc, .slice at2 mt.traps.length ct2, .slice am mt.maps.length cm)) rfl (by intro u hu; simp [cellsM] at hu; rcases hu with rfl | rfl | rfl | rfl | rfl | rfl | rfl | rfl <;> rfl) rfl) (by unfold maxLen; omega) (by omega) ?_; intro v' wz hown hgrow hnew; obtain ⟨av', cv', rfl, _, _⟩ := slice_of_owns hown)
                  obtain ⟨hp, q6, f6⟩ := HLa.out.push AC.out HMa.out hown hgrow hnew
                  have HP := Lib.hid hp
                  clear hown hgrow hnew hp
                  refine hK.out _ _ trivial (fun hHeld2 => ?_)
                  clear hK K
                  try simp only [Act.put, List.setIfInBounds_toArray, List.set_cons_zero, List.set_cons_succ]
                  clear hHeld
                  have hHeld := hHeld2
                  clear hHeld2
                  refine wpAnyH_take (i := 7) (v := ?_) (by simp only [List.getElem?_toArray, List.getElem?_cons_succ, List.getElem?_cons_zero]; rfl) (by kernel_rfl) (by kernel_rfl) (by kernel_rfl) (by exact fun _ _ _ h => h) (Or.inl ⟨by rfl, ?_⟩) (by assumption) ?_
                  rotate_left 1
                  · (intro w hSw; (try dsimp only at hSw); go_simp; try with_reducible rfl)
                  try simp only [Act.put, List.setIfInBounds_toArray, List.set_cons_zero, List.set_cons_succ]
                  refine wpAnyH_ready (rs := [8]) (by kernel_rfl) (by simp) ?_
                  refine AllReadyH.cons (by simp only [List.getElem?_toArray, List.getElem?_cons_succ, List.getElem?_cons_zero]; rfl) (fun K hK => ?_) AllReadyH.nil
                  go_simp
                  refine hK.out _ _ trivial (fun hHeld2 => ?_)
                  clear hK K
                  try simp only [Act.put, List.setIfInBounds_toArray, List.set_cons_zero, List.set_cons_succ]
                  clear hHeld
                  have hHeld := hHeld2
                  clear hHeld2
                  refine wpAnyH_done (by kernel_rfl) ?_ _
                  clear hHeld
                  go_wp2
                  go_roundw
                  case rel =>
                    exact ⟨xs ++ [(mt, .slice ac mt.code.length cc, .slice at2 mt.traps.length ct2, .slice am mt.maps.length cm)], σt1, kt1, et1, _, by simp, by simp; omega, by rw [List.map_append]; exact HTO.out.more (by simpa using HLT.out) T1.out, HP.out⟩
                  case measure => simp [intOf]; omega
                refine AllReadyH.cons (by simp only [List.getElem?_toArray, List.getElem?_cons_succ, List.getElem?_cons_zero]; rfl) (fun K hK => ?_) AllReadyH.nil
                go_simp
                have HLa := Lib.hid (HL1.out.idle ((Only.refl (fun _ => False) wc1).alloc (.cells #[.int .i64 mt.flags, .int .i64 mt.name, .int .i64 mt.desc, .int .i64 mt.stack, .int .i64 mt.locals, .slice ac mt.code.length cc, .slice at2 mt.traps.length ct2, .slice am mt.maps.length cm] 62)))
                have HMa := Lib.hid (And.intro HMT.out.1 (And.intro (HMT.out.2.1.keep ((Only.refl (fun _ => False) wc1).alloc (.cells #[.int .i64 mt.flags, .int .i64 mt.name, .int .i64 mt.desc, .int .i64 mt.stack, .int .i64 mt.locals, .slice ac mt.code.length cc, .slice at2 mt.traps.length ct2, .slice am mt.maps.length cm] 62)) (fun j hj => hj.elim)) HMT.out.2.2))
                have q6 := cell_blk HLa.out.cq.blk 4
                simp at q6
                refine hK.out _ _ trivial (fun hHeld2 => ?_)
                clear hK K
                try simp only [Act.put, List.setIfInBounds_toArray, List.set_cons_zero, List.set_cons_succ]
                clear hHeld
                have hHeld := hHeld2
                clear hHeld2
                refine wpAnyH_ready (rs := [1]) (by kernel_rfl) (by simp) ?_
                refine AllReadyH.cons (by simp only [List.getElem?_toArray, List.getElem?_cons_succ, List.getElem?_cons_zero]; rfl) (fun K hK => ?_) AllReadyH.nil
                go_simp
                refine hK.out _ _ trivial (fun hHeld2 => ?_)
                clear hK K
                try simp only [Act.put, List.setIfInBounds_toArray, List.set_cons_zero, List.set_cons_succ]
                clear hHeld
                have hHeld := hHeld2
                clear hHeld2
                refine wpAnyH_ready (rs := [6]) (by kernel_rfl) (by simp) ?_
                refine AllReadyH.cons (by simp only [List.getElem?_toArray, List.getElem?_cons_succ, List.getElem?_cons_zero]; rfl) (fun K hK => ?_) AllReadyH.nil
                (refine step_append_src rfl (.tmp 125) (.tmp 129) 24 rfl 62 i0 (.agg #[.int .i64 0, .int .i64 0, .int .i64 0, .int .i64 0, .int .i64 0, .slice none 0 0, .slice none 0 0, .slice none 0 0]) 8 112 Tryz.underlying24 hi hz0 hz1 hz2 rfl (by decide) B (.slice am_ xs.length cm_) xs.length (xs.flatMap cellsM) rfl (by exact HLa.out.rg) (by exact HLa.out.sz) (.slice (some ⟨wc1.heap.size, 0, none⟩) 1 1) 1 (cellsM (mt, .slice ac mt.code.length cc, .slice at2 mt.traps.length ct2, .slice am mt.maps.length cm)) rfl (by exact Src.struct (w := wc1) (cellsM (mt, .slice ac mt.code.length cc, .slice at2 mt.traps.length ct2, .slice am mt.maps.length cm)) rfl (by intro u hu; simp [cellsM] at hu; rcases hu with rfl | rfl | rfl | rfl | rfl | rfl | rfl | rfl <;> rfl) rfl) (by unfold maxLen; omega) (by omega) ?_; intro v' wz hown hgrow hnew; obtain ⟨av', cv', rfl, _, _⟩ := slice_of_owns hown)
                obtain ⟨hp, q6, f6⟩ := HLa.out.push AC.out HMa.out hown hgrow hnew
                have HP := Lib.hid hp
                clear hown hgrow hnew hp
                refine hK.out _ _ trivial (fun hHeld2 => ?_)
                clear hK K
                try simp only [Act.put, List.setIfInBounds_toArray, List.set_cons_zero, List.set_cons_succ]
                clear hHeld
                have hHeld := hHeld2
                clear hHeld2
                refine wpAnyH_take (i := 7) (v := ?_) (by simp only [List.getElem?_toArray, List.getElem?_cons_succ, List.getElem?_cons_zero]; rfl) (by kernel_rfl) (by kernel_rfl) (by kernel_rfl) (by exact fun _ _ _ h => h) (Or.inl ⟨by rfl, ?_⟩) (by assumption) ?_
                rotate_left 1
                · (intro w hSw; (try dsimp only at hSw); go_simp; try with_reducible rfl)
                try simp only [Act.put, List.setIfInBounds_toArray, List.set_cons_zero, List.set_cons_succ]
                refine wpAnyH_ready (rs := [8]) (by kernel_rfl) (by simp) ?_
                refine AllReadyH.cons (by simp only [List.getElem?_toArray, List.getElem?_cons_succ, List.getElem?_cons_zero]; rfl) (fun K hK => ?_) AllReadyH.nil
                go_simp
                refine hK.out _ _ trivial (fun hHeld2 => ?_)
                clear hK K
                try simp only [Act.put, List.setIfInBounds_toArray, List.set_cons_zero, List.set_cons_succ]
                clear hHeld
                have hHeld := hHeld2
                clear hHeld2
                refine wpAnyH_done (by kernel_rfl) ?_ _
                clear hHeld
                go_wp2
                go_roundw
                case rel =>
                  exact ⟨xs ++ [(mt, .slice ac mt.code.length cc, .slice at2 mt.traps.length ct2, .slice am mt.maps.length cm)], σt1, kt1, et1, _, by simp, by simp; omega, by rw [List.map_append]; exact HTO.out.more (by simpa using HLT.out) T1.out, HP.out⟩
                case measure => simp [intOf]; omega
              | error y =>
                have hyy := hl.cq.fl.e_no
                obtain ⟨rfl, hy⟩ := hyy
                have hyb2 : (em == 0) = false := by simpa using hy
                have HNM := Lib.hid (HTO.out.done (.inl ⟨_, rfl⟩))
                clear hl hy HTO
                clear hi hz0 hz1 hz2
                go_wp2_with (fail)
                clear q1
                refine (dfMust fb rb (.slice (some ⟨g, o, none⟩) zs.length cap) zs _ _ _ _ 0 HL.out.cq.fl).mono ?_
                rintro en w15 ⟨σ15, rfl, hN, hto⟩
                have HN15 := Lib.hid hN
                obtain ⟨k15, e15, hm⟩ := HL.out.call AC.out hto
                have H15 := Lib.hid hm
                have HBODY := Lib.hid (show Nx (bodyP cs) zs (.ok (kh + m)) ⟨cs, th, su, ts, xs.map (·.1)⟩ σ15 from HN9.out.bind (HN10.out.bind (HN11.out.bind (HN12.out.bind (HN13.out.bind (HNF.out.bind (HN14.out.bind (HNM.out.bind (HN15.out.bind (Nx.ret _ _ _))))))))))
                clear hN hto hm HL HN9 HN10 HN11 HN12 HN13 HNF HN14 HNM HN15
                cases σ15 with
                | error y =>
                  have HF := Lib.hid H15.out.cq.fl
                  have hyn := H15.out.cq.fl.e_no
                  obtain ⟨rfl, hyn⟩ := hyn
                  have HNE := Lib.hid hyn
                  have HON := Lib.hid H15.out.cq.only
                  have HRES := Lib.hid H15.out.cq.res
                  have HDEC := Lib.hid (show DecC zs (.error e15) from dec_body HNH.out HD.out (by rw [show bodyP cs zs (kh + m) = .error e15 from HBODY.out]; rfl))
                  clear hyn H15
                  have q1 := cell_blk HF.out.blk 1
                  simp at q1
                  have hyb : (e15 != 0) = true := by first | decide | (have := HNE.out; simpa using this)
                  have hyc : (e15 == 0) = false := by first | decide | (have := HNE.out; simpa using this)
                  have hr := HRES.out
                  have d0 := cell_blk hr 0
                  have d1 := cell_blk hr 1
                  have d2 := cell_blk hr 2
                  have d3 := cell_blk hr 3
                  have d4 := cell_blk hr 4
                  have g0 := frozen_blk hr 0
                  have g1 := frozen_blk hr 1
                  have g2 := frozen_blk hr 2
                  have g3 := frozen_blk hr 3
                  have g4 := frozen_blk hr 4
                  simp at d0 d1 d2 d3 d4
                  have hne0 : w.heap.size ≠ fb := by have := HFN.out; omega
                  go_wp2_with (fail)
                  refine wp_region_held_drew (S := fun wc => wc.cell? ⟨fb, 1, none⟩ = some (.int .i64 e15)) (by kernel_rfl) q1 (fun hHeld => ?_)
                  refine wpAnyH_take (i := 0) (v := ?_) (by simp only [List.getElem?_toArray, List.getElem?_cons_succ, List.getElem?_cons_zero]; rfl) (by kernel_rfl) (by kernel_rfl) (by kernel_rfl) (by exact fun _ _ _ h => h) (Or.inl ⟨by rfl, ?_⟩) (by assumption) ?_
                  rotate_left 1
                  · (intro w hSw; (try dsimp only at hSw); go_simp; try with_reducible rfl)
                  try simp only [Act.put, List.setIfInBounds_toArray, List.set_cons_zero, List.set_cons_succ]
                  refine wpAnyH_take (i := 1) (v := ?_) (by simp only [List.getElem?_toArray, List.getElem?_cons_succ, List.getElem?_cons_zero]; rfl) (by kernel_rfl) (by kernel_rfl) (by kernel_rfl) (by exact fun _ _ _ h => h) (Or.inl ⟨by rfl, ?_⟩) (by assumption) ?_
                  rotate_left 1
                  · (intro w hSw; (try dsimp only at hSw); go_simp; try with_reducible rfl)
                  try simp only [Act.put, List.setIfInBounds_toArray, List.set_cons_zero, List.set_cons_succ]
                  refine wpAnyH_take (i := 2) (v := ?_) (by simp only [List.getElem?_toArray, List.getElem?_cons_succ, List.getElem?_cons_zero]; rfl) (by kernel_rfl) (by kernel_rfl) (by kernel_rfl) (by exact fun _ _ _ h => h) (Or.inl ⟨by rfl, ?_⟩) (by assumption) ?_
                  rotate_left 1
                  · (intro w hSw; (try dsimp only at hSw); go_simp; try with_reducible rfl)
                  try simp only [Act.put, List.setIfInBounds_toArray, List.set_cons_zero, List.set_cons_succ]
                  refine wpAnyH_take (i := 3) (v := ?_) (by simp only [List.getElem?_toArray, List.getElem?_cons_succ, List.getElem?_cons_zero]; rfl) (by kernel_rfl) (by kernel_rfl) (by kernel_rfl) (by exact fun _ _ _ h => h) (Or.inl ⟨by rfl, ?_⟩) (by assumption) ?_
                  rotate_left 1
                  · (intro w hSw; (try dsimp only at hSw); go_simp; try with_reducible rfl)
                  try simp only [Act.put, List.setIfInBounds_toArray, List.set_cons_zero, List.set_cons_succ]
                  refine wpAnyH_take (i := 4) (v := ?_) (by simp only [List.getElem?_toArray, List.getElem?_cons_succ, List.getElem?_cons_zero]; rfl) (by kernel_rfl) (by kernel_rfl) (by kernel_rfl) (by exact fun _ _ _ h => h) (Or.inl ⟨by rfl, ?_⟩) (by assumption) ?_
                  rotate_left 1
                  · (intro w hSw; (try dsimp only at hSw); go_simp; try with_reducible rfl)
                  try simp only [Act.put, List.setIfInBounds_toArray, List.set_cons_zero, List.set_cons_succ]
                  refine wpAnyH_ready (rs := [5]) (by kernel_rfl) (by simp) ?_
                  refine AllReadyH.cons (by simp only [List.getElem?_toArray, List.getElem?_cons_succ, List.getElem?_cons_zero]; rfl) (fun K hK => ?_) AllReadyH.nil
                  go_simp
                  refine hK.out _ _ ?_ (fun hHeld2 => ?_)
                  · exact (only5 (Only.refl (fun j => j = w.heap.size) _) (fun _ => rfl)).drew.cell hHeld (fun e => hne0 e.symm)
                  clear hK K
                  try simp only [Act.put, List.setIfInBounds_toArray, List.set_cons_zero, List.set_cons_succ]
                  clear hHeld
                  have hHeld := hHeld2
                  clear hHeld2
                  refine wpAnyH_take (i := 6) (v := ?_) (by simp only [List.getElem?_toArray, List.getElem?_cons_succ, List.getElem?_cons_zero]; rfl) (by kernel_rfl) (by kernel_rfl) (by kernel_rfl) (by exact fun _ _ _ h => h) (Or.inl ⟨by rfl, ?_⟩) (by assumption) ?_
                  rotate_left 1
                  · (intro w hSw; (try dsimp only at hSw); go_simp; try with_reducible rfl)
                  try simp only [Act.put, List.setIfInBounds_toArray, List.set_cons_zero, List.set_cons_succ]
                  refine wpAnyH_done (by kernel_rfl) ?_ _
                  clear hHeld
                  generalize hfn : Tryz.f12 = fn at *
                  go_wp2
                  subst hfn
                  refine bodyPost_ret (v := .tuple #[.agg #[.slice none 0 0, .int .i64 0, .int .i64 0, .slice none 0 0, .slice none 0 0], .int .i64 e15]) (class_result (heap_drew (store5 hr)) rfl rfl) rfl ?_
                  refine ⟨_, _, _, ⟨[], 0, 0, [], []⟩, e15, rfl, ?_, ClassM.nil _, .inr ⟨HNE.out, HDEC.out, rfl, rfl, rfl, rfl⟩⟩
                  exact (only5 HON.out (fun hl => absurd hl (Nat.lt_irrefl _))).drew
                | ok kE =>
                  have hst := H15.out.cq.fl.e_ok
                  obtain ⟨rfl, rfl⟩ := hst
                  have q0 := cell_blk H15.out.cq.fl.blk 0
                  have q1 := cell_blk H15.out.cq.fl.blk 1
                  have r1 := cell_blk H15.out.cq.fl.rf.blk 1
                  simp at q0 q1 r1
                  by_cases hkE : kE = zs.length
                  rotate_left
                  · have hke : ((kE : Int) == (zs.length : Int)) = false := by simp only [beq_eq_false_iff_ne]; omega
                    have HDEC := Lib.hid (show DecC zs (.error 50) from dec_body HNH.out HD.out (by rw [show bodyP cs zs (kh + m) = .ok (⟨cs, th, su, ts, xs.map (·.1)⟩, kE) from HBODY.out]; unfold endP; simp only; rw [if_neg hkE]))
                    clear hkE
                    go_wp2_with (fail)
                    refine (dfFail fb rb (.slice (some ⟨g, o, none⟩) zs.length cap) zs _ _ _ _ 50 H15.out.cq.fl).mono ?_
                    rintro en w16 ⟨rfl, hto⟩
                    obtain ⟨k16, e16, hm⟩ := H15.out.call AC.out hto
                    have HF := Lib.hid (show Fl w16 fb rb (.slice (some ⟨g, o, none⟩) zs.length cap) zs (.error 50) k16 e16 from hm.cq.fl)
                    have hyn := HF.out.e_no
                    obtain ⟨rfl, hyn⟩ := hyn
                    have HNE := Lib.hid hyn
                    have HON := Lib.hid hm.cq.only
                    have HRES := Lib.hid hm.cq.res
                    clear hyn hto hm H15 q0 q1 r1 hke
                    have q1 := cell_blk HF.out.blk 1
                    simp at q1
                    have hyb : (50 != 0) = true := by first | decide | (have := HNE.out; simpa using this)
                    have hyc : (50 == 0) = false := by first | decide | (have := HNE.out; simpa using this)
                    have hr := HRES.out
                    have d0 := cell_blk hr 0
                    have d1 := cell_blk hr 1
                    have d2 := cell_blk hr 2
                    have d3 := cell_blk hr 3
                    have d4 := cell_blk hr 4
                    have g0 := frozen_blk hr 0
                    have g1 := frozen_blk hr 1
                    have g2 := frozen_blk hr 2
                    have g3 := frozen_blk hr 3
                    have g4 := frozen_blk hr 4
                    simp at d0 d1 d2 d3 d4
                    have hne0 : w.heap.size ≠ fb := by have := HFN.out; omega
                    go_wp2_with (fail)
                    refine wp_region_held_drew (S := fun wc => wc.cell? ⟨fb, 1, none⟩ = some (.int .i64 50)) (by kernel_rfl) q1 (fun hHeld => ?_)
                    refine wpAnyH_take (i := 0) (v := ?_) (by simp only [List.getElem?_toArray, List.getElem?_cons_succ, List.getElem?_cons_zero]; rfl) (by kernel_rfl) (by kernel_rfl) (by kernel_rfl) (by exact fun _ _ _ h => h) (Or.inl ⟨by rfl, ?_⟩) (by assumption) ?_
                    rotate_left 1
                    · (intro w hSw; (try dsimp only at hSw); go_simp; try with_reducible rfl)
                    try simp only [Act.put, List.setIfInBounds_toArray, List.set_cons_zero, List.set_cons_succ]
                    refine wpAnyH_take (i := 1) (v := ?_) (by simp only [List.getElem?_toArray, List.getElem?_cons_succ, List.getElem?_cons_zero]; rfl) (by kernel_rfl) (by kernel_rfl) (by kernel_rfl) (by exact fun _ _ _ h => h) (Or.inl ⟨by rfl, ?_⟩) (by assumption) ?_
                    rotate_left 1
                    · (intro w hSw; (try dsimp only at hSw); go_simp; try with_reducible rfl)
                    try simp only [Act.put, List.setIfInBounds_toArray, List.set_cons_zero, List.set_cons_succ]
                    refine wpAnyH_take (i := 2) (v := ?_) (by simp only [List.getElem?_toArray, List.getElem?_cons_succ, List.getElem?_cons_zero]; rfl) (by kernel_rfl) (by kernel_rfl) (by kernel_rfl) (by exact fun _ _ _ h => h) (Or.inl ⟨by rfl, ?_⟩) (by assumption) ?_
                    rotate_left 1
                    · (intro w hSw; (try dsimp only at hSw); go_simp; try with_reducible rfl)
                    try simp only [Act.put, List.setIfInBounds_toArray, List.set_cons_zero, List.set_cons_succ]
                    refine wpAnyH_take (i := 3) (v := ?_) (by simp only [List.getElem?_toArray, List.getElem?_cons_succ, List.getElem?_cons_zero]; rfl) (by kernel_rfl) (by kernel_rfl) (by kernel_rfl) (by exact fun _ _ _ h => h) (Or.inl ⟨by rfl, ?_⟩) (by assumption) ?_
                    rotate_left 1
                    · (intro w hSw; (try dsimp only at hSw); go_simp; try with_reducible rfl)
                    try simp only [Act.put, List.setIfInBounds_toArray, List.set_cons_zero, List.set_cons_succ]
                    refine wpAnyH_take (i := 4) (v := ?_) (by simp only [List.getElem?_toArray, List.getElem?_cons_succ, List.getElem?_cons_zero]; rfl) (by kernel_rfl) (by kernel_rfl) (by kernel_rfl) (by exact fun _ _ _ h => h) (Or.inl ⟨by rfl, ?_⟩) (by assumption) ?_
                    rotate_left 1
                    · (intro w hSw; (try dsimp only at hSw); go_simp; try with_reducible rfl)
                    try simp only [Act.put, List.setIfInBounds_toArray, List.set_cons_zero, List.set_cons_succ]
                    refine wpAnyH_ready (rs := [5]) (by kernel_rfl) (by simp) ?_
                    refine AllReadyH.cons (by simp only [List.getElem?_toArray, List.getElem?_cons_succ, List.getElem?_cons_zero]; rfl) (fun K hK => ?_) AllReadyH.nil
                    go_simp
                    refine hK.out _ _ ?_ (fun hHeld2 => ?_)
                    · exact (only5 (Only.refl (fun j => j = w.heap.size) _) (fun _ => rfl)).drew.cell hHeld (fun e => hne0 e.symm)
                    clear hK K
                    try simp only [Act.put, List.setIfInBounds_toArray, List.set_cons_zero, List.set_cons_succ]
                    clear hHeld
                    have hHeld := hHeld2
                    clear hHeld2
                    refine wpAnyH_take (i := 6) (v := ?_) (by simp only [List.getElem?_toArray, List.getElem?_cons_succ, List.getElem?_cons_zero]; rfl) (by kernel_rfl) (by kernel_rfl) (by kernel_rfl) (by exact fun _ _ _ h => h) (Or.inl ⟨by rfl, ?_⟩) (by assumption) ?_
                    rotate_left 1
                    · (intro w hSw; (try dsimp only at hSw); go_simp; try with_reducible rfl)
                    try simp only [Act.put, List.setIfInBounds_toArray, List.set_cons_zero, List.set_cons_succ]
                    refine wpAnyH_done (by kernel_rfl) ?_ _
                    clear hHeld
                    generalize hfn : Tryz.f12 = fn at *
                    go_wp2
                    subst hfn
                    refine bodyPost_ret (v := .tuple #[.agg #[.slice none 0 0, .int .i64 0, .int .i64 0, .slice none 0 0, .slice none 0 0], .int .i64 50]) (class_result (heap_drew (store5 hr)) rfl rfl) rfl ?_
                    refine ⟨_, _, _, ⟨[], 0, 0, [], []⟩, 50, rfl, ?_, ClassM.nil _, .inr ⟨HNE.out, HDEC.out, rfl, rfl, rfl, rfl⟩⟩
                    exact (only5 HON.out (fun hl => absurd hl (Nat.lt_irrefl _))).drew
                  subst hkE
                  have hdm := H15.out.dm HTR.out ⟨Vth.out, Vsu.out⟩
                  have cK := refClsCheck _ _ _ _ w15 hdm.cls (Texts.fits HFIT.out)
                  have CK := Lib.hid cK
                  have HDM := Lib.hid hdm
                  have hcc := H15.out.cq.blk
                  have b0 := cell_blk hcc 0
                  have b1 := cell_blk hcc 1
                  have b2 := cell_blk hcc 2
                  have b3 := cell_blk hcc 3
                  have b4 := cell_blk hcc 4
                  simp at b0 b1 b2 b3 b4
                  clear cK hdm hcc
                  go_wp2_with (fail)
                  refine CK.out.mono ?_
                  rintro en w16 ⟨rfl, ho16⟩
                  have H16 := Lib.hid (H15.out.idle ho16)
                  clear ho16 CK H15 HDM q0 q1 r1 b0 b1 b2 b3 b4
                  obtain ⟨z, hz⟩ : ∃ z, clsZ ⟨cs, th, su, ts, xs.map (·.1)⟩ = z := ⟨_, rfl⟩
                  rw [hz]
                  have HZ := Lib.hid hz
                  clear hz
                  go_wp2_with (fail)
                  refine (dfFail fb rb (.slice (some ⟨g, o, none⟩) zs.length cap) zs _ _ _ _ z H16.out.cq.fl).mono ?_
                  rintro en w17 ⟨rfl, hto⟩
                  obtain ⟨k17, e17, hm⟩ := H16.out.call AC.out hto
                  by_cases hz : z = 0
                  rotate_left
                  · have HF := Lib.hid (show Fl w17 fb rb (.slice (some ⟨g, o, none⟩) zs.length cap) zs (.error z) k17 e17 from by have := hm.cq.fl; simp only [failS, if_neg hz] at this; exact this)
                    have hyn := HF.out.e_no
                    obtain ⟨rfl, hyn⟩ := hyn
                    have HNE := Lib.hid hyn
                    have HON := Lib.hid hm.cq.only
                    have HRES := Lib.hid hm.cq.res
                    have HDEC := Lib.hid (show DecC zs (.error e17) from dec_body HNH.out HD.out (by rw [show bodyP cs zs (kh + m) = .ok (⟨cs, th, su, ts, xs.map (·.1)⟩, zs.length) from HBODY.out]; unfold endP; simp only; rw [if_pos trivial, if_neg (by rw [HZ.out]; exact hz), HZ.out]))
                    clear hyn hto hm H16 hz
                    have q1 := cell_blk HF.out.blk 1
                    simp at q1
                    have hyb : (e17 != 0) = true := by first | decide | (have := HNE.out; simpa using this)
                    have hyc : (e17 == 0) = false := by first | decide | (have := HNE.out; simpa using this)
                    have hr := HRES.out
                    have d0 := cell_blk hr 0
                    have d1 := cell_blk hr 1
                    have d2 := cell_blk hr 2
                    have d3 := cell_blk hr 3
                    have d4 := cell_blk hr 4
                    have g0 := frozen_blk hr 0
                    have g1 := frozen_blk hr 1
                    have g2 := frozen_blk hr 2
                    have g3 := frozen_blk hr 3
                    have g4 := frozen_blk hr 4
                    simp at d0 d1 d2 d3 d4
                    have hne0 : w.heap.size ≠ fb := by have := HFN.out; omega
                    go_wp2_with (fail)
                    refine wp_region_held_drew (S := fun wc => wc.cell? ⟨fb, 1, none⟩ = some (.int .i64 e17)) (by kernel_rfl) q1 (fun hHeld => ?_)
                    refine wpAnyH_take (i := 0) (v := ?_) (by simp only [List.getElem?_toArray, List.getElem?_cons_succ, List.getElem?_cons_zero]; rfl) (by kernel_rfl) (by kernel_rfl) (by kernel_rfl) (by exact fun _ _ _ h => h) (Or.inl ⟨by rfl, ?_⟩) (by assumption) ?_
                    rotate_left 1
                    · (intro w hSw; (try dsimp only at hSw); go_simp; try with_reducible rfl)
                    try simp only [Act.put, List.setIfInBounds_toArray, List.set_cons_zero, List.set_cons_succ]
                    refine wpAnyH_take (i := 1) (v := ?_) (by simp only [List.getElem?_toArray, List.getElem?_cons_succ, List.getElem?_cons_zero]; rfl) (by kernel_rfl) (by kernel_rfl) (by kernel_rfl) (by exact fun _ _ _ h => h) (Or.inl ⟨by rfl, ?_⟩) (by assumption) ?_
                    rotate_left 1
                    · (intro w hSw; (try dsimp only at hSw); go_simp; try with_reducible rfl)
                    try simp only [Act.put, List.setIfInBounds_toArray, List.set_cons_zero, List.set_cons_succ]
                    refine wpAnyH_take (i := 2) (v := ?_) (by simp only [List.getElem?_toArray, List.getElem?_cons_succ, List.getElem?_cons_zero]; rfl) (by kernel_rfl) (by kernel_rfl) (by kernel_rfl) (by exact fun _ _ _ h => h) (Or.inl ⟨by rfl, ?_⟩) (by assumption) ?_
                    rotate_left 1
                    · (intro w hSw; (try dsimp only at hSw); go_simp; try with_reducible rfl)
                    try simp only [Act.put, List.setIfInBounds_toArray, List.set_cons_zero, List.set_cons_succ]
                    refine wpAnyH_take (i := 3) (v := ?_) (by simp only [List.getElem?_toArray, List.getElem?_cons_succ, List.getElem?_cons_zero]; rfl) (by kernel_rfl) (by kernel_rfl) (by kernel_rfl) (by exact fun _ _ _ h => h) (Or.inl ⟨by rfl, ?_⟩) (by assumption) ?_
                    rotate_left 1
                    · (intro w hSw; (try dsimp only at hSw); go_simp; try with_reducible rfl)
                    try simp only [Act.put, List.setIfInBounds_toArray, List.set_cons_zero, List.set_cons_succ]
                    refine wpAnyH_take (i := 4) (v := ?_) (by simp only [List.getElem?_toArray, List.getElem?_cons_succ, List.getElem?_cons_zero]; rfl) (by kernel_rfl) (by kernel_rfl) (by kernel_rfl) (by exact fun _ _ _ h => h) (Or.inl ⟨by rfl, ?_⟩) (by assumption) ?_
                    rotate_left 1
                    · (intro w hSw; (try dsimp only at hSw); go_simp; try with_reducible rfl)
                    try simp only [Act.put, List.setIfInBounds_toArray, List.set_cons_zero, List.set_cons_succ]
                    refine wpAnyH_ready (rs := [5]) (by kernel_rfl) (by simp) ?_
                    refine AllReadyH.cons (by simp only [List.getElem?_toArray, List.getElem?_cons_succ, List.getElem?_cons_zero]; rfl) (fun K hK => ?_) AllReadyH.nil
                    go_simp
                    refine hK.out _ _ ?_ (fun hHeld2 => ?_)
                    · exact (only5 (Only.refl (fun j => j = w.heap.size) _) (fun _ => rfl)).drew.cell hHeld (fun e => hne0 e.symm)
                    clear hK K
                    try simp only [Act.put, List.setIfInBounds_toArray, List.set_cons_zero, List.set_cons_succ]
                    clear hHeld
                    have hHeld := hHeld2
                    clear hHeld2
                    refine wpAnyH_take (i := 6) (v := ?_) (by simp only [List.getElem?_toArray, List.getElem?_cons_succ, List.getElem?_cons_zero]; rfl) (by kernel_rfl) (by kernel_rfl) (by kernel_rfl) (by exact fun _ _ _ h => h) (Or.inl ⟨by rfl, ?_⟩) (by assumption) ?_
                    rotate_left 1
                    · (intro w hSw; (try dsimp only at hSw); go_simp; try with_reducible rfl)
                    try simp only [Act.put, List.setIfInBounds_toArray, List.set_cons_zero, List.set_cons_succ]
                    refine wpAnyH_done (by kernel_rfl) ?_ _
                    clear hHeld
                    generalize hfn : Tryz.f12 = fn at *
                    go_wp2
                    subst hfn
                    refine bodyPost_ret (v := .tuple #[.agg #[.slice none 0 0, .int .i64 0, .int .i64 0, .slice none 0 0, .slice none 0 0], .int .i64 e17]) (class_result (heap_drew (store5 hr)) rfl rfl) rfl ?_
                    refine ⟨_, _, _, ⟨[], 0, 0, [], []⟩, e17, rfl, ?_, ClassM.nil _, .inr ⟨HNE.out, HDEC.out, rfl, rfl, rfl, rfl⟩⟩
                    exact (only5 HON.out (fun hl => absurd hl (Nat.lt_irrefl _))).drew
                  subst hz
                  have H17 := Lib.hid (show GQ w w17 fb rb cb B (.slice (some ⟨g, o, none⟩) zs.length cap) (.slice ap np cp) zs cs (.ok zs.length) k17 e17 th su _ ts _ xs from hm)
                  have hst := H17.out.cq.fl.e_ok
                  obtain ⟨rfl, rfl⟩ := hst
                  have q1 := cell_blk H17.out.cq.fl.blk 1
                  simp at q1
                  have hcc := H17.out.cq.blk
                  have b0 := cell_blk hcc 0
                  have b1 := cell_blk hcc 1
                  have b2 := cell_blk hcc 2
                  have b3 := cell_blk hcc 3
                  have b4 := cell_blk hcc 4
                  have hr := H17.out.cq.res
                  have d0 := cell_blk hr 0
                  have d1 := cell_blk hr 1
                  have d2 := cell_blk hr 2
                  have d3 := cell_blk hr 3
                  have d4 := cell_blk hr 4
                  have g0 := frozen_blk hr 0
                  have g1 := frozen_blk hr 1
                  have g2 := frozen_blk hr 2
                  have g3 := frozen_blk hr 3
                  have g4 := frozen_blk hr 4
                  simp at b0 b1 b2 b3 b4 d0 d1 d2 d3 d4
                  have HDM := Lib.hid (H17.out.dm HTR.out ⟨Vth.out, Vsu.out⟩)
                  have HKEEP := Lib.hid (show ∀ u : World, Only (fun j => j = w.heap.size) w17 u → ClassM u (.slice ap np cp) (.slice at_ ts.length ct) (.slice am_ xs.length cm_) ⟨cs, th, su, ts, xs.map (·.1)⟩ from fun u hu => (HDM.out.keep hu (fun j hj => by have hj' : j = w.heap.size := hj; have := AC.out.cbn; have := AC.out.cB; omega) (fun j hj e => by have := AC.out.pn j hj; omega)).cls)
                  have HDEC := Lib.hid (show DecC zs (.ok ⟨cs, th, su, ts, xs.map (·.1)⟩) from dec_body HNH.out HD.out (by rw [show bodyP cs zs (kh + m) = .ok (⟨cs, th, su, ts, xs.map (·.1)⟩, zs.length) from HBODY.out]; unfold endP; simp only; rw [if_pos trivial, if_pos HZ.out]))
                  have hneR : w.heap.size ≠ cb := by have := AC.out.cbn; omega
                  clear hto hm hcc H16 HDM
                  generalize hfn : Tryz.f12 = fn at *
                  go_wp2
                  subst hfn
                  refine bodyPost_ret (v := .tuple #[.agg #[.slice ap np cp, .int .i64 th, .int .i64 su, .slice at_ ts.length ct, .slice am_ xs.length cm_], .int .i64 0]) (class_result (store5 hr) rfl rfl) rfl ?_
                  refine ⟨_, _, _, ⟨cs, th, su, ts, xs.map (·.1)⟩, 0, rfl, ?_, HKEEP.out _ ?_, .inl ⟨rfl, HDEC.out, HZ.out⟩⟩
                  · exact only5 H17.out.cq.only (fun hl => absurd hl (Nat.lt_irrefl _))
                  · exact only5 (Only.refl _ _) (fun _ => rfl)
            · have hnz2 : (mm : Int) ≤ (xs.length : Int) := by omega
              have HNM := Lib.hid (HTO.out.done (.inr (by simp; omega)))
              clear hl HTO hlt2
              clear hi hz0 hz1 hz2
              go_wp2_with (fail)
              clear q1
              refine (dfMust fb rb (.slice (some ⟨g, o, none⟩) zs.length cap) zs _ _ _ _ 0 HL.out.cq.fl).mono ?_
              rintro en w15 ⟨σ15, rfl, hN, hto⟩
              have HN15 := Lib.hid hN
              obtain ⟨k15, e15, hm⟩ := HL.out.call AC.out hto
              have H15 := Lib.hid hm
              have HBODY := Lib.hid (show Nx (bodyP cs) zs (.ok (kh + m)) ⟨cs, th, su, ts, xs.map (·.1)⟩ σ15 from HN9.out.bind (HN10.out.bind (HN11.out.bind (HN12.out.bind (HN13.out.bind (HNF.out.bind (HN14.out.bind (HNM.out.bind (HN15.out.bind (Nx.ret _ _ _))))))))))
              clear hN hto hm HL HN9 HN10 HN11 HN12 HN13 HNF HN14 HNM HN15
              cases σ15 with
              | error y =>
                have HF := Lib.hid H15.out.cq.fl
                have hyn := H15.out.cq.fl.e_no
                obtain ⟨rfl, hyn⟩ := hyn
                have HNE := Lib.hid hyn
                have HON := Lib.hid H15.out.cq.only
                have HRES := Lib.hid H15.out.cq.res
                have HDEC := Lib.hid (show DecC zs (.error e15) from dec_body HNH.out HD.out (by rw [show bodyP cs zs (kh + m) = .error e15 from HBODY.out]; rfl))
                clear hyn H15
                have q1 := cell_blk HF.out.blk 1
                simp at q1
                have hyb : (e15 != 0) = true := by first | decide | (have := HNE.out; simpa using this)
                have hyc : (e15 == 0) = false := by first | decide | (have := HNE.out; simpa using this)
                have hr := HRES.out
                have d0 := cell_blk hr 0
                have d1 := cell_blk hr 1
                have d2 := cell_blk hr 2
                have d3 := cell_blk hr 3
                have d4 := cell_blk hr 4
                have g0 := frozen_blk hr 0
                have g1 := frozen_blk hr 1
                have g2 := frozen_blk hr 2
                have g3 := frozen_blk hr 3
                have g4 := frozen_blk hr 4
                simp at d0 d1 d2 d3 d4
                have hne0 : w.heap.size ≠ fb := by have := HFN.out; omega
                go_wp2_with (fail)
                refine wp_region_held_drew (S := fun wc => wc.cell? ⟨fb, 1, none⟩ = some (.int .i64 e15)) (by kernel_rfl) q1 (fun hHeld => ?_)
                refine wpAnyH_take (i := 0) (v := ?_) (by simp only [List.getElem?_toArray, List.getElem?_cons_succ, List.getElem?_cons_zero]; rfl) (by kernel_rfl) (by kernel_rfl) (by kernel_rfl) (by exact fun _ _ _ h => h) (Or.inl ⟨by rfl, ?_⟩) (by assumption) ?_
                rotate_left 1
                · (intro w hSw; (try dsimp only at hSw); go_simp; try with_reducible rfl)
                try simp only [Act.put, List.setIfInBounds_toArray, List.set_cons_zero, List.set_cons_succ]
                refine wpAnyH_take (i := 1) (v := ?_) (by simp only [List.getElem?_toArray, List.getElem?_cons_succ, List.getElem?_cons_zero]; rfl) (by kernel_rfl) (by kernel_rfl) (by kernel_rfl) (by exact fun _ _ _ h => h) (Or.inl ⟨by rfl, ?_⟩) (by assumption) ?_
                rotate_left 1
                · (intro w hSw; (try dsimp only at hSw); go_simp; try with_reducible rfl)
                try simp only [Act.put, List.setIfInBounds_toArray, List.set_cons_zero, List.set_cons_succ]
                refine wpAnyH_take (i := 2) (v := ?_) (by simp only [List.getElem?_toArray, List.getElem?_cons_succ, List.getElem?_cons_zero]; rfl) (by kernel_rfl) (by kernel_rfl) (by kernel_rfl) (by exact fun _ _ _ h => h) (Or.inl ⟨by rfl, ?_⟩) (by assumption) ?_
                rotate_left 1
                · (intro w hSw; (try dsimp only at hSw); go_simp; try with_reducible rfl)
                try simp only [Act.put, List.setIfInBounds_toArray, List.set_cons_zero, List.set_cons_succ]
                refine wpAnyH_take (i := 3) (v := ?_) (by simp only [List.getElem?_toArray, List.getElem?_cons_succ, List.getElem?_cons_zero]; rfl) (by kernel_rfl) (by kernel_rfl) (by kernel_rfl) (by exact fun _ _ _ h => h) (Or.inl ⟨by rfl, ?_⟩) (by assumption) ?_
                rotate_left 1
                · (intro w hSw; (try dsimp only at hSw); go_simp; try with_reducible rfl)
                try simp only [Act.put, List.setIfInBounds_toArray, List.set_cons_zero, List.set_cons_succ]
                refine wpAnyH_take (i := 4) (v := ?_) (by simp only [List.getElem?_toArray, List.getElem?_cons_succ, List.getElem?_cons_zero]; rfl) (by kernel_rfl) (by kernel_rfl) (by kernel_rfl) (by exact fun _ _ _ h => h) (Or.inl ⟨by rfl, ?_⟩) (by assumption) ?_
                rotate_left 1
                · (intro w hSw; (try dsimp only at hSw); go_simp; try with_reducible rfl)
                try simp only [Act.put, List.setIfInBounds_toArray, List.set_cons_zero, List.set_cons_succ]
                refine wpAnyH_ready (rs := [5]) (by kernel_rfl) (by simp) ?_
                refine AllReadyH.cons (by simp only [List.getElem?_toArray, List.getElem?_cons_succ, List.getElem?_cons_zero]; rfl) (fun K hK => ?_) AllReadyH.nil
                go_simp
                refine hK.out _ _ ?_ (fun hHeld2 => ?_)
                · exact (only5 (Only.refl (fun j => j = w.heap.size) _) (fun _ => rfl)).drew.cell hHeld (fun e => hne0 e.symm)
                clear hK K
                try simp only [Act.put, List.setIfInBounds_toArray, List.set_cons_zero, List.set_cons_succ]
                clear hHeld
                have hHeld := hHeld2
                clear hHeld2
                refine wpAnyH_take (i := 6) (v := ?_) (by simp only [List.getElem?_toArray, List.getElem?_cons_succ, List.getElem?_cons_zero]; rfl) (by kernel_rfl) (by kernel_rfl) (by kernel_rfl) (by exact fun _ _ _ h => h) (Or.inl ⟨by rfl, ?_⟩) (by assumption) ?_
                rotate_left 1
                · (intro w hSw; (try dsimp only at hSw); go_simp; try with_reducible rfl)
                try simp only [Act.put, List.setIfInBounds_toArray, List.set_cons_zero, List.set_cons_succ]
                refine wpAnyH_done (by kernel_rfl) ?_ _
                clear hHeld
                generalize hfn : Tryz.f12 = fn at *
                go_wp2
                subst hfn
                refine bodyPost_ret (v := .tuple #[.agg #[.slice none 0 0, .int .i64 0, .int .i64 0, .slice none 0 0, .slice none 0 0], .int .i64 e15]) (class_result (heap_drew (store5 hr)) rfl rfl) rfl ?_
                refine ⟨_, _, _, ⟨[], 0, 0, [], []⟩, e15, rfl, ?_, ClassM.nil _, .inr ⟨HNE.out, HDEC.out, rfl, rfl, rfl, rfl⟩⟩
                exact (only5 HON.out (fun hl => absurd hl (Nat.lt_irrefl _))).drew
              | ok kE =>
                have hst := H15.out.cq.fl.e_ok
                obtain ⟨rfl, rfl⟩ := hst
                have q0 := cell_blk H15.out.cq.fl.blk 0
                have q1 := cell_blk H15.out.cq.fl.blk 1
                have r1 := cell_blk H15.out.cq.fl.rf.blk 1
                simp at q0 q1 r1
                by_cases hkE : kE = zs.length
                rotate_left
                · have hke : ((kE : Int) == (zs.length : Int)) = false := by simp only [beq_eq_false_iff_ne]; omega
                  have HDEC := Lib.hid (show DecC zs (.error 50) from dec_body HNH.out HD.out (by rw [show bodyP cs zs (kh + m) = .ok (⟨cs, th, su, ts, xs.map (·.1)⟩, kE) from HBODY.out]; unfold endP; simp only; rw [if_neg hkE]))
                  clear hkE
                  go_wp2_with (fail)
                  refine (dfFail fb rb (.slice (some ⟨g, o, none⟩) zs.length cap) zs _ _ _ _ 50 H15.out.cq.fl).mono ?_
                  rintro en w16 ⟨rfl, hto⟩
                  obtain ⟨k16, e16, hm⟩ := H15.out.call AC.out hto
                  have HF := Lib.hid (show Fl w16 fb rb (.slice (some ⟨g, o, none⟩) zs.length cap) zs (.error 50) k16 e16 from hm.cq.fl)
                  have hyn := HF.out.e_no
                  obtain ⟨rfl, hyn⟩ := hyn
                  have HNE := Lib.hid hyn
                  have HON := Lib.hid hm.cq.only
                  have HRES := Lib.hid hm.cq.res
                  clear hyn hto hm H15 q0 q1 r1 hke
                  have q1 := cell_blk HF.out.blk 1
                  simp at q1
                  have hyb : (50 != 0) = true := by first | decide | (have := HNE.out; simpa using this)
                  have hyc : (50 == 0) = false := by first | decide | (have := HNE.out; simpa using this)
                  have hr := HRES.out
                  have d0 := cell_blk hr 0
                  have d1 := cell_blk hr 1
                  have d2 := cell_blk hr 2
                  have d3 := cell_blk hr 3
                  have d4 := cell_blk hr 4
                  have g0 := frozen_blk hr 0
                  have g1 := frozen_blk hr 1
                  have g2 := frozen_blk hr 2
                  have g3 := frozen_blk hr 3
                  have g4 := frozen_blk hr 4
                  simp at d0 d1 d2 d3 d4
                  have hne0 : w.heap.size ≠ fb := by have := HFN.out; omega
                  go_wp2_with (fail)
                  refine wp_region_held_drew (S := fun wc => wc.cell? ⟨fb, 1, none⟩ = some (.int .i64 50)) (by kernel_rfl) q1 (fun hHeld => ?_)
                  refine wpAnyH_take (i := 0) (v := ?_) (by simp only [List.getElem?_toArray, List.getElem?_cons_succ, List.getElem?_cons_zero]; rfl) (by kernel_rfl) (by kernel_rfl) (by kernel_rfl) (by exact fun _ _ _ h => h) (Or.inl ⟨by rfl, ?_⟩) (by assumption) ?_
                  rotate_left 1
                  · (intro w hSw; (try dsimp only at hSw); go_simp; try with_reducible rfl)
                  try simp only [Act.put, List.setIfInBounds_toArray, List.set_cons_zero, List.set_cons_succ]
                  refine wpAnyH_take (i := 1) (v := ?_) (by simp only [List.getElem?_toArray, List.getElem?_cons_succ, List.getElem?_cons_zero]; rfl) (by kernel_rfl) (by kernel_rfl) (by kernel_rfl) (by exact fun _ _ _ h => h) (Or.inl ⟨by rfl, ?_⟩) (by assumption) ?_
                  rotate_left 1
                  · (intro w hSw; (try dsimp only at hSw); go_simp; try with_reducible rfl)
                  try simp only [Act.put, List.setIfInBounds_toArray, List.set_cons_zero, List.set_cons_succ]
                  refine wpAnyH_take (i := 2) (v := ?_) (by simp only [List.getElem?_toArray, List.getElem?_cons_succ, List.getElem?_cons_zero]; rfl) (by kernel_rfl) (by kernel_rfl) (by kernel_rfl) (by exact fun _ _ _ h => h) (Or.inl ⟨by rfl, ?_⟩) (by assumption) ?_
                  rotate_left 1
                  · (intro w hSw; (try dsimp only at hSw); go_simp; try with_reducible rfl)
                  try simp only [Act.put, List.setIfInBounds_toArray, List.set_cons_zero, List.set_cons_succ]
                  refine wpAnyH_take (i := 3) (v := ?_) (by simp only [List.getElem?_toArray, List.getElem?_cons_succ, List.getElem?_cons_zero]; rfl) (by kernel_rfl) (by kernel_rfl) (by kernel_rfl) (by exact fun _ _ _ h => h) (Or.inl ⟨by rfl, ?_⟩) (by assumption) ?_
                  rotate_left 1
                  · (intro w hSw; (try dsimp only at hSw); go_simp; try with_reducible rfl)
                  try simp only [Act.put, List.setIfInBounds_toArray, List.set_cons_zero, List.set_cons_succ]
                  refine wpAnyH_take (i := 4) (v := ?_) (by simp only [List.getElem?_toArray, List.getElem?_cons_succ, List.getElem?_cons_zero]; rfl) (by kernel_rfl) (by kernel_rfl) (by kernel_rfl) (by exact fun _ _ _ h => h) (Or.inl ⟨by rfl, ?_⟩) (by assumption) ?_
                  rotate_left 1
                  · (intro w hSw; (try dsimp only at hSw); go_simp; try with_reducible rfl)
                  try simp only [Act.put, List.setIfInBounds_toArray, List.set_cons_zero, List.set_cons_succ]
                  refine wpAnyH_ready (rs := [5]) (by kernel_rfl) (by simp) ?_
                  refine AllReadyH.cons (by simp only [List.getElem?_toArray, List.getElem?_cons_succ, List.getElem?_cons_zero]; rfl) (fun K hK => ?_) AllReadyH.nil
                  go_simp
                  refine hK.out _ _ ?_ (fun hHeld2 => ?_)
                  · exact (only5 (Only.refl (fun j => j = w.heap.size) _) (fun _ => rfl)).drew.cell hHeld (fun e => hne0 e.symm)
                  clear hK K
                  try simp only [Act.put, List.setIfInBounds_toArray, List.set_cons_zero, List.set_cons_succ]
                  clear hHeld
                  have hHeld := hHeld2
                  clear hHeld2
                  refine wpAnyH_take (i := 6) (v := ?_) (by simp only [List.getElem?_toArray, List.getElem?_cons_succ, List.getElem?_cons_zero]; rfl) (by kernel_rfl) (by kernel_rfl) (by kernel_rfl) (by exact fun _ _ _ h => h) (Or.inl ⟨by rfl, ?_⟩) (by assumption) ?_
                  rotate_left 1
                  · (intro w hSw; (try dsimp only at hSw); go_simp; try with_reducible rfl)
                  try simp only [Act.put, List.setIfInBounds_toArray, List.set_cons_zero, List.set_cons_succ]
                  refine wpAnyH_done (by kernel_rfl) ?_ _
                  clear hHeld
                  generalize hfn : Tryz.f12 = fn at *
                  go_wp2
                  subst hfn
                  refine bodyPost_ret (v := .tuple #[.agg #[.slice none 0 0, .int .i64 0, .int .i64 0, .slice none 0 0, .slice none 0 0], .int .i64 50]) (class_result (heap_drew (store5 hr)) rfl rfl) rfl ?_
                  refine ⟨_, _, _, ⟨[], 0, 0, [], []⟩, 50, rfl, ?_, ClassM.nil _, .inr ⟨HNE.out, HDEC.out, rfl, rfl, rfl, rfl⟩⟩
                  exact (only5 HON.out (fun hl => absurd hl (Nat.lt_irrefl _))).drew
                subst hkE
                have hdm := H15.out.dm HTR.out ⟨Vth.out, Vsu.out⟩
                have cK := refClsCheck _ _ _ _ w15 hdm.cls (Texts.fits HFIT.out)
                have CK := Lib.hid cK
                have HDM := Lib.hid hdm
                have hcc := H15.out.cq.blk
                have b0 := cell_blk hcc 0
                have b1 := cell_blk hcc 1
                have b2 := cell_blk hcc 2
                have b3 := cell_blk hcc 3
                have b4 := cell_blk hcc 4
                simp at b0 b1 b2 b3 b4
                clear cK hdm hcc
                go_wp2_with (fail)
                refine CK.out.mono ?_
                rintro en w16 ⟨rfl, ho16⟩
                have H16 := Lib.hid (H15.out.idle ho16)
                clear ho16 CK H15 HDM q0 q1 r1 b0 b1 b2 b3 b4
                obtain ⟨z, hz⟩ : ∃ z, clsZ ⟨cs, th, su, ts, xs.map (·.1)⟩ = z := ⟨_, rfl⟩
                rw [hz]
                have HZ := Lib.hid hz
                clear hz
                go_wp2_with (fail)
                refine (dfFail fb rb (.slice (some ⟨g, o, none⟩) zs.length cap) zs _ _ _ _ z H16.out.cq.fl).mono ?_
                rintro en w17 ⟨rfl, hto⟩
                obtain ⟨k17, e17, hm⟩ := H16.out.call AC.out hto
                by_cases hz : z = 0
                rotate_left
                · have HF := Lib.hid (show Fl w17 fb rb (.slice (some ⟨g, o, none⟩) zs.length cap) zs (.error z) k17 e17 from by have := hm.cq.fl; simp only [failS, if_neg hz] at this; exact this)
                  have hyn := HF.out.e_no
                  obtain ⟨rfl, hyn⟩ := hyn
                  have HNE := Lib.hid hyn
                  have HON := Lib.hid hm.cq.only
                  have HRES := Lib.hid hm.cq.res
                  have HDEC := Lib.hid (show DecC zs (.error e17) from dec_body HNH.out HD.out (by rw [show bodyP cs zs (kh + m) = .ok (⟨cs, th, su, ts, xs.map (·.1)⟩, zs.length) from HBODY.out]; unfold endP; simp only; rw [if_pos trivial, if_neg (by rw [HZ.out]; exact hz), HZ.out]))
                  clear hyn hto hm H16 hz
                  have q1 := cell_blk HF.out.blk 1
                  simp at q1
                  have hyb : (e17 != 0) = true := by first | decide | (have := HNE.out; simpa using this)
                  have hyc : (e17 == 0) = false := by first | decide | (have := HNE.out; simpa using this)
                  have hr := HRES.out
                  have d0 := cell_blk hr 0
                  have d1 := cell_blk hr 1
                  have d2 := cell_blk hr 2
                  have d3 := cell_blk hr 3
                  have d4 := cell_blk hr 4
                  have g0 := frozen_blk hr 0
                  have g1 := frozen_blk hr 1
                  have g2 := frozen_blk hr 2
                  have g3 := frozen_blk hr 3
                  have g4 := frozen_blk hr 4
                  simp at d0 d1 d2 d3 d4
                  have hne0 : w.heap.size ≠ fb := by have := HFN.out; omega
                  go_wp2_with (fail)
                  refine wp_region_held_drew (S := fun wc => wc.cell? ⟨fb, 1, none⟩ = some (.int .i64 e17)) (by kernel_rfl) q1 (fun hHeld => ?_)
                  refine wpAnyH_take (i := 0) (v := ?_) (by simp only [List.getElem?_toArray, List.getElem?_cons_succ, List.getElem?_cons_zero]; rfl) (by kernel_rfl) (by kernel_rfl) (by kernel_rfl) (by exact fun _ _ _ h => h) (Or.inl ⟨by rfl, ?_⟩) (by assumption) ?_
                  rotate_left 1
                  · (intro w hSw; (try dsimp only at hSw); go_simp; try with_reducible rfl)
                  try simp only [Act.put, List.setIfInBounds_toArray, List.set_cons_zero, List.set_cons_succ]
                  refine wpAnyH_take (i := 1) (v := ?_) (by simp only [List.getElem?_toArray, List.getElem?_cons_succ, List.getElem?_cons_zero]; rfl) (by kernel_rfl) (by kernel_rfl) (by kernel_rfl) (by exact fun _ _ _ h => h) (Or.inl ⟨by rfl, ?_⟩) (by assumption) ?_
                  rotate_left 1
                  · (intro w hSw; (try dsimp only at hSw); go_simp; try with_reducible rfl)
                  try simp only [Act.put, List.setIfInBounds_toArray, List.set_cons_zero, List.set_cons_succ]
                  refine wpAnyH_take (i := 2) (v := ?_) (by simp only [List.getElem?_toArray, List.getElem?_cons_succ, List.getElem?_cons_zero]; rfl) (by kernel_rfl) (by kernel_rfl) (by kernel_rfl) (by exact fun _ _ _ h => h) (Or.inl ⟨by rfl, ?_⟩) (by assumption) ?_
                  rotate_left 1
                  · (intro w hSw; (try dsimp only at hSw); go_simp; try with_reducible rfl)
                  try simp only [Act.put, List.setIfInBounds_toArray, List.set_cons_zero, List.set_cons_succ]
                  refine wpAnyH_take (i := 3) (v := ?_) (by simp only [List.getElem?_toArray, List.getElem?_cons_succ, List.getElem?_cons_zero]; rfl) (by kernel_rfl) (by kernel_rfl) (by kernel_rfl) (by exact fun _ _ _ h => h) (Or.inl ⟨by rfl, ?_⟩) (by assumption) ?_
                  rotate_left 1
                  · (intro w hSw; (try dsimp only at hSw); go_simp; try with_reducible rfl)
                  try simp only [Act.put, List.setIfInBounds_toArray, List.set_cons_zero, List.set_cons_succ]
                  refine wpAnyH_take (i := 4) (v := ?_) (by simp only [List.getElem?_toArray, List.getElem?_cons_succ, List.getElem?_cons_zero]; rfl) (by kernel_rfl) (by kernel_rfl) (by kernel_rfl) (by exact fun _ _ _ h => h) (Or.inl ⟨by rfl, ?_⟩) (by assumption) ?_
                  rotate_left 1
                  · (intro w hSw; (try dsimp only at hSw); go_simp; try with_reducible rfl)
                  try simp only [Act.put, List.setIfInBounds_toArray, List.set_cons_zero, List.set_cons_succ]
                  refine wpAnyH_ready (rs := [5]) (by kernel_rfl) (by simp) ?_
                  refine AllReadyH.cons (by simp only [List.getElem?_toArray, List.getElem?_cons_succ, List.getElem?_cons_zero]; rfl) (fun K hK => ?_) AllReadyH.nil
                  go_simp
                  refine hK.out _ _ ?_ (fun hHeld2 => ?_)
                  · exact (only5 (Only.refl (fun j => j = w.heap.size) _) (fun _ => rfl)).drew.cell hHeld (fun e => hne0 e.symm)
                  clear hK K
                  try simp only [Act.put, List.setIfInBounds_toArray, List.set_cons_zero, List.set_cons_succ]
                  clear hHeld
                  have hHeld := hHeld2
                  clear hHeld2
                  refine wpAnyH_take (i := 6) (v := ?_) (by simp only [List.getElem?_toArray, List.getElem?_cons_succ, List.getElem?_cons_zero]; rfl) (by kernel_rfl) (by kernel_rfl) (by kernel_rfl) (by exact fun _ _ _ h => h) (Or.inl ⟨by rfl, ?_⟩) (by assumption) ?_
                  rotate_left 1
                  · (intro w hSw; (try dsimp only at hSw); go_simp; try with_reducible rfl)
                  try simp only [Act.put, List.setIfInBounds_toArray, List.set_cons_zero, List.set_cons_succ]
                  refine wpAnyH_done (by kernel_rfl) ?_ _
                  clear hHeld
                  generalize hfn : Tryz.f12 = fn at *
                  go_wp2
                  subst hfn
                  refine bodyPost_ret (v := .tuple #[.agg #[.slice none 0 0, .int .i64 0, .int .i64 0, .slice none 0 0, .slice none 0 0], .int .i64 e17]) (class_result (heap_drew (store5 hr)) rfl rfl) rfl ?_
                  refine ⟨_, _, _, ⟨[], 0, 0, [], []⟩, e17, rfl, ?_, ClassM.nil _, .inr ⟨HNE.out, HDEC.out, rfl, rfl, rfl, rfl⟩⟩
                  exact (only5 HON.out (fun hl => absurd hl (Nat.lt_irrefl _))).drew
                subst hz
                have H17 := Lib.hid (show GQ w w17 fb rb cb B (.slice (some ⟨g, o, none⟩) zs.length cap) (.slice ap np cp) zs cs (.ok zs.length) k17 e17 th su _ ts _ xs from hm)
                have hst := H17.out.cq.fl.e_ok
                obtain ⟨rfl, rfl⟩ := hst
                have q1 := cell_blk H17.out.cq.fl.blk 1
                simp at q1
                have hcc := H17.out.cq.blk
                have b0 := cell_blk hcc 0
                have b1 := cell_blk hcc 1
                have b2 := cell_blk hcc 2
                have b3 := cell_blk hcc 3
                have b4 := cell_blk hcc 4
                have hr := H17.out.cq.res
                have d0 := cell_blk hr 0
                have d1 := cell_blk hr 1
                have d2 := cell_blk hr 2
                have d3 := cell_blk hr 3
                have d4 := cell_blk hr 4
                have g0 := frozen_blk hr 0
                have g1 := frozen_blk hr 1
                have g2 := frozen_blk hr 2
                have g3 := frozen_blk hr 3
                have g4 := frozen_blk hr 4
                simp at b0 b1 b2 b3 b4 d0 d1 d2 d3 d4
                have HDM := Lib.hid (H17.out.dm HTR.out ⟨Vth.out, Vsu.out⟩)
                have HKEEP := Lib.hid (show ∀ u : World, Only (fun j => j = w.heap.size) w17 u → ClassM u (.slice ap np cp) (.slice at_ ts.length ct) (.slice am_ xs.length cm_) ⟨cs, th, su, ts, xs.map (·.1)⟩ from fun u hu => (HDM.out.keep hu (fun j hj => by have hj' : j = w.heap.size := hj; have := AC.out.cbn; have := AC.out.cB; omega) (fun j hj e => by have := AC.out.pn j hj; omega)).cls)
                have HDEC := Lib.hid (show DecC zs (.ok ⟨cs, th, su, ts, xs.map (·.1)⟩) from dec_body HNH.out HD.out (by rw [show bodyP cs zs (kh + m) = .ok (⟨cs, th, su, ts, xs.map (·.1)⟩, zs.length) from HBODY.out]; unfold endP; simp only; rw [if_pos trivial, if_pos HZ.out]))
                have hneR : w.heap.size ≠ cb := by have := AC.out.cbn; omega
                clear hto hm hcc H16 HDM
                generalize hfn : Tryz.f12 = fn at *
                go_wp2
                subst hfn
                refine bodyPost_ret (v := .tuple #[.agg #[.slice ap np cp, .int .i64 th, .int .i64 su, .slice at_ ts.length ct, .slice am_ xs.length cm_], .int .i64 0]) (class_result (store5 hr) rfl rfl) rfl ?_
                refine ⟨_, _, _, ⟨cs, th, su, ts, xs.map (·.1)⟩, 0, rfl, ?_, HKEEP.out _ ?_, .inl ⟨rfl, HDEC.out, HZ.out⟩⟩
                · exact only5 H17.out.cq.only (fun hl => absurd hl (Nat.lt_irrefl _))
                · exact only5 (Only.refl _ _) (fun _ => rfl)
      · have hnz : (mf : Int) ≤ (ts.length : Int) := by omega
        have HNF := Lib.hid (HTO.out.done (.inr (by omega)))
        clear hl HTO hlt
        clear hi hz0 hz1 hz2
        go_wp2_with (fail)
        clear q1
        refine (dfCount fb rb (.slice (some ⟨g, o, none⟩) zs.length cap) zs _ _ _ _ 2 (.inl rfl) 64 (by decide) HL.out.cq.fl).mono ?_
        rintro en w14 ⟨nm, σ14, rfl, hN, hb1, hto⟩
        obtain ⟨mm, rfl⟩ : ∃ mm : Nat, nm = mm := ⟨nm.toNat, by omega⟩
        have HN14 := Lib.hid hN
        have mm1 := hb1.2
        obtain ⟨k14, e14, hm⟩ := HL.out.call AC.out hto
        have H14 := Lib.hid (show GQ w w14 fb rb cb B (.slice (some ⟨g, o, none⟩) zs.length cap) (.slice ap np cp) zs cs σ14 k14 e14 th su (.slice at_ ts.length ct) ts (.slice none 0 0) [] from ⟨hm.cq, hm.rg, RowG.nil _ _, fun x hx => (by cases hx), fun j _ e => (by cases e), hm.sz⟩)
        clear hN hb1 hto hm HL
        obtain ⟨i0, hi, hz0, hz1, hz2⟩ := info_parts info_method
        go_wp2
        go_loopw [10] (fun i wr2 => ∃ (xs : List (MethodV × Value × Value × Value)) (σj : StZ) (kj : Nat) (ej : Int) (vt : Value), i = .int .i64 xs.length ∧ xs.length ≤ mm ∧ ListS (methodP cs) mm zs σ14 (xs.map (·.1)) σj ∧ GQ w wr2 fb rb cb B (.slice (some ⟨g, o, none⟩) zs.length cap) (.slice ap np cp) zs cs σj kj ej th su (.slice at_ ts.length ct) ts vt xs) (fun i _ => mm - (intOf i).toNat)
        case atStart => exact ⟨[], σ14, k14, e14, _, rfl, Nat.zero_le _, ListS.start, H14.out⟩
        case round =>
          obtain ⟨xs, σm, km, em, vt2, rfl, hle2, hto, hl⟩ := hrel
          obtain ⟨am_, cm_, rfl, _, _⟩ := slice_of_owns hl.rg
          have HTO := Lib.hid hto
          have HL := Lib.hid hl
          have q1 := cell_blk hl.cq.fl.blk 1
          simp at q1
          clear hto H14
          by_cases hlt2 : xs.length < mm
          · have hltz2 : (xs.length : Int) < (mm : Int) := by omega
            cases σm with
            | ok kk =>
              have hkk := hl.cq.fl.e_ok
              have HLT := Lib.hid hlt2
              obtain ⟨_, rfl⟩ := hkk
              have HL0 := Lib.hid (HL.out.idle (Only.refl (fun _ => False) _).drew)
              have q6 := cell_blk HL0.out.cq.blk 4
              simp at q6
              clear HL hl
              go_wp2_with (fail)
              refine wp_region_held_drew (S := fun _ => True) (by kernel_rfl) trivial (fun hHeld => ?_)
              refine wpAnyH_take (i := 0) (v := ?_) (by simp only [List.getElem?_toArray, List.getElem?_cons_succ, List.getElem?_cons_zero]; rfl) (by kernel_rfl) (by kernel_rfl) (by kernel_rfl) (by exact fun _ _ _ h => h) (Or.inl ⟨by rfl, ?_⟩) (by assumption) ?_
              rotate_left 1
              · (intro w hSw; (try dsimp only at hSw); go_simp; try with_reducible rfl)
              try simp only [Act.put, List.setIfInBounds_toArray, List.set_cons_zero, List.set_cons_succ]
              refine wpAnyH_take (i := 2) (v := ?_) (by simp only [List.getElem?_toArray, List.getElem?_cons_succ, List.getElem?_cons_zero]; rfl) (by kernel_rfl) (by kernel_rfl) (by kernel_rfl) (by exact fun _ _ _ h => h) (Or.inl ⟨by rfl, ?_⟩) (by assumption) ?_
              rotate_left 1
              · (intro w hSw; (try dsimp only at hSw); go_simp; try with_reducible rfl)
              try simp only [Act.put, List.setIfInBounds_toArray, List.set_cons_zero, List.set_cons_succ]
              refine wpAnyH_take (i := 3) (v := ?_) (by simp only [List.getElem?_toArray, List.getElem?_cons_succ, List.getElem?_cons_zero]; rfl) (by kernel_rfl) (by kernel_rfl) (by kernel_rfl) (by exact fun _ _ _ h => h) (Or.inl ⟨by rfl, ?_⟩) (by assumption) ?_
              rotate_left 1
              · (intro w hSw; (try dsimp only at hSw); go_simp; try with_reducible rfl)
              try simp only [Act.put, List.setIfInBounds_toArray, List.set_cons_zero, List.set_cons_succ]
              refine wpAnyH_ready (rs := [1, 4]) (by kernel_rfl) (by simp) ?_
              refine AllReadyH.cons (by simp only [List.getElem?_toArray, List.getElem?_cons_succ, List.getElem?_cons_zero]; rfl) (fun K hK => ?_) ?_
              · go_simp
                refine hK.out _ _ trivial (fun hHeld2 => ?_)
                clear hK K
                try simp only [Act.put, List.setIfInBounds_toArray, List.set_cons_zero, List.set_cons_succ]
                clear hHeld
                have hHeld := hHeld2
                clear hHeld2
                refine wpAnyH_ready (rs := [4]) (by kernel_rfl) (by simp) ?_
                refine AllReadyH.cons (by simp only [List.getElem?_toArray, List.getElem?_cons_succ, List.getElem?_cons_zero]; rfl) (fun K hK => ?_) AllReadyH.nil
                go_simp
                refine (dfMethod fb rb (.slice (some ⟨g, o, none⟩) zs.length cap) zs _ _ _ _ ap np cp cs HL0.out.cq.pool (fun j hj => ⟨Nat.lt_of_lt_of_le (AC.out.pn j hj).2.1 HL0.out.sz, by have := AC.out.pn j hj; omega⟩) HL0.out.cq.fl).mono ?_
                rintro en wc1 ⟨mt, vc, vtt, vmm, σt1, rfl, hN, hto, hin, hmr⟩
                have T1 := Lib.hid hN
                obtain ⟨kt1, et1, hl⟩ := HL0.out.call AC.out hto
                have HL1 := Lib.hid hl
                obtain ⟨ac, cc, rfl, _, _⟩ := slice_of_owns hin.code
                obtain ⟨at2, ct2, rfl, _, _⟩ := slice_of_owns hin.traps
                obtain ⟨am, cm, rfl, _, _⟩ := slice_of_owns hin.maps
                have HMT := Lib.hid (show MethodR mt ∧ MIn wc1 B mt (.slice ac mt.code.length cc) (.slice at2 mt.traps.length ct2) (.slice am mt.maps.length cm) ∧ Off (.slice am_ xs.length cm_) (.slice ac mt.code.length cc) (.slice at2 mt.traps.length ct2) (.slice am mt.maps.length cm) from
                  ⟨hmr, hin.base HL0.out.sz, ⟨fun j hj e => by have h1 := (hin.code.ge j hj).1; have h2 := (RowG.ge HL0.out.rg j e).2; omega, fun j hj e => by have h1 := (RowG.ge hin.traps j hj).1; have h2 := (RowG.ge HL0.out.rg j e).2; omega, fun j hj e => by have h1 := (hin.maps.ge j hj).1; have h2 := (RowG.ge HL0.out.rg j e).2; omega⟩⟩)
                have q6 := cell_blk HL1.out.cq.blk 4
                simp at q6
                clear hN hto hl hin hmr
                go_wp2_with fail
                refine hK.out _ _ trivial (fun hHeld2 => ?_)
                clear hK K
                try simp only [Act.put, List.setIfInBounds_toArray, List.set_cons_zero, List.set_cons_succ]
                clear hHeld
                have hHeld := hHeld2
                clear hHeld2
                refine wpAnyH_ready (rs := [5]) (by kernel_rfl) (by simp) ?_
                refine AllReadyH.cons (by simp only [List.getElem?_toArray, List.getElem?_cons_succ, List.getElem?_cons_zero]; rfl) (fun K hK => ?_) AllReadyH.nil
                go_simp
                have HLa := Lib.hid (HL1.out.idle ((Only.refl (fun _ => False) wc1).alloc (.cells #[.int .i64 mt.flags, .int .i64 mt.name, .int .i64 mt.desc, .int .i64 mt.stack, .int .i64 mt.locals, .slice ac mt.code.length cc, .slice at2 mt.traps.length ct2, .slice am mt.maps.length cm] 62)))
                have HMa := Lib.hid (And.intro HMT.out.1 (And.intro (HMT.out.2.1.keep ((Only.refl (fun _ => False) wc1).alloc (.cells #[.int .i64 mt.flags, .int .i64 mt.name, .int .i64 mt.desc, .int .i64 mt.stack, .int .i64 mt.locals, .slice ac mt.code.length cc, .slice at2 mt.traps.length ct2, .slice am mt.maps.length cm] 62)) (fun j hj => hj.elim)) HMT.out.2.2))
                have q6 := cell_blk HLa.out.cq.blk 4
                simp at q6
                refine hK.out _ _ trivial (fun hHeld2 => ?_)
                clear hK K
                try simp only [Act.put, List.setIfInBounds_toArray, List.set_cons_zero, List.set_cons_succ]
                clear hHeld
                have hHeld := hHeld2
                clear hHeld2
                refine wpAnyH_ready (rs := [6]) (by kernel_rfl) (by simp) ?_
                refine AllReadyH.cons (by simp only [List.getElem?_toArray, List.getElem?_cons_succ, List.getElem?_cons_zero]; rfl) (fun K hK => ?_) AllReadyH.nil
                (refine step_append_src rfl (.tmp 125) (.tmp 129) 24 rfl 62 i0 (.agg #[.int .i64 0, .int .i64 0, .int .i64 0, .int .i64 0, .int .i64 0, .slice none 0 0, .slice none 0 0, .slice none 0 0]) 8 112 Tryz.underlying24 hi hz0 hz1 hz2 rfl (by decide) B (.slice am_ xs.length cm_) xs.length (xs.flatMap cellsM) rfl (by exact HLa.out.rg) (by exact HLa.out.sz) (.slice (some ⟨wc1.heap.size, 0, none⟩) 1 1) 1 (cellsM (mt, .slice ac mt.code.length cc, .slice at2 mt.traps.length ct2, .slice am mt.maps.length cm)) rfl (by exact Src.struct (w := wc1) (cellsM (mt, .slice ac mt.code.length cc, .slice at2 mt.traps.length ct2, .slice am mt.maps.length cm)) rfl (by intro u hu; simp [cellsM] at hu; rcases hu with rfl | rfl | rfl | rfl | rfl | rfl | rfl | rfl <;> rfl) rfl) (by unfold maxLen; omega) (by omega) ?_; intro v' wz hown hgrow hnew; obtain ⟨av', cv', rfl, _, _⟩ := slice_of_owns hown)
                obtain ⟨hp, q6, f6⟩ := HLa.out.push AC.out HMa.out hown hgrow hnew
                have HP := Lib.hid hp
                clear hown hgrow hnew hp
                refine hK.out _ _ trivial (fun hHeld2 => ?_)
                clear hK K
                try simp only [Act.put, List.setIfInBounds_toArray, List.set_cons_zero, List.set_cons_succ]
                clear hHeld
                have hHeld := hHeld2
                clear hHeld2
                refine wpAnyH_take (i := 7) (v := ?_) (by simp only [List.getElem?_toArray, List.getElem?_cons_succ, List.getElem?_cons_zero]; rfl) (by kernel_rfl) (by kernel_rfl) (by kernel_rfl) (by exact fun _ _ _ h => h) (Or.inl ⟨by rfl, ?_⟩) (by assumption) ?_
                rotate_left 1
                · (intro w hSw; (try dsimp only at hSw); go_simp; try with_reducible rfl)
                try simp only [Act.put, List.setIfInBounds_toArray, List.set_cons_zero, List.set_cons_succ]
                refine wpAnyH_ready (rs := [8]) (by kernel_rfl) (by simp) ?_
                refine AllReadyH.cons (by simp only [List.getElem?_toArray, List.getElem?_cons_succ, List.getElem?_cons_zero]; rfl) (fun K hK => ?_) AllReadyH.nil
                go_simp
                refine hK.out _ _ trivial (fun hHeld2 => ?_)
                clear hK K
                try simp only [Act.put, List.setIfInBounds_toArray, List.set_cons_zero, List.set_cons_succ]
                clear hHeld
                have hHeld := hHeld2
                clear hHeld2
                refine wpAnyH_done (by kernel_rfl) ?_ _
                clear hHeld
                go_wp2
                go_roundw
                case rel =>
                  exact ⟨xs ++ [(mt, .slice ac mt.code.length cc, .slice at2 mt.traps.length ct2, .slice am mt.maps.length cm)], σt1, kt1, et1, _, by simp, by simp; omega, by rw [List.map_append]; exact HTO.out.more (by simpa using HLT.out) T1.out, HP.out⟩
                case measure => simp [intOf]; omega
              refine AllReadyH.cons (by simp only [List.getElem?_toArray, List.getElem?_cons_succ, List.getElem?_cons_zero]; rfl) (fun K hK => ?_) AllReadyH.nil
              go_simp
              refine (dfMethod fb rb (.slice (some ⟨g, o, none⟩) zs.length cap) zs _ _ _ _ ap np cp cs HL0.out.cq.pool (fun j hj => ⟨Nat.lt_of_lt_of_le (AC.out.pn j hj).2.1 HL0.out.sz, by have := AC.out.pn j hj; omega⟩) HL0.out.cq.fl).mono ?_
              rintro en wc1 ⟨mt, vc, vtt, vmm, σt1, rfl, hN, hto, hin, hmr⟩
              have T1 := Lib.hid hN
              obtain ⟨kt1, et1, hl⟩ := HL0.out.call AC.out hto
              have HL1 := Lib.hid hl
              obtain ⟨ac, cc, rfl, _, _⟩ := slice_of_owns hin.code
              obtain ⟨at2, ct2, rfl, _, _⟩ := slice_of_owns hin.traps
              obtain ⟨am, cm, rfl, _, _⟩ := slice_of_owns hin.maps
              have HMT := Lib.hid (show MethodR mt ∧ MIn wc1 B mt (.slice ac mt.code.length cc) (.slice at2 mt.traps.length ct2) (.slice am mt.maps.length cm) ∧ Off (.slice am_ xs.length cm_) (.slice ac mt.code.length cc) (.slice at2 mt.traps.length ct2) (.slice am mt.maps.length cm) from
                ⟨hmr, hin.base HL0.out.sz, ⟨fun j hj e => by have h1 := (hin.code.ge j hj).1; have h2 := (RowG.ge HL0.out.rg j e).2; omega, fun j hj e => by have h1 := (RowG.ge hin.traps j hj).1; have h2 := (RowG.ge HL0.out.rg j e).2; omega, fun j hj e => by have h1 := (hin.maps.ge j hj).1; have h2 := (RowG.ge HL0.out.rg j e).2; omega⟩⟩)
              have q6 := cell_blk HL1.out.cq.blk 4
              simp at q6
              clear hN hto hl hin hmr
              go_wp2_with fail
              refine hK.out _ _ trivial (fun hHeld2 => ?_)
              clear hK K
              try simp only [Act.put, List.setIfInBounds_toArray, List.set_cons_zero, List.set_cons_succ]
              clear hHeld
              have hHeld := hHeld2
              clear hHeld2
              refine wpAnyH_ready (rs := [1, 5]) (by kernel_rfl) (by simp) ?_
              refine AllReadyH.cons (by simp only [List.getElem?_toArray, List.getElem?_cons_succ, List.getElem?_cons_zero]; rfl) (fun K hK => ?_) ?_
              · go_simp
                refine hK.out _ _ trivial (fun hHeld2 => ?_)
                clear hK K
                try simp only [Act.put, List.setIfInBounds_toArray, List.set_cons_zero, List.set_cons_succ]
                clear hHeld
                have hHeld := hHeld2
                clear hHeld2
                refine wpAnyH_ready (rs := [5]) (by kernel_rfl) (by simp) ?_
                refine AllReadyH.cons (by simp only [List.getElem?_toArray, List.getElem?_cons_succ, List.getElem?_cons_zero]; rfl) (fun K hK => ?_) AllReadyH.nil
                go_simp
                have HLa := Lib.hid (HL1.out.idle ((Only.refl (fun _ => False) wc1).alloc (.cells #[.int .i64 mt.flags, .int .i64 mt.name, .int .i64 mt.desc, .int .i64 mt.stack, .int .i64 mt.locals, .slice ac mt.code.length cc, .slice at2 mt.traps.length ct2, .slice am mt.maps.length cm] 62)))
                have HMa := Lib.hid (And.intro HMT.out.1 (And.intro (HMT.out.2.1.keep ((Only.refl (fun _ => False) wc1).alloc (.cells #[.int .i64 mt.flags, .int .i64 mt.name, .int .i64 mt.desc, .int .i64 mt.stack, .int .i64 mt.locals, .slice ac mt.code.length cc, .slice at2 mt.traps.length ct2, .slice am mt.maps.length cm] 62)) (fun j hj => hj.elim)) HMT.out.2.2))
                have q6 := cell_blk HLa.out.cq.blk 4
                simp at q6
                refine hK.out _ _ trivial (fun hHeld2 => ?_)
                clear hK K
                try simp only [Act.put, List.setIfInBounds_toArray, List.set_cons_zero, List.set_cons_succ]
                clear hHeld
                have hHeld := hHeld2
                clear hHeld2
                refine wpAnyH_ready (rs := [6]) (by kernel_rfl) (by simp) ?_
                refine AllReadyH.cons (by simp only [List.getElem?_toArray, List.getElem?_cons_succ, List.getElem?_cons_zero]; rfl) (fun K hK => ?_) AllReadyH.nil
                (refine step_append_src rfl (.tmp 125) (.tmp 129) 24 rfl 62 i0 (.agg #[.int .i64 0, .int .i64 0, .int .i64 0, .int .i64 0, .int .i64 0, .slice none 0 0, .slice none 0 0, .slice none 0 0]) 8 112 Tryz.underlying24 hi hz0 hz1 hz2 rfl (by decide) B (.slice am_ xs.length cm_) xs.length (xs.flatMap cellsM) rfl (by exact HLa.out.rg) (by exact HLa.out.sz) (.slice (some ⟨wc1.heap.size, 0, none⟩) 1 1) 1 (cellsM (mt, .slice ac mt.code.length cc, .slice at2 mt.traps.length ct2, .slice am mt.maps.length cm)) rfl (by exact Src.struct (w := wc1) (cellsM (mt, .slice ac mt.code.length cc, .slice at2 mt.traps.length ct2, .slice am mt.maps.length cm)) rfl (by intro u hu; simp [cellsM] at hu; rcases hu with rfl | rfl | rfl | rfl | rfl | rfl | rfl | rfl <;> rfl) rfl) (by unfold maxLen; omega) (by omega) ?_; intro v' wz hown hgrow hnew; obtain ⟨av', cv', rfl, _, _⟩ := slice_of_owns hown)
                obtain ⟨hp, q6, f6⟩ := HLa.out.push AC.out HMa.out hown hgrow hnew
                have HP := Lib.hid hp
                clear hown hgrow hnew hp
                refine hK.out _ _ trivial (fun hHeld2 => ?_)
                clear hK K
                try simp only [Act.put, List.setIfInBounds_toArray, List.set_cons_zero, List.set_cons_succ]
                clear hHeld
                have hHeld := hHeld2
                clear hHeld2
                refine wpAnyH_take (i := 7) (v := ?_) (by simp only [List.getElem?_toArray, List.getElem?_cons_succ, List.getElem?_cons_zero]; rfl) (by kernel_rfl) (by kernel_rfl) (by kernel_rfl) (by exact fun _ _ _ h => h) (Or.inl ⟨by rfl, ?_⟩) (by assumption) ?_
                rotate_left 1
                · (intro w hSw; (try dsimp only at hSw); go_simp; try with_reducible rfl)
                try simp only [Act.put, List.setIfInBounds_toArray, List.set_cons_zero, List.set_cons_succ]
                refine wpAnyH_ready (rs := [8]) (by kernel_rfl) (by simp) ?_
                refine AllReadyH.cons (by simp only [List.getElem?_toArray, List.getElem?_cons_succ, List.getElem?_cons_zero]; rfl) (fun K hK => ?_) AllReadyH.nil
                go_simp
                refine hK.out _ _ trivial (fun hHeld2 => ?_)
                clear hK K
                try simp only [Act.put, List.setIfInBounds_toArray, List.set_cons_zero, List.set_cons_succ]
                clear hHeld
                have hHeld := hHeld2
                clear hHeld2
                refine wpAnyH_done (by kernel_rfl) ?_ _
                clear hHeld
                go_wp2
                go_roundw
                case rel =>
                  exact ⟨xs ++ [(mt, .slice ac mt.code.length cc, .slice at2 mt.traps.length ct2, .slice am mt.maps.length cm)], σt1, kt1, et1, _, by simp, by simp; omega, by rw [List.map_append]; exact HTO.out.more (by simpa using HLT.out) T1.out, HP.out⟩
                case measure => simp [intOf]; omega
              refine AllReadyH.cons (by simp only [List.getElem?_toArray, List.getElem?_cons_succ, List.getElem?_cons_zero]; rfl) (fun K hK => ?_) AllReadyH.nil
              go_simp
              have HLa := Lib.hid (HL1.out.idle ((Only.refl (fun _ => False) wc1).alloc (.cells #[.int .i64 mt.flags, .int .i64 mt.name, .int .i64 mt.desc, .int .i64 mt.stack, .int .i64 mt.locals, .slice ac mt.code.length cc, .slice at2 mt.traps.length ct2, .slice am mt.maps.length cm] 62)))
              have HMa := Lib.hid (And.intro HMT.out.1 (And.intro (HMT.out.2.1.keep ((Only.refl (fun _ => False) wc1).alloc (.cells #[.int .i64 mt.flags, .int .i64 mt.name, .int .i64 mt.desc, .int .i64 mt.stack, .int .i64 mt.locals, .slice ac mt.code.length cc, .slice at2 mt.traps.length ct2, .slice am mt.maps.length cm] 62)) (fun j hj => hj.elim)) HMT.out.2.2))
              have q6 := cell_blk HLa.out.cq.blk 4
              simp at q6
              refine hK.out _ _ trivial (fun hHeld2 => ?_)
              clear hK K
              try simp only [Act.put, List.setIfInBounds_toArray, List.set_cons_zero, List.set_cons_succ]
              clear hHeld
              have hHeld := hHeld2
              clear hHeld2
              refine wpAnyH_ready (rs := [1]) (by kernel_rfl) (by simp) ?_
              refine AllReadyH.cons (by simp only [List.getElem?_toArray, List.getElem?_cons_succ, List.getElem?_cons_zero]; rfl) (fun K hK => ?_) AllReadyH.nil
              go_simp
              refine hK.out _ _ trivial (fun hHeld2 => ?_)
              clear hK K
              try simp only [Act.put, List.setIfInBounds_toArray, List.set_cons_zero, List.set_cons_succ]
              clear hHeld
              have hHeld := hHeld2
              clear hHeld2
              refine wpAnyH_ready (rs := [6]) (by kernel_rfl) (by simp) ?_
              refine AllReadyH.cons (by simp only [List.getElem?_toArray, List.getElem?_cons_succ, List.getElem?_cons_zero]; rfl) (fun K hK => ?_) AllReadyH.nil
              (refine step_append_src rfl (.tmp 125) (.tmp 129) 24 rfl 62 i0 (.agg #[.int .i64 0, .int .i64 0, .int .i64 0, .int .i64 0, .int .i64 0, .slice none 0 0, .slice none 0 0, .slice none 0 0]) 8 112 Tryz.underlying24 hi hz0 hz1 hz2 rfl (by decide) B (.slice am_ xs.length cm_) xs.length (xs.flatMap cellsM) rfl (by exact HLa.out.rg) (by exact HLa.out.sz) (.slice (some ⟨wc1.heap.size, 0, none⟩) 1 1) 1 (cellsM (mt, .slice ac mt.code.length cc, .slice at2 mt.traps.length ct2, .slice am mt.maps.length cm)) rfl (by exact Src.struct (w := wc1) (cellsM (mt, .slice ac mt.code.length cc, .slice at2 mt.traps.length ct2, .slice am mt.maps.length cm)) rfl (by intro u hu; simp [cellsM] at hu; rcases hu with rfl | rfl | rfl | rfl | rfl | rfl | rfl | rfl <;> rfl) rfl) (by unfold maxLen; omega) (by omega) ?_; intro v' wz hown hgrow hnew; obtain ⟨av', cv', rfl, _, _⟩ := slice_of_owns hown)
              obtain ⟨hp, q6, f6⟩ := HLa.out.push AC.out HMa.out hown hgrow hnew
              have HP := Lib.hid hp
              clear hown hgrow hnew hp
              refine hK.out _ _ trivial (fun hHeld2 => ?_)
              clear hK K
              try simp only [Act.put, List.setIfInBounds_toArray, List.set_cons_zero, List.set_cons_succ]
              clear hHeld
              have hHeld := hHeld2
              clear hHeld2
              refine wpAnyH_take (i := 7) (v := ?_) (by simp only [List.getElem?_toArray, List.getElem?_cons_succ, List.getElem?_cons_zero]; rfl) (by kernel_rfl) (by kernel_rfl) (by kernel_rfl) (by exact fun _ _ _ h => h) (Or.inl ⟨by rfl, ?_⟩) (by assumption) ?_
              rotate_left 1
              · (intro w hSw; (try dsimp only at hSw); go_simp; try with_reducible rfl)
              try simp only [Act.put, List.setIfInBounds_toArray, List.set_cons_zero, List.set_cons_succ]
              refine wpAnyH_ready (rs := [8]) (by kernel_rfl) (by simp) ?_
              refine AllReadyH.cons (by simp only [List.getElem?_toArray, List.getElem?_cons_succ, List.getElem?_cons_zero]; rfl) (fun K hK => ?_) AllReadyH.nil
              go_simp
              refine hK.out _ _ trivial (fun hHeld2 => ?_)
              clear hK K
              try simp only [Act.put, List.setIfInBounds_toArray, List.set_cons_zero, List.set_cons_succ]
              clear hHeld
              have hHeld := hHeld2
              clear hHeld2
              refine wpAnyH_done (by kernel_rfl) ?_ _
              clear hHeld
              go_wp2
              go_roundw
              case rel =>
                exact ⟨xs ++ [(mt, .slice ac mt.code.length cc, .slice at2 mt.traps.length ct2, .slice am mt.maps.length cm)], σt1, kt1, et1, _, by simp, by simp; omega, by rw [List.map_append]; exact HTO.out.more (by simpa using HLT.out) T1.out, HP.out⟩
              case measure => simp [intOf]; omega
            | error y =>
              have hyy := hl.cq.fl.e_no
              obtain ⟨rfl, hy⟩ := hyy
              have hyb2 : (em == 0) = false := by simpa using hy
              have HNM := Lib.hid (HTO.out.done (.inl ⟨_, rfl⟩))
              clear hl hy HTO
              clear hi hz0 hz1 hz2
              go_wp2_with (fail)
              clear q1
              refine (dfMust fb rb (.slice (some ⟨g, o, none⟩) zs.length cap) zs _ _ _ _ 0 HL.out.cq.fl).mono ?_
              rintro en w15 ⟨σ15, rfl, hN, hto⟩
              have HN15 := Lib.hid hN
              obtain ⟨k15, e15, hm⟩ := HL.out.call AC.out hto
              have H15 := Lib.hid hm
              have HBODY := Lib.hid (show Nx (bodyP cs) zs (.ok (kh + m)) ⟨cs, th, su, ts, xs.map (·.1)⟩ σ15 from HN9.out.bind (HN10.out.bind (HN11.out.bind (HN12.out.bind (HN13.out.bind (HNF.out.bind (HN14.out.bind (HNM.out.bind (HN15.out.bind (Nx.ret _ _ _))))))))))
              clear hN hto hm HL HN9 HN10 HN11 HN12 HN13 HNF HN14 HNM HN15
              cases σ15 with
              | error y =>
                have HF := Lib.hid H15.out.cq.fl
                have hyn := H15.out.cq.fl.e_no
                obtain ⟨rfl, hyn⟩ := hyn
                have HNE := Lib.hid hyn
                have HON := Lib.hid H15.out.cq.only
                have HRES := Lib.hid H15.out.cq.res
                have HDEC := Lib.hid (show DecC zs (.error e15) from dec_body HNH.out HD.out (by rw [show bodyP cs zs (kh + m) = .error e15 from HBODY.out]; rfl))
                clear hyn H15
                have q1 := cell_blk HF.out.blk 1
                simp at q1
                have hyb : (e15 != 0) = true := by first | decide | (have := HNE.out; simpa using this)
                have hyc : (e15 == 0) = false := by first | decide | (have := HNE.out; simpa using this)
                have hr := HRES.out
                have d0 := cell_blk hr 0
                have d1 := cell_blk hr 1
                have d2 := cell_blk hr 2
                have d3 := cell_blk hr 3
                have d4 := cell_blk hr 4
                have g0 := frozen_blk hr 0
                have g1 := frozen_blk hr 1
                have g2 := frozen_blk hr 2
                have g3 := frozen_blk hr 3
                have g4 := frozen_blk hr 4
                simp at d0 d1 d2 d3 d4
                have hne0 : w.heap.size ≠ fb := by have := HFN.out; omega
                go_wp2_with (fail)
                refine wp_region_held_drew (S := fun wc => wc.cell? ⟨fb, 1, none⟩ = some (.int .i64 e15)) (by kernel_rfl) q1 (fun hHeld => ?_)
                refine wpAnyH_take (i := 0) (v := ?_) (by simp only [List.getElem?_toArray, List.getElem?_cons_succ, List.getElem?_cons_zero]; rfl) (by kernel_rfl) (by kernel_rfl) (by kernel_rfl) (by exact fun _ _ _ h => h) (Or.inl ⟨by rfl, ?_⟩) (by assumption) ?_
                rotate_left 1
                · (intro w hSw; (try dsimp only at hSw); go_simp; try with_reducible rfl)
                try simp only [Act.put, List.setIfInBounds_toArray, List.set_cons_zero, List.set_cons_succ]
                refine wpAnyH_take (i := 1) (v := ?_) (by simp only [List.getElem?_toArray, List.getElem?_cons_succ, List.getElem?_cons_zero]; rfl) (by kernel_rfl) (by kernel_rfl) (by kernel_rfl) (by exact fun _ _ _ h => h) (Or.inl ⟨by rfl, ?_⟩) (by assumption) ?_
                rotate_left 1
                · (intro w hSw; (try dsimp only at hSw); go_simp; try with_reducible rfl)
                try simp only [Act.put, List.setIfInBounds_toArray, List.set_cons_zero, List.set_cons_succ]
                refine wpAnyH_take (i := 2) (v := ?_) (by simp only [List.getElem?_toArray, List.getElem?_cons_succ, List.getElem?_cons_zero]; rfl) (by kernel_rfl) (by kernel_rfl) (by kernel_rfl) (by exact fun _ _ _ h => h) (Or.inl ⟨by rfl, ?_⟩) (by assumption) ?_
                rotate_left 1
                · (intro w hSw; (try dsimp only at hSw); go_simp; try with_reducible rfl)
                try simp only [Act.put, List.setIfInBounds_toArray, List.set_cons_zero, List.set_cons_succ]
                refine wpAnyH_take (i := 3) (v := ?_) (by simp only [List.getElem?_toArray, List.getElem?_cons_succ, List.getElem?_cons_zero]; rfl) (by kernel_rfl) (by kernel_rfl) (by kernel_rfl) (by exact fun _ _ _ h => h) (Or.inl ⟨by rfl, ?_⟩) (by assumption) ?_
                rotate_left 1
                · (intro w hSw; (try dsimp only at hSw); go_simp; try with_reducible rfl)
                try simp only [Act.put, List.setIfInBounds_toArray, List.set_cons_zero, List.set_cons_succ]
                refine wpAnyH_take (i := 4) (v := ?_) (by simp only [List.getElem?_toArray, List.getElem?_cons_succ, List.getElem?_cons_zero]; rfl) (by kernel_rfl) (by kernel_rfl) (by kernel_rfl) (by exact fun _ _ _ h => h) (Or.inl ⟨by rfl, ?_⟩) (by assumption) ?_
                rotate_left 1
                · (intro w hSw; (try dsimp only at hSw); go_simp; try with_reducible rfl)
                try simp only [Act.put, List.setIfInBounds_toArray, List.set_cons_zero, List.set_cons_succ]
                refine wpAnyH_ready (rs := [5]) (by kernel_rfl) (by simp) ?_
                refine AllReadyH.cons (by simp only [List.getElem?_toArray, List.getElem?_cons_succ, List.getElem?_cons_zero]; rfl) (fun K hK => ?_) AllReadyH.nil
                go_simp
                refine hK.out _ _ ?_ (fun hHeld2 => ?_)
                · exact (only5 (Only.refl (fun j => j = w.heap.size) _) (fun _ => rfl)).drew.cell hHeld (fun e => hne0 e.symm)
                clear hK K
                try simp only [Act.put, List.setIfInBounds_toArray, List.set_cons_zero, List.set_cons_succ]
                clear hHeld
                have hHeld := hHeld2
                clear hHeld2
                refine wpAnyH_take (i := 6) (v := ?_) (by simp only [List.getElem?_toArray, List.getElem?_cons_succ, List.getElem?_cons_zero]; rfl) (by kernel_rfl) (by kernel_rfl) (by kernel_rfl) (by exact fun _ _ _ h => h) (Or.inl ⟨by rfl, ?_⟩) (by assumption) ?_
                rotate_left 1
                · (intro w hSw; (try dsimp only at hSw); go_simp; try with_reducible rfl)
                try simp only [Act.put, List.setIfInBounds_toArray, List.set_cons_zero, List.set_cons_succ]
                refine wpAnyH_done (by kernel_rfl) ?_ _
                clear hHeld
                generalize hfn : Tryz.f12 = fn at *
                go_wp2
                subst hfn
                refine bodyPost_ret (v := .tuple #[.agg #[.slice none 0 0, .int .i64 0, .int .i64 0, .slice none 0 0, .slice none 0 0], .int .i64 e15]) (class_result (heap_drew (store5 hr)) rfl rfl) rfl ?_
                refine ⟨_, _, _, ⟨[], 0, 0, [], []⟩, e15, rfl, ?_, ClassM.nil _, .inr ⟨HNE.out, HDEC.out, rfl, rfl, rfl, rfl⟩⟩
                exact (only5 HON.out (fun hl => absurd hl (Nat.lt_irrefl _))).drew
              | ok kE =>
                have hst := H15.out.cq.fl.e_ok
                obtain ⟨rfl, rfl⟩ := hst
                have q0 := cell_blk H15.out.cq.fl.blk 0
                have q1 := cell_blk H15.out.cq.fl.blk 1
                have r1 := cell_blk H15.out.cq.fl.rf.blk 1
                simp at q0 q1 r1
                by_cases hkE : kE = zs.length
                rotate_left
                · have hke : ((kE : Int) == (zs.length : Int)) = false := by simp only [beq_eq_false_iff_ne]; omega
                  have HDEC := Lib.hid (show DecC zs (.error 50) from dec_body HNH.out HD.out (by rw [show bodyP cs zs (kh + m) = .ok (⟨cs, th, su, ts, xs.map (·.1)⟩, kE) from HBODY.out]; unfold endP; simp only; rw [if_neg hkE]))
                  clear hkE
                  go_wp2_with (fail)
                  refine (dfFail fb rb (.slice (some ⟨g, o, none⟩) zs.length cap) zs _ _ _ _ 50 H15.out.cq.fl).mono ?_
                  rintro en w16 ⟨rfl, hto⟩
                  obtain ⟨k16, e16, hm⟩ := H15.out.call AC.out hto
                  have HF := Lib.hid (show Fl w16 fb rb (.slice (some ⟨g, o, none⟩) zs.length cap) zs (.error 50) k16 e16 from hm.cq.fl)
                  have hyn := HF.out.e_no
                  obtain ⟨rfl, hyn⟩ := hyn
                  have HNE := Lib.hid hyn
                  have HON := Lib.hid hm.cq.only
                  have HRES := Lib.hid hm.cq.res
                  clear hyn hto hm H15 q0 q1 r1 hke
                  have q1 := cell_blk HF.out.blk 1
                  simp at q1
                  have hyb : (50 != 0) = true := by first | decide | (have := HNE.out; simpa using this)
                  have hyc : (50 == 0) = false := by first | decide | (have := HNE.out; simpa using this)
                  have hr := HRES.out
                  have d0 := cell_blk hr 0
                  have d1 := cell_blk hr 1
                  have d2 := cell_blk hr 2
                  have d3 := cell_blk hr 3
                  have d4 := cell_blk hr 4
                  have g0 := frozen_blk hr 0
                  have g1 := frozen_blk hr 1
                  have g2 := frozen_blk hr 2
                  have g3 := frozen_blk hr 3
                  have g4 := frozen_blk hr 4
                  simp at d0 d1 d2 d3 d4
                  have hne0 : w.heap.size ≠ fb := by have := HFN.out; omega
                  go_wp2_with (fail)
                  refine wp_region_held_drew (S := fun wc => wc.cell? ⟨fb, 1, none⟩ = some (.int .i64 50)) (by kernel_rfl) q1 (fun hHeld => ?_)
                  refine wpAnyH_take (i := 0) (v := ?_) (by simp only [List.getElem?_toArray, List.getElem?_cons_succ, List.getElem?_cons_zero]; rfl) (by kernel_rfl) (by kernel_rfl) (by kernel_rfl) (by exact fun _ _ _ h => h) (Or.inl ⟨by rfl, ?_⟩) (by assumption) ?_
                  rotate_left 1
                  · (intro w hSw; (try dsimp only at hSw); go_simp; try with_reducible rfl)
                  try simp only [Act.put, List.setIfInBounds_toArray, List.set_cons_zero, List.set_cons_succ]
                  refine wpAnyH_take (i := 1) (v := ?_) (by simp only [List.getElem?_toArray, List.getElem?_cons_succ, List.getElem?_cons_zero]; rfl) (by kernel_rfl) (by kernel_rfl) (by kernel_rfl) (by exact fun _ _ _ h => h) (Or.inl ⟨by rfl, ?_⟩) (by assumption) ?_
                  rotate_left 1
                  · (intro w hSw; (try dsimp only at hSw); go_simp; try with_reducible rfl)
                  try simp only [Act.put, List.setIfInBounds_toArray, List.set_cons_zero, List.set_cons_succ]
                  refine wpAnyH_take (i := 2) (v := ?_) (by simp only [List.getElem?_toArray, List.getElem?_cons_succ, List.getElem?_cons_zero]; rfl) (by kernel_rfl) (by kernel_rfl) (by kernel_rfl) (by exact fun _ _ _ h => h) (Or.inl ⟨by rfl, ?_⟩) (by assumption) ?_
                  rotate_left 1
                  · (intro w hSw; (try dsimp only at hSw); go_simp; try with_reducible rfl)
                  try simp only [Act.put, List.setIfInBounds_toArray, List.set_cons_zero, List.set_cons_succ]
                  refine wpAnyH_take (i := 3) (v := ?_) (by simp only [List.getElem?_toArray, List.getElem?_cons_succ, List.getElem?_cons_zero]; rfl) (by kernel_rfl) (by kernel_rfl) (by kernel_rfl) (by exact fun _ _ _ h => h) (Or.inl ⟨by rfl, ?_⟩) (by assumption) ?_
                  rotate_left 1
                  · (intro w hSw; (try dsimp only at hSw); go_simp; try with_reducible rfl)
                  try simp only [Act.put, List.setIfInBounds_toArray, List.set_cons_zero, List.set_cons_succ]
                  refine wpAnyH_take (i := 4) (v := ?_) (by simp only [List.getElem?_toArray, List.getElem?_cons_succ, List.getElem?_cons_zero]; rfl) (by kernel_rfl) (by kernel_rfl) (by kernel_rfl) (by exact fun _ _ _ h => h) (Or.inl ⟨by rfl, ?_⟩) (by assumption) ?_
                  rotate_left 1
                  · (intro w hSw; (try dsimp only at hSw); go_simp; try with_reducible rfl)
                  try simp only [Act.put, List.setIfInBounds_toArray, List.set_cons_zero, List.set_cons_succ]
                  refine wpAnyH_ready (rs := [5]) (by kernel_rfl) (by simp) ?_
                  refine AllReadyH.cons (by simp only [List.getElem?_toArray, List.getElem?_cons_succ, List.getElem?_cons_zero]; rfl) (fun K hK => ?_) AllReadyH.nil
                  go_simp
                  refine hK.out _ _ ?_ (fun hHeld2 => ?_)
                  · exact (only5 (Only.refl (fun j => j = w.heap.size) _) (fun _ => rfl)).drew.cell hHeld (fun e => hne0 e.symm)
                  clear hK K
                  try simp only [Act.put, List.setIfInBounds_toArray, List.set_cons_zero, List.set_cons_succ]
                  clear hHeld
                  have hHeld := hHeld2
                  clear hHeld2
                  refine wpAnyH_take (i := 6) (v := ?_) (by simp only [List.getElem?_toArray, List.getElem?_cons_succ, List.getElem?_cons_zero]; rfl) (by kernel_rfl) (by kernel_rfl) (by kernel_rfl) (by exact fun _ _ _ h => h) (Or.inl ⟨by rfl, ?_⟩) (by assumption) ?_
                  rotate_left 1
                  · (intro w hSw; (try dsimp only at hSw); go_simp; try with_reducible rfl)
                  try simp only [Act.put, List.setIfInBounds_toArray, List.set_cons_zero, List.set_cons_succ]
                  refine wpAnyH_done (by kernel_rfl) ?_ _
                  clear hHeld
                  generalize hfn : Tryz.f12 = fn at *
                  go_wp2
                  subst hfn
                  refine bodyPost_ret (v := .tuple #[.agg #[.slice none 0 0, .int .i64 0, .int .i64 0, .slice none 0 0, .slice none 0 0], .int .i64 50]) (class_result (heap_drew (store5 hr)) rfl rfl) rfl ?_
                  refine ⟨_, _, _, ⟨[], 0, 0, [], []⟩, 50, rfl, ?_, ClassM.nil _, .inr ⟨HNE.out, HDEC.out, rfl, rfl, rfl, rfl⟩⟩
                  exact (only5 HON.out (fun hl => absurd hl (Nat.lt_irrefl _))).drew
                subst hkE
                have hdm := H15.out.dm HTR.out ⟨Vth.out, Vsu.out⟩
                have cK := refClsCheck _ _ _ _ w15 hdm.cls (Texts.fits HFIT.out)
                have CK := Lib.hid cK
                have HDM := Lib.hid hdm
                have hcc := H15.out.cq.blk
                have b0 := cell_blk hcc 0
                have b1 := cell_blk hcc 1
                have b2 := cell_blk hcc 2
                have b3 := cell_blk hcc 3
                have b4 := cell_blk hcc 4
                simp at b0 b1 b2 b3 b4
                clear cK hdm hcc
                go_wp2_with (fail)
                refine CK.out.mono ?_
                rintro en w16 ⟨rfl, ho16⟩
                have H16 := Lib.hid (H15.out.idle ho16)
                clear ho16 CK H15 HDM q0 q1 r1 b0 b1 b2 b3 b4
                obtain ⟨z, hz⟩ : ∃ z, clsZ ⟨cs, th, su, ts, xs.map (·.1)⟩ = z := ⟨_, rfl⟩
                rw [hz]
                have HZ := Lib.hid hz
                clear hz
                go_wp2_with (fail)
                refine (dfFail fb rb (.slice (some ⟨g, o, none⟩) zs.length cap) zs _ _ _ _ z H16.out.cq.fl).mono ?_
                rintro en w17 ⟨rfl, hto⟩
                obtain ⟨k17, e17, hm⟩ := H16.out.call AC.out hto
                by_cases hz : z = 0
                rotate_left
                · have HF := Lib.hid (show Fl w17 fb rb (.slice (some ⟨g, o, none⟩) zs.length cap) zs (.error z) k17 e17 from by have := hm.cq.fl; simp only [failS, if_neg hz] at this; exact this)
                  have hyn := HF.out.e_no
                  obtain ⟨rfl, hyn⟩ := hyn
                  have HNE := Lib.hid hyn
                  have HON := Lib.hid hm.cq.only
                  have HRES := Lib.hid hm.cq.res
                  have HDEC := Lib.hid (show DecC zs (.error e17) from dec_body HNH.out HD.out (by rw [show bodyP cs zs (kh + m) = .ok (⟨cs, th, su, ts, xs.map (·.1)⟩, zs.length) from HBODY.out]; unfold endP; simp only; rw [if_pos trivial, if_neg (by rw [HZ.out]; exact hz), HZ.out]))
                  clear hyn hto hm H16 hz
                  have q1 := cell_blk HF.out.blk 1
                  simp at q1
                  have hyb : (e17 != 0) = true := by first | decide | (have := HNE.out; simpa using this)
                  have hyc : (e17 == 0) = false := by first | decide | (have := HNE.out; simpa using this)
                  have hr := HRES.out
                  have d0 := cell_blk hr 0
                  have d1 := cell_blk hr 1
                  have d2 := cell_blk hr 2
                  have d3 := cell_blk hr 3
                  have d4 := cell_blk hr 4
                  have g0 := frozen_blk hr 0
                  have g1 := frozen_blk hr 1
                  have g2 := frozen_blk hr 2
                  have g3 := frozen_blk hr 3
                  have g4 := frozen_blk hr 4
                  simp at d0 d1 d2 d3 d4
                  have hne0 : w.heap.size ≠ fb := by have := HFN.out; omega
                  go_wp2_with (fail)
                  refine wp_region_held_drew (S := fun wc => wc.cell? ⟨fb, 1, none⟩ = some (.int .i64 e17)) (by kernel_rfl) q1 (fun hHeld => ?_)
                  refine wpAnyH_take (i := 0) (v := ?_) (by simp only [List.getElem?_toArray, List.getElem?_cons_succ, List.getElem?_cons_zero]; rfl) (by kernel_rfl) (by kernel_rfl) (by kernel_rfl) (by exact fun _ _ _ h => h) (Or.inl ⟨by rfl, ?_⟩) (by assumption) ?_
                  rotate_left 1
                  · (intro w hSw; (try dsimp only at hSw); go_simp; try with_reducible rfl)
                  try simp only [Act.put, List.setIfInBounds_toArray, List.set_cons_zero, List.set_cons_succ]
                  refine wpAnyH_take (i := 1) (v := ?_) (by simp only [List.getElem?_toArray, List.getElem?_cons_succ, List.getElem?_cons_zero]; rfl) (by kernel_rfl) (by kernel_rfl) (by kernel_rfl) (by exact fun _ _ _ h => h) (Or.inl ⟨by rfl, ?_⟩) (by assumption) ?_
                  rotate_left 1
                  · (intro w hSw; (try dsimp only at hSw); go_simp; try with_reducible rfl)
                  try simp only [Act.put, List.setIfInBounds_toArray, List.set_cons_zero, List.set_cons_succ]
                  refine wpAnyH_take (i := 2) (v := ?_) (by simp only [List.getElem?_toArray, List.getElem?_cons_succ, List.getElem?_cons_zero]; rfl) (by kernel_rfl) (by kernel_rfl) (by kernel_rfl) (by exact fun _ _ _ h => h) (Or.inl ⟨by rfl, ?_⟩) (by assumption) ?_
                  rotate_left 1
                  · (intro w hSw; (try dsimp only at hSw); go_simp; try with_reducible rfl)
                  try simp only [Act.put, List.setIfInBounds_toArray, List.set_cons_zero, List.set_cons_succ]
                  refine wpAnyH_take (i := 3) (v := ?_) (by simp only [List.getElem?_toArray, List.getElem?_cons_succ, List.getElem?_cons_zero]; rfl) (by kernel_rfl) (by kernel_rfl) (by kernel_rfl) (by exact fun _ _ _ h => h) (Or.inl ⟨by rfl, ?_⟩) (by assumption) ?_
                  rotate_left 1
                  · (intro w hSw; (try dsimp only at hSw); go_simp; try with_reducible rfl)
                  try simp only [Act.put, List.setIfInBounds_toArray, List.set_cons_zero, List.set_cons_succ]
                  refine wpAnyH_take (i := 4) (v := ?_) (by simp only [List.getElem?_toArray, List.getElem?_cons_succ, List.getElem?_cons_zero]; rfl) (by kernel_rfl) (by kernel_rfl) (by kernel_rfl) (by exact fun _ _ _ h => h) (Or.inl ⟨by rfl, ?_⟩) (by assumption) ?_
                  rotate_left 1
                  · (intro w hSw; (try dsimp only at hSw); go_simp; try with_reducible rfl)
                  try simp only [Act.put, List.setIfInBounds_toArray, List.set_cons_zero, List.set_cons_succ]
                  refine wpAnyH_ready (rs := [5]) (by kernel_rfl) (by simp) ?_
                  refine AllReadyH.cons (by simp only [List.getElem?_toArray, List.getElem?_cons_succ, List.getElem?_cons_zero]; rfl) (fun K hK => ?_) AllReadyH.nil
                  go_simp
                  refine hK.out _ _ ?_ (fun hHeld2 => ?_)
                  · exact (only5 (Only.refl (fun j => j = w.heap.size) _) (fun _ => rfl)).drew.cell hHeld (fun e => hne0 e.symm)
                  clear hK K
                  try simp only [Act.put, List.setIfInBounds_toArray, List.set_cons_zero, List.set_cons_succ]
                  clear hHeld
                  have hHeld := hHeld2
                  clear hHeld2
                  refine wpAnyH_take (i := 6) (v := ?_) (by simp only [List.getElem?_toArray, List.getElem?_cons_succ, List.getElem?_cons_zero]; rfl) (by kernel_rfl) (by kernel_rfl) (by kernel_rfl) (by exact fun _ _ _ h => h) (Or.inl ⟨by rfl, ?_⟩) (by assumption) ?_
                  rotate_left 1
                  · (intro w hSw; (try dsimp only at hSw); go_simp; try with_reducible rfl)
                  try simp only [Act.put, List.setIfInBounds_toArray, List.set_cons_zero, List.set_cons_succ]
                  refine wpAnyH_done (by kernel_rfl) ?_ _
                  clear hHeld
                  generalize hfn : Tryz.f12 = fn at *
                  go_wp2
                  subst hfn
                  refine bodyPost_ret (v := .tuple #[.agg #[.slice none 0 0, .int .i64 0, .int .i64 0, .slice none 0 0, .slice none 0 0], .int .i64 e17]) (class_result (heap_drew (store5 hr)) rfl rfl) rfl ?_
                  refine ⟨_, _, _, ⟨[], 0, 0, [], []⟩, e17, rfl, ?_, ClassM.nil _, .inr ⟨HNE.out, HDEC.out, rfl, rfl, rfl, rfl⟩⟩
                  exact (only5 HON.out (fun hl => absurd hl (Nat.lt_irrefl _))).drew
                subst hz
                have H17 := Lib.hid (show GQ w w17 fb rb cb B (.slice (some ⟨g, o, none⟩) zs.length cap) (.slice ap np cp) zs cs (.ok zs.length) k17 e17 th su _ ts _ xs from hm)
                have hst := H17.out.cq.fl.e_ok
                obtain ⟨rfl, rfl⟩ := hst
                have q1 := cell_blk H17.out.cq.fl.blk 1
                simp at q1
                have hcc := H17.out.cq.blk
                have b0 := cell_blk hcc 0
                have b1 := cell_blk hcc 1
                have b2 := cell_blk hcc 2
                have b3 := cell_blk hcc 3
                have b4 := cell_blk hcc 4
                have hr := H17.out.cq.res
                have d0 := cell_blk hr 0
                have d1 := cell_blk hr 1
                have d2 := cell_blk hr 2
                have d3 := cell_blk hr 3
                have d4 := cell_blk hr 4
                have g0 := frozen_blk hr 0
                have g1 := frozen_blk hr 1
                have g2 := frozen_blk hr 2
                have g3 := frozen_blk hr 3
                have g4 := frozen_blk hr 4
                simp at b0 b1 b2 b3 b4 d0 d1 d2 d3 d4
                have HDM := Lib.hid (H17.out.dm HTR.out ⟨Vth.out, Vsu.out⟩)
                have HKEEP := Lib.hid (show ∀ u : World, Only (fun j => j = w.heap.size) w17 u → ClassM u (.slice ap np cp) (.slice at_ ts.length ct) (.slice am_ xs.length cm_) ⟨cs, th, su, ts, xs.map (·.1)⟩ from fun u hu => (HDM.out.keep hu (fun j hj => by have hj' : j = w.heap.size := hj; have := AC.out.cbn; have := AC.out.cB; omega) (fun j hj e => by have := AC.out.pn j hj; omega)).cls)
                have HDEC := Lib.hid (show DecC zs (.ok ⟨cs, th, su, ts, xs.map (·.1)⟩) from dec_body HNH.out HD.out (by rw [show bodyP cs zs (kh + m) = .ok (⟨cs, th, su, ts, xs.map (·.1)⟩, zs.length) from HBODY.out]; unfold endP; simp only; rw [if_pos trivial, if_pos HZ.out]))
                have hneR : w.heap.size ≠ cb := by have := AC.out.cbn; omega
                clear hto hm hcc H16 HDM
                generalize hfn : Tryz.f12 = fn at *
                go_wp2
                subst hfn
                refine bodyPost_ret (v := .tuple #[.agg #[.slice ap np cp, .int .i64 th, .int .i64 su, .slice at_ ts.length ct, .slice am_ xs.length cm_], .int .i64 0]) (class_result (store5 hr) rfl rfl) rfl ?_
                refine ⟨_, _, _, ⟨cs, th, su, ts, xs.map (·.1)⟩, 0, rfl, ?_, HKEEP.out _ ?_, .inl ⟨rfl, HDEC.out, HZ.out⟩⟩
                · exact only5 H17.out.cq.only (fun hl => absurd hl (Nat.lt_irrefl _))
                · exact only5 (Only.refl _ _) (fun _ => rfl)
          · have hnz2 : (mm : Int) ≤ (xs.length : Int) := by omega
            have HNM := Lib.hid (HTO.out.done (.inr (by simp; omega)))
            clear hl HTO hlt2
            clear hi hz0 hz1 hz2
            go_wp2_with (fail)
            clear q1
            refine (dfMust fb rb (.slice (some ⟨g, o, none⟩) zs.length cap) zs _ _ _ _ 0 HL.out.cq.fl).mono ?_
            rintro en w15 ⟨σ15, rfl, hN, hto⟩
            have HN15 := Lib.hid hN
            obtain ⟨k15, e15, hm⟩ := HL.out.call AC.out hto
            have H15 := Lib.hid hm
            have HBODY := Lib.hid (show Nx (bodyP cs) zs (.ok (kh + m)) ⟨cs, th, su, ts, xs.map (·.1)⟩ σ15 from HN9.out.bind (HN10.out.bind (HN11.out.bind (HN12.out.bind (HN13.out.bind (HNF.out.bind (HN14.out.bind (HNM.out.bind (HN15.out.bind (Nx.ret _ _ _))))))))))
            clear hN hto hm HL HN9 HN10 HN11 HN12 HN13 HNF HN14 HNM HN15
            cases σ15 with
            | error y =>
              have HF := Lib.hid H15.out.cq.fl
              have hyn := H15.out.cq.fl.e_no
              obtain ⟨rfl, hyn⟩ := hyn
              have HNE := Lib.hid hyn
              have HON := Lib.hid H15.out.cq.only
              have HRES := Lib.hid H15.out.cq.res
              have HDEC := Lib.hid (show DecC zs (.error e15) from dec_body HNH.out HD.out (by rw [show bodyP cs zs (kh + m) = .error e15 from HBODY.out]; rfl))
              clear hyn H15
              have q1 := cell_blk HF.out.blk 1
              simp at q1
              have hyb : (e15 != 0) = true := by first | decide | (have := HNE.out; simpa using this)
              have hyc : (e15 == 0) = false := by first | decide | (have := HNE.out; simpa using this)
              have hr := HRES.out
              have d0 := cell_blk hr 0
              have d1 := cell_blk hr 1
              have d2 := cell_blk hr 2
              have d3 := cell_blk hr 3
              have d4 := cell_blk hr 4
              have g0 := frozen_blk hr 0
              have g1 := frozen_blk hr 1
              have g2 := frozen_blk hr 2
              have g3 := frozen_blk hr 3
              have g4 := frozen_blk hr 4
              simp at d0 d1 d2 d3 d4
              have hne0 : w.heap.size ≠ fb := by have := HFN.out; omega
              go_wp2_with (fail)
              refine wp_region_held_drew (S := fun wc => wc.cell? ⟨fb, 1, none⟩ = some (.int .i64 e15)) (by kernel_rfl) q1 (fun hHeld => ?_)
              refine wpAnyH_take (i := 0) (v := ?_) (by simp only [List.getElem?_toArray, List.getElem?_cons_succ, List.getElem?_cons_zero]; rfl) (by kernel_rfl) (by kernel_rfl) (by kernel_rfl) (by exact fun _ _ _ h => h) (Or.inl ⟨by rfl, ?_⟩) (by assumption) ?_
              rotate_left 1
              · (intro w hSw; (try dsimp only at hSw); go_simp; try with_reducible rfl)
              try simp only [Act.put, List.setIfInBounds_toArray, List.set_cons_zero, List.set_cons_succ]
              refine wpAnyH_take (i := 1) (v := ?_) (by simp only [List.getElem?_toArray, List.getElem?_cons_succ, List.getElem?_cons_zero]; rfl) (by kernel_rfl) (by kernel_rfl) (by kernel_rfl) (by exact fun _ _ _ h => h) (Or.inl ⟨by rfl, ?_⟩) (by assumption) ?_
              rotate_left 1
              · (intro w hSw; (try dsimp only at hSw); go_simp; try with_reducible rfl)
              try simp only [Act.put, List.setIfInBounds_toArray, List.set_cons_zero, List.set_cons_succ]
              refine wpAnyH_take (i := 2) (v := ?_) (by simp only [List.getElem?_toArray, List.getElem?_cons_succ, List.getElem?_cons_zero]; rfl) (by kernel_rfl) (by kernel_rfl) (by kernel_rfl) (by exact fun _ _ _ h => h) (Or.inl ⟨by rfl, ?_⟩) (by assumption) ?_
              rotate_left 1
              · (intro w hSw; (try dsimp only at hSw); go_simp; try with_reducible rfl)
              try simp only [Act.put, List.setIfInBounds_toArray, List.set_cons_zero, List.set_cons_succ]
              refine wpAnyH_take (i := 3) (v := ?_) (by simp only [List.getElem?_toArray, List.getElem?_cons_succ, List.getElem?_cons_zero]; rfl) (by kernel_rfl) (by kernel_rfl) (by kernel_rfl) (by exact fun _ _ _ h => h) (Or.inl ⟨by rfl, ?_⟩) (by assumption) ?_
              rotate_left 1
              · (intro w hSw; (try dsimp only at hSw); go_simp; try with_reducible rfl)
              try simp only [Act.put, List.setIfInBounds_toArray, List.set_cons_zero, List.set_cons_succ]
              refine wpAnyH_take (i := 4) (v := ?_) (by simp only [List.getElem?_toArray, List.getElem?_cons_succ, List.getElem?_cons_zero]; rfl) (by kernel_rfl) (by kernel_rfl) (by kernel_rfl) (by exact fun _ _ _ h => h) (Or.inl ⟨by rfl, ?_⟩) (by assumption) ?_
              rotate_left 1
              · (intro w hSw; (try dsimp only at hSw); go_simp; try with_reducible rfl)
              try simp only [Act.put, List.setIfInBounds_toArray, List.set_cons_zero, List.set_cons_succ]
              refine wpAnyH_ready (rs := [5]) (by kernel_rfl) (by simp) ?_
              refine AllReadyH.cons (by simp only [List.getElem?_toArray, List.getElem?_cons_succ, List.getElem?_cons_zero]; rfl) (fun K hK => ?_) AllReadyH.nil
              go_simp
              refine hK.out _ _ ?_ (fun hHeld2 => ?_)
              · exact (only5 (Only.refl (fun j => j = w.heap.size) _) (fun _ => rfl)).drew.cell hHeld (fun e => hne0 e.symm)
              clear hK K
              try simp only [Act.put, List.setIfInBounds_toArray, List.set_cons_zero, List.set_cons_succ]
              clear hHeld
              have hHeld := hHeld2
              clear hHeld2
              refine wpAnyH_take (i := 6) (v := ?_) (by simp only [List.getElem?_toArray, List.getElem?_cons_succ, List.getElem?_cons_zero]; rfl) (by kernel_rfl) (by kernel_rfl) (by kernel_rfl) (by exact fun _ _ _ h => h) (Or.inl ⟨by rfl, ?_⟩) (by assumption) ?_
              rotate_left 1
              · (intro w hSw; (try dsimp only at hSw); go_simp; try with_reducible rfl)
              try simp only [Act.put, List.setIfInBounds_toArray, List.set_cons_zero, List.set_cons_succ]
              refine wpAnyH_done (by kernel_rfl) ?_ _
              clear hHeld
              generalize hfn : Tryz.f12 = fn at *
              go_wp2
              subst hfn
              refine bodyPost_ret (v := .tuple #[.agg #[.slice none 0 0, .int .i64 0, .int .i64 0, .slice none 0 0, .slice none 0 0], .int .i64 e15]) (class_result (heap_drew (store5 hr)) rfl rfl) rfl ?_
              refine ⟨_, _, _, ⟨[], 0, 0, [], []⟩, e15, rfl, ?_, ClassM.nil _, .inr ⟨HNE.out, HDEC.out, rfl, rfl, rfl, rfl⟩⟩
              exact (only5 HON.out (fun hl => absurd hl (Nat.lt_irrefl _))).drew
            | ok kE =>
              have hst := H15.out.cq.fl.e_ok
              obtain ⟨rfl, rfl⟩ := hst
              have q0 := cell_blk H15.out.cq.fl.blk 0
              have q1 := cell_blk H15.out.cq.fl.blk 1
              have r1 := cell_blk H15.out.cq.fl.rf.blk 1
              simp at q0 q1 r1
              by_cases hkE : kE = zs.length
              rotate_left
              · have hke : ((kE : Int) == (zs.length : Int)) = false := by simp only [beq_eq_false_iff_ne]; omega
                have HDEC := Lib.hid (show DecC zs (.error 50) from dec_body HNH.out HD.out (by rw [show bodyP cs zs (kh + m) = .ok (⟨cs, th, su, ts, xs.map (·.1)⟩, kE) from HBODY.out]; unfold endP; simp only; rw [if_neg hkE]))
                clear hkE
                go_wp2_with (fail)
                refine (dfFail fb rb (.slice (some ⟨g, o, none⟩) zs.length cap) zs _ _ _ _ 50 H15.out.cq.fl).mono ?_
                rintro en w16 ⟨rfl, hto⟩
                obtain ⟨k16, e16, hm⟩ := H15.out.call AC.out hto
                have HF := Lib.hid (show Fl w16 fb rb (.slice (some ⟨g, o, none⟩) zs.length cap) zs (.error 50) k16 e16 from hm.cq.fl)
                have hyn := HF.out.e_no
                obtain ⟨rfl, hyn⟩ := hyn
                have HNE := Lib.hid hyn
                have HON := Lib.hid hm.cq.only
                have HRES := Lib.hid hm.cq.res
                clear hyn hto hm H15 q0 q1 r1 hke
                have q1 := cell_blk HF.out.blk 1
                simp at q1
                have hyb : (50 != 0) = true := by first | decide | (have := HNE.out; simpa using this)
                have hyc : (50 == 0) = false := by first | decide | (have := HNE.out; simpa using this)
                have hr := HRES.out
                have d0 := cell_blk hr 0
                have d1 := cell_blk hr 1
                have d2 := cell_blk hr 2
                have d3 := cell_blk hr 3
                have d4 := cell_blk hr 4
                have g0 := frozen_blk hr 0
                have g1 := frozen_blk hr 1
                have g2 := frozen_blk hr 2
                have g3 := frozen_blk hr 3
                have g4 := frozen_blk hr 4
                simp at d0 d1 d2 d3 d4
                have hne0 : w.heap.size ≠ fb := by have := HFN.out; omega
                go_wp2_with (fail)
                refine wp_region_held_drew (S := fun wc => wc.cell? ⟨fb, 1, none⟩ = some (.int .i64 50)) (by kernel_rfl) q1 (fun hHeld => ?_)
                refine wpAnyH_take (i := 0) (v := ?_) (by simp only [List.getElem?_toArray, List.getElem?_cons_succ, List.getElem?_cons_zero]; rfl) (by kernel_rfl) (by kernel_rfl) (by kernel_rfl) (by exact fun _ _ _ h => h) (Or.inl ⟨by rfl, ?_⟩) (by assumption) ?_
                rotate_left 1
                · (intro w hSw; (try dsimp only at hSw); go_simp; try with_reducible rfl)
                try simp only [Act.put, List.setIfInBounds_toArray, List.set_cons_zero, List.set_cons_succ]
                refine wpAnyH_take (i := 1) (v := ?_) (by simp only [List.getElem?_toArray, List.getElem?_cons_succ, List.getElem?_cons_zero]; rfl) (by kernel_rfl) (by kernel_rfl) (by kernel_rfl) (by exact fun _ _ _ h => h) (Or.inl ⟨by rfl, ?_⟩) (by assumption) ?_
                rotate_left 1
                · (intro w hSw; (try dsimp only at hSw); go_simp; try with_reducible rfl)
                try simp only [Act.put, List.setIfInBounds_toArray, List.set_cons_zero, List.set_cons_succ]
                refine wpAnyH_take (i := 2) (v := ?_) (by simp only [List.getElem?_toArray, List.getElem?_cons_succ, List.getElem?_cons_zero]; rfl) (by kernel_rfl) (by kernel_rfl) (by kernel_rfl) (by exact fun _ _ _ h => h) (Or.inl ⟨by rfl, ?_⟩) (by assumption) ?_
                rotate_left 1
                · (intro w hSw; (try dsimp only at hSw); go_simp; try with_reducible rfl)
                try simp only [Act.put, List.setIfInBounds_toArray, List.set_cons_zero, List.set_cons_succ]
                refine wpAnyH_take (i := 3) (v := ?_) (by simp only [List.getElem?_toArray, List.getElem?_cons_succ, List.getElem?_cons_zero]; rfl) (by kernel_rfl) (by kernel_rfl) (by kernel_rfl) (by exact fun _ _ _ h => h) (Or.inl ⟨by rfl, ?_⟩) (by assumption) ?_
                rotate_left 1
                · (intro w hSw; (try dsimp only at hSw); go_simp; try with_reducible rfl)
                try simp only [Act.put, List.setIfInBounds_toArray, List.set_cons_zero, List.set_cons_succ]
                refine wpAnyH_take (i := 4) (v := ?_) (by simp only [List.getElem?_toArray, List.getElem?_cons_succ, List.getElem?_cons_zero]; rfl) (by kernel_rfl) (by kernel_rfl) (by kernel_rfl) (by exact fun _ _ _ h => h) (Or.inl ⟨by rfl, ?_⟩) (by assumption) ?_
                rotate_left 1
                · (intro w hSw; (try dsimp only at hSw); go_simp; try with_reducible rfl)
                try simp only [Act.put, List.setIfInBounds_toArray, List.set_cons_zero, List.set_cons_succ]
                refine wpAnyH_ready (rs := [5]) (by kernel_rfl) (by simp) ?_
                refine AllReadyH.cons (by simp only [List.getElem?_toArray, List.getElem?_cons_succ, List.getElem?_cons_zero]; rfl) (fun K hK => ?_) AllReadyH.nil
                go_simp
                refine hK.out _ _ ?_ (fun hHeld2 => ?_)
                · exact (only5 (Only.refl (fun j => j = w.heap.size) _) (fun _ => rfl)).drew.cell hHeld (fun e => hne0 e.symm)
                clear hK K
                try simp only [Act.put, List.setIfInBounds_toArray, List.set_cons_zero, List.set_cons_succ]
                clear hHeld
                have hHeld := hHeld2
                clear hHeld2
                refine wpAnyH_take (i := 6) (v := ?_) (by simp only [List.getElem?_toArray, List.getElem?_cons_succ, List.getElem?_cons_zero]; rfl) (by kernel_rfl) (by kernel_rfl) (by kernel_rfl) (by exact fun _ _ _ h => h) (Or.inl ⟨by rfl, ?_⟩) (by assumption) ?_
                rotate_left 1
                · (intro w hSw; (try dsimp only at hSw); go_simp; try with_reducible rfl)
                try simp only [Act.put, List.setIfInBounds_toArray, List.set_cons_zero, List.set_cons_succ]
                refine wpAnyH_done (by kernel_rfl) ?_ _
                clear hHeld
                generalize hfn : Tryz.f12 = fn at *
                go_wp2
                subst hfn
                refine bodyPost_ret (v := .tuple #[.agg #[.slice none 0 0, .int .i64 0, .int .i64 0, .slice none 0 0, .slice none 0 0], .int .i64 50]) (class_result (heap_drew (store5 hr)) rfl rfl) rfl ?_
                refine ⟨_, _, _, ⟨[], 0, 0, [], []⟩, 50, rfl, ?_, ClassM.nil _, .inr ⟨HNE.out, HDEC.out, rfl, rfl, rfl, rfl⟩⟩
                exact (only5 HON.out (fun hl => absurd hl (Nat.lt_irrefl _))).drew
              subst hkE
              have hdm := H15.out.dm HTR.out ⟨Vth.out, Vsu.out⟩
              have cK := refClsCheck _ _ _ _ w15 hdm.cls (Texts.fits HFIT.out)
              have CK := Lib.hid cK
              have HDM := Lib.hid hdm
              have hcc := H15.out.cq.blk
              have b0 := cell_blk hcc 0
              have b1 := cell_blk hcc 1
              have b2 := cell_blk hcc 2
              have b3 := cell_blk hcc 3
              have b4 := cell_blk hcc 4
              simp at b0 b1 b2 b3 b4
              clear cK hdm hcc
              go_wp2_with (fail)
              refine CK.out.mono ?_
              rintro en w16 ⟨rfl, ho16⟩
              have H16 := Lib.hid (H15.out.idle ho16)
              clear ho16 CK H15 HDM q0 q1 r1 b0 b1 b2 b3 b4
              obtain ⟨z, hz⟩ : ∃ z, clsZ ⟨cs, th, su, ts, xs.map (·.1)⟩ = z := ⟨_, rfl⟩
              rw [hz]
              have HZ := Lib.hid hz
              clear hz
              go_wp2_with (fail)
              refine (dfFail fb rb (.slice (some ⟨g, o, none⟩) zs.length cap) zs _ _ _ _ z H16.out.cq.fl).mono ?_
              rintro en w17 ⟨rfl, hto⟩
              obtain ⟨k17, e17, hm⟩ := H16.out.call AC.out hto
              by_cases hz : z = 0
              rotate_left
              · have HF := Lib.hid (show Fl w17 fb rb (.slice (some ⟨g, o, none⟩) zs.length cap) zs (.error z) k17 e17 from by have := hm.cq.fl; simp only [failS, if_neg hz] at this; exact this)
                have hyn := HF.out.e_no
                obtain ⟨rfl, hyn⟩ := hyn
                have HNE := Lib.hid hyn
                have HON := Lib.hid hm.cq.only
                have HRES := Lib.hid hm.cq.res
                have HDEC := Lib.hid (show DecC zs (.error e17) from dec_body HNH.out HD.out (by rw [show bodyP cs zs (kh + m) = .ok (⟨cs, th, su, ts, xs.map (·.1)⟩, zs.length) from HBODY.out]; unfold endP; simp only; rw [if_pos trivial, if_neg (by rw [HZ.out]; exact hz), HZ.out]))
                clear hyn hto hm H16 hz
                have q1 := cell_blk HF.out.blk 1
                simp at q1
                have hyb : (e17 != 0) = true := by first | decide | (have := HNE.out; simpa using this)
                have hyc : (e17 == 0) = false := by first | decide | (have := HNE.out; simpa using this)
                have hr := HRES.out
                have d0 := cell_blk hr 0
                have d1 := cell_blk hr 1
                have d2 := cell_blk hr 2
                have d3 := cell_blk hr 3
                have d4 := cell_blk hr 4
                have g0 := frozen_blk hr 0
                have g1 := frozen_blk hr 1
                have g2 := frozen_blk hr 2
                have g3 := frozen_blk hr 3
                have g4 := frozen_blk hr 4
                simp at d0 d1 d2 d3 d4
                have hne0 : w.heap.size ≠ fb := by have := HFN.out; omega
                go_wp2_with (fail)
                refine wp_region_held_drew (S := fun wc => wc.cell? ⟨fb, 1, none⟩ = some (.int .i64 e17)) (by kernel_rfl) q1 (fun hHeld => ?_)
                refine wpAnyH_take (i := 0) (v := ?_) (by simp only [List.getElem?_toArray, List.getElem?_cons_succ, List.getElem?_cons_zero]; rfl) (by kernel_rfl) (by kernel_rfl) (by kernel_rfl) (by exact fun _ _ _ h => h) (Or.inl ⟨by rfl, ?_⟩) (by assumption) ?_
                rotate_left 1
                · (intro w hSw; (try dsimp only at hSw); go_simp; try with_reducible rfl)
                try simp only [Act.put, List.setIfInBounds_toArray, List.set_cons_zero, List.set_cons_succ]
                refine wpAnyH_take (i := 1) (v := ?_) (by simp only [List.getElem?_toArray, List.getElem?_cons_succ, List.getElem?_cons_zero]; rfl) (by kernel_rfl) (by kernel_rfl) (by kernel_rfl) (by exact fun _ _ _ h => h) (Or.inl ⟨by rfl, ?_⟩) (by assumption) ?_
                rotate_left 1
                · (intro w hSw; (try dsimp only at hSw); go_simp; try with_reducible rfl)
                try simp only [Act.put, List.setIfInBounds_toArray, List.set_cons_zero, List.set_cons_succ]
                refine wpAnyH_take (i := 2) (v := ?_) (by simp only [List.getElem?_toArray, List.getElem?_cons_succ, List.getElem?_cons_zero]; rfl) (by kernel_rfl) (by kernel_rfl) (by kernel_rfl) (by exact fun _ _ _ h => h) (Or.inl ⟨by rfl, ?_⟩) (by assumption) ?_
                rotate_left 1
                · (intro w hSw; (try dsimp only at hSw); go_simp; try with_reducible rfl)
                try simp only [Act.put, List.setIfInBounds_toArray, List.set_cons_zero, List.set_cons_succ]
                refine wpAnyH_take (i := 3) (v := ?_) (by simp only [List.getElem?_toArray, List.getElem?_cons_succ, List.getElem?_cons_zero]; rfl) (by kernel_rfl) (by kernel_rfl) (by kernel_rfl) (by exact fun _ _ _ h => h) (Or.inl ⟨by rfl, ?_⟩) (by assumption) ?_
                rotate_left 1
                · (intro w hSw; (try dsimp only at hSw); go_simp; try with_reducible rfl)
                try simp only [Act.put, List.setIfInBounds_toArray, List.set_cons_zero, List.set_cons_succ]
                refine wpAnyH_take (i := 4) (v := ?_) (by simp only [List.getElem?_toArray, List.getElem?_cons_succ, List.getElem?_cons_zero]; rfl) (by kernel_rfl) (by kernel_rfl) (by kernel_rfl) (by exact fun _ _ _ h => h) (Or.inl ⟨by rfl, ?_⟩) (by assumption) ?_
                rotate_left 1
                · (intro w hSw; (try dsimp only at hSw); go_simp; try with_reducible rfl)
                try simp only [Act.put, List.setIfInBounds_toArray, List.set_cons_zero, List.set_cons_succ]
                refine wpAnyH_ready (rs := [5]) (by kernel_rfl) (by simp) ?_
                refine AllReadyH.cons (by simp only [List.getElem?_toArray, List.getElem?_cons_succ, List.getElem?_cons_zero]; rfl) (fun K hK => ?_) AllReadyH.nil
                go_simp
                refine hK.out _ _ ?_ (fun hHeld2 => ?_)
                · exact (only5 (Only.refl (fun j => j = w.heap.size) _) (fun _ => rfl)).drew.cell hHeld (fun e => hne0 e.symm)
                clear hK K
                try simp only [Act.put, List.setIfInBounds_toArray, List.set_cons_zero, List.set_cons_succ]
                clear hHeld
                have hHeld := hHeld2
                clear hHeld2
                refine wpAnyH_take (i := 6) (v := ?_) (by simp only [List.getElem?_toArray, List.getElem?_cons_succ, List.getElem?_cons_zero]; rfl) (by kernel_rfl) (by kernel_rfl) (by kernel_rfl) (by exact fun _ _ _ h => h) (Or.inl ⟨by rfl, ?_⟩) (by assumption) ?_
                rotate_left 1
                · (intro w hSw; (try dsimp only at hSw); go_simp; try with_reducible rfl)
                try simp only [Act.put, List.setIfInBounds_toArray, List.set_cons_zero, List.set_cons_succ]
                refine wpAnyH_done (by kernel_rfl) ?_ _
                clear hHeld
                generalize hfn : Tryz.f12 = fn at *
                go_wp2
                subst hfn
                refine bodyPost_ret (v := .tuple #[.agg #[.slice none 0 0, .int .i64 0, .int .i64 0, .slice none 0 0, .slice none 0 0], .int .i64 e17]) (class_result (heap_drew (store5 hr)) rfl rfl) rfl ?_
                refine ⟨_, _, _, ⟨[], 0, 0, [], []⟩, e17, rfl, ?_, ClassM.nil _, .inr ⟨HNE.out, HDEC.out, rfl, rfl, rfl, rfl⟩⟩
                exact (only5 HON.out (fun hl => absurd hl (Nat.lt_irrefl _))).drew
              subst hz
              have H17 := Lib.hid (show GQ w w17 fb rb cb B (.slice (some ⟨g, o, none⟩) zs.length cap) (.slice ap np cp) zs cs (.ok zs.length) k17 e17 th su _ ts _ xs from hm)
              have hst := H17.out.cq.fl.e_ok
              obtain ⟨rfl, rfl⟩ := hst
              have q1 := cell_blk H17.out.cq.fl.blk 1
              simp at q1
              have hcc := H17.out.cq.blk
              have b0 := cell_blk hcc 0
              have b1 := cell_blk hcc 1
              have b2 := cell_blk hcc 2
              have b3 := cell_blk hcc 3
              have b4 := cell_blk hcc 4
              have hr := H17.out.cq.res
              have d0 := cell_blk hr 0
              have d1 := cell_blk hr 1
              have d2 := cell_blk hr 2
              have d3 := cell_blk hr 3
              have d4 := cell_blk hr 4
              have g0 := frozen_blk hr 0
              have g1 := frozen_blk hr 1
              have g2 := frozen_blk hr 2
              have g3 := frozen_blk hr 3
              have g4 := frozen_blk hr 4
              simp at b0 b1 b2 b3 b4 d0 d1 d2 d3 d4
              have HDM := Lib.hid (H17.out.dm HTR.out ⟨Vth.out, Vsu.out⟩)
              have HKEEP := Lib.hid (show ∀ u : World, Only (fun j => j = w.heap.size) w17 u → ClassM u (.slice ap np cp) (.slice at_ ts.length ct) (.slice am_ xs.length cm_) ⟨cs, th, su, ts, xs.map (·.1)⟩ from fun u hu => (HDM.out.keep hu (fun j hj => by have hj' : j = w.heap.size := hj; have := AC.out.cbn; have := AC.out.cB; omega) (fun j hj e => by have := AC.out.pn j hj; omega)).cls)
              have HDEC := Lib.hid (show DecC zs (.ok ⟨cs, th, su, ts, xs.map (·.1)⟩) from dec_body HNH.out HD.out (by rw [show bodyP cs zs (kh + m) = .ok (⟨cs, th, su, ts, xs.map (·.1)⟩, zs.length) from HBODY.out]; unfold endP; simp only; rw [if_pos trivial, if_pos HZ.out]))
              have hneR : w.heap.size ≠ cb := by have := AC.out.cbn; omega
              clear hto hm hcc H16 HDM
              generalize hfn : Tryz.f12 = fn at *
              go_wp2
              subst hfn
              refine bodyPost_ret (v := .tuple #[.agg #[.slice ap np cp, .int .i64 th, .int .i64 su, .slice at_ ts.length ct, .slice am_ xs.length cm_], .int .i64 0]) (class_result (store5 hr) rfl rfl) rfl ?_
              refine ⟨_, _, _, ⟨cs, th, su, ts, xs.map (·.1)⟩, 0, rfl, ?_, HKEEP.out _ ?_, .inl ⟨rfl, HDEC.out, HZ.out⟩⟩
              · exact only5 H17.out.cq.only (fun hl => absurd hl (Nat.lt_irrefl _))
              · exact only5 (Only.refl _ _) (fun _ => rfl)
end Go.Proofs.YtodhdiccfobcfaaGreatDoor
