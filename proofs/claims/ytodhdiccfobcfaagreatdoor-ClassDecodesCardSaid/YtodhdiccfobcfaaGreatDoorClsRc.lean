/- The document's own reading of a method. No condition beyond a reader that was made. -/
import Derived.Test.YtodhdiccfobcfaaGreatDoorGClsRb
import Derived.Laws.Rows
import Derived.Laws.Tables
namespace Go.Proofs.YtodhdiccfobcfaaGreatDoor
open Go.RowKit
set_option linter.unusedVariables false
set_option linter.unusedSimpArgs false

theorem Nx.must_true {zs : List Int} {σ : StZ} {P : Prop} [Decidable P] (h : P) : Nx (mustP (decide P)) zs σ () σ := by have := Nx.must (zs := zs) (σ := σ) (decide P); rwa [if_pos (decide_eq_true h)] at this
theorem Nx.must_false {zs : List Int} {σ : StZ} {P : Prop} [Decidable P] (h : ¬ P) : Nx (mustP (decide P)) zs σ () (failS 50 σ) := by have := Nx.must (zs := zs) (σ := σ) (decide P); rwa [if_neg (by simpa using h)] at this
/-- What stands apart of a method that is read: its block, the file's two, the bytes', the pool's. -/
structure Am (w0 : World) (fb rb mb : Nat) (v pv : Value) (zs : List Int) : Prop where
  fbn : fb < w0.heap.size
  rbn : rb < w0.heap.size
  mbn : w0.heap.size < mb
  vn : ∀ j, v.ownBlock = some j → zs ≠ [] → j < w0.heap.size
  pn : ∀ j, pv.ownBlock = some j → j < w0.heap.size ∧ ¬ (j = fb ∨ j = rb)
/-- So far: the file, the pool, the method's block, the result's. -/
structure MQ (w0 w : World) (fb rb mb : Nat) (v pv : Value) (zs : List Int) (cs : List ConstV) (σ : StZ) (k : Nat) (e : Int) (mc : Array Value) : Prop where
  fl : Fl w fb rb v zs σ k e
  pool : Pool w pv cs
  blk : w.heap[mb]? = some (.cells mc 62 (0, 0))
  res : w.heap[w0.heap.size]? = some (.cells #[.int .i64 0, .int .i64 0, .int .i64 0, .int .i64 0, .int .i64 0, .slice none 0 0, .slice none 0 0, .slice none 0 0] 62 (0, 0))
  only : Only (fun j => j = fb ∨ j = rb) w0 w
section
variable {w0 w w' : World} {fb rb mb : Nat} {v pv : Value} {zs : List Int} {cs : List ConstV} {σ σ' : StZ} {k : Nat} {e : Int} {mc : Array Value}
theorem MQ.call (h : MQ w0 w fb rb mb v pv zs cs σ k e mc) (a : Am w0 fb rb mb v pv zs) (ht : FlTo w fb rb v zs σ' w') : ∃ k' e', MQ w0 w' fb rb mb v pv zs cs σ' k' e' mc := by
  obtain ⟨⟨k', e', h1⟩, ho⟩ := ht
  have f1 : ¬ (mb = fb ∨ mb = rb) := by have := a.fbn; have := a.rbn; have := a.mbn; omega
  have f2 : ¬ (w0.heap.size = fb ∨ w0.heap.size = rb) := by have := a.fbn; have := a.rbn; omega
  exact ⟨k', e', h1, Pool.only h.pool ho (fun j hj => (a.pn j hj).2), ho.heap h.blk f1, ho.heap h.res f2, h.only.trans ho (fun _ h _ => h)⟩
theorem MQ.idle (h : MQ w0 w fb rb mb v pv zs cs σ k e mc) (ho : Only (fun _ => False) w w') : MQ w0 w' fb rb mb v pv zs cs σ k e mc :=
  ⟨h.fl.idle ho, Pool.only h.pool ho (fun _ _ h => h), ho.heap h.blk (fun h => h), ho.heap h.res (fun h => h), h.only.trans ho (fun _ h _ => h.elim)⟩
theorem MQ.store (h : MQ w0 w fb rb mb v pv zs cs σ k e mc) (a : Am w0 fb rb mb v pv zs) (i : Nat) (u : Value) : MQ w0 (w.setCell ⟨mb, i, none⟩ u) fb rb mb v pv zs cs σ k e (mc.setIfInBounds i u) := by
  have ho := (Only.refl (fun j => j = mb) w).setCell (p := ⟨mb, i, none⟩) (fun _ => rfl) u
  have n1 := a.fbn
  have n2 := a.rbn
  have n3 := a.mbn
  refine ⟨h.fl.only ho (by omega) (by omega) (fun j hj hz e => by have := a.vn j hj hz; omega), Pool.only h.pool ho (fun j hj e => by have := (a.pn j hj).1; omega), heap_setCell_at h.blk, ho.heap h.res (by omega), h.only.trans ho (fun i hi hl => by have hi' : i = mb := hi; omega)⟩
theorem MQ.finish (h : MQ w0 w fb rb mb v pv zs cs σ k e mc) (a : Am w0 fb rb mb v pv zs) (ho : Only (fun j => j = w0.heap.size) w w') : FlTo w0 fb rb v zs σ w' := by
  have n1 := a.fbn
  have n2 := a.rbn
  exact ⟨⟨k, e, h.fl.only ho (by omega) (by omega) (fun j hj hz e => by have := a.vn j hj hz; omega)⟩, h.only.trans ho (fun i hi hl => by have hi' : i = w0.heap.size := hi; omega)⟩
end
/-- In the loop over the traps. -/
structure LQ (w0 w : World) (fb rb mb : Nat) (v pv : Value) (zs : List Int) (cs : List ConstV) (σ : StZ) (k : Nat) (e : Int) (fl nm ds st lo : Int) (vc : Value) (code : List Int) (vt : Value) (ts : List TrapV) : Prop where
  ms : MQ w0 w fb rb mb v pv zs cs σ k e #[.int .i64 fl, .int .i64 nm, .int .i64 ds, .int .i64 st, .int .i64 lo, vc, vt, .slice none 0 0]
  rg : RowG 88 4 cellsT w (mb + 1) vt ts
  row : Row w (mb + 1) vc code
  ap : ∀ j, vc.ownBlock = some j → vt.ownBlock ≠ some j
section
variable {w0 w w' : World} {fb rb mb : Nat} {v pv : Value} {zs : List Int} {cs : List ConstV} {σ σ' : StZ} {k : Nat} {e : Int} {fl nm ds st lo : Int} {vc : Value} {code : List Int} {vt : Value} {ts : List TrapV}
theorem LQ.call (h : LQ w0 w fb rb mb v pv zs cs σ k e fl nm ds st lo vc code vt ts) (a : Am w0 fb rb mb v pv zs) (ht : FlTo w fb rb v zs σ' w') : ∃ k' e', LQ w0 w' fb rb mb v pv zs cs σ' k' e' fl nm ds st lo vc code vt ts := by
  obtain ⟨k', e', h1⟩ := h.ms.call a ht
  have hS : ∀ j, (j = fb ∨ j = rb) → j < mb + 1 := fun j hj => by have := a.fbn; have := a.rbn; have := a.mbn; omega
  exact ⟨k', e', h1, h.rg.keep ht.2 hS, h.row.keep ht.2 hS, h.ap⟩
theorem LQ.idle (h : LQ w0 w fb rb mb v pv zs cs σ k e fl nm ds st lo vc code vt ts) (ho : Only (fun _ => False) w w') : LQ w0 w' fb rb mb v pv zs cs σ k e fl nm ds st lo vc code vt ts :=
  ⟨h.ms.idle ho, RowG.only h.rg ho (fun _ _ h => h), h.row.only ho (fun _ _ h => h), h.ap⟩
theorem LQ.push {w1 : World} {v' : Value} {t : TrapV} (h : LQ w0 w fb rb mb v pv zs cs σ k e fl nm ds st lo vc code vt ts) (a : Am w0 fb rb mb v pv zs)
    (hown : w1.ownsRow (mb + 1) 88 4 v' (ts.length + 1) (ts.flatMap cellsT ++ cellsT t)) (hg : w.grownBy w1 vt.ownBlock) (hn : ∀ k, v'.ownBlock = some k → vt.ownBlock = some k ∨ w.heap.size ≤ k) :
    LQ w0 (w1.setCell ⟨mb, 6, none⟩ v') fb rb mb v pv zs cs σ k e fl nm ds st lo vc code v' (ts ++ [t]) ∧ w1.cell? ⟨mb, 6, none⟩ = some vt ∧ w1.frozen? ⟨mb, 6, none⟩ = false := by
  have hge := RowG.ge h.rg
  have n1 := a.fbn
  have n2 := a.rbn
  have n3 := a.mbn
  have ho : Only (fun j => vt.ownBlock = some j) w w1 := (Only.refl _ w).grown hg (fun k hk _ => hk)
  have far : ∀ j, j < mb + 1 → ¬ vt.ownBlock = some j := fun j hj e => by have := (hge j e).1; omega
  have hms : MQ w0 w1 fb rb mb v pv zs cs σ k e #[.int .i64 fl, .int .i64 nm, .int .i64 ds, .int .i64 st, .int .i64 lo, vc, vt, .slice none 0 0] :=
    ⟨h.ms.fl.only ho (far _ (by omega)) (far _ (by omega)) (fun j hj hz => far j (by have := a.vn j hj hz; omega)), Pool.only h.ms.pool ho (fun j hj => far j (by have := (a.pn j hj).1; omega)), ho.heap h.ms.blk (far _ (by omega)), ho.heap h.ms.res (far _ (by omega)),
      h.ms.only.trans ho (fun i hi hl => absurd hi (far i (by omega)))⟩
  have hrow := h.row.only ho h.ap
  have ho2 := (Only.refl (fun j => j = mb) w1).setCell (p := ⟨mb, 6, none⟩) (fun _ => rfl) v'
  have hS : ∀ j, j = mb → j < mb + 1 := fun j hj => by omega
  refine ⟨⟨hms.store a 6 v', (RowG.more hown).keep ho2 hS, hrow.keep ho2 hS, fun j hj e => ?_⟩, ?_, frozen_blk hms.blk 6⟩
  · rcases hn j e with e1 | e1
    · exact h.ap j hj e1
    · have := (h.row.ge j hj).2; omega
  · rw [cell_blk hms.blk 6]; rfl
end
theorem MIn.low {w : World} {B B' : Nat} {m : MethodV} {vc vt vm : Value} (h : MIn w B m vc vt vm) (hb : B' ≤ B) : MIn w B' m vc vt vm :=
  ⟨h.code.base hb, h.byt, owns_base h.traps (fun k hk => Nat.le_trans hb (RowG.ge h.traps k hk).1), h.tr, h.maps.base hb, h.byt2, h.r⟩
/-- All of it is read. -/
structure EQ (w0 w : World) (fb rb mb : Nat) (v pv : Value) (zs : List Int) (cs : List ConstV) (σ : StZ) (k : Nat) (e : Int) (m : MethodV) (vc vt vm : Value) : Prop where
  ms : MQ w0 w fb rb mb v pv zs cs σ k e #[.int .i64 m.flags, .int .i64 m.name, .int .i64 m.desc, .int .i64 m.stack, .int .i64 m.locals, vc, vt, vm]
  min : MIn w (mb + 1) m vc vt vm
section
variable {w0 w w' : World} {fb rb mb : Nat} {v pv : Value} {zs : List Int} {cs : List ConstV} {σ σ' : StZ} {k : Nat} {e : Int} {m : MethodV} {vc vt vm : Value}
theorem EQ.call (h : EQ w0 w fb rb mb v pv zs cs σ k e m vc vt vm) (a : Am w0 fb rb mb v pv zs) (ht : FlTo w fb rb v zs σ' w') : ∃ k' e', EQ w0 w' fb rb mb v pv zs cs σ' k' e' m vc vt vm := by
  obtain ⟨k', e', h1⟩ := h.ms.call a ht
  exact ⟨k', e', h1, h.min.keep ht.2 (fun j hj => by have := a.fbn; have := a.rbn; have := a.mbn; omega)⟩
theorem EQ.last (h : EQ w0 w fb rb mb v pv zs cs σ k e m vc vt vm) (a : Am w0 fb rb mb v pv zs) (ho : Only (fun j => j = w0.heap.size) w w') : FlTo w0 fb rb v zs σ w' ∧ MIn w' w0.heap.size m vc vt vm :=
  ⟨h.ms.finish a ho, (h.min.keep ho (fun j hj => by have := a.mbn; omega)).low (by have := a.mbn; omega)⟩
end

theorem onlyRow {S : Nat → Prop} {w w' : World} {b : Nat} {cs : Array Value} (h : Only S w w') (hb : b < w.heap.size → S b) : Only S w (w'.setRow b cs) :=
  ⟨h.os, h.tape, h.output, by rw [setRow_size]; exact h.size, fun k hk hs => by rw [setRow_other _ _ _ _ (fun e => hs (by subst e; exact hb hk))]; exact h.block k hk hs⟩
theorem info8_method : (Tryz.prog.info? 62).map (·.size) = some 8 := by kernel_rfl
set_option maxHeartbeats 400000 in
theorem method_result {w : World} {b : Nat} {a0 a1 a2 a3 a4 a5 a6 a7 : Value} {tmps : Array Value} (h : w.heap[b]? = some (.cells #[a0, a1, a2, a3, a4, a5, a6, a7] 62 (0, 0))) (ht : tmps.getD 4 undef = .pointer (some ⟨b, 0, none⟩)) : (results Tryz.f36 tmps).run Tryz.prog w = .ok (.agg #[a0, a1, a2, a3, a4, a5, a6, a7]) w :=
  results_cell_row Tryz.results36 tmps w b 62 _ (0, 0) _ ht h Tryz.underlying62 rfl info8_method

set_option maxHeartbeats 32000000 in
set_option maxRecDepth 100000 in
theorem dfMethod (fb rb : Nat) (v : Value) (zs : List Int) (σ : StZ) (k : Nat) (e : Int) (w : World) (ap : Option Addr) (np cp : Nat) (cs : List ConstV) (hp : Pool w (.slice ap np cp) cs) (hpv : ∀ j, (Value.slice ap np cp).ownBlock = some j → j < w.heap.size ∧ ¬ (j = fb ∨ j = rb)) (h : Fl w fb rb v zs σ k e) :
    Calls Tryz.prog 36 #[.pointer (some ⟨fb, 0, none⟩), .slice ap np cp] w fun en w' => ∃ m vc vt vm σ', en = .returned (.agg #[.int .i64 m.flags, .int .i64 m.name, .int .i64 m.desc, .int .i64 m.stack, .int .i64 m.locals, vc, vt, vm]) ∧ Nx (methodP cs) zs σ m σ' ∧ FlTo w fb rb v zs σ' w' ∧ MIn w' w.heap.size m vc vt vm ∧ MethodR m := by
  obtain ⟨i0, hi, hz0, hz1, hz2⟩ := info_parts info_trap
  have hoA := (Only.refl (fun _ => False) w).alloc (.cells #[.int .i64 0, .int .i64 0, .int .i64 0, .int .i64 0, .int .i64 0, .slice none 0 0, .slice none 0 0, .slice none 0 0] 62)
  have hrA := heap_alloc_new w (.cells #[.int .i64 0, .int .i64 0, .int .i64 0, .int .i64 0, .int .i64 0, .slice none 0 0, .slice none 0 0, .slice none 0 0] 62)
  have HF0 := Lib.hid (h.idle hoA)
  have HOA := Lib.hid (show Only (fun j => j = fb ∨ j = rb) w (w.alloc (.cells #[.int .i64 0, .int .i64 0, .int .i64 0, .int .i64 0, .int .i64 0, .slice none 0 0, .slice none 0 0, .slice none 0 0] 62)) from hoA.mono (fun _ h _ => h.elim))
  have HP0 := Lib.hid (Pool.only hp hoA (fun _ _ h => h))
  have HRA := Lib.hid hrA
  have HVN := Lib.hid (show ∀ j, v.ownBlock = some j → zs ≠ [] → j < w.heap.size from fun j hj hz => h.rf.byt.lt j hj hz)
  have HPV := Lib.hid hpv
  have HBN := Lib.hid (show fb < w.heap.size ∧ rb < w.heap.size from ⟨heap_lt h.blk, h.rf.lt⟩)
  clear h hp hpv hoA hrA
  go_enter Tryz.func36, Tryz.ntmps36
  go_wp2_with (fail)
  refine (dfNum fb rb v zs _ _ _ _ 2 (by decide) (by decide) HF0.out).mono ?_
  rintro en w1 ⟨fl, σ1, rfl, hN, hb, hto⟩
  have HN1 := Lib.hid hN
  have V1 := Lib.hid hb
  have HT1 := Lib.hid hto
  obtain ⟨⟨k1, e1, hf⟩, _⟩ := hto
  have HF1 := Lib.hid hf
  clear hN hb hf HF0
  go_wp2_with (fail)
  refine (dfNum fb rb v zs _ _ _ _ 2 (by decide) (by decide) HF1.out).mono ?_
  rintro en w2 ⟨nm, σ2, rfl, hN, hb, hto⟩
  have HN2 := Lib.hid hN
  have V2 := Lib.hid hb
  have HT2 := Lib.hid (HT1.out.then hto)
  obtain ⟨⟨k2, e2, hf⟩, _⟩ := hto
  have HF2 := Lib.hid hf
  clear hN hb hf HF1 HT1
  go_wp2_with (fail)
  refine (dfNum fb rb v zs _ _ _ _ 2 (by decide) (by decide) HF2.out).mono ?_
  rintro en w3 ⟨ds, σ3, rfl, hN, hb, hto⟩
  have HN3 := Lib.hid hN
  have V3 := Lib.hid hb
  have HT3 := Lib.hid (HT2.out.then hto)
  obtain ⟨⟨k3, e3, hf⟩, _⟩ := hto
  have HF3 := Lib.hid hf
  clear hN hb hf HF2 HT2
  obtain ⟨mb, hmb⟩ : ∃ mb, w3.heap.size = mb := ⟨_, rfl⟩
  have hb3 := heap_alloc_new w3 (.cells #[.int .i64 fl, .int .i64 nm, .int .i64 ds, .int .i64 0, .int .i64 0, .slice none 0 0, .slice none 0 0, .slice none 0 0] 62)
  rw [hmb] at hb3
  have ho3 := (Only.refl (fun _ => False) w3).alloc (.cells #[.int .i64 fl, .int .i64 nm, .int .i64 ds, .int .i64 0, .int .i64 0, .slice none 0 0, .slice none 0 0, .slice none 0 0] 62)
  have HS3 := Lib.hid (show w.heap.size < mb from by have := HT3.out.2.size; simp at this; omega)
  have AM := Lib.hid (show Am w fb rb mb v (.slice ap np cp) zs from ⟨HBN.out.1, HBN.out.2, HS3.out, HVN.out, HPV.out⟩)
  have H4 := Lib.hid (show MQ w (w3.alloc (.cells #[.int .i64 fl, .int .i64 nm, .int .i64 ds, .int .i64 0, .int .i64 0, .slice none 0 0, .slice none 0 0, .slice none 0 0] 62)) fb rb mb v (.slice ap np cp) zs cs σ3 k3 e3 #[.int .i64 fl, .int .i64 nm, .int .i64 ds, .int .i64 0, .int .i64 0, .slice none 0 0, .slice none 0 0, .slice none 0 0] from ⟨HF3.out.idle ho3, Pool.only (Pool.only HP0.out HT3.out.2 (fun j hj => (HPV.out j hj).2)) ho3 (fun _ _ h => h), hb3, ho3.heap (HT3.out.2.heap HRA.out (by have := HBN.out; omega)) (fun h => h), (HOA.out.trans HT3.out.2 (fun _ h _ => h)).trans ho3 (fun _ h _ => h.elim)⟩)
  clear hb3 ho3 HF3 HT3 HP0 HRA HOA HVN HPV HBN
  go_wp2_with (fail)
  try rw [hmb]
  clear hmb
  generalize w3.alloc (.cells #[.int .i64 fl, .int .i64 nm, .int .i64 ds, .int .i64 0, .int .i64 0, .slice none 0 0, .slice none 0 0, .slice none 0 0] 62) = w4 at *
  refine (dfMust fb rb v zs _ _ _ _ 1 H4.out.fl).mono ?_
  rintro en w5 ⟨σ5, rfl, hN, hto⟩
  have HN5 := Lib.hid hN
  obtain ⟨k5, e5, hm⟩ := H4.out.call AM.out hto
  have H5 := Lib.hid hm
  clear hN hto hm H4
  go_wp2_with (fail)
  refine (dfNamed fb rb v zs _ _ _ _ ap np cp cs codeT H5.out.pool (fun j hj => (AM.out.pn j hj).2) H5.out.fl).mono ?_
  rintro en w6 ⟨σ6, rfl, hN, hto⟩
  have HN6 := Lib.hid hN
  obtain ⟨k6, e6, hm⟩ := H5.out.call AM.out hto
  have H6 := Lib.hid hm
  clear hN hto hm H5
  go_wp2_with (fail)
  refine (dfNum fb rb v zs _ _ _ _ 4 (by decide) (by decide) H6.out.fl).mono ?_
  rintro en w7 ⟨size, σ7, rfl, hN, hb, hto⟩
  have HN7 := Lib.hid hN
  obtain ⟨k7, e7, hm⟩ := H6.out.call AM.out hto
  have H7 := Lib.hid hm
  have HKF := Lib.hid (Nx.at zs hm.fl.st)
  have KFL := Lib.hid hm.fl.rf.le
  have q0 := cell_blk hm.fl.blk 0
  have r1 := cell_blk hm.fl.rf.blk 1
  simp at q0 r1
  clear hN hb hto hm H6
  go_wp2_with (fail)
  clear q0 r1
  refine (dfNum fb rb v zs _ _ _ _ 2 (by decide) (by decide) H7.out.fl).mono ?_
  rintro en w8 ⟨st, σ8, rfl, hN, hb, hto⟩
  have HN8 := Lib.hid hN
  have VST := Lib.hid (i64_short hb)
  obtain ⟨k8, e8, hm⟩ := H7.out.call AM.out hto
  have q3 := cell_blk hm.blk 3
  have f3 := frozen_blk hm.blk 3
  simp at q3
  have H8 := Lib.hid (show MQ w (w8.setCell ⟨mb, 3, none⟩ (.int .i64 st)) fb rb mb v (.slice ap np cp) zs cs σ8 k8 e8 #[.int .i64 fl, .int .i64 nm, .int .i64 ds, .int .i64 st, .int .i64 0, .slice none 0 0, .slice none 0 0, .slice none 0 0] from hm.store AM.out 3 (.int .i64 st))
  clear hN hb hto hm H7
  go_wp2_with (fail)
  clear q3 f3
  generalize w8.setCell ⟨mb, 3, none⟩ (.int .i64 st) = w8' at *
  refine (dfNum fb rb v zs _ _ _ _ 2 (by decide) (by decide) H8.out.fl).mono ?_
  rintro en w9 ⟨lo, σ9, rfl, hN, hb, hto⟩
  have HN9 := Lib.hid hN
  have VLO := Lib.hid (i64_short hb)
  obtain ⟨k9, e9, hm⟩ := H8.out.call AM.out hto
  have q4 := cell_blk hm.blk 4
  have f4 := frozen_blk hm.blk 4
  simp at q4
  have H9 := Lib.hid (show MQ w (w9.setCell ⟨mb, 4, none⟩ (.int .i64 lo)) fb rb mb v (.slice ap np cp) zs cs σ9 k9 e9 #[.int .i64 fl, .int .i64 nm, .int .i64 ds, .int .i64 st, .int .i64 lo, .slice none 0 0, .slice none 0 0, .slice none 0 0] from hm.store AM.out 4 (.int .i64 lo))
  clear hN hb hto hm H8
  go_wp2_with (fail)
  clear q4 f4
  generalize w9.setCell ⟨mb, 4, none⟩ (.int .i64 lo) = w9' at *
  refine (dfCount fb rb v zs _ _ _ _ 4 (.inr rfl) 4096 (by decide) H9.out.fl).mono ?_
  rintro en w10 ⟨n, σ10, rfl, hN, hb, hto⟩
  obtain ⟨nn, rfl⟩ : ∃ nn : Nat, n = nn := ⟨n.toNat, by omega⟩
  have HN10 := Lib.hid hN
  obtain ⟨k10, e10, hm⟩ := H9.out.call AM.out hto
  have H10 := Lib.hid hm
  clear hN hb hto hm H9
  go_wp2_with (fail)
  refine (dfBytes fb rb v zs _ _ _ _ nn H10.out.fl).mono ?_
  rintro en w11 ⟨vc, code, σ11, rfl, hN, hto, hrow, hby, hlen⟩
  have HN11 := Lib.hid hN
  obtain ⟨k11, e11, hm⟩ := H10.out.call AM.out hto
  obtain ⟨ac, cc, rfl, _, _⟩ := slice_of_owns hrow
  have hrow1 := hrow.base (show mb + 1 ≤ w10.heap.size from heap_lt H10.out.blk)
  have HBY := Lib.hid hby
  have q5 := cell_blk hm.blk 5
  have f5 := frozen_blk hm.blk 5
  simp at q5
  obtain ⟨cl, hcl⟩ : ∃ cl, code.length = cl := ⟨_, rfl⟩
  rw [hcl] at hrow1
  rw [hcl]
  have H11 := Lib.hid (show LQ w (w11.setCell ⟨mb, 5, none⟩ (.slice ac cl cc)) fb rb mb v (.slice ap np cp) zs cs σ11 k11 e11 fl nm ds st lo (.slice ac cl cc) code (.slice none 0 0) [] from ⟨hm.store AM.out 5 (.slice ac cl cc), RowG.nil _ _, hrow1.keep ((Only.refl (fun j => j = mb) w11).setCell (p := ⟨mb, 5, none⟩) (fun _ => rfl) (.slice ac cl cc)) (fun j hj => by have hj' : j = mb := hj; omega), fun j _ e => by cases e⟩)
  clear hN hto hm hrow hrow1 hby hlen hcl H10
  go_wp2_with (fail)
  clear q5 f5
  generalize w11.setCell ⟨mb, 5, none⟩ (.slice ac cl cc) = w11' at *
  refine (dfCount fb rb v zs _ _ _ _ 2 (.inl rfl) 64 (by decide) H11.out.ms.fl).mono ?_
  rintro en w12 ⟨m, σ12, rfl, hN, hb, hto⟩
  obtain ⟨mm, rfl⟩ : ∃ mm : Nat, m = mm := ⟨m.toNat, by omega⟩
  have HN12 := Lib.hid hN
  have m1 := hb.2
  obtain ⟨k12, e12, hm⟩ := H11.out.call AM.out hto
  have H12 := Lib.hid hm
  have HMR := Lib.hid (show I64 fl ∧ I64 nm ∧ I64 ds ∧ I64 st ∧ I64 lo from ⟨i64_short V1.out, i64_short V2.out, i64_short V3.out, VST.out, VLO.out⟩)
  clear hN hb hto hm H11 V1 V2 V3
  go_wp2
  go_loopw [9] (fun i wr => ∃ (ts : List TrapV) (σj : StZ) (kj : Nat) (ej : Int) (vt : Value), i = .int .i64 ts.length ∧ ts.length ≤ mm ∧ ListS trapP mm zs σ12 ts σj ∧ LQ w wr fb rb mb v (.slice ap np cp) zs cs σj kj ej fl nm ds st lo (.slice ac cl cc) code vt ts ∧ ∀ t ∈ ts, TrapR t) (fun i _ => mm - (intOf i).toNat)
  case atStart => exact ⟨[], σ12, k12, e12, _, rfl, Nat.zero_le _, ListS.start, H12.out, fun t ht => by cases ht⟩
  case round =>
    obtain ⟨ts, σj, kj, ej, vt, rfl, hle, hto, hl, htr⟩ := hrel
    obtain ⟨at_, ct, rfl, _, _⟩ := slice_of_owns hl.rg
    have HTO := Lib.hid hto
    have HTR := Lib.hid htr
    have HL := Lib.hid hl
    have q1 := cell_blk hl.ms.fl.blk 1
    simp at q1
    clear hto htr H12
    by_cases hlt : ts.length < mm
    · have hltz : (ts.length : Int) < (mm : Int) := by omega
      cases σj with
      | ok kk =>
        have hkk := hl.ms.fl.e_ok
        have HLT := Lib.hid hlt
        obtain ⟨_, rfl⟩ := hkk
        have HL0 := Lib.hid (HL.out.idle (Only.refl (fun _ => False) wr).drew)
        have q6 := cell_blk HL0.out.ms.blk 6
        simp at q6
        clear HL hl
        go_wp2_with (fail)
        refine wp_region_held_drew (S := fun _ => True) (by kernel_rfl) trivial (fun hHeld => ?_)
        refine wpAnyH_take (i := 0) (v := ?_) (by simp only [List.getElem?_toArray, List.getElem?_cons_succ, List.getElem?_cons_zero]; rfl) (by kernel_rfl) (by kernel_rfl) (by kernel_rfl) (by exact fun _ _ _ h => h) (Or.inl ⟨by rfl, ?_⟩) (by assumption) ?_
        rotate_left 1
        · (intro w hSw; (try dsimp only at hSw); go_simp; try with_reducible rfl)
        try simp only [Act.put, List.setIfInBounds_toArray, List.set_cons_zero, List.set_cons_succ]
        refine wpAnyH_take (i := 2) (v := ?_) (by simp only [List.getElem?_toArray, List.getElem?_cons_succ, List.getElem?_cons_zero]; rfl) (by kernel_rfl) (by kernel_rfl) (by kernel_rfl) (by exact fun _ _ _ h => h) (Or.inl ⟨by rfl, ?_⟩) (by assumption) ?_
        rotate_left 1
        · (intro w hSw; (try dsimp only at hSw); go_simp; try with_reducible rfl)
        try simp only [Act.put, List.setIfInBounds_toArray, List.set_cons_zero, List.set_cons_succ]
        refine wpAnyH_take (i := 4) (v := ?_) (by simp only [List.getElem?_toArray, List.getElem?_cons_succ, List.getElem?_cons_zero]; rfl) (by kernel_rfl) (by kernel_rfl) (by kernel_rfl) (by exact fun _ _ _ h => h) (Or.inl ⟨by rfl, ?_⟩) (by assumption) ?_
        rotate_left 1
        · (intro w hSw; (try dsimp only at hSw); go_simp; try with_reducible rfl)
        try simp only [Act.put, List.setIfInBounds_toArray, List.set_cons_zero, List.set_cons_succ]
        refine wpAnyH_take (i := 6) (v := ?_) (by simp only [List.getElem?_toArray, List.getElem?_cons_succ, List.getElem?_cons_zero]; rfl) (by kernel_rfl) (by kernel_rfl) (by kernel_rfl) (by exact fun _ _ _ h => h) (Or.inl ⟨by rfl, ?_⟩) (by assumption) ?_
        rotate_left 1
        · (intro w hSw; (try dsimp only at hSw); go_simp; try with_reducible rfl)
        try simp only [Act.put, List.setIfInBounds_toArray, List.set_cons_zero, List.set_cons_succ]
        refine wpAnyH_take (i := 8) (v := ?_) (by simp only [List.getElem?_toArray, List.getElem?_cons_succ, List.getElem?_cons_zero]; rfl) (by kernel_rfl) (by kernel_rfl) (by kernel_rfl) (by exact fun _ _ _ h => h) (Or.inl ⟨by rfl, ?_⟩) (by assumption) ?_
        rotate_left 1
        · (intro w hSw; (try dsimp only at hSw); go_simp; try with_reducible rfl)
        try simp only [Act.put, List.setIfInBounds_toArray, List.set_cons_zero, List.set_cons_succ]
        refine wpAnyH_ready (rs := [1, 3]) (by kernel_rfl) (by simp) ?_
        refine AllReadyH.cons (by simp only [List.getElem?_toArray, List.getElem?_cons_succ, List.getElem?_cons_zero]; rfl) (fun K hK => ?_) ?_
        · go_simp
          refine hK.out _ _ trivial (fun hHeld2 => ?_)
          clear hK K
          try simp only [Act.put, List.setIfInBounds_toArray, List.set_cons_zero, List.set_cons_succ]
          clear hHeld
          have hHeld := hHeld2
          clear hHeld2
          refine wpAnyH_ready (rs := [3]) (by kernel_rfl) (by simp) ?_
          refine AllReadyH.cons (by simp only [List.getElem?_toArray, List.getElem?_cons_succ, List.getElem?_cons_zero]; rfl) (fun K hK => ?_) AllReadyH.nil
          go_simp
          refine (dfNum fb rb v zs _ _ _ _ 2 (by decide) (by decide) HL0.out.ms.fl).mono ?_
          rintro en w1 ⟨a, σt1, rfl, hN, hb, hto⟩
          have T1 := Lib.hid hN
          have U1 := Lib.hid hb
          obtain ⟨kt1, et1, hl⟩ := HL0.out.call AM.out hto
          have HL1 := Lib.hid hl
          have q6 := cell_blk HL1.out.ms.blk 6
          simp at q6
          clear hN hb hto hl
          go_wp2_with fail
          refine hK.out _ _ trivial (fun hHeld2 => ?_)
          clear hK K
          try simp only [Act.put, List.setIfInBounds_toArray, List.set_cons_zero, List.set_cons_succ]
          clear hHeld
          have hHeld := hHeld2
          clear hHeld2
          refine wpAnyH_ready (rs := [5]) (by kernel_rfl) (by simp) ?_
          refine AllReadyH.cons (by simp only [List.getElem?_toArray, List.getElem?_cons_succ, List.getElem?_cons_zero]; rfl) (fun K hK => ?_) AllReadyH.nil
          go_simp
          refine (dfNum fb rb v zs _ _ _ _ 2 (by decide) (by decide) HL1.out.ms.fl).mono ?_
          rintro en w2 ⟨b_, σt2, rfl, hN, hb, hto⟩
          have T2 := Lib.hid hN
          have U2 := Lib.hid hb
          obtain ⟨kt2, et2, hl⟩ := HL1.out.call AM.out hto
          have HL2 := Lib.hid hl
          have q6 := cell_blk HL2.out.ms.blk 6
          simp at q6
          clear hN hb hto hl
          go_wp2_with fail
          refine hK.out _ _ trivial (fun hHeld2 => ?_)
          clear hK K
          try simp only [Act.put, List.setIfInBounds_toArray, List.set_cons_zero, List.set_cons_succ]
          clear hHeld
          have hHeld := hHeld2
          clear hHeld2
          refine wpAnyH_ready (rs := [7]) (by kernel_rfl) (by simp) ?_
          refine AllReadyH.cons (by simp only [List.getElem?_toArray, List.getElem?_cons_succ, List.getElem?_cons_zero]; rfl) (fun K hK => ?_) AllReadyH.nil
          go_simp
          refine (dfNum fb rb v zs _ _ _ _ 2 (by decide) (by decide) HL2.out.ms.fl).mono ?_
          rintro en w3 ⟨c_, σt3, rfl, hN, hb, hto⟩
          have T3 := Lib.hid hN
          have U3 := Lib.hid hb
          obtain ⟨kt3, et3, hl⟩ := HL2.out.call AM.out hto
          have HL3 := Lib.hid hl
          have q6 := cell_blk HL3.out.ms.blk 6
          simp at q6
          clear hN hb hto hl
          go_wp2_with fail
          refine hK.out _ _ trivial (fun hHeld2 => ?_)
          clear hK K
          try simp only [Act.put, List.setIfInBounds_toArray, List.set_cons_zero, List.set_cons_succ]
          clear hHeld
          have hHeld := hHeld2
          clear hHeld2
          refine wpAnyH_ready (rs := [9]) (by kernel_rfl) (by simp) ?_
          refine AllReadyH.cons (by simp only [List.getElem?_toArray, List.getElem?_cons_succ, List.getElem?_cons_zero]; rfl) (fun K hK => ?_) AllReadyH.nil
          go_simp
          refine (dfNum fb rb v zs _ _ _ _ 2 (by decide) (by decide) HL3.out.ms.fl).mono ?_
          rintro en w4 ⟨d, σt4, rfl, hN, hb, hto⟩
          have T4 := Lib.hid hN
          have U4 := Lib.hid hb
          obtain ⟨kt4, et4, hl⟩ := HL3.out.call AM.out hto
          have HL4 := Lib.hid hl
          have q6 := cell_blk HL4.out.ms.blk 6
          simp at q6
          clear hN hb hto hl
          go_wp2_with fail
          refine hK.out _ _ trivial (fun hHeld2 => ?_)
          clear hK K
          try simp only [Act.put, List.setIfInBounds_toArray, List.set_cons_zero, List.set_cons_succ]
          clear hHeld
          have hHeld := hHeld2
          clear hHeld2
          refine wpAnyH_take (i := 10) (v := ?_) (by simp only [List.getElem?_toArray, List.getElem?_cons_succ, List.getElem?_cons_zero]; rfl) (by kernel_rfl) (by kernel_rfl) (by kernel_rfl) (by exact fun _ _ _ h => h) (Or.inl ⟨by rfl, ?_⟩) (by assumption) ?_
          rotate_left 1
          · (intro w hSw; (try dsimp only at hSw); go_simp; try with_reducible rfl)
          try simp only [Act.put, List.setIfInBounds_toArray, List.set_cons_zero, List.set_cons_succ]
          refine wpAnyH_ready (rs := [11]) (by kernel_rfl) (by simp) ?_
          refine AllReadyH.cons (by simp only [List.getElem?_toArray, List.getElem?_cons_succ, List.getElem?_cons_zero]; rfl) (fun K hK => ?_) AllReadyH.nil
          go_simp
          have HLa := Lib.hid (HL4.out.idle ((Only.refl (fun _ => False) w4).alloc (.cells #[.int .i64 a, .int .i64 b_, .int .i64 c_, .int .i64 d] 88)))
          have q6 := cell_blk HLa.out.ms.blk 6
          simp at q6
          refine hK.out _ _ trivial (fun hHeld2 => ?_)
          clear hK K
          try simp only [Act.put, List.setIfInBounds_toArray, List.set_cons_zero, List.set_cons_succ]
          clear hHeld
          have hHeld := hHeld2
          clear hHeld2
          refine wpAnyH_ready (rs := [12]) (by kernel_rfl) (by simp) ?_
          refine AllReadyH.cons (by simp only [List.getElem?_toArray, List.getElem?_cons_succ, List.getElem?_cons_zero]; rfl) (fun K hK => ?_) AllReadyH.nil
          (refine step_append_src rfl (.tmp 58) (.tmp 68) 60 rfl 88 i0 (.agg #[.int .i64 0, .int .i64 0, .int .i64 0, .int .i64 0]) 4 32 Tryz.underlying60 hi hz0 hz1 hz2 rfl (by decide) (mb + 1) (.slice at_ ts.length ct) ts.length (ts.flatMap cellsT) rfl (by exact HLa.out.rg) (by exact heap_lt HLa.out.ms.blk) (.slice (some ⟨w4.heap.size, 0, none⟩) 1 1) 1 (cellsT ⟨a, b_, c_, d⟩) rfl (by exact Src.struct (w := w4) (cellsT ⟨a, b_, c_, d⟩) rfl (by intro u hu; simp [cellsT] at hu; rcases hu with rfl | rfl | rfl | rfl <;> rfl) rfl) (by unfold maxLen; omega) (by omega) ?_; intro v' wz hown hgrow hnew; obtain ⟨av', cv', rfl, _, _⟩ := slice_of_owns hown)
          obtain ⟨hp, q6, f6⟩ := HLa.out.push AM.out hown hgrow hnew
          have HP := Lib.hid hp
          clear hown hgrow hnew hp
          refine hK.out _ _ trivial (fun hHeld2 => ?_)
          clear hK K
          try simp only [Act.put, List.setIfInBounds_toArray, List.set_cons_zero, List.set_cons_succ]
          clear hHeld
          have hHeld := hHeld2
          clear hHeld2
          refine wpAnyH_take (i := 13) (v := ?_) (by simp only [List.getElem?_toArray, List.getElem?_cons_succ, List.getElem?_cons_zero]; rfl) (by kernel_rfl) (by kernel_rfl) (by kernel_rfl) (by exact fun _ _ _ h => h) (Or.inl ⟨by rfl, ?_⟩) (by assumption) ?_
          rotate_left 1
          · (intro w hSw; (try dsimp only at hSw); go_simp; try with_reducible rfl)
          try simp only [Act.put, List.setIfInBounds_toArray, List.set_cons_zero, List.set_cons_succ]
          refine wpAnyH_ready (rs := [14]) (by kernel_rfl) (by simp) ?_
          refine AllReadyH.cons (by simp only [List.getElem?_toArray, List.getElem?_cons_succ, List.getElem?_cons_zero]; rfl) (fun K hK => ?_) AllReadyH.nil
          go_simp
          refine hK.out _ _ trivial (fun hHeld2 => ?_)
          clear hK K
          try simp only [Act.put, List.setIfInBounds_toArray, List.set_cons_zero, List.set_cons_succ]
          clear hHeld
          have hHeld := hHeld2
          clear hHeld2
          refine wpAnyH_done (by kernel_rfl) ?_ _
          clear hHeld
          go_wp2
          go_roundw
          case rel =>
            exact ⟨ts ++ [⟨a, b_, c_, d⟩], σt4, kt4, et4, _, by simp, by simp; omega, HTO.out.more HLT.out (show Nx trapP zs (.ok kk) ⟨a, b_, c_, d⟩ σt4 from T1.out.bind (T2.out.bind (T3.out.bind (T4.out.bind (Nx.ret _ _ _))))), HP.out, fun t ht => by
              rcases List.mem_append.1 ht with ht | ht
              · exact HTR.out t ht
              · simp only [List.mem_cons, List.mem_nil_iff, or_false] at ht
                subst ht
                exact trap_small U1.out U2.out U3.out U4.out⟩
          case measure => simp [intOf]; omega
        refine AllReadyH.cons (by simp only [List.getElem?_toArray, List.getElem?_cons_succ, List.getElem?_cons_zero]; rfl) (fun K hK => ?_) AllReadyH.nil
        go_simp
        refine (dfNum fb rb v zs _ _ _ _ 2 (by decide) (by decide) HL0.out.ms.fl).mono ?_
        rintro en w1 ⟨a, σt1, rfl, hN, hb, hto⟩
        have T1 := Lib.hid hN
        have U1 := Lib.hid hb
        obtain ⟨kt1, et1, hl⟩ := HL0.out.call AM.out hto
        have HL1 := Lib.hid hl
        have q6 := cell_blk HL1.out.ms.blk 6
        simp at q6
        clear hN hb hto hl
        go_wp2_with fail
        refine hK.out _ _ trivial (fun hHeld2 => ?_)
        clear hK K
        try simp only [Act.put, List.setIfInBounds_toArray, List.set_cons_zero, List.set_cons_succ]
        clear hHeld
        have hHeld := hHeld2
        clear hHeld2
        refine wpAnyH_ready (rs := [1, 5]) (by kernel_rfl) (by simp) ?_
        refine AllReadyH.cons (by simp only [List.getElem?_toArray, List.getElem?_cons_succ, List.getElem?_cons_zero]; rfl) (fun K hK => ?_) ?_
        · go_simp
          refine hK.out _ _ trivial (fun hHeld2 => ?_)
          clear hK K
          try simp only [Act.put, List.setIfInBounds_toArray, List.set_cons_zero, List.set_cons_succ]
          clear hHeld
          have hHeld := hHeld2
          clear hHeld2
          refine wpAnyH_ready (rs := [5]) (by kernel_rfl) (by simp) ?_
          refine AllReadyH.cons (by simp only [List.getElem?_toArray, List.getElem?_cons_succ, List.getElem?_cons_zero]; rfl) (fun K hK => ?_) AllReadyH.nil
          go_simp
          refine (dfNum fb rb v zs _ _ _ _ 2 (by decide) (by decide) HL1.out.ms.fl).mono ?_
          rintro en w2 ⟨b_, σt2, rfl, hN, hb, hto⟩
          have T2 := Lib.hid hN
          have U2 := Lib.hid hb
          obtain ⟨kt2, et2, hl⟩ := HL1.out.call AM.out hto
          have HL2 := Lib.hid hl
          have q6 := cell_blk HL2.out.ms.blk 6
          simp at q6
          clear hN hb hto hl
          go_wp2_with fail
          refine hK.out _ _ trivial (fun hHeld2 => ?_)
          clear hK K
          try simp only [Act.put, List.setIfInBounds_toArray, List.set_cons_zero, List.set_cons_succ]
          clear hHeld
          have hHeld := hHeld2
          clear hHeld2
          refine wpAnyH_ready (rs := [7]) (by kernel_rfl) (by simp) ?_
          refine AllReadyH.cons (by simp only [List.getElem?_toArray, List.getElem?_cons_succ, List.getElem?_cons_zero]; rfl) (fun K hK => ?_) AllReadyH.nil
          go_simp
          refine (dfNum fb rb v zs _ _ _ _ 2 (by decide) (by decide) HL2.out.ms.fl).mono ?_
          rintro en w3 ⟨c_, σt3, rfl, hN, hb, hto⟩
          have T3 := Lib.hid hN
          have U3 := Lib.hid hb
          obtain ⟨kt3, et3, hl⟩ := HL2.out.call AM.out hto
          have HL3 := Lib.hid hl
          have q6 := cell_blk HL3.out.ms.blk 6
          simp at q6
          clear hN hb hto hl
          go_wp2_with fail
          refine hK.out _ _ trivial (fun hHeld2 => ?_)
          clear hK K
          try simp only [Act.put, List.setIfInBounds_toArray, List.set_cons_zero, List.set_cons_succ]
          clear hHeld
          have hHeld := hHeld2
          clear hHeld2
          refine wpAnyH_ready (rs := [9]) (by kernel_rfl) (by simp) ?_
          refine AllReadyH.cons (by simp only [List.getElem?_toArray, List.getElem?_cons_succ, List.getElem?_cons_zero]; rfl) (fun K hK => ?_) AllReadyH.nil
          go_simp
          refine (dfNum fb rb v zs _ _ _ _ 2 (by decide) (by decide) HL3.out.ms.fl).mono ?_
          rintro en w4 ⟨d, σt4, rfl, hN, hb, hto⟩
          have T4 := Lib.hid hN
          have U4 := Lib.hid hb
          obtain ⟨kt4, et4, hl⟩ := HL3.out.call AM.out hto
          have HL4 := Lib.hid hl
          have q6 := cell_blk HL4.out.ms.blk 6
          simp at q6
          clear hN hb hto hl
          go_wp2_with fail
          refine hK.out _ _ trivial (fun hHeld2 => ?_)
          clear hK K
          try simp only [Act.put, List.setIfInBounds_toArray, List.set_cons_zero, List.set_cons_succ]
          clear hHeld
          have hHeld := hHeld2
          clear hHeld2
          refine wpAnyH_take (i := 10) (v := ?_) (by simp only [List.getElem?_toArray, List.getElem?_cons_succ, List.getElem?_cons_zero]; rfl) (by kernel_rfl) (by kernel_rfl) (by kernel_rfl) (by exact fun _ _ _ h => h) (Or.inl ⟨by rfl, ?_⟩) (by assumption) ?_
          rotate_left 1
          · (intro w hSw; (try dsimp only at hSw); go_simp; try with_reducible rfl)
          try simp only [Act.put, List.setIfInBounds_toArray, List.set_cons_zero, List.set_cons_succ]
          refine wpAnyH_ready (rs := [11]) (by kernel_rfl) (by simp) ?_
          refine AllReadyH.cons (by simp only [List.getElem?_toArray, List.getElem?_cons_succ, List.getElem?_cons_zero]; rfl) (fun K hK => ?_) AllReadyH.nil
          go_simp
          have HLa := Lib.hid (HL4.out.idle ((Only.refl (fun _ => False) w4).alloc (.cells #[.int .i64 a, .int .i64 b_, .int .i64 c_, .int .i64 d] 88)))
          have q6 := cell_blk HLa.out.ms.blk 6
          simp at q6
          refine hK.out _ _ trivial (fun hHeld2 => ?_)
          clear hK K
          try simp only [Act.put, List.setIfInBounds_toArray, List.set_cons_zero, List.set_cons_succ]
          clear hHeld
          have hHeld := hHeld2
          clear hHeld2
          refine wpAnyH_ready (rs := [12]) (by kernel_rfl) (by simp) ?_
          refine AllReadyH.cons (by simp only [List.getElem?_toArray, List.getElem?_cons_succ, List.getElem?_cons_zero]; rfl) (fun K hK => ?_) AllReadyH.nil
          (refine step_append_src rfl (.tmp 58) (.tmp 68) 60 rfl 88 i0 (.agg #[.int .i64 0, .int .i64 0, .int .i64 0, .int .i64 0]) 4 32 Tryz.underlying60 hi hz0 hz1 hz2 rfl (by decide) (mb + 1) (.slice at_ ts.length ct) ts.length (ts.flatMap cellsT) rfl (by exact HLa.out.rg) (by exact heap_lt HLa.out.ms.blk) (.slice (some ⟨w4.heap.size, 0, none⟩) 1 1) 1 (cellsT ⟨a, b_, c_, d⟩) rfl (by exact Src.struct (w := w4) (cellsT ⟨a, b_, c_, d⟩) rfl (by intro u hu; simp [cellsT] at hu; rcases hu with rfl | rfl | rfl | rfl <;> rfl) rfl) (by unfold maxLen; omega) (by omega) ?_; intro v' wz hown hgrow hnew; obtain ⟨av', cv', rfl, _, _⟩ := slice_of_owns hown)
          obtain ⟨hp, q6, f6⟩ := HLa.out.push AM.out hown hgrow hnew
          have HP := Lib.hid hp
          clear hown hgrow hnew hp
          refine hK.out _ _ trivial (fun hHeld2 => ?_)
          clear hK K
          try simp only [Act.put, List.setIfInBounds_toArray, List.set_cons_zero, List.set_cons_succ]
          clear hHeld
          have hHeld := hHeld2
          clear hHeld2
          refine wpAnyH_take (i := 13) (v := ?_) (by simp only [List.getElem?_toArray, List.getElem?_cons_succ, List.getElem?_cons_zero]; rfl) (by kernel_rfl) (by kernel_rfl) (by kernel_rfl) (by exact fun _ _ _ h => h) (Or.inl ⟨by rfl, ?_⟩) (by assumption) ?_
          rotate_left 1
          · (intro w hSw; (try dsimp only at hSw); go_simp; try with_reducible rfl)
          try simp only [Act.put, List.setIfInBounds_toArray, List.set_cons_zero, List.set_cons_succ]
          refine wpAnyH_ready (rs := [14]) (by kernel_rfl) (by simp) ?_
          refine AllReadyH.cons (by simp only [List.getElem?_toArray, List.getElem?_cons_succ, List.getElem?_cons_zero]; rfl) (fun K hK => ?_) AllReadyH.nil
          go_simp
          refine hK.out _ _ trivial (fun hHeld2 => ?_)
          clear hK K
          try simp only [Act.put, List.setIfInBounds_toArray, List.set_cons_zero, List.set_cons_succ]
          clear hHeld
          have hHeld := hHeld2
          clear hHeld2
          refine wpAnyH_done (by kernel_rfl) ?_ _
          clear hHeld
          go_wp2
          go_roundw
          case rel =>
            exact ⟨ts ++ [⟨a, b_, c_, d⟩], σt4, kt4, et4, _, by simp, by simp; omega, HTO.out.more HLT.out (show Nx trapP zs (.ok kk) ⟨a, b_, c_, d⟩ σt4 from T1.out.bind (T2.out.bind (T3.out.bind (T4.out.bind (Nx.ret _ _ _))))), HP.out, fun t ht => by
              rcases List.mem_append.1 ht with ht | ht
              · exact HTR.out t ht
              · simp only [List.mem_cons, List.mem_nil_iff, or_false] at ht
                subst ht
                exact trap_small U1.out U2.out U3.out U4.out⟩
          case measure => simp [intOf]; omega
        refine AllReadyH.cons (by simp only [List.getElem?_toArray, List.getElem?_cons_succ, List.getElem?_cons_zero]; rfl) (fun K hK => ?_) AllReadyH.nil
        go_simp
        refine (dfNum fb rb v zs _ _ _ _ 2 (by decide) (by decide) HL1.out.ms.fl).mono ?_
        rintro en w2 ⟨b_, σt2, rfl, hN, hb, hto⟩
        have T2 := Lib.hid hN
        have U2 := Lib.hid hb
        obtain ⟨kt2, et2, hl⟩ := HL1.out.call AM.out hto
        have HL2 := Lib.hid hl
        have q6 := cell_blk HL2.out.ms.blk 6
        simp at q6
        clear hN hb hto hl
        go_wp2_with fail
        refine hK.out _ _ trivial (fun hHeld2 => ?_)
        clear hK K
        try simp only [Act.put, List.setIfInBounds_toArray, List.set_cons_zero, List.set_cons_succ]
        clear hHeld
        have hHeld := hHeld2
        clear hHeld2
        refine wpAnyH_ready (rs := [1, 7]) (by kernel_rfl) (by simp) ?_
        refine AllReadyH.cons (by simp only [List.getElem?_toArray, List.getElem?_cons_succ, List.getElem?_cons_zero]; rfl) (fun K hK => ?_) ?_
        · go_simp
          refine hK.out _ _ trivial (fun hHeld2 => ?_)
          clear hK K
          try simp only [Act.put, List.setIfInBounds_toArray, List.set_cons_zero, List.set_cons_succ]
          clear hHeld
          have hHeld := hHeld2
          clear hHeld2
          refine wpAnyH_ready (rs := [7]) (by kernel_rfl) (by simp) ?_
          refine AllReadyH.cons (by simp only [List.getElem?_toArray, List.getElem?_cons_succ, List.getElem?_cons_zero]; rfl) (fun K hK => ?_) AllReadyH.nil
          go_simp
          refine (dfNum fb rb v zs _ _ _ _ 2 (by decide) (by decide) HL2.out.ms.fl).mono ?_
          rintro en w3 ⟨c_, σt3, rfl, hN, hb, hto⟩
          have T3 := Lib.hid hN
          have U3 := Lib.hid hb
          obtain ⟨kt3, et3, hl⟩ := HL2.out.call AM.out hto
          have HL3 := Lib.hid hl
          have q6 := cell_blk HL3.out.ms.blk 6
          simp at q6
          clear hN hb hto hl
          go_wp2_with fail
          refine hK.out _ _ trivial (fun hHeld2 => ?_)
          clear hK K
          try simp only [Act.put, List.setIfInBounds_toArray, List.set_cons_zero, List.set_cons_succ]
          clear hHeld
          have hHeld := hHeld2
          clear hHeld2
          refine wpAnyH_ready (rs := [9]) (by kernel_rfl) (by simp) ?_
          refine AllReadyH.cons (by simp only [List.getElem?_toArray, List.getElem?_cons_succ, List.getElem?_cons_zero]; rfl) (fun K hK => ?_) AllReadyH.nil
          go_simp
          refine (dfNum fb rb v zs _ _ _ _ 2 (by decide) (by decide) HL3.out.ms.fl).mono ?_
          rintro en w4 ⟨d, σt4, rfl, hN, hb, hto⟩
          have T4 := Lib.hid hN
          have U4 := Lib.hid hb
          obtain ⟨kt4, et4, hl⟩ := HL3.out.call AM.out hto
          have HL4 := Lib.hid hl
          have q6 := cell_blk HL4.out.ms.blk 6
          simp at q6
          clear hN hb hto hl
          go_wp2_with fail
          refine hK.out _ _ trivial (fun hHeld2 => ?_)
          clear hK K
          try simp only [Act.put, List.setIfInBounds_toArray, List.set_cons_zero, List.set_cons_succ]
          clear hHeld
          have hHeld := hHeld2
          clear hHeld2
          refine wpAnyH_take (i := 10) (v := ?_) (by simp only [List.getElem?_toArray, List.getElem?_cons_succ, List.getElem?_cons_zero]; rfl) (by kernel_rfl) (by kernel_rfl) (by kernel_rfl) (by exact fun _ _ _ h => h) (Or.inl ⟨by rfl, ?_⟩) (by assumption) ?_
          rotate_left 1
          · (intro w hSw; (try dsimp only at hSw); go_simp; try with_reducible rfl)
          try simp only [Act.put, List.setIfInBounds_toArray, List.set_cons_zero, List.set_cons_succ]
          refine wpAnyH_ready (rs := [11]) (by kernel_rfl) (by simp) ?_
          refine AllReadyH.cons (by simp only [List.getElem?_toArray, List.getElem?_cons_succ, List.getElem?_cons_zero]; rfl) (fun K hK => ?_) AllReadyH.nil
          go_simp
          have HLa := Lib.hid (HL4.out.idle ((Only.refl (fun _ => False) w4).alloc (.cells #[.int .i64 a, .int .i64 b_, .int .i64 c_, .int .i64 d] 88)))
          have q6 := cell_blk HLa.out.ms.blk 6
          simp at q6
          refine hK.out _ _ trivial (fun hHeld2 => ?_)
          clear hK K
          try simp only [Act.put, List.setIfInBounds_toArray, List.set_cons_zero, List.set_cons_succ]
          clear hHeld
          have hHeld := hHeld2
          clear hHeld2
          refine wpAnyH_ready (rs := [12]) (by kernel_rfl) (by simp) ?_
          refine AllReadyH.cons (by simp only [List.getElem?_toArray, List.getElem?_cons_succ, List.getElem?_cons_zero]; rfl) (fun K hK => ?_) AllReadyH.nil
          (refine step_append_src rfl (.tmp 58) (.tmp 68) 60 rfl 88 i0 (.agg #[.int .i64 0, .int .i64 0, .int .i64 0, .int .i64 0]) 4 32 Tryz.underlying60 hi hz0 hz1 hz2 rfl (by decide) (mb + 1) (.slice at_ ts.length ct) ts.length (ts.flatMap cellsT) rfl (by exact HLa.out.rg) (by exact heap_lt HLa.out.ms.blk) (.slice (some ⟨w4.heap.size, 0, none⟩) 1 1) 1 (cellsT ⟨a, b_, c_, d⟩) rfl (by exact Src.struct (w := w4) (cellsT ⟨a, b_, c_, d⟩) rfl (by intro u hu; simp [cellsT] at hu; rcases hu with rfl | rfl | rfl | rfl <;> rfl) rfl) (by unfold maxLen; omega) (by omega) ?_; intro v' wz hown hgrow hnew; obtain ⟨av', cv', rfl, _, _⟩ := slice_of_owns hown)
          obtain ⟨hp, q6, f6⟩ := HLa.out.push AM.out hown hgrow hnew
          have HP := Lib.hid hp
          clear hown hgrow hnew hp
          refine hK.out _ _ trivial (fun hHeld2 => ?_)
          clear hK K
          try simp only [Act.put, List.setIfInBounds_toArray, List.set_cons_zero, List.set_cons_succ]
          clear hHeld
          have hHeld := hHeld2
          clear hHeld2
          refine wpAnyH_take (i := 13) (v := ?_) (by simp only [List.getElem?_toArray, List.getElem?_cons_succ, List.getElem?_cons_zero]; rfl) (by kernel_rfl) (by kernel_rfl) (by kernel_rfl) (by exact fun _ _ _ h => h) (Or.inl ⟨by rfl, ?_⟩) (by assumption) ?_
          rotate_left 1
          · (intro w hSw; (try dsimp only at hSw); go_simp; try with_reducible rfl)
          try simp only [Act.put, List.setIfInBounds_toArray, List.set_cons_zero, List.set_cons_succ]
          refine wpAnyH_ready (rs := [14]) (by kernel_rfl) (by simp) ?_
          refine AllReadyH.cons (by simp only [List.getElem?_toArray, List.getElem?_cons_succ, List.getElem?_cons_zero]; rfl) (fun K hK => ?_) AllReadyH.nil
          go_simp
          refine hK.out _ _ trivial (fun hHeld2 => ?_)
          clear hK K
          try simp only [Act.put, List.setIfInBounds_toArray, List.set_cons_zero, List.set_cons_succ]
          clear hHeld
          have hHeld := hHeld2
          clear hHeld2
          refine wpAnyH_done (by kernel_rfl) ?_ _
          clear hHeld
          go_wp2
          go_roundw
          case rel =>
            exact ⟨ts ++ [⟨a, b_, c_, d⟩], σt4, kt4, et4, _, by simp, by simp; omega, HTO.out.more HLT.out (show Nx trapP zs (.ok kk) ⟨a, b_, c_, d⟩ σt4 from T1.out.bind (T2.out.bind (T3.out.bind (T4.out.bind (Nx.ret _ _ _))))), HP.out, fun t ht => by
              rcases List.mem_append.1 ht with ht | ht
              · exact HTR.out t ht
              · simp only [List.mem_cons, List.mem_nil_iff, or_false] at ht
                subst ht
                exact trap_small U1.out U2.out U3.out U4.out⟩
          case measure => simp [intOf]; omega
        refine AllReadyH.cons (by simp only [List.getElem?_toArray, List.getElem?_cons_succ, List.getElem?_cons_zero]; rfl) (fun K hK => ?_) AllReadyH.nil
        go_simp
        refine (dfNum fb rb v zs _ _ _ _ 2 (by decide) (by decide) HL2.out.ms.fl).mono ?_
        rintro en w3 ⟨c_, σt3, rfl, hN, hb, hto⟩
        have T3 := Lib.hid hN
        have U3 := Lib.hid hb
        obtain ⟨kt3, et3, hl⟩ := HL2.out.call AM.out hto
        have HL3 := Lib.hid hl
        have q6 := cell_blk HL3.out.ms.blk 6
        simp at q6
        clear hN hb hto hl
        go_wp2_with fail
        refine hK.out _ _ trivial (fun hHeld2 => ?_)
        clear hK K
        try simp only [Act.put, List.setIfInBounds_toArray, List.set_cons_zero, List.set_cons_succ]
        clear hHeld
        have hHeld := hHeld2
        clear hHeld2
        refine wpAnyH_ready (rs := [1, 9]) (by kernel_rfl) (by simp) ?_
        refine AllReadyH.cons (by simp only [List.getElem?_toArray, List.getElem?_cons_succ, List.getElem?_cons_zero]; rfl) (fun K hK => ?_) ?_
        · go_simp
          refine hK.out _ _ trivial (fun hHeld2 => ?_)
          clear hK K
          try simp only [Act.put, List.setIfInBounds_toArray, List.set_cons_zero, List.set_cons_succ]
          clear hHeld
          have hHeld := hHeld2
          clear hHeld2
          refine wpAnyH_ready (rs := [9]) (by kernel_rfl) (by simp) ?_
          refine AllReadyH.cons (by simp only [List.getElem?_toArray, List.getElem?_cons_succ, List.getElem?_cons_zero]; rfl) (fun K hK => ?_) AllReadyH.nil
          go_simp
          refine (dfNum fb rb v zs _ _ _ _ 2 (by decide) (by decide) HL3.out.ms.fl).mono ?_
          rintro en w4 ⟨d, σt4, rfl, hN, hb, hto⟩
          have T4 := Lib.hid hN
          have U4 := Lib.hid hb
          obtain ⟨kt4, et4, hl⟩ := HL3.out.call AM.out hto
          have HL4 := Lib.hid hl
          have q6 := cell_blk HL4.out.ms.blk 6
          simp at q6
          clear hN hb hto hl
          go_wp2_with fail
          refine hK.out _ _ trivial (fun hHeld2 => ?_)
          clear hK K
          try simp only [Act.put, List.setIfInBounds_toArray, List.set_cons_zero, List.set_cons_succ]
          clear hHeld
          have hHeld := hHeld2
          clear hHeld2
          refine wpAnyH_take (i := 10) (v := ?_) (by simp only [List.getElem?_toArray, List.getElem?_cons_succ, List.getElem?_cons_zero]; rfl) (by kernel_rfl) (by kernel_rfl) (by kernel_rfl) (by exact fun _ _ _ h => h) (Or.inl ⟨by rfl, ?_⟩) (by assumption) ?_
          rotate_left 1
          · (intro w hSw; (try dsimp only at hSw); go_simp; try with_reducible rfl)
          try simp only [Act.put, List.setIfInBounds_toArray, List.set_cons_zero, List.set_cons_succ]
          refine wpAnyH_ready (rs := [11]) (by kernel_rfl) (by simp) ?_
          refine AllReadyH.cons (by simp only [List.getElem?_toArray, List.getElem?_cons_succ, List.getElem?_cons_zero]; rfl) (fun K hK => ?_) AllReadyH.nil
          go_simp
          have HLa := Lib.hid (HL4.out.idle ((Only.refl (fun _ => False) w4).alloc (.cells #[.int .i64 a, .int .i64 b_, .int .i64 c_, .int .i64 d] 88)))
          have q6 := cell_blk HLa.out.ms.blk 6
          simp at q6
          refine hK.out _ _ trivial (fun hHeld2 => ?_)
          clear hK K
          try simp only [Act.put, List.setIfInBounds_toArray, List.set_cons_zero, List.set_cons_succ]
          clear hHeld
          have hHeld := hHeld2
          clear hHeld2
          refine wpAnyH_ready (rs := [12]) (by kernel_rfl) (by simp) ?_
          refine AllReadyH.cons (by simp only [List.getElem?_toArray, List.getElem?_cons_succ, List.getElem?_cons_zero]; rfl) (fun K hK => ?_) AllReadyH.nil
          (refine step_append_src rfl (.tmp 58) (.tmp 68) 60 rfl 88 i0 (.agg #[.int .i64 0, .int .i64 0, .int .i64 0, .int .i64 0]) 4 32 Tryz.underlying60 hi hz0 hz1 hz2 rfl (by decide) (mb + 1) (.slice at_ ts.length ct) ts.length (ts.flatMap cellsT) rfl (by exact HLa.out.rg) (by exact heap_lt HLa.out.ms.blk) (.slice (some ⟨w4.heap.size, 0, none⟩) 1 1) 1 (cellsT ⟨a, b_, c_, d⟩) rfl (by exact Src.struct (w := w4) (cellsT ⟨a, b_, c_, d⟩) rfl (by intro u hu; simp [cellsT] at hu; rcases hu with rfl | rfl | rfl | rfl <;> rfl) rfl) (by unfold maxLen; omega) (by omega) ?_; intro v' wz hown hgrow hnew; obtain ⟨av', cv', rfl, _, _⟩ := slice_of_owns hown)
          obtain ⟨hp, q6, f6⟩ := HLa.out.push AM.out hown hgrow hnew
          have HP := Lib.hid hp
          clear hown hgrow hnew hp
          refine hK.out _ _ trivial (fun hHeld2 => ?_)
          clear hK K
          try simp only [Act.put, List.setIfInBounds_toArray, List.set_cons_zero, List.set_cons_succ]
          clear hHeld
          have hHeld := hHeld2
          clear hHeld2
          refine wpAnyH_take (i := 13) (v := ?_) (by simp only [List.getElem?_toArray, List.getElem?_cons_succ, List.getElem?_cons_zero]; rfl) (by kernel_rfl) (by kernel_rfl) (by kernel_rfl) (by exact fun _ _ _ h => h) (Or.inl ⟨by rfl, ?_⟩) (by assumption) ?_
          rotate_left 1
          · (intro w hSw; (try dsimp only at hSw); go_simp; try with_reducible rfl)
          try simp only [Act.put, List.setIfInBounds_toArray, List.set_cons_zero, List.set_cons_succ]
          refine wpAnyH_ready (rs := [14]) (by kernel_rfl) (by simp) ?_
          refine AllReadyH.cons (by simp only [List.getElem?_toArray, List.getElem?_cons_succ, List.getElem?_cons_zero]; rfl) (fun K hK => ?_) AllReadyH.nil
          go_simp
          refine hK.out _ _ trivial (fun hHeld2 => ?_)
          clear hK K
          try simp only [Act.put, List.setIfInBounds_toArray, List.set_cons_zero, List.set_cons_succ]
          clear hHeld
          have hHeld := hHeld2
          clear hHeld2
          refine wpAnyH_done (by kernel_rfl) ?_ _
          clear hHeld
          go_wp2
          go_roundw
          case rel =>
            exact ⟨ts ++ [⟨a, b_, c_, d⟩], σt4, kt4, et4, _, by simp, by simp; omega, HTO.out.more HLT.out (show Nx trapP zs (.ok kk) ⟨a, b_, c_, d⟩ σt4 from T1.out.bind (T2.out.bind (T3.out.bind (T4.out.bind (Nx.ret _ _ _))))), HP.out, fun t ht => by
              rcases List.mem_append.1 ht with ht | ht
              · exact HTR.out t ht
              · simp only [List.mem_cons, List.mem_nil_iff, or_false] at ht
                subst ht
                exact trap_small U1.out U2.out U3.out U4.out⟩
          case measure => simp [intOf]; omega
        refine AllReadyH.cons (by simp only [List.getElem?_toArray, List.getElem?_cons_succ, List.getElem?_cons_zero]; rfl) (fun K hK => ?_) AllReadyH.nil
        go_simp
        refine (dfNum fb rb v zs _ _ _ _ 2 (by decide) (by decide) HL3.out.ms.fl).mono ?_
        rintro en w4 ⟨d, σt4, rfl, hN, hb, hto⟩
        have T4 := Lib.hid hN
        have U4 := Lib.hid hb
        obtain ⟨kt4, et4, hl⟩ := HL3.out.call AM.out hto
        have HL4 := Lib.hid hl
        have q6 := cell_blk HL4.out.ms.blk 6
        simp at q6
        clear hN hb hto hl
        go_wp2_with fail
        refine hK.out _ _ trivial (fun hHeld2 => ?_)
        clear hK K
        try simp only [Act.put, List.setIfInBounds_toArray, List.set_cons_zero, List.set_cons_succ]
        clear hHeld
        have hHeld := hHeld2
        clear hHeld2
        refine wpAnyH_take (i := 10) (v := ?_) (by simp only [List.getElem?_toArray, List.getElem?_cons_succ, List.getElem?_cons_zero]; rfl) (by kernel_rfl) (by kernel_rfl) (by kernel_rfl) (by exact fun _ _ _ h => h) (Or.inl ⟨by rfl, ?_⟩) (by assumption) ?_
        rotate_left 1
        · (intro w hSw; (try dsimp only at hSw); go_simp; try with_reducible rfl)
        try simp only [Act.put, List.setIfInBounds_toArray, List.set_cons_zero, List.set_cons_succ]
        refine wpAnyH_ready (rs := [1, 11]) (by kernel_rfl) (by simp) ?_
        refine AllReadyH.cons (by simp only [List.getElem?_toArray, List.getElem?_cons_succ, List.getElem?_cons_zero]; rfl) (fun K hK => ?_) ?_
        · go_simp
          refine hK.out _ _ trivial (fun hHeld2 => ?_)
          clear hK K
          try simp only [Act.put, List.setIfInBounds_toArray, List.set_cons_zero, List.set_cons_succ]
          clear hHeld
          have hHeld := hHeld2
          clear hHeld2
          refine wpAnyH_ready (rs := [11]) (by kernel_rfl) (by simp) ?_
          refine AllReadyH.cons (by simp only [List.getElem?_toArray, List.getElem?_cons_succ, List.getElem?_cons_zero]; rfl) (fun K hK => ?_) AllReadyH.nil
          go_simp
          have HLa := Lib.hid (HL4.out.idle ((Only.refl (fun _ => False) w4).alloc (.cells #[.int .i64 a, .int .i64 b_, .int .i64 c_, .int .i64 d] 88)))
          have q6 := cell_blk HLa.out.ms.blk 6
          simp at q6
          refine hK.out _ _ trivial (fun hHeld2 => ?_)
          clear hK K
          try simp only [Act.put, List.setIfInBounds_toArray, List.set_cons_zero, List.set_cons_succ]
          clear hHeld
          have hHeld := hHeld2
          clear hHeld2
          refine wpAnyH_ready (rs := [12]) (by kernel_rfl) (by simp) ?_
          refine AllReadyH.cons (by simp only [List.getElem?_toArray, List.getElem?_cons_succ, List.getElem?_cons_zero]; rfl) (fun K hK => ?_) AllReadyH.nil
          (refine step_append_src rfl (.tmp 58) (.tmp 68) 60 rfl 88 i0 (.agg #[.int .i64 0, .int .i64 0, .int .i64 0, .int .i64 0]) 4 32 Tryz.underlying60 hi hz0 hz1 hz2 rfl (by decide) (mb + 1) (.slice at_ ts.length ct) ts.length (ts.flatMap cellsT) rfl (by exact HLa.out.rg) (by exact heap_lt HLa.out.ms.blk) (.slice (some ⟨w4.heap.size, 0, none⟩) 1 1) 1 (cellsT ⟨a, b_, c_, d⟩) rfl (by exact Src.struct (w := w4) (cellsT ⟨a, b_, c_, d⟩) rfl (by intro u hu; simp [cellsT] at hu; rcases hu with rfl | rfl | rfl | rfl <;> rfl) rfl) (by unfold maxLen; omega) (by omega) ?_; intro v' wz hown hgrow hnew; obtain ⟨av', cv', rfl, _, _⟩ := slice_of_owns hown)
          obtain ⟨hp, q6, f6⟩ := HLa.out.push AM.out hown hgrow hnew
          have HP := Lib.hid hp
          clear hown hgrow hnew hp
          refine hK.out _ _ trivial (fun hHeld2 => ?_)
          clear hK K
          try simp only [Act.put, List.setIfInBounds_toArray, List.set_cons_zero, List.set_cons_succ]
          clear hHeld
          have hHeld := hHeld2
          clear hHeld2
          refine wpAnyH_take (i := 13) (v := ?_) (by simp only [List.getElem?_toArray, List.getElem?_cons_succ, List.getElem?_cons_zero]; rfl) (by kernel_rfl) (by kernel_rfl) (by kernel_rfl) (by exact fun _ _ _ h => h) (Or.inl ⟨by rfl, ?_⟩) (by assumption) ?_
          rotate_left 1
          · (intro w hSw; (try dsimp only at hSw); go_simp; try with_reducible rfl)
          try simp only [Act.put, List.setIfInBounds_toArray, List.set_cons_zero, List.set_cons_succ]
          refine wpAnyH_ready (rs := [14]) (by kernel_rfl) (by simp) ?_
          refine AllReadyH.cons (by simp only [List.getElem?_toArray, List.getElem?_cons_succ, List.getElem?_cons_zero]; rfl) (fun K hK => ?_) AllReadyH.nil
          go_simp
          refine hK.out _ _ trivial (fun hHeld2 => ?_)
          clear hK K
          try simp only [Act.put, List.setIfInBounds_toArray, List.set_cons_zero, List.set_cons_succ]
          clear hHeld
          have hHeld := hHeld2
          clear hHeld2
          refine wpAnyH_done (by kernel_rfl) ?_ _
          clear hHeld
          go_wp2
          go_roundw
          case rel =>
            exact ⟨ts ++ [⟨a, b_, c_, d⟩], σt4, kt4, et4, _, by simp, by simp; omega, HTO.out.more HLT.out (show Nx trapP zs (.ok kk) ⟨a, b_, c_, d⟩ σt4 from T1.out.bind (T2.out.bind (T3.out.bind (T4.out.bind (Nx.ret _ _ _))))), HP.out, fun t ht => by
              rcases List.mem_append.1 ht with ht | ht
              · exact HTR.out t ht
              · simp only [List.mem_cons, List.mem_nil_iff, or_false] at ht
                subst ht
                exact trap_small U1.out U2.out U3.out U4.out⟩
          case measure => simp [intOf]; omega
        refine AllReadyH.cons (by simp only [List.getElem?_toArray, List.getElem?_cons_succ, List.getElem?_cons_zero]; rfl) (fun K hK => ?_) AllReadyH.nil
        go_simp
        have HLa := Lib.hid (HL4.out.idle ((Only.refl (fun _ => False) w4).alloc (.cells #[.int .i64 a, .int .i64 b_, .int .i64 c_, .int .i64 d] 88)))
        have q6 := cell_blk HLa.out.ms.blk 6
        simp at q6
        refine hK.out _ _ trivial (fun hHeld2 => ?_)
        clear hK K
        try simp only [Act.put, List.setIfInBounds_toArray, List.set_cons_zero, List.set_cons_succ]
        clear hHeld
        have hHeld := hHeld2
        clear hHeld2
        refine wpAnyH_ready (rs := [1]) (by kernel_rfl) (by simp) ?_
        refine AllReadyH.cons (by simp only [List.getElem?_toArray, List.getElem?_cons_succ, List.getElem?_cons_zero]; rfl) (fun K hK => ?_) AllReadyH.nil
        go_simp
        refine hK.out _ _ trivial (fun hHeld2 => ?_)
        clear hK K
        try simp only [Act.put, List.setIfInBounds_toArray, List.set_cons_zero, List.set_cons_succ]
        clear hHeld
        have hHeld := hHeld2
        clear hHeld2
        refine wpAnyH_ready (rs := [12]) (by kernel_rfl) (by simp) ?_
        refine AllReadyH.cons (by simp only [List.getElem?_toArray, List.getElem?_cons_succ, List.getElem?_cons_zero]; rfl) (fun K hK => ?_) AllReadyH.nil
        (refine step_append_src rfl (.tmp 58) (.tmp 68) 60 rfl 88 i0 (.agg #[.int .i64 0, .int .i64 0, .int .i64 0, .int .i64 0]) 4 32 Tryz.underlying60 hi hz0 hz1 hz2 rfl (by decide) (mb + 1) (.slice at_ ts.length ct) ts.length (ts.flatMap cellsT) rfl (by exact HLa.out.rg) (by exact heap_lt HLa.out.ms.blk) (.slice (some ⟨w4.heap.size, 0, none⟩) 1 1) 1 (cellsT ⟨a, b_, c_, d⟩) rfl (by exact Src.struct (w := w4) (cellsT ⟨a, b_, c_, d⟩) rfl (by intro u hu; simp [cellsT] at hu; rcases hu with rfl | rfl | rfl | rfl <;> rfl) rfl) (by unfold maxLen; omega) (by omega) ?_; intro v' wz hown hgrow hnew; obtain ⟨av', cv', rfl, _, _⟩ := slice_of_owns hown)
        obtain ⟨hp, q6, f6⟩ := HLa.out.push AM.out hown hgrow hnew
        have HP := Lib.hid hp
        clear hown hgrow hnew hp
        refine hK.out _ _ trivial (fun hHeld2 => ?_)
        clear hK K
        try simp only [Act.put, List.setIfInBounds_toArray, List.set_cons_zero, List.set_cons_succ]
        clear hHeld
        have hHeld := hHeld2
        clear hHeld2
        refine wpAnyH_take (i := 13) (v := ?_) (by simp only [List.getElem?_toArray, List.getElem?_cons_succ, List.getElem?_cons_zero]; rfl) (by kernel_rfl) (by kernel_rfl) (by kernel_rfl) (by exact fun _ _ _ h => h) (Or.inl ⟨by rfl, ?_⟩) (by assumption) ?_
        rotate_left 1
        · (intro w hSw; (try dsimp only at hSw); go_simp; try with_reducible rfl)
        try simp only [Act.put, List.setIfInBounds_toArray, List.set_cons_zero, List.set_cons_succ]
        refine wpAnyH_ready (rs := [14]) (by kernel_rfl) (by simp) ?_
        refine AllReadyH.cons (by simp only [List.getElem?_toArray, List.getElem?_cons_succ, List.getElem?_cons_zero]; rfl) (fun K hK => ?_) AllReadyH.nil
        go_simp
        refine hK.out _ _ trivial (fun hHeld2 => ?_)
        clear hK K
        try simp only [Act.put, List.setIfInBounds_toArray, List.set_cons_zero, List.set_cons_succ]
        clear hHeld
        have hHeld := hHeld2
        clear hHeld2
        refine wpAnyH_done (by kernel_rfl) ?_ _
        clear hHeld
        go_wp2
        go_roundw
        case rel =>
          exact ⟨ts ++ [⟨a, b_, c_, d⟩], σt4, kt4, et4, _, by simp, by simp; omega, HTO.out.more HLT.out (show Nx trapP zs (.ok kk) ⟨a, b_, c_, d⟩ σt4 from T1.out.bind (T2.out.bind (T3.out.bind (T4.out.bind (Nx.ret _ _ _))))), HP.out, fun t ht => by
            rcases List.mem_append.1 ht with ht | ht
            · exact HTR.out t ht
            · simp only [List.mem_cons, List.mem_nil_iff, or_false] at ht
              subst ht
              exact trap_small U1.out U2.out U3.out U4.out⟩
        case measure => simp [intOf]; omega
      | error y =>
        have hyy := hl.ms.fl.e_no
        obtain ⟨rfl, hy⟩ := hyy
        have hyb : (ej == 0) = false := by simpa using hy
        have HNT := Lib.hid (HTO.out.done (.inl ⟨_, rfl⟩))
        clear hl hy HTO
        clear hi hz0 hz1 hz2
        go_wp2_with (fail)
        clear q1
        refine (dfNum fb rb v zs _ _ _ _ 2 (by decide) (by decide) HL.out.ms.fl).mono ?_
        rintro en w13 ⟨t, σ13, rfl, hN, hb, hto⟩
        have HN13 := Lib.hid hN
        have t00 := hb.1
        obtain ⟨k13, e13, hm⟩ := HL.out.call AM.out hto
        have H13 := Lib.hid hm
        clear hN hb hto hm HL
        by_cases ht0 : t = 0
        · subst ht0
          have HNM := Lib.hid (show Nx (mapsP cs) zs _ [] σ13 from HN13.out.bind (by show Nx (if (0 : Int) = 0 then retP [] else _) zs _ [] _; rw [if_pos rfl]; exact Nx.ret _ _ _))
          have HE := Lib.hid (show EQ w w13 fb rb mb v (.slice ap np cp) zs cs σ13 k13 e13 ⟨fl, nm, ds, st, lo, code, ts, []⟩ (.slice ac cl cc) (.slice at_ ts.length ct) (.slice none 0 0) from ⟨H13.out.ms, H13.out.row, HBY.out, H13.out.rg, HTR.out, World.ownsRow_nil _ _ _ _, Bytish.nil, VST.out, VLO.out⟩)
          clear H13 t00
          have q0 := cell_blk HE.out.ms.fl.blk 0
          have r1 := cell_blk HE.out.ms.fl.rf.blk 1
          simp at q0 r1
          have HNA := Lib.hid (Nx.at zs HE.out.ms.fl.st)
          have hw1 : IntKind.i64.wrap ((k13 : Int) - (k7 : Int)) = (k13 : Int) - (k7 : Int) := IntWalk.i64_in _ (by have h1 := KFL.out; have h2 := HE.out.ms.fl.rf.le; have h3 := HE.out.ms.fl.rf.lim; omega)
          by_cases hsz : (k13 : Int) - (k7 : Int) = size
          · have HMU := Lib.hid (show Nx (mustP (decide ((k13 : Int) - (k7 : Int) = size))) zs σ13 () σ13 from Nx.must_true hsz)
            subst hsz
            have HLAST := Lib.hid (show ∀ u : World, Only (fun j => j = w.heap.size) _ u → FlTo w fb rb v zs _ u ∧ MIn u w.heap.size ⟨fl, nm, ds, st, lo, code, ts, []⟩ (.slice ac cl cc) (.slice at_ ts.length ct) (.slice none 0 0) from fun u hu => HE.out.last AM.out hu)
            have HNF := Lib.hid (show Nx (methodP cs) zs σ ⟨fl, nm, ds, st, lo, code, ts, []⟩ σ13 from HN1.out.bind (HN2.out.bind (HN3.out.bind (HN5.out.bind (HN6.out.bind (HN7.out.bind (HKF.out.bind (Nx.bind (show Nx (codeP cs fl nm ds) zs _ ⟨fl, nm, ds, st, lo, code, ts, []⟩ _ from HN8.out.bind (HN9.out.bind (HN10.out.bind (HN11.out.bind (HN12.out.bind (HNT.out.bind (HNM.out.bind (Nx.ret _ _ _)))))))) (HNA.out.bind (Nx.bind HMU.out (Nx.ret _ _ _)))))))))))
            have hb := (show (World.heap _)[mb]? = some (.cells #[.int .i64 fl, .int .i64 nm, .int .i64 ds, .int .i64 st, .int .i64 lo, .slice ac cl cc, .slice at_ ts.length ct, .slice none 0 0] 62 (0, 0)) from HE.out.ms.blk)
            have hr := HE.out.ms.res
            generalize hfn : Tryz.f36 = fn at *
            go_wp2_with (refine wpList_load_row rfl 62 _ rfl mb rfl 62 _ (0, 0) _ hb Tryz.underlying62 rfl info8_method ?_; simp only [Act.put, List.setIfInBounds_toArray, List.set_cons_zero, List.set_cons_succ]; refine wpList_store_row rfl 62 _ _ rfl w.heap.size _ rfl rfl 62 _ hr info8_method rfl (by simp [Value.oneCell']) ?_)
            subst hfn
            refine bodyPost_ret (v := .agg #[.int .i64 fl, .int .i64 nm, .int .i64 ds, .int .i64 st, .int .i64 lo, .slice ac cl cc, .slice at_ ts.length ct, .slice none 0 0]) ?_ rfl ?_
            · exact method_result (setRow_heap _ _ _ _ _ _ hr) rfl
            refine ⟨⟨fl, nm, ds, st, lo, code, ts, []⟩, _, _, _, _, rfl, HNF.out, (HLAST.out _ ?_).1, (HLAST.out _ ?_).2, HMR.out⟩ <;> exact onlyRow (Only.refl _ _) (fun _ => rfl)
          · have hszb : ((k13 : Int) - (k7 : Int) == size) = false := by simpa using hsz
            have HMU := Lib.hid (show Nx (mustP (decide ((k13 : Int) - (k7 : Int) = size))) zs σ13 () (failS 50 σ13) from Nx.must_false hsz)
            clear hsz
            go_wp2_with (fail)
            refine (dfFail fb rb v zs _ _ _ _ 50 HE.out.ms.fl).mono ?_
            rintro en wF ⟨rfl, hto⟩
            obtain ⟨kF, eF, hm⟩ := HE.out.call AM.out hto
            have HF := Lib.hid hm
            clear hto hm q0 r1 hw1
            have HLAST := Lib.hid (show ∀ u : World, Only (fun j => j = w.heap.size) _ u → FlTo w fb rb v zs _ u ∧ MIn u w.heap.size ⟨fl, nm, ds, st, lo, code, ts, []⟩ (.slice ac cl cc) (.slice at_ ts.length ct) (.slice none 0 0) from fun u hu => HF.out.last AM.out hu)
            have HNF := Lib.hid (show Nx (methodP cs) zs σ ⟨fl, nm, ds, st, lo, code, ts, []⟩ (failS 50 σ13) from HN1.out.bind (HN2.out.bind (HN3.out.bind (HN5.out.bind (HN6.out.bind (HN7.out.bind (HKF.out.bind (Nx.bind (show Nx (codeP cs fl nm ds) zs _ ⟨fl, nm, ds, st, lo, code, ts, []⟩ _ from HN8.out.bind (HN9.out.bind (HN10.out.bind (HN11.out.bind (HN12.out.bind (HNT.out.bind (HNM.out.bind (Nx.ret _ _ _)))))))) (HNA.out.bind (Nx.bind HMU.out (Nx.ret _ _ _)))))))))))
            have hb := (show (World.heap _)[mb]? = some (.cells #[.int .i64 fl, .int .i64 nm, .int .i64 ds, .int .i64 st, .int .i64 lo, .slice ac cl cc, .slice at_ ts.length ct, .slice none 0 0] 62 (0, 0)) from HF.out.ms.blk)
            have hr := HF.out.ms.res
            generalize hfn : Tryz.f36 = fn at *
            go_wp2_with (refine wpList_load_row rfl 62 _ rfl mb rfl 62 _ (0, 0) _ hb Tryz.underlying62 rfl info8_method ?_; simp only [Act.put, List.setIfInBounds_toArray, List.set_cons_zero, List.set_cons_succ]; refine wpList_store_row rfl 62 _ _ rfl w.heap.size _ rfl rfl 62 _ hr info8_method rfl (by simp [Value.oneCell']) ?_)
            subst hfn
            refine bodyPost_ret (v := .agg #[.int .i64 fl, .int .i64 nm, .int .i64 ds, .int .i64 st, .int .i64 lo, .slice ac cl cc, .slice at_ ts.length ct, .slice none 0 0]) ?_ rfl ?_
            · exact method_result (setRow_heap _ _ _ _ _ _ hr) rfl
            refine ⟨⟨fl, nm, ds, st, lo, code, ts, []⟩, _, _, _, _, rfl, HNF.out, (HLAST.out _ ?_).1, (HLAST.out _ ?_).2, HMR.out⟩ <;> exact onlyRow (Only.refl _ _) (fun _ => rfl)
        by_cases ht1 : t = 1
        rotate_left
        · have tg : 1 < t := by omega
          have t1 : (t == 1) = false := by simpa using ht1
          have HNM := Lib.hid (show Nx (mapsP cs) zs _ [] (failS 50 σ13) from HN13.out.bind (by show Nx (if t = 0 then retP [] else if t = 1 then _ else failP 50) zs _ [] _; rw [if_neg ht0, if_neg ht1]; exact Nx.fail [] (by decide)))
          clear ht0 ht1 t00
          go_wp2_with (fail)
          refine (dfFail fb rb v zs _ _ _ _ 50 H13.out.ms.fl).mono ?_
          rintro en w14 ⟨rfl, hto⟩
          obtain ⟨k14, e14, hm⟩ := H13.out.call AM.out hto
          have HE := Lib.hid (show EQ w w14 fb rb mb v (.slice ap np cp) zs cs (failS 50 σ13) k14 e14 ⟨fl, nm, ds, st, lo, code, ts, []⟩ (.slice ac cl cc) (.slice at_ ts.length ct) (.slice none 0 0) from ⟨hm.ms, hm.row, HBY.out, hm.rg, HTR.out, World.ownsRow_nil _ _ _ _, Bytish.nil, VST.out, VLO.out⟩)
          clear hto hm H13
          have q0 := cell_blk HE.out.ms.fl.blk 0
          have r1 := cell_blk HE.out.ms.fl.rf.blk 1
          simp at q0 r1
          have HNA := Lib.hid (Nx.at zs HE.out.ms.fl.st)
          have hw1 : IntKind.i64.wrap ((k14 : Int) - (k7 : Int)) = (k14 : Int) - (k7 : Int) := IntWalk.i64_in _ (by have h1 := KFL.out; have h2 := HE.out.ms.fl.rf.le; have h3 := HE.out.ms.fl.rf.lim; omega)
          by_cases hsz : (k14 : Int) - (k7 : Int) = size
          · have HMU := Lib.hid (show Nx (mustP (decide ((k14 : Int) - (k7 : Int) = size))) zs (failS 50 σ13) () (failS 50 σ13) from Nx.must_true hsz)
            subst hsz
            have HLAST := Lib.hid (show ∀ u : World, Only (fun j => j = w.heap.size) _ u → FlTo w fb rb v zs _ u ∧ MIn u w.heap.size ⟨fl, nm, ds, st, lo, code, ts, []⟩ (.slice ac cl cc) (.slice at_ ts.length ct) (.slice none 0 0) from fun u hu => HE.out.last AM.out hu)
            have HNF := Lib.hid (show Nx (methodP cs) zs σ ⟨fl, nm, ds, st, lo, code, ts, []⟩ (failS 50 σ13) from HN1.out.bind (HN2.out.bind (HN3.out.bind (HN5.out.bind (HN6.out.bind (HN7.out.bind (HKF.out.bind (Nx.bind (show Nx (codeP cs fl nm ds) zs _ ⟨fl, nm, ds, st, lo, code, ts, []⟩ _ from HN8.out.bind (HN9.out.bind (HN10.out.bind (HN11.out.bind (HN12.out.bind (HNT.out.bind (HNM.out.bind (Nx.ret _ _ _)))))))) (HNA.out.bind (Nx.bind HMU.out (Nx.ret _ _ _)))))))))))
            have hb := (show (World.heap _)[mb]? = some (.cells #[.int .i64 fl, .int .i64 nm, .int .i64 ds, .int .i64 st, .int .i64 lo, .slice ac cl cc, .slice at_ ts.length ct, .slice none 0 0] 62 (0, 0)) from HE.out.ms.blk)
            have hr := HE.out.ms.res
            generalize hfn : Tryz.f36 = fn at *
            go_wp2_with (refine wpList_load_row rfl 62 _ rfl mb rfl 62 _ (0, 0) _ hb Tryz.underlying62 rfl info8_method ?_; simp only [Act.put, List.setIfInBounds_toArray, List.set_cons_zero, List.set_cons_succ]; refine wpList_store_row rfl 62 _ _ rfl w.heap.size _ rfl rfl 62 _ hr info8_method rfl (by simp [Value.oneCell']) ?_)
            subst hfn
            refine bodyPost_ret (v := .agg #[.int .i64 fl, .int .i64 nm, .int .i64 ds, .int .i64 st, .int .i64 lo, .slice ac cl cc, .slice at_ ts.length ct, .slice none 0 0]) ?_ rfl ?_
            · exact method_result (setRow_heap _ _ _ _ _ _ hr) rfl
            refine ⟨⟨fl, nm, ds, st, lo, code, ts, []⟩, _, _, _, _, rfl, HNF.out, (HLAST.out _ ?_).1, (HLAST.out _ ?_).2, HMR.out⟩ <;> exact onlyRow (Only.refl _ _) (fun _ => rfl)
          · have hszb : ((k14 : Int) - (k7 : Int) == size) = false := by simpa using hsz
            have HMU := Lib.hid (show Nx (mustP (decide ((k14 : Int) - (k7 : Int) = size))) zs (failS 50 σ13) () (failS 50 (failS 50 σ13)) from Nx.must_false hsz)
            clear hsz
            go_wp2_with (fail)
            refine (dfFail fb rb v zs _ _ _ _ 50 HE.out.ms.fl).mono ?_
            rintro en wF ⟨rfl, hto⟩
            obtain ⟨kF, eF, hm⟩ := HE.out.call AM.out hto
            have HF := Lib.hid hm
            clear hto hm q0 r1 hw1
            have HLAST := Lib.hid (show ∀ u : World, Only (fun j => j = w.heap.size) _ u → FlTo w fb rb v zs _ u ∧ MIn u w.heap.size ⟨fl, nm, ds, st, lo, code, ts, []⟩ (.slice ac cl cc) (.slice at_ ts.length ct) (.slice none 0 0) from fun u hu => HF.out.last AM.out hu)
            have HNF := Lib.hid (show Nx (methodP cs) zs σ ⟨fl, nm, ds, st, lo, code, ts, []⟩ (failS 50 (failS 50 σ13)) from HN1.out.bind (HN2.out.bind (HN3.out.bind (HN5.out.bind (HN6.out.bind (HN7.out.bind (HKF.out.bind (Nx.bind (show Nx (codeP cs fl nm ds) zs _ ⟨fl, nm, ds, st, lo, code, ts, []⟩ _ from HN8.out.bind (HN9.out.bind (HN10.out.bind (HN11.out.bind (HN12.out.bind (HNT.out.bind (HNM.out.bind (Nx.ret _ _ _)))))))) (HNA.out.bind (Nx.bind HMU.out (Nx.ret _ _ _)))))))))))
            have hb := (show (World.heap _)[mb]? = some (.cells #[.int .i64 fl, .int .i64 nm, .int .i64 ds, .int .i64 st, .int .i64 lo, .slice ac cl cc, .slice at_ ts.length ct, .slice none 0 0] 62 (0, 0)) from HF.out.ms.blk)
            have hr := HF.out.ms.res
            generalize hfn : Tryz.f36 = fn at *
            go_wp2_with (refine wpList_load_row rfl 62 _ rfl mb rfl 62 _ (0, 0) _ hb Tryz.underlying62 rfl info8_method ?_; simp only [Act.put, List.setIfInBounds_toArray, List.set_cons_zero, List.set_cons_succ]; refine wpList_store_row rfl 62 _ _ rfl w.heap.size _ rfl rfl 62 _ hr info8_method rfl (by simp [Value.oneCell']) ?_)
            subst hfn
            refine bodyPost_ret (v := .agg #[.int .i64 fl, .int .i64 nm, .int .i64 ds, .int .i64 st, .int .i64 lo, .slice ac cl cc, .slice at_ ts.length ct, .slice none 0 0]) ?_ rfl ?_
            · exact method_result (setRow_heap _ _ _ _ _ _ hr) rfl
            refine ⟨⟨fl, nm, ds, st, lo, code, ts, []⟩, _, _, _, _, rfl, HNF.out, (HLAST.out _ ?_).1, (HLAST.out _ ?_).2, HMR.out⟩ <;> exact onlyRow (Only.refl _ _) (fun _ => rfl)
        subst ht1
        clear ht0 t00
        go_wp2_with (fail)
        refine (dfNamed fb rb v zs _ _ _ _ ap np cp cs mapsT H13.out.ms.pool (fun j hj => (AM.out.pn j hj).2) H13.out.ms.fl).mono ?_
        rintro en w14 ⟨σ14, rfl, hN, hto⟩
        have HN14 := Lib.hid hN
        obtain ⟨k14, e14, hm⟩ := H13.out.call AM.out hto
        have H14 := Lib.hid hm
        clear hN hto hm H13
        go_wp2_with (fail)
        refine (dfCount fb rb v zs _ _ _ _ 4 (.inr rfl) 4096 (by decide) H14.out.ms.fl).mono ?_
        rintro en w15 ⟨n2, σ15, rfl, hN, hb, hto⟩
        obtain ⟨nn2, rfl⟩ : ∃ nn2 : Nat, n2 = nn2 := ⟨n2.toNat, by omega⟩
        have HN15 := Lib.hid hN
        obtain ⟨k15, e15, hm⟩ := H14.out.call AM.out hto
        have H15 := Lib.hid hm
        clear hN hb hto hm H14
        by_cases hn : nn2 = 0
        · subst hn
          go_wp2_with (fail)
          refine (dfFail fb rb v zs _ _ _ _ 50 H15.out.ms.fl).mono ?_
          rintro en w16 ⟨rfl, hto⟩
          obtain ⟨k16, e16, hm⟩ := H15.out.call AM.out hto
          have H16 := Lib.hid hm
          clear hto hm H15
          go_wp2_with (fail)
          refine (dfBytes fb rb v zs _ _ _ _ 0 H16.out.ms.fl).mono ?_
          rintro en w17 ⟨vm, maps, σ17, rfl, hN, hto, hrow, hby, hlen⟩
          have HN17 := Lib.hid hN
          obtain ⟨k17, e17, hm⟩ := H16.out.call AM.out hto
          obtain ⟨am, cm, rfl, _, _⟩ := slice_of_owns hrow
          have hrow1 := hrow.base (show mb + 1 ≤ w16.heap.size from heap_lt H16.out.ms.blk)
          have q7 := cell_blk hm.ms.blk 7
          have f7 := frozen_blk hm.ms.blk 7
          simp at q7
          have ho7 := (Only.refl (fun j => j = mb) w17).setCell (p := ⟨mb, 7, none⟩) (fun _ => rfl) (.slice am maps.length cm)
          have hS : ∀ j, (fun j => j = mb) j → j < mb + 1 := fun j hj => by have hj' : j = mb := hj; omega
          have HE := Lib.hid (show EQ w (w17.setCell ⟨mb, 7, none⟩ (.slice am maps.length cm)) fb rb mb v (.slice ap np cp) zs cs σ17 k17 e17 ⟨fl, nm, ds, st, lo, code, ts, maps⟩ (.slice ac cl cc) (.slice at_ ts.length ct) (.slice am maps.length cm) from ⟨hm.ms.store AM.out 7 _, hm.row.keep ho7 hS, HBY.out, hm.rg.keep ho7 hS, HTR.out, hrow1.keep ho7 hS, hby, VST.out, VLO.out⟩)
          have HNM := Lib.hid (show Nx (mapsP cs) zs _ maps σ17 from HN13.out.bind (by show Nx (if (1 : Int) = 0 then _ else if (1 : Int) = 1 then _ else _) zs _ maps _; rw [if_neg (by decide), if_pos rfl]; exact HN14.out.bind (HN15.out.bind (Nx.bind (Nx.must_false (by decide)) HN17.out))))
          clear hN hto hm hrow hrow1 hby hlen ho7 hS H16
          have q0 := cell_blk HE.out.ms.fl.blk 0
          have r1 := cell_blk HE.out.ms.fl.rf.blk 1
          simp at q0 r1
          have HNA := Lib.hid (Nx.at zs HE.out.ms.fl.st)
          have hw1 : IntKind.i64.wrap ((k17 : Int) - (k7 : Int)) = (k17 : Int) - (k7 : Int) := IntWalk.i64_in _ (by have h1 := KFL.out; have h2 := HE.out.ms.fl.rf.le; have h3 := HE.out.ms.fl.rf.lim; omega)
          by_cases hsz : (k17 : Int) - (k7 : Int) = size
          · have HMU := Lib.hid (show Nx (mustP (decide ((k17 : Int) - (k7 : Int) = size))) zs σ17 () σ17 from Nx.must_true hsz)
            subst hsz
            have HLAST := Lib.hid (show ∀ u : World, Only (fun j => j = w.heap.size) _ u → FlTo w fb rb v zs _ u ∧ MIn u w.heap.size ⟨fl, nm, ds, st, lo, code, ts, maps⟩ (.slice ac cl cc) (.slice at_ ts.length ct) (.slice am maps.length cm) from fun u hu => HE.out.last AM.out hu)
            have HNF := Lib.hid (show Nx (methodP cs) zs σ ⟨fl, nm, ds, st, lo, code, ts, maps⟩ σ17 from HN1.out.bind (HN2.out.bind (HN3.out.bind (HN5.out.bind (HN6.out.bind (HN7.out.bind (HKF.out.bind (Nx.bind (show Nx (codeP cs fl nm ds) zs _ ⟨fl, nm, ds, st, lo, code, ts, maps⟩ _ from HN8.out.bind (HN9.out.bind (HN10.out.bind (HN11.out.bind (HN12.out.bind (HNT.out.bind (HNM.out.bind (Nx.ret _ _ _)))))))) (HNA.out.bind (Nx.bind HMU.out (Nx.ret _ _ _)))))))))))
            have hb := (show (World.heap _)[mb]? = some (.cells #[.int .i64 fl, .int .i64 nm, .int .i64 ds, .int .i64 st, .int .i64 lo, .slice ac cl cc, .slice at_ ts.length ct, .slice am maps.length cm] 62 (0, 0)) from HE.out.ms.blk)
            have hr := HE.out.ms.res
            generalize hfn : Tryz.f36 = fn at *
            go_wp2_with (refine wpList_load_row rfl 62 _ rfl mb rfl 62 _ (0, 0) _ hb Tryz.underlying62 rfl info8_method ?_; simp only [Act.put, List.setIfInBounds_toArray, List.set_cons_zero, List.set_cons_succ]; refine wpList_store_row rfl 62 _ _ rfl w.heap.size _ rfl rfl 62 _ hr info8_method rfl (by simp [Value.oneCell']) ?_)
            subst hfn
            refine bodyPost_ret (v := .agg #[.int .i64 fl, .int .i64 nm, .int .i64 ds, .int .i64 st, .int .i64 lo, .slice ac cl cc, .slice at_ ts.length ct, .slice am maps.length cm]) ?_ rfl ?_
            · exact method_result (setRow_heap _ _ _ _ _ _ hr) rfl
            refine ⟨⟨fl, nm, ds, st, lo, code, ts, maps⟩, _, _, _, _, rfl, HNF.out, (HLAST.out _ ?_).1, (HLAST.out _ ?_).2, HMR.out⟩ <;> exact onlyRow (Only.refl _ _) (fun _ => rfl)
          · have hszb : ((k17 : Int) - (k7 : Int) == size) = false := by simpa using hsz
            have HMU := Lib.hid (show Nx (mustP (decide ((k17 : Int) - (k7 : Int) = size))) zs σ17 () (failS 50 σ17) from Nx.must_false hsz)
            clear hsz
            go_wp2_with (fail)
            refine (dfFail fb rb v zs _ _ _ _ 50 HE.out.ms.fl).mono ?_
            rintro en wF ⟨rfl, hto⟩
            obtain ⟨kF, eF, hm⟩ := HE.out.call AM.out hto
            have HF := Lib.hid hm
            clear hto hm q0 r1 hw1
            have HLAST := Lib.hid (show ∀ u : World, Only (fun j => j = w.heap.size) _ u → FlTo w fb rb v zs _ u ∧ MIn u w.heap.size ⟨fl, nm, ds, st, lo, code, ts, maps⟩ (.slice ac cl cc) (.slice at_ ts.length ct) (.slice am maps.length cm) from fun u hu => HF.out.last AM.out hu)
            have HNF := Lib.hid (show Nx (methodP cs) zs σ ⟨fl, nm, ds, st, lo, code, ts, maps⟩ (failS 50 σ17) from HN1.out.bind (HN2.out.bind (HN3.out.bind (HN5.out.bind (HN6.out.bind (HN7.out.bind (HKF.out.bind (Nx.bind (show Nx (codeP cs fl nm ds) zs _ ⟨fl, nm, ds, st, lo, code, ts, maps⟩ _ from HN8.out.bind (HN9.out.bind (HN10.out.bind (HN11.out.bind (HN12.out.bind (HNT.out.bind (HNM.out.bind (Nx.ret _ _ _)))))))) (HNA.out.bind (Nx.bind HMU.out (Nx.ret _ _ _)))))))))))
            have hb := (show (World.heap _)[mb]? = some (.cells #[.int .i64 fl, .int .i64 nm, .int .i64 ds, .int .i64 st, .int .i64 lo, .slice ac cl cc, .slice at_ ts.length ct, .slice am maps.length cm] 62 (0, 0)) from HF.out.ms.blk)
            have hr := HF.out.ms.res
            generalize hfn : Tryz.f36 = fn at *
            go_wp2_with (refine wpList_load_row rfl 62 _ rfl mb rfl 62 _ (0, 0) _ hb Tryz.underlying62 rfl info8_method ?_; simp only [Act.put, List.setIfInBounds_toArray, List.set_cons_zero, List.set_cons_succ]; refine wpList_store_row rfl 62 _ _ rfl w.heap.size _ rfl rfl 62 _ hr info8_method rfl (by simp [Value.oneCell']) ?_)
            subst hfn
            refine bodyPost_ret (v := .agg #[.int .i64 fl, .int .i64 nm, .int .i64 ds, .int .i64 st, .int .i64 lo, .slice ac cl cc, .slice at_ ts.length ct, .slice am maps.length cm]) ?_ rfl ?_
            · exact method_result (setRow_heap _ _ _ _ _ _ hr) rfl
            refine ⟨⟨fl, nm, ds, st, lo, code, ts, maps⟩, _, _, _, _, rfl, HNF.out, (HLAST.out _ ?_).1, (HLAST.out _ ?_).2, HMR.out⟩ <;> exact onlyRow (Only.refl _ _) (fun _ => rfl)
        · have hnb : ((nn2 : Int) == 0) = false := by simp; omega
          have HNP := Lib.hid (show (0 : Int) < (nn2 : Int) from by omega)
          clear hn
          go_wp2_with (fail)
          refine (dfBytes fb rb v zs _ _ _ _ nn2 H15.out.ms.fl).mono ?_
          rintro en w17 ⟨vm, maps, σ17, rfl, hN, hto, hrow, hby, hlen⟩
          have HN17 := Lib.hid hN
          obtain ⟨k17, e17, hm⟩ := H15.out.call AM.out hto
          obtain ⟨am, cm, rfl, _, _⟩ := slice_of_owns hrow
          have hrow1 := hrow.base (show mb + 1 ≤ w15.heap.size from heap_lt H15.out.ms.blk)
          have q7 := cell_blk hm.ms.blk 7
          have f7 := frozen_blk hm.ms.blk 7
          simp at q7
          have ho7 := (Only.refl (fun j => j = mb) w17).setCell (p := ⟨mb, 7, none⟩) (fun _ => rfl) (.slice am maps.length cm)
          have hS : ∀ j, (fun j => j = mb) j → j < mb + 1 := fun j hj => by have hj' : j = mb := hj; omega
          have HE := Lib.hid (show EQ w (w17.setCell ⟨mb, 7, none⟩ (.slice am maps.length cm)) fb rb mb v (.slice ap np cp) zs cs σ17 k17 e17 ⟨fl, nm, ds, st, lo, code, ts, maps⟩ (.slice ac cl cc) (.slice at_ ts.length ct) (.slice am maps.length cm) from ⟨hm.ms.store AM.out 7 _, hm.row.keep ho7 hS, HBY.out, hm.rg.keep ho7 hS, HTR.out, hrow1.keep ho7 hS, hby, VST.out, VLO.out⟩)
          have HNM := Lib.hid (show Nx (mapsP cs) zs _ maps σ17 from HN13.out.bind (by show Nx (if (1 : Int) = 0 then _ else if (1 : Int) = 1 then _ else _) zs _ maps _; rw [if_neg (by decide), if_pos rfl]; exact HN14.out.bind (HN15.out.bind (Nx.bind (Nx.must_true HNP.out) HN17.out))))
          clear hN hto hm hrow hrow1 hby hlen ho7 hS H15
          clear hnb
          have q0 := cell_blk HE.out.ms.fl.blk 0
          have r1 := cell_blk HE.out.ms.fl.rf.blk 1
          simp at q0 r1
          have HNA := Lib.hid (Nx.at zs HE.out.ms.fl.st)
          have hw1 : IntKind.i64.wrap ((k17 : Int) - (k7 : Int)) = (k17 : Int) - (k7 : Int) := IntWalk.i64_in _ (by have h1 := KFL.out; have h2 := HE.out.ms.fl.rf.le; have h3 := HE.out.ms.fl.rf.lim; omega)
          by_cases hsz : (k17 : Int) - (k7 : Int) = size
          · have HMU := Lib.hid (show Nx (mustP (decide ((k17 : Int) - (k7 : Int) = size))) zs σ17 () σ17 from Nx.must_true hsz)
            subst hsz
            have HLAST := Lib.hid (show ∀ u : World, Only (fun j => j = w.heap.size) _ u → FlTo w fb rb v zs _ u ∧ MIn u w.heap.size ⟨fl, nm, ds, st, lo, code, ts, maps⟩ (.slice ac cl cc) (.slice at_ ts.length ct) (.slice am maps.length cm) from fun u hu => HE.out.last AM.out hu)
            have HNF := Lib.hid (show Nx (methodP cs) zs σ ⟨fl, nm, ds, st, lo, code, ts, maps⟩ σ17 from HN1.out.bind (HN2.out.bind (HN3.out.bind (HN5.out.bind (HN6.out.bind (HN7.out.bind (HKF.out.bind (Nx.bind (show Nx (codeP cs fl nm ds) zs _ ⟨fl, nm, ds, st, lo, code, ts, maps⟩ _ from HN8.out.bind (HN9.out.bind (HN10.out.bind (HN11.out.bind (HN12.out.bind (HNT.out.bind (HNM.out.bind (Nx.ret _ _ _)))))))) (HNA.out.bind (Nx.bind HMU.out (Nx.ret _ _ _)))))))))))
            have hb := (show (World.heap _)[mb]? = some (.cells #[.int .i64 fl, .int .i64 nm, .int .i64 ds, .int .i64 st, .int .i64 lo, .slice ac cl cc, .slice at_ ts.length ct, .slice am maps.length cm] 62 (0, 0)) from HE.out.ms.blk)
            have hr := HE.out.ms.res
            generalize hfn : Tryz.f36 = fn at *
            go_wp2_with (refine wpList_load_row rfl 62 _ rfl mb rfl 62 _ (0, 0) _ hb Tryz.underlying62 rfl info8_method ?_; simp only [Act.put, List.setIfInBounds_toArray, List.set_cons_zero, List.set_cons_succ]; refine wpList_store_row rfl 62 _ _ rfl w.heap.size _ rfl rfl 62 _ hr info8_method rfl (by simp [Value.oneCell']) ?_)
            subst hfn
            refine bodyPost_ret (v := .agg #[.int .i64 fl, .int .i64 nm, .int .i64 ds, .int .i64 st, .int .i64 lo, .slice ac cl cc, .slice at_ ts.length ct, .slice am maps.length cm]) ?_ rfl ?_
            · exact method_result (setRow_heap _ _ _ _ _ _ hr) rfl
            refine ⟨⟨fl, nm, ds, st, lo, code, ts, maps⟩, _, _, _, _, rfl, HNF.out, (HLAST.out _ ?_).1, (HLAST.out _ ?_).2, HMR.out⟩ <;> exact onlyRow (Only.refl _ _) (fun _ => rfl)
          · have hszb : ((k17 : Int) - (k7 : Int) == size) = false := by simpa using hsz
            have HMU := Lib.hid (show Nx (mustP (decide ((k17 : Int) - (k7 : Int) = size))) zs σ17 () (failS 50 σ17) from Nx.must_false hsz)
            clear hsz
            go_wp2_with (fail)
            refine (dfFail fb rb v zs _ _ _ _ 50 HE.out.ms.fl).mono ?_
            rintro en wF ⟨rfl, hto⟩
            obtain ⟨kF, eF, hm⟩ := HE.out.call AM.out hto
            have HF := Lib.hid hm
            clear hto hm q0 r1 hw1
            have HLAST := Lib.hid (show ∀ u : World, Only (fun j => j = w.heap.size) _ u → FlTo w fb rb v zs _ u ∧ MIn u w.heap.size ⟨fl, nm, ds, st, lo, code, ts, maps⟩ (.slice ac cl cc) (.slice at_ ts.length ct) (.slice am maps.length cm) from fun u hu => HF.out.last AM.out hu)
            have HNF := Lib.hid (show Nx (methodP cs) zs σ ⟨fl, nm, ds, st, lo, code, ts, maps⟩ (failS 50 σ17) from HN1.out.bind (HN2.out.bind (HN3.out.bind (HN5.out.bind (HN6.out.bind (HN7.out.bind (HKF.out.bind (Nx.bind (show Nx (codeP cs fl nm ds) zs _ ⟨fl, nm, ds, st, lo, code, ts, maps⟩ _ from HN8.out.bind (HN9.out.bind (HN10.out.bind (HN11.out.bind (HN12.out.bind (HNT.out.bind (HNM.out.bind (Nx.ret _ _ _)))))))) (HNA.out.bind (Nx.bind HMU.out (Nx.ret _ _ _)))))))))))
            have hb := (show (World.heap _)[mb]? = some (.cells #[.int .i64 fl, .int .i64 nm, .int .i64 ds, .int .i64 st, .int .i64 lo, .slice ac cl cc, .slice at_ ts.length ct, .slice am maps.length cm] 62 (0, 0)) from HF.out.ms.blk)
            have hr := HF.out.ms.res
            generalize hfn : Tryz.f36 = fn at *
            go_wp2_with (refine wpList_load_row rfl 62 _ rfl mb rfl 62 _ (0, 0) _ hb Tryz.underlying62 rfl info8_method ?_; simp only [Act.put, List.setIfInBounds_toArray, List.set_cons_zero, List.set_cons_succ]; refine wpList_store_row rfl 62 _ _ rfl w.heap.size _ rfl rfl 62 _ hr info8_method rfl (by simp [Value.oneCell']) ?_)
            subst hfn
            refine bodyPost_ret (v := .agg #[.int .i64 fl, .int .i64 nm, .int .i64 ds, .int .i64 st, .int .i64 lo, .slice ac cl cc, .slice at_ ts.length ct, .slice am maps.length cm]) ?_ rfl ?_
            · exact method_result (setRow_heap _ _ _ _ _ _ hr) rfl
            refine ⟨⟨fl, nm, ds, st, lo, code, ts, maps⟩, _, _, _, _, rfl, HNF.out, (HLAST.out _ ?_).1, (HLAST.out _ ?_).2, HMR.out⟩ <;> exact onlyRow (Only.refl _ _) (fun _ => rfl)
    · have hnz : (mm : Int) ≤ (ts.length : Int) := by omega
      have HNT := Lib.hid (HTO.out.done (.inr (by omega)))
      clear hl HTO hlt
      clear hi hz0 hz1 hz2
      go_wp2_with (fail)
      clear q1
      refine (dfNum fb rb v zs _ _ _ _ 2 (by decide) (by decide) HL.out.ms.fl).mono ?_
      rintro en w13 ⟨t, σ13, rfl, hN, hb, hto⟩
      have HN13 := Lib.hid hN
      have t00 := hb.1
      obtain ⟨k13, e13, hm⟩ := HL.out.call AM.out hto
      have H13 := Lib.hid hm
      clear hN hb hto hm HL
      by_cases ht0 : t = 0
      · subst ht0
        have HNM := Lib.hid (show Nx (mapsP cs) zs _ [] σ13 from HN13.out.bind (by show Nx (if (0 : Int) = 0 then retP [] else _) zs _ [] _; rw [if_pos rfl]; exact Nx.ret _ _ _))
        have HE := Lib.hid (show EQ w w13 fb rb mb v (.slice ap np cp) zs cs σ13 k13 e13 ⟨fl, nm, ds, st, lo, code, ts, []⟩ (.slice ac cl cc) (.slice at_ ts.length ct) (.slice none 0 0) from ⟨H13.out.ms, H13.out.row, HBY.out, H13.out.rg, HTR.out, World.ownsRow_nil _ _ _ _, Bytish.nil, VST.out, VLO.out⟩)
        clear H13 t00
        have q0 := cell_blk HE.out.ms.fl.blk 0
        have r1 := cell_blk HE.out.ms.fl.rf.blk 1
        simp at q0 r1
        have HNA := Lib.hid (Nx.at zs HE.out.ms.fl.st)
        have hw1 : IntKind.i64.wrap ((k13 : Int) - (k7 : Int)) = (k13 : Int) - (k7 : Int) := IntWalk.i64_in _ (by have h1 := KFL.out; have h2 := HE.out.ms.fl.rf.le; have h3 := HE.out.ms.fl.rf.lim; omega)
        by_cases hsz : (k13 : Int) - (k7 : Int) = size
        · have HMU := Lib.hid (show Nx (mustP (decide ((k13 : Int) - (k7 : Int) = size))) zs σ13 () σ13 from Nx.must_true hsz)
          subst hsz
          have HLAST := Lib.hid (show ∀ u : World, Only (fun j => j = w.heap.size) _ u → FlTo w fb rb v zs _ u ∧ MIn u w.heap.size ⟨fl, nm, ds, st, lo, code, ts, []⟩ (.slice ac cl cc) (.slice at_ ts.length ct) (.slice none 0 0) from fun u hu => HE.out.last AM.out hu)
          have HNF := Lib.hid (show Nx (methodP cs) zs σ ⟨fl, nm, ds, st, lo, code, ts, []⟩ σ13 from HN1.out.bind (HN2.out.bind (HN3.out.bind (HN5.out.bind (HN6.out.bind (HN7.out.bind (HKF.out.bind (Nx.bind (show Nx (codeP cs fl nm ds) zs _ ⟨fl, nm, ds, st, lo, code, ts, []⟩ _ from HN8.out.bind (HN9.out.bind (HN10.out.bind (HN11.out.bind (HN12.out.bind (HNT.out.bind (HNM.out.bind (Nx.ret _ _ _)))))))) (HNA.out.bind (Nx.bind HMU.out (Nx.ret _ _ _)))))))))))
          have hb := (show (World.heap _)[mb]? = some (.cells #[.int .i64 fl, .int .i64 nm, .int .i64 ds, .int .i64 st, .int .i64 lo, .slice ac cl cc, .slice at_ ts.length ct, .slice none 0 0] 62 (0, 0)) from HE.out.ms.blk)
          have hr := HE.out.ms.res
          generalize hfn : Tryz.f36 = fn at *
          go_wp2_with (refine wpList_load_row rfl 62 _ rfl mb rfl 62 _ (0, 0) _ hb Tryz.underlying62 rfl info8_method ?_; simp only [Act.put, List.setIfInBounds_toArray, List.set_cons_zero, List.set_cons_succ]; refine wpList_store_row rfl 62 _ _ rfl w.heap.size _ rfl rfl 62 _ hr info8_method rfl (by simp [Value.oneCell']) ?_)
          subst hfn
          refine bodyPost_ret (v := .agg #[.int .i64 fl, .int .i64 nm, .int .i64 ds, .int .i64 st, .int .i64 lo, .slice ac cl cc, .slice at_ ts.length ct, .slice none 0 0]) ?_ rfl ?_
          · exact method_result (setRow_heap _ _ _ _ _ _ hr) rfl
          refine ⟨⟨fl, nm, ds, st, lo, code, ts, []⟩, _, _, _, _, rfl, HNF.out, (HLAST.out _ ?_).1, (HLAST.out _ ?_).2, HMR.out⟩ <;> exact onlyRow (Only.refl _ _) (fun _ => rfl)
        · have hszb : ((k13 : Int) - (k7 : Int) == size) = false := by simpa using hsz
          have HMU := Lib.hid (show Nx (mustP (decide ((k13 : Int) - (k7 : Int) = size))) zs σ13 () (failS 50 σ13) from Nx.must_false hsz)
          clear hsz
          go_wp2_with (fail)
          refine (dfFail fb rb v zs _ _ _ _ 50 HE.out.ms.fl).mono ?_
          rintro en wF ⟨rfl, hto⟩
          obtain ⟨kF, eF, hm⟩ := HE.out.call AM.out hto
          have HF := Lib.hid hm
          clear hto hm q0 r1 hw1
          have HLAST := Lib.hid (show ∀ u : World, Only (fun j => j = w.heap.size) _ u → FlTo w fb rb v zs _ u ∧ MIn u w.heap.size ⟨fl, nm, ds, st, lo, code, ts, []⟩ (.slice ac cl cc) (.slice at_ ts.length ct) (.slice none 0 0) from fun u hu => HF.out.last AM.out hu)
          have HNF := Lib.hid (show Nx (methodP cs) zs σ ⟨fl, nm, ds, st, lo, code, ts, []⟩ (failS 50 σ13) from HN1.out.bind (HN2.out.bind (HN3.out.bind (HN5.out.bind (HN6.out.bind (HN7.out.bind (HKF.out.bind (Nx.bind (show Nx (codeP cs fl nm ds) zs _ ⟨fl, nm, ds, st, lo, code, ts, []⟩ _ from HN8.out.bind (HN9.out.bind (HN10.out.bind (HN11.out.bind (HN12.out.bind (HNT.out.bind (HNM.out.bind (Nx.ret _ _ _)))))))) (HNA.out.bind (Nx.bind HMU.out (Nx.ret _ _ _)))))))))))
          have hb := (show (World.heap _)[mb]? = some (.cells #[.int .i64 fl, .int .i64 nm, .int .i64 ds, .int .i64 st, .int .i64 lo, .slice ac cl cc, .slice at_ ts.length ct, .slice none 0 0] 62 (0, 0)) from HF.out.ms.blk)
          have hr := HF.out.ms.res
          generalize hfn : Tryz.f36 = fn at *
          go_wp2_with (refine wpList_load_row rfl 62 _ rfl mb rfl 62 _ (0, 0) _ hb Tryz.underlying62 rfl info8_method ?_; simp only [Act.put, List.setIfInBounds_toArray, List.set_cons_zero, List.set_cons_succ]; refine wpList_store_row rfl 62 _ _ rfl w.heap.size _ rfl rfl 62 _ hr info8_method rfl (by simp [Value.oneCell']) ?_)
          subst hfn
          refine bodyPost_ret (v := .agg #[.int .i64 fl, .int .i64 nm, .int .i64 ds, .int .i64 st, .int .i64 lo, .slice ac cl cc, .slice at_ ts.length ct, .slice none 0 0]) ?_ rfl ?_
          · exact method_result (setRow_heap _ _ _ _ _ _ hr) rfl
          refine ⟨⟨fl, nm, ds, st, lo, code, ts, []⟩, _, _, _, _, rfl, HNF.out, (HLAST.out _ ?_).1, (HLAST.out _ ?_).2, HMR.out⟩ <;> exact onlyRow (Only.refl _ _) (fun _ => rfl)
      by_cases ht1 : t = 1
      rotate_left
      · have tg : 1 < t := by omega
        have t1 : (t == 1) = false := by simpa using ht1
        have HNM := Lib.hid (show Nx (mapsP cs) zs _ [] (failS 50 σ13) from HN13.out.bind (by show Nx (if t = 0 then retP [] else if t = 1 then _ else failP 50) zs _ [] _; rw [if_neg ht0, if_neg ht1]; exact Nx.fail [] (by decide)))
        clear ht0 ht1 t00
        go_wp2_with (fail)
        refine (dfFail fb rb v zs _ _ _ _ 50 H13.out.ms.fl).mono ?_
        rintro en w14 ⟨rfl, hto⟩
        obtain ⟨k14, e14, hm⟩ := H13.out.call AM.out hto
        have HE := Lib.hid (show EQ w w14 fb rb mb v (.slice ap np cp) zs cs (failS 50 σ13) k14 e14 ⟨fl, nm, ds, st, lo, code, ts, []⟩ (.slice ac cl cc) (.slice at_ ts.length ct) (.slice none 0 0) from ⟨hm.ms, hm.row, HBY.out, hm.rg, HTR.out, World.ownsRow_nil _ _ _ _, Bytish.nil, VST.out, VLO.out⟩)
        clear hto hm H13
        have q0 := cell_blk HE.out.ms.fl.blk 0
        have r1 := cell_blk HE.out.ms.fl.rf.blk 1
        simp at q0 r1
        have HNA := Lib.hid (Nx.at zs HE.out.ms.fl.st)
        have hw1 : IntKind.i64.wrap ((k14 : Int) - (k7 : Int)) = (k14 : Int) - (k7 : Int) := IntWalk.i64_in _ (by have h1 := KFL.out; have h2 := HE.out.ms.fl.rf.le; have h3 := HE.out.ms.fl.rf.lim; omega)
        by_cases hsz : (k14 : Int) - (k7 : Int) = size
        · have HMU := Lib.hid (show Nx (mustP (decide ((k14 : Int) - (k7 : Int) = size))) zs (failS 50 σ13) () (failS 50 σ13) from Nx.must_true hsz)
          subst hsz
          have HLAST := Lib.hid (show ∀ u : World, Only (fun j => j = w.heap.size) _ u → FlTo w fb rb v zs _ u ∧ MIn u w.heap.size ⟨fl, nm, ds, st, lo, code, ts, []⟩ (.slice ac cl cc) (.slice at_ ts.length ct) (.slice none 0 0) from fun u hu => HE.out.last AM.out hu)
          have HNF := Lib.hid (show Nx (methodP cs) zs σ ⟨fl, nm, ds, st, lo, code, ts, []⟩ (failS 50 σ13) from HN1.out.bind (HN2.out.bind (HN3.out.bind (HN5.out.bind (HN6.out.bind (HN7.out.bind (HKF.out.bind (Nx.bind (show Nx (codeP cs fl nm ds) zs _ ⟨fl, nm, ds, st, lo, code, ts, []⟩ _ from HN8.out.bind (HN9.out.bind (HN10.out.bind (HN11.out.bind (HN12.out.bind (HNT.out.bind (HNM.out.bind (Nx.ret _ _ _)))))))) (HNA.out.bind (Nx.bind HMU.out (Nx.ret _ _ _)))))))))))
          have hb := (show (World.heap _)[mb]? = some (.cells #[.int .i64 fl, .int .i64 nm, .int .i64 ds, .int .i64 st, .int .i64 lo, .slice ac cl cc, .slice at_ ts.length ct, .slice none 0 0] 62 (0, 0)) from HE.out.ms.blk)
          have hr := HE.out.ms.res
          generalize hfn : Tryz.f36 = fn at *
          go_wp2_with (refine wpList_load_row rfl 62 _ rfl mb rfl 62 _ (0, 0) _ hb Tryz.underlying62 rfl info8_method ?_; simp only [Act.put, List.setIfInBounds_toArray, List.set_cons_zero, List.set_cons_succ]; refine wpList_store_row rfl 62 _ _ rfl w.heap.size _ rfl rfl 62 _ hr info8_method rfl (by simp [Value.oneCell']) ?_)
          subst hfn
          refine bodyPost_ret (v := .agg #[.int .i64 fl, .int .i64 nm, .int .i64 ds, .int .i64 st, .int .i64 lo, .slice ac cl cc, .slice at_ ts.length ct, .slice none 0 0]) ?_ rfl ?_
          · exact method_result (setRow_heap _ _ _ _ _ _ hr) rfl
          refine ⟨⟨fl, nm, ds, st, lo, code, ts, []⟩, _, _, _, _, rfl, HNF.out, (HLAST.out _ ?_).1, (HLAST.out _ ?_).2, HMR.out⟩ <;> exact onlyRow (Only.refl _ _) (fun _ => rfl)
        · have hszb : ((k14 : Int) - (k7 : Int) == size) = false := by simpa using hsz
          have HMU := Lib.hid (show Nx (mustP (decide ((k14 : Int) - (k7 : Int) = size))) zs (failS 50 σ13) () (failS 50 (failS 50 σ13)) from Nx.must_false hsz)
          clear hsz
          go_wp2_with (fail)
          refine (dfFail fb rb v zs _ _ _ _ 50 HE.out.ms.fl).mono ?_
          rintro en wF ⟨rfl, hto⟩
          obtain ⟨kF, eF, hm⟩ := HE.out.call AM.out hto
          have HF := Lib.hid hm
          clear hto hm q0 r1 hw1
          have HLAST := Lib.hid (show ∀ u : World, Only (fun j => j = w.heap.size) _ u → FlTo w fb rb v zs _ u ∧ MIn u w.heap.size ⟨fl, nm, ds, st, lo, code, ts, []⟩ (.slice ac cl cc) (.slice at_ ts.length ct) (.slice none 0 0) from fun u hu => HF.out.last AM.out hu)
          have HNF := Lib.hid (show Nx (methodP cs) zs σ ⟨fl, nm, ds, st, lo, code, ts, []⟩ (failS 50 (failS 50 σ13)) from HN1.out.bind (HN2.out.bind (HN3.out.bind (HN5.out.bind (HN6.out.bind (HN7.out.bind (HKF.out.bind (Nx.bind (show Nx (codeP cs fl nm ds) zs _ ⟨fl, nm, ds, st, lo, code, ts, []⟩ _ from HN8.out.bind (HN9.out.bind (HN10.out.bind (HN11.out.bind (HN12.out.bind (HNT.out.bind (HNM.out.bind (Nx.ret _ _ _)))))))) (HNA.out.bind (Nx.bind HMU.out (Nx.ret _ _ _)))))))))))
          have hb := (show (World.heap _)[mb]? = some (.cells #[.int .i64 fl, .int .i64 nm, .int .i64 ds, .int .i64 st, .int .i64 lo, .slice ac cl cc, .slice at_ ts.length ct, .slice none 0 0] 62 (0, 0)) from HF.out.ms.blk)
          have hr := HF.out.ms.res
          generalize hfn : Tryz.f36 = fn at *
          go_wp2_with (refine wpList_load_row rfl 62 _ rfl mb rfl 62 _ (0, 0) _ hb Tryz.underlying62 rfl info8_method ?_; simp only [Act.put, List.setIfInBounds_toArray, List.set_cons_zero, List.set_cons_succ]; refine wpList_store_row rfl 62 _ _ rfl w.heap.size _ rfl rfl 62 _ hr info8_method rfl (by simp [Value.oneCell']) ?_)
          subst hfn
          refine bodyPost_ret (v := .agg #[.int .i64 fl, .int .i64 nm, .int .i64 ds, .int .i64 st, .int .i64 lo, .slice ac cl cc, .slice at_ ts.length ct, .slice none 0 0]) ?_ rfl ?_
          · exact method_result (setRow_heap _ _ _ _ _ _ hr) rfl
          refine ⟨⟨fl, nm, ds, st, lo, code, ts, []⟩, _, _, _, _, rfl, HNF.out, (HLAST.out _ ?_).1, (HLAST.out _ ?_).2, HMR.out⟩ <;> exact onlyRow (Only.refl _ _) (fun _ => rfl)
      subst ht1
      clear ht0 t00
      go_wp2_with (fail)
      refine (dfNamed fb rb v zs _ _ _ _ ap np cp cs mapsT H13.out.ms.pool (fun j hj => (AM.out.pn j hj).2) H13.out.ms.fl).mono ?_
      rintro en w14 ⟨σ14, rfl, hN, hto⟩
      have HN14 := Lib.hid hN
      obtain ⟨k14, e14, hm⟩ := H13.out.call AM.out hto
      have H14 := Lib.hid hm
      clear hN hto hm H13
      go_wp2_with (fail)
      refine (dfCount fb rb v zs _ _ _ _ 4 (.inr rfl) 4096 (by decide) H14.out.ms.fl).mono ?_
      rintro en w15 ⟨n2, σ15, rfl, hN, hb, hto⟩
      obtain ⟨nn2, rfl⟩ : ∃ nn2 : Nat, n2 = nn2 := ⟨n2.toNat, by omega⟩
      have HN15 := Lib.hid hN
      obtain ⟨k15, e15, hm⟩ := H14.out.call AM.out hto
      have H15 := Lib.hid hm
      clear hN hb hto hm H14
      by_cases hn : nn2 = 0
      · subst hn
        go_wp2_with (fail)
        refine (dfFail fb rb v zs _ _ _ _ 50 H15.out.ms.fl).mono ?_
        rintro en w16 ⟨rfl, hto⟩
        obtain ⟨k16, e16, hm⟩ := H15.out.call AM.out hto
        have H16 := Lib.hid hm
        clear hto hm H15
        go_wp2_with (fail)
        refine (dfBytes fb rb v zs _ _ _ _ 0 H16.out.ms.fl).mono ?_
        rintro en w17 ⟨vm, maps, σ17, rfl, hN, hto, hrow, hby, hlen⟩
        have HN17 := Lib.hid hN
        obtain ⟨k17, e17, hm⟩ := H16.out.call AM.out hto
        obtain ⟨am, cm, rfl, _, _⟩ := slice_of_owns hrow
        have hrow1 := hrow.base (show mb + 1 ≤ w16.heap.size from heap_lt H16.out.ms.blk)
        have q7 := cell_blk hm.ms.blk 7
        have f7 := frozen_blk hm.ms.blk 7
        simp at q7
        have ho7 := (Only.refl (fun j => j = mb) w17).setCell (p := ⟨mb, 7, none⟩) (fun _ => rfl) (.slice am maps.length cm)
        have hS : ∀ j, (fun j => j = mb) j → j < mb + 1 := fun j hj => by have hj' : j = mb := hj; omega
        have HE := Lib.hid (show EQ w (w17.setCell ⟨mb, 7, none⟩ (.slice am maps.length cm)) fb rb mb v (.slice ap np cp) zs cs σ17 k17 e17 ⟨fl, nm, ds, st, lo, code, ts, maps⟩ (.slice ac cl cc) (.slice at_ ts.length ct) (.slice am maps.length cm) from ⟨hm.ms.store AM.out 7 _, hm.row.keep ho7 hS, HBY.out, hm.rg.keep ho7 hS, HTR.out, hrow1.keep ho7 hS, hby, VST.out, VLO.out⟩)
        have HNM := Lib.hid (show Nx (mapsP cs) zs _ maps σ17 from HN13.out.bind (by show Nx (if (1 : Int) = 0 then _ else if (1 : Int) = 1 then _ else _) zs _ maps _; rw [if_neg (by decide), if_pos rfl]; exact HN14.out.bind (HN15.out.bind (Nx.bind (Nx.must_false (by decide)) HN17.out))))
        clear hN hto hm hrow hrow1 hby hlen ho7 hS H16
        have q0 := cell_blk HE.out.ms.fl.blk 0
        have r1 := cell_blk HE.out.ms.fl.rf.blk 1
        simp at q0 r1
        have HNA := Lib.hid (Nx.at zs HE.out.ms.fl.st)
        have hw1 : IntKind.i64.wrap ((k17 : Int) - (k7 : Int)) = (k17 : Int) - (k7 : Int) := IntWalk.i64_in _ (by have h1 := KFL.out; have h2 := HE.out.ms.fl.rf.le; have h3 := HE.out.ms.fl.rf.lim; omega)
        by_cases hsz : (k17 : Int) - (k7 : Int) = size
        · have HMU := Lib.hid (show Nx (mustP (decide ((k17 : Int) - (k7 : Int) = size))) zs σ17 () σ17 from Nx.must_true hsz)
          subst hsz
          have HLAST := Lib.hid (show ∀ u : World, Only (fun j => j = w.heap.size) _ u → FlTo w fb rb v zs _ u ∧ MIn u w.heap.size ⟨fl, nm, ds, st, lo, code, ts, maps⟩ (.slice ac cl cc) (.slice at_ ts.length ct) (.slice am maps.length cm) from fun u hu => HE.out.last AM.out hu)
          have HNF := Lib.hid (show Nx (methodP cs) zs σ ⟨fl, nm, ds, st, lo, code, ts, maps⟩ σ17 from HN1.out.bind (HN2.out.bind (HN3.out.bind (HN5.out.bind (HN6.out.bind (HN7.out.bind (HKF.out.bind (Nx.bind (show Nx (codeP cs fl nm ds) zs _ ⟨fl, nm, ds, st, lo, code, ts, maps⟩ _ from HN8.out.bind (HN9.out.bind (HN10.out.bind (HN11.out.bind (HN12.out.bind (HNT.out.bind (HNM.out.bind (Nx.ret _ _ _)))))))) (HNA.out.bind (Nx.bind HMU.out (Nx.ret _ _ _)))))))))))
          have hb := (show (World.heap _)[mb]? = some (.cells #[.int .i64 fl, .int .i64 nm, .int .i64 ds, .int .i64 st, .int .i64 lo, .slice ac cl cc, .slice at_ ts.length ct, .slice am maps.length cm] 62 (0, 0)) from HE.out.ms.blk)
          have hr := HE.out.ms.res
          generalize hfn : Tryz.f36 = fn at *
          go_wp2_with (refine wpList_load_row rfl 62 _ rfl mb rfl 62 _ (0, 0) _ hb Tryz.underlying62 rfl info8_method ?_; simp only [Act.put, List.setIfInBounds_toArray, List.set_cons_zero, List.set_cons_succ]; refine wpList_store_row rfl 62 _ _ rfl w.heap.size _ rfl rfl 62 _ hr info8_method rfl (by simp [Value.oneCell']) ?_)
          subst hfn
          refine bodyPost_ret (v := .agg #[.int .i64 fl, .int .i64 nm, .int .i64 ds, .int .i64 st, .int .i64 lo, .slice ac cl cc, .slice at_ ts.length ct, .slice am maps.length cm]) ?_ rfl ?_
          · exact method_result (setRow_heap _ _ _ _ _ _ hr) rfl
          refine ⟨⟨fl, nm, ds, st, lo, code, ts, maps⟩, _, _, _, _, rfl, HNF.out, (HLAST.out _ ?_).1, (HLAST.out _ ?_).2, HMR.out⟩ <;> exact onlyRow (Only.refl _ _) (fun _ => rfl)
        · have hszb : ((k17 : Int) - (k7 : Int) == size) = false := by simpa using hsz
          have HMU := Lib.hid (show Nx (mustP (decide ((k17 : Int) - (k7 : Int) = size))) zs σ17 () (failS 50 σ17) from Nx.must_false hsz)
          clear hsz
          go_wp2_with (fail)
          refine (dfFail fb rb v zs _ _ _ _ 50 HE.out.ms.fl).mono ?_
          rintro en wF ⟨rfl, hto⟩
          obtain ⟨kF, eF, hm⟩ := HE.out.call AM.out hto
          have HF := Lib.hid hm
          clear hto hm q0 r1 hw1
          have HLAST := Lib.hid (show ∀ u : World, Only (fun j => j = w.heap.size) _ u → FlTo w fb rb v zs _ u ∧ MIn u w.heap.size ⟨fl, nm, ds, st, lo, code, ts, maps⟩ (.slice ac cl cc) (.slice at_ ts.length ct) (.slice am maps.length cm) from fun u hu => HF.out.last AM.out hu)
          have HNF := Lib.hid (show Nx (methodP cs) zs σ ⟨fl, nm, ds, st, lo, code, ts, maps⟩ (failS 50 σ17) from HN1.out.bind (HN2.out.bind (HN3.out.bind (HN5.out.bind (HN6.out.bind (HN7.out.bind (HKF.out.bind (Nx.bind (show Nx (codeP cs fl nm ds) zs _ ⟨fl, nm, ds, st, lo, code, ts, maps⟩ _ from HN8.out.bind (HN9.out.bind (HN10.out.bind (HN11.out.bind (HN12.out.bind (HNT.out.bind (HNM.out.bind (Nx.ret _ _ _)))))))) (HNA.out.bind (Nx.bind HMU.out (Nx.ret _ _ _)))))))))))
          have hb := (show (World.heap _)[mb]? = some (.cells #[.int .i64 fl, .int .i64 nm, .int .i64 ds, .int .i64 st, .int .i64 lo, .slice ac cl cc, .slice at_ ts.length ct, .slice am maps.length cm] 62 (0, 0)) from HF.out.ms.blk)
          have hr := HF.out.ms.res
          generalize hfn : Tryz.f36 = fn at *
          go_wp2_with (refine wpList_load_row rfl 62 _ rfl mb rfl 62 _ (0, 0) _ hb Tryz.underlying62 rfl info8_method ?_; simp only [Act.put, List.setIfInBounds_toArray, List.set_cons_zero, List.set_cons_succ]; refine wpList_store_row rfl 62 _ _ rfl w.heap.size _ rfl rfl 62 _ hr info8_method rfl (by simp [Value.oneCell']) ?_)
          subst hfn
          refine bodyPost_ret (v := .agg #[.int .i64 fl, .int .i64 nm, .int .i64 ds, .int .i64 st, .int .i64 lo, .slice ac cl cc, .slice at_ ts.length ct, .slice am maps.length cm]) ?_ rfl ?_
          · exact method_result (setRow_heap _ _ _ _ _ _ hr) rfl
          refine ⟨⟨fl, nm, ds, st, lo, code, ts, maps⟩, _, _, _, _, rfl, HNF.out, (HLAST.out _ ?_).1, (HLAST.out _ ?_).2, HMR.out⟩ <;> exact onlyRow (Only.refl _ _) (fun _ => rfl)
      · have hnb : ((nn2 : Int) == 0) = false := by simp; omega
        have HNP := Lib.hid (show (0 : Int) < (nn2 : Int) from by omega)
        clear hn
        go_wp2_with (fail)
        refine (dfBytes fb rb v zs _ _ _ _ nn2 H15.out.ms.fl).mono ?_
        rintro en w17 ⟨vm, maps, σ17, rfl, hN, hto, hrow, hby, hlen⟩
        have HN17 := Lib.hid hN
        obtain ⟨k17, e17, hm⟩ := H15.out.call AM.out hto
        obtain ⟨am, cm, rfl, _, _⟩ := slice_of_owns hrow
        have hrow1 := hrow.base (show mb + 1 ≤ w15.heap.size from heap_lt H15.out.ms.blk)
        have q7 := cell_blk hm.ms.blk 7
        have f7 := frozen_blk hm.ms.blk 7
        simp at q7
        have ho7 := (Only.refl (fun j => j = mb) w17).setCell (p := ⟨mb, 7, none⟩) (fun _ => rfl) (.slice am maps.length cm)
        have hS : ∀ j, (fun j => j = mb) j → j < mb + 1 := fun j hj => by have hj' : j = mb := hj; omega
        have HE := Lib.hid (show EQ w (w17.setCell ⟨mb, 7, none⟩ (.slice am maps.length cm)) fb rb mb v (.slice ap np cp) zs cs σ17 k17 e17 ⟨fl, nm, ds, st, lo, code, ts, maps⟩ (.slice ac cl cc) (.slice at_ ts.length ct) (.slice am maps.length cm) from ⟨hm.ms.store AM.out 7 _, hm.row.keep ho7 hS, HBY.out, hm.rg.keep ho7 hS, HTR.out, hrow1.keep ho7 hS, hby, VST.out, VLO.out⟩)
        have HNM := Lib.hid (show Nx (mapsP cs) zs _ maps σ17 from HN13.out.bind (by show Nx (if (1 : Int) = 0 then _ else if (1 : Int) = 1 then _ else _) zs _ maps _; rw [if_neg (by decide), if_pos rfl]; exact HN14.out.bind (HN15.out.bind (Nx.bind (Nx.must_true HNP.out) HN17.out))))
        clear hN hto hm hrow hrow1 hby hlen ho7 hS H15
        clear hnb
        have q0 := cell_blk HE.out.ms.fl.blk 0
        have r1 := cell_blk HE.out.ms.fl.rf.blk 1
        simp at q0 r1
        have HNA := Lib.hid (Nx.at zs HE.out.ms.fl.st)
        have hw1 : IntKind.i64.wrap ((k17 : Int) - (k7 : Int)) = (k17 : Int) - (k7 : Int) := IntWalk.i64_in _ (by have h1 := KFL.out; have h2 := HE.out.ms.fl.rf.le; have h3 := HE.out.ms.fl.rf.lim; omega)
        by_cases hsz : (k17 : Int) - (k7 : Int) = size
        · have HMU := Lib.hid (show Nx (mustP (decide ((k17 : Int) - (k7 : Int) = size))) zs σ17 () σ17 from Nx.must_true hsz)
          subst hsz
          have HLAST := Lib.hid (show ∀ u : World, Only (fun j => j = w.heap.size) _ u → FlTo w fb rb v zs _ u ∧ MIn u w.heap.size ⟨fl, nm, ds, st, lo, code, ts, maps⟩ (.slice ac cl cc) (.slice at_ ts.length ct) (.slice am maps.length cm) from fun u hu => HE.out.last AM.out hu)
          have HNF := Lib.hid (show Nx (methodP cs) zs σ ⟨fl, nm, ds, st, lo, code, ts, maps⟩ σ17 from HN1.out.bind (HN2.out.bind (HN3.out.bind (HN5.out.bind (HN6.out.bind (HN7.out.bind (HKF.out.bind (Nx.bind (show Nx (codeP cs fl nm ds) zs _ ⟨fl, nm, ds, st, lo, code, ts, maps⟩ _ from HN8.out.bind (HN9.out.bind (HN10.out.bind (HN11.out.bind (HN12.out.bind (HNT.out.bind (HNM.out.bind (Nx.ret _ _ _)))))))) (HNA.out.bind (Nx.bind HMU.out (Nx.ret _ _ _)))))))))))
          have hb := (show (World.heap _)[mb]? = some (.cells #[.int .i64 fl, .int .i64 nm, .int .i64 ds, .int .i64 st, .int .i64 lo, .slice ac cl cc, .slice at_ ts.length ct, .slice am maps.length cm] 62 (0, 0)) from HE.out.ms.blk)
          have hr := HE.out.ms.res
          generalize hfn : Tryz.f36 = fn at *
          go_wp2_with (refine wpList_load_row rfl 62 _ rfl mb rfl 62 _ (0, 0) _ hb Tryz.underlying62 rfl info8_method ?_; simp only [Act.put, List.setIfInBounds_toArray, List.set_cons_zero, List.set_cons_succ]; refine wpList_store_row rfl 62 _ _ rfl w.heap.size _ rfl rfl 62 _ hr info8_method rfl (by simp [Value.oneCell']) ?_)
          subst hfn
          refine bodyPost_ret (v := .agg #[.int .i64 fl, .int .i64 nm, .int .i64 ds, .int .i64 st, .int .i64 lo, .slice ac cl cc, .slice at_ ts.length ct, .slice am maps.length cm]) ?_ rfl ?_
          · exact method_result (setRow_heap _ _ _ _ _ _ hr) rfl
          refine ⟨⟨fl, nm, ds, st, lo, code, ts, maps⟩, _, _, _, _, rfl, HNF.out, (HLAST.out _ ?_).1, (HLAST.out _ ?_).2, HMR.out⟩ <;> exact onlyRow (Only.refl _ _) (fun _ => rfl)
        · have hszb : ((k17 : Int) - (k7 : Int) == size) = false := by simpa using hsz
          have HMU := Lib.hid (show Nx (mustP (decide ((k17 : Int) - (k7 : Int) = size))) zs σ17 () (failS 50 σ17) from Nx.must_false hsz)
          clear hsz
          go_wp2_with (fail)
          refine (dfFail fb rb v zs _ _ _ _ 50 HE.out.ms.fl).mono ?_
          rintro en wF ⟨rfl, hto⟩
          obtain ⟨kF, eF, hm⟩ := HE.out.call AM.out hto
          have HF := Lib.hid hm
          clear hto hm q0 r1 hw1
          have HLAST := Lib.hid (show ∀ u : World, Only (fun j => j = w.heap.size) _ u → FlTo w fb rb v zs _ u ∧ MIn u w.heap.size ⟨fl, nm, ds, st, lo, code, ts, maps⟩ (.slice ac cl cc) (.slice at_ ts.length ct) (.slice am maps.length cm) from fun u hu => HF.out.last AM.out hu)
          have HNF := Lib.hid (show Nx (methodP cs) zs σ ⟨fl, nm, ds, st, lo, code, ts, maps⟩ (failS 50 σ17) from HN1.out.bind (HN2.out.bind (HN3.out.bind (HN5.out.bind (HN6.out.bind (HN7.out.bind (HKF.out.bind (Nx.bind (show Nx (codeP cs fl nm ds) zs _ ⟨fl, nm, ds, st, lo, code, ts, maps⟩ _ from HN8.out.bind (HN9.out.bind (HN10.out.bind (HN11.out.bind (HN12.out.bind (HNT.out.bind (HNM.out.bind (Nx.ret _ _ _)))))))) (HNA.out.bind (Nx.bind HMU.out (Nx.ret _ _ _)))))))))))
          have hb := (show (World.heap _)[mb]? = some (.cells #[.int .i64 fl, .int .i64 nm, .int .i64 ds, .int .i64 st, .int .i64 lo, .slice ac cl cc, .slice at_ ts.length ct, .slice am maps.length cm] 62 (0, 0)) from HF.out.ms.blk)
          have hr := HF.out.ms.res
          generalize hfn : Tryz.f36 = fn at *
          go_wp2_with (refine wpList_load_row rfl 62 _ rfl mb rfl 62 _ (0, 0) _ hb Tryz.underlying62 rfl info8_method ?_; simp only [Act.put, List.setIfInBounds_toArray, List.set_cons_zero, List.set_cons_succ]; refine wpList_store_row rfl 62 _ _ rfl w.heap.size _ rfl rfl 62 _ hr info8_method rfl (by simp [Value.oneCell']) ?_)
          subst hfn
          refine bodyPost_ret (v := .agg #[.int .i64 fl, .int .i64 nm, .int .i64 ds, .int .i64 st, .int .i64 lo, .slice ac cl cc, .slice at_ ts.length ct, .slice am maps.length cm]) ?_ rfl ?_
          · exact method_result (setRow_heap _ _ _ _ _ _ hr) rfl
          refine ⟨⟨fl, nm, ds, st, lo, code, ts, maps⟩, _, _, _, _, rfl, HNF.out, (HLAST.out _ ?_).1, (HLAST.out _ ?_).2, HMR.out⟩ <;> exact onlyRow (Only.refl _ _) (fun _ => rfl)
end Go.Proofs.YtodhdiccfobcfaaGreatDoor
