import Derived.Test.YtemplkpcckmcoaaGreatDoorMkPolXClsB
import Derived.Test.YtemplkpcckmcoaaGreatDoorMkSepMem
import Derived.Lib.Hide
import Derived.Laws.StructEq
import Derived.Laws.Rows
import Derived.Laws.ResultCell
namespace Go.Proofs.YtemplkpcckmcoaaGreatDoor
set_option maxHeartbeats 8000000
open Lib (hid)
open Go.ChangeShapes Go.WideShapes Go.ChangeAt Go.RowKit Go.Deep
set_option linter.unusedVariables false
set_option linter.unusedSimpArgs false
theorem cells_field : Tryz.prog.cellsOf 112 = 3 := by kernel_rfl
theorem cells_trap : Tryz.prog.cellsOf 149 = 4 := by kernel_rfl
theorem cells_method : Tryz.prog.cellsOf 79 = 8 := by kernel_rfl
section
variable {H : Type} {enc : TypeId × Value → H} {w : World} {held : Bool}
theorem int_field {T : TypeId} {fuel : Nat} {v : Value} {y : DataW H × List MemPlace} (hT : Tryz.prog.underlying T = some (.int .i64)) (t : DataW.trod enc Tryz.prog w 0 (fun _ => true) held fuel T [v] = some y) : ∃ n, v = .int .i64 n ∧ I64 n := by
  obtain ⟨k, e, _, wf⟩ := DataW.trod_int hT t
  simp only [List.cons.injEq, and_true] at e
  exact ⟨k, e, bounds_i64 wf⟩
set_option maxRecDepth 100000 in
theorem open_fieldV {fuel : Nat} {cs : List Value} {x : DataW H × List MemPlace} (h : DataW.trod enc Tryz.prog w 0 (fun _ => true) held fuel 112 cs = some x) (hcs : cs.length = 3) (hL : Light Tryz.prog 112 x.1) :
    ∃ f : FieldV, cs = [.int .i64 f.flags, .int .i64 f.name, .int .i64 f.desc] ∧ FieldR f := by
  have F := fun j f hj => open_field (j := j) (f := f) Tryz.underlying112 (by kernel_rfl) h hcs hL hj
  obtain ⟨v0, n0, y0, d0, t0, _⟩ := F 0 _ rfl
  obtain ⟨v1, n1, y1, d1, t1, _⟩ := F 1 _ rfl
  obtain ⟨v2, n2, y2, d2, t2, _⟩ := F 2 _ rfl
  obtain ⟨k0, rfl, r0⟩ := int_field Tryz.underlying3 t0
  obtain ⟨k1, rfl, r1⟩ := int_field Tryz.underlying3 t1
  obtain ⟨k2, rfl, r2⟩ := int_field Tryz.underlying3 t2
  refine ⟨⟨k0, k1, k2⟩, ?_, r0, r1, r2⟩
  match cs, hcs with
  | [c0, c1, c2], _ =>
    simp only [List.getElem?_cons_zero, List.getElem?_cons_succ, Option.some.injEq] at d0 d1 d2
    rw [d0, d1, d2]
set_option maxRecDepth 100000 in
theorem open_trapV {fuel : Nat} {cs : List Value} {x : DataW H × List MemPlace} (h : DataW.trod enc Tryz.prog w 0 (fun _ => true) held fuel 149 cs = some x) (hcs : cs.length = 4) (hL : Light Tryz.prog 149 x.1) :
    ∃ f : TrapV, cs = [.int .i64 f.from_, .int .i64 f.to_, .int .i64 f.hand, .int .i64 f.type] ∧ TrapR f := by
  have F := fun j f hj => open_field (j := j) (f := f) Tryz.underlying149 (by kernel_rfl) h hcs hL hj
  obtain ⟨v0, n0, y0, d0, t0, _⟩ := F 0 _ rfl
  obtain ⟨v1, n1, y1, d1, t1, _⟩ := F 1 _ rfl
  obtain ⟨v2, n2, y2, d2, t2, _⟩ := F 2 _ rfl
  obtain ⟨v3, n3, y3, d3, t3, _⟩ := F 3 _ rfl
  obtain ⟨k0, rfl, r0⟩ := int_field Tryz.underlying3 t0
  obtain ⟨k1, rfl, r1⟩ := int_field Tryz.underlying3 t1
  obtain ⟨k2, rfl, r2⟩ := int_field Tryz.underlying3 t2
  obtain ⟨k3, rfl, r3⟩ := int_field Tryz.underlying3 t3
  refine ⟨⟨k0, k1, k2, k3⟩, ?_, r0, r1, r2, r3⟩
  match cs, hcs with
  | [c0, c1, c2, c3], _ =>
    simp only [List.getElem?_cons_zero, List.getElem?_cons_succ, Option.some.injEq] at d0 d1 d2 d3
    rw [d0, d1, d2, d3]
theorem open_sl {β : Type} [Inhabited β] {t e : TypeId} {k : Nat} (ht : Tryz.prog.underlying t = some (.slice e)) (hk : Tryz.prog.cellsOf e = k) (hk0 : 0 < k) (R : β → List Value → Prop) (hne : ∀ z cs, R z cs → cs.length = k)
    (hopen : ∀ {fuel : Nat} {cs : List Value} {x : DataW H × List MemPlace}, DataW.trod enc Tryz.prog w 0 (fun _ => true) held fuel e cs = some x → cs.length = k → Light Tryz.prog e x.1 → ∃ z, R z cs)
    {fuel : Nat} {cs : List Value} {x : DataW H × List MemPlace} (h : DataW.trod enc Tryz.prog w 0 (fun _ => true) held fuel t cs = some x) (hL : Light Tryz.prog t x.1) :
    ∃ (v : Value) (zs : List β), cs = [v] ∧ Sl v zs.length (fun b o i => ∃ es, R (zs.getD i default) es ∧ ∀ d u, es[d]? = some u → w.cell? ⟨b, o + i * k + d, none⟩ = some u) ∧ (∀ z ∈ zs, ∃ es, R z es) := by
  rcases Go.Deep.open_slice ht h with ⟨rfl, _⟩ | ⟨a, len, cap, m, n, D, Pl, rfl, _, hl, hm, hmm, rfl, hi⟩
  · exact ⟨_, [], rfl, Sl.nil _, fun z hz => by cases hz⟩
  · simp only [if_true] at hmm
    subst hmm
    have hall : ∀ i, i < len → ∃ z : β, ∃ es, R z es ∧ w.cells? 0 (a.add (i * k)) k = some es := by
      intro i hil
      obtain ⟨es, hcs', htr⟩ := hi i (by omega)
      rw [hk] at hcs'
      obtain ⟨_, hlen, _⟩ := World.cells?_some hcs'
      have hLi : Light Tryz.prog e (D i) := light_elem ht hL (List.mem_map.2 ⟨i, List.mem_range.2 hil, rfl⟩)
      obtain ⟨z, hz⟩ := hopen htr hlen hLi
      exact ⟨z, es, hz, hcs'⟩
    obtain ⟨f, hf⟩ := choose_lt hall
    have hget : ∀ i, i < len → ((List.range len).map f).getD i default = f i := fun i hi => by simp [List.getD, hi]
    refine ⟨_, (List.range len).map f, rfl, ⟨some a, _, by rw [List.length_map, List.length_range], by rw [List.length_map, List.length_range]; exact hl, by unfold maxLen at hm; omega, (fun e => by cases e), fun x hx h0 => ?_⟩, ?_⟩
    · cases hx
      rw [List.length_map, List.length_range] at h0
      have hcell : ∀ i, i < len → ∃ es, R (f i) es ∧ ∀ d u, es[d]? = some u → w.cell? (a.add (i * k + d)) = some u := by
        intro i hi
        obtain ⟨es, hz, hcs'⟩ := hf i hi
        refine ⟨es, hz, fun d u hu => ?_⟩
        obtain ⟨_, hlen, hat⟩ := World.cells?_some hcs'
        have hd : d < k := by
          have := (List.getElem?_eq_some_iff.1 hu).1
          omega
        have := hat d hd
        rw [Go.Deep.add_add] at this
        rw [this, hu]
      obtain ⟨es0, hz0, hc0⟩ := hcell 0 h0
      have hp := plain_of_cell (x := a) (u := es0[0]'(by rw [hne _ _ hz0]; exact hk0)) (by have := hc0 0 _ (List.getElem?_eq_getElem (by rw [hne _ _ hz0]; exact hk0)); simpa using this)
      refine ⟨a.block, a.off, hp, fun i hi => ?_⟩
      rw [List.length_map, List.length_range] at hi
      rw [hget i hi]
      obtain ⟨es, hz, hc⟩ := hcell i hi
      refine ⟨es, hz, fun d u hu => ?_⟩
      have := hc d u hu
      rw [hp, add_lit] at this
      rw [Nat.add_assoc]
      exact this
    · intro z hz
      obtain ⟨i, hi2, rfl⟩ := List.mem_map.1 hz
      obtain ⟨es, h1, _⟩ := hf i (List.mem_range.1 hi2)
      exact ⟨es, h1⟩
theorem open_fields {fuel : Nat} {cs : List Value} {x : DataW H × List MemPlace} (h : DataW.trod enc Tryz.prog w 0 (fun _ => true) held fuel 34 cs = some x) (hL : Light Tryz.prog 34 x.1) : ∃ v fs, cs = [v] ∧ Fields w v fs := by
  obtain ⟨v, fs, rfl, hs, hr⟩ := open_sl (β := FieldV) Tryz.underlying34 cells_field (by decide) (fun f cs => cs = [.int .i64 f.flags, .int .i64 f.name, .int .i64 f.desc] ∧ FieldR f) (fun z cs h => by rw [h.1]; rfl) open_fieldV h hL
  refine ⟨v, fs, rfl, hs.imp (fun b o i _ hi ⟨es, ⟨he, _⟩, hc⟩ => ?_), fun f hf => (hr f hf).elim (fun _ h => h.2)⟩
  subst he
  exact ⟨hc 0 _ rfl, hc 1 _ rfl, hc 2 _ rfl⟩
theorem open_traps {fuel : Nat} {cs : List Value} {x : DataW H × List MemPlace} (h : DataW.trod enc Tryz.prog w 0 (fun _ => true) held fuel 77 cs = some x) (hL : Light Tryz.prog 77 x.1) : ∃ v fs, cs = [v] ∧ Traps w v fs := by
  obtain ⟨v, fs, rfl, hs, hr⟩ := open_sl (β := TrapV) Tryz.underlying77 cells_trap (by decide) (fun f cs => cs = [.int .i64 f.from_, .int .i64 f.to_, .int .i64 f.hand, .int .i64 f.type] ∧ TrapR f) (fun z cs h => by rw [h.1]; rfl) open_trapV h hL
  refine ⟨v, fs, rfl, hs.imp (fun b o i _ hi ⟨es, ⟨he, _⟩, hc⟩ => ?_), fun f hf => (hr f hf).elim (fun _ h => h.2)⟩
  subst he
  exact ⟨hc 0 _ rfl, hc 1 _ rfl, hc 2 _ rfl, hc 3 _ rfl⟩
set_option maxRecDepth 100000 in
theorem open_methodV {fuel : Nat} {cs : List Value} {x : DataW H × List MemPlace} (h : DataW.trod enc Tryz.prog w 0 (fun _ => true) held fuel 79 cs = some x) (hcs : cs.length = 8) (hL : Light Tryz.prog 79 x.1) :
    ∃ q : MethodV × Value × Value × Value, cs = [.int .i64 q.1.flags, .int .i64 q.1.name, .int .i64 q.1.desc, .int .i64 q.1.stack, .int .i64 q.1.locals, q.2.1, q.2.2.1, q.2.2.2] ∧ MethodR q.1 ∧ Inside w q.1 q.2.1 q.2.2.1 q.2.2.2 ∧ q.1.code.length ≤ 140737488351232 ∧ q.1.maps.length ≤ 140737488351232 := by
  have F := fun j f hj => open_field (j := j) (f := f) Tryz.underlying79 (by kernel_rfl) h hcs hL hj
  obtain ⟨v0, n0, y0, d0, t0, _⟩ := F 0 _ rfl
  obtain ⟨v1, n1, y1, d1, t1, _⟩ := F 1 _ rfl
  obtain ⟨v2, n2, y2, d2, t2, _⟩ := F 2 _ rfl
  obtain ⟨v3, n3, y3, d3, t3, _⟩ := F 3 _ rfl
  obtain ⟨v4, n4, y4, d4, t4, _⟩ := F 4 _ rfl
  obtain ⟨v5, n5, y5, d5, t5, l5⟩ := F 5 _ rfl
  obtain ⟨v6, n6, y6, d6, t6, l6⟩ := F 6 _ rfl
  obtain ⟨v7, n7, y7, d7, t7, l7⟩ := F 7 _ rfl
  obtain ⟨k0, rfl, r0⟩ := int_field Tryz.underlying3 t0
  obtain ⟨k1, rfl, r1⟩ := int_field Tryz.underlying3 t1
  obtain ⟨k2, rfl, r2⟩ := int_field Tryz.underlying3 t2
  obtain ⟨k3, rfl, r3⟩ := int_field Tryz.underlying3 t3
  obtain ⟨k4, rfl, r4⟩ := int_field Tryz.underlying3 t4
  obtain ⟨vc, zc, e5, hc, lc⟩ := open_bytes Tryz.underlying76 Tryz.underlying5 (by kernel_rfl) (by kernel_rfl) t5 l5
  obtain ⟨vt, ts, e6, ht⟩ := open_traps t6 l6
  obtain ⟨vm, zm, e7, hm, lm⟩ := open_bytes Tryz.underlying76 Tryz.underlying5 (by kernel_rfl) (by kernel_rfl) t7 l7
  simp only [List.cons.injEq, and_true] at e5 e6 e7
  subst e5 e6 e7
  refine ⟨(⟨k0, k1, k2, k3, k4, zc, ts, zm⟩, v5, v6, v7), ?_, ⟨r0, r1, r2, r3, r4⟩, ⟨hc, ht, hm⟩, lc, lm⟩
  match cs, hcs with
  | [c0, c1, c2, c3, c4, c5, c6, c7], _ =>
    simp only [List.getElem?_cons_zero, List.getElem?_cons_succ, Option.some.injEq] at d0 d1 d2 d3 d4 d5 d6 d7
    rw [d0, d1, d2, d3, d4, d5, d6, d7]
def Short (ms : List MethodV) : Prop := ∀ m ∈ ms, m.code.length ≤ 140737488351232 ∧ m.maps.length ≤ 140737488351232
theorem open_methods {fuel : Nat} {cs : List Value} {x : DataW H × List MemPlace} (h : DataW.trod enc Tryz.prog w 0 (fun _ => true) held fuel 35 cs = some x) (hL : Light Tryz.prog 35 x.1) : ∃ v ms, cs = [v] ∧ Methods w v ms ∧ Short ms := by
  obtain ⟨v, zs, rfl, hs, hr⟩ := open_sl (β := MethodV × Value × Value × Value) Tryz.underlying35 cells_method (by decide)
    (fun q cs => cs = [.int .i64 q.1.flags, .int .i64 q.1.name, .int .i64 q.1.desc, .int .i64 q.1.stack, .int .i64 q.1.locals, q.2.1, q.2.2.1, q.2.2.2] ∧ MethodR q.1 ∧ Inside w q.1 q.2.1 q.2.2.1 q.2.2.2 ∧ q.1.code.length ≤ 140737488351232 ∧ q.1.maps.length ≤ 140737488351232) (fun z cs h => by rw [h.1]; rfl) open_methodV h hL
  have hget : ∀ i, i < zs.length → (zs.map (·.1)).getD i default = (zs.getD i default).1 := fun i hi => by simp [List.getD, hi]
  have hmem : ∀ m ∈ zs.map (·.1), ∃ q ∈ zs, q.1 = m := fun m hm => by
    obtain ⟨q, hq, rfl⟩ := List.mem_map.1 hm
    exact ⟨q, hq, rfl⟩
  refine ⟨v, zs.map (·.1), rfl, ⟨fun i => (zs.getD i default).2, ?_, ?_, ?_⟩, ?_⟩
  · rw [List.length_map]
    refine hs.imp (fun b o i _ hi ⟨es, ⟨he, _⟩, hc⟩ => ?_)
    subst he
    rw [hget i hi]
    exact ⟨hc 0 _ rfl, hc 1 _ rfl, hc 2 _ rfl, hc 3 _ rfl, hc 4 _ rfl, hc 5 _ rfl, hc 6 _ rfl, hc 7 _ rfl⟩
  · intro i hi
    rw [List.length_map] at hi
    rw [hget i hi]
    obtain ⟨es, _, _, h3, _⟩ := hr _ (getD_mem hi)
    exact h3
  · intro m hm
    obtain ⟨q, hq, rfl⟩ := hmem m hm
    obtain ⟨es, _, h2, _⟩ := hr q hq
    exact h2
  · intro m hm
    obtain ⟨q, hq, rfl⟩ := hmem m hm
    obtain ⟨es, _, _, _, h4, h5⟩ := hr q hq
    exact ⟨h4, h5⟩
theorem field_bulk {t : TypeId} {fuel : Nat} {cs : List Value} {x : DataW H × List MemPlace} (h : DataW.trod enc Tryz.prog w 0 (fun _ => true) held fuel t cs = some x) {fs : Array Field} {k : Nat} (hcs : cs.length = k) (hL : Light Tryz.prog t x.1) (hf : Tryz.prog.underlying t = some (.struct fs)) (hone : oneCellFields Tryz.prog fs = true) (hfs : fs.size = k) {j : Nat} {f : Field} (hj : fs[j]? = some f) :
    ∃ v n y, cs[j]? = some v ∧ DataW.trod enc Tryz.prog w 0 (fun _ => true) held n f.type [v] = some y ∧ Light Tryz.prog f.type y.1 ∧ Rows.uptoBulk y.1 ≤ Rows.uptoBulk x.1 := by
  obtain ⟨xs, n, _, rfl, _, hxl, hg⟩ := DataW.trod_struct hf h
  obtain ⟨ho, hk⟩ := hone_of hone j f hj
  have hjs : j < fs.size := (Array.getElem?_eq_some_iff.1 hj).1
  have hjc : j < cs.length := by omega
  have h1 := hg j f hj
  rw [ho, hk, List.drop_eq_getElem_cons hjc] at h1
  have hx : xs[j]? = some (xs[j]'(by omega)) := List.getElem?_eq_getElem (by omega)
  refine ⟨cs[j], n, xs[j]'(by omega), List.getElem?_eq_getElem hjc, h1.trans hx, light_field hf hL hj (by simp [hx]), ?_⟩
  simp only [Rows.uptoBulk]
  have := bulk_mem (l := xs.map (·.1)) (d := (xs[j]'(by omega)).1) (List.mem_map.2 ⟨_, List.getElem_mem _, rfl⟩)
  omega
set_option maxRecDepth 100000 in
theorem open_class {fuel : Nat} {cs : List Value} {x : DataW H × List MemPlace} (h : DataW.trod enc Tryz.prog w 0 (fun _ => true) held fuel 37 cs = some x) (hcs : cs.length = 5) (hL : Light Tryz.prog 37 x.1) :
    ∃ vp vf vm c, cs = [vp, .int .i64 c.this, .int .i64 c.super, vf, vm] ∧ ClassM w vp vf vm c ∧ Short c.methods ∧ ∀ k ∈ c.pool, k.text.size ≤ Rows.uptoBulk x.1 := by
  have F := fun j f hj => field_bulk (j := j) (f := f) h hcs hL Tryz.underlying37 (by kernel_rfl) (by kernel_rfl) hj
  obtain ⟨v0, n0, y0, d0, t0, l0, b0⟩ := F 0 _ rfl
  obtain ⟨v1, n1, y1, d1, t1, _⟩ := F 1 _ rfl
  obtain ⟨v2, n2, y2, d2, t2, _⟩ := F 2 _ rfl
  obtain ⟨v3, n3, y3, d3, t3, l3, _⟩ := F 3 _ rfl
  obtain ⟨v4, n4, y4, d4, t4, l4, _⟩ := F 4 _ rfl
  obtain ⟨vp, ks, e0, hp, hbulk, _⟩ := open_pool t0 l0
  obtain ⟨k1, rfl, r1⟩ := int_field Tryz.underlying3 t1
  obtain ⟨k2, rfl, r2⟩ := int_field Tryz.underlying3 t2
  obtain ⟨vf, fs, e3, hf⟩ := open_fields t3 l3
  obtain ⟨vm, ms, e4, hm, hsh⟩ := open_methods t4 l4
  simp only [List.cons.injEq, and_true] at e0 e3 e4
  subst e0 e3 e4
  refine ⟨v0, v3, v4, ⟨ks, k1, k2, fs, ms⟩, ?_, ⟨hp, hf, hm, r1, r2⟩, hsh, fun k hk => Nat.le_trans (hbulk k hk) b0⟩
  match cs, hcs with
  | [c0, c1, c2, c3, c4], _ =>
    simp only [List.getElem?_cons_zero, List.getElem?_cons_succ, Option.some.injEq] at d0 d1 d2 d3 d4
    rw [d0, d1, d2, d3, d4]
end
end Go.Proofs.YtemplkpcckmcoaaGreatDoor
namespace Go.Proofs.YtemplkpcckmcoaaGreatDoor
set_option maxHeartbeats 8000000
open Lib (hid)
open Go.RowKit
set_option linter.unusedVariables false
set_option linter.unusedSimpArgs false
def badC (z : Int) : Bool := z == 46 || (z == 59 || (z == 91 || (z == 47 || (z == 60 || z == 62))))
def plainN (zs : List Int) : Bool := (decide (1 ≤ zs.length) && decide (zs.length ≤ 256)) && zs.all (fun z => !badC z)
theorem nums_at {s : ByteArray} {j : Nat} (h : j < s.size) : (nums s).getD j 0 = ((s[j].toNat : Nat) : Int) := by
  rw [nums_get]
  congr 1
  simp [ByteArray.get!, h]
  rfl
theorem badC_yes {z : Int} (h : badC z = true) : z = 46 ∨ z = 59 ∨ z = 91 ∨ z = 47 ∨ z = 60 ∨ z = 62 := by
  unfold badC at h
  simpa using h
theorem plainN_no {zs : List Int} {j : Nat} (hj : j < zs.length) (h : badC (zs.getD j 0) = true) : plainN zs = false := by
  unfold plainN
  have : zs.all (fun z => !badC z) = false := by
    rw [List.all_eq_false]
    refine ⟨zs[j], List.getElem_mem hj, ?_⟩
    rw [show zs.getD j 0 = zs[j] by simp [List.getD, hj]] at h
    rw [h]; decide
  rw [this, Bool.and_false]
theorem plainN_yes {zs : List Int} (h1 : 1 ≤ zs.length) (h2 : zs.length ≤ 256) (h : ∀ j, j < zs.length → badC (zs.getD j 0) = false) : plainN zs = true := by
  unfold plainN
  simp only [h1, h2, decide_true, Bool.and_self, Bool.true_and, List.all_eq_true]
  intro z hz
  obtain ⟨j, hj, rfl⟩ := List.getElem_of_mem hz
  have := h j hj
  rw [show zs.getD j 0 = zs[j] by simp [List.getD, hj]] at this
  rw [this]; rfl
theorem badC_no {z : Int} (h : badC z = false) : (z == 46) = false ∧ (z == 59) = false ∧ (z == 91) = false ∧ (z == 47) = false ∧ (z == 60) = false ∧ (z == 62) = false := by
  unfold badC at h
  simp only [Bool.or_eq_false_iff] at h
  exact ⟨h.1, h.2.1, h.2.2.1, h.2.2.2.1, h.2.2.2.2.1, h.2.2.2.2.2⟩
set_option maxRecDepth 100000 in
theorem refPlainN (s : ByteArray) (w : World) (hs : s.size ≤ 281474976710656) :
    Calls Tryz.prog 15 #[.string s] w fun e w' => e = .returned (.bool (plainN (nums s))) ∧ w = w' := by
  have hl := nums_len s
  by_cases h1 : s.size < 1
  · have HP := hid (show plainN (nums s) = false by unfold plainN; rw [hl]; simp; omega)
    have h1z : (s.size : Int) < 1 := by omega
    clear hl
    go_enter Tryz.func15, Tryz.ntmps15
    go_wp2
    go_ret
    rw [HP.out]
    exact ⟨rfl, rfl⟩
  by_cases h2 : 256 < s.size
  · have HP := hid (show plainN (nums s) = false by unfold plainN; rw [hl]; simp; omega)
    have h2z : 256 < (s.size : Int) := by omega
    have h1z : ¬ (s.size : Int) < 1 := by omega
    clear hl
    go_enter Tryz.func15, Tryz.ntmps15
    go_wp2
    go_ret
    rw [HP.out]
    exact ⟨rfl, rfl⟩
  have h2z : ¬ 256 < (s.size : Int) := by omega
  have h1z : ¬ (s.size : Int) < 1 := by omega
  have HL := hid hl
  clear hl
  go_enter Tryz.func15, Tryz.ntmps15
  go_wp2
  go_loop [3] (fun i => ∃ j : Nat, i = .int .i64 j ∧ j ≤ s.size ∧ ∀ n, n < j → badC ((nums s).getD n 0) = false) (fun i => s.size - (intOf i).toNat)
  case atStart => exact ⟨0, rfl, Nat.zero_le _, fun n hn => by omega⟩
  case round =>
    obtain ⟨j, rfl, hj, hbef⟩ := hrel
    have HBEF := hid hbef
    clear hbef
    by_cases hlt : j < s.size
    · have hjz : (j : Int) < (s.size : Int) := by omega
      have hg := nums_at hlt
      cases hbc : badC ((nums s).getD j 0)
      · have HNX : Hid (∀ n, n < j + 1 → badC ((nums s).getD n 0) = false) := by
          refine hid ?_
          intro n hnj
          by_cases hkj : n < j
          · exact HBEF.out n hkj
          · rw [show n = j by omega]; exact hbc
        rw [hg] at hbc
        obtain ⟨b1, b2, b3, b4, b5, b6⟩ := badC_no hbc
        clear hbc hg
        go_wp2
        go_round
        case rel => exact ⟨j + 1, by go_num, by omega, HNX.out⟩
        case measure => simp [intOf]; omega
      · have HP := hid (plainN_no (by rw [HL.out]; exact hlt) hbc)
        rw [hg] at hbc
        clear hg
        rcases badC_yes hbc with h | h | h | h | h | h
        all_goals
          clear hbc
          go_wp2
          go_ret
          rw [HP.out]
          exact ⟨rfl, rfl⟩
    · have HP := hid (plainN_yes (by rw [HL.out]; omega) (by rw [HL.out]; omega) (fun n hn => HBEF.out n (by rw [HL.out] at hn; omega)))
      obtain rfl : j = s.size := by omega
      clear hlt hj
      go_wp2
      go_ret
      rw [HP.out]
      exact ⟨rfl, rfl⟩
structure TypeV where
  k : Int
  name : ByteArray
  dims : Int
  elem : Int
  at_ : Int
deriving DecidableEq
def emptyB : ByteArray := ⟨#[]⟩
def zeroT : TypeV := ⟨0, ⟨#[]⟩, 0, 0, 0⟩
instance : Inhabited TypeV := ⟨zeroT⟩
def valT (t : TypeV) : Value := .agg #[.int .i64 t.k, .string t.name, .int .i64 t.dims, .int .i64 t.elem, .int .i64 t.at_]
def cellsTy (t : TypeV) : List Value := [.int .i64 t.k, .string t.name, .int .i64 t.dims, .int .i64 t.elem, .int .i64 t.at_]
theorem nums_extract (s : ByteArray) (a b : Nat) : nums (s.extract a b) = ((nums s).drop a).take (b - a) := by
  simp [nums, numsL, List.map_take, List.map_drop]
theorem nums_rest (s : ByteArray) (a : Nat) : nums (s.extract a s.size) = (nums s).drop a := by
  rw [nums_extract]
  apply List.take_of_length_le
  simp [nums_len]
theorem nums_inj {s t : ByteArray} (h : nums s = nums t) : s = t := by rw [← str_nums s, h, str_nums]
theorem str_of {s : ByteArray} {zs : List Int} (h : nums s = zs) : s = strOfNums zs := by rw [← h, str_nums]
def dimsZ : List Int → Nat
  | [] => 0
  | c :: r => if c = 91 then dimsZ r + 1 else 0
theorem dimsZ_le : ∀ zs : List Int, dimsZ zs ≤ zs.length
  | [] => Nat.le_refl _
  | c :: r => by
    unfold dimsZ
    have := dimsZ_le r
    split <;> simp <;> omega
def semiZ : List Int → Nat
  | [] => 0
  | c :: r => if c = 59 then 0 else semiZ r + 1
theorem semiZ_le : ∀ zs : List Int, semiZ zs ≤ zs.length
  | [] => Nat.le_refl _
  | c :: r => by
    unfold semiZ
    have := semiZ_le r
    split <;> simp <;> omega
def arrT (d : Nat) (k : Int) (nm : ByteArray) : TypeV := if 0 < d then ⟨5, nm, d, k, 0⟩ else ⟨k, nm, 0, 0, 0⟩
def baseZ (d : Nat) (zs : List Int) : Option (TypeV × List Int) :=
  match zs with
  | [] => none
  | c :: r =>
    if 4 < d then none
    else if c = 73 then some (arrT d 1 ⟨#[]⟩, r)
    else if c = 74 then some (arrT d 2 ⟨#[]⟩, r)
    else if c = 76 then
      if semiZ r = r.length then none
      else if plainN (r.take (semiZ r)) then some (arrT d 4 (strOfNums (r.take (semiZ r))), r.drop (semiZ r + 1)) else none
    else none
def fieldZ (zs : List Int) : Option (TypeV × List Int) := baseZ (dimsZ zs) (zs.drop (dimsZ zs))
def okF (r : Option (TypeV × List Int)) : Bool := r.isSome
def typF (r : Option (TypeV × List Int)) : TypeV := match r with | some q => q.1 | none => zeroT
def restF (r : Option (TypeV × List Int)) : ByteArray := match r with | some q => strOfNums q.2 | none => ⟨#[]⟩
theorem dims_step {zs : List Int} {j : Nat} (hj : j < zs.length) (hd : dimsZ zs = j + dimsZ (zs.drop j)) (h : zs.getD j 0 = 91) : dimsZ zs = (j + 1) + dimsZ (zs.drop (j + 1)) := by
  have hg : zs[j] = 91 := by rw [← h]; simp [List.getD, hj]
  rw [hd, List.drop_eq_getElem_cons hj]
  show j + dimsZ (zs[j] :: _) = _
  rw [dimsZ, if_pos hg]
  omega
theorem dims_stop {zs : List Int} {j : Nat} (hj : j ≤ zs.length) (hd : dimsZ zs = j + dimsZ (zs.drop j)) (h : j = zs.length ∨ zs.getD j 0 ≠ 91) : dimsZ zs = j := by
  rcases h with rfl | h
  · rw [List.drop_length] at hd; simpa [dimsZ] using hd
  · by_cases e : j = zs.length
    · subst e; rw [List.drop_length] at hd; simpa [dimsZ] using hd
    · have hlt : j < zs.length := by omega
      have hg : zs[j] ≠ 91 := by rw [← show zs.getD j 0 = zs[j] by simp [List.getD, hlt]]; exact h
      rw [List.drop_eq_getElem_cons hlt] at hd
      rw [hd]
      show j + dimsZ (zs[j] :: _) = j
      rw [dimsZ, if_neg hg]
      rfl
theorem semi_step {zs : List Int} {j : Nat} (hj : j < zs.length) (hd : semiZ zs = j + semiZ (zs.drop j)) (h : zs.getD j 0 ≠ 59) : semiZ zs = (j + 1) + semiZ (zs.drop (j + 1)) := by
  have hg : zs[j] ≠ 59 := by rw [← show zs.getD j 0 = zs[j] by simp [List.getD, hj]]; exact h
  rw [hd, List.drop_eq_getElem_cons hj]
  show j + semiZ (zs[j] :: _) = _
  rw [semiZ, if_neg hg]
  omega
theorem semi_stop {zs : List Int} {j : Nat} (hj : j ≤ zs.length) (hd : semiZ zs = j + semiZ (zs.drop j)) (h : j = zs.length ∨ zs.getD j 0 = 59) : semiZ zs = j := by
  by_cases e : j = zs.length
  · subst e; rw [List.drop_length] at hd; simpa [semiZ] using hd
  · have hlt : j < zs.length := by omega
    have hg : zs[j] = 59 := by
      rw [← show zs.getD j 0 = zs[j] by simp [List.getD, hlt]]
      rcases h with h | h
      · exact absurd h e
      · exact h
    rw [hd, List.drop_eq_getElem_cons hlt]
    show j + semiZ (zs[j] :: _) = j
    rw [semiZ, if_pos hg]
    rfl
theorem guard_type : Tryz.prog.eqGuardType Tryz.prog.depth 117 = false := by kernel_rfl
theorem held_type : Tryz.prog.stoodInHeld 117 = false := by kernel_rfl
theorem fields_type : Tryz.prog.underlying 117 = some (.struct (Tryz.prog.fieldsOf 117)) := by kernel_rfl
theorem list_type : (Tryz.prog.fieldsOf 117).toList.map (fun f => (f.name, f.type, f.offset)) = [("K", 3, 0), ("Name", 9, 1), ("Dims", 3, 2), ("Elem", 3, 3), ("At", 3, 4)] := by kernel_rfl
theorem toList_inj' {x y : ByteArray} (h : x.toList = y.toList) : x = y := by
  rw [ByteArray.toList_eq, ByteArray.toList_eq] at h
  obtain ⟨⟨x⟩⟩ := x
  obtain ⟨⟨y⟩⟩ := y
  simp at h
  rw [h]
def eqT (a b : TypeV) : Bool := decide (a = b)
theorem eqT_self (a : TypeV) : eqT a a = true := by unfold eqT; simp
theorem eql_type (i k : TypeV) (w : World) : (binOp .eql 117 (valT i) (valT k)).run Tryz.prog w = .ok (.bool (eqT i k)) w := by
  unfold valT
  rw [run_eql_struct, run_equalIn_agg w _ _ _ _ fields_type held_type]
  have h := list_type
  generalize (Tryz.prog.fieldsOf 117).toList = l at *
  rcases l with _ | ⟨f0, _ | ⟨f1, _ | ⟨f2, _ | ⟨f3, _ | ⟨f4, _ | _⟩⟩⟩⟩⟩
  any_goals (simp at h; done)
  · simp only [List.map_cons, List.map_nil, List.cons.injEq, Prod.mk.injEq, and_true] at h
    obtain ⟨⟨a1, a2, a3⟩, ⟨b1, b2, b3⟩, ⟨c1, c2, c3⟩, ⟨d1, d2, d3⟩, e1, e2, e3⟩ := h
    obtain ⟨x0, x1, x2, x3, x4⟩ := i
    obtain ⟨y0, y1, y2, y3, y4⟩ := k
    have hs : (x1.toList == y1.toList) = decide (x1 = y1) := by
      by_cases h : x1 = y1
      · subst h; simp
      · simp only [h, decide_false, beq_eq_false_iff_ne]
        exact fun e => h (toList_inj' e)
    simp [Op.eqFields, a1, a2, a3, b1, b2, b3, c1, c2, c3, d1, d2, d3, e1, e2, e3, part, isAgg, run_underlying Tryz.underlying3, run_underlying Tryz.underlying9, go_sem, run_equalIn_int w _ _ _ _ _ _ Tryz.underlying3, run_equalIn_string w _ _ _ _ Tryz.underlying9, hs]
    unfold eqT
    repeat' split
    all_goals simp_all
theorem info5_type : (Tryz.prog.info? 117).map (·.size) = some 5 := by kernel_rfl
theorem type_result3 {fn : Func} {p q q2 : Tmp} (hr : fn.results = #[.cell p 117, .tmp q, .tmp q2]) {w : World} {b : Nat} {t : TypeV} {x y : Value} {tmps : Array Value} (h : w.heap[b]? = some (.cells #[.int .i64 t.k, .string t.name, .int .i64 t.dims, .int .i64 t.elem, .int .i64 t.at_] 117 (0, 0))) (ht : tmps.getD p undef = .pointer (some ⟨b, 0, none⟩)) (hx : tmps.getD q undef = x) (hy : tmps.getD q2 undef = y) :
    (results fn tmps).run Tryz.prog w = .ok (.tuple #[valT t, x, y]) w := by
  have hp' : tmps[p]?.getD undef = .pointer (some ⟨b, 0, none⟩) := by simpa using ht
  have hx' : tmps[q]?.getD undef = x := by simpa using hx
  have hy' : tmps[q2]?.getD undef = y := by simpa using hy
  have hL := run_loadVar_row w b 117 117 _ (0, 0) _ h Tryz.underlying117 rfl info5_type
  simp only [results, hr]
  simp [Sem.run_bind, Result.andThen, hp', hx', hy', asAddr, hL, valT]
theorem heap2 {w : World} {c d : Array Value} {s t : TypeId} : ((w.alloc (.cells c s)).alloc (.cells d t)).heap[w.heap.size]? = some (.cells c s (0, 0)) :=
  ((Only.refl (fun _ => False) (w.alloc (.cells c s))).alloc (.cells d t)).heap (heap_alloc_new w (.cells c s)) (fun h => h)
def FieldTo (w : World) (r : Option (TypeV × List Int)) (e : Ending) (w' : World) : Prop := e = .returned (.tuple #[valT (typF r), .string (restF r), .bool (okF r)]) ∧ Only (fun _ => False) w w'
theorem FieldTo.no {w w' : World} {r : Option (TypeV × List Int)} (h : r = none) (ho : Only (fun _ => False) w w') : FieldTo w r (.returned (.tuple #[valT zeroT, .string ⟨#[]⟩, .bool false])) w' := by subst h; exact ⟨rfl, ho⟩
theorem FieldTo.yes {w w' : World} {r : Option (TypeV × List Int)} {t : TypeV} {zs : List Int} {u : ByteArray} (h : r = some (t, zs)) (hu : nums u = zs) (ho : Only (fun _ => False) w w') : FieldTo w r (.returned (.tuple #[valT t, .string u, .bool true])) w' := by
  subst h
  refine ⟨?_, ho⟩
  rw [str_of hu]
  rfl
theorem base_deep {d : Nat} (zs : List Int) (h : 4 < d) : baseZ d zs = none := by
  cases zs with
  | nil => rfl
  | cons c r => show (if 4 < d then none else _) = none; rw [if_pos h]
set_option maxRecDepth 100000 in
theorem refField0 (s : ByteArray) (w : World) (hs : s.size ≤ 281474976710656) :
    Calls Tryz.prog 88 #[.string s] w (FieldTo w (fieldZ (nums s))) := by
  obtain ⟨r, hr⟩ : ∃ r, r = fieldZ (nums s) := ⟨_, rfl⟩
  rw [← hr]
  have HR := hid hr
  clear hr
  go_enter Tryz.func88, Tryz.ntmps88
  go_wp2
  go_loop [0, 5] (fun v d => ∃ (j : Nat) (t : ByteArray), v = .string t ∧ d = .int .i64 j ∧ j ≤ s.size ∧ nums t = (nums s).drop j ∧ t.size + j = s.size ∧ dimsZ (nums s) = j + dimsZ ((nums s).drop j)) (fun _ d => s.size - (intOf d).toNat)
  case atStart => exact ⟨0, s, rfl, rfl, Nat.zero_le _, rfl, rfl, by simp⟩
  case round =>
    obtain ⟨j, t, rfl, rfl, hj, hnt, hsz, hdm⟩ := hrel
    have HNT := hid hnt
    have HDM := hid hdm
    have hts : t.size ≤ s.size := by omega
    have hjs : j ≤ s.size := hj
    have HSZ := hid hsz
    clear hnt hdm hsz hj
    by_cases h0 : 0 < t.size
    · have h0z : (0 : Int) < (t.size : Int) := by omega
      by_cases hc : ((t[0].toNat : Nat) : Int) = 91
      · have HN : Hid (dimsZ (nums s) = (j + 1) + dimsZ ((nums s).drop (j + 1))) := by
          refine hid (dims_step (by rw [nums_len]; have := HSZ.out; omega) HDM.out ?_)
          have := nums_at h0
          rw [HNT.out] at this
          rw [← hc, ← this]
          simp [List.getD]
        have HN2 : Hid (nums (t.extract 1 t.size) = (nums s).drop (j + 1)) := hid (by rw [nums_rest, HNT.out, List.drop_drop])
        have HN3 : Hid ((t.extract 1 t.size).size + (j + 1) = s.size) := hid (by have := HSZ.out; simp; omega)
        go_wp2
        go_round
        case rel => exact ⟨j + 1, _, rfl, by go_num, by have := HSZ.out; omega, HN2.out, HN3.out, HN.out⟩
        case measure => have := HSZ.out; simp [intOf]; omega
      · have HRB : Hid (r = baseZ j (nums t)) := by
          refine hid ?_
          rw [HR.out]
          unfold fieldZ
          rw [dims_stop (j := j) (by rw [nums_len]; omega) HDM.out (by
            by_cases e : j = (nums s).length
            · exact .inl e
            · refine .inr ?_
              have hn := nums_at h0
              rw [HNT.out] at hn
              have hn2 : (nums s).getD j 0 = ((t[0].toNat : Nat) : Int) := by rw [← hn]; simp [List.getD]
              rw [hn2]; exact hc), ← HNT.out]
        have hne : t.toList.isEmpty = false := by
          rw [ByteArray.toList_eq]
          cases hq : t.data.toList with
          | nil => have : t.size = 0 := by simp [ByteArray.size, ← Array.length_toList, hq]
                   omega
          | cons _ _ => rfl
        have hne2 : ¬ t.toList = [] := fun h => by rw [h] at hne; cases hne
        by_cases hd4 : 4 < j
        · have HB := hid (show r = none by rw [HRB.out, base_deep _ hd4])
          have hd4z : (4 : Int) < (j : Int) := by omega
          go_wp2
          refine bodyPost_ret (type_result3 (t := zeroT) (b := w.heap.size) Tryz.results88 (heap_alloc_new w _) rfl rfl rfl) rfl (FieldTo.no HB.out ((Only.refl _ w).alloc _))
        have hd4z : ¬ (4 : Int) < (j : Int) := by omega
        have hcb : (((t[0].toNat : Nat) : Int) == 91) = false := by rw [beq_eq_false_iff_ne]; exact hc
        obtain ⟨c, hcc⟩ : ∃ c : Int, ((t[0].toNat : Nat) : Int) = c := ⟨_, rfl⟩
        have HC : Hid (nums t = c :: (nums t).drop 1) := by
          refine hid ?_
          have hlt : 0 < (nums t).length := by rw [nums_len]; exact h0
          have e := List.drop_eq_getElem_cons hlt
          rw [List.drop_zero] at e
          rw [← hcc, ← nums_at h0]
          simpa [List.getD, hlt] using e
        have HBZ : Hid (r = if c = 73 then some (arrT j 1 ⟨#[]⟩, (nums t).drop 1) else if c = 74 then some (arrT j 2 ⟨#[]⟩, (nums t).drop 1) else if c = 76 then (if semiZ ((nums t).drop 1) = ((nums t).drop 1).length then none else if plainN (((nums t).drop 1).take (semiZ ((nums t).drop 1))) then some (arrT j 4 (strOfNums (((nums t).drop 1).take (semiZ ((nums t).drop 1)))), ((nums t).drop 1).drop (semiZ ((nums t).drop 1) + 1)) else none) else none) := by
          refine hid ?_
          rw [HRB.out, HC.out]
          show (if 4 < j then none else _) = _
          rw [if_neg hd4]
          rfl
        rw [hcc] at hcb
        clear hc HR HDM HNT hd4 HRB HC
        by_cases c1 : c = 73
        · subst c1
          have HBB := hid (show r = some (arrT j 1 ⟨#[]⟩, (nums t).drop 1) by rw [HBZ.out, if_pos rfl])
          by_cases hd0 : 0 < j
          · have HB := hid (show r = some (⟨5, ⟨#[]⟩, (j : Int), 1, 0⟩, _) by rw [HBB.out]; unfold arrT; rw [if_pos hd0])
            have hd0z : (0 : Int) < (j : Int) := by omega
            clear HBB
            go_wp2
            refine bodyPost_ret (type_result3 (t := ⟨5, ⟨#[]⟩, (j : Int), 1, 0⟩) (b := w.heap.size) Tryz.results88 heap2 rfl rfl rfl) rfl (FieldTo.yes HB.out (nums_rest t 1) (((Only.refl _ w).alloc _).alloc _))
          · have HB := hid (show r = some (⟨1, ⟨#[]⟩, 0, 0, 0⟩, _) by rw [HBB.out]; unfold arrT; rw [if_neg hd0])
            obtain rfl : j = 0 := by omega
            clear HBB
            go_wp2
            refine bodyPost_ret (type_result3 (t := ⟨1, ⟨#[]⟩, 0, 0, 0⟩) (b := w.heap.size) Tryz.results88 heap2 rfl rfl rfl) rfl (FieldTo.yes HB.out (nums_rest t 1) (((Only.refl _ w).alloc _).alloc _))
        by_cases c2 : c = 74
        · subst c2
          have HBB := hid (show r = some (arrT j 2 ⟨#[]⟩, (nums t).drop 1) by rw [HBZ.out, if_neg (by decide), if_pos rfl])
          by_cases hd0 : 0 < j
          · have HB := hid (show r = some (⟨5, ⟨#[]⟩, (j : Int), 2, 0⟩, _) by rw [HBB.out]; unfold arrT; rw [if_pos hd0])
            have hd0z : (0 : Int) < (j : Int) := by omega
            clear HBB
            go_wp2
            refine bodyPost_ret (type_result3 (t := ⟨5, ⟨#[]⟩, (j : Int), 2, 0⟩) (b := w.heap.size) Tryz.results88 heap2 rfl rfl rfl) rfl (FieldTo.yes HB.out (nums_rest t 1) (((Only.refl _ w).alloc _).alloc _))
          · have HB := hid (show r = some (⟨2, ⟨#[]⟩, 0, 0, 0⟩, _) by rw [HBB.out]; unfold arrT; rw [if_neg hd0])
            obtain rfl : j = 0 := by omega
            clear HBB
            go_wp2
            refine bodyPost_ret (type_result3 (t := ⟨2, ⟨#[]⟩, 0, 0, 0⟩) (b := w.heap.size) Tryz.results88 heap2 rfl rfl rfl) rfl (FieldTo.yes HB.out (nums_rest t 1) (((Only.refl _ w).alloc _).alloc _))
        have b1 : (c == 73) = false := by rw [beq_eq_false_iff_ne]; exact c1
        have b2 : (c == 74) = false := by rw [beq_eq_false_iff_ne]; exact c2
        by_cases c3 : c = 76
        · subst c3
          obtain ⟨u, hu⟩ : ∃ u, u = (nums t).drop 1 := ⟨_, rfl⟩
          have hul : u.length + 1 = t.size := by rw [hu, List.length_drop, nums_len]; omega
          have HL : Hid (r = if semiZ u = u.length then none else if plainN (u.take (semiZ u)) then some (arrT j 4 (strOfNums (u.take (semiZ u))), u.drop (semiZ u + 1)) else none) := hid (by rw [HBZ.out, if_neg (by decide), if_neg (by decide), if_pos rfl, ← hu])
          have HU := hid hu
          have HUL := hid hul
          clear HBZ hu hul c1 c2
          go_wp2
          go_loop [7] (fun v => ∃ a : Nat, v = .int .i64 a ∧ 1 ≤ a ∧ a ≤ t.size ∧ semiZ u = (a - 1) + semiZ (u.drop (a - 1))) (fun v => t.size - (intOf v).toNat)
          case atStart => exact ⟨1, rfl, by omega, by omega, by simp⟩
          case round =>
            obtain ⟨a, rfl, ha1, ha2, hsm⟩ := hrel
            have HSM := hid hsm
            have ha1z : (1 : Int) ≤ (a : Int) := by omega
            clear hsm
            by_cases hat : a < t.size
            · have hatz : (a : Int) < (t.size : Int) := by omega
              have HG : Hid (u.getD (a - 1) 0 = ((t[a].toNat : Nat) : Int)) := by
                refine hid ?_
                rw [HU.out, ← nums_at hat]
                simp only [List.getD, List.getElem?_drop]
                rw [show 1 + (a - 1) = a by omega]
              by_cases hs : ((t[a].toNat : Nat) : Int) = 59
              · have hsb : (((t[a].toNat : Nat) : Int) != 59) = false := by rw [bne, hs]; rfl
                have hatb : ((a : Int) == (t.size : Int)) = false := by rw [beq_eq_false_iff_ne]; omega
                have HM : Hid (semiZ u = a - 1) := hid (semi_stop (by have := HUL.out; omega) HSM.out (.inr (by rw [HG.out]; exact hs)))
                have HNN : Hid (nums (t.extract 1 a) = u.take (a - 1)) := hid (by rw [nums_extract, HU.out])
                have HRS : Hid (nums (t.extract (a + 1) t.size) = u.drop (a - 1 + 1)) := hid (by rw [nums_rest, HU.out, List.drop_drop]; congr 1; omega)
                have HL2 : Hid (r = if plainN (u.take (a - 1)) then some (arrT j 4 (strOfNums (u.take (a - 1))), u.drop (a - 1 + 1)) else none) := by
                  refine hid ?_
                  rw [HL.out, HM.out, if_neg (by have := HUL.out; omega)]
                have cp := fun w => refPlainN (t.extract 1 a) w (by simp; omega)
                rw [HNN.out] at cp
                cases hpl : plainN (u.take (a - 1))
                · have HB := hid (show r = none by rw [HL2.out, hpl]; rfl)
                  rw [hpl] at cp
                  have CP := hid cp
                  clear cp hpl hs HL2 HL HM HNN HRS
                  go_wp2_with (fail)
                  refine (CP.out _).mono ?_
                  rintro e w2 ⟨rfl, rfl⟩
                  go_wp2
                  refine bodyPost_ret (type_result3 (t := zeroT) (b := w.heap.size) Tryz.results88 heap2 rfl rfl rfl) rfl (FieldTo.no HB.out (((Only.refl _ w).alloc _).alloc _))
                · have HBB := hid (show r = some (arrT j 4 (t.extract 1 a), u.drop (a - 1 + 1)) by rw [HL2.out, hpl, str_of HNN.out]; rfl)
                  rw [hpl] at cp
                  have CP := hid cp
                  clear cp hpl hs HL2 HL HM HNN
                  go_wp2_with (fail)
                  refine (CP.out _).mono ?_
                  rintro e w2 ⟨rfl, rfl⟩
                  by_cases hd0 : 0 < j
                  · have HB := hid (show r = some (⟨5, t.extract 1 a, (j : Int), 4, 0⟩, _) by rw [HBB.out]; unfold arrT; rw [if_pos hd0])
                    have hd0z : (0 : Int) < (j : Int) := by omega
                    clear HBB
                    go_wp2
                    refine bodyPost_ret (type_result3 (t := ⟨5, t.extract 1 a, (j : Int), 4, 0⟩) (b := w.heap.size) Tryz.results88 heap2 rfl rfl rfl) rfl (FieldTo.yes HB.out HRS.out (((Only.refl _ w).alloc _).alloc _))
                  · have HB := hid (show r = some (⟨4, t.extract 1 a, 0, 0, 0⟩, _) by rw [HBB.out]; unfold arrT; rw [if_neg hd0])
                    obtain rfl : j = 0 := by omega
                    clear HBB
                    go_wp2
                    refine bodyPost_ret (type_result3 (t := ⟨4, t.extract 1 a, 0, 0, 0⟩) (b := w.heap.size) Tryz.results88 heap2 rfl rfl rfl) rfl (FieldTo.yes HB.out HRS.out (((Only.refl _ w).alloc _).alloc _))
              · have hsb : (((t[a].toNat : Nat) : Int) != 59) = true := by rw [bne_iff_ne]; exact hs
                have HN := hid (semi_step (by have := HUL.out; omega) HSM.out (by rw [HG.out]; exact hs))
                clear hs
                go_wp2
                go_round
                case rel => exact ⟨a + 1, by go_num, by omega, by omega, by have := HN.out; rw [show a + 1 - 1 = a - 1 + 1 by omega]; exact this⟩
                case measure => simp [intOf]; omega
            · obtain rfl : a = t.size := by omega
              have HM : Hid (semiZ u = t.size - 1) := hid (semi_stop (by have := HUL.out; omega) HSM.out (.inl (by have := HUL.out; omega)))
              have HB : Hid (r = none) := hid (by rw [HL.out, if_pos (by rw [HM.out]; have := HUL.out; omega)])
              clear hat
              go_wp2
              refine bodyPost_ret (type_result3 (t := zeroT) (b := w.heap.size) Tryz.results88 heap2 rfl rfl rfl) rfl (FieldTo.no HB.out (((Only.refl _ w).alloc _).alloc _))
        · have b3 : (c == 76) = false := by rw [beq_eq_false_iff_ne]; exact c3
          have HB := hid (show r = none by rw [HBZ.out, if_neg c1, if_neg c2, if_neg c3])
          clear c1 c2 c3 HBZ
          go_wp2
          refine bodyPost_ret (type_result3 (t := zeroT) (b := w.heap.size) Tryz.results88 heap2 rfl rfl rfl) rfl (FieldTo.no HB.out (((Only.refl _ w).alloc _).alloc _))
    · have ht0 : t = ⟨#[]⟩ := nums_inj (List.eq_nil_of_length_eq_zero (by rw [nums_len]; omega))
      have HB : Hid (r = none) := by
        refine hid ?_
        rw [HR.out]
        unfold fieldZ
        rw [dims_stop (j := j) (by rw [nums_len]; omega) HDM.out (.inl (by rw [nums_len]; have := HSZ.out; omega)), ← HNT.out, ht0]
        rfl
      subst ht0
      clear HNT HDM h0
      go_wp2
      refine bodyPost_ret (type_result3 (t := zeroT) (b := w.heap.size) Tryz.results88 (heap_alloc_new w _) rfl rfl rfl) rfl (FieldTo.no HB.out ((Only.refl _ w).alloc _))
end Go.Proofs.YtemplkpcckmcoaaGreatDoor
