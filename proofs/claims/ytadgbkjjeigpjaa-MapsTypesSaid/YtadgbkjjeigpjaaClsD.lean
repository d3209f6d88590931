/- An argument that is a class, opened. No condition but the form's own reach. -/
import Derived.Test.YtadgbkjjeigpjaaArg
import Derived.Test.YtadgbkjjeigpjaaPolL
import Derived.Test.YtadgbkjjeigpjaaClsB
namespace Go.Proofs.Ytadgbkjjeigpjaa
open Go.ChangeShapes Go.WideShapes Go.ChangeAt Go.RowKit Go.Deep
set_option linter.unusedVariables false
set_option linter.unusedSimpArgs false

theorem cells_field : Try.prog.cellsOf 107 = 3 := by kernel_rfl
theorem cells_trap : Try.prog.cellsOf 119 = 4 := by kernel_rfl
theorem cells_method : Try.prog.cellsOf 42 = 8 := by kernel_rfl

section
variable {H : Type} {enc : TypeId × Value → H} {w : World} {held : Bool}
theorem int_field {T : TypeId} {fuel : Nat} {v : Value} {y : DataW H × List MemPlace} (hT : Try.prog.underlying T = some (.int .i64)) (t : DataW.trod enc Try.prog w 0 (fun _ => true) held fuel T [v] = some y) : ∃ n, v = .int .i64 n ∧ I64 n := by
  obtain ⟨k, e, _, wf⟩ := DataW.trod_int hT t
  simp only [List.cons.injEq, and_true] at e
  exact ⟨k, e, bounds_i64 wf⟩

set_option maxRecDepth 100000 in
theorem open_fieldV {fuel : Nat} {cs : List Value} {x : DataW H × List MemPlace} (h : DataW.trod enc Try.prog w 0 (fun _ => true) held fuel 107 cs = some x) (hcs : cs.length = 3) (hL : Light Try.prog 107 x.1) :
    ∃ f : FieldV, cs = [.int .i64 f.flags, .int .i64 f.name, .int .i64 f.desc] ∧ FieldR f := by
  have F := fun j f hj => open_field (j := j) (f := f) Try.underlying107 (by kernel_rfl) h hcs hL hj
  obtain ⟨v0, n0, y0, d0, t0, _⟩ := F 0 _ rfl
  obtain ⟨v1, n1, y1, d1, t1, _⟩ := F 1 _ rfl
  obtain ⟨v2, n2, y2, d2, t2, _⟩ := F 2 _ rfl
  obtain ⟨k0, rfl, r0⟩ := int_field Try.underlying3 t0
  obtain ⟨k1, rfl, r1⟩ := int_field Try.underlying3 t1
  obtain ⟨k2, rfl, r2⟩ := int_field Try.underlying3 t2
  refine ⟨⟨k0, k1, k2⟩, ?_, r0, r1, r2⟩
  match cs, hcs with
  | [c0, c1, c2], _ =>
    simp only [List.getElem?_cons_zero, List.getElem?_cons_succ, Option.some.injEq] at d0 d1 d2
    rw [d0, d1, d2]

set_option maxRecDepth 100000 in
theorem open_trapV {fuel : Nat} {cs : List Value} {x : DataW H × List MemPlace} (h : DataW.trod enc Try.prog w 0 (fun _ => true) held fuel 119 cs = some x) (hcs : cs.length = 4) (hL : Light Try.prog 119 x.1) :
    ∃ f : TrapV, cs = [.int .i64 f.from_, .int .i64 f.to_, .int .i64 f.hand, .int .i64 f.type] ∧ TrapR f := by
  have F := fun j f hj => open_field (j := j) (f := f) Try.underlying119 (by kernel_rfl) h hcs hL hj
  obtain ⟨v0, n0, y0, d0, t0, _⟩ := F 0 _ rfl
  obtain ⟨v1, n1, y1, d1, t1, _⟩ := F 1 _ rfl
  obtain ⟨v2, n2, y2, d2, t2, _⟩ := F 2 _ rfl
  obtain ⟨v3, n3, y3, d3, t3, _⟩ := F 3 _ rfl
  obtain ⟨k0, rfl, r0⟩ := int_field Try.underlying3 t0
  obtain ⟨k1, rfl, r1⟩ := int_field Try.underlying3 t1
  obtain ⟨k2, rfl, r2⟩ := int_field Try.underlying3 t2
  obtain ⟨k3, rfl, r3⟩ := int_field Try.underlying3 t3
  refine ⟨⟨k0, k1, k2, k3⟩, ?_, r0, r1, r2, r3⟩
  match cs, hcs with
  | [c0, c1, c2, c3], _ =>
    simp only [List.getElem?_cons_zero, List.getElem?_cons_succ, Option.some.injEq] at d0 d1 d2 d3
    rw [d0, d1, d2, d3]

/-- A slice of elements of k cells, each opened. -/
theorem open_sl {β : Type} [Inhabited β] {t e : TypeId} {k : Nat} (ht : Try.prog.underlying t = some (.slice e)) (hk : Try.prog.cellsOf e = k) (hk0 : 0 < k) (R : β → List Value → Prop) (hne : ∀ z cs, R z cs → cs.length = k)
    (hopen : ∀ {fuel : Nat} {cs : List Value} {x : DataW H × List MemPlace}, DataW.trod enc Try.prog w 0 (fun _ => true) held fuel e cs = some x → cs.length = k → Light Try.prog e x.1 → ∃ z, R z cs)
    {fuel : Nat} {cs : List Value} {x : DataW H × List MemPlace} (h : DataW.trod enc Try.prog w 0 (fun _ => true) held fuel t cs = some x) (hL : Light Try.prog t x.1) :
    ∃ (v : Value) (zs : List β), cs = [v] ∧ Sl v zs.length (fun b o i => ∃ es, R (zs.getD i default) es ∧ ∀ d u, es[d]? = some u → w.cell? ⟨b, o + i * k + d, none⟩ = some u) ∧ (∀ z ∈ zs, ∃ es, R z es) := by
  rcases Go.Deep.open_slice ht h with ⟨rfl, _⟩ | ⟨a, len, cap, m, n, D, Pl, rfl, _, hl, hm, hmm, rfl, hi⟩
  · exact ⟨_, [], rfl, Sl.nil _, fun z hz => by cases hz⟩
  · simp only [if_true] at hmm
    subst hmm
    have hall : ∀ i, i < len → ∃ z : β, ∃ es, R z es ∧ w.cells? 0 (a.add (i * k)) k = some es := by
      intro i hil
      obtain ⟨es, hcs', htr⟩ := hi i (by omega)
      rw [hk] at hcs'
      obtain ⟨_, hlen, _⟩ := World.cells?_some hcs'
      have hLi : Light Try.prog e (D i) := light_elem ht hL (List.mem_map.2 ⟨i, List.mem_range.2 hil, rfl⟩)
      obtain ⟨z, hz⟩ := hopen htr hlen hLi
      exact ⟨z, es, hz, hcs'⟩
    obtain ⟨f, hf⟩ := choose_lt hall
    have hget : ∀ i, i < len → ((List.range len).map f).getD i default = f i := fun i hi => by simp [List.getD, hi]
    refine ⟨_, (List.range len).map f, rfl, ⟨some a, _, by rw [List.length_map, List.length_range], by rw [List.length_map, List.length_range]; exact hl, by unfold maxLen at hm; omega, (fun e => by cases e), fun x hx h0 => ?_⟩, ?_⟩
    · cases hx
      rw [List.length_map, List.length_range] at h0
      have hcell : ∀ i, i < len → ∃ es, R (f i) es ∧ ∀ d u, es[d]? = some u → w.cell? (a.add (i * k + d)) = some u := by
        intro i hi
        obtain ⟨es, hz, hcs'⟩ := hf i hi
        refine ⟨es, hz, fun d u hu => ?_⟩
        obtain ⟨_, hlen, hat⟩ := World.cells?_some hcs'
        have hd : d < k := by
          have := (List.getElem?_eq_some_iff.1 hu).1
          omega
        have := hat d hd
        rw [Go.Deep.add_add] at this
        rw [this, hu]
      obtain ⟨es0, hz0, hc0⟩ := hcell 0 h0
      have hp := plain_of_cell (x := a) (u := es0[0]'(by rw [hne _ _ hz0]; exact hk0)) (by have := hc0 0 _ (List.getElem?_eq_getElem (by rw [hne _ _ hz0]; exact hk0)); simpa using this)
      refine ⟨a.block, a.off, hp, fun i hi => ?_⟩
      rw [List.length_map, List.length_range] at hi
      rw [hget i hi]
      obtain ⟨es, hz, hc⟩ := hcell i hi
      refine ⟨es, hz, fun d u hu => ?_⟩
      have := hc d u hu
      rw [hp, add_lit] at this
      rw [Nat.add_assoc]
      exact this
    · intro z hz
      obtain ⟨i, hi2, rfl⟩ := List.mem_map.1 hz
      obtain ⟨es, h1, _⟩ := hf i (List.mem_range.1 hi2)
      exact ⟨es, h1⟩

theorem open_fields {fuel : Nat} {cs : List Value} {x : DataW H × List MemPlace} (h : DataW.trod enc Try.prog w 0 (fun _ => true) held fuel 33 cs = some x) (hL : Light Try.prog 33 x.1) : ∃ v fs, cs = [v] ∧ Fields w v fs := by
  obtain ⟨v, fs, rfl, hs, hr⟩ := open_sl (β := FieldV) Try.underlying33 cells_field (by decide) (fun f cs => cs = [.int .i64 f.flags, .int .i64 f.name, .int .i64 f.desc] ∧ FieldR f) (fun z cs h => by rw [h.1]; rfl) open_fieldV h hL
  refine ⟨v, fs, rfl, hs.imp (fun b o i _ hi ⟨es, ⟨he, _⟩, hc⟩ => ?_), fun f hf => (hr f hf).elim (fun _ h => h.2)⟩
  subst he
  exact ⟨hc 0 _ rfl, hc 1 _ rfl, hc 2 _ rfl⟩
theorem open_traps {fuel : Nat} {cs : List Value} {x : DataW H × List MemPlace} (h : DataW.trod enc Try.prog w 0 (fun _ => true) held fuel 40 cs = some x) (hL : Light Try.prog 40 x.1) : ∃ v fs, cs = [v] ∧ Traps w v fs := by
  obtain ⟨v, fs, rfl, hs, hr⟩ := open_sl (β := TrapV) Try.underlying40 cells_trap (by decide) (fun f cs => cs = [.int .i64 f.from_, .int .i64 f.to_, .int .i64 f.hand, .int .i64 f.type] ∧ TrapR f) (fun z cs h => by rw [h.1]; rfl) open_trapV h hL
  refine ⟨v, fs, rfl, hs.imp (fun b o i _ hi ⟨es, ⟨he, _⟩, hc⟩ => ?_), fun f hf => (hr f hf).elim (fun _ h => h.2)⟩
  subst he
  exact ⟨hc 0 _ rfl, hc 1 _ rfl, hc 2 _ rfl, hc 3 _ rfl⟩

set_option maxRecDepth 100000 in
theorem open_methodV {fuel : Nat} {cs : List Value} {x : DataW H × List MemPlace} (h : DataW.trod enc Try.prog w 0 (fun _ => true) held fuel 42 cs = some x) (hcs : cs.length = 8) (hL : Light Try.prog 42 x.1) :
    ∃ q : MethodV × Value × Value × Value, cs = [.int .i64 q.1.flags, .int .i64 q.1.name, .int .i64 q.1.desc, .int .i64 q.1.stack, .int .i64 q.1.locals, q.2.1, q.2.2.1, q.2.2.2] ∧ MethodR q.1 ∧ Inside w q.1 q.2.1 q.2.2.1 q.2.2.2 ∧ q.1.code.length ≤ 140737488351232 ∧ q.1.maps.length ≤ 140737488351232 := by
  have F := fun j f hj => open_field (j := j) (f := f) Try.underlying42 (by kernel_rfl) h hcs hL hj
  obtain ⟨v0, n0, y0, d0, t0, _⟩ := F 0 _ rfl
  obtain ⟨v1, n1, y1, d1, t1, _⟩ := F 1 _ rfl
  obtain ⟨v2, n2, y2, d2, t2, _⟩ := F 2 _ rfl
  obtain ⟨v3, n3, y3, d3, t3, _⟩ := F 3 _ rfl
  obtain ⟨v4, n4, y4, d4, t4, _⟩ := F 4 _ rfl
  obtain ⟨v5, n5, y5, d5, t5, l5⟩ := F 5 _ rfl
  obtain ⟨v6, n6, y6, d6, t6, l6⟩ := F 6 _ rfl
  obtain ⟨v7, n7, y7, d7, t7, l7⟩ := F 7 _ rfl
  obtain ⟨k0, rfl, r0⟩ := int_field Try.underlying3 t0
  obtain ⟨k1, rfl, r1⟩ := int_field Try.underlying3 t1
  obtain ⟨k2, rfl, r2⟩ := int_field Try.underlying3 t2
  obtain ⟨k3, rfl, r3⟩ := int_field Try.underlying3 t3
  obtain ⟨k4, rfl, r4⟩ := int_field Try.underlying3 t4
  obtain ⟨vc, zc, e5, hc, lc⟩ := open_bytes Try.underlying39 Try.underlying5 (by kernel_rfl) (by kernel_rfl) t5 l5
  obtain ⟨vt, ts, e6, ht⟩ := open_traps t6 l6
  obtain ⟨vm, zm, e7, hm, lm⟩ := open_bytes Try.underlying39 Try.underlying5 (by kernel_rfl) (by kernel_rfl) t7 l7
  simp only [List.cons.injEq, and_true] at e5 e6 e7
  subst e5 e6 e7
  refine ⟨(⟨k0, k1, k2, k3, k4, zc, ts, zm⟩, v5, v6, v7), ?_, ⟨r0, r1, r2, r3, r4⟩, ⟨hc, ht, hm⟩, lc, lm⟩
  match cs, hcs with
  | [c0, c1, c2, c3, c4, c5, c6, c7], _ =>
    simp only [List.getElem?_cons_zero, List.getElem?_cons_succ, Option.some.injEq] at d0 d1 d2 d3 d4 d5 d6 d7
    rw [d0, d1, d2, d3, d4, d5, d6, d7]

/-- The lists in which a class's methods lead are no longer than the reach. -/
def Short (ms : List MethodV) : Prop := ∀ m ∈ ms, m.code.length ≤ 140737488351232 ∧ m.maps.length ≤ 140737488351232
theorem open_methods {fuel : Nat} {cs : List Value} {x : DataW H × List MemPlace} (h : DataW.trod enc Try.prog w 0 (fun _ => true) held fuel 34 cs = some x) (hL : Light Try.prog 34 x.1) : ∃ v ms, cs = [v] ∧ Methods w v ms ∧ Short ms := by
  obtain ⟨v, zs, rfl, hs, hr⟩ := open_sl (β := MethodV × Value × Value × Value) Try.underlying34 cells_method (by decide)
    (fun q cs => cs = [.int .i64 q.1.flags, .int .i64 q.1.name, .int .i64 q.1.desc, .int .i64 q.1.stack, .int .i64 q.1.locals, q.2.1, q.2.2.1, q.2.2.2] ∧ MethodR q.1 ∧ Inside w q.1 q.2.1 q.2.2.1 q.2.2.2 ∧ q.1.code.length ≤ 140737488351232 ∧ q.1.maps.length ≤ 140737488351232) (fun z cs h => by rw [h.1]; rfl) open_methodV h hL
  have hget : ∀ i, i < zs.length → (zs.map (·.1)).getD i default = (zs.getD i default).1 := fun i hi => by simp [List.getD, hi]
  have hmem : ∀ m ∈ zs.map (·.1), ∃ q ∈ zs, q.1 = m := fun m hm => by
    obtain ⟨q, hq, rfl⟩ := List.mem_map.1 hm
    exact ⟨q, hq, rfl⟩
  refine ⟨v, zs.map (·.1), rfl, ⟨fun i => (zs.getD i default).2, ?_, ?_, ?_⟩, ?_⟩
  · rw [List.length_map]
    refine hs.imp (fun b o i _ hi ⟨es, ⟨he, _⟩, hc⟩ => ?_)
    subst he
    rw [hget i hi]
    exact ⟨hc 0 _ rfl, hc 1 _ rfl, hc 2 _ rfl, hc 3 _ rfl, hc 4 _ rfl, hc 5 _ rfl, hc 6 _ rfl, hc 7 _ rfl⟩
  · intro i hi
    rw [List.length_map] at hi
    rw [hget i hi]
    obtain ⟨es, _, _, h3, _⟩ := hr _ (getD_mem hi)
    exact h3
  · intro m hm
    obtain ⟨q, hq, rfl⟩ := hmem m hm
    obtain ⟨es, _, h2, _⟩ := hr q hq
    exact h2
  · intro m hm
    obtain ⟨q, hq, rfl⟩ := hmem m hm
    obtain ⟨es, _, _, _, h4, h5⟩ := hr q hq
    exact ⟨h4, h5⟩

/-- One field's reading, and its datum among the parts. -/
theorem field_bulk {t : TypeId} {fuel : Nat} {cs : List Value} {x : DataW H × List MemPlace} (h : DataW.trod enc Try.prog w 0 (fun _ => true) held fuel t cs = some x) {fs : Array Field} {k : Nat} (hcs : cs.length = k) (hL : Light Try.prog t x.1) (hf : Try.prog.underlying t = some (.struct fs)) (hone : oneCellFields Try.prog fs = true) (hfs : fs.size = k) {j : Nat} {f : Field} (hj : fs[j]? = some f) :
    ∃ v n y, cs[j]? = some v ∧ DataW.trod enc Try.prog w 0 (fun _ => true) held n f.type [v] = some y ∧ Light Try.prog f.type y.1 ∧ Rows.uptoBulk y.1 ≤ Rows.uptoBulk x.1 := by
  obtain ⟨xs, n, _, rfl, _, hxl, hg⟩ := DataW.trod_struct hf h
  obtain ⟨ho, hk⟩ := hone_of hone j f hj
  have hjs : j < fs.size := (Array.getElem?_eq_some_iff.1 hj).1
  have hjc : j < cs.length := by omega
  have h1 := hg j f hj
  rw [ho, hk, List.drop_eq_getElem_cons hjc] at h1
  have hx : xs[j]? = some (xs[j]'(by omega)) := List.getElem?_eq_getElem (by omega)
  refine ⟨cs[j], n, xs[j]'(by omega), List.getElem?_eq_getElem hjc, h1.trans hx, light_field hf hL hj (by simp [hx]), ?_⟩
  simp only [Rows.uptoBulk]
  have := bulk_mem (l := xs.map (·.1)) (d := (xs[j]'(by omega)).1) (List.mem_map.2 ⟨_, List.getElem_mem _, rfl⟩)
  omega
set_option maxRecDepth 100000 in
/-- A class as an argument. -/
theorem open_class {fuel : Nat} {cs : List Value} {x : DataW H × List MemPlace} (h : DataW.trod enc Try.prog w 0 (fun _ => true) held fuel 36 cs = some x) (hcs : cs.length = 5) (hL : Light Try.prog 36 x.1) :
    ∃ vp vf vm c, cs = [vp, .int .i64 c.this, .int .i64 c.super, vf, vm] ∧ ClassM w vp vf vm c ∧ Short c.methods ∧ ∀ k ∈ c.pool, k.text.size ≤ Rows.uptoBulk x.1 := by
  have F := fun j f hj => field_bulk (j := j) (f := f) h hcs hL Try.underlying36 (by kernel_rfl) (by kernel_rfl) hj
  obtain ⟨v0, n0, y0, d0, t0, l0, b0⟩ := F 0 _ rfl
  obtain ⟨v1, n1, y1, d1, t1, _⟩ := F 1 _ rfl
  obtain ⟨v2, n2, y2, d2, t2, _⟩ := F 2 _ rfl
  obtain ⟨v3, n3, y3, d3, t3, l3, _⟩ := F 3 _ rfl
  obtain ⟨v4, n4, y4, d4, t4, l4, _⟩ := F 4 _ rfl
  obtain ⟨vp, ks, e0, hp, hbulk, _⟩ := open_pool t0 l0
  obtain ⟨k1, rfl, r1⟩ := int_field Try.underlying3 t1
  obtain ⟨k2, rfl, r2⟩ := int_field Try.underlying3 t2
  obtain ⟨vf, fs, e3, hf⟩ := open_fields t3 l3
  obtain ⟨vm, ms, e4, hm, hsh⟩ := open_methods t4 l4
  simp only [List.cons.injEq, and_true] at e0 e3 e4
  subst e0 e3 e4
  refine ⟨v0, v3, v4, ⟨ks, k1, k2, fs, ms⟩, ?_, ⟨hp, hf, hm, r1, r2⟩, hsh, fun k hk => Nat.le_trans (hbulk k hk) b0⟩
  match cs, hcs with
  | [c0, c1, c2, c3, c4], _ =>
    simp only [List.getElem?_cons_zero, List.getElem?_cons_succ, Option.some.injEq] at d0 d1 d2 d3 d4
    rw [d0, d1, d2, d3, d4]
end
set_option maxRecDepth 100000 in
theorem arg_class {H : Type} {enc : TypeId × Value → H} {W : World} {base : Nat} {v : Value} {d : DataW H} {p : List MemPlace} (hv : Value.okWide Try.prog W .any base 36 v) (h : DataW.Trod enc Try.prog W 0 (fun _ => true) true 36 v d p)
    (hL : Light Try.prog 36 d) : ∃ vp vf vm c, v = .agg #[vp, .int .i64 c.this, .int .i64 c.super, vf, vm] ∧ ClassM W vp vf vm c ∧ Short c.methods ∧ ∀ k ∈ c.pool, k.text.size ≤ Rows.uptoBulk d := by
  obtain ⟨cs, rfl, hsz⟩ := okWide_struct Try.underlying36 hv
  have hc5 : Try.prog.cellsOf 36 = 5 := by kernel_rfl
  rw [hc5] at hsz
  obtain ⟨fuel, hf⟩ := h
  obtain ⟨vp, vf, vm, c, e, hs⟩ := open_class (cs := cs.toList) (by simpa [Value.cells] using hf) (by simpa using hsz) hL
  exact ⟨vp, vf, vm, c, by rw [← Array.toArray_toList (xs := cs), e], hs⟩
end Go.Proofs.Ytadgbkjjeigpjaa
