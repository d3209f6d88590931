/- Scripts of calls of a heap as arguments (layer 14), opened. No condition but the form's own reach. -/
import Derived.Test.YtebeoganblcblaaHpD
import Derived.Test.YtebeoganblcblaaKndKa
namespace Go.Proofs.Ytebeoganblcblaa
open Go.ChangeShapes Go.WideShapes Go.ChangeAt Go.RowKit Go.Deep
set_option linter.unusedVariables false
set_option linter.unusedSimpArgs false

/-- A call, as it is laid. -/
structure Op14 where
  what : Int
  t : TypeV
  of : TypeV
  n : Int
  i : Int
  v : ValV
  dv : Value
  data : List TypeV
instance : Inhabited Op14 := ⟨⟨0, zeroT, zeroT, 0, 0, default, .slice none 0 0, []⟩⟩
def cellsOp (x : Op14) : List Value := [.int .i64 x.what, .int .i64 x.t.k, .string x.t.name, .int .i64 x.t.dims, .int .i64 x.t.elem, .int .i64 x.t.at_, .int .i64 x.of.k, .string x.of.name, .int .i64 x.of.dims, .int .i64 x.of.elem, .int .i64 x.of.at_, .int .i64 x.n, .int .i64 x.i, .int .i64 x.v.k, .int .i64 x.v.n, .int .i64 x.v.r, x.dv]
def valOp (x : Op14) : Value := .agg #[.int .i64 x.what, .int .i64 x.t.k, .string x.t.name, .int .i64 x.t.dims, .int .i64 x.t.elem, .int .i64 x.t.at_, .int .i64 x.of.k, .string x.of.name, .int .i64 x.of.dims, .int .i64 x.of.elem, .int .i64 x.of.at_, .int .i64 x.n, .int .i64 x.i, .int .i64 x.v.k, .int .i64 x.v.n, .int .i64 x.v.r, x.dv]
structure OpAt14 (w : World) (b o i : Nat) (x : Op14) : Prop where
  c0 : w.cell? ⟨b, o + i * 17, none⟩ = some (.int .i64 x.what)
  c1 : w.cell? ⟨b, o + i * 17 + 1, none⟩ = some (.int .i64 x.t.k)
  c2 : w.cell? ⟨b, o + i * 17 + 2, none⟩ = some (.string x.t.name)
  c3 : w.cell? ⟨b, o + i * 17 + 3, none⟩ = some (.int .i64 x.t.dims)
  c4 : w.cell? ⟨b, o + i * 17 + 4, none⟩ = some (.int .i64 x.t.elem)
  c5 : w.cell? ⟨b, o + i * 17 + 5, none⟩ = some (.int .i64 x.t.at_)
  c6 : w.cell? ⟨b, o + i * 17 + 6, none⟩ = some (.int .i64 x.of.k)
  c7 : w.cell? ⟨b, o + i * 17 + 7, none⟩ = some (.string x.of.name)
  c8 : w.cell? ⟨b, o + i * 17 + 8, none⟩ = some (.int .i64 x.of.dims)
  c9 : w.cell? ⟨b, o + i * 17 + 9, none⟩ = some (.int .i64 x.of.elem)
  c10 : w.cell? ⟨b, o + i * 17 + 10, none⟩ = some (.int .i64 x.of.at_)
  c11 : w.cell? ⟨b, o + i * 17 + 11, none⟩ = some (.int .i64 x.n)
  c12 : w.cell? ⟨b, o + i * 17 + 12, none⟩ = some (.int .i64 x.i)
  c13 : w.cell? ⟨b, o + i * 17 + 13, none⟩ = some (.int .i64 x.v.k)
  c14 : w.cell? ⟨b, o + i * 17 + 14, none⟩ = some (.int .i64 x.v.n)
  c15 : w.cell? ⟨b, o + i * 17 + 15, none⟩ = some (.int .i64 x.v.r)
  c16 : w.cell? ⟨b, o + i * 17 + 16, none⟩ = some (x.dv)
def Ops14 (w : World) (v : Value) (l : List Op14) : Prop := Sl v l.length (fun b o i => OpAt14 w b o i (l.getD i default)) ∧ ∀ x ∈ l, Types w x.dv x.data
theorem OpAt14.only {w w' : World} {b o i : Nat} {x : Op14} (h : OpAt14 w b o i x) (ho : Only (fun _ => False) w w') : OpAt14 w' b o i x :=
  ⟨ho.cell h.c0 (fun h => h), ho.cell h.c1 (fun h => h), ho.cell h.c2 (fun h => h), ho.cell h.c3 (fun h => h), ho.cell h.c4 (fun h => h), ho.cell h.c5 (fun h => h), ho.cell h.c6 (fun h => h), ho.cell h.c7 (fun h => h), ho.cell h.c8 (fun h => h), ho.cell h.c9 (fun h => h), ho.cell h.c10 (fun h => h), ho.cell h.c11 (fun h => h), ho.cell h.c12 (fun h => h), ho.cell h.c13 (fun h => h), ho.cell h.c14 (fun h => h), ho.cell h.c15 (fun h => h), ho.cell h.c16 (fun h => h)⟩
theorem Ops14.only {w w' : World} {v : Value} {l : List Op14} (h : Ops14 w v l) (ho : Only (fun _ => False) w w') : Ops14 w' v l :=
  ⟨h.1.imp (fun _ _ _ _ _ h => h.only ho), fun x hx => Types.only (h.2 x hx) ho⟩
theorem cells_op14 : Try.prog.cellsOf 37 = 17 := by kernel_rfl
theorem cells_val14 : Try.prog.cellsOf 34 = 3 := by kernel_rfl
section
variable {H : Type} {enc : TypeId × Value → H} {w : World} {held : Bool}
theorem open_tlist14 {fuel : Nat} {cs : List Value} {x : DataW H × List MemPlace} (h : DataW.trod enc Try.prog w 0 (fun _ => true) held fuel 35 cs = some x) (hL : Light Try.prog 35 x.1) : ∃ v l, cs = [v] ∧ Types w v l := by
  obtain ⟨v, l, rfl, hs, hr⟩ := open_sl (β := TypeV) Try.underlying35 cells_type (by decide) (fun f cs => cs = cellsTy f ∧ TypeR f) (fun z cs h => by rw [h.1]; rfl) open_typeV h hL
  refine ⟨v, l, rfl, hs.imp (fun b o i _ hi ⟨es, ⟨he, _⟩, hc⟩ => ?_)⟩
  subst he
  exact ⟨hc 0 _ rfl, hc 1 _ rfl, hc 2 _ rfl, hc 3 _ rfl, hc 4 _ rfl⟩
set_option maxRecDepth 100000 in
theorem open_valV {fuel : Nat} {cs : List Value} {x : DataW H × List MemPlace} (h : DataW.trod enc Try.prog w 0 (fun _ => true) held fuel 34 cs = some x) (hcs : cs.length = 3) (hL : Light Try.prog 34 x.1) : ∃ f : ValV, cs = cellsVa f := by
  have F := fun j f hj => open_field (j := j) (f := f) Try.underlying34 (by kernel_rfl) h hcs hL hj
  obtain ⟨v0, n0, y0, d0, t0, _⟩ := F 0 _ rfl
  obtain ⟨v1, n1, y1, d1, t1, _⟩ := F 1 _ rfl
  obtain ⟨v2, n2, y2, d2, t2, _⟩ := F 2 _ rfl
  obtain ⟨k0, rfl, r0⟩ := int_field Try.underlying3 t0
  obtain ⟨k1, rfl, r1⟩ := int_field Try.underlying2 t1
  obtain ⟨k2, rfl, r2⟩ := int_field Try.underlying3 t2
  refine ⟨⟨k0, k1, k2⟩, ?_⟩
  match cs, hcs with
  | [c0, c1, c2], _ =>
    simp only [List.getElem?_cons_zero, List.getElem?_cons_succ, Option.some.injEq] at d0 d1 d2
    rw [d0, d1, d2]
    rfl
set_option maxRecDepth 100000 in
theorem open_op14 {fuel : Nat} {cs : List Value} {x : DataW H × List MemPlace} (h : DataW.trod enc Try.prog w 0 (fun _ => true) held fuel 37 cs = some x) (hcs : cs.length = 17) (hL : Light Try.prog 37 x.1) :
    ∃ q : Op14, cs = cellsOp q ∧ Types w q.dv q.data := by
  obtain ⟨xs, n, _, rfl, _, hxl, hg⟩ := DataW.trod_struct Try.underlying37 h
  have hs2 : xs.length = 7 := hxl
  match xs, hs2 with
  | [y0, y1, y2, y3, y4, y5, y6], _ =>
    match cs, hcs with
    | [c0, c1, c2, c3, c4, c5, c6, c7, c8, c9, c10, c11, c12, c13, c14, c15, c16], _ =>
      have e0 : DataW.trod enc Try.prog w 0 (fun _ => true) held n 3 [c0] = some y0 := hg 0 _ rfl
      have e1 : DataW.trod enc Try.prog w 0 (fun _ => true) held n 32 [c1, c2, c3, c4, c5] = some y1 := hg 1 _ rfl
      have e2 : DataW.trod enc Try.prog w 0 (fun _ => true) held n 32 [c6, c7, c8, c9, c10] = some y2 := hg 2 _ rfl
      have e3 : DataW.trod enc Try.prog w 0 (fun _ => true) held n 3 [c11] = some y3 := hg 3 _ rfl
      have e4 : DataW.trod enc Try.prog w 0 (fun _ => true) held n 3 [c12] = some y4 := hg 4 _ rfl
      have e5 : DataW.trod enc Try.prog w 0 (fun _ => true) held n 34 [c13, c14, c15] = some y5 := hg 5 _ rfl
      have e6 : DataW.trod enc Try.prog w 0 (fun _ => true) held n 35 [c16] = some y6 := hg 6 _ rfl
      obtain ⟨k0, f0, _⟩ := DataW.trod_int Try.underlying3 e0
      obtain ⟨k3, f3, _⟩ := DataW.trod_int Try.underlying3 e3
      obtain ⟨k4, f4, _⟩ := DataW.trod_int Try.underlying3 e4
      obtain ⟨a, f1, _⟩ := open_typeV e1 rfl (light_field (j := 1) Try.underlying37 hL rfl rfl)
      obtain ⟨b, f2, _⟩ := open_typeV e2 rfl (light_field (j := 2) Try.underlying37 hL rfl rfl)
      obtain ⟨v, f5⟩ := open_valV e5 rfl (light_field (j := 5) Try.underlying37 hL rfl rfl)
      obtain ⟨dv, l, f6, hl⟩ := open_tlist14 e6 (light_field (j := 6) Try.underlying37 hL rfl rfl)
      simp only [cellsTy, cellsVa, List.cons.injEq, and_true] at f0 f1 f2 f3 f4 f5 f6
      obtain ⟨rfl, rfl, rfl, rfl, rfl⟩ := f1
      obtain ⟨rfl, rfl, rfl, rfl, rfl⟩ := f2
      obtain ⟨rfl, rfl, rfl⟩ := f5
      subst f0 f3 f4 f6
      exact ⟨⟨k0, a, b, k3, k4, v, c16, l⟩, rfl, hl⟩
theorem open_ops14 {fuel : Nat} {cs : List Value} {x : DataW H × List MemPlace} (h : DataW.trod enc Try.prog w 0 (fun _ => true) held fuel 22 cs = some x) (hL : Light Try.prog 22 x.1) : ∃ v xs, cs = [v] ∧ Ops14 w v xs := by
  obtain ⟨v, l, rfl, hs, hr⟩ := open_sl (β := Op14) Try.underlying22 cells_op14 (by decide) (fun q cs => cs = cellsOp q ∧ Types w q.dv q.data) (fun z cs h => by rw [h.1]; rfl) open_op14 h hL
  refine ⟨v, l, rfl, hs.imp (fun b o i _ hi ⟨es, ⟨he, _⟩, hc⟩ => ?_), fun q hq => (hr q hq).elim (fun _ h => h.2)⟩
  subst he
  exact ⟨hc 0 _ rfl, hc 1 _ rfl, hc 2 _ rfl, hc 3 _ rfl, hc 4 _ rfl, hc 5 _ rfl, hc 6 _ rfl, hc 7 _ rfl, hc 8 _ rfl, hc 9 _ rfl, hc 10 _ rfl, hc 11 _ rfl, hc 12 _ rfl, hc 13 _ rfl, hc 14 _ rfl, hc 15 _ rfl, hc 16 _ rfl⟩
end
set_option maxRecDepth 100000 in
theorem arg_ops14 {H : Type} {enc : TypeId × Value → H} {W : World} {base : Nat} {v : Value} {d : DataW H} {p : List MemPlace} (hv : Value.okWide Try.prog W .any base 22 v) (h : DataW.Trod enc Try.prog W 0 (fun _ => true) true 22 v d p)
    (hL : Light Try.prog 22 d) : ∃ xs, Ops14 W v xs ∧ xs.length ≤ 140737488351232 := by
  obtain ⟨a, l, c, rfl⟩ := okWide_slice Try.underlying22 hv
  obtain ⟨fuel, hf⟩ := h
  have hf' : DataW.trod enc Try.prog W 0 (fun _ => true) true fuel 22 [.slice a l c] = some (d, p) := by simpa [Value.cells] using hf
  obtain ⟨v', xs, e, hx⟩ := open_ops14 hf' hL
  simp only [List.cons.injEq, and_true] at e
  subst e
  have h2 := slice_len Try.underlying22 hf' hL
  have hb : Try.prog.bytesOf 37 = 168 := by kernel_rfl
  obtain ⟨ao, cap, e, _⟩ := id hx.1
  injection e with _ e2 _
  subst e2
  rw [hb] at h2
  unfold reachBytes at h2
  exact ⟨xs, hx, by omega⟩
set_option maxRecDepth 100000 in
theorem arg_val14 {H : Type} {enc : TypeId × Value → H} {W : World} {base : Nat} {v : Value} {d : DataW H} {p : List MemPlace} (hv : Value.okWide Try.prog W .any base 34 v) (h : DataW.Trod enc Try.prog W 0 (fun _ => true) true 34 v d p)
    (hL : Light Try.prog 34 d) : ∃ t : ValV, v = valVa t := by
  obtain ⟨cs, rfl, hsz⟩ := okWide_struct Try.underlying34 hv
  rw [cells_val14] at hsz
  obtain ⟨fuel, hf⟩ := h
  obtain ⟨i, hi⟩ := open_valV (cs := cs.toList) (by simpa [Value.cells] using hf) (by simpa using hsz) hL
  exact ⟨i, by rw [← Array.toArray_toList (xs := cs), hi]; rfl⟩
end Go.Proofs.Ytebeoganblcblaa
