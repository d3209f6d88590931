/- An argument that is a list of maps, opened. No condition but the form's own reach. -/
import Derived.Test.YtadgbkjjeigpjaaMapV
import Derived.Test.YtadgbkjjeigpjaaKndKa
namespace Go.Proofs.Ytadgbkjjeigpjaa
open Go.ChangeShapes Go.WideShapes Go.ChangeAt Go.RowKit Go.Deep
set_option linter.unusedVariables false
set_option linter.unusedSimpArgs false

theorem cells_frame : Try.prog.cellsOf 97 = 3 := by kernel_rfl
theorem cells_map : Try.prog.cellsOf 99 = 4 := by kernel_rfl
section
variable {H : Type} {enc : TypeId × Value → H} {w : World} {held : Bool}
theorem open_tlist {fuel : Nat} {cs : List Value} {x : DataW H × List MemPlace} (h : DataW.trod enc Try.prog w 0 (fun _ => true) held fuel 52 cs = some x) (hL : Light Try.prog 52 x.1) : ∃ v l, cs = [v] ∧ Types w v l := by
  obtain ⟨v, l, rfl, hs, hr⟩ := open_sl (β := TypeV) Try.underlying52 cells_type (by decide) (fun f cs => cs = cellsTy f ∧ TypeR f) (fun z cs h => by rw [h.1]; rfl) open_typeV h hL
  refine ⟨v, l, rfl, hs.imp (fun b o i _ hi ⟨es, ⟨he, _⟩, hc⟩ => ?_)⟩
  subst he
  exact ⟨hc 0 _ rfl, hc 1 _ rfl, hc 2 _ rfl, hc 3 _ rfl, hc 4 _ rfl⟩
set_option maxRecDepth 100000 in
theorem open_frameV {fuel : Nat} {cs : List Value} {x : DataW H × List MemPlace} (h : DataW.trod enc Try.prog w 0 (fun _ => true) held fuel 97 cs = some x) (hcs : cs.length = 3) (hL : Light Try.prog 97 x.1) :
    ∃ lv sv l s b, cs = [lv, sv, .bool b] ∧ Types w lv l ∧ Types w sv s := by
  have F := fun j f hj => open_field (j := j) (f := f) Try.underlying97 (by kernel_rfl) h hcs hL hj
  obtain ⟨v0, n0, y0, d0, t0, l0⟩ := F 0 _ rfl
  obtain ⟨v1, n1, y1, d1, t1, l1⟩ := F 1 _ rfl
  obtain ⟨v2, n2, y2, d2, t2, l2⟩ := F 2 _ rfl
  obtain ⟨v0', a, e0, k0⟩ := open_tlist t0 l0
  obtain ⟨v1', b, e1, k1⟩ := open_tlist t1 l1
  obtain ⟨f, e2, _⟩ := DataW.trod_bool Try.underlying4 t2
  simp only [List.cons.injEq, and_true] at e0 e1 e2
  subst e0 e1 e2
  refine ⟨v0, v1, a, b, f, ?_, k0, k1⟩
  match cs, hcs with
  | [c0, c1, c2], _ =>
    simp only [List.getElem?_cons_zero, List.getElem?_cons_succ, Option.some.injEq] at d0 d1 d2
    rw [d0, d1, d2]
set_option maxRecDepth 100000 in
theorem open_mapV {fuel : Nat} {cs : List Value} {x : DataW H × List MemPlace} (h : DataW.trod enc Try.prog w 0 (fun _ => true) held fuel 99 cs = some x) (hcs : cs.length = 4) (hL : Light Try.prog 99 x.1) :
    ∃ q : MapX, cs = cellsMp q ∧ Types w q.2.1 q.1.locals ∧ Types w q.2.2 q.1.stack := by
  obtain ⟨xs, n, _, rfl, _, hxl, hg⟩ := DataW.trod_struct Try.underlying99 h
  have hs2 : xs.length = 2 := hxl
  match xs, hs2 with
  | [y0, y1], _ =>
    match cs, hcs with
    | [c0, c1, c2, c3], _ =>
      have g0 := hg 0 _ rfl
      have g1 := hg 1 _ rfl
      have e0 : DataW.trod enc Try.prog w 0 (fun _ => true) held n 3 [c0] = some y0 := g0
      have e1 : DataW.trod enc Try.prog w 0 (fun _ => true) held n 97 [c1, c2, c3] = some y1 := g1
      obtain ⟨k0, f0, _, _⟩ := DataW.trod_int Try.underlying3 e0
      have L1 : Light Try.prog 97 y1.1 := light_field (j := 1) Try.underlying99 hL rfl rfl
      obtain ⟨lv, sv, l, s, b, e2, h1, h2⟩ := open_frameV e1 rfl L1
      simp only [List.cons.injEq, and_true] at f0 e2
      obtain ⟨rfl, rfl, rfl⟩ := e2
      subst f0
      exact ⟨(⟨k0, l, s, b⟩, c1, c2), rfl, h1, h2⟩
theorem open_maps {fuel : Nat} {cs : List Value} {x : DataW H × List MemPlace} (h : DataW.trod enc Try.prog w 0 (fun _ => true) held fuel 57 cs = some x) (hL : Light Try.prog 57 x.1) : ∃ v xs, cs = [v] ∧ MapsX w v xs := by
  obtain ⟨v, l, rfl, hs, hr⟩ := open_sl (β := MapX) Try.underlying57 cells_map (by decide) (fun q cs => cs = cellsMp q ∧ Types w q.2.1 q.1.locals ∧ Types w q.2.2 q.1.stack) (fun z cs h => by rw [h.1]; rfl) open_mapV h hL
  refine ⟨v, l, rfl, hs.imp (fun b o i _ hi ⟨es, ⟨he, _⟩, hc⟩ => ?_), fun q hq => (hr q hq).elim (fun _ h => h.2)⟩
  subst he
  exact ⟨hc 0 _ rfl, hc 1 _ rfl, hc 2 _ rfl, hc 3 _ rfl⟩
end
set_option maxRecDepth 100000 in
theorem arg_maps {H : Type} {enc : TypeId × Value → H} {W : World} {base : Nat} {v : Value} {d : DataW H} {p : List MemPlace} (hv : Value.okWide Try.prog W .any base 57 v) (h : DataW.Trod enc Try.prog W 0 (fun _ => true) true 57 v d p)
    (hL : Light Try.prog 57 d) : ∃ xs, MapsX W v xs ∧ xs.length ≤ 140737488351232 := by
  obtain ⟨a, l, c, rfl⟩ := okWide_slice Try.underlying57 hv
  obtain ⟨fuel, hf⟩ := h
  have hf' : DataW.trod enc Try.prog W 0 (fun _ => true) true fuel 57 [.slice a l c] = some (d, p) := by simpa [Value.cells] using hf
  obtain ⟨v', xs, e, hx⟩ := open_maps hf' hL
  simp only [List.cons.injEq, and_true] at e
  subst e
  have h2 := slice_len Try.underlying57 hf' hL
  have hb : Try.prog.bytesOf 99 = 64 := by kernel_rfl
  obtain ⟨ao, cap, e, _⟩ := id hx.1
  injection e with _ e2 _
  subst e2
  rw [hb] at h2
  unfold reachBytes at h2
  exact ⟨xs, hx, by omega⟩
end Go.Proofs.Ytadgbkjjeigpjaa
