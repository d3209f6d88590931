/- An argument that is an instruction, opened. No condition but the form's own reach. -/
import Derived.Test.YtcfnikngapngkaaArg
import Derived.Test.YtcfnikngapngkaaOpsK
namespace Go.Proofs.Ytcfnikngapngkaa
open Go.ChangeShapes Go.WideShapes Go.ChangeAt Go.RowKit Go.Deep
set_option linter.unusedVariables false
set_option linter.unusedSimpArgs false

theorem isI64 {x : Int} (h : (Lit.int .i64 x).wf = true) : IsI64 x := by
  have := bounds_i64 h
  unfold IsI64
  omega
theorem int_fieldI {H : Type} {enc : TypeId × Value → H} {w : World} {held : Bool} {T : TypeId} {fuel : Nat} {v : Value} {y : DataW H × List MemPlace} (hT : Try.prog.underlying T = some (.int .i64)) (t : DataW.trod enc Try.prog w 0 (fun _ => true) held fuel T [v] = some y) : ∃ n, v = .int .i64 n ∧ IsI64 n := by
  obtain ⟨k, e, _, wf⟩ := DataW.trod_int hT t
  simp only [List.cons.injEq, and_true] at e
  exact ⟨k, e, isI64 wf⟩
set_option maxRecDepth 100000 in
theorem arg_instr {H : Type} {enc : TypeId × Value → H} {W : World} {base : Nat} {v : Value} {d : DataW H} {p : List MemPlace} (hv : Value.okWide Try.prog W .any base 29 v) (h : DataW.Trod enc Try.prog W 0 (fun _ => true) true 29 v d p)
    (hL : Light Try.prog 29 d) : ∃ i : InstrV, v = valI i ∧ InstrR i := by
  obtain ⟨cs, rfl, hsz⟩ := okWide_struct Try.underlying29 hv
  have hc5 : Try.prog.cellsOf 29 = 5 := by kernel_rfl
  rw [hc5] at hsz
  obtain ⟨fuel, hf⟩ := h
  have hf' : DataW.trod enc Try.prog W 0 (fun _ => true) true fuel 29 cs.toList = some (d, p) := by simpa [Value.cells] using hf
  have F := fun j f hj => open_field (j := j) (f := f) Try.underlying29 (by kernel_rfl) hf' (by simpa using hsz) hL hj
  obtain ⟨v0, n0, y0, d0, t0, _⟩ := F 0 _ rfl
  obtain ⟨v1, n1, y1, d1, t1, _⟩ := F 1 _ rfl
  obtain ⟨v2, n2, y2, d2, t2, _⟩ := F 2 _ rfl
  obtain ⟨v3, n3, y3, d3, t3, _⟩ := F 3 _ rfl
  obtain ⟨v4, n4, y4, d4, t4, _⟩ := F 4 _ rfl
  obtain ⟨k0, rfl, r0⟩ := int_fieldI Try.underlying3 t0
  obtain ⟨k1, rfl, r1⟩ := int_fieldI Try.underlying3 t1
  obtain ⟨k2, rfl, r2⟩ := int_fieldI Try.underlying3 t2
  obtain ⟨k3, rfl, r3⟩ := int_fieldI Try.underlying3 t3
  obtain ⟨k4, rfl, r4⟩ := int_fieldI Try.underlying3 t4
  refine ⟨⟨k0, k1, k2, k3, k4⟩, ?_, r0, r1, r2, r3, r4⟩
  have hcs : cs.toList = [.int .i64 k0, .int .i64 k1, .int .i64 k2, .int .i64 k3, .int .i64 k4] := by
    match hq : cs.toList, (show cs.toList.length = 5 by simpa using hsz) with
    | [c0, c1, c2, c3, c4], _ =>
      rw [hq] at d0 d1 d2 d3 d4
      simp only [List.getElem?_cons_zero, List.getElem?_cons_succ, Option.some.injEq] at d0 d1 d2 d3 d4
      rw [d0, d1, d2, d3, d4]
  rw [← Array.toArray_toList (xs := cs), hcs]
  rfl
end Go.Proofs.Ytcfnikngapngkaa
