/- An argument that is a type, opened. No condition but the form's own reach. -/
import Derived.Test.YtebeoganblcblaaClsD
import Derived.Test.YtebeoganblcblaaKndD
namespace Go.Proofs.Ytebeoganblcblaa
open Go.ChangeShapes Go.WideShapes Go.ChangeAt Go.RowKit Go.Deep
set_option linter.unusedVariables false
set_option linter.unusedSimpArgs false

theorem cells_type : Try.prog.cellsOf 32 = 5 := by kernel_rfl
section
variable {H : Type} {enc : TypeId × Value → H} {w : World} {held : Bool}
theorem slice_len {t e : TypeId} (ht : Try.prog.underlying t = some (.slice e)) {fuel : Nat} {ao : Option Addr} {n cap : Nat} {x : DataW H × List MemPlace} (h : DataW.trod enc Try.prog w 0 (fun _ => true) held fuel t [.slice ao n cap] = some x) (hL : Light Try.prog t x.1) :
    n * Try.prog.bytesOf e ≤ reachBytes := by
  rcases Go.Deep.open_slice ht h with ⟨h1, _⟩ | ⟨a, len, cap2, m, n2, D, Pl, h1, _, hl, hm, hmm, rfl, hi⟩
  · simp only [List.cons.injEq, Value.slice.injEq, and_true] at h1
    obtain ⟨_, rfl, _⟩ := h1
    rw [Nat.zero_mul]; exact Nat.zero_le _
  · simp only [List.cons.injEq, Value.slice.injEq, and_true] at h1
    obtain ⟨_, rfl, _⟩ := h1
    have h2 := light_len ht hL
    simp only [List.length_map, List.length_range] at h2
    exact Nat.le_trans (Nat.mul_le_mul_right _ (Nat.le_add_right _ _)) h2
theorem light_string {t : TypeId} {s : ByteArray} (h : Light Try.prog t (.lit (.string s.data.toList) : DataW H)) : s.size ≤ 140737488351232 := by
  have := h s.data.toList.length (by simp [DataW.weights])
  unfold reachBytes at this
  rw [Lib.size_eq]
  omega
theorem str_field {T : TypeId} {fuel : Nat} {v : Value} {y : DataW H × List MemPlace} (hT : Try.prog.underlying T = some .string) (t : DataW.trod enc Try.prog w 0 (fun _ => true) held fuel T [v] = some y) (hL : Light Try.prog T y.1) : ∃ s, v = .string s ∧ s.size ≤ 140737488351232 := by
  obtain ⟨s, e, ey, wf⟩ := DataW.trod_string hT t
  simp only [List.cons.injEq, and_true] at e
  subst ey
  exact ⟨s, e, light_string hL⟩
set_option maxRecDepth 100000 in
theorem open_typeV {fuel : Nat} {cs : List Value} {x : DataW H × List MemPlace} (h : DataW.trod enc Try.prog w 0 (fun _ => true) held fuel 32 cs = some x) (hcs : cs.length = 5) (hL : Light Try.prog 32 x.1) :
    ∃ f : TypeV, cs = cellsTy f ∧ TypeR f := by
  have F := fun j f hj => open_field (j := j) (f := f) Try.underlying32 (by kernel_rfl) h hcs hL hj
  obtain ⟨v0, n0, y0, d0, t0, _⟩ := F 0 _ rfl
  obtain ⟨v1, n1, y1, d1, t1, l1⟩ := F 1 _ rfl
  obtain ⟨v2, n2, y2, d2, t2, _⟩ := F 2 _ rfl
  obtain ⟨v3, n3, y3, d3, t3, _⟩ := F 3 _ rfl
  obtain ⟨v4, n4, y4, d4, t4, _⟩ := F 4 _ rfl
  obtain ⟨k0, rfl, r0⟩ := int_field Try.underlying3 t0
  obtain ⟨k1, rfl, r1⟩ := str_field Try.underlying9 t1 l1
  obtain ⟨k2, rfl, r2⟩ := int_field Try.underlying3 t2
  obtain ⟨k3, rfl, r3⟩ := int_field Try.underlying3 t3
  obtain ⟨k4, rfl, r4⟩ := int_field Try.underlying3 t4
  unfold I64 at r0 r2 r3 r4
  refine ⟨⟨k0, k1, k2, k3, k4⟩, ?_, ?_⟩
  · match cs, hcs with
    | [c0, c1, c2, c3, c4], _ =>
      simp only [List.getElem?_cons_zero, List.getElem?_cons_succ, Option.some.injEq] at d0 d1 d2 d3 d4
      rw [d0, d1, d2, d3, d4]
      rfl
  · unfold TypeR
    simp only
    omega
end
set_option maxRecDepth 100000 in
theorem arg_type8 {H : Type} {enc : TypeId × Value → H} {W : World} {base : Nat} {v : Value} {d : DataW H} {p : List MemPlace} (hv : Value.okWide Try.prog W .any base 32 v) (h : DataW.Trod enc Try.prog W 0 (fun _ => true) true 32 v d p)
    (hL : Light Try.prog 32 d) : ∃ t : TypeV, v = valT t ∧ TypeR t := by
  obtain ⟨cs, rfl, hsz⟩ := okWide_struct Try.underlying32 hv
  rw [cells_type] at hsz
  obtain ⟨fuel, hf⟩ := h
  obtain ⟨i, hi, hr⟩ := open_typeV (cs := cs.toList) (by simpa [Value.cells] using hf) (by simpa using hsz) hL
  exact ⟨i, by rw [← Array.toArray_toList (xs := cs), hi]; rfl, hr⟩
end Go.Proofs.Ytebeoganblcblaa
