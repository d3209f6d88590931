/- Arguments opened: bytes, a method, instructions; with the bulk's bound. No condition but the form's own reach. -/
import Derived.Test.YtngoajhnnlnphaaClsD
import Derived.Test.YtngoajhnnlnphaaFloA
namespace Go.Proofs.Ytngoajhnnlnphaa
open Go.ChangeShapes Go.WideShapes Go.ChangeAt Go.RowKit Go.Deep
set_option linter.unusedVariables false
set_option linter.unusedSimpArgs false

theorem bulk_one {H : Type} (d : DataW H) : 1 ≤ Rows.uptoBulk d := by
  cases d with
  | lit l => cases l <;> simp [Rows.uptoBulk]
  | _ => simp [Rows.uptoBulk]
theorem bulk_len {H : Type} : ∀ l : List (DataW H), l.length ≤ Rows.uptoBulkAll l
  | [] => Nat.zero_le _
  | d :: r => by
    have h1 := bulk_one d
    have h2 := bulk_len r
    simp only [Rows.uptoBulkAll, List.length_cons]
    omega
theorem cells_instr : Try.prog.cellsOf 39 = 5 := by kernel_rfl

section
variable {H : Type} {enc : TypeId × Value → H} {w : World} {held : Bool}
theorem slice_small {t e : TypeId} (ht : Try.prog.underlying t = some (.slice e)) {fuel : Nat} {ao : Option Addr} {n cap : Nat} {x : DataW H × List MemPlace} (h : DataW.trod enc Try.prog w 0 (fun _ => true) held fuel t [.slice ao n cap] = some x) (hL : Light Try.prog t x.1) :
    n ≤ Rows.uptoBulk x.1 ∧ n * Try.prog.bytesOf e ≤ reachBytes := by
  rcases Go.Deep.open_slice ht h with ⟨h1, _⟩ | ⟨a, len, cap2, m, n2, D, Pl, h1, _, hl, hm, hmm, rfl, hi⟩
  · simp only [List.cons.injEq, Value.slice.injEq, and_true] at h1
    obtain ⟨_, rfl, _⟩ := h1
    exact ⟨Nat.zero_le _, by rw [Nat.zero_mul]; exact Nat.zero_le _⟩
  · simp only [List.cons.injEq, Value.slice.injEq, and_true] at h1
    obtain ⟨_, rfl, _⟩ := h1
    have h2 := light_len ht hL
    simp only [List.length_map, List.length_range] at h2
    refine ⟨?_, Nat.le_trans (Nat.mul_le_mul_right _ (Nat.le_add_right _ _)) h2⟩
    simp only [Rows.uptoBulk]
    have h3 := bulk_len ((List.range n).map D)
    rw [List.length_map, List.length_range] at h3
    omega

set_option maxRecDepth 100000 in
theorem open_instrV {fuel : Nat} {cs : List Value} {x : DataW H × List MemPlace} (h : DataW.trod enc Try.prog w 0 (fun _ => true) held fuel 39 cs = some x) (hcs : cs.length = 5) (hL : Light Try.prog 39 x.1) :
    ∃ f : InstrV, cs = cellsI f := by
  have F := fun j f hj => open_field (j := j) (f := f) Try.underlying39 (by kernel_rfl) h hcs hL hj
  obtain ⟨v0, n0, y0, d0, t0, _⟩ := F 0 _ rfl
  obtain ⟨v1, n1, y1, d1, t1, _⟩ := F 1 _ rfl
  obtain ⟨v2, n2, y2, d2, t2, _⟩ := F 2 _ rfl
  obtain ⟨v3, n3, y3, d3, t3, _⟩ := F 3 _ rfl
  obtain ⟨v4, n4, y4, d4, t4, _⟩ := F 4 _ rfl
  obtain ⟨k0, rfl, r0⟩ := int_field Try.underlying3 t0
  obtain ⟨k1, rfl, r1⟩ := int_field Try.underlying3 t1
  obtain ⟨k2, rfl, r2⟩ := int_field Try.underlying3 t2
  obtain ⟨k3, rfl, r3⟩ := int_field Try.underlying3 t3
  obtain ⟨k4, rfl, r4⟩ := int_field Try.underlying3 t4
  refine ⟨⟨k0, k1, k2, k3, k4⟩, ?_⟩
  match cs, hcs with
  | [c0, c1, c2, c3, c4], _ =>
    simp only [List.getElem?_cons_zero, List.getElem?_cons_succ, Option.some.injEq] at d0 d1 d2 d3 d4
    rw [d0, d1, d2, d3, d4]
    rfl
theorem open_instrs {fuel : Nat} {cs : List Value} {x : DataW H × List MemPlace} (h : DataW.trod enc Try.prog w 0 (fun _ => true) held fuel 23 cs = some x) (hL : Light Try.prog 23 x.1) : ∃ v l, cs = [v] ∧ Instrs w v l := by
  obtain ⟨v, l, rfl, hs, hr⟩ := open_sl (β := InstrV) Try.underlying23 cells_instr (by decide) (fun f cs => cs = cellsI f) (fun z cs h => by rw [h]; rfl) open_instrV h hL
  refine ⟨v, l, rfl, hs.imp (fun b o i _ hi ⟨es, he, hc⟩ => ?_)⟩
  subst he
  exact ⟨hc 0 _ rfl, hc 1 _ rfl, hc 2 _ rfl, hc 3 _ rfl, hc 4 _ rfl⟩
end

set_option maxRecDepth 100000 in
theorem arg_bytesB {H : Type} {enc : TypeId × Value → H} {W : World} {base : Nat} {v : Value} {d : DataW H} {p : List MemPlace} (hv : Value.okWide Try.prog W .any base 22 v) (h : DataW.Trod enc Try.prog W 0 (fun _ => true) true 22 v d p)
    (hL : Light Try.prog 22 d) (hk : Rows.uptoBulk d ≤ 1048576) : ∃ zs, Bytes W v zs ∧ zs.length ≤ 1048576 := by
  obtain ⟨zs, hb, _⟩ := arg_bytes hv h hL
  obtain ⟨ao, cap, rfl, _⟩ := id hb
  obtain ⟨fuel, hf⟩ := h
  have := (slice_small (x := (d, p)) Try.underlying22 (by simpa [Value.cells] using hf) hL).1
  simp only at this
  exact ⟨zs, hb, by omega⟩

set_option maxRecDepth 100000 in
theorem arg_methodB {H : Type} {enc : TypeId × Value → H} {W : World} {base : Nat} {v : Value} {d : DataW H} {p : List MemPlace} (hv : Value.okWide Try.prog W .any base 34 v) (h : DataW.Trod enc Try.prog W 0 (fun _ => true) true 34 v d p)
    (hL : Light Try.prog 34 d) (hk : Rows.uptoBulk d ≤ 1048576) : ∃ (m : MethodV) (vc vt vm : Value), v = .agg #[.int .i64 m.flags, .int .i64 m.name, .int .i64 m.desc, .int .i64 m.stack, .int .i64 m.locals, vc, vt, vm] ∧ Inside W m vc vt vm ∧ m.code.length ≤ 1048576 ∧ m.traps.length ≤ 1048576 := by
  obtain ⟨cs, rfl, hsz⟩ := okWide_struct Try.underlying34 hv
  rw [cells_method] at hsz
  obtain ⟨fuel, hf⟩ := h
  have hf' : DataW.trod enc Try.prog W 0 (fun _ => true) true fuel 34 cs.toList = some (d, p) := by simpa [Value.cells] using hf
  obtain ⟨⟨m, vc, vt, vm⟩, hcs, _, hin, _⟩ := open_methodV hf' (by simpa using hsz) hL
  simp only at hcs hin
  obtain ⟨v5, n5, y5, d5, t5, l5, b5⟩ := field_bulk (j := 5) hf' (by simpa using hsz) hL Try.underlying34 (by kernel_rfl) (by kernel_rfl) rfl
  obtain ⟨v6, n6, y6, d6, t6, l6, b6⟩ := field_bulk (j := 6) hf' (by simpa using hsz) hL Try.underlying34 (by kernel_rfl) (by kernel_rfl) rfl
  rw [hcs] at d5 d6
  simp only [List.getElem?_cons_zero, List.getElem?_cons_succ, Option.some.injEq] at d5 d6
  subst d5 d6
  obtain ⟨ac, cc, e5, _⟩ := id hin.1
  obtain ⟨at_, ct, e6, _⟩ := id hin.2.1.1
  rw [e5] at t5
  rw [e6] at t6
  have h5 := (slice_small Try.underlying22 t5 l5).1
  have h6 := (slice_small Try.underlying32 t6 l6).1
  refine ⟨m, vc, vt, vm, by rw [← Array.toArray_toList (xs := cs), hcs], hin, ?_, ?_⟩
  · exact Nat.le_trans h5 (Nat.le_trans b5 hk)
  · exact Nat.le_trans h6 (Nat.le_trans b6 hk)

set_option maxRecDepth 100000 in
theorem arg_instrs {H : Type} {enc : TypeId × Value → H} {W : World} {base : Nat} {v : Value} {d : DataW H} {p : List MemPlace} (hv : Value.okWide Try.prog W .any base 23 v) (h : DataW.Trod enc Try.prog W 0 (fun _ => true) true 23 v d p)
    (hL : Light Try.prog 23 d) : ∃ l, Instrs W v l ∧ l.length ≤ 140737488355328 := by
  obtain ⟨a, l, c, rfl⟩ := okWide_slice Try.underlying23 hv
  obtain ⟨fuel, hf⟩ := h
  have hf' : DataW.trod enc Try.prog W 0 (fun _ => true) true fuel 23 [.slice a l c] = some (d, p) := by simpa [Value.cells] using hf
  obtain ⟨v', zs, e, hi⟩ := open_instrs hf' hL
  simp only [List.cons.injEq, and_true] at e
  subst e
  have h2 := (slice_small Try.underlying23 hf' hL).2
  have hb : Try.prog.bytesOf 39 = 40 := by kernel_rfl
  obtain ⟨ao, cap, e, _⟩ := id hi
  injection e with _ e2 _
  subst e2
  rw [hb] at h2
  unfold reachBytes at h2
  exact ⟨zs, hi, by omega⟩
set_option maxRecDepth 100000 in
theorem arg_instr7 {H : Type} {enc : TypeId × Value → H} {W : World} {base : Nat} {v : Value} {d : DataW H} {p : List MemPlace} (hv : Value.okWide Try.prog W .any base 39 v) (h : DataW.Trod enc Try.prog W 0 (fun _ => true) true 39 v d p)
    (hL : Light Try.prog 39 d) : ∃ i : InstrV, v = valI i := by
  obtain ⟨cs, rfl, hsz⟩ := okWide_struct Try.underlying39 hv
  rw [cells_instr] at hsz
  obtain ⟨fuel, hf⟩ := h
  obtain ⟨i, hi⟩ := open_instrV (cs := cs.toList) (by simpa [Value.cells] using hf) (by simpa using hsz) hL
  exact ⟨i, by rw [← Array.toArray_toList (xs := cs), hi]; rfl⟩
end Go.Proofs.Ytngoajhnnlnphaa
