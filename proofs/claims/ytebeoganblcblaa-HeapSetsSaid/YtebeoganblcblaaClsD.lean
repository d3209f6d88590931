/- An argument that is a class, opened. No condition but the form's own reach. -/
import Derived.Test.YtebeoganblcblaaArg
import Derived.Test.YtebeoganblcblaaPolL
import Derived.Test.YtebeoganblcblaaClsB
namespace Go.Proofs.Ytebeoganblcblaa
open Go.ChangeShapes Go.WideShapes Go.ChangeAt Go.RowKit Go.Deep
set_option linter.unusedVariables false
set_option linter.unusedSimpArgs false

section
variable {H : Type} {enc : TypeId × Value → H} {w : World} {held : Bool}
theorem int_field {T : TypeId} {fuel : Nat} {v : Value} {y : DataW H × List MemPlace} (hT : Try.prog.underlying T = some (.int .i64)) (t : DataW.trod enc Try.prog w 0 (fun _ => true) held fuel T [v] = some y) : ∃ n, v = .int .i64 n ∧ I64 n := by
  obtain ⟨k, e, _, wf⟩ := DataW.trod_int hT t
  simp only [List.cons.injEq, and_true] at e
  exact ⟨k, e, bounds_i64 wf⟩

/-- A slice of elements of k cells, each opened. -/
theorem open_sl {β : Type} [Inhabited β] {t e : TypeId} {k : Nat} (ht : Try.prog.underlying t = some (.slice e)) (hk : Try.prog.cellsOf e = k) (hk0 : 0 < k) (R : β → List Value → Prop) (hne : ∀ z cs, R z cs → cs.length = k)
    (hopen : ∀ {fuel : Nat} {cs : List Value} {x : DataW H × List MemPlace}, DataW.trod enc Try.prog w 0 (fun _ => true) held fuel e cs = some x → cs.length = k → Light Try.prog e x.1 → ∃ z, R z cs)
    {fuel : Nat} {cs : List Value} {x : DataW H × List MemPlace} (h : DataW.trod enc Try.prog w 0 (fun _ => true) held fuel t cs = some x) (hL : Light Try.prog t x.1) :
    ∃ (v : Value) (zs : List β), cs = [v] ∧ Sl v zs.length (fun b o i => ∃ es, R (zs.getD i default) es ∧ ∀ d u, es[d]? = some u → w.cell? ⟨b, o + i * k + d, none⟩ = some u) ∧ (∀ z ∈ zs, ∃ es, R z es) := by
  rcases Go.Deep.open_slice ht h with ⟨rfl, _⟩ | ⟨a, len, cap, m, n, D, Pl, rfl, _, hl, hm, hmm, rfl, hi⟩
  · exact ⟨_, [], rfl, Sl.nil _, fun z hz => by cases hz⟩
  · simp only [if_true] at hmm
    subst hmm
    have hall : ∀ i, i < len → ∃ z : β, ∃ es, R z es ∧ w.cells? 0 (a.add (i * k)) k = some es := by
      intro i hil
      obtain ⟨es, hcs', htr⟩ := hi i (by omega)
      rw [hk] at hcs'
      obtain ⟨_, hlen, _⟩ := World.cells?_some hcs'
      have hLi : Light Try.prog e (D i) := light_elem ht hL (List.mem_map.2 ⟨i, List.mem_range.2 hil, rfl⟩)
      obtain ⟨z, hz⟩ := hopen htr hlen hLi
      exact ⟨z, es, hz, hcs'⟩
    obtain ⟨f, hf⟩ := choose_lt hall
    have hget : ∀ i, i < len → ((List.range len).map f).getD i default = f i := fun i hi => by simp [List.getD, hi]
    refine ⟨_, (List.range len).map f, rfl, ⟨some a, _, by rw [List.length_map, List.length_range], by rw [List.length_map, List.length_range]; exact hl, by unfold maxLen at hm; omega, (fun e => by cases e), fun x hx h0 => ?_⟩, ?_⟩
    · cases hx
      rw [List.length_map, List.length_range] at h0
      have hcell : ∀ i, i < len → ∃ es, R (f i) es ∧ ∀ d u, es[d]? = some u → w.cell? (a.add (i * k + d)) = some u := by
        intro i hi
        obtain ⟨es, hz, hcs'⟩ := hf i hi
        refine ⟨es, hz, fun d u hu => ?_⟩
        obtain ⟨_, hlen, hat⟩ := World.cells?_some hcs'
        have hd : d < k := by
          have := (List.getElem?_eq_some_iff.1 hu).1
          omega
        have := hat d hd
        rw [Go.Deep.add_add] at this
        rw [this, hu]
      obtain ⟨es0, hz0, hc0⟩ := hcell 0 h0
      have hp := plain_of_cell (x := a) (u := es0[0]'(by rw [hne _ _ hz0]; exact hk0)) (by have := hc0 0 _ (List.getElem?_eq_getElem (by rw [hne _ _ hz0]; exact hk0)); simpa using this)
      refine ⟨a.block, a.off, hp, fun i hi => ?_⟩
      rw [List.length_map, List.length_range] at hi
      rw [hget i hi]
      obtain ⟨es, hz, hc⟩ := hcell i hi
      refine ⟨es, hz, fun d u hu => ?_⟩
      have := hc d u hu
      rw [hp, add_lit] at this
      rw [Nat.add_assoc]
      exact this
    · intro z hz
      obtain ⟨i, hi2, rfl⟩ := List.mem_map.1 hz
      obtain ⟨es, h1, _⟩ := hf i (List.mem_range.1 hi2)
      exact ⟨es, h1⟩

/-- The lists in which a class's methods lead are no longer than the reach. -/
def Short (ms : List MethodV) : Prop := ∀ m ∈ ms, m.code.length ≤ 140737488351232 ∧ m.maps.length ≤ 140737488351232
/-- One field's reading, and its datum among the parts. -/
theorem field_bulk {t : TypeId} {fuel : Nat} {cs : List Value} {x : DataW H × List MemPlace} (h : DataW.trod enc Try.prog w 0 (fun _ => true) held fuel t cs = some x) {fs : Array Field} {k : Nat} (hcs : cs.length = k) (hL : Light Try.prog t x.1) (hf : Try.prog.underlying t = some (.struct fs)) (hone : oneCellFields Try.prog fs = true) (hfs : fs.size = k) {j : Nat} {f : Field} (hj : fs[j]? = some f) :
    ∃ v n y, cs[j]? = some v ∧ DataW.trod enc Try.prog w 0 (fun _ => true) held n f.type [v] = some y ∧ Light Try.prog f.type y.1 ∧ Rows.uptoBulk y.1 ≤ Rows.uptoBulk x.1 := by
  obtain ⟨xs, n, _, rfl, _, hxl, hg⟩ := DataW.trod_struct hf h
  obtain ⟨ho, hk⟩ := hone_of hone j f hj
  have hjs : j < fs.size := (Array.getElem?_eq_some_iff.1 hj).1
  have hjc : j < cs.length := by omega
  have h1 := hg j f hj
  rw [ho, hk, List.drop_eq_getElem_cons hjc] at h1
  have hx : xs[j]? = some (xs[j]'(by omega)) := List.getElem?_eq_getElem (by omega)
  refine ⟨cs[j], n, xs[j]'(by omega), List.getElem?_eq_getElem hjc, h1.trans hx, light_field hf hL hj (by simp [hx]), ?_⟩
  simp only [Rows.uptoBulk]
  have := bulk_mem (l := xs.map (·.1)) (d := (xs[j]'(by omega)).1) (List.mem_map.2 ⟨_, List.getElem_mem _, rfl⟩)
  omega
end
end Go.Proofs.Ytebeoganblcblaa
