/- From the reading of an argument to its cells: bytes, and slices of structs of one-cell fields, with the form's own reach. No condition. -/
import Derived.Test.YtebeoganblcblaaRows
import Derived.Test.YtebeoganblcblaaSep
import Derived.ProofKit
import Derived.SizedLaws
import Derived.Deep.Slices
import Derived.Deep.Fields
namespace Go.Proofs.Ytebeoganblcblaa
open Go.ChangeShapes Go.WideShapes Go.ChangeAt Go.RowKit Go.Deep

section
variable {H : Type} {enc : TypeId × Value → H} {P : Program} {w : World} {held : Bool}

/-- All that a datum holds keeps to the reach. -/
def Light (P : Program) (t : TypeId) (d : DataW H) : Prop := ∀ n ∈ d.weights P t, n ≤ reachBytes

theorem light_arg {ts : List TypeId} {ds : List (DataW H)} (h : (DataW.weightsEach P ts ds).all (· ≤ reachBytes) = true) {j : Nat} {t : TypeId} {d : DataW H} (ht : ts[j]? = some t) (hd : ds[j]? = some d) : Light P t d :=
  fun n hn => of_decide_eq_true (List.all_eq_true.1 h n (DataW.weights_mem_each ht hd n hn))
theorem weights_in_all {e : TypeId} : ∀ {l : List (DataW H)} {d : DataW H}, d ∈ l → ∀ n ∈ d.weights P e, n ∈ DataW.weightsAll P e l := by
  intro l
  induction l with
  | nil => intro d hd; cases hd
  | cons a r ih =>
    intro d hd n hn
    unfold DataW.weightsAll
    rcases List.mem_cons.1 hd with rfl | hr
    · exact List.mem_append_left _ hn
    · exact List.mem_append_right _ (ih hr n hn)
theorem light_elem {t e : TypeId} {elems spare : List (DataW H)} (ht : P.underlying t = some (.slice e)) (h : Light P t (.slice elems spare)) {d : DataW H} (hd : d ∈ elems) : Light P e d :=
  fun n hn => h n (by simp only [DataW.weights, ht]; exact List.mem_cons_of_mem _ (List.mem_append_left _ (weights_in_all hd n hn)))
theorem light_len {t e : TypeId} {elems spare : List (DataW H)} (ht : P.underlying t = some (.slice e)) (h : Light P t (.slice elems spare)) : (elems.length + spare.length) * P.bytesOf e ≤ reachBytes :=
  h _ (by simp only [DataW.weights, ht]; exact List.mem_cons_self)
theorem light_field {t : TypeId} {fs : Array Field} {parts : List (DataW H)} (ht : P.underlying t = some (.struct fs)) (h : Light P t (.agg parts)) {j : Nat} {f : Field} {d : DataW H} (hf : fs[j]? = some f) (hd : parts[j]? = some d) : Light P f.type d :=
  fun n hn => h n (by simp only [DataW.weights, ht]; exact DataW.weights_mem_each (j := j) (by simp [hf]) hd n hn)

/-- A slice of bytes. -/
theorem open_bytes {t e : TypeId} (ht : P.underlying t = some (.slice e)) (he : P.underlying e = some (.int .u8)) (hc : P.cellsOf e = 1) (hb : P.bytesOf e = 1) {fuel : Nat} {cs : List Value} {x : DataW H × List MemPlace}
    (h : DataW.trod enc P w 0 (fun _ => true) held fuel t cs = some x) (hL : Light P t x.1) : ∃ v zs, cs = [v] ∧ Bytes w v zs ∧ zs.length ≤ 140737488351232 := by
  rcases open_ints ht he hc h with ⟨rfl, _⟩ | ⟨a, len, cap, zs, rfl, _, hl, hm, hz, rfl, hcell, hwz⟩
  · exact ⟨_, [], rfl, ⟨none, 0, rfl, Nat.le_refl _, by unfold maxLen; omega, fun _ => rfl, Bytish.nil, fun x hx => by cases hx⟩, by simp⟩
  · refine ⟨_, zs.take len, rfl, Bytes.of_cells hl hm (by simpa using hz) hcell hwz, ?_⟩
    have := light_len ht hL
    rw [hb] at this
    simp only [lits, List.length_map, List.length_take, List.length_drop, reachBytes] at this
    simp only [List.length_take]
    simp at hz
    omega

/-- One field of a struct of one-cell fields. -/
theorem open_field {t : TypeId} {fs : Array Field} (ht : P.underlying t = some (.struct fs)) (hone : oneCellFields P fs = true) {fuel : Nat} {cs : List Value} {x : DataW H × List MemPlace}
    (h : DataW.trod enc P w 0 (fun _ => true) held fuel t cs = some x) (hcs : cs.length = fs.size) (hL : Light P t x.1) {j : Nat} {f : Field} (hf : fs[j]? = some f) :
    ∃ v n y, cs[j]? = some v ∧ DataW.trod enc P w 0 (fun _ => true) held n f.type [v] = some y ∧ Light P f.type y.1 := by
  obtain ⟨xs, n, _, rfl, _, hxl, hg⟩ := DataW.trod_struct ht h
  obtain ⟨ho, hk⟩ := hone_of hone j f hf
  have hj : j < fs.size := (Array.getElem?_eq_some_iff.1 hf).1
  have hjc : j < cs.length := by omega
  have h1 := hg j f hf
  rw [ho, hk, List.drop_eq_getElem_cons hjc] at h1
  have hx : xs[j]? = some (xs[j]'(by omega)) := List.getElem?_eq_getElem (by omega)
  refine ⟨cs[j], n, xs[j]'(by omega), List.getElem?_eq_getElem hjc, h1.trans hx, light_field ht hL hf (by simp [hx])⟩

/-- A slice of structs of one-cell fields: every field of every element. -/
theorem open_elems {t e : TypeId} {fs : Array Field} (ht : P.underlying t = some (.slice e)) (he : P.underlying e = some (.struct fs)) (hone : oneCellFields P fs = true) (hC : P.cellsOf e = fs.size) {fuel : Nat} {cs : List Value} {x : DataW H × List MemPlace}
    (h : DataW.trod enc P w 0 (fun _ => true) held fuel t cs = some x) (hL : Light P t x.1) :
    ∃ ao len cap, cs = [.slice ao len cap] ∧ len ≤ cap ∧ cap ≤ maxLen ∧ (ao = none → cap = 0) ∧ cap * P.bytesOf e ≤ 140737488351232 ∧
      ∀ a, ao = some a → ∀ i, i < len → ∀ j f, fs[j]? = some f → ∃ v n y, w.cell? (a.add (i * fs.size + j)) = some v ∧ DataW.trod enc P w 0 (fun _ => true) held n f.type [v] = some y ∧ Light P f.type y.1 := by
  rcases Go.Deep.open_slice ht h with ⟨rfl, _⟩ | ⟨a, len, cap, m, n, D, Pl, rfl, _, hl, hm, hmm, rfl, hi⟩
  · exact ⟨none, 0, 0, rfl, Nat.le_refl _, by unfold maxLen; omega, fun _ => rfl, by simp, fun a ha => by cases ha⟩
  · simp only [if_true] at hmm
    subst hmm
    refine ⟨some a, len, m, rfl, hl, hm, (fun h => by cases h), ?_, ?_⟩
    · have := light_len ht hL
      simp only [List.length_map, List.length_range, reachBytes] at this
      rwa [show len + (m - len) = m by omega] at this
    · intro a' ha' i hil j f hf
      cases ha'
      obtain ⟨cs', hcs', htr⟩ := hi i (by omega)
      obtain ⟨_, hlen, hat⟩ := World.cells?_some hcs'
      have hLi : Light P e (D i) := light_elem ht hL (List.mem_map.2 ⟨i, List.mem_range.2 hil, rfl⟩)
      obtain ⟨v, n', y, hv, hy, hyl⟩ := open_field he hone htr (by omega) hLi hf
      refine ⟨v, n', y, ?_, hy, hyl⟩
      have hj : j < fs.size := (Array.getElem?_eq_some_iff.1 hf).1
      rw [← hv, ← hat j (by omega), Go.Deep.add_add, hC]
end
end Go.Proofs.Ytebeoganblcblaa
