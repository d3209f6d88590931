/- An argument that is a list of lists of bytes, opened. No condition but the form's own reach. -/
import Derived.Test.YtfbkmgjgklkjiaaArg
namespace Go.Proofs.Ytfbkmgjgklkjiaa
open Go.ChangeShapes Go.WideShapes Go.ChangeAt Go.RowKit Go.Deep

/-- A slice of slices of bytes: each element's value, and what it reads as. -/
def Lists (w : World) (v : Value) (len : Nat) (f : Nat → Value × List Int) : Prop :=
  ∃ ao cap, v = .slice ao len cap ∧ len ≤ cap ∧ cap ≤ maxLen ∧ (ao = none → len = 0) ∧ ∀ a, ao = some a → ∀ i, i < len → w.cell? (a.add i) = some (f i).1 ∧ Bytes w (f i).1 (f i).2 ∧ (f i).2.length ≤ 140737488351232

set_option maxRecDepth 100000 in
theorem open_lists {H : Type} {enc : TypeId × Value → H} {w : World} {held : Bool} {fuel : Nat} {cs : List Value} {x : DataW H × List MemPlace} (h : DataW.trod enc Try.prog w 0 (fun _ => true) held fuel 39 cs = some x) (hL : Light Try.prog 39 x.1) :
    ∃ v len f, cs = [v] ∧ Lists w v len f := by
  rcases Go.Deep.open_slice1 Try.underlying39 (by kernel_rfl) h with ⟨rfl, _⟩ | ⟨a, len, cap, m, n, V, D, Pl, rfl, _, hl, hm, hmm, rfl, hi⟩
  · exact ⟨_, 0, fun _ => (.slice none 0 0, []), rfl, none, 0, rfl, Nat.le_refl _, by decide, fun _ => rfl, fun a ha => by cases ha⟩
  · simp only [if_true] at hmm
    subst hmm
    have hall : ∀ i, i < len → ∃ o : Value × List Int, w.cell? (a.add i) = some o.1 ∧ Bytes w o.1 o.2 ∧ o.2.length ≤ 140737488351232 := by
      intro i hil
      obtain ⟨hc, ht⟩ := hi i (by omega)
      have hLi : Light Try.prog 22 (D i) := light_elem Try.underlying39 hL (List.mem_map.2 ⟨i, List.mem_range.2 hil, rfl⟩)
      obtain ⟨v, zs, e, hb, hz⟩ := open_bytes Try.underlying22 Try.underlying5 (by kernel_rfl) (by kernel_rfl) ht hLi
      simp only [List.cons.injEq, and_true] at e
      exact ⟨(V i, zs), hc, by rw [e]; exact hb, hz⟩
    haveI : Inhabited (Value × List Int) := ⟨(.slice none 0 0, [])⟩
    obtain ⟨f, hf⟩ := choose_lt hall
    exact ⟨_, len, f, rfl, some a, _, rfl, hl, hm, (fun e => by cases e), fun a' ha i hil => by cases ha; exact hf i hil⟩

set_option maxRecDepth 100000 in
theorem arg_lists {H : Type} {enc : TypeId × Value → H} {W : World} {base : Nat} {v : Value} {d : DataW H} {p : List MemPlace} (hv : Value.okWide Try.prog W .any base 39 v) (h : DataW.Trod enc Try.prog W 0 (fun _ => true) true 39 v d p)
    (hL : Light Try.prog 39 d) : ∃ len f, Lists W v len f := by
  obtain ⟨a, l, c, rfl⟩ := okWide_slice Try.underlying39 hv
  obtain ⟨fuel, hf⟩ := h
  obtain ⟨v', len, f, e, hs⟩ := open_lists hf hL
  simp [Value.cells] at e
  subst e
  exact ⟨len, f, hs⟩
end Go.Proofs.Ytfbkmgjgklkjiaa
