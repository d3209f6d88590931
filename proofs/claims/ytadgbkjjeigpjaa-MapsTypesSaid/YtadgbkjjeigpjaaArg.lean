/- An argument of bytes, opened. No condition but the form's own reach. -/
import Derived.Test.YtadgbkjjeigpjaaOpen
namespace Go.Proofs.Ytadgbkjjeigpjaa
open Go.ChangeShapes Go.WideShapes Go.ChangeAt Go.RowKit Go.Deep

set_option maxRecDepth 100000 in
theorem arg_bytes {H : Type} {enc : TypeId × Value → H} {W : World} {base : Nat} {v : Value} {d : DataW H} {p : List MemPlace} (hv : Value.okWide Try.prog W .any base 39 v) (h : DataW.Trod enc Try.prog W 0 (fun _ => true) true 39 v d p)
    (hL : Light Try.prog 39 d) : ∃ zs, Bytes W v zs ∧ zs.length ≤ 140737488351232 := by
  obtain ⟨a, l, c, rfl⟩ := okWide_slice Try.underlying39 hv
  obtain ⟨fuel, hf⟩ := h
  obtain ⟨v', zs, e, hb, hl⟩ := open_bytes Try.underlying39 Try.underlying5 (by kernel_rfl) (by kernel_rfl) hf hL
  simp [Value.cells] at e
  subst e
  exact ⟨zs, hb, hl⟩
end Go.Proofs.Ytadgbkjjeigpjaa
