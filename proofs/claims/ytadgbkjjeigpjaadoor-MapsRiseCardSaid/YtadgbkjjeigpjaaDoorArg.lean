/- An argument of bytes, opened. No condition but the form's own reach. -/
import Derived.Test.YtadgbkjjeigpjaaDoorOpen
namespace Go.Proofs.YtadgbkjjeigpjaaDoor
open Go.ChangeShapes Go.WideShapes Go.ChangeAt Go.RowKit Go.Deep

set_option maxRecDepth 100000 in
theorem arg_bytes {H : Type} {enc : TypeId × Value → H} {W : World} {base : Nat} {v : Value} {d : DataW H} {p : List MemPlace} (hv : Value.okWide Tryd.prog W .any base 23 v) (h : DataW.Trod enc Tryd.prog W 0 (fun _ => true) true 23 v d p)
    (hL : Light Tryd.prog 23 d) : ∃ zs, Bytes W v zs ∧ zs.length ≤ 140737488351232 := by
  obtain ⟨a, l, c, rfl⟩ := okWide_slice Tryd.underlying23 hv
  obtain ⟨fuel, hf⟩ := h
  obtain ⟨v', zs, e, hb, hl⟩ := open_bytes Tryd.underlying23 Tryd.underlying5 (by kernel_rfl) (by kernel_rfl) hf hL
  simp [Value.cells] at e
  subst e
  exact ⟨zs, hb, hl⟩
end Go.Proofs.YtadgbkjjeigpjaaDoor
