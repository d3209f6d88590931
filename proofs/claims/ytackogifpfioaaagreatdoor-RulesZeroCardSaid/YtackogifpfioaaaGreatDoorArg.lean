/- An argument of bytes, opened. No condition but the form's own reach. -/
import Derived.Test.YtackogifpfioaaaGreatDoorOpen
namespace Go.Proofs.YtackogifpfioaaaGreatDoor
open Go.ChangeShapes Go.WideShapes Go.ChangeAt Go.RowKit Go.Deep

set_option maxRecDepth 100000 in
theorem arg_bytes {H : Type} {enc : TypeId × Value → H} {W : World} {base : Nat} {v : Value} {d : DataW H} {p : List MemPlace} (hv : Value.okWide Tryz.prog W .any base 31 v) (h : DataW.Trod enc Tryz.prog W 0 (fun _ => true) true 31 v d p)
    (hL : Light Tryz.prog 31 d) : ∃ zs, Bytes W v zs ∧ zs.length ≤ 140737488351232 := by
  obtain ⟨a, l, c, rfl⟩ := okWide_slice Tryz.underlying31 hv
  obtain ⟨fuel, hf⟩ := h
  obtain ⟨v', zs, e, hb, hl⟩ := open_bytes Tryz.underlying31 Tryz.underlying5 (by kernel_rfl) (by kernel_rfl) hf hL
  simp [Value.cells] at e
  subst e
  exact ⟨zs, hb, hl⟩
end Go.Proofs.YtackogifpfioaaaGreatDoor
