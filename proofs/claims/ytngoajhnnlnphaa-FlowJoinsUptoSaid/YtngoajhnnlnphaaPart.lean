/- A part of some bytes. No condition. -/
import Derived.Test.YtngoajhnnlnphaaMem
namespace Go.Proofs.Ytngoajhnnlnphaa
open Go.RowKit
set_option linter.unusedVariables false
set_option linter.unusedSimpArgs false

/-- The first so many bytes. -/
theorem Bytes.first {w : World} {ao : Option Addr} {cap : Nat} {zs : List Int} (hb : Bytes w (.slice ao zs.length cap) zs) (k : Nat) (hk : k ≤ zs.length) : Bytes w (.slice ao k cap) (zs.take k) := by
  obtain ⟨ao', cap', e, h1, h2, h3, h4, h⟩ := hb
  injection e with e1 _ e3
  subst e1 e3
  have hl : (zs.take k).length = k := by simp; omega
  refine ⟨ao, cap, by rw [hl], by omega, h2, h3, h4.take k, fun x hx j hj => ?_⟩
  rw [hl] at hj
  rw [h x hx j (by omega)]
  simp [List.getD, hj]

/-- The bytes behind the first so many, at a plain address. -/
theorem Bytes.behind {w : World} {b o cap : Nat} {zs : List Int} (hb : Bytes w (.slice (some ⟨b, o, none⟩) zs.length cap) zs) (k : Nat) (hk : k ≤ zs.length) : Bytes w (.slice (some ⟨b, o + k, none⟩) (zs.length - k) (cap - k)) (zs.drop k) := by
  have hb' := hb
  obtain ⟨ao', cap', e, h1, h2, h3, h4, h⟩ := hb
  injection e with e1 e2 e3
  subst e3
  refine ⟨some ⟨b, o + k, none⟩, cap - k, by rw [List.length_drop], by rw [List.length_drop]; omega, by omega, (fun h => by cases h), h4.drop k, fun x hx j hj => ?_⟩
  cases hx
  rw [List.length_drop] at hj
  rw [add_lit]
  have := cellOf hb' (k + j) (by omega)
  rw [Nat.add_assoc, this]
  simp [List.getD]
end Go.Proofs.Ytngoajhnnlnphaa
