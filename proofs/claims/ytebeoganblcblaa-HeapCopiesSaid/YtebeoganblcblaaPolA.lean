/- Pools as lists of constants, and the document's own small questions of a place: is, bare, Text, Class, Ref. No condition. -/
import Derived.Test.YtebeoganblcblaaTxtP
import Derived.Test.YtebeoganblcblaaMem
import Derived.WalkKit
import Derived.Deep.QuietTactic
import Derived.BigQuiet
namespace Go.Proofs.Ytebeoganblcblaa
open Go.RowKit
set_option linter.unusedVariables false
set_option linter.unusedSimpArgs false

/-- A constant. -/
structure ConstV where
  tag : Int
  text : ByteArray
  n : Int
  a : Int
  b : Int
instance : Inhabited ConstV := ⟨⟨0, ⟨#[]⟩, 0, 0, 0⟩⟩
def I64 (z : Int) : Prop := -9223372036854775808 ≤ z ∧ z ≤ 9223372036854775807
structure ConstAt (w : World) (b o : Nat) (i : Nat) (c : ConstV) : Prop where
  c0 : w.cell? ⟨b, o + i * 5, none⟩ = some (.int .i64 c.tag)
  c1 : w.cell? ⟨b, o + i * 5 + 1, none⟩ = some (.string c.text)
  c2 : w.cell? ⟨b, o + i * 5 + 2, none⟩ = some (.int .i64 c.n)
  c3 : w.cell? ⟨b, o + i * 5 + 3, none⟩ = some (.int .i64 c.a)
  c4 : w.cell? ⟨b, o + i * 5 + 4, none⟩ = some (.int .i64 c.b)
structure ConstR (c : ConstV) : Prop where
  r0 : I64 c.tag
  r2 : I64 c.n
  r3 : I64 c.a
  r4 : I64 c.b
  rt : c.text.size ≤ 140737488351232
/-- A slice of constants. -/
def Pool (w : World) (v : Value) (cs : List ConstV) : Prop :=
  ∃ ao cap, v = .slice ao cs.length cap ∧ cs.length ≤ cap ∧ cap ≤ 9223372036854775807 ∧ (ao = none → cap = 0) ∧ (∀ c ∈ cs, ConstR c) ∧
    ∀ x, ao = some x → 0 < cs.length → ∃ b o, x = ⟨b, o, none⟩ ∧ ∀ i, i < cs.length → ConstAt w b o i (cs.getD i default)
theorem ConstAt.only {S : Nat → Prop} {w w' : World} {b o i : Nat} {c : ConstV} (h : ConstAt w b o i c) (ho : Only S w w') (hs : ¬ S b) : ConstAt w' b o i c :=
  ⟨ho.cell h.c0 hs, ho.cell h.c1 hs, ho.cell h.c2 hs, ho.cell h.c3 hs, ho.cell h.c4 hs⟩
theorem Pool.only {S : Nat → Prop} {w w' : World} {v : Value} {cs : List ConstV} (h : Pool w v cs) (ho : Only S w w') (hs : ∀ k, v.ownBlock = some k → ¬ S k) : Pool w' v cs := by
  obtain ⟨ao, cap, rfl, h1, h2, h3, h4, h5⟩ := h
  refine ⟨ao, cap, rfl, h1, h2, h3, h4, fun x hx h0 => ?_⟩
  obtain ⟨b, o, rfl, h6⟩ := h5 x hx h0
  subst hx
  exact ⟨b, o, rfl, fun i hi => (h6 i hi).only ho (hs b rfl)⟩
theorem Pool.at {w : World} {ao : Option Addr} {cap : Nat} {cs : List ConstV} (h : Pool w (.slice ao cs.length cap) cs) {i : Nat} (hi : i < cs.length) : ∃ b o, ao = some ⟨b, o, none⟩ ∧ ConstAt w b o i (cs.getD i default) := by
  obtain ⟨ao', cap', e, h1, h2, h3, h4, h5⟩ := h
  injection e with e1 _ e3
  subst e1 e3
  cases ao with
  | none => have := h3 rfl; omega
  | some x =>
    obtain ⟨b, o, rfl, h6⟩ := h5 x rfl (by omega)
    exact ⟨b, o, rfl, h6 i hi⟩
theorem Pool.range {w : World} {v : Value} {cs : List ConstV} (h : Pool w v cs) {i : Nat} (hi : i < cs.length) : ConstR (cs.getD i default) := by
  obtain ⟨_, _, _, _, _, _, h4, _⟩ := h
  have e : cs.getD i default = cs[i] := by simp [List.getD, hi]
  rw [e]
  exact h4 _ (List.getElem_mem hi)

/-- Does a place lead to a tag? -/
def isZ (cs : List ConstV) (i tag : Int) : Bool := decide (1 ≤ i) && (decide (i < cs.length) && decide ((cs.getD i.toNat default).tag = tag))
theorem empty_text (x : ByteArray) : (x = ⟨#[]⟩) = (x.toList = []) := by
  apply propext
  constructor
  · intro h; subst h; rw [ByteArray.toList_eq]
  · intro h
    rw [ByteArray.toList_eq] at h
    cases x
    simp at h
    rw [h]
/-- The fields that a tag has not are zero. -/
def bareZ (c : ConstV) : Bool :=
  if c.tag = 1 then decide (c.n = 0) && (decide (c.a = 0) && decide (c.b = 0))
  else if c.tag = 3 ∨ c.tag = 5 then decide (c.text = ⟨#[]⟩) && (decide (c.a = 0) && decide (c.b = 0))
  else if c.tag = 7 then decide (c.text = ⟨#[]⟩) && (decide (c.n = 0) && decide (c.b = 0))
  else decide (c.text = ⟨#[]⟩) && decide (c.n = 0)
end Go.Proofs.Ytebeoganblcblaa
