/- The document's own Text and Holds of a type. No condition but a length that a text can have, and numbers of 64 bits. -/
import Derived.Test.YtebeoganblcblaaKndC
namespace Go.Proofs.Ytebeoganblcblaa
open Go.RowKit
set_option linter.unusedVariables false
set_option linter.unusedSimpArgs false

def TypeR (t : TypeV) : Prop := (-9223372036854775808 ≤ t.k ∧ t.k ≤ 9223372036854775807) ∧ (-9223372036854775808 ≤ t.dims ∧ t.dims ≤ 9223372036854775807) ∧ (-9223372036854775808 ≤ t.elem ∧ t.elem ≤ 9223372036854775807) ∧ (-9223372036854775808 ≤ t.at_ ∧ t.at_ ≤ 9223372036854775807) ∧ t.name.size ≤ 140737488351232
/-- The text of a type that is no array. -/
def refB (nm : ByteArray) : ByteArray := ⟨#[76]⟩ ++ nm ++ ⟨#[59]⟩
def baseText (t : TypeV) : ByteArray :=
  if t.k = 1 then (if eqT t ⟨1, ⟨#[]⟩, 0, 0, 0⟩ then ⟨#[73]⟩ else ⟨#[]⟩)
  else if t.k = 2 then (if eqT t ⟨2, ⟨#[]⟩, 0, 0, 0⟩ then ⟨#[74]⟩ else ⟨#[]⟩)
  else if t.k = 8 then (if eqT t ⟨8, ⟨#[]⟩, 0, 0, 0⟩ then ⟨#[86]⟩ else ⟨#[]⟩)
  else if t.k = 4 then (if plainN (nums t.name) && eqT t ⟨4, t.name, 0, 0, 0⟩ then refB t.name else ⟨#[]⟩)
  else ⟨#[]⟩
def preB : Nat → ByteArray → ByteArray
  | 0, s => s
  | n + 1, s => ⟨#[91]⟩ ++ preB n s
def badArr (t : TypeV) : Bool := (decide (t.dims < 1) || decide (4 < t.dims)) || (t.at_ != 0 || (t.elem != 1 && (t.elem != 2 && t.elem != 4)))
def textZ8 (t : TypeV) : ByteArray :=
  if t.k = 5 then (if badArr t then ⟨#[]⟩ else let s := baseText ⟨t.elem, t.name, 0, 0, 0⟩; if s = ⟨#[]⟩ then ⟨#[]⟩ else preB t.dims.toNat s) else baseText t
theorem refB_ne (nm : ByteArray) : refB nm ≠ ⟨#[]⟩ := fun e => by
  have h := congrArg ByteArray.size e
  unfold refB at h
  rw [ByteArray.size_append, ByteArray.size_append] at h
  have h1 : (⟨#[76]⟩ : ByteArray).size = 1 := rfl
  have h2 : (⟨#[]⟩ : ByteArray).size = 0 := rfl
  omega
theorem preB_size : ∀ (n : Nat) (s : ByteArray), (preB n s).size = n + s.size
  | 0, s => by simp [preB]
  | n + 1, s => by
    rw [preB, ByteArray.size_append, preB_size n s]
    have : (⟨#[91]⟩ : ByteArray).size = 1 := rfl
    omega
theorem preB_ne (n : Nat) {s : ByteArray} (h : s ≠ ⟨#[]⟩) : preB n s ≠ ⟨#[]⟩ := fun e => by
  have := congrArg ByteArray.size e
  rw [preB_size] at this
  have h0 : s.size ≠ 0 := fun h0 => h (nums_inj (List.eq_nil_of_length_eq_zero (by rw [nums_len]; exact h0)))
  have : (⟨#[]⟩ : ByteArray).size = 0 := rfl
  omega
theorem base_other {t : TypeV} (h1 : t.k ≠ 1) (h2 : t.k ≠ 2) (h3 : t.k ≠ 8) (h4 : t.k ≠ 4) : baseText t = ⟨#[]⟩ := by
  unfold baseText
  rw [if_neg h1, if_neg h2, if_neg h3, if_neg h4]

def holdsZ8 (t : TypeV) : TypeV × Bool := if t.k = 5 then (if 1 < t.dims then (⟨5, t.name, t.dims - 1, t.elem, t.at_⟩, true) else (⟨t.elem, t.name, 0, 0, 0⟩, true)) else (zeroT, false)
theorem box2T {w : World} {c d : Array Value} {s t : TypeId} : ((w.alloc (.cells c s)).alloc (.cells d t)).heap[w.heap.size + 1]? = some (.cells d t (0, 0)) := by
  have h2 := heap_alloc_new (w.alloc (.cells c s)) (.cells d t)
  simpa using h2
theorem arr_bad {t : TypeV} (h5 : t.k = 5) (h : badArr t = true) : textZ8 t = ⟨#[]⟩ := by unfold textZ8; rw [if_pos h5, if_pos h]
theorem arr_none {t : TypeV} (h5 : t.k = 5) (h : badArr t = false) (hs : baseText ⟨t.elem, t.name, 0, 0, 0⟩ = ⟨#[]⟩) : textZ8 t = ⟨#[]⟩ := by unfold textZ8; rw [if_pos h5, h]; simp only [Bool.false_eq_true, if_false]; rw [if_pos hs]
theorem arr_some {t : TypeV} (h5 : t.k = 5) (h : badArr t = false) (hs : baseText ⟨t.elem, t.name, 0, 0, 0⟩ ≠ ⟨#[]⟩) : textZ8 t = preB t.dims.toNat (baseText ⟨t.elem, t.name, 0, 0, 0⟩) := by unfold textZ8; rw [if_pos h5, h]; simp only [Bool.false_eq_true, if_false]; rw [if_neg hs]
theorem base_size (t : TypeV) : (baseText t).size ≤ t.name.size + 2 := by
  have h1 : ∀ c, (⟨#[c]⟩ : ByteArray).size = 1 := fun _ => rfl
  have h0 : (⟨#[]⟩ : ByteArray).size = 0 := rfl
  unfold baseText refB
  repeat' split
  all_goals simp only [ByteArray.size_append, h1, h0]
  all_goals omega
end Go.Proofs.Ytebeoganblcblaa
