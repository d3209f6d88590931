/- The document's own Below: trees of names. No condition but a length that a list can have. -/
import Derived.Test.YtmakfnghkpdpkaaGKndC
import Derived.Test.YtmakfnghkpdpkaaGClsR
namespace Go.Proofs.Ytmakfnghkpdpkaa
open Go.RowKit
set_option linter.unusedVariables false
set_option linter.unusedSimpArgs false

structure PairV where
  name : ByteArray
  super : ByteArray
instance : Inhabited PairV := ⟨⟨⟨#[]⟩, ⟨#[]⟩⟩⟩
structure PairAt (w : World) (b o i : Nat) (p : PairV) : Prop where
  c0 : w.cell? ⟨b, o + i * 2, none⟩ = some (.string p.name)
  c1 : w.cell? ⟨b, o + i * 2 + 1, none⟩ = some (.string p.super)
/-- A tree as a slice that is read. -/
def Pairs (w : World) (v : Value) (l : List PairV) : Prop := Sl v l.length (fun b o i => PairAt w b o i (l.getD i default))
theorem Pairs.only {w w' : World} {v : Value} {l : List PairV} (h : Pairs w v l) (ho : Only (fun _ => False) w w') : Pairs w' v l := h.imp (fun _ _ _ _ _ h => ⟨ho.cell h.c0 (fun h => h), ho.cell h.c1 (fun h => h)⟩)
/-- The first pair with a name, from a place on. -/
def pairFrom (x : ByteArray) : Nat → List PairV → Int
  | _, [] => -1
  | i, p :: r => if p.name = x then i else pairFrom x (i + 1) r
theorem pairFrom_at {x : ByteArray} {l : List PairV} {j : Nat} (h : j < l.length) : pairFrom x j (l.drop j) = if (l.getD j default).name = x then (j : Int) else pairFrom x (j + 1) (l.drop (j + 1)) := by
  rw [List.drop_eq_getElem_cons h]
  show (if (l[j]).name = x then _ else _) = _
  rw [show l.getD j default = l[j] by simp [List.getD, h]]
theorem pairFrom_range {x : ByteArray} : ∀ (l : List PairV) (i : Nat), pairFrom x i l = -1 ∨ ∃ j : Nat, j < l.length ∧ pairFrom x i l = ((i + j : Nat) : Int)
  | [], i => .inl rfl
  | p :: r, i => by
    by_cases h : p.name = x
    · exact .inr ⟨0, by simp, by rw [pairFrom, if_pos h]; rfl⟩
    · rw [pairFrom, if_neg h]
      rcases pairFrom_range r (i + 1) with h1 | ⟨j, h1, h2⟩
      · exact .inl h1
      · exact .inr ⟨j + 1, by simpa using h1, by rw [h2]; congr 1; omega⟩
def pairOf (l : List PairV) (x : ByteArray) : Int := pairFrom x 0 l
theorem pairOf_cases (l : List PairV) (x : ByteArray) : pairOf l x = -1 ∨ ∃ j : Nat, j < l.length ∧ pairOf l x = (j : Int) := by
  rcases pairFrom_range (x := x) l 0 with h | ⟨j, h1, h2⟩
  · exact .inl h
  · exact .inr ⟨j, h1, by rw [pairOf, h2, Nat.zero_add]⟩
/-- Below, in so many steps. -/
def belowN (l : List PairV) (b : ByteArray) : Nat → ByteArray → Bool
  | 0, a => decide (a = b)
  | n + 1, a => decide (a = b) || (if pairOf l a < 0 then false else belowN l b n (l.getD (pairOf l a).toNat default).super)
def belowZ (l : List PairV) (a b : ByteArray) : Bool := belowN l b l.length a
theorem belowN_same (l : List PairV) (b : ByteArray) (n : Nat) : belowN l b n b = true := by cases n <;> simp [belowN]
theorem belowN_none {l : List PairV} {a b : ByteArray} {n : Nat} (h : a ≠ b) (hp : pairOf l a = -1) : belowN l b n a = false := by
  cases n with
  | zero => simp [belowN, h]
  | succ n => rw [belowN, hp]; simp [h]
theorem belowN_step {l : List PairV} {a b : ByteArray} {n j : Nat} (h : a ≠ b) (hp : pairOf l a = (j : Int)) : belowN l b (n + 1) a = belowN l b n (l.getD j default).super := by
  rw [belowN, hp, if_neg (by omega), Int.toNat_natCast]
  simp [h]
theorem belowN_last {l : List PairV} {a b : ByteArray} (h : a ≠ b) : belowN l b 0 a = false := by simp [belowN, h]
theorem toList_beq {a b : ByteArray} (h : a ≠ b) : (a.toList == b.toList) = false ∧ ¬ a.toList = b.toList := by
  have h2 : ¬ a.toList = b.toList := fun e => h (toList_inj' e)
  exact ⟨by rw [beq_eq_false_iff_ne]; exact h2, h2⟩

end Go.Proofs.Ytmakfnghkpdpkaa
