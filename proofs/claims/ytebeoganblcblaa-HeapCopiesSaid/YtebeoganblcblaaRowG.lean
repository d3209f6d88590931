/- Owned rows of structs. No condition. -/
import Derived.Test.YtebeoganblcblaaClsB
import Derived.Test.YtebeoganblcblaaMem
namespace Go.Proofs.Ytebeoganblcblaa
open Go.RowKit
set_option linter.unusedVariables false
set_option linter.unusedSimpArgs false

/-- An owned row of structs of n cells. -/
def RowG {α : Type} (T : TypeId) (n : Nat) (cells : α → List Value) (w : World) (B : Nat) (v : Value) (l : List α) : Prop := w.ownsRow B T n v l.length (l.flatMap cells)
section
variable {α : Type} {T : TypeId} {n : Nat} {cells : α → List Value}
theorem cellsG_at [Inhabited α] (hn : ∀ a, (cells a).length = n) : ∀ {l : List α} {i d : Nat}, i < l.length → d < n → (l.flatMap cells)[i * n + d]? = (cells (l.getD i default))[d]?
  | c :: r, 0, d, _, hd => by
    rw [List.flatMap_cons, List.getElem?_append_left (by rw [hn]; omega)]
    simp
  | c :: r, i + 1, d, hi, hd => by
    have he : (i + 1) * n + d = n + (i * n + d) := by rw [Nat.succ_mul]; omega
    rw [List.flatMap_cons, List.getElem?_append_right (by rw [hn]; omega), hn, he, Nat.add_sub_cancel_left, cellsG_at hn (by simpa using hi) hd]
    simp
theorem RowG.sl [Inhabited α] {w : World} {B : Nat} {v : Value} {l : List α} (hn : ∀ a, (cells a).length = n) (h : RowG T n cells w B v l) : Sl v l.length (fun b o i => ∀ d, d < n → w.cell? ⟨b, o + i * n + d, none⟩ = (cells (l.getD i default))[d]?) := by
  rcases h.2 with ⟨rfl, h0⟩ | ⟨g, cap, cur, rfl, hb, hg, hnc, hcm, hcs, htake⟩
  · rw [h0]; exact Sl.nil _
  · refine ⟨_, cap, rfl, hnc, by unfold maxLen at hcm; omega, (fun e => by cases e), fun x hx _ => ?_⟩
    cases hx
    refine ⟨g, 0, rfl, fun i hi d hd => ?_⟩
    rw [Nat.zero_add, ← cellsG_at hn hi hd]
    refine (show w.ownsRow B _ n _ _ _ from h).cellAt (g := g) (cap := cap) (i * n + d) ?_
    have : i * n + n ≤ l.length * n := by rw [← Nat.succ_mul]; exact Nat.mul_le_mul_right n hi
    omega
theorem RowG.only {S : Nat → Prop} {w w' : World} {B : Nat} {v : Value} {l : List α} (h : RowG T n cells w B v l) (ho : Only S w w') (hs : ∀ k, v.ownBlock = some k → ¬ S k) : RowG T n cells w' B v l := ho.owns h hs
theorem RowG.ge {w : World} {B : Nat} {v : Value} {l : List α} (h : RowG T n cells w B v l) : ∀ k, v.ownBlock = some k → B ≤ k ∧ k < w.heap.size := fun k hk => World.ownsRow.lt h k hk
theorem RowG.nil (w : World) (B : Nat) : RowG T n cells w B (.slice none 0 0) [] := World.ownsRow_nil _ _ _ _
theorem RowG.more {w : World} {B : Nat} {v' : Value} {l : List α} {a : α} (hown : w.ownsRow B T n v' (l.length + 1) (l.flatMap cells ++ cells a)) : RowG T n cells w B v' (l ++ [a]) := by
  unfold RowG
  rw [List.length_append, List.flatMap_append]
  simpa using hown
/-- A new row of one struct, as what is appended. -/
theorem Src.struct {w : World} {m : Nat} (xs : List Value) (hn : xs.length = n) (hu : ∀ u ∈ xs, u.oneCell' = true) (h : w.heap.size = m) : Src (w.alloc (.cells xs.toArray T)) n (.slice (some ⟨m, 0, none⟩) 1 1) 1 xs := by
  subst h
  refine ⟨by omega, hu, _, 1, rfl, (fun e => by cases e), fun ad hd j u hj => ?_⟩
  cases hd
  rw [add_lit, Nat.zero_add, cell_blk (heap_alloc_new w _)]
  simpa using hj
end
theorem RowG.base {α : Type} {T : TypeId} {n : Nat} {cells : α → List Value} {w : World} {B B' : Nat} {v : Value} {l : List α} (h : RowG T n cells w B v l) (hb : B' ≤ B) : RowG T n cells w B' v l := owns_base h (fun k hk => Nat.le_trans hb (RowG.ge h k hk).1)
theorem Row.keep {w w' : World} {N : Nat} {v : Value} {ys : List Int} {S : Nat → Prop} (h : Row w N v ys) (ho : Only S w w') (hS : ∀ j, S j → j < N) : Row w' N v ys := h.only ho (fun k hk hs => by have := (h.ge k hk).1; have := hS k hs; omega)
theorem RowG.keep {w w' : World} {α : Type} {T : TypeId} {m N : Nat} {cells : α → List Value} {v : Value} {l : List α} {S : Nat → Prop} (h : RowG T m cells w N v l) (ho : Only S w w') (hS : ∀ j, S j → j < N) : RowG T m cells w' N v l := RowG.only h ho (fun k hk hs => by have := (RowG.ge h k hk).1; have := hS k hs; omega)
end Go.Proofs.Ytebeoganblcblaa
