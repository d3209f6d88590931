/- Small laws on blocks of memory and on owned rows of bytes. No condition. -/
import Derived.Test.YtnmdhlbfcmpcnaaDoorRows
import Derived.Test.YtnmdhlbfcmpcnaaDoorSep
namespace Go.Proofs.YtnmdhlbfcmpcnaaDoor
open Go.RowKit

theorem info_u8 : (Tryd.prog.info? 5).map (fun i => (i.zero, i.size, i.bytes)) = some (some (.int .u8 0), 1, 1) := by kernel_rfl
theorem cell_blk {w : World} {b : Nat} {c : Array Value} {t : TypeId} {f : Nat × Nat} (h : w.heap[b]? = some (.cells c t f)) (i : Nat) : w.cell? ⟨b, i, none⟩ = c[i]? := by simp [World.cell?, h]
theorem frozen_blk {w : World} {b : Nat} {c : Array Value} {t : TypeId} (h : w.heap[b]? = some (.cells c t (0, 0))) (i : Nat) : w.frozen? ⟨b, i, none⟩ = false := by simp [World.frozen?, h]
theorem slice_of_owns {w : World} {B e size n : Nat} {v : Value} {xs : List Value} (h : w.ownsRow B e size v n xs) : ∃ ao cap, v = .slice ao n cap ∧ n ≤ cap ∧ cap ≤ maxLen := by
  rcases h.2 with ⟨rfl, rfl⟩ | ⟨g, cap, cur, rfl, _, _, h1, h2, _⟩
  · exact ⟨none, 0, rfl, Nat.le_refl _, Nat.zero_le _⟩
  · exact ⟨_, cap, rfl, h1, h2⟩
theorem heap_setCell_at {w : World} {b i : Nat} {c : Array Value} {t : TypeId} {f : Nat × Nat} {u : Value} (h : w.heap[b]? = some (.cells c t f)) : (w.setCell ⟨b, i, none⟩ u).heap[b]? = some (.cells (c.setIfInBounds i u) t f) := by
  simp [World.setCell, Array.getElem?_modify, h]
/-- A new row of some cells, as what is appended. -/
theorem Src.few {w : World} {t : TypeId} {xs : List Value} (hu : ∀ u ∈ xs, u.oneCell' = true) : Src (w.alloc (.cells xs.toArray t)) 1 (.slice (some ⟨w.heap.size, 0, none⟩) xs.length xs.length) xs.length xs := by
  refine ⟨by simp, hu, _, xs.length, rfl, (fun e => by cases e), fun ad hd j u hj => ?_⟩
  cases hd
  rw [add_lit, Nat.zero_add, cell_blk (heap_alloc_new w _)]
  simpa using hj
/-- A row of bytes that is owned. -/
def Row (w : World) (B : Nat) (v : Value) (ys : List Int) : Prop := w.ownsRow B 5 1 v ys.length (ys.map (Value.int .u8))
/-- What an append to an owned row leaves. -/
def RowTo (w : World) (B : Nat) (v : Value) (ys : List Int) (v' : Value) (w' : World) : Prop :=
  Row w' B v' ys ∧ Only (fun k => v.ownBlock = some k) w w' ∧ (∀ k, v'.ownBlock = some k → v.ownBlock = some k ∨ w.heap.size ≤ k)
theorem RowTo.of {w wa w1 : World} {B : Nat} {v v' : Value} {ys zs : List Int} (ha : Only (fun _ => False) w wa) (hown : w1.ownsRow B 5 1 v' (ys.length + zs.length) (ys.map (Value.int .u8) ++ zs.map (Value.int .u8))) (hg : wa.grownBy w1 v.ownBlock)
    (hn : ∀ k, v'.ownBlock = some k → v.ownBlock = some k ∨ wa.heap.size ≤ k) : RowTo w B v (ys ++ zs) v' w1 := by
  refine ⟨by unfold Row; rw [List.length_append, List.map_append]; exact hown, (ha.mono (fun _ h _ => h.elim)).grown hg (fun k hk _ => hk), fun k hk => ?_⟩
  rcases hn k hk with h | h
  · exact .inl h
  · exact .inr (Nat.le_trans ha.size h)
end Go.Proofs.YtnmdhlbfcmpcnaaDoor
