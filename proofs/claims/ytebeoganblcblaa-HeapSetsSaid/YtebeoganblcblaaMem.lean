/- Small laws on blocks of memory and on owned rows of bytes. No condition. -/
import Derived.Test.YtebeoganblcblaaRows
import Derived.Test.YtebeoganblcblaaSep
namespace Go.Proofs.Ytebeoganblcblaa
open Go.RowKit

theorem info_u8 : (Try.prog.info? 5).map (fun i => (i.zero, i.size, i.bytes)) = some (some (.int .u8 0), 1, 1) := by kernel_rfl
theorem cell_blk {w : World} {b : Nat} {c : Array Value} {t : TypeId} {f : Nat × Nat} (h : w.heap[b]? = some (.cells c t f)) (i : Nat) : w.cell? ⟨b, i, none⟩ = c[i]? := by simp [World.cell?, h]
theorem frozen_blk {w : World} {b : Nat} {c : Array Value} {t : TypeId} (h : w.heap[b]? = some (.cells c t (0, 0))) (i : Nat) : w.frozen? ⟨b, i, none⟩ = false := by simp [World.frozen?, h]
theorem slice_of_owns {w : World} {B e size n : Nat} {v : Value} {xs : List Value} (h : w.ownsRow B e size v n xs) : ∃ ao cap, v = .slice ao n cap ∧ n ≤ cap ∧ cap ≤ maxLen := by
  rcases h.2 with ⟨rfl, rfl⟩ | ⟨g, cap, cur, rfl, _, _, h1, h2, _⟩
  · exact ⟨none, 0, rfl, Nat.le_refl _, Nat.zero_le _⟩
  · exact ⟨_, cap, rfl, h1, h2⟩
theorem heap_setCell_at {w : World} {b i : Nat} {c : Array Value} {t : TypeId} {f : Nat × Nat} {u : Value} (h : w.heap[b]? = some (.cells c t f)) : (w.setCell ⟨b, i, none⟩ u).heap[b]? = some (.cells (c.setIfInBounds i u) t f) := by
  simp [World.setCell, Array.getElem?_modify, h]
/-- A new row of some cells, as what is appended. -/
theorem Src.few {w : World} {t : TypeId} {xs : List Value} (hu : ∀ u ∈ xs, u.oneCell' = true) : Src (w.alloc (.cells xs.toArray t)) 1 (.slice (some ⟨w.heap.size, 0, none⟩) xs.length xs.length) xs.length xs := by
  refine ⟨by simp, hu, _, xs.length, rfl, (fun e => by cases e), fun ad hd j u hj => ?_⟩
  cases hd
  rw [add_lit, Nat.zero_add, cell_blk (heap_alloc_new w _)]
  simpa using hj
/-- A row of bytes that is owned. -/
def Row (w : World) (B : Nat) (v : Value) (ys : List Int) : Prop := w.ownsRow B 5 1 v ys.length (ys.map (Value.int .u8))
/-- What an append to an owned row leaves. -/
def RowTo (w : World) (B : Nat) (v : Value) (ys : List Int) (v' : Value) (w' : World) : Prop :=
  Row w' B v' ys ∧ Only (fun k => v.ownBlock = some k) w w' ∧ (∀ k, v'.ownBlock = some k → v.ownBlock = some k ∨ w.heap.size ≤ k)
theorem RowTo.of {w wa w1 : World} {B : Nat} {v v' : Value} {ys zs : List Int} (ha : Only (fun _ => False) w wa) (hown : w1.ownsRow B 5 1 v' (ys.length + zs.length) (ys.map (Value.int .u8) ++ zs.map (Value.int .u8))) (hg : wa.grownBy w1 v.ownBlock)
    (hn : ∀ k, v'.ownBlock = some k → v.ownBlock = some k ∨ wa.heap.size ≤ k) : RowTo w B v (ys ++ zs) v' w1 := by
  refine ⟨by unfold Row; rw [List.length_append, List.map_append]; exact hown, (ha.mono (fun _ h _ => h.elim)).grown hg (fun k hk _ => hk), fun k hk => ?_⟩
  rcases hn k hk with h | h
  · exact .inl h
  · exact .inr (Nat.le_trans ha.size h)
/-- The world is as it was, but for draws. -/
def Drawn (w w' : World) : Prop := ∃ nq, w' = w.drewN nq
theorem Drawn.only {S : Nat → Prop} {w w' : World} (h : Drawn w w') : Only S w w' := by
  obtain ⟨n, rfl⟩ := h
  exact (Only.refl _ _).drewN n
theorem Drawn.refl (w : World) : Drawn w w := ⟨0, rfl⟩
theorem Drawn.cell {w w' : World} (h : Drawn w w') (a : Addr) : w'.cell? a = w.cell? a := by obtain ⟨n, rfl⟩ := h; rfl
theorem Drawn.frozen {w w' : World} (h : Drawn w w') (a : Addr) : w'.frozen? a = w.frozen? a := by obtain ⟨n, rfl⟩ := h; rfl
/-- The cells of bytes, each by itself. -/
theorem cellOf {w : World} {b o cap : Nat} {zs : List Int} (hb : Bytes w (.slice (some ⟨b, o, none⟩) zs.length cap) zs) (j : Nat) (hj : j < zs.length) : w.cell? ⟨b, o + j, none⟩ = some (.int .u8 (zs.getD j 0)) := by
  obtain ⟨ao, cap', e, _, _, _, _, h⟩ := hb
  injection e with e1 e2 e3
  rw [← add_lit]
  exact h _ e1.symm j hj
theorem Bytes.addr {w : World} {ao : Option Addr} {cap : Nat} {zs : List Int} (hb : Bytes w (.slice ao zs.length cap) zs) (h : 0 < zs.length) : ∃ b o, ao = some ⟨b, o, none⟩ := by
  obtain ⟨ao', cap', e, h1, _, h3, _, h5⟩ := hb
  injection e with e1 _ e3
  subst e1
  cases ao with
  | none => have := h3 rfl; omega
  | some x => exact ⟨x.block, x.off, congrArg some (plain_of_cell (h5 x rfl 0 h))⟩
theorem Row.only {S : Nat → Prop} {w w' : World} {B : Nat} {v : Value} {ys : List Int} (h : Row w B v ys) (ho : Only S w w') (hs : ∀ k, v.ownBlock = some k → ¬ S k) : Row w' B v ys := ho.owns h hs
theorem Row.ge {w : World} {B : Nat} {v : Value} {ys : List Int} (h : Row w B v ys) : ∀ k, v.ownBlock = some k → B ≤ k ∧ k < w.heap.size := fun k hk => World.ownsRow.lt h k hk
theorem Row.new {w : World} {xs : List Int} : xs.length ≤ maxLen → Row (w.alloc (.cells (xs.map (Value.int .u8)).toArray 5)) w.heap.size (.slice (some ⟨w.heap.size, 0, none⟩) xs.length xs.length) xs :=
  fun hm => ⟨by simp, .inr ⟨w.heap.size, xs.length, _, rfl, Nat.le_refl _, heap_alloc_new w _, Nat.le_refl _, hm, by simp, by rw [Nat.mul_one, List.take_of_length_le (by simp)]⟩⟩
theorem Row.push {w w2 w3 : World} {v v' : Value} {ys zs : List Int} (hr : Row w2 w.heap.size v ys) (hon : Only (fun _ => False) w w2)
    (hown : w3.ownsRow w.heap.size 5 1 v' (ys.length + zs.length) (ys.map (Value.int .u8) ++ zs.map (Value.int .u8))) (hg : w2.grownBy w3 v.ownBlock) (hn : ∀ k, v'.ownBlock = some k → v.ownBlock = some k ∨ w2.heap.size ≤ k) :
    Row w3 w.heap.size v' (ys ++ zs) ∧ Only (fun _ => False) w w3 := by
  have R := RowTo.of (Only.refl _ w2) hown hg hn
  exact ⟨R.1, hon.trans R.2.1 (fun k hk hl => by have := hr.ge k hk; omega)⟩
theorem Row.bytes {w : World} {B : Nat} {v : Value} {ys : List Int} (h : Row w B v ys) (hz : Bytish ys) : Bytes w v ys := Bytes.of_owns h hz
end Go.Proofs.Ytebeoganblcblaa
