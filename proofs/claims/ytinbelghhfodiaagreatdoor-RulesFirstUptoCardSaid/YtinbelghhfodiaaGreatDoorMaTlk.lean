import Derived.Test.YtinbelghhfodiaaGreatDoorMaTillPolI
namespace Go.Proofs.YtinbelghhfodiaaGreatDoor
open Go
set_option linter.unusedVariables false
section
variable {P : Program} {ops : Array Oper} {Q : Exit → Act → World → Prop} {md : Region.Mode} {S : World → Prop} {x : Nat}
theorem Till.tk (i : Nat) {oi : Oper} {v : Value} {n : Nat} {l : Array Bool} {a a' : Act} {w : World} (hi : ops[i]? = some oi := by simp only [List.getElem?_toArray, List.getElem?_cons_succ, List.getElem?_cons_zero]; rfl) (hn : Region.wanted oi (yielded ops a.tmps) = true := by rfl) (y : ∀ w, S w → (execOp a.eval oi).run P w = .ok (.value v) w := by (intro w h; (try dsimp only at h); go_simp; try with_reducible rfl)) (hs : Region.noSelect ops = true := by kernel_rfl) (hf : Region.free md ops l i = true := by kernel_rfl) (hr : (Region.ready md ops l).contains i = true := by kernel_rfl)
    (hw : waitsB md ops x i = true := by kernel_rfl) (hx : l.getD x true = false := by kernel_rfl) (hQ : ∀ c a w, Q (.panic c) (a.put oi.dst v) w → Q (.panic c) a w := by exact fun _ _ _ h => h) (ha : a.put oi.dst v = a' := by (try simp only [Act.put, List.setIfInBounds_toArray, List.set_cons_zero, List.set_cons_succ]) <;> rfl) (hS : S w := by assumption)
    (h : Till P md ops Q S x n (l.setIfInBounds i true) a' w) : Till P md ops Q S x (n + 1) l a w :=
  Till.take hi hs hf hr hw hx hQ (.inl ⟨hn, y⟩) hS (by rw [ha]; exact h)
theorem Till.tv (i : Nat) (r : List Nat) {oi : Oper} {v : Value} {n : Nat} {l : Array Bool} {a a' : Act} {w : World} (hi : ops[i]? = some oi := by simp only [List.getElem?_toArray, List.getElem?_cons_succ, List.getElem?_cons_zero]; rfl) (hn : Region.wanted oi (yielded ops a.tmps) = true := by rfl) (y : ∀ w, S w → (execOp a.eval oi).run P w = .ok (.value v) w := by (intro w h; (try dsimp only at h); go_simp; try with_reducible rfl)) (hs : Region.noSelect ops = true := by kernel_rfl) (hf : Region.free md ops l i = true := by kernel_rfl) (hr : (Region.ready md ops l).contains i = true := by kernel_rfl)
    (hw : pathB md ops i x r = true := by kernel_rfl) (hc : closedB md ops l = true := by kernel_rfl) (hx : l.getD x true = false := by kernel_rfl) (hQ : ∀ c a w, Q (.panic c) (a.put oi.dst v) w → Q (.panic c) a w := by exact fun _ _ _ h => h) (ha : a.put oi.dst v = a' := by (try simp only [Act.put, List.setIfInBounds_toArray, List.set_cons_zero, List.set_cons_succ]) <;> rfl) (hS : S w := by assumption)
    (h : Till P md ops Q S x n (l.setIfInBounds i true) a' w) : Till P md ops Q S x (n + 1) l a w :=
  Till.via r hi hs hf hr hw hc hx hQ (.inl ⟨hn, y⟩) hS (by rw [ha]; exact h)
theorem Till.ts (i : Nat) {o : Oper} {n : Nat} {l : Array Bool} {a : Act} {w : World} (hr : Region.ready md ops l = [i] := by kernel_rfl) (ho : ops[i]? = some o := by simp only [List.getElem?_toArray, List.getElem?_cons_succ, List.getElem?_cons_zero]; rfl)
    (h : ∀ K' : Act → World → Prop, Shut (∀ a w, ((l.setIfInBounds i true).getD x true = false → S w) → Till P md ops Q S x n (l.setIfInBounds i true) a w → K' a w) → if Region.wanted o (yielded ops a.tmps) = true then Oper.wp P o a w K' Q else K' (a.put o.dst undef) w) : Till P md ops Q S x (n + 1) l a w := Till.step hr ho h
end
end Go.Proofs.YtinbelghhfodiaaGreatDoor
