/- A region that draws its order, whose loads' cells are written by it later: a condition on the world that holds till one of its operations has come up. -/
import Derived.Deep.RegionHeld3
import Derived.ProofKit
import Derived.Test.YtebeoganblcblaaSep
namespace Go.Proofs.Ytebeoganblcblaa
open Go
set_option linter.unusedVariables false

section
variable {P : Program} {ops : Array Oper} {Q : Exit → Act → World → Prop} {md : Region.Mode} {S : World → Prop} {x : Nat}

/-- Whatever order is picked from here on; S is owed as long as operation x has not come up. -/
def Till (P : Program) (md : Region.Mode) (ops : Array Oper) (Q : Exit → Act → World → Prop) (S : World → Prop) (x : Nat) : Nat → Array Bool → Act → World → Prop
  | 0, l, a, w => Region.ready md ops l = [] ∧ Q .normal a w
  | n + 1, l, a, w => (Region.ready md ops l = [] → Q .normal a w) ∧ ∀ j, j ∈ Region.ready md ops l →
      wpOp P ops Q j (fun a' w' => ((l.setIfInBounds j true).getD x true = false → S w') ∧ Till P md ops Q S x n (l.setIfInBounds j true) a' w') a w
theorem Till.any {n : Nat} : ∀ {l : Array Bool} {a : Act} {w : World}, Till P md ops Q S x n l a w → wpAny P md ops Q n l a w := by
  induction n with
  | zero => exact fun h => h
  | succ n ih => exact fun h => ⟨h.1, fun j hj => wpOp_mono (fun _ _ k => ih k.2) (h.2 j hj)⟩
/-- Operation x waits for operation i. -/
def Waits (md : Region.Mode) (ops : Array Oper) (x i : Nat) : Prop := ∃ o, ops[x]? = some o ∧ ∃ e ∈ o.after, Region.binds md e = true ∧ e.on = i
/-- One that waits for another is not ready as long as that one has not come up. -/
theorem Waits.not_ready {i : Nat} (h : Waits md ops x i) {l : Array Bool} (hi : i ∈ Region.ready md ops l) : x ∉ Region.ready md ops l := fun hx => by
  obtain ⟨o, ho, e, he, hb, rfl⟩ := h
  obtain ⟨-, o', ho', hall⟩ := mem_ready.1 hx
  obtain rfl : o = o' := by rw [ho] at ho'; exact Option.some.inj ho'
  have h1 := hall e he hb
  have h0 := (mem_ready.1 hi).1
  rcases Nat.lt_or_ge e.on l.size with hl | hl
  · simp [hl] at h0 h1
    rw [h0] at h1
    cases h1
  · simp [Array.getElem?_eq_none hl] at h1
theorem Till.first {i : Nat} {oi : Oper} {v : Value} (hi : ops[i]? = some oi) (hsel : ∀ (j : Nat) (o : Oper) cs b, ops[j]? = some o → o.op ≠ .select cs b) {Cl : Array Bool → Prop} (hw : ∀ l, Cl l → i ∈ Region.ready md ops l → x ∉ Region.ready md ops l) (hcl : ∀ l j, Cl l → j ∈ Region.ready md ops l → Cl (l.setIfInBounds j true))
    (hQ : ∀ c a w, Q (.panic c) (a.put oi.dst v) w → Q (.panic c) a w) (n : Nat) : ∀ (l : Array Bool) (a : Act) (w : World), Cl l → l.getD x true = false →
    (∀ j oj, ops[j]? = some oj → j ≠ i → l.getD j true = false → (∀ e ∈ oj.after, Region.binds md e = true → e.on ≠ i) → oi.apart ops oj = true) →
    i ∈ Region.ready md ops l → YieldsIf P ops S oi v a → S w → Till P md ops Q S x n (l.setIfInBounds i true) (a.put oi.dst v) w → Till P md ops Q S x (n + 1) l a w := by
  induction n with
  | zero =>
    intro l a w _ _ _ hr hy hS H
    refine ⟨fun e => (by rw [e] at hr; cases hr), fun j hj => ?_⟩
    rcases Nat.decEq j i with hji | hji
    · have := ready_mono hj hji
      rw [H.1] at this
      cases this
    · subst hji
      exact hy.wpOp hi hS ⟨fun _ => hS, H⟩
  | succ n ih =>
    intro l a w hc hx hap hr hy hS H
    refine ⟨fun e => (by rw [e] at hr; cases hr), fun j hj => ?_⟩
    rcases Nat.decEq j i with hji | hji
    · have hjx : j ≠ x := fun e => hw l hc hr (e ▸ hj)
      have hix : i ≠ x := fun e => hw l hc hr (e ▸ hr)
      obtain ⟨hjl, oj, hoj, hall⟩ := mem_ready.1 hj
      have hno : ∀ e ∈ oj.after, Region.binds md e = true → e.on ≠ i := fun e he hb h => Waits.not_ready (x := j) ⟨oj, hoj, e, he, hb, h⟩ hr hj
      refine wpOp_mono (fun a' w' k => ?_) (wpOp_putIf hoj (hap j oj hoj hji hjl hno) (fun cs b => hsel i oi cs b hi) (fun cs b => hsel j oj cs b hoj) hQ hy (H.2 j (ready_mono hj hji)))
      obtain ⟨k1, k2, k3⟩ := k
      have hxl : (l.setIfInBounds j true).getD x true = false := by rw [getD_set_ne true hjx]; exact hx
      have hS' : S w' := k2 (by rw [getD_set_ne true hjx, getD_set_ne true hix]; exact hx)
      refine ⟨fun _ => hS', ih _ a' w' (hcl l j hc hj) hxl (fun m om hom hmi hml hm => ?_) (ready_mono hr (Ne.symm hji)) k1 hS' (by rw [Array.setIfInBounds_comm _ _ hji]; exact k3)⟩
      rcases Nat.decEq j m with hjm | hjm
      · exact hap m om hom hmi (by rw [getD_set_ne true hjm] at hml; exact hml) hm
      · subst hjm
        exact hap j om hom hmi hjl hm
    · subst hji
      exact hy.wpOp hi hS ⟨fun _ => hS, H⟩
def waitsB (md : Region.Mode) (ops : Array Oper) (x i : Nat) : Bool := match ops[x]? with
  | some o => o.after.any (fun e => Region.binds md e && e.on == i)
  | none => false
theorem waits_of {i : Nat} (h : waitsB md ops x i = true) : Waits md ops x i := by
  unfold waitsB at h
  split at h
  · rename_i o ho
    obtain ⟨e, he, hb⟩ := Array.any_eq_true'.1 h
    simp only [Bool.and_eq_true, beq_iff_eq] at hb
    exact ⟨o, ho, e, he, hb.1, hb.2⟩
  · cases h
theorem Till.take {i : Nat} {oi : Oper} {v : Value} {n : Nat} {l : Array Bool} {a : Act} {w : World} (hi : ops[i]? = some oi) (hs : Region.noSelect ops = true) (hf : Region.free md ops l i = true) (hr : (Region.ready md ops l).contains i = true)
    (hw : waitsB md ops x i = true) (hx : l.getD x true = false) (hQ : ∀ c a w, Q (.panic c) (a.put oi.dst v) w → Q (.panic c) a w) (hy : YieldsIf P ops S oi v a) (hS : S w)
    (h : Till P md ops Q S x n (l.setIfInBounds i true) (a.put oi.dst v) w) : Till P md ops Q S x (n + 1) l a w :=
  Till.first (Cl := fun _ => True) hi (Region.noSelect_spec hs) (fun _ _ h => (waits_of hw).not_ready h) (fun _ _ _ _ => trivial) hQ n l a w trivial hx (Region.free_spec hi hf) (by simpa using hr) hy hS h
/-- What has come up, has come up behind what it waits for. -/
def Closed (md : Region.Mode) (ops : Array Oper) (l : Array Bool) : Prop := ∀ j o, ops[j]? = some o → l.getD j false = true → ∀ e ∈ o.after, Region.binds md e = true → l.getD e.on false = true
theorem Closed.step {l : Array Bool} (h : Closed md ops l) {j : Nat} (hj : j ∈ Region.ready md ops l) : Closed md ops (l.setIfInBounds j true) := fun k o ho hk e he hb => by
  rcases Nat.decEq j k with hjk | hjk
  · rw [getD_set_ne false hjk] at hk
    exact getD_set_true (h k o ho hk e he hb)
  · subst hjk
    obtain ⟨-, o', ho', hall⟩ := mem_ready.1 hj
    obtain rfl : o = o' := by rw [ho] at ho'; exact Option.some.inj ho'
    exact getD_set_true (hall e he hb)
def closedB (md : Region.Mode) (ops : Array Oper) (l : Array Bool) : Bool := (List.range ops.size).all fun j => match ops[j]? with
  | some o => !(l.getD j false) || o.after.all (fun e => !(Region.binds md e) || l.getD e.on false)
  | none => true
theorem closed_of {l : Array Bool} (h : closedB md ops l = true) : Closed md ops l := fun j o ho hj e he hb => by
  unfold closedB at h
  rw [List.all_eq_true] at h
  have h1 := h j (List.mem_range.2 (Array.getElem?_eq_some_iff.1 ho).1)
  rw [ho] at h1
  simp only [hj, Bool.not_true, Bool.false_or] at h1
  have h2 := Array.all_eq_true_iff_forall_mem.1 h1 e he
  simpa [hb] using h2
/-- x waits for the path's first, that one for the next, the last for i. -/
def pathB (md : Region.Mode) (ops : Array Oper) (i : Nat) : Nat → List Nat → Bool
  | x, [] => waitsB md ops x i
  | x, j :: r => waitsB md ops x j && pathB md ops i j r
theorem path_listed {i : Nat} {l : Array Bool} (hc : Closed md ops l) : ∀ {r : List Nat} {x : Nat}, pathB md ops i x r = true → l.getD x false = true → l.getD i false = true
  | [], x, h, hx => by
    obtain ⟨o, ho, e, he, hb, rfl⟩ := waits_of h
    exact hc x o ho hx e he hb
  | j :: r, x, h, hx => by
    unfold pathB at h
    rw [Bool.and_eq_true] at h
    obtain ⟨o, ho, e, he, hb, rfl⟩ := waits_of h.1
    exact path_listed hc h.2 (hc x o ho hx e he hb)
theorem path_not {i : Nat} {l : Array Bool} (hc : Closed md ops l) {r : List Nat} (h : pathB md ops i x r = true) (hi : i ∈ Region.ready md ops l) : x ∉ Region.ready md ops l := fun hx => by
  have h0 := (mem_ready.1 hi).1
  have h1 : l.getD i false = true := by
    cases r with
    | nil =>
      obtain ⟨o, ho, e, he, hb, rfl⟩ := waits_of (show waitsB md ops x i = true from h)
      obtain ⟨-, o', ho', hall⟩ := mem_ready.1 hx
      obtain rfl : o = o' := by rw [ho] at ho'; exact Option.some.inj ho'
      exact hall e he hb
    | cons j r =>
      unfold pathB at h
      rw [Bool.and_eq_true] at h
      obtain ⟨o, ho, e, he, hb, rfl⟩ := waits_of h.1
      obtain ⟨-, o', ho', hall⟩ := mem_ready.1 hx
      obtain rfl : o = o' := by rw [ho] at ho'; exact Option.some.inj ho'
      exact path_listed hc h.2 (hall e he hb)
  rcases Nat.lt_or_ge i l.size with hl | hl
  · simp [hl] at h0 h1
    rw [h0] at h1
    cases h1
  · simp [Array.getElem?_eq_none hl] at h1
/-- As 'take', where x waits for i by others. -/
theorem Till.via {i : Nat} {oi : Oper} {v : Value} {n : Nat} {l : Array Bool} {a : Act} {w : World} (r : List Nat) (hi : ops[i]? = some oi) (hs : Region.noSelect ops = true) (hf : Region.free md ops l i = true) (hr : (Region.ready md ops l).contains i = true)
    (hw : pathB md ops i x r = true) (hc : closedB md ops l = true) (hx : l.getD x true = false) (hQ : ∀ c a w, Q (.panic c) (a.put oi.dst v) w → Q (.panic c) a w) (hy : YieldsIf P ops S oi v a) (hS : S w)
    (h : Till P md ops Q S x n (l.setIfInBounds i true) (a.put oi.dst v) w) : Till P md ops Q S x (n + 1) l a w :=
  Till.first (Cl := Closed md ops) hi (Region.noSelect_spec hs) (fun _ hc' h => path_not hc' hw h) (fun _ _ hc' hj => hc'.step hj) hQ n l a w (closed_of hc) hx (Region.free_spec hi hf) (by simpa using hr) hy hS h
/-- But one operation may come up. -/
theorem Till.step {i : Nat} {o : Oper} {n : Nat} {l : Array Bool} {a : Act} {w : World} (hr : Region.ready md ops l = [i]) (ho : ops[i]? = some o)
    (h : ∀ K' : Act → World → Prop, Shut (∀ a w, ((l.setIfInBounds i true).getD x true = false → S w) → Till P md ops Q S x n (l.setIfInBounds i true) a w → K' a w) → if Region.wanted o (yielded ops a.tmps) = true then Oper.wp P o a w K' Q else K' (a.put o.dst undef) w) :
    Till P md ops Q S x (n + 1) l a w := by
  refine ⟨fun e => (by rw [hr] at e; cases e), fun j hj => ?_⟩
  rw [hr] at hj
  obtain rfl : j = i := by simpa using hj
  exact wpOp_step ho (fun K' hK => h K' (fun a w hS hW => hK a w ⟨hS, hW⟩))
/-- 'take', 'via' and 'step' in short: what they ask is found. -/
theorem Till.tk (i : Nat) {oi : Oper} {v : Value} {n : Nat} {l : Array Bool} {a a' : Act} {w : World} (hi : ops[i]? = some oi := by simp only [List.getElem?_toArray, List.getElem?_cons_succ, List.getElem?_cons_zero]; rfl) (hn : Region.wanted oi (yielded ops a.tmps) = true := by rfl) (y : ∀ w, S w → (execOp a.eval oi).run P w = .ok (.value v) w := by (intro w h; (try dsimp only at h); go_simp; try with_reducible rfl)) (hs : Region.noSelect ops = true := by kernel_rfl) (hf : Region.free md ops l i = true := by kernel_rfl) (hr : (Region.ready md ops l).contains i = true := by kernel_rfl)
    (hw : waitsB md ops x i = true := by kernel_rfl) (hx : l.getD x true = false := by kernel_rfl) (hQ : ∀ c a w, Q (.panic c) (a.put oi.dst v) w → Q (.panic c) a w := by exact fun _ _ _ h => h) (ha : a.put oi.dst v = a' := by (try simp only [Act.put, List.setIfInBounds_toArray, List.set_cons_zero, List.set_cons_succ]) <;> rfl) (hS : S w := by assumption)
    (h : Till P md ops Q S x n (l.setIfInBounds i true) a' w) : Till P md ops Q S x (n + 1) l a w :=
  Till.take hi hs hf hr hw hx hQ (.inl ⟨hn, y⟩) hS (by rw [ha]; exact h)
theorem Till.tv (i : Nat) (r : List Nat) {oi : Oper} {v : Value} {n : Nat} {l : Array Bool} {a a' : Act} {w : World} (hi : ops[i]? = some oi := by simp only [List.getElem?_toArray, List.getElem?_cons_succ, List.getElem?_cons_zero]; rfl) (hn : Region.wanted oi (yielded ops a.tmps) = true := by rfl) (y : ∀ w, S w → (execOp a.eval oi).run P w = .ok (.value v) w := by (intro w h; (try dsimp only at h); go_simp; try with_reducible rfl)) (hs : Region.noSelect ops = true := by kernel_rfl) (hf : Region.free md ops l i = true := by kernel_rfl) (hr : (Region.ready md ops l).contains i = true := by kernel_rfl)
    (hw : pathB md ops i x r = true := by kernel_rfl) (hc : closedB md ops l = true := by kernel_rfl) (hx : l.getD x true = false := by kernel_rfl) (hQ : ∀ c a w, Q (.panic c) (a.put oi.dst v) w → Q (.panic c) a w := by exact fun _ _ _ h => h) (ha : a.put oi.dst v = a' := by (try simp only [Act.put, List.setIfInBounds_toArray, List.set_cons_zero, List.set_cons_succ]) <;> rfl) (hS : S w := by assumption)
    (h : Till P md ops Q S x n (l.setIfInBounds i true) a' w) : Till P md ops Q S x (n + 1) l a w :=
  Till.via r hi hs hf hr hw hc hx hQ (.inl ⟨hn, y⟩) hS (by rw [ha]; exact h)
theorem Till.ts (i : Nat) {o : Oper} {n : Nat} {l : Array Bool} {a : Act} {w : World} (hr : Region.ready md ops l = [i] := by kernel_rfl) (ho : ops[i]? = some o := by simp only [List.getElem?_toArray, List.getElem?_cons_succ, List.getElem?_cons_zero]; rfl)
    (h : ∀ K' : Act → World → Prop, Shut (∀ a w, ((l.setIfInBounds i true).getD x true = false → S w) → Till P md ops Q S x n (l.setIfInBounds i true) a w → K' a w) → if Region.wanted o (yielded ops a.tmps) = true then Oper.wp P o a w K' Q else K' (a.put o.dst undef) w) : Till P md ops Q S x (n + 1) l a w := Till.step hr ho h
theorem Till.done {l : Array Bool} {a : Act} {w : World} (hr : Region.ready md ops l = []) (h : Q .normal a w) : ∀ n, Till P md ops Q S x n l a w
  | 0 => ⟨hr, h⟩
  | _ + 1 => ⟨fun _ => h, by rw [hr]; simp⟩
theorem wp_till {id : Nat} {a : Act} {w : World} (x : Nat) (S : World → Prop) (hm : P.follows .mixedOrders = true) (h : Till P .any ops Q S x ops.size (Array.replicate ops.size false) a w.drew) : (Code.region id ops true).wp P Q a w :=
  wp_region_any hm h.any
end
end Go.Proofs.Ytebeoganblcblaa
