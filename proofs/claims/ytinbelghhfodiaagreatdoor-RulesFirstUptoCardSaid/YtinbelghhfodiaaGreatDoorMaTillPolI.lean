import Derived.Deep.RegionHeld3
import Derived.ProofKit
import Derived.Test.YtinbelghhfodiaaGreatDoorMaSepPolT
import Derived.Laws.ResultCell
import Derived.Test.YtinbelghhfodiaaGreatDoorMaKndOLpO
import Derived.Test.YtinbelghhfodiaaGreatDoorMaKndTLnkD
import Derived.Test.YtinbelghhfodiaaGreatDoorMaWireAPolG
import Derived.Test.YtinbelghhfodiaaGreatDoorMaTxtFArg
import Derived.Test.YtinbelghhfodiaaGreatDoorMaClsAKndL
namespace Go.Proofs.YtinbelghhfodiaaGreatDoor
open Go
set_option linter.unusedVariables false
section
variable {P : Program} {ops : Array Oper} {Q : Exit → Act → World → Prop} {md : Region.Mode} {S : World → Prop} {x : Nat}
def Till (P : Program) (md : Region.Mode) (ops : Array Oper) (Q : Exit → Act → World → Prop) (S : World → Prop) (x : Nat) : Nat → Array Bool → Act → World → Prop
  | 0, l, a, w => Region.ready md ops l = [] ∧ Q .normal a w
  | n + 1, l, a, w => (Region.ready md ops l = [] → Q .normal a w) ∧ ∀ j, j ∈ Region.ready md ops l →
      wpOp P ops Q j (fun a' w' => ((l.setIfInBounds j true).getD x true = false → S w') ∧ Till P md ops Q S x n (l.setIfInBounds j true) a' w') a w
theorem Till.any {n : Nat} : ∀ {l : Array Bool} {a : Act} {w : World}, Till P md ops Q S x n l a w → wpAny P md ops Q n l a w := by
  induction n with
  | zero => exact fun h => h
  | succ n ih => exact fun h => ⟨h.1, fun j hj => wpOp_mono (fun _ _ k => ih k.2) (h.2 j hj)⟩
def Waits (md : Region.Mode) (ops : Array Oper) (x i : Nat) : Prop := ∃ o, ops[x]? = some o ∧ ∃ e ∈ o.after, Region.binds md e = true ∧ e.on = i
theorem Waits.not_ready {i : Nat} (h : Waits md ops x i) {l : Array Bool} (hi : i ∈ Region.ready md ops l) : x ∉ Region.ready md ops l := fun hx => by
  obtain ⟨o, ho, e, he, hb, rfl⟩ := h
  obtain ⟨-, o', ho', hall⟩ := mem_ready.1 hx
  obtain rfl : o = o' := by rw [ho] at ho'; exact Option.some.inj ho'
  have h1 := hall e he hb
  have h0 := (mem_ready.1 hi).1
  rcases Nat.lt_or_ge e.on l.size with hl | hl
  · simp [hl] at h0 h1
    rw [h0] at h1
    cases h1
  · simp [Array.getElem?_eq_none hl] at h1
theorem Till.first {i : Nat} {oi : Oper} {v : Value} (hi : ops[i]? = some oi) (hsel : ∀ (j : Nat) (o : Oper) cs b, ops[j]? = some o → o.op ≠ .select cs b) {Cl : Array Bool → Prop} (hw : ∀ l, Cl l → i ∈ Region.ready md ops l → x ∉ Region.ready md ops l) (hcl : ∀ l j, Cl l → j ∈ Region.ready md ops l → Cl (l.setIfInBounds j true))
    (hQ : ∀ c a w, Q (.panic c) (a.put oi.dst v) w → Q (.panic c) a w) (n : Nat) : ∀ (l : Array Bool) (a : Act) (w : World), Cl l → l.getD x true = false →
    (∀ j oj, ops[j]? = some oj → j ≠ i → l.getD j true = false → (∀ e ∈ oj.after, Region.binds md e = true → e.on ≠ i) → oi.apart ops oj = true) →
    i ∈ Region.ready md ops l → YieldsIf P ops S oi v a → S w → Till P md ops Q S x n (l.setIfInBounds i true) (a.put oi.dst v) w → Till P md ops Q S x (n + 1) l a w := by
  induction n with
  | zero =>
    intro l a w _ _ _ hr hy hS H
    refine ⟨fun e => (by rw [e] at hr; cases hr), fun j hj => ?_⟩
    rcases Nat.decEq j i with hji | hji
    · have := ready_mono hj hji
      rw [H.1] at this
      cases this
    · subst hji
      exact hy.wpOp hi hS ⟨fun _ => hS, H⟩
  | succ n ih =>
    intro l a w hc hx hap hr hy hS H
    refine ⟨fun e => (by rw [e] at hr; cases hr), fun j hj => ?_⟩
    rcases Nat.decEq j i with hji | hji
    · have hjx : j ≠ x := fun e => hw l hc hr (e ▸ hj)
      have hix : i ≠ x := fun e => hw l hc hr (e ▸ hr)
      obtain ⟨hjl, oj, hoj, hall⟩ := mem_ready.1 hj
      have hno : ∀ e ∈ oj.after, Region.binds md e = true → e.on ≠ i := fun e he hb h => Waits.not_ready (x := j) ⟨oj, hoj, e, he, hb, h⟩ hr hj
      refine wpOp_mono (fun a' w' k => ?_) (wpOp_putIf hoj (hap j oj hoj hji hjl hno) (fun cs b => hsel i oi cs b hi) (fun cs b => hsel j oj cs b hoj) hQ hy (H.2 j (ready_mono hj hji)))
      obtain ⟨k1, k2, k3⟩ := k
      have hxl : (l.setIfInBounds j true).getD x true = false := by rw [getD_set_ne true hjx]; exact hx
      have hS' : S w' := k2 (by rw [getD_set_ne true hjx, getD_set_ne true hix]; exact hx)
      refine ⟨fun _ => hS', ih _ a' w' (hcl l j hc hj) hxl (fun m om hom hmi hml hm => ?_) (ready_mono hr (Ne.symm hji)) k1 hS' (by rw [Array.setIfInBounds_comm _ _ hji]; exact k3)⟩
      rcases Nat.decEq j m with hjm | hjm
      · exact hap m om hom hmi (by rw [getD_set_ne true hjm] at hml; exact hml) hm
      · subst hjm
        exact hap j om hom hmi hjl hm
    · subst hji
      exact hy.wpOp hi hS ⟨fun _ => hS, H⟩
def waitsB (md : Region.Mode) (ops : Array Oper) (x i : Nat) : Bool := match ops[x]? with
  | some o => o.after.any (fun e => Region.binds md e && e.on == i)
  | none => false
theorem waits_of {i : Nat} (h : waitsB md ops x i = true) : Waits md ops x i := by
  unfold waitsB at h
  split at h
  · rename_i o ho
    obtain ⟨e, he, hb⟩ := Array.any_eq_true'.1 h
    simp only [Bool.and_eq_true, beq_iff_eq] at hb
    exact ⟨o, ho, e, he, hb.1, hb.2⟩
  · cases h
theorem Till.take {i : Nat} {oi : Oper} {v : Value} {n : Nat} {l : Array Bool} {a : Act} {w : World} (hi : ops[i]? = some oi) (hs : Region.noSelect ops = true) (hf : Region.free md ops l i = true) (hr : (Region.ready md ops l).contains i = true)
    (hw : waitsB md ops x i = true) (hx : l.getD x true = false) (hQ : ∀ c a w, Q (.panic c) (a.put oi.dst v) w → Q (.panic c) a w) (hy : YieldsIf P ops S oi v a) (hS : S w)
    (h : Till P md ops Q S x n (l.setIfInBounds i true) (a.put oi.dst v) w) : Till P md ops Q S x (n + 1) l a w :=
  Till.first (Cl := fun _ => True) hi (Region.noSelect_spec hs) (fun _ _ h => (waits_of hw).not_ready h) (fun _ _ _ _ => trivial) hQ n l a w trivial hx (Region.free_spec hi hf) (by simpa using hr) hy hS h
def Closed (md : Region.Mode) (ops : Array Oper) (l : Array Bool) : Prop := ∀ j o, ops[j]? = some o → l.getD j false = true → ∀ e ∈ o.after, Region.binds md e = true → l.getD e.on false = true
theorem Closed.step {l : Array Bool} (h : Closed md ops l) {j : Nat} (hj : j ∈ Region.ready md ops l) : Closed md ops (l.setIfInBounds j true) := fun k o ho hk e he hb => by
  rcases Nat.decEq j k with hjk | hjk
  · rw [getD_set_ne false hjk] at hk
    exact getD_set_true (h k o ho hk e he hb)
  · subst hjk
    obtain ⟨-, o', ho', hall⟩ := mem_ready.1 hj
    obtain rfl : o = o' := by rw [ho] at ho'; exact Option.some.inj ho'
    exact getD_set_true (hall e he hb)
def closedB (md : Region.Mode) (ops : Array Oper) (l : Array Bool) : Bool := (List.range ops.size).all fun j => match ops[j]? with
  | some o => !(l.getD j false) || o.after.all (fun e => !(Region.binds md e) || l.getD e.on false)
  | none => true
theorem closed_of {l : Array Bool} (h : closedB md ops l = true) : Closed md ops l := fun j o ho hj e he hb => by
  unfold closedB at h
  rw [List.all_eq_true] at h
  have h1 := h j (List.mem_range.2 (Array.getElem?_eq_some_iff.1 ho).1)
  rw [ho] at h1
  simp only [hj, Bool.not_true, Bool.false_or] at h1
  have h2 := Array.all_eq_true_iff_forall_mem.1 h1 e he
  simpa [hb] using h2
def pathB (md : Region.Mode) (ops : Array Oper) (i : Nat) : Nat → List Nat → Bool
  | x, [] => waitsB md ops x i
  | x, j :: r => waitsB md ops x j && pathB md ops i j r
theorem path_listed {i : Nat} {l : Array Bool} (hc : Closed md ops l) : ∀ {r : List Nat} {x : Nat}, pathB md ops i x r = true → l.getD x false = true → l.getD i false = true
  | [], x, h, hx => by
    obtain ⟨o, ho, e, he, hb, rfl⟩ := waits_of h
    exact hc x o ho hx e he hb
  | j :: r, x, h, hx => by
    unfold pathB at h
    rw [Bool.and_eq_true] at h
    obtain ⟨o, ho, e, he, hb, rfl⟩ := waits_of h.1
    exact path_listed hc h.2 (hc x o ho hx e he hb)
theorem path_not {i : Nat} {l : Array Bool} (hc : Closed md ops l) {r : List Nat} (h : pathB md ops i x r = true) (hi : i ∈ Region.ready md ops l) : x ∉ Region.ready md ops l := fun hx => by
  have h0 := (mem_ready.1 hi).1
  have h1 : l.getD i false = true := by
    cases r with
    | nil =>
      obtain ⟨o, ho, e, he, hb, rfl⟩ := waits_of (show waitsB md ops x i = true from h)
      obtain ⟨-, o', ho', hall⟩ := mem_ready.1 hx
      obtain rfl : o = o' := by rw [ho] at ho'; exact Option.some.inj ho'
      exact hall e he hb
    | cons j r =>
      unfold pathB at h
      rw [Bool.and_eq_true] at h
      obtain ⟨o, ho, e, he, hb, rfl⟩ := waits_of h.1
      obtain ⟨-, o', ho', hall⟩ := mem_ready.1 hx
      obtain rfl : o = o' := by rw [ho] at ho'; exact Option.some.inj ho'
      exact path_listed hc h.2 (hall e he hb)
  rcases Nat.lt_or_ge i l.size with hl | hl
  · simp [hl] at h0 h1
    rw [h0] at h1
    cases h1
  · simp [Array.getElem?_eq_none hl] at h1
theorem Till.via {i : Nat} {oi : Oper} {v : Value} {n : Nat} {l : Array Bool} {a : Act} {w : World} (r : List Nat) (hi : ops[i]? = some oi) (hs : Region.noSelect ops = true) (hf : Region.free md ops l i = true) (hr : (Region.ready md ops l).contains i = true)
    (hw : pathB md ops i x r = true) (hc : closedB md ops l = true) (hx : l.getD x true = false) (hQ : ∀ c a w, Q (.panic c) (a.put oi.dst v) w → Q (.panic c) a w) (hy : YieldsIf P ops S oi v a) (hS : S w)
    (h : Till P md ops Q S x n (l.setIfInBounds i true) (a.put oi.dst v) w) : Till P md ops Q S x (n + 1) l a w :=
  Till.first (Cl := Closed md ops) hi (Region.noSelect_spec hs) (fun _ hc' h => path_not hc' hw h) (fun _ _ hc' hj => hc'.step hj) hQ n l a w (closed_of hc) hx (Region.free_spec hi hf) (by simpa using hr) hy hS h
theorem Till.step {i : Nat} {o : Oper} {n : Nat} {l : Array Bool} {a : Act} {w : World} (hr : Region.ready md ops l = [i]) (ho : ops[i]? = some o)
    (h : ∀ K' : Act → World → Prop, Shut (∀ a w, ((l.setIfInBounds i true).getD x true = false → S w) → Till P md ops Q S x n (l.setIfInBounds i true) a w → K' a w) → if Region.wanted o (yielded ops a.tmps) = true then Oper.wp P o a w K' Q else K' (a.put o.dst undef) w) :
    Till P md ops Q S x (n + 1) l a w := by
  refine ⟨fun e => (by rw [hr] at e; cases e), fun j hj => ?_⟩
  rw [hr] at hj
  obtain rfl : j = i := by simpa using hj
  exact wpOp_step ho (fun K' hK => h K' (fun a w hS hW => hK a w ⟨hS, hW⟩))
theorem Till.done {l : Array Bool} {a : Act} {w : World} (hr : Region.ready md ops l = []) (h : Q .normal a w) : ∀ n, Till P md ops Q S x n l a w
  | 0 => ⟨hr, h⟩
  | _ + 1 => ⟨fun _ => h, by rw [hr]; simp⟩
theorem wp_till {id : Nat} {a : Act} {w : World} (x : Nat) (S : World → Prop) (hm : P.follows .mixedOrders = true) (h : Till P .any ops Q S x ops.size (Array.replicate ops.size false) a w.drew) : (Code.region id ops true).wp P Q a w :=
  wp_region_any hm h.any
end
end Go.Proofs.YtinbelghhfodiaaGreatDoor
namespace Go.Proofs.YtinbelghhfodiaaGreatDoor
open Go.RowKit
set_option linter.unusedVariables false
set_option linter.unusedSimpArgs false
def valFr (l s : Value) (b : Bool) : Value := .agg #[l, s, .bool b]
def zeroFr : Value := .agg #[.slice none 0 0, .slice none 0 0, .bool false]
theorem info3_frame : (Tryz.prog.info? 25).map (·.size) = some 3 := by kernel_rfl
theorem frame_alone {fn : Func} {p : Tmp} (hr : fn.results = #[.cell p 25]) {w : World} {b : Nat} {l s : Value} {fr : Bool} {tmps : Array Value} (h : w.heap[b]? = some (.cells #[l, s, .bool fr] 25 (0, 0))) (ht : tmps.getD p undef = .pointer (some ⟨b, 0, none⟩)) :
    (results fn tmps).run Tryz.prog w = .ok (valFr l s fr) w :=
  results_cell_row hr tmps w b 25 _ (0, 0) _ ht h Tryz.underlying25 rfl info3_frame
theorem cells3 {w : World} {b : Nat} {c0 c1 c2 : Value} {t : TypeId} {f : Nat × Nat} (h : w.heap[b]? = some (.cells #[c0, c1, c2] t f)) :
    w.cell? ⟨b, 0, none⟩ = some c0 ∧ w.cell? ⟨b, 1, none⟩ = some c1 ∧ w.cell? ⟨b, 2, none⟩ = some c2 :=
  ⟨cell_blk h 0, cell_blk h 1, cell_blk h 2⟩
theorem marks3 {w : World} {b : Nat} {c : Array Value} {t : TypeId} (h : w.heap[b]? = some (.cells c t (0, 0))) :
    w.frozen? ⟨b, 0, none⟩ = false ∧ w.frozen? ⟨b, 1, none⟩ = false ∧ w.frozen? ⟨b, 2, none⟩ = false :=
  ⟨frozen_blk h 0, frozen_blk h 1, frozen_blk h 2⟩
theorem store3 {w : World} {b : Nat} {T : TypeId} {f : Nat × Nat} {o0 o1 o2 a0 a1 a2 : Value} (h : w.heap[b]? = some (.cells #[o0, o1, o2] T f)) :
    (((w.setCell ⟨b, 0, none⟩ a0).setCell ⟨b, 1, none⟩ a1).setCell ⟨b, 2, none⟩ a2).heap[b]? = some (.cells #[a0, a1, a2] T f) := by
  have h0 := heap_setCell_at (i := 0) (u := a0) h
  simp only [List.setIfInBounds_toArray, List.set_cons_zero, List.set_cons_succ] at h0
  have h1 := heap_setCell_at (i := 1) (u := a1) h0
  simp only [List.setIfInBounds_toArray, List.set_cons_zero, List.set_cons_succ] at h1
  have h2 := heap_setCell_at (i := 2) (u := a2) h1
  simp only [List.setIfInBounds_toArray, List.set_cons_zero, List.set_cons_succ] at h2
  exact h2
theorem only3 {S : Nat → Prop} {w w' : World} {b : Nat} {a0 a1 a2 : Value} (h : Only S w w') (hb : b < w.heap.size → S b) :
    Only S w (((w'.setCell ⟨b, 0, none⟩ a0).setCell ⟨b, 1, none⟩ a1).setCell ⟨b, 2, none⟩ a2) := by
  iterate 3 (refine Only.setCell (S := S) ?_ hb _)
  exact h
end Go.Proofs.YtinbelghhfodiaaGreatDoor
namespace Go.Proofs.YtinbelghhfodiaaGreatDoor
open Go.RowKit Go.Maps
set_option linter.unusedVariables false
set_option linter.unusedSimpArgs false
theorem TypeAt.cells {w : World} {b o i : Nat} {f : Nat → List Value} {t : TypeV} (h : TypeAt w b o i t) (hf : f i = cellsTy t) : CellsAt w 5 f b o i := fun d hd => by
  rw [hf]
  match d, hd with
  | 0, _ => exact h.c0
  | 1, _ => exact h.c1
  | 2, _ => exact h.c2
  | 3, _ => exact h.c3
  | 4, _ => exact h.c4
def FrTo (w : World) (ls ss : List TypeV) (fr : Bool) (e : Ending) (w' : World) : Prop :=
  ∃ lv sv m, e = .returned (valFr lv sv fr) ∧ TRow w' w.heap.size lv ls ∧ TRow w' m sv ss ∧ w.heap.size ≤ m ∧ (∀ k, lv.ownBlock = some k → k < m) ∧ Only (fun _ => False) w w'
end Go.Proofs.YtinbelghhfodiaaGreatDoor
namespace Go.Proofs.YtinbelghhfodiaaGreatDoor
open Go.RowKit
set_option linter.unusedVariables false
set_option linter.unusedSimpArgs false
def DecP (zs : List Int) (cs : List ConstV) (n e : Int) : Prop :=
  (zs.length < 2 ∧ cs = [] ∧ n = 0 ∧ e = 3) ∨ (2 ≤ zs.length ∧ 1024 < uAt zs 0 2 ∧ cs = [] ∧ n = 0 ∧ e = 2) ∨ (2 ≤ zs.length ∧ uAt zs 0 2 = 0 ∧ cs = [] ∧ n = 0 ∧ e = 40) ∨
  (2 ≤ zs.length ∧ 1 ≤ uAt zs 0 2 ∧ uAt zs 0 2 ≤ 1024 ∧
    ((∃ e0, ReadsTo zs (uAt zs 0 2).toNat (.inr e0) ∧ cs = [] ∧ n = 0 ∧ e = e0) ∨
     (∃ ds k, ReadsTo zs (uAt zs 0 2).toNat (.inl (ds, k)) ∧ ((checkZ ds ≠ 0 ∧ cs = [] ∧ n = 0 ∧ e = checkZ ds) ∨ (checkZ ds = 0 ∧ cs = ds ∧ n = (k : Int) ∧ e = 0)))))
theorem DecP.unique {zs : List Int} {cs cs' : List ConstV} {n n' e e' : Int} (h : DecP zs cs n e) (h' : DecP zs cs' n' e') : cs = cs' ∧ n = n' ∧ e = e' := by
  rcases h with ⟨h1, rfl, rfl, rfl⟩ | ⟨h1, h2, rfl, rfl, rfl⟩ | ⟨h1, h2, rfl, rfl, rfl⟩ | ⟨h1, h2, h3, hr⟩ <;> rcases h' with ⟨h1', rfl, rfl, rfl⟩ | ⟨h1', h2', rfl, rfl, rfl⟩ | ⟨h1', h2', rfl, rfl, rfl⟩ | ⟨h1', h2', h3', hr'⟩
  all_goals first
    | exact ⟨rfl, rfl, rfl⟩
    | omega
    | skip
  rcases hr with ⟨e0, hr, rfl, rfl, rfl⟩ | ⟨ds, k, hr, hc⟩ <;> rcases hr' with ⟨e0', hr', rfl, rfl, rfl⟩ | ⟨ds', k', hr', hc'⟩
  · have := hr.unique hr'
    injection this with this
    exact ⟨rfl, rfl, this⟩
  · have := hr.unique hr'; cases this
  · have := hr.unique hr'; cases this
  · have := hr.unique hr'
    injection this with this
    injection this with h1 h2
    subst h1 h2
    rcases hc with ⟨h4, rfl, rfl, rfl⟩ | ⟨h4, rfl, rfl, rfl⟩ <;> rcases hc' with ⟨h4', rfl, rfl, rfl⟩ | ⟨h4', rfl, rfl, rfl⟩
    · exact ⟨rfl, rfl, rfl⟩
    · exact absurd h4' h4
    · exact absurd h4 h4'
    · exact ⟨rfl, rfl, rfl⟩
def Fits (c : ConstV) : Prop := ConstR c ∧ c.text.size ≤ 256
theorem sgn_fits {n : Nat} (h : n = 4 ∨ n = 8) {u : Int} (h0 : 0 ≤ u) (h1 : u < 256 ^ n) : I64 (sgn n u) := by
  rcases h with rfl | rfl
  all_goals
    unfold I64 sgn
    simp only [Int.reducePow, Nat.reduceMul, Nat.reduceSub] at h1 ⊢
    split <;> omega
theorem uAt_fits {zs : List Int} (hz : Bytish zs) (k n : Nat) (h : k + n ≤ zs.length) : 0 ≤ uAt zs k n ∧ uAt zs k n < 256 ^ n := valB_lt n _ (by simp; omega) ((hz.drop k).take n)
theorem dec_small {zs ys : List Int} {e : Int} (h : Dec zs ys e) (hl : zs.length ≤ 256) : (strOfNums ys).size ≤ 256 := by
  rw [strOfNums_size]
  rcases h with ⟨cs, hm, rfl, _⟩ | ⟨_, rfl, _⟩
  · have := (M8s_len hm.1).1
    rw [hm.2] at hl
    omega
  · simp
theorem I64.small {z : Int} (h0 : -65536 ≤ z) (h1 : z ≤ 65536) : I64 z := ⟨by omega, by omega⟩
theorem fits_of {t n a b : Int} {x : ByteArray} (ht : I64 t) (hn : I64 n) (ha : I64 a) (hb : I64 b) (hx : x.size ≤ 256) : Fits ⟨t, x, n, a, b⟩ := ⟨⟨ht, hn, ha, hb, Nat.le_trans hx (by decide)⟩, hx⟩
theorem zeroK_fits : Fits zeroK := fits_of (I64.small (by decide) (by decide)) (I64.small (by decide) (by decide)) (I64.small (by decide) (by decide)) (I64.small (by decide) (by decide)) (by decide)
theorem RdC.fits {zs : List Int} (hz : Bytish zs) {k k' : Nat} {tag : Int} {c : ConstV} (h : RdC zs k tag c k' 0) : Fits c ∧ k' ≤ zs.length := by
  unfold RdC at h
  by_cases h1 : tag = 1
  · rw [if_pos h1] at h
    rcases h with ⟨_, h⟩ | ⟨_, _, h⟩ | ⟨_, _, _, h⟩ | ⟨ha, hb, hc, ys, hd, rfl, rfl⟩
    · cases h
    · cases h
    · cases h
    · have := dec_small hd (by simp; omega)
      exact ⟨fits_of (I64.small (by decide) (by decide)) (I64.small (by decide) (by decide)) (I64.small (by decide) (by decide)) (I64.small (by decide) (by decide)) this, hc⟩
  rw [if_neg h1] at h
  by_cases h3 : tag = 3
  · rw [if_pos h3] at h
    rcases h with ⟨_, h⟩ | ⟨ha, _, rfl, rfl⟩
    · cases h
    · have := uAt_fits hz k 4 ha
      exact ⟨fits_of (I64.small (by decide) (by decide)) (sgn_fits (.inl rfl) this.1 this.2) (I64.small (by decide) (by decide)) (I64.small (by decide) (by decide)) (by decide), ha⟩
  rw [if_neg h3] at h
  by_cases h5 : tag = 5
  · rw [if_pos h5] at h
    rcases h with ⟨_, h⟩ | ⟨ha, _, rfl, rfl⟩
    · cases h
    · have := uAt_fits hz k 8 ha
      exact ⟨fits_of (I64.small (by decide) (by decide)) (sgn_fits (.inr rfl) this.1 this.2) (I64.small (by decide) (by decide)) (I64.small (by decide) (by decide)) (by decide), ha⟩
  rw [if_neg h5] at h
  by_cases h7 : tag = 7
  · rw [if_pos h7] at h
    rcases h with ⟨_, h⟩ | ⟨ha, _, rfl, rfl⟩
    · cases h
    · have := uAt_fits hz k 2 ha
      simp only [Int.reducePow] at this
      exact ⟨fits_of (I64.small (by decide) (by decide)) (I64.small (by decide) (by decide)) (I64.small (by omega) (by omega)) (I64.small (by decide) (by decide)) (by decide), ha⟩
  rw [if_neg h7] at h
  by_cases h9 : tag = 9 ∨ tag = 10 ∨ tag = 12
  · rw [if_pos h9] at h
    rcases h with ⟨_, h⟩ | ⟨ha, _, rfl, rfl⟩
    · cases h
    · have h1 := uAt_fits hz k 2 (by omega)
      have h2 := uAt_fits hz (k + 2) 2 (by omega)
      simp only [Int.reducePow] at h1 h2
      exact ⟨fits_of (I64.small (by omega) (by omega)) (I64.small (by decide) (by decide)) (I64.small (by omega) (by omega)) (I64.small (by omega) (by omega)) (by decide), ha⟩
  rw [if_neg h9] at h
  cases h
theorem Reads.fits {zs : List Int} (hz : Bytish zs) (h2 : 2 ≤ zs.length) {cs : List ConstV} {k : Nat} (h : Reads zs cs k) : (∀ c ∈ cs, Fits c) ∧ k ≤ zs.length := by
  induction h with
  | start => exact ⟨fun c hc => by simp at hc; subst hc; exact zeroK_fits, h2⟩
  | more _ r ih =>
    rcases r with ⟨_, h⟩ | ⟨_, hr⟩
    · cases h
    · have := hr.fits hz
      refine ⟨fun c hc => ?_, this.2⟩
      rcases List.mem_append.1 hc with hc | hc
      · exact ih.1 c hc
      · simp at hc; subst hc; exact this.1
def cellsC (c : ConstV) : List Value := [.int .i64 c.tag, .string c.text, .int .i64 c.n, .int .i64 c.a, .int .i64 c.b]
def RowC (w : World) (B : Nat) (v : Value) (cs : List ConstV) : Prop := w.ownsRow B 113 5 v cs.length (cs.flatMap cellsC)
theorem cellsC_at : ∀ {cs : List ConstV} {i d : Nat}, i < cs.length → d < 5 → (cs.flatMap cellsC)[i * 5 + d]? = (cellsC (cs.getD i default))[d]?
  | c :: r, 0, d, _, hd => by
    rw [List.flatMap_cons, List.getElem?_append_left (by simp [cellsC]; omega)]
    simp
  | c :: r, i + 1, d, hi, hd => by
    rw [List.flatMap_cons, List.getElem?_append_right (by simp [cellsC]; omega)]
    have : (i + 1) * 5 + d - (cellsC c).length = i * 5 + d := by simp [cellsC]; omega
    rw [this, cellsC_at (by simpa using hi) hd]
    simp
theorem RowC.pool {w : World} {B : Nat} {v : Value} {cs : List ConstV} (h : RowC w B v cs) (hr : ∀ c ∈ cs, ConstR c) : Pool w v cs := by
  rcases h.2 with ⟨rfl, hn⟩ | ⟨g, cap, cur, rfl, hb, hg, hnc, hcm, hcs, htake⟩
  · have : cs = [] := List.eq_nil_of_length_eq_zero hn
    subst this
    exact ⟨none, 0, rfl, Nat.le_refl _, by omega, fun _ => rfl, hr, fun x hx _ => by cases hx⟩
  · refine ⟨_, cap, rfl, hnc, by unfold maxLen at hcm; omega, (fun e => by cases e), hr, fun x hx _ => ?_⟩
    cases hx
    refine ⟨g, 0, rfl, fun i hi => ?_⟩
    have hc : ∀ d, d < 5 → w.cell? ⟨g, 0 + i * 5 + d, none⟩ = (cellsC (cs.getD i default))[d]? := fun d hd => by
      rw [Nat.zero_add, ← cellsC_at hi hd]
      exact (show w.ownsRow B _ 5 _ _ _ from h).cellAt (g := g) (cap := cap) (i * 5 + d) (by omega)
    exact ⟨hc 0 (by decide), hc 1 (by decide), hc 2 (by decide), hc 3 (by decide), hc 4 (by decide)⟩
theorem RowC.only {S : Nat → Prop} {w w' : World} {B : Nat} {v : Value} {cs : List ConstV} (h : RowC w B v cs) (ho : Only S w w') (hs : ∀ k, v.ownBlock = some k → ¬ S k) : RowC w' B v cs := ho.owns h hs
theorem RowC.ge {w : World} {B : Nat} {v : Value} {cs : List ConstV} (h : RowC w B v cs) : ∀ k, v.ownBlock = some k → B ≤ k ∧ k < w.heap.size := fun k hk => World.ownsRow.lt h k hk
theorem uAt_mid (pre mid post : List Int) (k n : Nat) (hk : k = pre.length) (hn : mid.length = n) : uAt (pre ++ (mid ++ post)) k n = valB mid := by
  subst hk hn
  unfold uAt
  rw [List.drop_left, List.take_left]
theorem valB_be2 {n : Int} (h0 : 0 ≤ n) (h1 : n ≤ 65535) : valB (be2 n) = n := by
  simp [valB, be2]
  omega
theorem sgn_back {n : Nat} (h : n = 4 ∨ n = 8) {v z : Int} (h0 : -(2 ^ (8 * n - 1)) ≤ z) (h1 : z < 2 ^ (8 * n - 1)) (hv : v = z % 2 ^ (8 * n)) : sgn n v = z := by
  unfold sgn
  subst hv
  rcases h with rfl | rfl
  all_goals
    simp only [Nat.reduceMul, Nat.reduceSub, Int.reducePow] at h0 h1 ⊢
    by_cases hz : 0 ≤ z
    · rw [if_neg (by omega)]; omega
    · rw [if_pos (by omega)]; omega
theorem valB_four {n : Int} (h0 : -2147483648 ≤ n) (h1 : n ≤ 2147483647) : sgn 4 (valB [n / 16777216 % 256, n / 65536 % 256, n / 256 % 256, n % 256]) = n := by
  apply sgn_back (.inl rfl) (by simp only [Nat.reduceMul, Nat.reduceSub, Int.reducePow]; omega) (by simp only [Nat.reduceMul, Nat.reduceSub, Int.reducePow]; omega)
  simp only [valB, List.foldl, Nat.reduceMul, Int.reducePow]
  omega
theorem valB_eight {n : Int} (h : I64 n) : sgn 8 (valB [n / 72057594037927936 % 256, n / 281474976710656 % 256, n / 1099511627776 % 256, n / 4294967296 % 256, n / 16777216 % 256, n / 65536 % 256, n / 256 % 256, n % 256]) = n := by
  unfold I64 at h
  apply sgn_back (.inr rfl) (by simp only [Nat.reduceMul, Nat.reduceSub, Int.reducePow]; omega) (by simp only [Nat.reduceMul, Nat.reduceSub, Int.reducePow]; omega)
  simp only [valB, List.foldl, Nat.reduceMul, Int.reducePow]
  omega
theorem enc_dec {x : ByteArray} {ys : List Int} (h : Enc (nums x) ys 0) : Dec ys (nums x) 0 := by
  rcases h with ⟨cs, ht, rfl, _⟩ | ⟨_, _, h⟩
  · exact .inl ⟨cs, ⟨ht.1, rfl⟩, ht.2, rfl⟩
  · cases h
theorem strOf_nums (x : ByteArray) : strOfNums (nums x) = x := by
  rcases x with ⟨⟨l⟩⟩
  have : strOfNums (nums ⟨⟨l⟩⟩) = ⟨(((numsL l).map fun n => UInt8.ofNat n.toNat)).toArray⟩ := rfl
  rw [this]
  congr 2
  unfold numsL
  rw [List.map_map]
  conv => rhs; rw [← List.map_id l]
  apply List.map_congr_left
  intro u _
  simp
theorem ConstB.read {pre post b : List Int} {c : ConstV} (h : ConstB c b) (hbare : bareZ c = true) (hn : I64 c.n)
    (hr : (c.tag = 3 → -2147483648 ≤ c.n ∧ c.n ≤ 2147483647) ∧ (c.tag = 7 ∨ c.tag = 9 ∨ c.tag = 10 ∨ c.tag = 12 → 0 ≤ c.a ∧ c.a ≤ 1023) ∧ (c.tag = 9 ∨ c.tag = 10 ∨ c.tag = 12 → 0 ≤ c.b ∧ c.b ≤ 1023)) :
    RdOne (pre ++ (b ++ post)) pre.length c (pre ++ b).length 0 := by
  obtain ⟨t, x, n, a, bb⟩ := c
  obtain ⟨hr3, hra, hrb⟩ := hr
  simp only at hr3 hra hrb hn hbare
  rcases h with ⟨ht, ys, he, hl, rfl⟩ | ⟨ht, rfl⟩ | ⟨ht, rfl⟩ | ⟨ht, rfl⟩ | ⟨ht, rfl⟩
  · simp only at ht he
    subst ht
    simp [bareZ] at hbare
    obtain ⟨rfl, rfl, rfl⟩ := hbare
    have e0 : pre ++ ((1 :: be2 (ys.length : Int) ++ ys) ++ post) = pre ++ ([1] ++ (be2 ys.length ++ ys ++ post)) := by simp
    have e1 : pre ++ ((1 :: be2 (ys.length : Int) ++ ys) ++ post) = (pre ++ [1]) ++ (be2 ys.length ++ (ys ++ post)) := by simp
    have e2 : pre ++ ((1 :: be2 (ys.length : Int) ++ ys) ++ post) = (pre ++ [1] ++ be2 ys.length) ++ (ys ++ post) := by simp
    have u0 : uAt (pre ++ ((1 :: be2 (ys.length : Int) ++ ys) ++ post)) pre.length 1 = 1 := by rw [e0, uAt_mid pre [1] _ _ 1 rfl rfl]; rfl
    have u1 : uAt (pre ++ ((1 :: be2 (ys.length : Int) ++ ys) ++ post)) (pre.length + 1) 2 = (ys.length : Int) := by
      rw [e1, uAt_mid (pre ++ [1]) (be2 ys.length) _ _ 2 (by simp) rfl, valB_be2 (by omega) (by omega)]
    refine .inr ⟨by simp, ?_⟩
    rw [u0]
    unfold RdC
    rw [if_pos rfl]
    refine .inr (.inr (.inr ⟨by simp [be2]; omega, by rw [u1]; omega, by rw [u1]; simp [be2]; omega, nums x, ?_, by rw [strOf_nums], by rw [u1]; simp [be2]; omega⟩))
    rw [u1, Int.toNat_natCast]
    have : ((pre ++ ((1 :: be2 (ys.length : Int) ++ ys) ++ post)).drop (pre.length + 1 + 2)).take ys.length = ys := by
      rw [e2, show pre.length + 1 + 2 = (pre ++ [1] ++ be2 (ys.length : Int)).length by simp [be2], List.drop_left, List.take_left]
    rw [this]
    exact enc_dec he
  · simp only at ht
    subst ht
    simp [bareZ] at hbare
    obtain ⟨rfl, rfl, rfl⟩ := hbare
    have e0 : pre ++ ((3 :: [n / 16777216 % 256, n / 65536 % 256, n / 256 % 256, n % 256]) ++ post) = pre ++ ([3] ++ ([n / 16777216 % 256, n / 65536 % 256, n / 256 % 256, n % 256] ++ post)) := by simp
    have e1 : pre ++ ((3 :: [n / 16777216 % 256, n / 65536 % 256, n / 256 % 256, n % 256]) ++ post) = (pre ++ [3]) ++ ([n / 16777216 % 256, n / 65536 % 256, n / 256 % 256, n % 256] ++ post) := by simp
    have u0 : uAt (pre ++ ((3 :: [n / 16777216 % 256, n / 65536 % 256, n / 256 % 256, n % 256]) ++ post)) pre.length 1 = 3 := by rw [e0, uAt_mid pre [3] _ _ 1 rfl rfl]; rfl
    have u1 : uAt (pre ++ ((3 :: [n / 16777216 % 256, n / 65536 % 256, n / 256 % 256, n % 256]) ++ post)) (pre.length + 1) 4 = valB ([n / 16777216 % 256, n / 65536 % 256, n / 256 % 256, n % 256]) := by rw [e1, uAt_mid (pre ++ [3]) ([n / 16777216 % 256, n / 65536 % 256, n / 256 % 256, n % 256]) _ _ 4 (by simp) rfl]
    refine .inr ⟨by simp, ?_⟩
    rw [u0]
    unfold RdC
    rw [if_neg (by decide), if_pos rfl]
    refine .inr ⟨by simp [be2]; omega, rfl, ?_, by simp⟩
    rw [u1]
    show _ = (⟨3, noText, sgn 4 (valB _), 0, 0⟩ : ConstV)
    rw [valB_four (hr3 rfl).1 (hr3 rfl).2]
    rfl
  · simp only at ht
    subst ht
    simp [bareZ] at hbare
    obtain ⟨rfl, rfl, rfl⟩ := hbare
    have e0 : pre ++ ((5 :: [n / 72057594037927936 % 256, n / 281474976710656 % 256, n / 1099511627776 % 256, n / 4294967296 % 256, n / 16777216 % 256, n / 65536 % 256, n / 256 % 256, n % 256]) ++ post) = pre ++ ([5] ++ ([n / 72057594037927936 % 256, n / 281474976710656 % 256, n / 1099511627776 % 256, n / 4294967296 % 256, n / 16777216 % 256, n / 65536 % 256, n / 256 % 256, n % 256] ++ post)) := by simp
    have e1 : pre ++ ((5 :: [n / 72057594037927936 % 256, n / 281474976710656 % 256, n / 1099511627776 % 256, n / 4294967296 % 256, n / 16777216 % 256, n / 65536 % 256, n / 256 % 256, n % 256]) ++ post) = (pre ++ [5]) ++ ([n / 72057594037927936 % 256, n / 281474976710656 % 256, n / 1099511627776 % 256, n / 4294967296 % 256, n / 16777216 % 256, n / 65536 % 256, n / 256 % 256, n % 256] ++ post) := by simp
    have u0 : uAt (pre ++ ((5 :: [n / 72057594037927936 % 256, n / 281474976710656 % 256, n / 1099511627776 % 256, n / 4294967296 % 256, n / 16777216 % 256, n / 65536 % 256, n / 256 % 256, n % 256]) ++ post)) pre.length 1 = 5 := by rw [e0, uAt_mid pre [5] _ _ 1 rfl rfl]; rfl
    have u1 : uAt (pre ++ ((5 :: [n / 72057594037927936 % 256, n / 281474976710656 % 256, n / 1099511627776 % 256, n / 4294967296 % 256, n / 16777216 % 256, n / 65536 % 256, n / 256 % 256, n % 256]) ++ post)) (pre.length + 1) 8 = valB ([n / 72057594037927936 % 256, n / 281474976710656 % 256, n / 1099511627776 % 256, n / 4294967296 % 256, n / 16777216 % 256, n / 65536 % 256, n / 256 % 256, n % 256]) := by rw [e1, uAt_mid (pre ++ [5]) ([n / 72057594037927936 % 256, n / 281474976710656 % 256, n / 1099511627776 % 256, n / 4294967296 % 256, n / 16777216 % 256, n / 65536 % 256, n / 256 % 256, n % 256]) _ _ 8 (by simp) rfl]
    refine .inr ⟨by simp, ?_⟩
    rw [u0]
    unfold RdC
    rw [if_neg (by decide), if_neg (by decide), if_pos rfl]
    refine .inr ⟨by simp [be2]; omega, rfl, ?_, by simp⟩
    rw [u1]
    show _ = (⟨5, noText, sgn 8 (valB _), 0, 0⟩ : ConstV)
    rw [valB_eight hn]
    rfl
  · simp only at ht
    subst ht
    simp [bareZ] at hbare
    obtain ⟨rfl, rfl, rfl⟩ := hbare
    have e0 : pre ++ ((7 :: be2 a) ++ post) = pre ++ ([7] ++ (be2 a ++ post)) := by simp
    have e1 : pre ++ ((7 :: be2 a) ++ post) = (pre ++ [7]) ++ (be2 a ++ post) := by simp
    have u0 : uAt (pre ++ ((7 :: be2 a) ++ post)) pre.length 1 = 7 := by rw [e0, uAt_mid pre [7] _ _ 1 rfl rfl]; rfl
    have u1 : uAt (pre ++ ((7 :: be2 a) ++ post)) (pre.length + 1) 2 = valB (be2 a) := by rw [e1, uAt_mid (pre ++ [7]) (be2 a) _ _ 2 (by simp) rfl]
    refine .inr ⟨by simp, ?_⟩
    rw [u0]
    unfold RdC
    rw [if_neg (by decide), if_neg (by decide), if_neg (by decide), if_pos rfl]
    refine .inr ⟨by simp [be2]; omega, rfl, ?_, by simp [be2]⟩
    rw [u1, valB_be2 (by have := hra (.inl rfl); omega) (by have := hra (.inl rfl); omega)]
    rfl
  · simp only at ht
    have hb : x = ⟨#[]⟩ ∧ n = 0 := by
      unfold bareZ at hbare
      simp only at hbare
      rw [if_neg (by omega), if_neg (by omega), if_neg (by omega)] at hbare
      simpa using hbare
    obtain ⟨rfl, rfl⟩ := hb
    have ha := hra (by rcases ht with h | h | h <;> simp [h])
    have hb := hrb ht
    have e0 : pre ++ ((t :: be2 a ++ be2 bb) ++ post) = pre ++ ([t] ++ (be2 a ++ be2 bb ++ post)) := by simp
    have e1 : pre ++ ((t :: be2 a ++ be2 bb) ++ post) = (pre ++ [t]) ++ (be2 a ++ (be2 bb ++ post)) := by simp
    have e2 : pre ++ ((t :: be2 a ++ be2 bb) ++ post) = (pre ++ [t] ++ be2 a) ++ (be2 bb ++ post) := by simp
    have u0 : uAt (pre ++ ((t :: be2 a ++ be2 bb) ++ post)) pre.length 1 = t := by rw [e0, uAt_mid pre [t] _ _ 1 rfl rfl]; simp [valB]
    have u1 : uAt (pre ++ ((t :: be2 a ++ be2 bb) ++ post)) (pre.length + 1) 2 = a := by rw [e1, uAt_mid (pre ++ [t]) (be2 a) _ _ 2 (by simp) rfl, valB_be2 (by omega) (by omega)]
    have u2 : uAt (pre ++ ((t :: be2 a ++ be2 bb) ++ post)) (pre.length + 1 + 2) 2 = bb := by rw [e2, uAt_mid (pre ++ [t] ++ be2 a) (be2 bb) _ _ 2 (by simp [be2]) rfl, valB_be2 (by omega) (by omega)]
    refine .inr ⟨by simp, ?_⟩
    rw [u0]
    unfold RdC
    rw [if_neg (by omega), if_neg (by omega), if_neg (by omega), if_neg (by omega), if_pos ht]
    refine .inr ⟨by simp [be2]; omega, rfl, ?_, by simp [be2]⟩
    rw [u1, u2]
    rfl
theorem bare_of_one {cs : List ConstV} {c : ConstV} (h : oneZ cs c = 0) : bareZ c = true := by
  unfold oneZ at h
  by_cases hb : bareZ c = false
  · rw [if_pos hb] at h; simp at h
  · simpa using hb
theorem ConstsB.reads {all : List ConstV} (hl : all.length ≤ 1024) {cs : List ConstV} {bs : List Int} (h : ConstsB cs bs) : (∀ c ∈ cs, oneZ all c = 0 ∧ I64 c.n) → ∀ {pre post : List Int}, pre.length = 2 →
    Reads (pre ++ (bs ++ post)) (zeroK :: cs) (pre ++ bs).length := by
  induction h with
  | nil => intro _ pre post hp; simp only [List.nil_append, List.append_nil]; rw [hp]; exact .start
  | @snoc cs bs c b h1 h2 ih =>
    intro hall pre post hp
    have hc := hall c (by simp)
    have hi := ih (fun d hd => hall d (by simp [hd])) (pre := pre) (post := b ++ post) hp
    have hz := oneZ_zero hl hc.1
    have hr := ConstB.read (pre := pre ++ bs) (post := post) h2 (bare_of_one hc.1) hc.2 (by
      rcases hz with ⟨h, _⟩ | ⟨h, h0, h1⟩ | h | ⟨h, h0, h1⟩ | ⟨h, ⟨h0, h1⟩, h2, h3⟩
      · exact ⟨fun e => by omega, fun e => by omega, fun e => by omega⟩
      · exact ⟨fun e => ⟨h0, h1⟩, fun e => by omega, fun e => by omega⟩
      · exact ⟨fun e => by omega, fun e => by omega, fun e => by omega⟩
      · exact ⟨fun e => by omega, fun e => ⟨h0, h1⟩, fun e => by omega⟩
      · exact ⟨fun e => by omega, fun e => ⟨h0, h1⟩, fun e => ⟨h2, h3⟩⟩)
    have hm := Reads.more (c := c) (k' := (pre ++ bs ++ b).length) (by simpa [List.append_assoc] using hi) (by simpa [List.append_assoc] using hr)
    simpa [List.append_assoc] using hm
end Go.Proofs.YtinbelghhfodiaaGreatDoor
