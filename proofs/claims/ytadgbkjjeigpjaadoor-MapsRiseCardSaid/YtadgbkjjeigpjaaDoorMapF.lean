/- slices.IndexFunc and ContainsFunc over types with any function that decides; the program's isFresh; Find, the program's and the document's. Condition: lists that can be. -/
import Derived.Shelf.Abstract
import Derived.Test.YtadgbkjjeigpjaaDoorMapV
import Derived.Test.YtadgbkjjeigpjaaDoorGKndC
namespace Go.Proofs.YtadgbkjjeigpjaaDoor
open Go.RowKit
set_option linter.unusedVariables false
set_option linter.unusedSimpArgs false

/-- The place of the first one of which p holds, from i on. -/
def idxP {α : Type} (p : α → Bool) : Nat → List α → Int
  | _, [] => -1
  | i, a :: r => if p a = true then (i : Int) else idxP p (i + 1) r
theorem idxP_skip {α : Type} {p : α → Bool} {i : Nat} {l r : List α} {a : α} (hl : l = a :: r) (h : p a = false) : idxP p i l = idxP p (i + 1) r := by rw [hl, idxP, h]; rfl
theorem idxP_here {α : Type} {p : α → Bool} {i : Nat} {l r : List α} {a : α} (hl : l = a :: r) (h : p a = true) : idxP p i l = i := by rw [hl, idxP, h]; rfl
theorem idxP_any {α : Type} (p : α → Bool) : ∀ (l : List α) (i : Nat), (l.any p = true ∧ 0 ≤ idxP p i l) ∨ (l.any p = false ∧ idxP p i l = -1)
  | [], i => .inr ⟨rfl, rfl⟩
  | a :: r, i => by
    cases h : p a with
    | true => exact .inl ⟨by rw [List.any_cons, h]; rfl, by rw [idxP_here rfl h]; omega⟩
    | false =>
      rw [List.any_cons, h, Bool.false_or, idxP_skip rfl h]
      exact idxP_any p r (i + 1)
theorem drop_getD {α : Type} [Inhabited α] {l : List α} {j : Nat} (h : j < l.length) : l.drop j = l.getD j default :: l.drop (j + 1) := by
  rw [List.drop_eq_getElem_cons h]; simp [List.getD, h]
/-- A function value that decides p of every type of a list, as long as nothing old is written. -/
def Decides (n : FuncId) (cap : Array Value) (p : TypeV → Bool) (l : List TypeV) (w : World) : Prop :=
  ∀ t ∈ l, ∀ w', Only (fun _ => False) w w' → Calls Tryd.prog n (#[valT t] ++ cap) w' fun e w2 => e = .returned (.bool (p t)) ∧ Only (fun _ => False) w' w2
set_option maxHeartbeats 4000000 in
set_option maxRecDepth 100000 in
theorem indexT (n : FuncId) (hn : Enters Tryd.prog n) (cap : Array Value) (p : TypeV → Bool) (v : Value) (l : List TypeV) (w : World) (hl : Types w v l) (hd : Decides n cap p l w) (hn : l.length ≤ 9223372036854775806) :
    Calls Tryd.prog 76 #[v, .func (.func n) #[] cap] w fun e w' => e = .returned (.int .i64 (idxP p 0 l)) ∧ Only (fun _ => False) w w' := by
  obtain ⟨ao, cp, rfl, h1, h2, h3, h4⟩ := id hl
  have HL := Lib.hid hl
  have HD := Lib.hid hd
  have hen : ∀ args w, (callFunc n args).run Tryd.prog w = .ok (.enter n args) w := by assumption
  clear hl h3 h4 hd
  go_enter Tryd.func76, Tryd.ntmps76
  go_wp2
  go_loopw [8] (fun i wr => ∃ j : Nat, i = .int .i64 j ∧ j ≤ l.length ∧ idxP p 0 l = idxP p j (l.drop j) ∧ Only (fun _ => False) w wr) (fun i _ => l.length - (intOf i).toNat)
  case atStart => exact ⟨0, rfl, Nat.zero_le _, rfl, Only.refl _ _⟩
  case round =>
    obtain ⟨j, rfl, hj, hat, hon⟩ := hrel
    have HON := Lib.hid hon
    by_cases hlt : j < l.length
    · obtain ⟨bb, o, rfl, c⟩ := Sl.at (HL.out.only hon) hlt
      have hd := drop_getD hlt
      have hjz : (j : Int) < (l.length : Int) := by omega
      have c1 := HD.out _ (getD_mem hlt) wr hon
      obtain ⟨q0, q1, q2, q3, q4⟩ := c
      cases hx : p (l.getD j default) with
      | true =>
        have HR := Lib.hid (show idxP p 0 l = j by rw [hat, idxP_here hd hx])
        rw [hx] at c1
        unfold valT at c1
        have C1 := Lib.hid c1
        generalize l.getD j default = k at *
        clear hat hd hx hon c1
        go_wp2_with (fail)
        refine C1.out.mono ?_
        rintro e w1 ⟨rfl, ho1⟩
        have HON1 := Lib.hid (HON.out.trans ho1 (fun _ h _ => h))
        clear ho1 C1
        go_wp2
        go_ret
        rw [HR.out]
        exact ⟨rfl, HON1.out⟩
      | false =>
        have HR := Lib.hid (show idxP p 0 l = idxP p (j + 1) (l.drop (j + 1)) by rw [hat, idxP_skip hd hx])
        rw [hx] at c1
        unfold valT at c1
        have C1 := Lib.hid c1
        generalize l.getD j default = k at *
        clear hat hd hx hon c1
        go_wp2_with (fail)
        refine C1.out.mono ?_
        rintro e w1 ⟨rfl, ho1⟩
        have HON1 := Lib.hid (HON.out.trans ho1 (fun _ h _ => h))
        clear ho1 C1
        go_wp2
        go_roundw
        case rel => exact ⟨j + 1, by go_num, by omega, HR.out, HON1.out⟩
        case measure => simp [intOf]; omega
    · have HR := Lib.hid (show idxP p 0 l = -1 by rw [hat, List.drop_of_length_le (by omega)]; rfl)
      obtain rfl : j = l.length := by omega
      clear hat hj hlt hon
      go_wp2
      go_ret
      rw [HR.out]
      exact ⟨rfl, HON.out⟩
set_option maxHeartbeats 4000000 in
set_option maxRecDepth 100000 in
theorem containsT (n : FuncId) (hn : Enters Tryd.prog n) (cap : Array Value) (p : TypeV → Bool) (v : Value) (l : List TypeV) (w : World) (hl : Types w v l) (hd : Decides n cap p l w) (hn : l.length ≤ 9223372036854775806) :
    Calls Tryd.prog 61 #[v, .func (.func n) #[] cap] w fun e w' => e = .returned (.bool (l.any p)) ∧ Only (fun _ => False) w w' := by
  have c1 := indexT n (by assumption) cap p v l w hl hd (by assumption)
  obtain ⟨ao, cp, rfl, h1, h2, h3, h4⟩ := id hl
  rcases idxP_any p l 0 with ⟨ha, hi⟩ | ⟨ha, hi⟩
  · rw [ha]
    generalize idxP p 0 l = z at *
    have C1 := Lib.hid c1
    clear c1 hl hd h3 h4 ha
    go_enter Tryd.func61, Tryd.ntmps61
    go_wp2_with (fail)
    refine C1.out.mono ?_
    rintro e w1 ⟨rfl, ho1⟩
    have HON1 := Lib.hid ho1
    clear ho1 C1
    go_wp2
    go_ret
    exact ⟨rfl, HON1.out⟩
  · rw [ha]
    rw [hi] at c1
    have C1 := Lib.hid c1
    clear c1 hl hd h3 h4 ha hi
    go_enter Tryd.func61, Tryd.ntmps61
    go_wp2_with (fail)
    refine C1.out.mono ?_
    rintro e w1 ⟨rfl, ho1⟩
    have HON1 := Lib.hid ho1
    clear ho1 C1
    go_wp2
    go_ret
    exact ⟨rfl, HON1.out⟩
theorem isThis (t : TypeV) (w : World) : Calls Tryd.prog 62 #[valT t] w fun e w' => e = .returned (.bool (t.k == 7)) ∧ Only (fun _ => False) w w' := by
  have ho := (Only.refl (fun _ => False) w).alloc (.cells #[.int .i64 t.k, .string t.name, .int .i64 t.dims, .int .i64 t.elem, .int .i64 t.at_] 39)
  have HO := Lib.hid ho
  clear ho
  unfold valT
  go_enter Tryd.func62, Tryd.ntmps62
  go_wp2
  go_ret
  exact ⟨rfl, HO.out⟩
set_option maxRecDepth 100000 in
theorem mIsFresh (v : Value) (l : List TypeV) (w : World) (hl : Types w v l) (hn : l.length ≤ 9223372036854775806) :
    Calls Tryd.prog 49 #[v] w fun e w' => e = .returned (.bool (freshM l)) ∧ Only (fun _ => False) w w' := by
  have c1 := containsT 62 (enters_of Tryd.func62 (by kernel_rfl) rfl) #[] (fun t => t.k == 7) v l w hl (fun t _ w' _ => isThis t w') hn
  have hf : l.any (fun t => t.k == 7) = freshM l := rfl
  rw [hf] at c1
  obtain ⟨ao, cp, rfl, h1, h2, h3, h4⟩ := id hl
  have C1 := Lib.hid c1
  clear c1 hl h3 h4 hf
  go_enter Tryd.func49, Tryd.ntmps49
  go_wp2_with (fail)
  refine C1.out.mono ?_
  rintro e w1 ⟨rfl, ho1⟩
  have HON1 := Lib.hid ho1
  clear ho1 C1
  go_wp2
  go_ret
  exact ⟨rfl, HON1.out⟩

/-! Find. -/
def atM (x : Int) (q : MapX) : Bool := q.1.at_ == x
theorem isAtM (q : MapX) (lv sv : Value) (x : Int) (b : Nat) (w : World) (h1 : ∃ a n c, lv = .slice a n c) (h2 : ∃ a n c, sv = .slice a n c) (hx : w.cell? ⟨b, 0, none⟩ = some (.int .i64 x)) : Calls Tryd.prog 21 #[.agg #[.int .i64 q.1.at_, lv, sv, .bool q.1.fresh], .pointer (some ⟨b, 0, none⟩)] w fun e w' => e = .returned (.bool (atM x q)) ∧ Only (fun _ => False) w w' := by
  obtain ⟨a1, n1, c1, rfl⟩ := h1
  obtain ⟨a2, n2, c2, rfl⟩ := h2
  have ho := (Only.refl (fun _ => False) w).alloc (.cells #[.int .i64 q.1.at_, .slice a1 n1 c1, .slice a2 n2 c2, .bool q.1.fresh] 37)
  have hx2 := ho.cell hx (fun h => h)
  have HO := Lib.hid ho
  unfold atM
  clear ho hx
  go_enter Tryd.func21, Tryd.ntmps21
  go_wp2
  go_ret
  exact ⟨rfl, HO.out⟩
set_option maxHeartbeats 4000000 in
set_option maxRecDepth 100000 in
theorem indexMp (v : Value) (l : List MapX) (x : Int) (b : Nat) (w : World) (hl : MapsX w v l) (hx : w.cell? ⟨b, 0, none⟩ = some (.int .i64 x)) (hn : l.length ≤ 9223372036854775806) :
    Calls Tryd.prog 20 #[v, .func (.func 21) #[] #[.pointer (some ⟨b, 0, none⟩)]] w fun e w' => e = .returned (.int .i64 (idxP (atM x) 0 l)) ∧ Only (fun _ => False) w w' := by
  obtain ⟨ao, cap, rfl, h1, h2, h3, h4⟩ := id hl.1
  have HL := Lib.hid hl
  have HX := Lib.hid hx
  have hen : ∀ args w, (callFunc 21 args).run Tryd.prog w = .ok (.enter 21 args) w := enters_of Tryd.func21 (by kernel_rfl) rfl
  clear hl h3 h4 hx
  go_enter Tryd.func20, Tryd.ntmps20
  go_wp2
  go_loopw [8] (fun i wr => ∃ j : Nat, i = .int .i64 j ∧ j ≤ l.length ∧ idxP (atM x) 0 l = idxP (atM x) j (l.drop j) ∧ Only (fun _ => False) w wr) (fun i _ => l.length - (intOf i).toNat)
  case atStart => exact ⟨0, rfl, Nat.zero_le _, rfl, Only.refl _ _⟩
  case round =>
    obtain ⟨j, rfl, hj, hat, hon⟩ := hrel
    have HON := Lib.hid hon
    by_cases hlt : j < l.length
    · obtain ⟨bb, o, rfl, c⟩ := Sl.at (HL.out.only hon).1 hlt
      have hd := drop_getD hlt
      have hjz : (j : Int) < (l.length : Int) := by omega
      obtain ⟨m1, m2⟩ := HL.out.2 _ (getD_mem hlt)
      obtain ⟨a1, k1, e1, -⟩ := m1.slice
      obtain ⟨a2, k2, e2, -⟩ := m2.slice
      have c1 := isAtM (l.getD j default) _ _ x b wr ⟨_, _, _, e1⟩ ⟨_, _, _, e2⟩ (hon.cell HX.out (fun h => h))
      obtain ⟨q0, q1, q2, q3⟩ := c
      rw [e1] at q1 c1
      rw [e2] at q2 c1
      clear e1 e2 m1 m2
      cases hx : atM x (l.getD j default) with
      | true =>
        have HR := Lib.hid (show idxP (atM x) 0 l = j by rw [hat, idxP_here hd hx])
        rw [hx] at c1
        have C1 := Lib.hid c1
        generalize l.getD j default = k at *
        clear hat hd hx hon c1
        go_wp2_with (fail)
        refine C1.out.mono ?_
        rintro e w1 ⟨rfl, ho1⟩
        have HON1 := Lib.hid (HON.out.trans ho1 (fun _ h _ => h))
        clear ho1 C1
        go_wp2
        go_ret
        rw [HR.out]
        exact ⟨rfl, HON1.out⟩
      | false =>
        have HR := Lib.hid (show idxP (atM x) 0 l = idxP (atM x) (j + 1) (l.drop (j + 1)) by rw [hat, idxP_skip hd hx])
        rw [hx] at c1
        have C1 := Lib.hid c1
        generalize l.getD j default = k at *
        clear hat hd hx hon c1
        go_wp2_with (fail)
        refine C1.out.mono ?_
        rintro e w1 ⟨rfl, ho1⟩
        have HON1 := Lib.hid (HON.out.trans ho1 (fun _ h _ => h))
        clear ho1 C1
        go_wp2
        go_roundw
        case rel => exact ⟨j + 1, by go_num, by omega, HR.out, HON1.out⟩
        case measure => simp [intOf]; omega
    · have HR := Lib.hid (show idxP (atM x) 0 l = -1 by rw [hat, List.drop_of_length_le (by omega)]; rfl)
      obtain rfl : j = l.length := by omega
      clear hat hj hlt hon
      go_wp2
      go_ret
      rw [HR.out]
      exact ⟨rfl, HON.out⟩
set_option maxHeartbeats 2000000 in
set_option maxRecDepth 100000 in
theorem mFind (v : Value) (l : List MapX) (x : Int) (w : World) (hl : MapsX w v l) (hn : l.length ≤ 9223372036854775806) :
    Calls Tryd.prog 9 #[v, .int .i64 x] w fun e w' => e = .returned (.int .i64 (idxP (atM x) 0 l)) ∧ Only (fun _ => False) w w' := by
  have ho := (Only.refl (fun _ => False) w).alloc (.cells #[.int .i64 x] 3)
  have hb := heap_alloc_new w (.cells #[.int .i64 x] 3)
  have c1 := indexMp v l x w.heap.size _ (hl.only ho) (cell_blk hb 0) hn
  obtain ⟨ao, cap, rfl, h1, h2, h3, h4⟩ := id hl.1
  have HO := Lib.hid ho
  have C1 := Lib.hid c1
  clear ho hb c1 hl h3 h4
  go_enter Tryd.func9, Tryd.ntmps9
  go_wp2_with (fail)
  refine C1.out.mono ?_
  rintro e w1 ⟨rfl, ho1⟩
  have HO1 := Lib.hid (HO.out.trans ho1 (fun _ h _ => h))
  clear ho1 C1
  go_wp2
  go_ret
  exact ⟨rfl, HO1.out⟩
end Go.Proofs.YtadgbkjjeigpjaaDoor
