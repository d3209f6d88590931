/- slices.IndexFunc and ContainsFunc over types with any function that decides; the program's isFresh; Find, the program's and the document's. Condition: lists that can be. -/
import Derived.Shelf.Abstract
import Derived.Test.YtadgbkjjeigpjaaMapV
import Derived.Test.YtadgbkjjeigpjaaKndW
namespace Go.Proofs.Ytadgbkjjeigpjaa
open Go.RowKit
set_option linter.unusedVariables false
set_option linter.unusedSimpArgs false

/-- The place of the first one of which p holds, from i on. -/
def idxP {α : Type} (p : α → Bool) : Nat → List α → Int
  | _, [] => -1
  | i, a :: r => if p a = true then (i : Int) else idxP p (i + 1) r
theorem idxP_skip {α : Type} {p : α → Bool} {i : Nat} {l r : List α} {a : α} (hl : l = a :: r) (h : p a = false) : idxP p i l = idxP p (i + 1) r := by rw [hl, idxP, h]; rfl
theorem idxP_here {α : Type} {p : α → Bool} {i : Nat} {l r : List α} {a : α} (hl : l = a :: r) (h : p a = true) : idxP p i l = i := by rw [hl, idxP, h]; rfl
theorem idxP_any {α : Type} (p : α → Bool) : ∀ (l : List α) (i : Nat), (l.any p = true ∧ 0 ≤ idxP p i l) ∨ (l.any p = false ∧ idxP p i l = -1)
  | [], i => .inr ⟨rfl, rfl⟩
  | a :: r, i => by
    cases h : p a with
    | true => exact .inl ⟨by rw [List.any_cons, h]; rfl, by rw [idxP_here rfl h]; omega⟩
    | false =>
      rw [List.any_cons, h, Bool.false_or, idxP_skip rfl h]
      exact idxP_any p r (i + 1)
theorem drop_getD {α : Type} [Inhabited α] {l : List α} {j : Nat} (h : j < l.length) : l.drop j = l.getD j default :: l.drop (j + 1) := by
  rw [List.drop_eq_getElem_cons h]; simp [List.getD, h]
/-- A function value that decides p of every type of a list, as long as nothing old is written. -/
def Decides (n : FuncId) (cap : Array Value) (p : TypeV → Bool) (l : List TypeV) (w : World) : Prop :=
  ∀ t ∈ l, ∀ w', Only (fun _ => False) w w' → Calls Try.prog n (#[valT t] ++ cap) w' fun e w2 => e = .returned (.bool (p t)) ∧ Only (fun _ => False) w' w2
/-! Find. -/
def atM (x : Int) (q : MapX) : Bool := q.1.at_ == x
theorem isAtM (q : MapX) (lv sv : Value) (x : Int) (b : Nat) (w : World) (h1 : ∃ a n c, lv = .slice a n c) (h2 : ∃ a n c, sv = .slice a n c) (hx : w.cell? ⟨b, 0, none⟩ = some (.int .i64 x)) : Calls Try.prog 41 #[.agg #[.int .i64 q.1.at_, lv, sv, .bool q.1.fresh], .pointer (some ⟨b, 0, none⟩)] w fun e w' => e = .returned (.bool (atM x q)) ∧ Only (fun _ => False) w w' := by
  obtain ⟨a1, n1, c1, rfl⟩ := h1
  obtain ⟨a2, n2, c2, rfl⟩ := h2
  have ho := (Only.refl (fun _ => False) w).alloc (.cells #[.int .i64 q.1.at_, .slice a1 n1 c1, .slice a2 n2 c2, .bool q.1.fresh] 99)
  have hx2 := ho.cell hx (fun h => h)
  have HO := Lib.hid ho
  unfold atM
  clear ho hx
  go_enter Try.func41, Try.ntmps41
  go_wp2
  go_ret
  exact ⟨rfl, HO.out⟩
set_option maxHeartbeats 4000000 in
set_option maxRecDepth 100000 in
theorem indexMp (v : Value) (l : List MapX) (x : Int) (b : Nat) (w : World) (hl : MapsX w v l) (hx : w.cell? ⟨b, 0, none⟩ = some (.int .i64 x)) (hn : l.length ≤ 9223372036854775806) :
    Calls Try.prog 40 #[v, .func (.func 41) #[] #[.pointer (some ⟨b, 0, none⟩)]] w fun e w' => e = .returned (.int .i64 (idxP (atM x) 0 l)) ∧ Only (fun _ => False) w w' := by
  obtain ⟨ao, cap, rfl, h1, h2, h3, h4⟩ := id hl.1
  have HL := Lib.hid hl
  have HX := Lib.hid hx
  have hen : ∀ args w, (callFunc 41 args).run Try.prog w = .ok (.enter 41 args) w := enters_of Try.func41 (by kernel_rfl) rfl
  clear hl h3 h4 hx
  go_enter Try.func40, Try.ntmps40
  go_wp2
  go_loopw [8] (fun i wr => ∃ j : Nat, i = .int .i64 j ∧ j ≤ l.length ∧ idxP (atM x) 0 l = idxP (atM x) j (l.drop j) ∧ Only (fun _ => False) w wr) (fun i _ => l.length - (intOf i).toNat)
  case atStart => exact ⟨0, rfl, Nat.zero_le _, rfl, Only.refl _ _⟩
  case round =>
    obtain ⟨j, rfl, hj, hat, hon⟩ := hrel
    have HON := Lib.hid hon
    by_cases hlt : j < l.length
    · obtain ⟨bb, o, rfl, c⟩ := Sl.at (HL.out.only hon).1 hlt
      have hd := drop_getD hlt
      have hjz : (j : Int) < (l.length : Int) := by omega
      obtain ⟨m1, m2⟩ := HL.out.2 _ (getD_mem hlt)
      obtain ⟨a1, k1, e1, -⟩ := m1.slice
      obtain ⟨a2, k2, e2, -⟩ := m2.slice
      have c1 := isAtM (l.getD j default) _ _ x b wr ⟨_, _, _, e1⟩ ⟨_, _, _, e2⟩ (hon.cell HX.out (fun h => h))
      obtain ⟨q0, q1, q2, q3⟩ := c
      rw [e1] at q1 c1
      rw [e2] at q2 c1
      clear e1 e2 m1 m2
      cases hx : atM x (l.getD j default) with
      | true =>
        have HR := Lib.hid (show idxP (atM x) 0 l = j by rw [hat, idxP_here hd hx])
        rw [hx] at c1
        have C1 := Lib.hid c1
        generalize l.getD j default = k at *
        clear hat hd hx hon c1
        go_wp2_with (fail)
        refine C1.out.mono ?_
        rintro e w1 ⟨rfl, ho1⟩
        have HON1 := Lib.hid (HON.out.trans ho1 (fun _ h _ => h))
        clear ho1 C1
        go_wp2
        go_ret
        rw [HR.out]
        exact ⟨rfl, HON1.out⟩
      | false =>
        have HR := Lib.hid (show idxP (atM x) 0 l = idxP (atM x) (j + 1) (l.drop (j + 1)) by rw [hat, idxP_skip hd hx])
        rw [hx] at c1
        have C1 := Lib.hid c1
        generalize l.getD j default = k at *
        clear hat hd hx hon c1
        go_wp2_with (fail)
        refine C1.out.mono ?_
        rintro e w1 ⟨rfl, ho1⟩
        have HON1 := Lib.hid (HON.out.trans ho1 (fun _ h _ => h))
        clear ho1 C1
        go_wp2
        go_roundw
        case rel => exact ⟨j + 1, by go_num, by omega, HR.out, HON1.out⟩
        case measure => simp [intOf]; omega
    · have HR := Lib.hid (show idxP (atM x) 0 l = -1 by rw [hat, List.drop_of_length_le (by omega)]; rfl)
      obtain rfl : j = l.length := by omega
      clear hat hj hlt hon
      go_wp2
      go_ret
      rw [HR.out]
      exact ⟨rfl, HON.out⟩
set_option maxHeartbeats 2000000 in
set_option maxRecDepth 100000 in
theorem mFind (v : Value) (l : List MapX) (x : Int) (w : World) (hl : MapsX w v l) (hn : l.length ≤ 9223372036854775806) :
    Calls Try.prog 21 #[v, .int .i64 x] w fun e w' => e = .returned (.int .i64 (idxP (atM x) 0 l)) ∧ Only (fun _ => False) w w' := by
  have ho := (Only.refl (fun _ => False) w).alloc (.cells #[.int .i64 x] 3)
  have hb := heap_alloc_new w (.cells #[.int .i64 x] 3)
  have c1 := indexMp v l x w.heap.size _ (hl.only ho) (cell_blk hb 0) hn
  obtain ⟨ao, cap, rfl, h1, h2, h3, h4⟩ := id hl.1
  have HO := Lib.hid ho
  have C1 := Lib.hid c1
  clear ho hb c1 hl h3 h4
  go_enter Try.func21, Try.ntmps21
  go_wp2_with (fail)
  refine C1.out.mono ?_
  rintro e w1 ⟨rfl, ho1⟩
  have HO1 := Lib.hid (HO.out.trans ho1 (fun _ h _ => h))
  clear ho1 C1
  go_wp2
  go_ret
  exact ⟨rfl, HO1.out⟩
theorem refFind (v : Value) (l : List MapX) (x : Int) (w : World) (hl : MapsX w v l) (hn : l.length ≤ 9223372036854775806) :
    Calls Try.prog 22 #[v, .int .i64 x] w fun e w' => e = .returned (.int .i64 (idxP (atM x) 0 l)) ∧ w = w' := by
  obtain ⟨ao, cap, rfl, h1, h2, h3, h4⟩ := id hl.1
  have HL := Lib.hid hl
  clear hl h3 h4
  go_enter Try.func22, Try.ntmps22
  go_wp2
  go_loop [5] (fun i => ∃ j : Nat, i = .int .i64 j ∧ j ≤ l.length ∧ idxP (atM x) 0 l = idxP (atM x) j (l.drop j)) (fun i => l.length - (intOf i).toNat)
  case atStart => exact ⟨0, rfl, Nat.zero_le _, rfl⟩
  case round =>
    obtain ⟨j, rfl, hj, hat⟩ := hrel
    by_cases hlt : j < l.length
    · obtain ⟨b, o, rfl, c⟩ := Sl.at HL.out.1 hlt
      have hd := drop_getD hlt
      have hjz : (j : Int) < (l.length : Int) := by omega
      have hc0 := c.c0
      cases hx : atM x (l.getD j default) with
      | true =>
        have HR := Lib.hid (show idxP (atM x) 0 l = j by rw [hat, idxP_here hd hx])
        have hxe : (l.getD j default).1.at_ = x := by unfold atM at hx; simpa using hx
        rw [hxe] at hc0
        generalize l.getD j default = k at *
        clear c hat hd hx hxe
        go_wp2
        go_ret
        rw [HR.out]
        exact ⟨rfl, rfl⟩
      | false =>
        have HR := Lib.hid (show idxP (atM x) 0 l = idxP (atM x) (j + 1) (l.drop (j + 1)) by rw [hat, idxP_skip hd hx])
        have hxb : ((l.getD j default).1.at_ == x) = false := hx
        generalize l.getD j default = k at *
        clear c hat hd hx
        go_wp2
        go_round
        case rel => exact ⟨j + 1, by go_num, by omega, HR.out⟩
        case measure => simp [intOf]; omega
    · have HR := Lib.hid (show idxP (atM x) 0 l = -1 by rw [hat, List.drop_of_length_le (by omega)]; rfl)
      obtain rfl : j = l.length := by omega
      clear hat hj hlt
      go_wp2
      go_ret
      rw [HR.out]
      exact ⟨rfl, rfl⟩
end Go.Proofs.Ytadgbkjjeigpjaa
