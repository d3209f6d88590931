/- The document's own Below: trees of names. No condition but a length that a list can have. -/
import Derived.Test.YtcmceabkadgfiaaKndC
import Derived.Test.YtcmceabkadgfiaaClsB
namespace Go.Proofs.Ytcmceabkadgfiaa
open Go.RowKit
set_option linter.unusedVariables false
set_option linter.unusedSimpArgs false

structure PairV where
  name : ByteArray
  super : ByteArray
instance : Inhabited PairV := ⟨⟨⟨#[]⟩, ⟨#[]⟩⟩⟩
structure PairAt (w : World) (b o i : Nat) (p : PairV) : Prop where
  c0 : w.cell? ⟨b, o + i * 2, none⟩ = some (.string p.name)
  c1 : w.cell? ⟨b, o + i * 2 + 1, none⟩ = some (.string p.super)
/-- A tree as a slice that is read. -/
def Pairs (w : World) (v : Value) (l : List PairV) : Prop := Sl v l.length (fun b o i => PairAt w b o i (l.getD i default))
theorem Pairs.only {w w' : World} {v : Value} {l : List PairV} (h : Pairs w v l) (ho : Only (fun _ => False) w w') : Pairs w' v l := h.imp (fun _ _ _ _ _ h => ⟨ho.cell h.c0 (fun h => h), ho.cell h.c1 (fun h => h)⟩)
/-- The first pair with a name, from a place on. -/
def pairFrom (x : ByteArray) : Nat → List PairV → Int
  | _, [] => -1
  | i, p :: r => if p.name = x then i else pairFrom x (i + 1) r
theorem pairFrom_at {x : ByteArray} {l : List PairV} {j : Nat} (h : j < l.length) : pairFrom x j (l.drop j) = if (l.getD j default).name = x then (j : Int) else pairFrom x (j + 1) (l.drop (j + 1)) := by
  rw [List.drop_eq_getElem_cons h]
  show (if (l[j]).name = x then _ else _) = _
  rw [show l.getD j default = l[j] by simp [List.getD, h]]
theorem pairFrom_range {x : ByteArray} : ∀ (l : List PairV) (i : Nat), pairFrom x i l = -1 ∨ ∃ j : Nat, j < l.length ∧ pairFrom x i l = ((i + j : Nat) : Int)
  | [], i => .inl rfl
  | p :: r, i => by
    by_cases h : p.name = x
    · exact .inr ⟨0, by simp, by rw [pairFrom, if_pos h]; rfl⟩
    · rw [pairFrom, if_neg h]
      rcases pairFrom_range r (i + 1) with h1 | ⟨j, h1, h2⟩
      · exact .inl h1
      · exact .inr ⟨j + 1, by simpa using h1, by rw [h2]; congr 1; omega⟩
def pairOf (l : List PairV) (x : ByteArray) : Int := pairFrom x 0 l
theorem pairOf_cases (l : List PairV) (x : ByteArray) : pairOf l x = -1 ∨ ∃ j : Nat, j < l.length ∧ pairOf l x = (j : Int) := by
  rcases pairFrom_range (x := x) l 0 with h | ⟨j, h1, h2⟩
  · exact .inl h
  · exact .inr ⟨j, h1, by rw [pairOf, h2, Nat.zero_add]⟩
/-- Below, in so many steps. -/
def belowN (l : List PairV) (b : ByteArray) : Nat → ByteArray → Bool
  | 0, a => decide (a = b)
  | n + 1, a => decide (a = b) || (if pairOf l a < 0 then false else belowN l b n (l.getD (pairOf l a).toNat default).super)
def belowZ (l : List PairV) (a b : ByteArray) : Bool := belowN l b l.length a
theorem belowN_same (l : List PairV) (b : ByteArray) (n : Nat) : belowN l b n b = true := by cases n <;> simp [belowN]
theorem belowN_none {l : List PairV} {a b : ByteArray} {n : Nat} (h : a ≠ b) (hp : pairOf l a = -1) : belowN l b n a = false := by
  cases n with
  | zero => simp [belowN, h]
  | succ n => rw [belowN, hp]; simp [h]
theorem belowN_step {l : List PairV} {a b : ByteArray} {n j : Nat} (h : a ≠ b) (hp : pairOf l a = (j : Int)) : belowN l b (n + 1) a = belowN l b n (l.getD j default).super := by
  rw [belowN, hp, if_neg (by omega), Int.toNat_natCast]
  simp [h]
theorem belowN_last {l : List PairV} {a b : ByteArray} (h : a ≠ b) : belowN l b 0 a = false := by simp [belowN, h]
theorem toList_beq {a b : ByteArray} (h : a ≠ b) : (a.toList == b.toList) = false ∧ ¬ a.toList = b.toList := by
  have h2 : ¬ a.toList = b.toList := fun e => h (toList_inj' e)
  exact ⟨by rw [beq_eq_false_iff_ne]; exact h2, h2⟩

set_option maxHeartbeats 8000000 in
set_option maxRecDepth 100000 in
theorem refBelow (v : Value) (l : List PairV) (a b : ByteArray) (w : World) (hl : Pairs w v l) (hn : l.length ≤ 4611686018427387904) :
    Calls Try.prog 23 #[v, .string a, .string b] w fun e w' => e = .returned (.bool (belowZ l a b)) ∧ w = w' := by
  obtain ⟨ao, cap, rfl, p1, p2, p3, -⟩ := id hl
  have HL := Lib.hid hl
  clear hl p3
  go_enter Try.func23, Try.ntmps23
  go_wp2
  go_loop [1, 7] (fun x n => ∃ (c : ByteArray) (k : Nat), x = .string c ∧ n = .int .i64 k ∧ k ≤ l.length + 1 ∧ (k ≤ l.length → belowZ l a b = belowN l b (l.length - k) c) ∧ (k = l.length + 1 → belowZ l a b = false)) (fun _ n => l.length + 1 - (intOf n).toNat)
  case atStart => exact ⟨a, 0, rfl, rfl, by omega, fun _ => rfl, fun h => by omega⟩
  case round =>
    obtain ⟨c, k, rfl, rfl, hk, hb1, hb2⟩ := hrel
    have HB1 := Lib.hid hb1
    have HB2 := Lib.hid hb2
    clear hb1 hb2
    by_cases hlt : k ≤ l.length
    · have hkz : (k : Int) ≤ (l.length : Int) := by omega
      by_cases hcb : c = b
      · subst hcb
        have HR := Lib.hid (show belowZ l a c = true by rw [HB1.out hlt, belowN_same])
        go_wp2
        go_ret
        rw [HR.out]
        exact ⟨rfl, rfl⟩
      · obtain ⟨e1, e2⟩ := toList_beq hcb
        have HCB := Lib.hid hcb
        clear hcb
        go_wp2
        go_loop [8, 9] (fun at_ i => ∃ j : Nat, i = .int .i64 ((j : Int) - 1) ∧ j ≤ l.length ∧ at_ = .int .i64 (pairFrom c j (l.drop j))) (fun _ i => ((intOf i) + 1).toNat)
        case atStart => exact ⟨l.length, rfl, Nat.le_refl _, by rw [List.drop_length]; rfl⟩
        case round =>
          obtain ⟨j, rfl, hj, rfl⟩ := hrel
          by_cases h0 : 0 < j
          · obtain ⟨m, rfl⟩ : ∃ m, j = m + 1 := ⟨j - 1, by omega⟩
            have hm : m < l.length := by omega
            have hmz : ((m + 1 : Nat) : Int) - 1 = (m : Int) := by omega
            rw [hmz]
            obtain ⟨g, o, rfl, y⟩ := Sl.at HL.out hm
            have HP := Lib.hid (pairFrom_at (x := c) hm)
            obtain ⟨y0, y1⟩ := y
            generalize pairFrom c (m + 1) (l.drop (m + 1)) = pv at *
            have hm0 : (0 : Int) ≤ (m : Int) := by omega
            have hmlz : (m : Int) < (l.length : Int) := by omega
            generalize l.getD m default = p at *
            by_cases hpn : p.name = c
            · have HN := Lib.hid (show pairFrom c m (l.drop m) = (m : Int) by rw [HP.out, if_pos hpn])
              rw [hpn] at y0
              clear hpn hmz
              go_wp2
              go_round
              case rel => exact ⟨m, rfl, by omega, by rw [HN.out]⟩
              case measure => simp [intOf]
            · have HN := Lib.hid (show pairFrom c m (l.drop m) = pv by rw [HP.out, if_neg hpn])
              obtain ⟨n1, n2⟩ := toList_beq hpn
              clear hpn hmz
              go_wp2
              go_round
              case rel => exact ⟨m, rfl, by omega, by rw [HN.out]⟩
              case measure => simp [intOf]
          · obtain rfl : j = 0 := by omega
            rw [List.drop_zero, show pairFrom c 0 l = pairOf l c from rfl]
            rcases pairOf_cases l c with hp | ⟨q, hq, hp⟩
            · have HR := Lib.hid (show belowZ l a b = false by rw [HB1.out hlt, belowN_none HCB.out hp])
              rw [hp]
              clear hp
              go_wp2
              go_ret
              rw [HR.out]
              exact ⟨rfl, rfl⟩
            · obtain ⟨g, o, rfl, y⟩ := Sl.at HL.out hq
              obtain ⟨y0, y1⟩ := y
              have hqz : (q : Int) < (l.length : Int) := by omega
              have hq0 : ¬ (q : Int) < 0 := by omega
              have HX1 : Hid (k + 1 ≤ l.length → belowZ l a b = belowN l b (l.length - (k + 1)) (l.getD q default).super) := by
                refine Lib.hid fun hk1 => ?_
                rw [HB1.out hlt, show l.length - k = (l.length - (k + 1)) + 1 by omega, belowN_step HCB.out hp]
              have HX2 : Hid (k + 1 = l.length + 1 → belowZ l a b = false) := by
                refine Lib.hid fun hk1 => ?_
                rw [HB1.out hlt, show l.length - k = 0 by omega, belowN_last HCB.out]
              rw [hp]
              generalize l.getD q default = p at *
              clear hp
              go_wp2
              go_round
              case rel => exact ⟨p.super, k + 1, rfl, by go_num, by omega, HX1.out, HX2.out⟩
              case measure => simp [intOf]; omega
    · obtain rfl : k = l.length + 1 := by omega
      have HR := Lib.hid (HB2.out rfl)
      have hkz : ¬ ((l.length + 1 : Nat) : Int) ≤ (l.length : Int) := by omega
      clear hlt hk
      go_wp2
      go_ret
      rw [HR.out]
      exact ⟨rfl, rfl⟩
end Go.Proofs.Ytcmceabkadgfiaa
