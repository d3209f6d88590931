/- The program's places of names in a tree: by going through all pairs, and by a map. No condition but a length that leaves room. -/
import Derived.RangeFuncNested
import Derived.RangeFuncBound
import Derived.RangeFuncCalls
import Derived.RangeFuncLeaves
import Derived.RangeFuncBox
import Derived.Shelf.Abstract
import Derived.WalkKit
import Derived.OwnWalkIn
import Derived.TacticsInMore
import Derived.LoopNIn
import Derived.LoopIn
import Derived.Maps.OwnSet
import Derived.Maps.OwnIn
import Derived.Maps.Views
import Derived.StringKeys
import Derived.Test.YtcmceabkadgfiaaKndE
namespace Go.Proofs.Ytcmceabkadgfiaa
open Go.RowKit Go.Shelf Go.Maps
set_option linter.unusedVariables false
set_option linter.unusedSimpArgs false
attribute [local go_sem] Oper.semAt_some

theorem beq_bytes (a b : ByteArray) : (a.toList == b.toList) = decide (a = b) := by
  by_cases h : a = b
  · subst h; simp
  · rw [(toList_beq h).1]
    simp [h]
set_option maxHeartbeats 2000000 in
set_option maxRecDepth 100000 in
theorem progNamed (p : PairV) (x : ByteArray) (b : Nat) (w : World) (hx : w.cell? ⟨b, 0, none⟩ = some (.string x)) : Calls Try.prog 51 #[.agg #[.string p.name, .string p.super], .pointer (some ⟨b, 0, none⟩)] w fun e w' => e = .returned (.bool (decide (p.name = x))) ∧ Only (fun _ => False) w w' := by
  have ho := (Only.refl (fun _ => False) w).alloc (.cells #[.string p.name, .string p.super] 62)
  have hx2 := ho.cell hx (fun h => h)
  have HO := Lib.hid ho
  rw [← beq_bytes]
  clear ho hx
  go_enter Try.func51, Try.ntmps51
  go_wp2
  go_ret
  exact ⟨rfl, HO.out⟩

set_option maxHeartbeats 4000000 in
set_option maxRecDepth 100000 in
theorem indexP (v : Value) (l : List PairV) (x : ByteArray) (b : Nat) (w : World) (hl : Pairs w v l) (hx : w.cell? ⟨b, 0, none⟩ = some (.string x)) (hn : l.length ≤ 9223372036854775806) :
    Calls Try.prog 50 #[v, .func (.func 51) #[] #[.pointer (some ⟨b, 0, none⟩)]] w fun e w' => e = .returned (.int .i64 (pairOf l x)) ∧ Only (fun _ => False) w w' := by
  obtain ⟨ao, cap, rfl, h1, h2, h3, h4⟩ := id hl
  have HL := Lib.hid hl
  have HX := Lib.hid hx
  have hen : ∀ args w, (callFunc 51 args).run Try.prog w = .ok (.enter 51 args) w := enters_of Try.func51 (by kernel_rfl) rfl
  clear hl h3 h4 hx
  go_enter Try.func50, Try.ntmps50
  go_wp2
  go_loopw [8] (fun i wr => ∃ j : Nat, i = .int .i64 j ∧ j ≤ l.length ∧ pairOf l x = pairFrom x j (l.drop j) ∧ Only (fun _ => False) w wr) (fun i _ => l.length - (intOf i).toNat)
  case atStart => exact ⟨0, rfl, Nat.zero_le _, rfl, Only.refl _ _⟩
  case round =>
    obtain ⟨j, rfl, hj, hat, hon⟩ := hrel
    have HON := Lib.hid hon
    by_cases hlt : j < l.length
    · obtain ⟨bb, o, rfl, c⟩ := Sl.at (HL.out.only hon) hlt
      have hpf := pairFrom_at (x := x) hlt
      have hjz : (j : Int) < (l.length : Int) := by omega
      have c1 := progNamed (l.getD j default) x b wr (hon.cell HX.out (fun h => h))
      obtain ⟨q0, q1⟩ := c
      by_cases hx : (l.getD j default).name = x
      · have HR := Lib.hid (show pairOf l x = j by rw [hat, hpf, if_pos hx])
        rw [show decide ((l.getD j default).name = x) = true by simpa using hx] at c1
        have C1 := Lib.hid c1
        generalize l.getD j default = k at *
        clear hat hpf hx hon c1
        go_wp2_with (fail)
        refine C1.out.mono ?_
        rintro e w1 ⟨rfl, ho1⟩
        have HON1 := Lib.hid (HON.out.trans ho1 (fun _ h _ => h))
        clear ho1 C1
        go_wp2
        go_ret
        rw [HR.out]
        exact ⟨rfl, HON1.out⟩
      · have HR := Lib.hid (show pairOf l x = pairFrom x (j + 1) (l.drop (j + 1)) by rw [hat, hpf, if_neg hx])
        rw [show decide ((l.getD j default).name = x) = false by simpa using hx] at c1
        have C1 := Lib.hid c1
        generalize l.getD j default = k at *
        clear hat hpf hx hon c1
        go_wp2_with (fail)
        refine C1.out.mono ?_
        rintro e w1 ⟨rfl, ho1⟩
        have HON1 := Lib.hid (HON.out.trans ho1 (fun _ h _ => h))
        clear ho1 C1
        go_wp2
        go_roundw
        case rel => exact ⟨j + 1, by go_num, by omega, HR.out, HON1.out⟩
        case measure => simp [intOf]; omega
    · have HR := Lib.hid (show pairOf l x = -1 by rw [hat, List.drop_of_length_le (by omega)]; rfl)
      obtain rfl : j = l.length := by omega
      clear hat hj hlt hon
      go_wp2
      go_ret
      rw [HR.out]
      exact ⟨rfl, HON.out⟩

set_option maxHeartbeats 2000000 in
set_option maxRecDepth 100000 in
theorem placeFew (v : Value) (l : List PairV) (x : ByteArray) (b : Nat) (w : World) (hl : Pairs w v l) (hb : w.cell? ⟨b, 0, none⟩ = some v) (hn : l.length ≤ 9223372036854775806) :
    Calls Try.prog 49 #[.string x, .pointer (some ⟨b, 0, none⟩)] w fun e w' => e = .returned (.int .i64 (pairOf l x)) ∧ Only (fun _ => False) w w' := by
  have ho := (Only.refl (fun _ => False) w).alloc (.cells #[.string x] 9)
  have hb0 := heap_alloc_new w (.cells #[.string x] 9)
  have c1 := indexP v l x w.heap.size _ (hl.only ho) (cell_blk hb0 0) hn
  have hb2 := ho.cell hb (fun h => h)
  obtain ⟨ao, cap, rfl, h1, h2, h3, h4⟩ := id hl
  have HO := Lib.hid ho
  have C1 := Lib.hid c1
  clear ho hb0 c1 hb hl h3 h4
  go_enter Try.func49, Try.ntmps49
  go_wp2_with (fail)
  refine C1.out.mono ?_
  rintro e w1 ⟨rfl, ho1⟩
  have HO1 := Lib.hid (HO.out.trans ho1 (fun _ h _ => h))
  clear ho1 C1
  go_wp2
  go_ret
  exact ⟨rfl, HO1.out⟩

/-! The map of places, the last pair first. -/
def keyB (s : ByteArray) : Lit := .string s.data.toList
theorem keyB_inj {a b : ByteArray} (h : keyB a = keyB b) : a = b := by
  unfold keyB at h
  injection h with h
  apply toList_inj'
  rw [Lib.toList_data, Lib.toList_data, h]
def putN (l : List PairV) (D : DataW Unit) (ns : List Nat) : DataW Unit := ns.foldl (fun D i => D.put (keyB (l.getD i default).name) (.lit (.int .i64 i))) D
def treeD (l : List PairV) (ns : List Nat) : DataW Unit := putN l (.map []) ns
theorem treeD_snoc (l : List PairV) (ns : List Nat) (i : Nat) : treeD l (ns ++ [i]) = (treeD l ns).put (keyB (l.getD i default).name) (.lit (.int .i64 i)) := by simp [treeD, putN]
theorem putN_map (l : List PairV) : ∀ (ns : List Nat) (D : DataW Unit), IsMap D → IsMap (putN l D ns)
  | [], D, h => h
  | i :: ns, D, h => putN_map l ns _ (h.put _ _)
theorem treeD_map (l : List PairV) (ns : List Nat) : IsMap (treeD l ns) := putN_map l ns _ isMap_empty
/-- The places from j on, the last first. -/
def backN (n j : Nat) : List Nat := ((List.range n).drop j).reverse
theorem backN_end (n : Nat) : backN n n = [] := by simp [backN]
theorem backN_step {n j : Nat} (h : j < n) : backN n j = backN n (j + 1) ++ [j] := by
  unfold backN
  rw [List.drop_eq_getElem_cons (by simpa using h), List.reverse_cons]
  simp
theorem backN_len (n j : Nat) : (backN n j).length = n - j := by simp [backN]
theorem tree_look {l : List PairV} (x : ByteArray) : ∀ (k j : Nat), j + k = l.length →
    Maps.has (treeD l (backN l.length j)) (keyB x) = !decide (pairFrom x j (l.drop j) < 0) ∧ (¬ pairFrom x j (l.drop j) < 0 → (treeD l (backN l.length j)).atKey (keyB x) (.lit (.int .i64 0)) = .lit (.int .i64 (pairFrom x j (l.drop j))))
  | 0, j, h => by
    obtain rfl : j = l.length := by omega
    rw [backN_end, List.drop_length]
    exact ⟨rfl, fun h => absurd (show (-1 : Int) < 0 by decide) h⟩
  | k + 1, j, h => by
    have hj : j < l.length := by omega
    have ih := tree_look (l := l) x k (j + 1) (by omega)
    rw [backN_step hj, treeD_snoc, pairFrom_at hj]
    by_cases hx : (l.getD j default).name = x
    · rw [if_pos hx, hx, has_put_same (k := keyB x) (treeD_map l _) (by unfold keyB; trivial), atKey_put_same (k := keyB x) (treeD_map l _) (by unfold keyB; trivial)]
      exact ⟨by simp, fun _ => rfl⟩
    · have hk : keyB x ≠ keyB (l.getD j default).name := fun e => hx (keyB_inj e).symm
      rw [if_neg hx, has_put_other hk, atKey_put_other hk]
      exact ih
theorem tree_has (l : List PairV) (x : ByteArray) : Maps.has (treeD l (backN l.length 0)) (keyB x) = !decide (pairOf l x < 0) := (tree_look (l := l) x l.length 0 (by omega)).1
theorem tree_at {l : List PairV} {x : ByteArray} (h : ¬ pairOf l x < 0) : (treeD l (backN l.length 0)).atKey (keyB x) (.lit (.int .i64 0)) = .lit (.int .i64 (pairOf l x)) := (tree_look (l := l) x l.length 0 (by omega)).2 h
theorem zero_int8 (w : World) : (zeroValue 3).run Try.prog w = .ok (.int .i64 0) w := by kernel_rfl
abbrev TreeMap (w : World) (l : List PairV) (b n : Nat) (ns : List Nat) : Prop := w.ownsMap Try.prog 9 (plainElem (H := Unit) Try.prog 3) b n (treeD l ns)
theorem only_map {w w' : World} {l : List PairV} {b n : Nat} {ns : List Nat} (h : TreeMap w l b n ns) (ho : Only (fun _ => False) w w') : TreeMap w' l b n ns := by
  obtain ⟨es, clock, h1, h2⟩ := h
  exact ⟨es, clock, ho.heap h1 (fun h => h), h2⟩

theorem lit_eq {c d : Int} (h : (DataW.lit (.int .i64 c) : DataW Unit) = .lit (.int .i64 d)) : c = d := by
  injection h with h
  injection h
set_option maxHeartbeats 2000000 in
set_option maxRecDepth 100000 in
theorem placeMap (l : List PairV) (x : ByteArray) (b mb : Nat) (w : World) (hb : w.cell? ⟨b, 0, none⟩ = some (.map (some mb))) (hm : TreeMap w l mb l.length (backN l.length 0)) (hx : x.size ≤ maxLen) :
    Calls Try.prog 53 #[.string x, .pointer (some ⟨b, 0, none⟩)] w fun e w' => e = .returned (.int .i64 (pairOf l x)) ∧ Only (fun _ => False) w w' := by
  have HM := Lib.hid hm
  have HX := Lib.hid hx
  have hh := tree_has l x
  have ha := tree_at (l := l) (x := x)
  clear hm hx
  by_cases hneg : pairOf l x < 0
  · rw [show decide (pairOf l x < 0) = true by simpa using hneg, Bool.not_true] at hh
    have HH := Lib.hid hh
    have HP : Hid (pairOf l x = -1) := by
      refine Lib.hid ?_
      rcases pairOf_cases l x with h | ⟨j, _, h⟩
      · exact h
      · omega
    clear hh ha hneg
    go_enter Try.func53, Try.ntmps53
    go_wp2_with (at_lookup; go_loud (refine wpList_lookup_own_ok_int _ rfl _ _ 86 rfl 9 3 .i64 (Maps.string_keyed Try.underlying9) Try.underlying86 Try.underlying3 (zero_int8 _) mb l.length (treeD l (backN l.length 0)) rfl (by exact HM.out) _ _ rfl (Go.WideMaps.keyOf_string_mk Try.underlying9 HX.out) ?_); intro c hat hwc; rw [show Maps.has (treeD l (backN l.length 0)) (.string x.data.toList) = _ from HH.out]; clear hat hwc)
    go_ret
    rw [HP.out]
    exact ⟨rfl, Only.refl _ _⟩
  · rw [show decide (pairOf l x < 0) = false by simpa using hneg, Bool.not_false] at hh
    have HH := Lib.hid hh
    have HA := Lib.hid (ha hneg)
    clear hh ha hneg
    go_enter Try.func53, Try.ntmps53
    go_wp2_with (at_lookup; go_loud (refine wpList_lookup_own_ok_int _ rfl _ _ 86 rfl 9 3 .i64 (Maps.string_keyed Try.underlying9) Try.underlying86 Try.underlying3 (zero_int8 _) mb l.length (treeD l (backN l.length 0)) rfl (by exact HM.out) _ _ rfl (Go.WideMaps.keyOf_string_mk Try.underlying9 HX.out) ?_); intro c hat hwc; rw [show Maps.has (treeD l (backN l.length 0)) (.string x.data.toList) = _ from HH.out]; have hc := lit_eq (hat.symm.trans HA.out); have HC := Lib.hid hc; clear hat hwc hc)
    go_ret
    rw [HC.out]
    exact ⟨rfl, Only.refl _ _⟩
end Go.Proofs.Ytcmceabkadgfiaa
