import Derived.RangeFuncNested
import Derived.RangeFuncBound
import Derived.RangeFuncCalls
import Derived.RangeFuncLeaves
import Derived.RangeFuncBox
import Derived.Shelf.Abstract
import Derived.WalkKit
import Derived.OwnWalkIn
import Derived.TacticsInMore
import Derived.LoopNIn
import Derived.LoopIn
import Derived.Maps.OwnSet
import Derived.Maps.OwnIn
import Derived.Maps.Views
import Derived.StringKeys
import Derived.Test.YtemplkpcckmcoaaGreatDoorMkKndCLnkB
import Derived.Test.YtemplkpcckmcoaaGreatDoorMkPolDLnkU
namespace Go.Proofs.YtemplkpcckmcoaaGreatDoor
set_option maxHeartbeats 8000000
open Lib (hid)
open Go.RowKit Go.Shelf Go.Maps
set_option linter.unusedVariables false
set_option linter.unusedSimpArgs false
attribute [local go_sem] Oper.semAt_some
theorem beq_bytes (a b : ByteArray) : (a.toList == b.toList) = decide (a = b) := by
 by_cases h : a = b
 ·subst h; simp
 ·rw [(toList_beq h).1]
  simp [h]
set_option maxRecDepth 100000 in
theorem progNamed (p : PairV) (x : ByteArray) (b : Nat) (w : World) (hx : w.cell? ⟨b, 0, none⟩ = some (.string x)) : Calls Tryz.prog 163 #[.agg #[.string p.name, .string p.super], .pointer (some ⟨b, 0, none⟩)] w fun e w' => e = .returned (.bool (decide (p.name = x))) ∧ Only (fun _ => False) w w' := by
 have ho := (Only.refl (fun _ => False) w).alloc (.cells #[.string p.name, .string p.super] 74)
 have hx2 := ho.cell hx (fun h => h)
 have HO := hid ho
 rw [← beq_bytes]
 clear ho hx
 go_enter Tryz.func163, Tryz.ntmps163
 go_wp2
 go_ret
 exact ⟨rfl, HO.out⟩
set_option maxRecDepth 100000 in
theorem indexPr (v : Value) (l : List PairV) (x : ByteArray) (b : Nat) (w : World) (hl : Pairs w v l) (hx : w.cell? ⟨b, 0, none⟩ = some (.string x)) (hn : l.length ≤ 9223372036854775806) :
  Calls Tryz.prog 162 #[v, .func (.func 163) #[] #[.pointer (some ⟨b, 0, none⟩)]] w fun e w' => e = .returned (.int .i64 (pairOf l x)) ∧ Only (fun _ => False) w w' := by
 obtain ⟨ao, cap, rfl, h1, h2, h3, h4⟩ := id hl
 have HL := hid hl
 have HX := hid hx
 have hen : ∀ args w, (callFunc 163 args).run Tryz.prog w = .ok (.enter 163 args) w := enters_of Tryz.func163 (by kernel_rfl) rfl
 clear hl h3 h4 hx
 go_enter Tryz.func162, Tryz.ntmps162
 go_wp2
 go_loopw [8] (fun i wr => ∃ j : Nat, i = .int .i64 j ∧ j ≤ l.length ∧ pairOf l x = pairFrom x j (l.drop j) ∧ Only (fun _ => False) w wr) (fun i _ => l.length - (intOf i).toNat)
 case atStart => exact ⟨0, rfl, Nat.zero_le _, rfl, Only.refl _ _⟩
 case round =>
  obtain ⟨j, rfl, hj, hat, hon⟩ := hrel
  have HON := hid hon
  by_cases hlt : j < l.length
  ·obtain ⟨bb, o, rfl, c⟩ := Sl.at (HL.out.only hon) hlt
   have hpf := pairFrom_at (x := x) hlt
   have hjz : (j : Int) < (l.length : Int) := by omega
   have c1 := progNamed (l.getD j default) x b wr (hon.cell HX.out (fun h => h))
   obtain ⟨q0, q1⟩ := c
   by_cases hx : (l.getD j default).name = x
   ·have HR := hid (show pairOf l x = j by rw [hat, hpf, if_pos hx])
    rw [show decide ((l.getD j default).name = x) = true by simpa using hx] at c1
    have C1 := hid c1
    generalize l.getD j default = k at *
    clear hat hpf hx hon c1
    go_wp2_with (fail)
    refine C1.out.mono ?_
    rintro e w1 ⟨rfl, ho1⟩
    have HON1 := hid (HON.out.trans ho1 (fun _ h _ => h))
    clear ho1 C1
    go_wp2
    go_ret
    rw [HR.out]
    exact ⟨rfl, HON1.out⟩
   ·have HR := hid (show pairOf l x = pairFrom x (j + 1) (l.drop (j + 1)) by rw [hat, hpf, if_neg hx])
    rw [show decide ((l.getD j default).name = x) = false by simpa using hx] at c1
    have C1 := hid c1
    generalize l.getD j default = k at *
    clear hat hpf hx hon c1
    go_wp2_with (fail)
    refine C1.out.mono ?_
    rintro e w1 ⟨rfl, ho1⟩
    have HON1 := hid (HON.out.trans ho1 (fun _ h _ => h))
    clear ho1 C1
    go_wp2
    go_roundw
    case rel => exact ⟨j + 1, by go_num, by omega, HR.out, HON1.out⟩
    case measure => simp [intOf]; omega
  ·have HR := hid (show pairOf l x = -1 by rw [hat, List.drop_of_length_le (by omega)]; rfl)
   obtain rfl : j = l.length := by omega
   clear hat hj hlt hon
   go_wp2
   go_ret
   rw [HR.out]
   exact ⟨rfl, HON.out⟩
set_option maxRecDepth 100000 in
theorem placeFew (v : Value) (l : List PairV) (x : ByteArray) (b : Nat) (w : World) (hl : Pairs w v l) (hb : w.cell? ⟨b, 0, none⟩ = some v) (hn : l.length ≤ 9223372036854775806) :
  Calls Tryz.prog 161 #[.string x, .pointer (some ⟨b, 0, none⟩)] w fun e w' => e = .returned (.int .i64 (pairOf l x)) ∧ Only (fun _ => False) w w' := by
 have ho := (Only.refl (fun _ => False) w).alloc (.cells #[.string x] 9)
 have hb0 := heap_alloc_new w (.cells #[.string x] 9)
 have c1 := indexPr v l x w.heap.size _ (hl.only ho) (cell_blk hb0 0) hn
 have hb2 := ho.cell hb (fun h => h)
 obtain ⟨ao, cap, rfl, h1, h2, h3, h4⟩ := id hl
 have HO := hid ho
 have C1 := hid c1
 clear ho hb0 c1 hb hl h3 h4
 go_enter Tryz.func161, Tryz.ntmps161
 go_wp2_with (fail)
 refine C1.out.mono ?_
 rintro e w1 ⟨rfl, ho1⟩
 have HO1 := hid (HO.out.trans ho1 (fun _ h _ => h))
 clear ho1 C1
 go_wp2
 go_ret
 exact ⟨rfl, HO1.out⟩
def keyB (s : ByteArray) : Lit := .string s.data.toList
theorem keyB_inj {a b : ByteArray} (h : keyB a = keyB b) : a = b := by
 unfold keyB at h
 injection h with h
 apply toList_inj'
 rw [Lib.toList_data, Lib.toList_data, h]
def putN (l : List PairV) (D : DataW Unit) (ns : List Nat) : DataW Unit := ns.foldl (fun D i => D.put (keyB (l.getD i default).name) (.lit (.int .i64 i))) D
def treeD (l : List PairV) (ns : List Nat) : DataW Unit := putN l (.map []) ns
theorem treeD_snoc (l : List PairV) (ns : List Nat) (i : Nat) : treeD l (ns ++ [i]) = (treeD l ns).put (keyB (l.getD i default).name) (.lit (.int .i64 i)) := by simp [treeD, putN]
theorem putN_map (l : List PairV) : ∀ (ns : List Nat) (D : DataW Unit), IsMap D → IsMap (putN l D ns)
 | [], D, h => h
 | i :: ns, D, h => putN_map l ns _ (h.put _ _)
theorem treeD_map (l : List PairV) (ns : List Nat) : IsMap (treeD l ns) := putN_map l ns _ isMap_empty
def backN (n j : Nat) : List Nat := ((List.range n).drop j).reverse
theorem backN_end (n : Nat) : backN n n = [] := by simp [backN]
theorem backN_step {n j : Nat} (h : j < n) : backN n j = backN n (j + 1) ++ [j] := by
 unfold backN
 rw [List.drop_eq_getElem_cons (by simpa using h), List.reverse_cons]
 simp
theorem backN_len (n j : Nat) : (backN n j).length = n - j := by simp [backN]
theorem tree_look {l : List PairV} (x : ByteArray) : ∀ (k j : Nat), j + k = l.length →
  Maps.has (treeD l (backN l.length j)) (keyB x) = !decide (pairFrom x j (l.drop j) < 0) ∧ (¬ pairFrom x j (l.drop j) < 0 → (treeD l (backN l.length j)).atKey (keyB x) (.lit (.int .i64 0)) = .lit (.int .i64 (pairFrom x j (l.drop j))))
 | 0, j, h => by
  obtain rfl : j = l.length := by omega
  rw [backN_end, List.drop_length]
  exact ⟨rfl, fun h => absurd (show (-1 : Int) < 0 by decide) h⟩
 | k + 1, j, h => by
  have hj : j < l.length := by omega
  have ih := tree_look (l := l) x k (j + 1) (by omega)
  rw [backN_step hj, treeD_snoc, pairFrom_at hj]
  by_cases hx : (l.getD j default).name = x
  ·rw [if_pos hx, hx, has_put_same (k := keyB x) (treeD_map l _) (by unfold keyB; trivial), atKey_put_same (k := keyB x) (treeD_map l _) (by unfold keyB; trivial)]
   exact ⟨by simp, fun _ => rfl⟩
  ·have hk : keyB x ≠ keyB (l.getD j default).name := fun e => hx (keyB_inj e).symm
   rw [if_neg hx, has_put_other hk, atKey_put_other hk]
   exact ih
theorem tree_has (l : List PairV) (x : ByteArray) : Maps.has (treeD l (backN l.length 0)) (keyB x) = !decide (pairOf l x < 0) := (tree_look (l := l) x l.length 0 (by omega)).1
theorem tree_at {l : List PairV} {x : ByteArray} (h : ¬ pairOf l x < 0) : (treeD l (backN l.length 0)).atKey (keyB x) (.lit (.int .i64 0)) = .lit (.int .i64 (pairOf l x)) := (tree_look (l := l) x l.length 0 (by omega)).2 h
theorem zero_int8 (w : World) : (zeroValue 3).run Tryz.prog w = .ok (.int .i64 0) w := by kernel_rfl
abbrev TreeMap (w : World) (l : List PairV) (b n : Nat) (ns : List Nat) : Prop := w.ownsMap Tryz.prog 9 (plainElem (H := Unit) Tryz.prog 3) b n (treeD l ns)
theorem only_map {w w' : World} {l : List PairV} {b n : Nat} {ns : List Nat} (h : TreeMap w l b n ns) (ho : Only (fun _ => False) w w') : TreeMap w' l b n ns := by
 obtain ⟨es, clock, h1, h2⟩ := h
 exact ⟨es, clock, ho.heap h1 (fun h => h), h2⟩
theorem lit_eq {c d : Int} (h : (DataW.lit (.int .i64 c) : DataW Unit) = .lit (.int .i64 d)) : c = d := by
 injection h with h
 injection h
set_option maxRecDepth 100000 in
theorem placeMap (l : List PairV) (x : ByteArray) (b mb : Nat) (w : World) (hb : w.cell? ⟨b, 0, none⟩ = some (.map (some mb))) (hm : TreeMap w l mb l.length (backN l.length 0)) (hx : x.size ≤ maxLen) :
  Calls Tryz.prog 165 #[.string x, .pointer (some ⟨b, 0, none⟩)] w fun e w' => e = .returned (.int .i64 (pairOf l x)) ∧ Only (fun _ => False) w w' := by
 have HM := hid hm
 have HX := hid hx
 have hh := tree_has l x
 have ha := tree_at (l := l) (x := x)
 clear hm hx
 by_cases hneg : pairOf l x < 0
 ·rw [show decide (pairOf l x < 0) = true by simpa using hneg, Bool.not_true] at hh
  have HH := hid hh
  have HP : Hid (pairOf l x = -1) := by
   refine hid ?_
   rcases pairOf_cases l x with h | ⟨j, _, h⟩
   ·exact h
   ·omega
  clear hh ha hneg
  go_enter Tryz.func165, Tryz.ntmps165
  go_wp2_with (at_lookup; go_loud (refine wpList_lookup_own_ok_int _ rfl _ _ 84 rfl 9 3 .i64 (Maps.string_keyed Tryz.underlying9) Tryz.underlying84 Tryz.underlying3 (zero_int8 _) mb l.length (treeD l (backN l.length 0)) rfl (by exact HM.out) _ _ rfl (Go.WideMaps.keyOf_string_mk Tryz.underlying9 HX.out) ?_); intro c hat hwc; rw [show Maps.has (treeD l (backN l.length 0)) (.string x.data.toList) = _ from HH.out]; clear hat hwc)
  go_ret
  rw [HP.out]
  exact ⟨rfl, Only.refl _ _⟩
 ·rw [show decide (pairOf l x < 0) = false by simpa using hneg, Bool.not_false] at hh
  have HH := hid hh
  have HA := hid (ha hneg)
  clear hh ha hneg
  go_enter Tryz.func165, Tryz.ntmps165
  go_wp2_with (at_lookup; go_loud (refine wpList_lookup_own_ok_int _ rfl _ _ 84 rfl 9 3 .i64 (Maps.string_keyed Tryz.underlying9) Tryz.underlying84 Tryz.underlying3 (zero_int8 _) mb l.length (treeD l (backN l.length 0)) rfl (by exact HM.out) _ _ rfl (Go.WideMaps.keyOf_string_mk Tryz.underlying9 HX.out) ?_); intro c hat hwc; rw [show Maps.has (treeD l (backN l.length 0)) (.string x.data.toList) = _ from HH.out]; have hc := lit_eq (hat.symm.trans HA.out); have HC := hid hc; clear hat hwc hc)
  go_ret
  rw [HC.out]
  exact ⟨rfl, Only.refl _ _⟩
attribute [local go_sem] Oper.semAt_some
structure CellsK (W W' : World) : Prop where
 size : W.heap.size ≤ W'.heap.size
 cell : ∀ a u, W.cell? a = some u → W'.cell? a = some u
theorem CellsK.refl (W : World) : CellsK W W := ⟨Nat.le_refl _, fun _ _ h => h⟩
theorem CellsK.trans {X Y Z : World} (h : CellsK X Y) (k : CellsK Y Z) : CellsK X Z := ⟨Nat.le_trans h.size k.size, fun a u hc => k.cell a u (h.cell a u hc)⟩
theorem CellsK.only {W W' : World} (ho : Only (fun _ => False) W W') : CellsK W W' := ⟨ho.size, fun a u h => ho.cell h (fun h => h)⟩
theorem cellsK_putObj {W : World} {l : Nat} {o o' : Obj} (hl : W.heap[l]? = some o) (ho : o.isCells = false) : CellsK W (W.putObj l o') := by
 refine ⟨by simp, fun a u h => ?_⟩
 have hne : a.block ≠ l := by
  intro e
  unfold World.cell? at h
  rw [e, hl] at h
  cases o with
  | cells => cases ho
  | _ => simp at h
 exact (World.cell?_of_block (World.putObj_heap_other hne)).trans h
theorem Pairs.cells {w W : World} {v : Value} {l : List PairV} (h : Pairs w v l) (k : CellsK w W) : Pairs W v l := h.imp (fun _ _ _ _ _ h => ⟨k.cell _ _ h.c0, k.cell _ _ h.c1⟩)
def vals {n : Nat} (xs : List (Fin n)) : List Nat := xs.map (fun x => x.val)
theorem vals_snoc {n : Nat} (xs : List (Fin n)) (x : Fin n) : vals (xs ++ [x]) = vals xs ++ [x.val] := by simp [vals]
theorem vals_len {n : Nat} (xs : List (Fin n)) : (vals xs).length = xs.length := by simp [vals]
abbrev encP (l : List PairV) (x : Fin l.length) : Array Value := #[.int .i64 (x.val : Int), .agg #[.string (l.getD x.val default).name, .string (l.getD x.val default).super]]
set_option maxRecDepth 100000 in
theorem back_in (n : Nat) (hn : 1 ≤ n) (v : Value) (l : List PairV) (w : World) (Bn : Nat) (hp : Pairs w v l) (hBn : w.cell? ⟨Bn, 0, none⟩ = some v) (hlen : l.length ≤ 4611686018427387904)
  (lp : Nat) (J Jx : List (Fin l.length) → World → Prop) (W : World)
  (hY : ∀ pre x W1, J pre W1 → pre.length < l.length → YieldAt Fence.wide (n - 1) Tryz.prog lp (encP l x) W1 fun e W' =>
   (e = .returned (.bool true) ∧ J (pre ++ [x]) W' ∧ CellsK W1 W') ∨ (e = .returned (.bool false) ∧ Jx (pre ++ [x]) W'))
  (hs : CellsK w W) (h0 : J [] W) :
  CallsIn Fence.wide n Tryz.prog 175 #[.func (.yield lp) #[] #[], .pointer (some ⟨Bn, 0, none⟩)] W fun e W' => (∃ v, e = .returned v) ∧
   ((∃ xs : List (Fin l.length), vals xs = backN l.length 0 ∧ J xs W') ∨ (∃ pre : List (Fin l.length), True ∧ Jx pre W')) := by
 have HY := hid hY
 have HS := hid hs
 have HP := hid hp
 have HBN := hid hBn
 have hcb := hs.cell _ _ hBn
 obtain ⟨ao, cap, rfl, p1, p2, p3, -⟩ := id hp
 clear hY hs hp hBn p3
 refine callsIn_of_wp Tryz.func175 rfl trivial ?_ rfl
 simp only [Tryz.ntmps175, List.size_toArray, List.length_cons, List.length_nil, Nat.reduceAdd, Nat.reduceSub, Array.replicate_succ, Array.replicate_zero, List.push_toArray, List.append_toArray, List.nil_append, List.cons_append]
 gi_wp2
 clear hcb
 gi_loopw [3] (fun i wr => ∃ (j : Nat) (pre : List (Fin l.length)), i = .int .i64 ((j : Int) - 1) ∧ j ≤ l.length ∧ Hid (vals pre = backN l.length j) ∧ Hid (CellsK w wr) ∧ Hid (J pre wr)) (fun i wr => ((intOf i) + 1).toNat)
 case atStart => exact ⟨l.length, [], rfl, Nat.le_refl _, hid (by rw [backN_end]; rfl), HS, hid h0⟩
 case round =>
  obtain ⟨j, pre, rfl, hj, HPRE, HSR, HJR⟩ := hrel
  have hcb := HSR.out.cell _ _ HBN.out
  by_cases h0 : 0 < j
  ·obtain ⟨m, rfl⟩ : ∃ m, j = m + 1 := ⟨j - 1, by omega⟩
   have hm : m < l.length := by omega
   have hmz : ((m + 1 : Nat) : Int) - 1 = (m : Int) := by omega
   rw [hmz]
   have hm0 : (0 : Int) ≤ (m : Int) := by omega
   have hmlz : (m : Int) < (l.length : Int) := by omega
   obtain ⟨g, o, rfl, y⟩ := Sl.at (HP.out.cells HSR.out) hm
   obtain ⟨y0, y1⟩ := y
   have hpl : pre.length < l.length := by
    have := congrArg List.length HPRE.out
    rw [vals_len, backN_len] at this
    omega
   have HPRE2 : Hid (vals (pre ++ [(⟨m, hm⟩ : Fin l.length)]) = backN l.length m) := hid (by rw [vals_snoc, HPRE.out, backN_step hm])
   obtain ⟨fn, tmps, assign, body, hy, hR⟩ := HY.out pre ⟨m, hm⟩ wr HJR.out hpl
   unfold encP at hy
   dsimp only at hy
   generalize l.getD m default = p at *
   have HR3 := hid hR
   clear hR hmz hpl
   gi_wp2
   refine HR3.out.mono ?_
   rintro e9 W3 (⟨rfl, hJ3, hk3⟩ | ⟨rfl, hJx3⟩)
   ·have HJ3 := hid hJ3
    have HS3 := hid (HSR.out.trans hk3)
    clear hJ3 hk3 hy
    gi_wp2
    go_roundw
    case rel => exact ⟨m, _, rfl, by omega, HPRE2, HS3, HJ3⟩
    case measure => simp [intOf]
   ·have HJ3 := hid hJx3
    clear hJx3 hy
    gi_wp2
    refine bodyPost_ret (results_none rfl _ _ _) rfl ?_
    exact ⟨⟨_, rfl⟩, .inr ⟨_, trivial, HJ3.out⟩⟩
  ·obtain rfl : j = 0 := by omega
   gi_wp2
   go_end0
   exact ⟨⟨_, rfl⟩, .inl ⟨_, HPRE.out, HJR.out⟩⟩
theorem backs_in (ao : Option Addr) (k cap : Nat) (w : World) : Calls Tryz.prog 164 #[.slice ao k cap] w fun e w' => e = .returned (.func (.func 175) #[] #[.pointer (some ⟨w.heap.size, 0, none⟩)]) ∧ w' = w.alloc (.cells #[.slice ao k cap] 56) := by
 go_enter Tryz.func164, Tryz.ntmps164
 go_wp2
 go_ret
 exact ⟨rfl, rfl⟩
def PlaceV (w : World) (l : List PairV) (pv : Value) : Prop := ∃ n b, pv = .func (.func n) #[] #[.pointer (some ⟨b, 0, none⟩)] ∧ (∀ args w, (callFunc n args).run Tryz.prog w = .ok (.enter n args) w) ∧
 ∀ W x, Only (fun _ => False) w W → x.size ≤ maxLen → Calls Tryz.prog n #[.string x, .pointer (some ⟨b, 0, none⟩)] W fun e w' => e = .returned (.int .i64 (pairOf l x)) ∧ Only (fun _ => False) W w'
theorem PlaceV.only {w w' : World} {l : List PairV} {pv : Value} (h : PlaceV w l pv) (ho : Only (fun _ => False) w w') : PlaceV w' l pv := by
 obtain ⟨n, b, h1, h2, h3⟩ := h
 exact ⟨n, b, h1, h2, fun W x hW hx => h3 W x (ho.trans hW (fun _ h _ => h)) hx⟩
theorem make_map8 (n : Int) (w : World) : (Instr.makeMap 84 (some (.int .i64 n))).run Tryz.prog w = .ok (.map (some w.heap.size)) (w.alloc (.map #[] 0)) := by
 have h : (underlying 84).run Tryz.prog w = .ok (.map 9 3) w := by kernel_rfl
 simp only [Instr.makeMap, Sem.run_bind, h, Result.andThen]
 rfl
theorem heap_kept8 {X Y : World} {B : Nat} {o : Obj} {row : Option Nat} (h : X.heap[B]? = some o) (hc : o.isCells = true) (hg : X.grownBy Y row) (hr : ∀ r, row = some r → ∃ o : Obj, X.heap[r]? = some o ∧ o.isCells = false) : Y.heap[B]? = some o :=
 (hg.block B (heap_lt h) (fun e => by obtain ⟨o', h1, h2⟩ := hr B e.symm; rw [h] at h1; cases h1; rw [hc] at h2; cases h2)).trans h
theorem boxed_of_heap {W w1 : World} {B : Nat} {t : TypeId} {v : Value} {row : Option Nat} (h : Boxed W B t v) (hg : W.grownBy w1 row) (hne : some B ≠ row) : Boxed w1 B t v := by
 have h' : W.heap[B]? = _ := h
 exact (hg.block B (heap_lt h') hne).trans h'
set_option maxRecDepth 100000 in
theorem progPlacing (v : Value) (l : List PairV) (w : World) (hp : Pairs w v l) (hlen : l.length ≤ 4611686018427387904) (hsz : ∀ p ∈ l, p.name.size ≤ maxLen) :
  Calls Tryz.prog 146 #[v] w fun e w' => ∃ pv, e = .returned pv ∧ PlaceV w' l pv ∧ Only (fun _ => False) w w' := by
 obtain ⟨ao, cap, rfl, p1, p2, p3, -⟩ := id hp
 have ho1 := (Only.refl (fun _ => False) w).alloc (.cells #[.slice ao l.length cap] 56)
 have hb1 := heap_alloc_new w (.cells #[.slice ao l.length cap] 56)
 by_cases h64 : l.length ≤ 64
 ·have h64z : (l.length : Int) ≤ 64 := by omega
  have HO := hid ho1
  have HP : Hid (PlaceV (w.alloc (.cells #[.slice ao l.length cap] 56)) l (.func (.func 161) #[] #[.pointer (some ⟨w.heap.size, 0, none⟩)])) :=
   hid ⟨_, _, rfl, enters_of Tryz.func161 (by kernel_rfl) rfl, fun W x hW hx => placeFew _ l x _ W ((hp.only ho1).only hW) (hW.cell (cell_blk hb1 0) (fun h => h)) (by omega)⟩
  clear hp p3 hb1 ho1
  go_enter Tryz.func146, Tryz.ntmps146
  go_wp2
  go_ret
  exact ⟨_, rfl, HP.out, HO.out⟩
 ·have h64z : ¬ (l.length : Int) ≤ 64 := by omega
  have HSZ := hid hsz
  have HPW := hid hp
  have hmm := make_map8
  clear p3 hb1 ho1 hsz hp
  refine (callsIn_wide (n := 9)).1 ?_
  refine callsIn_of_wp_marks Tryz.func146 rfl trivial ?_ rfl
  simp only [Tryz.ntmps146, List.size_toArray, List.length_cons, List.length_nil, Nat.reduceAdd, Nat.reduceSub, Array.replicate_succ, Array.replicate_zero, List.push_toArray, List.append_toArray, List.nil_append, List.cons_append]
  gi_wp2_with (fail)
  refine ⟨trivial, (callsIn_wide.2 (backs_in ao l.length cap _)).mono ?_⟩
  rintro e w' ⟨rfl, rfl⟩
  gi_wp2
  have b3 := (Boxed.new ((w.alloc (.cells #[.slice ao l.length cap] 56)).alloc (.map #[] 0)) 84 (.map (some (w.heap.size + 1)))).alloc (.cells #[.slice ao l.length cap] 56)
  have b4 := Boxed.new (((w.alloc (.cells #[.slice ao l.length cap] 56)).alloc (.map #[] 0)).alloc (.cells #[.map (some (w.heap.size + 1))] 84)) 56 (.slice ao l.length cap)
  have hown := ((World.ownsMap_made (w.alloc (.cells #[.slice ao l.length cap] 56)) Tryz.prog 9 (plainElem (H := Unit) Tryz.prog 3)).alloc (.cells #[.map (some (w.heap.size + 1))] 84)).alloc (.cells #[.slice ao l.length cap] 56)
  have ho := ((((Only.refl (fun _ => False) w).alloc (.cells #[.slice ao l.length cap] 56)).alloc (.map #[] 0)).alloc (.cells #[.map (some (w.heap.size + 1))] 84)).alloc (.cells #[.slice ao l.length cap] 56)
  have hszz : ((((w.alloc (.cells #[.slice ao l.length cap] 56)).alloc (.map #[] 0)).alloc (.cells #[.map (some (w.heap.size + 1))] 84)).alloc (.cells #[.slice ao l.length cap] 56)).heap.size = w.heap.size + 4 := by simp
  simp only [World.size_alloc] at b3 b4 hown
  obtain ⟨W0, hW0⟩ : ∃ W0, ((((w.alloc (.cells #[.slice ao l.length cap] 56)).alloc (.map #[] 0)).alloc (.cells #[.map (some (w.heap.size + 1))] 84)).alloc (.cells #[.slice ao l.length cap] 56)) = W0 := ⟨_, rfl⟩
  rw [hW0] at b3 b4 hown ho hszz ⊢
  clear hW0
  have hp0 := HPW.out.only ho
  have HOWN := hid hown
  clear hown
  refine wpIn_rangeFunc_ownH (α := Fin l.length) (F := Fence.wide) rfl (by decide) (gf := 175) (lb := #[.pointer (some ⟨w.heap.size + 1 + 1 + 1, 0, none⟩)]) rfl trivial (enters_of Tryz.func175 (by kernel_rfl) rfl)
   (encs := encP l) (Kp := CellsK) (S := fun xs => vals xs = backN l.length 0) (Sp := fun _ => True) (N := l.length) (w0 := W0)
   (fun lp J Jx W hW hJ hJx hY h0 => back_in 8 (by decide) (.slice ao l.length cap) l W0 (w.heap.size + 1 + 1 + 1) hp0 b4.cell hlen lp J Jx W hY (CellsK.only (Only.of_below hW _)) h0)
   (fun h k => CellsK.trans h k) (fun W lp o o' h1 h2 h3 h4 => cellsK_putObj h2 h3) (Below.refl _ _) (fun _ => rfl)
   (fun pre W => (Boxed W (w.heap.size + 1 + 1) 84 (.map (some (w.heap.size + 1))) ∧ TreeMap W l (w.heap.size + 1) pre.length (vals pre)) ∧ Below w.heap.size w W)
   (fun _ _ _ => False)
   (OwnFrom.and (OwnFrom.and (Own.from (boxed_own _ _ _) _) (fun s X Y row (hs : TreeMap X l (w.heap.size + 1) s.length (vals s)) hg hr => (show TreeMap Y l (w.heap.size + 1) s.length (vals s) from hs.kept hg (fun e => by have := (hr _ e.symm).1; omega)))) (ownFrom_below (Nat.le_refl _) (by omega)))
   (fun c s X Y row hs _ _ => hs)
   ⟨⟨b3, HOWN.out⟩, ho.none⟩
   (fun x a' W => ∃ Bx, W.heap[Bx]? = some (.cells #[.string (l.getD x.val default).name, .string (l.getD x.val default).super] 74 (0, 0)) ∧ a' = { tmps := #[.slice ao l.length cap, .pointer (some ⟨w.heap.size, 0, none⟩), .nilFunc, .pointer (some ⟨w.heap.size + 1 + 1, 0, none⟩), .int .i64 (x.val : Int), .pointer (some ⟨Bx, 0, none⟩), .slice ao l.length cap, .int .i64 l.length, .bool false, undef, .slice ao l.length cap, .int .i64 l.length, .map (some (w.heap.size + 1)), .slice ao l.length cap, .func (.func 175) #[] #[.pointer (some ⟨w.heap.size + 1 + 1 + 1, 0, none⟩)], .int .i64 (x.val : Int), .agg #[.string (l.getD x.val default).name, .string (l.getD x.val default).super], undef, undef, undef, undef, undef], defers := [] })
   (fun x a' _ X Y row hs hg hr => by obtain ⟨Bx, h1, h2⟩ := hs; exact ⟨Bx, heap_kept8 h1 rfl hg (fun r e => (hr r e).2), h2⟩)
   ?assign ?body ?done ?stop
  case assign =>
   rintro lp pre x W K ⟨⟨bM, hm⟩, hB⟩ hK
   obtain ⟨xv, hx⟩ := x
   have hnew := heap_alloc_new W (.cells #[.string (l.getD xv default).name, .string (l.getD xv default).super] 74)
   unfold encP at hK ⊢
   dsimp only at hK ⊢
   generalize l.getD xv default = p at *
   gi_wp2
   exact hK _ _ ((KeepsOthers.alloc _ _).from _) (CellsK.only ((Only.refl _ W).alloc _)) ⟨⟨bM.alloc _, hm.alloc _⟩, hB.alloc hB.size _⟩ ⟨W.heap.size, hnew, rfl⟩
  case body =>
   rintro lp pre ⟨xv, hx⟩ a' W hl2 ⟨r, hr⟩ ⟨⟨bM, hm⟩, hB⟩ ⟨Bx, hbx, rfl⟩ hlt
   dsimp only at hbx ⊢
   have cM := bM.cell
   have q0 := cell_blk hbx 0
   have HM := hid hm
   have HB1 := hid hB
   have BM := hid bM
   have hks := HSZ.out _ (getD_mem hx)
   have HKS := hid hks
   have HSN : Hid (treeD l (vals (pre ++ [(⟨xv, hx⟩ : Fin l.length)])) = (treeD l (vals pre)).put (keyB (l.getD xv default).name) (.lit (.int .i64 xv))) := hid (by rw [vals_snoc, treeD_snoc])
   have hxi : (xv : Int) ≤ 4611686018427387904 := by omega
   simp only [List.getElem?_toArray, List.getElem?_cons_zero] at q0
   generalize l.getD xv default = p at *
   clear hm hB bM hks hbx
   gi_wp2_with (gi_at_mapUpdate; go_loud (refine wpListIn_mapUpdate_own _ rfl _ _ _ 84 rfl 9 3 (Maps.string_keyed Tryz.underlying9) Tryz.underlying84 _ (w.heap.size + 1) pre.length _ rfl HM.out (by unfold maxLen; omega) _ _ _ rfl rfl (Go.WideMaps.keyOf_string_mk Tryz.underlying9 HKS.out) _ [] (plainElem_int Tryz.underlying3 (WalkArith.wf_i64 (by omega))) ?_); intro w1 hown1 hgrow1)
   have hck : CellsK W w1 := ⟨hgrow1.size, fun a u h => by
    have hne : a.block ≠ w.heap.size + 1 := fun e => by
     obtain ⟨es, clock, hmb, _⟩ := HM.out
     unfold World.cell? at h
     rw [e, hmb] at h
     simp at h
    exact (World.cell?_of_block (hgrow1.block _ (World.block_lt_of_cell? W a h) (fun e => hne (by injection e)))).trans h⟩
   refine ⟨KeepsFrom.of_grownBy hgrow1 (fun j e => by cases e; omega), hck, ⟨?_, ?_⟩, HB1.out.grown hgrow1 HB1.out.size (fun k e => by cases e; omega)⟩
   ·exact boxed_of_heap BM.out hgrow1 (fun e => by injection e with e; omega)
   ·unfold TreeMap
    rw [HSN.out, List.length_append]
    exact hown1
  case done =>
   rintro D xs W hD hS ⟨⟨bM, hm⟩, hB⟩ hK
   have hln : xs.length = l.length := by
    have := congrArg List.length hS
    rw [vals_len, backN_len] at this
    omega
   rw [hS, hln] at hm
   have hon := Only.of_below hB (fun _ => False)
   have hB2 := hB.trans (belowK_b (w := w) (Nat.le_refl _) W D _ (.deferred none) (by omega) hK rfl rfl)
   have hm2 : TreeMap (W.putObj D (.deferred none)) l (w.heap.size + 1) l.length (backN l.length 0) := by
    obtain ⟨es, clock, h1, h2⟩ := hm
    exact ⟨es, clock, (World.putObj_heap_other (by intro e; rw [← e] at hK; rw [h1] at hK; cases hK)).trans h1, h2⟩
   have hc2 := (cellsK_putObj (o' := .deferred none) hK rfl).cell _ _ bM.cell
   gi_wp2
   refine ⟨by simp, .inl ⟨_, _, rfl, run_takeDeferred hK, ?_⟩⟩
   refine ⟨_, results_tmp rfl _ _ _, _, rfl, ?_, Only.of_below hB2 _⟩
   exact ⟨_, _, rfl, enters_of Tryz.func165 (by kernel_rfl) rfl, fun W' x hW' hx => placeMap l x _ (w.heap.size + 1) W' (hW'.cell hc2 (fun h => h)) (only_map hm2 hW') hx⟩
  case stop =>
   rintro D c pre W hD hS h hK
   exact h.elim
end Go.Proofs.YtemplkpcckmcoaaGreatDoor
namespace Go.Proofs.YtemplkpcckmcoaaGreatDoor
set_option maxHeartbeats 8000000
open Lib (hid)
open Go.RowKit Go.Maps
set_option linter.unusedVariables false
set_option linter.unusedSimpArgs false
structure MemAt (w : World) (b o i : Nat) (m : MethN) (s : Int) : Prop where
 c0 : w.cell? ⟨b, o + i * 4, none⟩ = some (.string m.name)
 c1 : w.cell? ⟨b, o + i * 4 + 1, none⟩ = some (.string m.desc)
 c2 : w.cell? ⟨b, o + i * 4 + 2, none⟩ = some (.int .i64 m.flags)
 c3 : w.cell? ⟨b, o + i * 4 + 3, none⟩ = some (.int .i64 s)
theorem MemAt.only {S : Nat → Prop} {w w' : World} {b o i : Nat} {m : MethN} {s : Int} (h : MemAt w b o i m s) (ho : Only S w w') (hb : ¬ S b) : MemAt w' b o i m s := ⟨ho.cell h.c0 hb, ho.cell h.c1 hb, ho.cell h.c2 hb, ho.cell h.c3 hb⟩
theorem MemAt.lt {w : World} {b o i : Nat} {m : MethN} {s : Int} (h : MemAt w b o i m s) : b < w.heap.size := World.block_lt_of_cell? w _ h.c0
def MemG (G : Nat → Prop) (w : World) (v : Value) (ms : List MethN) : Prop := Sl v ms.length (fun b o i => MemAt w b o i (ms.getD i default) 0 ∧ ¬ G b)
def MemS (w : World) (v : Value) (ms : List MethN) (sl : Nat → Int) : Prop := Sl v ms.length (fun b o i => MemAt w b o i (ms.getD i default) (sl i))
def FldS (w : World) (v : Value) (ms : List MethN) (sl : Nat → Int) : Prop := Sl v ms.length (fun b o i => MemAt w b o i (ms.getD i default) (sl i) ∧ w.frozen? ⟨b, o + i * 4 + 3, none⟩ = false)
theorem MemG.mem {G : Nat → Prop} {w : World} {v : Value} {ms : List MethN} (h : MemG G w v ms) : MemS w v ms (fun _ => 0) := h.imp (fun _ _ _ _ _ h => h.1)
theorem FldS.mem {w : World} {v : Value} {ms : List MethN} {sl : Nat → Int} (h : FldS w v ms sl) : MemS w v ms sl := h.imp (fun _ _ _ _ _ h => h.1)
theorem MemS.only {w w' : World} {v : Value} {ms : List MethN} {sl : Nat → Int} (h : MemS w v ms sl) (ho : Only (fun _ => False) w w') : MemS w' v ms sl := h.imp (fun _ _ _ _ _ h => h.only ho (fun h => h))
theorem MemG.only {G S : Nat → Prop} {w w' : World} {v : Value} {ms : List MethN} (h : MemG G w v ms) (ho : Only S w w') (hs : ∀ k, S k → G k) : MemG G w' v ms := h.imp (fun _ _ _ _ _ h => ⟨h.1.only ho (fun hk => h.2 (hs _ hk)), h.2⟩)
theorem MemG.mono {G G' : Nat → Prop} {w : World} {v : Value} {ms : List MethN} (h : MemG G w v ms) (hg : ∀ k, k < w.heap.size → G' k → G k) : MemG G' w v ms := h.imp (fun _ _ _ _ _ h => ⟨h.1, fun hk => h.2 (hg _ h.1.lt hk)⟩)
theorem frozen_only {S : Nat → Prop} {w w' : World} (ho : Only S w w') {b i : Nat} (hl : b < w.heap.size) (hb : ¬ S b) (h : w.frozen? ⟨b, i, none⟩ = false) : w'.frozen? ⟨b, i, none⟩ = false := by
 have e := ho.block b hl hb
 unfold World.frozen? at h ⊢
 simp only at h ⊢
 rw [e]
 exact h
theorem FldS.only {S : Nat → Prop} {w w' : World} {v : Value} {ms : List MethN} {sl : Nat → Int} (h : FldS w v ms sl) (ho : Only S w w') (hs : ∀ k, v.ownBlock = some k → ¬ S k) : FldS w' v ms sl :=
 h.imp (fun b _ _ hb _ h => ⟨h.1.only ho (hs _ hb), frozen_only ho h.1.lt (hs _ hb) h.2⟩)
theorem FldS.nil (w : World) (sl : Nat → Int) : FldS w (.slice none 0 0) [] sl := Sl.nil _
def BytesG (G : Nat → Prop) (w : World) (v : Value) (zs : List Int) : Prop := Bytes w v zs ∧ ∀ k, v.ownBlock = some k → zs ≠ [] → ¬ G k
theorem BytesG.only {G S : Nat → Prop} {w w' : World} {v : Value} {zs : List Int} (h : BytesG G w v zs) (ho : Only S w w') (hs : ∀ k, S k → G k) : BytesG G w' v zs := ⟨h.1.only ho (fun k hk hz hS => h.2 k hk hz (hs _ hS)), h.2⟩
theorem BytesG.mono {G G' : Nat → Prop} {w : World} {v : Value} {zs : List Int} (h : BytesG G w v zs) (hg : ∀ k, k < w.heap.size → G' k → G k) : BytesG G' w v zs := ⟨h.1, fun k hk hz hG => h.2 k hk hz (hg _ (h.1.lt k hk hz) hG)⟩
def FieldsG (G : Nat → Prop) (w : World) (v : Value) (fs : List FieldV) : Prop := Sl v fs.length (fun b o i => FieldAt w b o i (fs.getD i default) ∧ ¬ G b) ∧ ∀ f ∈ fs, FieldR f
def TrapsG (G : Nat → Prop) (w : World) (v : Value) (fs : List TrapV) : Prop := Sl v fs.length (fun b o i => TrapAt w b o i (fs.getD i default) ∧ ¬ G b) ∧ ∀ f ∈ fs, TrapR f
def InsideG (G : Nat → Prop) (w : World) (m : MethodV) (vc vt vm : Value) : Prop := BytesG G w vc m.code ∧ TrapsG G w vt m.traps ∧ BytesG G w vm m.maps
def MethodsG (G : Nat → Prop) (w : World) (v : Value) (ms : List MethodV) : Prop :=
 ∃ f : Nat → Value × Value × Value, Sl v ms.length (fun b o i => MethodAt w b o i (ms.getD i default) (f i).1 (f i).2.1 (f i).2.2 ∧ ¬ G b) ∧ (∀ i, i < ms.length → InsideG G w (ms.getD i default) (f i).1 (f i).2.1 (f i).2.2) ∧ ∀ m ∈ ms, MethodR m
structure ClassG (G : Nat → Prop) (w : World) (vp vf vm : Value) (c : ClassV) : Prop where
 pool : Pool w vp c.pool
 off : ∀ k, vp.ownBlock = some k → k < w.heap.size ∧ ¬ G k
 fields : FieldsG G w vf c.fields
 meths : MethodsG G w vm c.methods
 this : I64 c.this
 super : I64 c.super
theorem FieldsG.plain {G : Nat → Prop} {w : World} {v : Value} {fs : List FieldV} (h : FieldsG G w v fs) : Fields w v fs := ⟨h.1.imp (fun _ _ _ _ _ h => h.1), h.2⟩
theorem TrapsG.plain {G : Nat → Prop} {w : World} {v : Value} {fs : List TrapV} (h : TrapsG G w v fs) : Traps w v fs := ⟨h.1.imp (fun _ _ _ _ _ h => h.1), h.2⟩
theorem InsideG.plain {G : Nat → Prop} {w : World} {m : MethodV} {vc vt vm : Value} (h : InsideG G w m vc vt vm) : Inside w m vc vt vm := ⟨h.1.1, h.2.1.plain, h.2.2.1⟩
theorem MethodsG.plain {G : Nat → Prop} {w : World} {v : Value} {ms : List MethodV} (h : MethodsG G w v ms) : Methods w v ms := by
 obtain ⟨f, h1, h2, h3⟩ := h
 exact ⟨f, h1.imp (fun _ _ _ _ _ h => h.1), fun i hi => (h2 i hi).plain, h3⟩
theorem ClassG.plain {G : Nat → Prop} {w : World} {vp vf vm : Value} {c : ClassV} (h : ClassG G w vp vf vm c) : ClassM w vp vf vm c := ⟨h.pool, h.fields.plain, h.meths.plain, h.this, h.super⟩
section
variable {G S : Nat → Prop} {w w' : World}
theorem FieldAt.onlyS {b o i : Nat} {f : FieldV} (h : FieldAt w b o i f) (ho : Only S w w') (hb : ¬ S b) : FieldAt w' b o i f := ⟨ho.cell h.c0 hb, ho.cell h.c1 hb, ho.cell h.c2 hb⟩
theorem TrapAt.onlyS {b o i : Nat} {f : TrapV} (h : TrapAt w b o i f) (ho : Only S w w') (hb : ¬ S b) : TrapAt w' b o i f := ⟨ho.cell h.c0 hb, ho.cell h.c1 hb, ho.cell h.c2 hb, ho.cell h.c3 hb⟩
theorem MethodAt.onlyS {b o i : Nat} {m : MethodV} {vc vt vm : Value} (h : MethodAt w b o i m vc vt vm) (ho : Only S w w') (hb : ¬ S b) : MethodAt w' b o i m vc vt vm :=
 ⟨ho.cell h.c0 hb, ho.cell h.c1 hb, ho.cell h.c2 hb, ho.cell h.c3 hb, ho.cell h.c4 hb, ho.cell h.c5 hb, ho.cell h.c6 hb, ho.cell h.c7 hb⟩
variable (ho : Only S w w') (hs : ∀ k, S k → G k)
include ho hs
theorem FieldsG.only {v : Value} {fs : List FieldV} (h : FieldsG G w v fs) : FieldsG G w' v fs := ⟨h.1.imp (fun _ _ _ _ _ h => ⟨h.1.onlyS ho (fun hk => h.2 (hs _ hk)), h.2⟩), h.2⟩
theorem TrapsG.only {v : Value} {fs : List TrapV} (h : TrapsG G w v fs) : TrapsG G w' v fs := ⟨h.1.imp (fun _ _ _ _ _ h => ⟨h.1.onlyS ho (fun hk => h.2 (hs _ hk)), h.2⟩), h.2⟩
theorem InsideG.only {m : MethodV} {vc vt vm : Value} (h : InsideG G w m vc vt vm) : InsideG G w' m vc vt vm := ⟨h.1.only ho hs, h.2.1.only ho hs, h.2.2.only ho hs⟩
theorem MethodsG.only {v : Value} {ms : List MethodV} (h : MethodsG G w v ms) : MethodsG G w' v ms := by
 obtain ⟨f, h1, h2, h3⟩ := h
 exact ⟨f, h1.imp (fun _ _ _ _ _ h => ⟨h.1.onlyS ho (fun hk => h.2 (hs _ hk)), h.2⟩), fun i hi => (h2 i hi).only ho hs, h3⟩
theorem ClassG.only {vp vf vm : Value} {c : ClassV} (h : ClassG G w vp vf vm c) : ClassG G w' vp vf vm c :=
 ⟨h.pool.only ho (fun k hk hS => (h.off k hk).2 (hs _ hS)), fun k hk => ⟨Nat.lt_of_lt_of_le (h.off k hk).1 ho.size, (h.off k hk).2⟩, h.fields.only ho hs, h.meths.only ho hs, h.this, h.super⟩
end
section
variable {G G' : Nat → Prop} {w : World} (hg : ∀ k, k < w.heap.size → G' k → G k)
include hg
theorem FieldsG.mono {v : Value} {fs : List FieldV} (h : FieldsG G w v fs) : FieldsG G' w v fs := ⟨h.1.imp (fun _ _ _ _ _ h => ⟨h.1, fun hk => h.2 (hg _ (World.block_lt_of_cell? w _ h.1.c0) hk)⟩), h.2⟩
theorem TrapsG.mono {v : Value} {fs : List TrapV} (h : TrapsG G w v fs) : TrapsG G' w v fs := ⟨h.1.imp (fun _ _ _ _ _ h => ⟨h.1, fun hk => h.2 (hg _ (World.block_lt_of_cell? w _ h.1.c0) hk)⟩), h.2⟩
theorem InsideG.mono {m : MethodV} {vc vt vm : Value} (h : InsideG G w m vc vt vm) : InsideG G' w m vc vt vm := ⟨h.1.mono hg, h.2.1.mono hg, h.2.2.mono hg⟩
theorem MethodsG.mono {v : Value} {ms : List MethodV} (h : MethodsG G w v ms) : MethodsG G' w v ms := by
 obtain ⟨f, h1, h2, h3⟩ := h
 exact ⟨f, h1.imp (fun _ _ _ _ _ h => ⟨h.1, fun hk => h.2 (hg _ (World.block_lt_of_cell? w _ h.1.c0) hk)⟩), fun i hi => (h2 i hi).mono hg, h3⟩
theorem ClassG.mono {vp vf vm : Value} {c : ClassV} (h : ClassG G w vp vf vm c) : ClassG G' w vp vf vm c :=
 ⟨h.pool, fun k hk => ⟨(h.off k hk).1, fun hG => (h.off k hk).2 (hg _ (h.off k hk).1 hG)⟩, h.fields.mono hg, h.meths.mono hg, h.this, h.super⟩
end
def listedO (i : Nat) (c : ClassV) (vp vf vm vof vom : Value) : Obj := .cells #[.int .i64 i, vp, .int .i64 c.this, .int .i64 c.super, vf, vm, vof, vom] 131 (0, 0)
def KnownG (G : Nat → Prop) (w : World) (i : Nat) (iv : Value) (k : KindV) (c : ClassV) (vof : Value) : Prop :=
 (i < 13 ∧ k.fields = [] ∧ vof = .slice none 0 0 ∧ ∃ vom, iv = .iface 92 (.agg #[.string k.name, .string k.super, vom]) ∧ MemG G w vom k.meths) ∨
 (13 ≤ i ∧ k = loadZ c (i - 13) ∧ ∃ lb vp vf vm vom, iv = .iface 94 (.pointer (some ⟨lb, 0, none⟩)) ∧ ¬ G lb ∧ w.heap[lb]? = some (listedO i c vp vf vm vof vom) ∧ ClassG G w vp vf vm c ∧ MemG G w vom k.meths)
theorem KnownG.only {G S : Nat → Prop} {w w' : World} {i : Nat} {iv : Value} {k : KindV} {c : ClassV} {vof : Value} (h : KnownG G w i iv k c vof) (ho : Only S w w') (hs : ∀ k, S k → G k) : KnownG G w' i iv k c vof := by
 rcases h with ⟨h1, h2, h3, vom, h4, h5⟩ | ⟨h1, h2, lb, vp, vf, vm, vom, h3, h4, h5, h6, h7⟩
 ·exact .inl ⟨h1, h2, h3, vom, h4, h5.only ho hs⟩
 ·exact .inr ⟨h1, h2, lb, vp, vf, vm, vom, h3, h4, ho.heap h5 (fun hS => h4 (hs _ hS)), h6.only ho hs, h7.only ho hs⟩
theorem KnownG.mono {G G' : Nat → Prop} {w : World} {i : Nat} {iv : Value} {k : KindV} {c : ClassV} {vof : Value} (h : KnownG G w i iv k c vof) (hg : ∀ k, k < w.heap.size → G' k → G k) : KnownG G' w i iv k c vof := by
 rcases h with ⟨h1, h2, h3, vom, h4, h5⟩ | ⟨h1, h2, lb, vp, vf, vm, vom, h3, h4, h5, h6, h7⟩
 ·exact .inl ⟨h1, h2, h3, vom, h4, h5.mono hg⟩
 ·exact .inr ⟨h1, h2, lb, vp, vf, vm, vom, h3, fun hG => h4 (hg _ (heap_lt h5) hG), h5, h6.mono hg, h7.mono hg⟩
def NamesM (w : World) (mb : Nat) (ks : List KindV) : Prop :=
 ∃ n D, n ≤ ks.length ∧ w.ownsMap Tryz.prog 9 (plainElem (H := Unit) Tryz.prog 3) mb n D ∧ IsMap D ∧
  ∀ x, Maps.has D (keyB x) = !decide (findZ ks x < 0) ∧ (¬ findZ ks x < 0 → D.atKey (keyB x) (.lit (.int .i64 0)) = .lit (.int .i64 (findZ ks x)))
theorem NamesM.only {S : Nat → Prop} {w w' : World} {mb : Nat} {ks : List KindV} (h : NamesM w mb ks) (ho : Only S w w') (hs : ¬ S mb) : NamesM w' mb ks := by
 obtain ⟨n, D, h1, ⟨es, clock, h2, h3⟩, h4⟩ := h
 exact ⟨n, D, h1, ⟨es, clock, ho.heap h2 hs, h3⟩, h4⟩
theorem NamesM.lt {w : World} {mb : Nat} {ks : List KindV} (h : NamesM w mb ks) : mb < w.heap.size := by
 obtain ⟨n, D, h1, h2, h4⟩ := h
 exact h2.lt
def progO (vl : Value) (mb : Nat) : Obj := .cells #[vl, .map (some mb)] 87 (0, 0)
def KnownL (G : Nat → Prop) (fv : Nat → Value) (w : World) (ks : List KindV) (cl : Nat → ClassV) (b o i : Nat) : Prop := ∃ iv, w.cell? ⟨b, o + i, none⟩ = some iv ∧ KnownG G w i iv (ks.getD i default) (cl i) (fv i)
structure ProgG (G : Nat → Prop) (fv : Nat → Value) (w : World) (pb : Nat) (ks : List KindV) (cl : Nat → ClassV) (sl : Nat → Nat → Int) : Prop where
 head : ∃ vl mb, w.heap[pb]? = some (progO vl mb) ∧ NamesM w mb ks ∧ Sl vl ks.length (fun b o i => KnownL G fv w ks cl b o i ∧ ¬ G b) ∧ ¬ G pb ∧ ¬ G mb
 fields : ∀ i, i < ks.length → FldS w (fv i) (ks.getD i default).fields (sl i)
 own : ∀ i k, i < ks.length → (fv i).ownBlock = some k → k < w.heap.size ∧ G k
 apart : ∀ i j k, i < ks.length → j < ks.length → (fv i).ownBlock = some k → (fv j).ownBlock = some k → i = j
theorem ProgG.only {G : Nat → Prop} {fv : Nat → Value} {w w' : World} {pb : Nat} {ks : List KindV} {cl : Nat → ClassV} {sl : Nat → Nat → Int} (h : ProgG G fv w pb ks cl sl) (ho : Only (fun _ => False) w w') : ProgG G fv w' pb ks cl sl := by
 obtain ⟨vl, mb, h1, h2, h3, h4, h5⟩ := h.head
 refine ⟨⟨vl, mb, ho.heap h1 (fun h => h), h2.only ho (fun h => h), h3.imp (fun b o i _ _ h => ?_), h4, h5⟩, fun i hi => (h.fields i hi).only ho (fun _ _ h => h), fun i k hi hk => ⟨Nat.lt_of_lt_of_le (h.own i k hi hk).1 ho.size, (h.own i k hi hk).2⟩, h.apart⟩
 obtain ⟨⟨iv, hc, hk⟩, hG⟩ := h
 exact ⟨⟨iv, ho.cell hc (fun h => h), hk.only ho (fun _ h => h.elim)⟩, hG⟩
theorem ProgG.open {G : Nat → Prop} {fv : Nat → Value} {w : World} {pb : Nat} {ks : List KindV} {cl : Nat → ClassV} {sl : Nat → Nat → Int} (h : ProgG G fv w pb ks cl sl) (hn : 0 < ks.length) :
  ∃ b o cap mb, w.cell? ⟨pb, 0, none⟩ = some (.slice (some ⟨b, o, none⟩) ks.length cap) ∧ w.cell? ⟨pb, 1, none⟩ = some (.map (some mb)) ∧ ks.length ≤ cap ∧ cap ≤ 9223372036854775807 ∧ NamesM w mb ks ∧ ∀ i, i < ks.length → KnownL G fv w ks cl b o i := by
 obtain ⟨vl, mb, h1, h2, ⟨ao, cap, rfl, e1, e2, e3, e4⟩, h4, h5⟩ := h.head
 cases ao with
 | none => have := e3 rfl; omega
 | some x =>
  obtain ⟨b, o, rfl, h6⟩ := e4 x rfl hn
  exact ⟨b, o, cap, mb, by rw [cell_blk h1]; rfl, by rw [cell_blk h1]; rfl, e1, e2, h2, fun i hi => (h6 i hi).1⟩
end Go.Proofs.YtemplkpcckmcoaaGreatDoor
