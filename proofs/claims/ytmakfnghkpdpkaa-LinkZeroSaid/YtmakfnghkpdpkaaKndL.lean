/- The program's places of names in a tree: by going through all pairs, and by a map. No condition but a length that leaves room. -/
import Derived.RangeFuncNested
import Derived.RangeFuncBound
import Derived.RangeFuncCalls
import Derived.RangeFuncLeaves
import Derived.RangeFuncBox
import Derived.Shelf.Abstract
import Derived.WalkKit
import Derived.OwnWalkIn
import Derived.TacticsInMore
import Derived.LoopNIn
import Derived.LoopIn
import Derived.Maps.OwnSet
import Derived.Maps.OwnIn
import Derived.Maps.Views
import Derived.StringKeys
import Derived.Test.YtmakfnghkpdpkaaKndE
namespace Go.Proofs.Ytmakfnghkpdpkaa
open Go.RowKit Go.Shelf Go.Maps
set_option linter.unusedVariables false
set_option linter.unusedSimpArgs false
attribute [local go_sem] Oper.semAt_some

theorem beq_bytes (a b : ByteArray) : (a.toList == b.toList) = decide (a = b) := by
  by_cases h : a = b
  · subst h; simp
  · rw [(toList_beq h).1]
    simp [h]
/-! The map of places, the last pair first. -/
def keyB (s : ByteArray) : Lit := .string s.data.toList
theorem keyB_inj {a b : ByteArray} (h : keyB a = keyB b) : a = b := by
  unfold keyB at h
  injection h with h
  apply toList_inj'
  rw [Lib.toList_data, Lib.toList_data, h]
def putN (l : List PairV) (D : DataW Unit) (ns : List Nat) : DataW Unit := ns.foldl (fun D i => D.put (keyB (l.getD i default).name) (.lit (.int .i64 i))) D
def treeD (l : List PairV) (ns : List Nat) : DataW Unit := putN l (.map []) ns
theorem treeD_snoc (l : List PairV) (ns : List Nat) (i : Nat) : treeD l (ns ++ [i]) = (treeD l ns).put (keyB (l.getD i default).name) (.lit (.int .i64 i)) := by simp [treeD, putN]
theorem putN_map (l : List PairV) : ∀ (ns : List Nat) (D : DataW Unit), IsMap D → IsMap (putN l D ns)
  | [], D, h => h
  | i :: ns, D, h => putN_map l ns _ (h.put _ _)
theorem treeD_map (l : List PairV) (ns : List Nat) : IsMap (treeD l ns) := putN_map l ns _ isMap_empty
/-- The places from j on, the last first. -/
def backN (n j : Nat) : List Nat := ((List.range n).drop j).reverse
theorem backN_end (n : Nat) : backN n n = [] := by simp [backN]
theorem backN_step {n j : Nat} (h : j < n) : backN n j = backN n (j + 1) ++ [j] := by
  unfold backN
  rw [List.drop_eq_getElem_cons (by simpa using h), List.reverse_cons]
  simp
theorem backN_len (n j : Nat) : (backN n j).length = n - j := by simp [backN]
theorem tree_look {l : List PairV} (x : ByteArray) : ∀ (k j : Nat), j + k = l.length →
    Maps.has (treeD l (backN l.length j)) (keyB x) = !decide (pairFrom x j (l.drop j) < 0) ∧ (¬ pairFrom x j (l.drop j) < 0 → (treeD l (backN l.length j)).atKey (keyB x) (.lit (.int .i64 0)) = .lit (.int .i64 (pairFrom x j (l.drop j))))
  | 0, j, h => by
    obtain rfl : j = l.length := by omega
    rw [backN_end, List.drop_length]
    exact ⟨rfl, fun h => absurd (show (-1 : Int) < 0 by decide) h⟩
  | k + 1, j, h => by
    have hj : j < l.length := by omega
    have ih := tree_look (l := l) x k (j + 1) (by omega)
    rw [backN_step hj, treeD_snoc, pairFrom_at hj]
    by_cases hx : (l.getD j default).name = x
    · rw [if_pos hx, hx, has_put_same (k := keyB x) (treeD_map l _) (by unfold keyB; trivial), atKey_put_same (k := keyB x) (treeD_map l _) (by unfold keyB; trivial)]
      exact ⟨by simp, fun _ => rfl⟩
    · have hk : keyB x ≠ keyB (l.getD j default).name := fun e => hx (keyB_inj e).symm
      rw [if_neg hx, has_put_other hk, atKey_put_other hk]
      exact ih
theorem tree_has (l : List PairV) (x : ByteArray) : Maps.has (treeD l (backN l.length 0)) (keyB x) = !decide (pairOf l x < 0) := (tree_look (l := l) x l.length 0 (by omega)).1
theorem tree_at {l : List PairV} {x : ByteArray} (h : ¬ pairOf l x < 0) : (treeD l (backN l.length 0)).atKey (keyB x) (.lit (.int .i64 0)) = .lit (.int .i64 (pairOf l x)) := (tree_look (l := l) x l.length 0 (by omega)).2 h
theorem zero_int8 (w : World) : (zeroValue 3).run Try.prog w = .ok (.int .i64 0) w := by kernel_rfl
abbrev TreeMap (w : World) (l : List PairV) (b n : Nat) (ns : List Nat) : Prop := w.ownsMap Try.prog 9 (plainElem (H := Unit) Try.prog 3) b n (treeD l ns)
theorem only_map {w w' : World} {l : List PairV} {b n : Nat} {ns : List Nat} (h : TreeMap w l b n ns) (ho : Only (fun _ => False) w w') : TreeMap w' l b n ns := by
  obtain ⟨es, clock, h1, h2⟩ := h
  exact ⟨es, clock, ho.heap h1 (fun h => h), h2⟩

theorem lit_eq {c d : Int} (h : (DataW.lit (.int .i64 c) : DataW Unit) = .lit (.int .i64 d)) : c = d := by
  injection h with h
  injection h
end Go.Proofs.Ytmakfnghkpdpkaa
