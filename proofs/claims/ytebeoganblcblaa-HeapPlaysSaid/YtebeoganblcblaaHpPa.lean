/- The program's heap in plain words: where each object's values are among those of all. No condition. -/
import Derived.Test.YtebeoganblcblaaHpW
namespace Go.Proofs.Ytebeoganblcblaa
open Go.RowKit
set_option linter.unusedVariables false
set_option linter.unusedSimpArgs false

/-- An object as the program keeps it: its type, and where its values are. -/
structure ObP where
  t : TypeV
  a : Nat
  b : Nat
instance : Inhabited ObP := ⟨⟨zeroT, 0, 0⟩⟩
def cellsPo (x : ObP) : List Value := [.int .i64 x.t.k, .string x.t.name, .int .i64 x.t.dims, .int .i64 x.t.elem, .int .i64 x.t.at_, .int .i64 (x.a : Int), .int .i64 (x.b : Int)]
theorem lenPo (x : ObP) : (cellsPo x).length = 7 := rfl
/-- Where they are, one behind the other. -/
def spread : Nat → List ObjV → List ObP
  | _, [] => []
  | k, o :: r => ⟨o.t, k, k + o.vs.length⟩ :: spread (k + o.vs.length) r
def allVs (os : List ObjV) : List ValV := os.flatMap (·.vs)
def offZ (os : List ObjV) (i : Nat) : Nat := (allVs (os.take i)).length
theorem spread_len : ∀ (k : Nat) (os : List ObjV), (spread k os).length = os.length
  | _, [] => rfl
  | k, o :: r => by rw [spread, List.length_cons, List.length_cons, spread_len]
theorem allVs_cons (o : ObjV) (r : List ObjV) : allVs (o :: r) = o.vs ++ allVs r := by unfold allVs; rw [List.flatMap_cons]
theorem allVs_append (a b : List ObjV) : allVs (a ++ b) = allVs a ++ allVs b := by unfold allVs; rw [List.flatMap_append]
theorem spread_at : ∀ (k : Nat) (os : List ObjV) (i : Nat), i < os.length →
    (spread k os).getD i default = ⟨(os.getD i default).t, k + offZ os i, k + offZ os i + (os.getD i default).vs.length⟩
  | _, [], _, h => absurd h (Nat.not_lt_zero _)
  | k, o :: r, 0, _ => by simp [spread, offZ, allVs]
  | k, o :: r, i + 1, h => by
    have ih := spread_at (k + o.vs.length) r i (by simpa using h)
    rw [spread, List.getD_cons_succ, List.getD_cons_succ, ih]
    have e : offZ (o :: r) (i + 1) = o.vs.length + offZ r i := by
      unfold offZ
      rw [List.take_succ_cons, allVs_cons, List.length_append]
    rw [e, Nat.add_assoc]
theorem spread_append : ∀ (k : Nat) (os : List ObjV) (o : ObjV), spread k (os ++ [o]) = spread k os ++ [⟨o.t, k + (allVs os).length, k + (allVs os).length + o.vs.length⟩]
  | k, [], o => by simp [spread, allVs]
  | k, x :: r, o => by
    rw [List.cons_append, spread, spread, spread_append, List.cons_append, allVs_cons, List.length_append, Nat.add_assoc]
/-- Its values are among those of all. -/
theorem cut_at : ∀ (os : List ObjV) (i j : Nat), i < os.length → j < (os.getD i default).vs.length →
    offZ os i + j < (allVs os).length ∧ (allVs os).getD (offZ os i + j) default = (os.getD i default).vs.getD j default
  | [], _, _, h, _ => absurd h (Nat.not_lt_zero _)
  | o :: r, 0, j, _, hj => by
    have hj' : j < o.vs.length := by simpa using hj
    rw [allVs_cons, show offZ (o :: r) 0 = 0 from by simp [offZ, allVs]]
    refine ⟨by rw [List.length_append]; omega, ?_⟩
    rw [Nat.zero_add, List.getD_cons_zero]
    simp [List.getD, List.getElem?_append_left hj']
  | o :: r, i + 1, j, h, hj => by
    have hj' : j < (r.getD i default).vs.length := by simpa using hj
    obtain ⟨h1, h2⟩ := cut_at r i j (by simpa using h) hj'
    have e : offZ (o :: r) (i + 1) = o.vs.length + offZ r i := by
      unfold offZ
      rw [List.take_succ_cons, allVs_cons, List.length_append]
    rw [e, allVs_cons, List.getD_cons_succ]
    refine ⟨by rw [List.length_append]; omega, ?_⟩
    rw [← h2, Nat.add_assoc]
    simp [List.getD, List.getElem?_append_right]
theorem cut_end (os : List ObjV) (i : Nat) (h : i < os.length) : offZ os i + (os.getD i default).vs.length ≤ (allVs os).length := by
  have e : (allVs os) = allVs (os.take i) ++ allVs (os.drop i) := by rw [← allVs_append, List.take_append_drop]
  have e2 : os.drop i = os.getD i default :: os.drop (i + 1) := by
    rw [List.drop_eq_getElem_cons h]
    simp [List.getD, h]
  rw [e, e2, allVs_cons, List.length_append, List.length_append]
  unfold offZ
  omega
theorem cut_all (os : List ObjV) (i : Nat) (h : i < os.length) : ((allVs os).drop (offZ os i)).take (os.getD i default).vs.length = (os.getD i default).vs := by
  have e : (allVs os) = allVs (os.take i) ++ allVs (os.drop i) := by rw [← allVs_append, List.take_append_drop]
  have e2 : os.drop i = os.getD i default :: os.drop (i + 1) := by
    rw [List.drop_eq_getElem_cons h]
    simp [List.getD, h]
  rw [e, e2, allVs_cons]
  unfold offZ
  rw [List.drop_left, List.take_left]
/-- One is set: the others are where they were. -/
theorem spread_set : ∀ (k : Nat) (os : List ObjV) (i : Nat) (vs : List ValV), i < os.length → vs.length = (os.getD i default).vs.length → spread k (os.set i ⟨(os.getD i default).t, vs⟩) = spread k os
  | _, [], _, _, h, _ => absurd h (Nat.not_lt_zero _)
  | k, o :: r, 0, vs, _, hv => by
    rw [List.set_cons_zero, List.getD_cons_zero] at *
    rw [spread, spread, hv]
  | k, o :: r, i + 1, vs, h, hv => by
    rw [List.set_cons_succ, List.getD_cons_succ] at *
    rw [spread, spread, spread_set _ r i vs (by simpa using h) hv]
theorem allVs_set : ∀ (os : List ObjV) (i j : Nat) (v : ValV), i < os.length → j < (os.getD i default).vs.length →
    allVs (os.set i ⟨(os.getD i default).t, (os.getD i default).vs.set j v⟩) = (allVs os).set (offZ os i + j) v
  | [], _, _, _, h, _ => absurd h (Nat.not_lt_zero _)
  | o :: r, 0, j, v, _, hj => by
    have hj' : j < o.vs.length := by simpa using hj
    rw [List.set_cons_zero, List.getD_cons_zero, allVs_cons, allVs_cons, show offZ (o :: r) 0 = 0 from by simp [offZ, allVs], Nat.zero_add, List.set_append_left _ _ hj']
  | o :: r, i + 1, j, v, h, hj => by
    have hj' : j < (r.getD i default).vs.length := by simpa using hj
    have ih := allVs_set r i j v (by simpa using h) hj'
    have e : offZ (o :: r) (i + 1) = o.vs.length + offZ r i := by
      unfold offZ
      rw [List.take_succ_cons, allVs_cons, List.length_append]
    rw [List.set_cons_succ, List.getD_cons_succ, allVs_cons, allVs_cons, ih, e, List.set_append_right _ _ (by omega)]
    congr 2
    omega
theorem allVs_few : ∀ (os : List ObjV), (∀ x ∈ os, x.vs.length ≤ 1024) → (allVs os).length ≤ os.length * 1024
  | [], _ => by simp [allVs]
  | o :: r, h => by
    rw [allVs_cons, List.length_append, List.length_cons, Nat.succ_mul]
    have h1 := h o (List.mem_cons_self ..)
    have h2 := allVs_few r (fun x hx => h x (List.mem_cons_of_mem _ hx))
    omega
theorem putZ_short {os : List ObjV} (h : ∀ x ∈ os, x.vs.length ≤ 1024) (r i : Int) (v : ValV) (hr : r.toNat - 1 < os.length) : ∀ x ∈ putZ os r i v, x.vs.length ≤ 1024 := by
  intro x hx
  unfold putZ at hx
  rcases List.mem_or_eq_of_mem_set hx with hx | rfl
  · exact h x hx
  · show ((obZ os r).vs.set i.toNat v).length ≤ 1024
    rw [List.length_set]
    refine h _ ?_
    unfold obZ
    rw [show os.getD (r.toNat - 1) default = os[r.toNat - 1] from by simp [List.getD, hr]]
    exact List.getElem_mem _
end Go.Proofs.Ytebeoganblcblaa
