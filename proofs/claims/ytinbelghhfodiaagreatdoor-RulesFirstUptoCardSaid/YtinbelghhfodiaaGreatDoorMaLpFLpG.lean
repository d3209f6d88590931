import Derived.Test.YtinbelghhfodiaaGreatDoorMaTkH
import Derived.Test.YtinbelghhfodiaaGreatDoorMaClsGLpE
namespace Go.Proofs.YtinbelghhfodiaaGreatDoor
set_option maxHeartbeats 16000000
open Lib (hid)
open Go.RowKit Go.Maps
set_option linter.unusedVariables false
set_option linter.unusedSimpArgs false
attribute [local go_sem] Oper.semAt_some
structure GoodK (ks : List KindV) : Prop where
 pos : 13 ≤ ks.length
 small : SmallK ks
 root : findZ ks (ks.getD 0 default).super = -1
 fine : ∀ k ∈ ks, FineK k
 ends : EndsAll ks
 once : NamesOnce ks
def seqX (ks : List KindV) (x : Int) : List Nat := if x < 0 then [] else if (ks.length : Int) ≤ x then [] else upZ ks x
theorem seqX_neg {ks : List KindV} {x : Int} (h : x < 0) : seqX ks x = [] := if_pos h
theorem seqX_out {ks : List KindV} {x : Int} (h : (ks.length : Int) ≤ x) : seqX ks x = [] := by unfold seqX; split <;> rfl
theorem seqX_in {ks : List KindV} {x : Int} (h : x < ks.length) : seqX ks x = upZ ks x := by
 unfold seqX
 split
 ·rw [upZ_end (by assumption)]
 ·rw [if_neg (by omega)]
theorem seqX_step {ks : List KindV} (he : EndsAll ks) {j : Nat} (h : j < ks.length) : seqX ks (j : Int) = j :: seqX ks (superZ ks j) := by
 rw [seqX_in (by omega), seqX_in (superZ_lt ks j), upZ_step he h]
theorem seqX_len {ks : List KindV} (x : Int) : (seqX ks x).length ≤ ks.length + 1 := by
 unfold seqX
 split
 ·exact Nat.zero_le _
 ·split
  ·exact Nat.zero_le _
  ·exact chain_len _ _
theorem seqX_lt {ks : List KindV} (he : EndsAll ks) : ∀ (m : Nat) (x : Int), (seqX ks x).length = m → ∀ j ∈ seqX ks x, j < ks.length
 | m, x, hm, j, hj => by
  by_cases h0 : x < 0
  ·rw [seqX_neg h0] at hj; cases hj
  by_cases h1 : (ks.length : Int) ≤ x
  ·rw [seqX_out h1] at hj; cases hj
  obtain ⟨i, rfl⟩ := Int.eq_ofNat_of_zero_le (show 0 ≤ x by omega)
  have hi : i < ks.length := by omega
  rw [seqX_step he hi] at hj hm
  rcases List.mem_cons.1 hj with rfl | hj
  ·exact hi
  ·cases m with
   | zero => cases hm
   | succ m => exact seqX_lt he m _ (by simpa using hm) j hj
abbrev encJ (ks : List KindV) (x : Fin ks.length) : Array Value := #[.int .i64 (x.val : Int)]
theorem only_grown9 {W W' : World} (ho : Only (fun _ => False) W W') : W.grownBy W' none := ⟨ho.os, ho.tape, ho.output, ho.size, fun k hk _ => ho.block k hk (fun h => h)⟩
theorem below_cell {B : Nat} {w W : World} (h : Below B w W) {a : Addr} {v : Value} (hc : w.cell? a = some v) (hB : w.heap.size ≤ B) : W.cell? a = some v :=
 (Only.of_below (h.mono hB) (fun _ => False)).cell hc (fun h => h)
set_option maxRecDepth 100000 in
theorem up_in (n : Nat) (hn : 1 ≤ n) {G : Nat → Prop} {fv : Nat → Value} {w : World} {pb : Nat} {ks : List KindV} {cl : Nat → ClassV} {sl : Nat → Nat → Int} (h : ProgG G fv w pb ks cl sl) (hg : GoodK ks) (x : Int) (Bn Bp : Nat)
  (hBn : w.cell? ⟨Bn, 0, none⟩ = some (.int .i64 x)) (hBp : w.cell? ⟨Bp, 0, none⟩ = some (.pointer (some ⟨pb, 0, none⟩))) :
  SeqStopsK Fence.wide n Tryz.prog 178 #[.pointer (some ⟨Bn, 0, none⟩), .pointer (some ⟨Bp, 0, none⟩)] (encJ ks) (Below w.heap.size) (fun xs => vals xs = seqX ks x) (fun pre => vals pre <+: seqX ks x) (ks.length + 2) w := by
 intro lp J Jx W hb hJ hJx hY h0
 have HY := hid hY
 have HJ := hid hJ
 have H := hid h
 have HG := hid hg
 have HBP := hid hBp
 have HB := hid hb
 have hp0 := hg.pos
 have hcn := below_cell hb hBn (Nat.le_refl _)
 have HSX := hid (show seqX ks x = vals ([] : List (Fin ks.length)) ++ seqX ks x from rfl)
 clear hY hJ hJx h hg hBp hBn hb
 refine callsIn_of_wp Tryz.func178 rfl trivial ?_ rfl
 simp only [Tryz.ntmps178, List.size_toArray, List.length_cons, List.length_nil, Nat.reduceAdd, Nat.reduceSub, Array.replicate_succ, Array.replicate_zero, List.push_toArray, List.append_toArray, List.nil_append, List.cons_append]
 gi_wp2
 clear hcn
 gi_loopw [4] (fun av wr => ∃ (y : Int) (pre : List (Fin ks.length)), av = .int .i64 y ∧ Hid (seqX ks x = vals pre ++ seqX ks y) ∧ Hid (Below w.heap.size w wr) ∧ Hid (J pre wr)) (fun av _ => (seqX ks (intOf av)).length)
 case atStart => exact ⟨x, [], rfl, HSX, HB, hid h0⟩
 case round =>
  obtain ⟨y, pre, rfl, HS, HBW, HJR⟩ := hrel
  have hcp := below_cell HBW.out HBP.out (Nat.le_refl _)
  have hpw := H.out.only (Only.of_below HBW.out _)
  have c1 := pHas hpw (by omega) y
  by_cases hy : 0 ≤ y ∧ y < (ks.length : Int)
  ·obtain ⟨j, rfl⟩ := Int.eq_ofNat_of_zero_le hy.1
   have hj : j < ks.length := by omega
   rw [show (decide (0 ≤ (j : Int)) && decide ((j : Int) < (ks.length : Int))) = true by simp; omega] at c1
   have C1 := hid c1
   have HST := hid (seqX_step HG.out.ends hj)
   have HPRE : Hid (vals (pre ++ [(⟨j, hj⟩ : Fin ks.length)]) <+: seqX ks x) := hid (by rw [vals_snoc, HS.out, HST.out]; exact ⟨seqX ks (superZ ks j), by simp⟩)
   have hpl : pre.length < ks.length + 2 := by
    have h1 := seqX_len (ks := ks) x
    have h2 := congrArg List.length HS.out
    rw [List.length_append, vals_len] at h2
    omega
   have HS2 : Hid (seqX ks x = vals (pre ++ [(⟨j, hj⟩ : Fin ks.length)]) ++ seqX ks (superZ ks j)) := hid (by rw [vals_snoc, HS.out, HST.out]; simp)
   have HM : Hid ((seqX ks (superZ ks j)).length < (seqX ks (j : Int)).length) := hid (by rw [HST.out, List.length_cons]; omega)
   have CS := hid (fun W1 (hW : ProgG G fv W1 pb ks cl sl) => pSuper hW (by omega) HG.out.root HG.out.fine (j : Int))
   obtain ⟨fn, tmps, assign, body, hy', hR⟩ := HY.out pre ⟨j, hj⟩ wr HJR.out hpl
   unfold encJ at hy'
   try dsimp only at hy'
   have HR3 := hid hR
   have HPW := hid hpw
   generalize superZ ks (j : Int) = sj at *
   clear hR hpl c1 hpw hy HST
   gi_wp2_with (fail)
   refine ⟨trivial, (callsIn_wide.2 C1.out).mono ?_⟩
   rintro e' w3 ⟨rfl, hww⟩
   subst hww
   gi_wp2_with (fail)
   refine HR3.out.mono ?_
   rintro e9 W3 (⟨rfl, hJ3, hk3⟩ | ⟨rfl, hJx3⟩)
   ·have HJ3 := hid hJ3
    have hb3 := HBW.out.trans hk3
    have HB3 := hid hb3
    have hcp3 := below_cell hb3 HBP.out (Nat.le_refl _)
    have HP3 := hid (H.out.only (Only.of_below hb3 (fun _ => False)))
    clear hJ3 hk3 hy' hcp hb3 HR3
    gi_wp2_with (fail)
    refine ⟨trivial, (callsIn_wide.2 (CS.out _ HP3.out)).mono ?_⟩
    rintro e4 w4 ⟨rfl, ho4⟩
    have HJ4 := hid (HJ.out _ _ _ none HJ3.out (only_grown9 ho4) (fun r e => by cases e))
    have HB4 := hid (HB3.out.trans ((Only.none ho4).mono HB3.out.size))
    clear ho4 hcp3
    gi_wp2
    go_roundw
    case rel => exact ⟨sj, _, rfl, HS2, HB4, HJ4⟩
    case measure => exact HM.out
   ·have HJ3 := hid hJx3
    clear hJx3 hy' hcp
    gi_wp2
    go_end0
    exact ⟨⟨_, rfl⟩, .inr ⟨_, HPRE.out, HJ3.out⟩⟩
  ·rw [show (decide (0 ≤ y) && decide (y < (ks.length : Int))) = false by simp; omega] at c1
   have C1 := hid c1
   have HE : Hid (vals pre = seqX ks x) := hid (by
    rw [HS.out]
    by_cases h1 : y < 0
    ·rw [seqX_neg h1, List.append_nil]
    ·rw [seqX_out (by omega), List.append_nil])
   clear c1 hpw hy
   gi_wp2_with (fail)
   refine ⟨trivial, (callsIn_wide.2 C1.out).mono ?_⟩
   rintro e' w3 ⟨rfl, hww⟩
   subst hww
   gi_wp2_with (fail)
   refine ⟨fun _ h => (by cases h), ?_⟩
   gi_wp2
   go_end0
   exact ⟨⟨_, rfl⟩, .inl ⟨_, HE.out, HJR.out⟩⟩
def oneX (ks : List KindV) (x : Int) : List Nat := if x < 0 then [] else if (ks.length : Int) ≤ x then [] else [x.toNat]
set_option maxRecDepth 100000 in
theorem alone_in (n : Nat) (hn : 1 ≤ n) {G : Nat → Prop} {fv : Nat → Value} {w : World} {pb : Nat} {ks : List KindV} {cl : Nat → ClassV} {sl : Nat → Nat → Int} (h : ProgG G fv w pb ks cl sl) (hp0 : 0 < ks.length) (x : Int) (Bn Bp : Nat)
  (hBn : w.cell? ⟨Bn, 0, none⟩ = some (.int .i64 x)) (hBp : w.cell? ⟨Bp, 0, none⟩ = some (.pointer (some ⟨pb, 0, none⟩))) :
  SeqStopsK Fence.wide n Tryz.prog 163 #[.pointer (some ⟨Bp, 0, none⟩), .pointer (some ⟨Bn, 0, none⟩)] (encJ ks) (Below w.heap.size) (fun xs => vals xs = oneX ks x) (fun pre => vals pre <+: oneX ks x) (ks.length + 2) w := by
 intro lp J Jx W hb hJ hJx hY h0
 have hcn := below_cell hb hBn (Nat.le_refl _)
 have hcp := below_cell hb hBp (Nat.le_refl _)
 have c1 := pHas (h.only (Only.of_below hb _)) hp0 x
 by_cases hy : 0 ≤ x ∧ x < (ks.length : Int)
 ·obtain ⟨j, rfl⟩ := Int.eq_ofNat_of_zero_le hy.1
  have hj : j < ks.length := by omega
  rw [show (decide (0 ≤ (j : Int)) && decide ((j : Int) < (ks.length : Int))) = true by simp; omega] at c1
  have HE := hid (show oneX ks (j : Int) = [j] by unfold oneX; rw [if_neg (by omega), if_neg (by omega)]; rfl)
  have C1 := hid c1
  obtain ⟨fn, tmps, assign, body, hy', hR⟩ := hY [] ⟨j, hj⟩ W h0 (by simp)
  unfold encJ at hy'
  try dsimp only at hy'
  have HR3 := hid hR
  clear hR c1 hy h hb hJ hJx hY hBn hBp
  refine callsIn_of_wp Tryz.func163 rfl trivial ?_ rfl
  simp only [Tryz.ntmps163, List.size_toArray, List.length_cons, List.length_nil, Nat.reduceAdd, Nat.reduceSub, Array.replicate_succ, Array.replicate_zero, List.push_toArray, List.append_toArray, List.nil_append, List.cons_append]
  gi_wp2_with (fail)
  refine ⟨trivial, (callsIn_wide.2 C1.out).mono ?_⟩
  rintro e' w3 ⟨rfl, hww⟩
  subst hww
  gi_wp2_with (fail)
  refine HR3.out.mono ?_
  rintro e9 W3 (⟨rfl, hJ3, hk3⟩ | ⟨rfl, hJx3⟩)
  ·have HJ3 := hid hJ3
   clear hJ3 hk3 hy' hcp hcn
   gi_wp2
   go_end0
   exact ⟨⟨_, rfl⟩, .inl ⟨[⟨j, hj⟩], HE.out.symm, HJ3.out⟩⟩
  ·have HJ3 := hid hJx3
   clear hJx3 hy' hcp hcn
   gi_wp2
   go_end0
   exact ⟨⟨_, rfl⟩, .inr ⟨[⟨j, hj⟩], by rw [HE.out]; exact List.prefix_rfl, HJ3.out⟩⟩
 ·rw [show (decide (0 ≤ x) && decide (x < (ks.length : Int))) = false by simp; omega] at c1
  have HE := hid (show oneX ks x = [] by unfold oneX; split; rfl; rw [if_pos (by omega)])
  have C1 := hid c1
  clear c1 hy h hb hJ hJx hY hBn hBp
  refine callsIn_of_wp Tryz.func163 rfl trivial ?_ rfl
  simp only [Tryz.ntmps163, List.size_toArray, List.length_cons, List.length_nil, Nat.reduceAdd, Nat.reduceSub, Array.replicate_succ, Array.replicate_zero, List.push_toArray, List.append_toArray, List.nil_append, List.cons_append]
  gi_wp2_with (fail)
  refine ⟨trivial, (callsIn_wide.2 C1.out).mono ?_⟩
  rintro e' w3 ⟨rfl, hww⟩
  subst hww
  gi_wp2
  go_end0
  exact ⟨⟨_, rfl⟩, .inl ⟨[], HE.out.symm, h0⟩⟩
set_option maxRecDepth 100000 in
theorem none_in (n N : Nat) (ks : List KindV) (w : World) : SeqStopsK Fence.wide n Tryz.prog 161 #[] (encJ ks) (Below w.heap.size) (fun xs => vals xs = []) (fun pre => vals pre <+: []) N w := by
 intro lp J Jx W hb hJ hJx hY h0
 clear hb hJ hJx hY
 refine callsIn_of_wp Tryz.func161 rfl trivial ?_ rfl
 simp only [Tryz.ntmps161, List.size_toArray, List.length_cons, List.length_nil, Nat.reduceAdd, Nat.reduceSub, Array.replicate_succ, Array.replicate_zero, List.push_toArray, List.append_toArray, List.nil_append, List.cons_append]
 gi_wp2
 go_end0
 exact ⟨⟨_, rfl⟩, .inl ⟨[], rfl, h0⟩⟩
theorem pUp (pb : Nat) (x : Int) (w : World) : Calls Tryz.prog 162 #[.pointer (some ⟨pb, 0, none⟩), .int .i64 x] w fun e w' => e = .returned (.func (.func 178) #[] #[.pointer (some ⟨w.heap.size + 1, 0, none⟩), .pointer (some ⟨w.heap.size, 0, none⟩)]) ∧ w' = (w.alloc (.cells #[.pointer (some ⟨pb, 0, none⟩)] 41)).alloc (.cells #[.int .i64 x] 3) := by
 go_enter Tryz.func162, Tryz.ntmps162
 go_wp2
 go_ret
 exact ⟨rfl, rfl⟩
theorem pAlone (pb : Nat) (x : Int) (w : World) : Calls Tryz.prog 140 #[.pointer (some ⟨pb, 0, none⟩), .int .i64 x] w fun e w' => e = .returned (.func (.func 163) #[] #[.pointer (some ⟨w.heap.size, 0, none⟩), .pointer (some ⟨w.heap.size + 1, 0, none⟩)]) ∧ w' = (w.alloc (.cells #[.pointer (some ⟨pb, 0, none⟩)] 41)).alloc (.cells #[.int .i64 x] 3) := by
 go_enter Tryz.func140, Tryz.ntmps140
 go_wp2
 go_ret
 exact ⟨rfl, rfl⟩
attribute [local go_sem] Oper.semAt_some
def noDeferB (ops : Array Oper) : Bool := ops.all (fun o => match o.op with | .defer _ => false | _ => true)
theorem noDefer {ops : Array Oper} (h : noDeferB ops = true) : NoDefer ops := fun i o ho c hc => by
 obtain ⟨hi, rfl⟩ := Array.getElem?_eq_some_iff.1 ho
 have := Array.all_eq_true.1 h i hi
 rw [hc] at this
 cases this
def placeAt (ms : List MethN) (s : Nat → Int) (j : Nat) (n d : ByteArray) : Option MemV :=
 if hasZ ms n d < 0 then none else some ⟨j, hasZ ms n d, d, (ms.getD (hasZ ms n d).toNat default).flags == 8, s (hasZ ms n d).toNat⟩
structure OfV (G : Nat → Prop) (fv : Nat → Value) (pb : Nat) (ks : List KindV) (cl : Nat → ClassV) (sl : Nat → Nat → Int) (ofn : FuncId) (ms : Nat → List MethN) (s : Nat → Nat → Int) : Prop where
 enters : ∀ args W, (callFunc ofn args).run Tryz.prog W = .ok (.enter ofn args) W
 calls : ∀ W, ProgG G fv W pb ks cl sl → ∀ j, j < ks.length → ∀ iv, KnownG G W j iv (ks.getD j default) (cl j) (fv j) → ∃ v, MemS W v (ms j) (s j) ∧ ∀ W', Only (fun _ => False) W W' → Calls Tryz.prog ofn #[iv] W' fun e w' => e = .returned v ∧ Only (fun _ => False) W' w'
 few : ∀ j, j < ks.length → (ms j).length ≤ 64
theorem cell1 {w : World} {b : Nat} {v : Value} {t : TypeId} {f : Nat × Nat} (h : w.heap[b]? = some (.cells #[v] t f)) : w.cell? ⟨b, 0, none⟩ = some v := cell_blk h 0
theorem own_heap {X Y : World} {B : Nat} {o : Obj} {row : Option Nat} {N : Nat} (h : X.heap[B]? = some o) (hc : o.isCells = true) (hg : X.grownBy Y row) (hr : ∀ r, row = some r → N ≤ r ∧ ∃ o : Obj, X.heap[r]? = some o ∧ o.isCells = false) : Y.heap[B]? = some o :=
 heap_kept8 h hc hg (fun r e => (hr r e).2)
def Vars (w W : World) (pb : Nat) (ofn : FuncId) (n d : ByteArray) (m : MemV) (e : Int) : Prop :=
 W.heap[w.heap.size]? = some (.cells #[.pointer (some ⟨pb, 0, none⟩)] 41 (0, 0)) ∧ W.heap[w.heap.size + 1]? = some (.cells #[.func (.func ofn) #[] #[]] 181 (0, 0)) ∧
 W.heap[w.heap.size + 1 + 1]? = some (.cells #[.string n] 9 (0, 0)) ∧ W.heap[w.heap.size + 1 + 1 + 1]? = some (.cells #[.string d] 9 (0, 0)) ∧
 W.heap[w.heap.size + 1 + 1 + 1 + 1]? = some (.cells #[.int .i64 m.cls, .int .i64 m.place, .string m.desc, .bool m.static, .int .i64 m.slot] 138 (0, 0)) ∧ W.heap[w.heap.size + 1 + 1 + 1 + 1 + 1]? = some (.cells #[.int .i64 e] 34 (0, 0))
theorem Vars.only {w W W' : World} {pb : Nat} {ofn : FuncId} {n d : ByteArray} {m : MemV} {e : Int} (h : Vars w W pb ofn n d m e) (ho : Only (fun _ => False) W W') : Vars w W' pb ofn n d m e :=
 ⟨ho.heap h.1 (fun h => h), ho.heap h.2.1 (fun h => h), ho.heap h.2.2.1 (fun h => h), ho.heap h.2.2.2.1 (fun h => h), ho.heap h.2.2.2.2.1 (fun h => h), ho.heap h.2.2.2.2.2 (fun h => h)⟩
theorem Vars.own {w X Y : World} {pb : Nat} {ofn : FuncId} {n d : ByteArray} {m : MemV} {e : Int} {row : Option Nat} {N : Nat} (h : Vars w X pb ofn n d m e) (hg : X.grownBy Y row) (hr : ∀ r, row = some r → N ≤ r ∧ ∃ o : Obj, X.heap[r]? = some o ∧ o.isCells = false) : Vars w Y pb ofn n d m e :=
 ⟨own_heap h.1 rfl hg hr, own_heap h.2.1 rfl hg hr, own_heap h.2.2.1 rfl hg hr, own_heap h.2.2.2.1 rfl hg hr, own_heap h.2.2.2.2.1 rfl hg hr, own_heap h.2.2.2.2.2 rfl hg hr⟩
theorem keepsFrom_only {B : Nat} {W W' : World} (ho : Only (fun _ => False) W W') : KeepsFrom B W W' := ⟨ho.size, fun k o _ hk _ => ho.heap hk (fun h => h)⟩
theorem mem_resultC {fn : Func} {p q : Tmp} (hr : fn.results = #[.cell p 138, .cell q 34]) {w : World} {b c : Nat} {t : MemV} {x : Int} {tmps : Array Value} (h : w.heap[b]? = some (.cells #[.int .i64 t.cls, .int .i64 t.place, .string t.desc, .bool t.static, .int .i64 t.slot] 138 (0, 0))) (h2 : w.heap[c]? = some (.cells #[.int .i64 x] 34 (0, 0))) (ht : tmps.getD p undef = .pointer (some ⟨b, 0, none⟩)) (hx : tmps.getD q undef = .pointer (some ⟨c, 0, none⟩)) :
  (results fn tmps).run Tryz.prog w = .ok (.tuple #[valM t, .int .i64 x]) w := by
 have hp' : tmps[p]?.getD undef = .pointer (some ⟨b, 0, none⟩) := by simpa using ht
 have hq' : tmps[q]?.getD undef = .pointer (some ⟨c, 0, none⟩) := by simpa using hx
 have hL := run_loadVar_row w b 138 138 _ (0, 0) _ h Tryz.underlying138 rfl info5_mem
 have hc := cell1 h2
 have hL2 : (loadVar 34 ⟨c, 0, none⟩).run Tryz.prog w = .ok (.int .i64 x) w := by simp [loadVar, isAgg, underlying, Tryz.underlying34, hc, Result.andThen]
 simp only [results, hr]
 simp [Sem.run_bind, Result.andThen, hp', hq', asAddr, hL, hL2]
 rfl
theorem firstO_none {f : Nat → Option MemV} : ∀ {xs : List Nat}, (∀ j ∈ xs, f j = none) → firstO xs f = none
 | [], _ => rfl
 | j :: r, h => by
  unfold firstO
  rw [h j (by simp)]
  exact firstO_none (fun i hi => h i (by simp [hi]))
theorem firstO_some {f : Nat → Option MemV} {m : MemV} : ∀ {pre : List Nat} {j : Nat} {xs : List Nat}, (∀ i ∈ pre, f i = none) → f j = some m → pre ++ [j] <+: xs → firstO xs f = some m
 | [], j, xs, _, hf, ⟨t, ht⟩ => by subst ht; show (match f j with | some m => some m | none => _) = _; rw [hf]
 | i :: pre, j, xs, h, hf, ⟨t, ht⟩ => by
  subst ht
  show (match f i with | some m => some m | none => _) = _
  rw [h i (by simp)]
  exact firstO_some (fun k hk => h k (by simp [hk])) hf ⟨t, rfl⟩
def Quiet9 (f : Nat → Option MemV) (pre : List Nat) : Prop := ∀ i ∈ pre, f i = none
def Loud9 (f : Nat → Option MemV) (pre : List Nat) (m : MemV) : Prop := ∃ q j, pre = q ++ [j] ∧ Quiet9 f q ∧ f j = some m
abbrev six (w : World) (pb : Nat) (ofn : FuncId) (n d : ByteArray) : World :=
 (((((w.alloc (.cells #[.pointer (some ⟨pb, 0, none⟩)] 41)).alloc (.cells #[.func (.func ofn) #[] #[]] 181)).alloc (.cells #[.string n] 9)).alloc (.cells #[.string d] 9)).alloc (.cells #[.int .i64 0, .int .i64 0, .string ⟨#[]⟩, .bool false, .int .i64 0] 138)).alloc (.cells #[.int .i64 0] 34)
theorem six_only (w : World) (pb : Nat) (ofn : FuncId) (n d : ByteArray) : Only (fun _ => False) w (six w pb ofn n d) := ((((((Only.refl _ w).alloc _).alloc _).alloc _).alloc _).alloc _).alloc _
theorem six_vars (w : World) (pb : Nat) (ofn : FuncId) (n d : ByteArray) : Vars w (six w pb ofn n d) pb ofn n d zeroM 0 := by
 have al : ∀ (W : World) (o o' : Obj) (k : Nat), W.heap[k]? = some o → (W.alloc o').heap[k]? = some o := fun W o o' k hk => ((Only.refl (fun _ => False) W).alloc o').heap hk (fun h => h)
 have nw : ∀ (W : World) (cs : Array Value) (t : TypeId) (k : Nat), W.heap.size = k → (W.alloc (.cells cs t)).heap[k]? = some (.cells cs t (0, 0)) := fun W cs t k hk => by subst hk; exact heap_alloc_new W _
 exact ⟨al _ _ _ _ (al _ _ _ _ (al _ _ _ _ (al _ _ _ _ (al _ _ _ _ (nw _ _ _ _ rfl))))), al _ _ _ _ (al _ _ _ _ (al _ _ _ _ (al _ _ _ _ (nw _ _ _ _ (by simp))))), al _ _ _ _ (al _ _ _ _ (al _ _ _ _ (nw _ _ _ _ (by simp)))), al _ _ _ _ (al _ _ _ _ (nw _ _ _ _ (by simp))), al _ _ _ _ (nw _ _ _ _ (by simp)), nw _ _ _ _ (by simp)⟩
theorem fin_heap {w W : World} {D A E N : Nat} {o : Obj} {cm ce : Array Value} {tm te : TypeId} (hD : N ≤ D) (hN : w.heap.size ≤ A ∧ w.heap.size ≤ E ∧ A < N ∧ E < N) (hB : Below w.heap.size w W) (hK : W.heap[D]? = some o) (hm : W.heap[A]? = some (.cells cm tm (0, 0))) (he : W.heap[E]? = some (.cells ce te (0, 0))) :
  (W.putObj D (.deferred none)).heap[A]? = some (.cells cm tm (0, 0)) ∧ (W.putObj D (.deferred none)).heap[E]? = some (.cells ce te (0, 0)) ∧ Only (fun _ => False) w (W.putObj D (.deferred none)) :=
 ⟨(World.putObj_heap_other (by omega)).trans hm, (World.putObj_heap_other (by omega)).trans he, Only.of_below (hB.grown (grownBy_putObj' W D _) hB.size (fun k e => by cases e; omega)) _⟩
set_option maxRecDepth 100000 in
theorem pFirst {G : Nat → Prop} {fv : Nat → Value} {w : World} {pb : Nat} {ks : List KindV} {cl : Nat → ClassV} {sl : Nat → Nat → Int} (h : ProgG G fv w pb ks cl sl) (hpos : 0 < ks.length)
  {gf : FuncId} {lb : Array Value} {xs : List Nat} {N : Nat} (hgf : ∀ args W, (callFunc gf args).run Tryz.prog W = .ok (.enter gf args) W) (hit : ∀ W, Only (fun _ => False) w W → SeqStopsK Fence.wide 8 Tryz.prog gf lb (encJ ks) (Below W.heap.size) (fun l => vals l = xs) (fun pre => vals pre <+: xs) N W)
  {ofn : FuncId} {ms : Nat → List MethN} {s : Nat → Nat → Int} (hof : OfV G fv pb ks cl sl ofn ms s) (n d : ByteArray) :
  Calls Tryz.prog 139 #[.pointer (some ⟨pb, 0, none⟩), .func (.func gf) #[] lb, .func (.func ofn) #[] #[], .string n, .string d] w (MemTo w (firstO xs (fun j => placeAt (ms j) (s j) j n d))) := by
 have hsf : ∀ a W, (store a (.func (.func ofn) #[] #[])).run Tryz.prog W = stored Tryz.prog W a (.func (.func ofn) #[] #[]) .plain := fun a W => run_store _ W a _ .plain rfl
 have H := hid h
 have HIT := hid hit
 have HOF := hid hof
 have HGF := hid hgf
 have hen := hof.enters
 clear h hit hof hgf
 obtain ⟨f, hf⟩ : ∃ f, f = fun j => placeAt (ms j) (s j) j n d := ⟨_, rfl⟩
 rw [← hf]
 have HF : Hid (∀ j, f j = placeAt (ms j) (s j) j n d) := hid (fun j => by rw [hf])
 clear hf
 refine (callsIn_wide (n := 9)).1 ?_
 refine callsIn_of_wp_marks Tryz.func139 rfl trivial ?_ rfl
 simp only [Tryz.ntmps139, List.size_toArray, List.length_cons, List.length_nil, Nat.reduceAdd, Nat.reduceSub, Array.replicate_succ, Array.replicate_zero, List.push_toArray, List.append_toArray, List.nil_append, List.cons_append]
 refine wpIn_wide.2 ?_
 have hv6 := six_vars w pb ofn n d
 have ho6 := six_only w pb ofn n d
 have CM := hid (pIsMade (H.out.only ho6) hpos)
 have hs6 : (six w pb ofn n d).heap.size = w.heap.size + 6 := by simp [six]
 have HV6 := hid hv6
 have HO6 := hid ho6
 have x0 := cell1 hv6.1
 clear hv6 ho6
 go_wp2_with (fail)
 refine CM.out.mono ?_
 rintro e1 w1 ⟨rfl, hww⟩
 subst hww
 go_wp2
 have hv6 := HV6.out
 have ho6 := HO6.out
 obtain ⟨W6, hW6⟩ : ∃ W6, six w pb ofn n d = W6 := ⟨_, rfl⟩
 rw [hW6] at hv6 ho6 hs6 ⊢
 clear hW6 HV6 HO6 CM x0
 refine (wpIn_wide (n := 9)).1 ?_
 refine wpIn_rangeFunc_ownG (α := Fin ks.length) (F := Fence.wide) rfl (by decide) (gf := gf) (lb := lb) rfl trivial HGF.out
  (encs := encJ ks) (Kp := Below w.heap.size) (S := fun l => vals l = xs) (Sp := fun pre => vals pre <+: xs) (N := N) (w0 := w)
  (HIT.out w (Only.refl _ _)) (fun h k => belowK_t h k) (belowK_b (w := W6) (by omega)) (Only.none ho6) (fun _ => rfl)
  (fun pre W => (Vars w W pb ofn n d zeroM 0 ∧ Quiet9 f (vals pre)) ∧ Below w.heap.size w W)
  (fun c pre W => (c = .ret ∧ ∃ m, Loud9 f (vals pre) m ∧ Vars w W pb ofn n d m 0) ∧ Below w.heap.size w W)
  (OwnFrom.and (fun s X Y row hs hg hr => ⟨hs.1.own hg hr, hs.2⟩) (ownFrom_below (Nat.le_refl _) (by omega)))
  (fun c => OwnFrom.and (fun s X Y row hs hg hr => by obtain ⟨h1, m, h2, h3⟩ := hs; exact ⟨h1, m, h2, h3.own hg hr⟩) (ownFrom_below (Nat.le_refl _) (by omega)))
  ⟨⟨hv6, fun _ h => by cases h⟩, Only.none ho6⟩
  (fun x => { tmps := #[.pointer (some ⟨pb, 0, none⟩), .func (.func gf) #[] lb, .func (.func ofn) #[] #[], .string n, .string d, .pointer (some ⟨w.heap.size, 0, none⟩), undef, .pointer (some ⟨w.heap.size + 1, 0, none⟩), .pointer (some ⟨w.heap.size + 1 + 1, 0, none⟩), .pointer (some ⟨w.heap.size + 1 + 1 + 1, 0, none⟩), .pointer (some ⟨w.heap.size + 1 + 1 + 1 + 1, 0, none⟩), .pointer (some ⟨w.heap.size + 1 + 1 + 1 + 1 + 1, 0, none⟩), .int .i64 (x.val : Int), undef, undef, .pointer (some ⟨pb, 0, none⟩), .bool true, .bool false, undef, .func (.func gf) #[] lb, .int .i64 (x.val : Int), undef, undef, undef, undef, undef, undef, undef, undef, undef, undef, undef, undef, undef, undef, undef, undef, undef, undef, undef, undef, undef, undef, undef, undef, undef, undef, undef, undef, undef, undef], defers := [] })
  ?assign ?body ?done ?stop
 case assign =>
  intro lo x W K hK
  gi_wp2
  exact hK
 case body =>
  rintro lo pre ⟨j, hj⟩ W ⟨⟨hv, hq⟩, hB⟩ _
  have hB0 := Only.of_below hB (fun _ => False)
  obtain ⟨b, o, cap, mb, xp0, -, e1, e2, -, hk⟩ := H.out.open hpos
  obtain ⟨iv, xi0, hkn⟩ := hk j hj
  obtain ⟨v, hmv, hcv⟩ := HOF.out.calls w H.out j hj iv hkn
  obtain ⟨am, cm, rfl, m1, m2, m3, -⟩ := id hmv
  have xp := hB0.cell xp0 (fun h => h)
  have xi := hB0.cell xi0 (fun h => h)
  have x0 := cell1 hv.1
  have x1 := cell1 hv.2.1
  have hjz : (j : Int) < (ks.length : Int) := by omega
  have hj0 : (0 : Int) ≤ (j : Int) := by omega
  have hfew := HOF.out.few j hj
  have HOD := hid (hB0.drew)
  have HB0 := hid hB0
  have HV := hid hv
  have HMV := hid hmv
  have HQ := hid hq
  have HB := hid hB
  have HFJ := hid (HF.out j)
  have hz := hasZ_cases (ms j) n d
  have CPL := fun W' (hW : Only (fun _ => False) w W') => pPlaceOf (.slice am (ms j).length cm) (ms j) (s j) n d W' (hmv.only hW) (by omega)
  obtain ⟨L, hL⟩ : ∃ L, (ms j).length = L := ⟨_, rfl⟩
  have HL := hid hL
  obtain ⟨z, hzz⟩ : ∃ z, hasZ (ms j) n d = z := ⟨_, rfl⟩
  have HZZ := hid hzz
  rw [hL] at CPL m1 hfew hcv
  have COF := hid hcv
  rw [hzz] at hz CPL
  have CP := hid CPL
  clear hv hq hB hB0 hkn hk hmv hcv xp0 xi0 m3 CPL hL hzz
  gi_wp2
  refine wpIn_held_round (S := fun wc => (wc.cell? ⟨w.heap.size + 1, 0, none⟩ = some (.func (.func ofn) #[] #[]) ∧ wc.cell? ⟨w.heap.size, 0, none⟩ = some (.pointer (some ⟨pb, 0, none⟩)) ∧ wc.cell? ⟨pb, 0, none⟩ = some (.slice (some ⟨b, o, none⟩) ks.length cap) ∧ wc.cell? ⟨b, o + j, none⟩ = some iv)) (by kernel_rfl) (noDefer (by kernel_rfl)) (fun ⟨_, _, h⟩ => h) ⟨x1, x0, xp, xi⟩ (fun hHeld => ?_)
  refine tk2 0 (h := ?_)
  refine tk2 1 (h := ?_)
  refine tk2 2 (h := ?_)
  refine tk2 3 (h := ?_)
  refine tk2 4 (h := ?_)
  refine tk2 5 (h := ?_)
  refine tk2 6 (h := ?_)
  refine tk2 7 (h := ?_)
  refine tkR 8 (h := fun K hK => ?_)
  go_simp
  (refine (COF.out _ HOD.out).mono ?_; rintro e2 w2 ⟨rfl, ho2⟩)
  go_wp2_with fail
  refine hK.out _ _ ?_ (fun hHeld2 => ?_)
  ·exact ⟨ho2.cell x1 (fun h => h), ho2.cell x0 (fun h => h), ho2.cell xp (fun h => h), ho2.cell xi (fun h => h)⟩
  clear hK K
  try simp only [Act.put, sIB, sC0, sCS]
  clear hHeld
  have hHeld := hHeld2
  clear hHeld2
  refine tk2 9 (h := ?_)
  refine wpAnyH_done (by kernel_rfl) ?_ _
  have ho2w := HOD.out.trans ho2 (fun _ h _ => h)
  have hv2 := HV.out.only (((Only.refl (fun _ => False) W).drew).trans ho2 (fun _ h _ => h))
  have y2 := cell1 hv2.2.2.1
  have y3 := cell1 hv2.2.2.2.1
  have HO2 := hid ho2w
  have HV2 := hid hv2
  have HW2 := hid (((Only.refl (fun _ => False) W).drew).trans ho2 (fun _ h _ => h))
  clear ho2 ho2w hv2 x0 x1 xp xi hHeld
  gi_wp2_with (fail)
  refine ⟨trivial, (CallsIn.inRound lo (callsIn_wide.2 (CP.out _ HO2.out))).mono ?_⟩
  rintro e3 w3 ⟨rfl, ho3⟩
  have hW3 := HW2.out.trans ho3 (fun _ h _ => h)
  have hv3 := HV2.out.only ho3
  have HW3 := hid hW3
  have HV3 := hid hv3
  have HO3 := hid (HO2.out.trans ho3 (fun _ h _ => h))
  clear ho3 y2 y3
  rcases hz with rfl | ⟨i, hi, rfl⟩
  ·have hfn : f j = none := by rw [HFJ.out, placeAt, HZZ.out]; rfl
   have HQ2 : Hid (Quiet9 f (vals (pre ++ [(⟨j, hj⟩ : Fin ks.length)]))) := hid (by
    rw [vals_snoc]
    intro q hq
    rcases List.mem_append.1 hq with h | h
    ·exact HQ.out q h
    ·rw [List.mem_singleton.1 h]; exact hfn)
   clear hW3 hv3 hfn
   gi_wp2
   exact ⟨keepsFrom_only HW3.out, (Only.none HW3.out).mono HB.out.size, ⟨HV3.out, HQ2.out⟩, HB.out.trans ((Only.none HW3.out).mono HB.out.size)⟩
  ·have hfs : f j = some ⟨j, i, d, ((ms j).getD i default).flags == 8, s j i⟩ := by rw [HFJ.out, placeAt, HZZ.out, if_neg (by omega)]; rfl
   have HLD : Hid (Loud9 f (vals (pre ++ [(⟨j, hj⟩ : Fin ks.length)])) ⟨j, i, d, ((ms j).getD i default).flags == 8, s j i⟩) := hid ⟨vals pre, j, vals_snoc _ _, HQ.out, hfs⟩
   have hil : i < L := by have := HL.out; omega
   obtain ⟨bm, om, rfl, zz⟩ := Sl.at HMV.out hi
   have hbl := zz.lt
   have hz3 := zz.only HO3.out (fun h => h)
   obtain ⟨z0, z1, z2, z3⟩ := hz3
   have y3 := cell1 hv3.2.2.2.1
   have HR4 := hid hv3.2.2.2.2.1
   have HE4 := hid hv3.2.2.2.2.2
   generalize (ms j).getD i default = mx at *
   generalize s j i = sx at *
   have KS8 : Hid (∀ W', Only (fun k => k = w.heap.size + 1 + 1 + 1 + 1 ∨ k = w.heap.size + 1 + 1 + 1 + 1 + 1) w3.drew W' → (fun wc => wc.cell? ⟨w.heap.size + 1 + 1 + 1, 0, none⟩ = some (.string d) ∧ wc.cell? ⟨bm, om + i * 4, none⟩ = some (.string mx.name) ∧ wc.cell? ⟨bm, om + i * 4 + 1, none⟩ = some (.string mx.desc) ∧ wc.cell? ⟨bm, om + i * 4 + 2, none⟩ = some (.int .i64 mx.flags) ∧ wc.cell? ⟨bm, om + i * 4 + 3, none⟩ = some (.int .i64 sx)) W') := hid (fun W' hW => ⟨hW.cell y3 (by simp), hW.cell z0 (by simp; omega), hW.cell z1 (by simp; omega), hW.cell z2 (by simp; omega), hW.cell z3 (by simp; omega)⟩)
   have hiz : (i : Int) < (L : Int) := by omega
   have hi0 : (0 : Int) ≤ (i : Int) := by omega
   clear hW3 hv3 hfs zz
   gi_wp2
   refine wpIn_held_round (S := fun wc => wc.cell? ⟨w.heap.size + 1 + 1 + 1, 0, none⟩ = some (.string d) ∧ wc.cell? ⟨bm, om + i * 4, none⟩ = some (.string mx.name) ∧ wc.cell? ⟨bm, om + i * 4 + 1, none⟩ = some (.string mx.desc) ∧ wc.cell? ⟨bm, om + i * 4 + 2, none⟩ = some (.int .i64 mx.flags) ∧ wc.cell? ⟨bm, om + i * 4 + 3, none⟩ = some (.int .i64 sx)) (by kernel_rfl) (noDefer (by kernel_rfl)) (fun ⟨_, _, h⟩ => h) ⟨y3, z0, z1, z2, z3⟩ (fun hHeld => ?_)
   refine tk2 0 (h := ?_)
   refine tk2 1 (h := ?_)
   refine tk2 2 (h := ?_)
   refine tk2 3 (h := ?_)
   refine tk2 4 (h := ?_)
   refine tk2 5 (h := ?_)
   refine tk2 6 (h := ?_)
   refine tk2 8 (h := ?_)
   refine tk2 9 (h := ?_)
   refine tk2 10 (h := ?_)
   refine tk2 11 (h := ?_)
   refine tk2 12 (h := ?_)
   refine tkR 7 (h := fun K hK => ?_)
   go_simp
   (refine (pStatic mx sx _).mono ?_; rintro e4 w4 ⟨rfl, ho4⟩; have hr4 := ho4.heap HR4.out (fun h => h); have he4 := ho4.heap HE4.out (fun h => h); obtain ⟨u0, u1, u2, u3, u4⟩ := cells5T hr4; obtain ⟨v0, v1, v2, v3, v4⟩ := marks5T hr4; have p0 := cell_blk he4 0; have pf := frozen_blk he4 0; have HRR := hid hr4; have HEE := hid he4; have HO4 := hid ho4; clear hr4 he4)
   go_wp2_with fail
   refine hK.out _ _ ?_ (fun hHeld2 => ?_)
   ·exact ⟨HO4.out.cell y3 (fun h => h), HO4.out.cell z0 (fun h => h), HO4.out.cell z1 (fun h => h), HO4.out.cell z2 (fun h => h), HO4.out.cell z3 (fun h => h)⟩
   clear hK K
   try simp only [Act.put, sIB, sC0, sCS]
   clear hHeld
   have hHeld := hHeld2
   clear hHeld2
   refine tk2 13 (h := ?_)
   refine tkR 14 (h := fun K hK => ?_)
   go_simp
   refine hK.out _ _ ?_ (fun hHeld2 => ?_)
   ·exact KS8.out _ (only5T (S := fun k => k = w.heap.size + 1 + 1 + 1 + 1 ∨ k = w.heap.size + 1 + 1 + 1 + 1 + 1) (HO4.out.mono (fun _ h _ => h.elim)) (fun _ => .inl rfl))
   clear hK K
   try simp only [Act.put, sIB, sC0, sCS]
   clear hHeld
   have hHeld := hHeld2
   clear hHeld2
   refine tkR 15 (h := fun K hK => ?_)
   go_simp
   refine hK.out _ _ ?_ (fun hHeld2 => ?_)
   ·exact KS8.out _ ((only5T (S := fun k => k = w.heap.size + 1 + 1 + 1 + 1 ∨ k = w.heap.size + 1 + 1 + 1 + 1 + 1) (HO4.out.mono (fun _ h _ => h.elim)) (fun _ => .inl rfl)).setCell (fun _ => .inr rfl) _)
   clear hK K
   try simp only [Act.put, sIB, sC0, sCS]
   clear hHeld
   have hHeld := hHeld2
   clear hHeld2
   refine wpAnyH_done (by kernel_rfl) ?_ _
   have h5 := only5T (S := fun k => k = w.heap.size + 1 + 1 + 1 + 1) (a0 := .int .i64 j) (a1 := .int .i64 i) (a2 := .string d) (a3 := .bool (mx.flags == 8)) (a4 := .int .i64 sx) (HO4.out.mono (fun _ h _ => h.elim)) (fun _ => rfl)
   have hr5 := store5T (a0 := .int .i64 j) (a1 := .int .i64 i) (a2 := .string d) (a3 := .bool (mx.flags == 8)) (a4 := .int .i64 sx) HRR.out
   have he5 := (only5T (S := fun k => k = w.heap.size + 1 + 1 + 1 + 1) (a0 := .int .i64 j) (a1 := .int .i64 i) (a2 := .string d) (a3 := .bool (mx.flags == 8)) (a4 := .int .i64 sx) (Only.refl _ w4) (fun _ => rfl)).heap HEE.out (by simp)
   generalize (((((w4.setCell ⟨w.heap.size + 1 + 1 + 1 + 1, 0, none⟩ (.int .i64 j)).setCell ⟨w.heap.size + 1 + 1 + 1 + 1, 1, none⟩ (.int .i64 i)).setCell ⟨w.heap.size + 1 + 1 + 1 + 1, 2, none⟩ (.string d)).setCell ⟨w.heap.size + 1 + 1 + 1 + 1, 3, none⟩ (.bool (mx.flags == 8))).setCell ⟨w.heap.size + 1 + 1 + 1 + 1, 4, none⟩ (.int .i64 sx)) = W5 at *
   have h6 := (h5.mono (T := fun k => k = w.heap.size + 1 + 1 + 1 + 1 ∨ k = w.heap.size + 1 + 1 + 1 + 1 + 1) (fun _ h _ => .inl h)).setCell (p := ⟨w.heap.size + 1 + 1 + 1 + 1 + 1, 0, none⟩) (fun _ => .inr rfl) (.int .i64 0)
   have he6 := heap_setCell_at (i := 0) (u := .int .i64 0) he5
   have hr6 : (W5.setCell ⟨w.heap.size + 1 + 1 + 1 + 1 + 1, 0, none⟩ (.int .i64 0)).heap[w.heap.size + 1 + 1 + 1 + 1]? = _ := (Below.heap_setCell _ _ _ _ (by simp)).trans hr5
   simp only [List.setIfInBounds_toArray, List.set_cons_zero] at he6
   generalize W5.setCell ⟨w.heap.size + 1 + 1 + 1 + 1 + 1, 0, none⟩ (.int .i64 0) = WF at *
   have hw6 : Only (fun k => k = w.heap.size + 1 + 1 + 1 + 1 ∨ k = w.heap.size + 1 + 1 + 1 + 1 + 1) W WF := (HW3.out.drew.mono (fun _ h _ => h.elim)).trans h6 (fun k hk _ => hk)
   have hvf : Vars w WF pb ofn n d ⟨j, i, d, mx.flags == 8, sx⟩ 0 := ⟨h6.heap HV3.out.1 (fun h => by rcases h with h | h <;> omega), h6.heap HV3.out.2.1 (fun h => by rcases h with h | h <;> omega), h6.heap HV3.out.2.2.1 (fun h => by rcases h with h | h <;> omega), h6.heap HV3.out.2.2.2.1 (fun h => by rcases h with h | h <;> omega), hr6, he6⟩
   have HWF := hid hw6
   have HVF := hid hvf
   clear h5 hr5 he5 h6 he6 hr6 hw6 hvf u0 u1 u2 u3 u4 v0 v1 v2 v3 v4 p0 pf hHeld z0 z1 z2 z3 y3
   gi_wp2
   exact ⟨⟨HWF.out.size, fun k o hk ho _ => HWF.out.heap ho (by omega)⟩, ⟨rfl, _, HLD.out, HVF.out⟩, HB.out.trans (HWF.out.below HB.out.size (fun k hk => by omega))⟩
 case done =>
  rintro D ys W hD hS ⟨⟨hv, hq⟩, hB⟩ hK
  have HR := hid (show firstO xs f = none from firstO_none (by rw [← hS]; exact hq))
  have hr0 := hv.2.2.2.2.1
  have he0 := hv.2.2.2.2.2
  obtain ⟨u0, u1, u2, u3, u4⟩ := cells5T hr0
  obtain ⟨v0, v1, v2, v3, v4⟩ := marks5T hr0
  have p0 := cell1 he0
  have pf := frozen_blk he0 0
  have h5 := only5T (S := fun k => k = w.heap.size + 1 + 1 + 1 + 1) (a0 := .int .i64 0) (a1 := .int .i64 0) (a2 := .string ⟨#[]⟩) (a3 := .bool false) (a4 := .int .i64 0) (Only.refl _ W) (fun _ => rfl)
  have hr5 := store5T (a0 := .int .i64 0) (a1 := .int .i64 0) (a2 := .string ⟨#[]⟩) (a3 := .bool false) (a4 := .int .i64 0) hr0
  have he5 := h5.heap he0 (by simp)
  have hK5 := h5.heap hK (by omega)
  obtain ⟨W5, hW5⟩ : ∃ W5, (((((W.setCell ⟨w.heap.size + 1 + 1 + 1 + 1, 0, none⟩ (.int .i64 0)).setCell ⟨w.heap.size + 1 + 1 + 1 + 1, 1, none⟩ (.int .i64 0)).setCell ⟨w.heap.size + 1 + 1 + 1 + 1, 2, none⟩ (.string ⟨#[]⟩)).setCell ⟨w.heap.size + 1 + 1 + 1 + 1, 3, none⟩ (.bool false)).setCell ⟨w.heap.size + 1 + 1 + 1 + 1, 4, none⟩ (.int .i64 0)) = W5 := ⟨_, rfl⟩
  rw [hW5] at h5 hr5 he5 hK5
  have h6 := (h5.mono (T := fun k => k = w.heap.size + 1 + 1 + 1 + 1 ∨ k = w.heap.size + 1 + 1 + 1 + 1 + 1) (fun _ h _ => .inl h)).setCell (p := ⟨w.heap.size + 1 + 1 + 1 + 1 + 1, 0, none⟩) (fun _ => .inr rfl) (.int .i64 91)
  have he6 := heap_setCell_at (i := 0) (u := .int .i64 91) he5
  have hr6 : (W5.setCell ⟨w.heap.size + 1 + 1 + 1 + 1 + 1, 0, none⟩ (.int .i64 91)).heap[w.heap.size + 1 + 1 + 1 + 1]? = _ := (Below.heap_setCell _ _ _ _ (by simp)).trans hr5
  have hK6 : (W5.setCell ⟨w.heap.size + 1 + 1 + 1 + 1 + 1, 0, none⟩ (.int .i64 91)).heap[D]? = _ := (Below.heap_setCell _ _ _ _ (by simp; omega)).trans hK5
  simp only [List.setIfInBounds_toArray, List.set_cons_zero] at he6
  obtain ⟨WF, hWF⟩ : ∃ WF, W5.setCell ⟨w.heap.size + 1 + 1 + 1 + 1 + 1, 0, none⟩ (.int .i64 91) = WF := ⟨_, rfl⟩
  rw [hWF] at h6 he6 hr6 hK6
  have hB6 : Below w.heap.size w WF := hB.trans (h6.below hB.size (fun k hk => by omega))
  have hend := fin_heap hD (by omega) hB6 hK6 hr6 he6
  have HEND := hid hend
  have HW5 := hid hW5
  have HWF := hid hWF
  have HK6 := hid hK6
  clear h5 hr5 he5 h6 he6 hr6 hB6 hend hK5 hK6 hW5 hWF hr0 he0 hv hq hB hS hK
  go_wp2
  rw [HW5.out, HWF.out]
  refine ⟨by simp, .inl ⟨_, _, rfl, run_takeDeferred HK6.out, ?_⟩⟩
  exact ⟨_, mem_resultC Tryz.results139 HEND.out.1 HEND.out.2.1 rfl rfl, MemTo.no HR.out HEND.out.2.2⟩
 case stop =>
  rintro D c pre W hD hA ⟨⟨rfl, m, ⟨q, j, hqj, hq, hfj⟩, hv⟩, hB⟩ hK
  have HR := hid (show firstO xs f = some m from firstO_some hq hfj (by rw [← hqj]; exact hA))
  have hend := fin_heap hD (by omega) hB hK hv.2.2.2.2.1 hv.2.2.2.2.2
  have HEND := hid hend
  have HK := hid hK
  clear hv hq hB hK hend hA hqj hfj
  refine wpIn_wide.2 ?_
  go_wp2
  refine ⟨by simp, .inl ⟨_, _, rfl, run_takeDeferred HK.out, ?_⟩⟩
  exact ⟨_, mem_resultC Tryz.results139 HEND.out.1 HEND.out.2.1 rfl rfl, MemTo.yes HR.out HEND.out.2.2⟩
end Go.Proofs.YtinbelghhfodiaaGreatDoor
