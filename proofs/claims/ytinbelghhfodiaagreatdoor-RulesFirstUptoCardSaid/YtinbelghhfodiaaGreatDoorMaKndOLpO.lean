import Derived.Test.YtinbelghhfodiaaGreatDoorMaClsAKndL
import Derived.Lib.SliceRun
namespace Go.Proofs.YtinbelghhfodiaaGreatDoor
set_option maxHeartbeats 8000000
open Lib (hid)
open Go.RowKit Go.Shelf Go.Maps
set_option linter.unusedVariables false
set_option linter.unusedSimpArgs false
attribute [local go_sem] Oper.semAt_some
structure CellsK (W W' : World) : Prop where
 size : W.heap.size ≤ W'.heap.size
 cell : ∀ a u, W.cell? a = some u → W'.cell? a = some u
theorem CellsK.refl (W : World) : CellsK W W := ⟨Nat.le_refl _, fun _ _ h => h⟩
theorem CellsK.trans {X Y Z : World} (h : CellsK X Y) (k : CellsK Y Z) : CellsK X Z := ⟨Nat.le_trans h.size k.size, fun a u hc => k.cell a u (h.cell a u hc)⟩
theorem CellsK.only {W W' : World} (ho : Only (fun _ => False) W W') : CellsK W W' := ⟨ho.size, fun a u h => ho.cell h (fun h => h)⟩
theorem cellsK_putObj {W : World} {l : Nat} {o o' : Obj} (hl : W.heap[l]? = some o) (ho : o.isCells = false) : CellsK W (W.putObj l o') := by
 refine ⟨by simp, fun a u h => ?_⟩
 have hne : a.block ≠ l := by
  intro e
  unfold World.cell? at h
  rw [e, hl] at h
  cases o with
  | cells => cases ho
  | _ => simp at h
 exact (World.cell?_of_block (World.putObj_heap_other hne)).trans h
theorem Pairs.cells {w W : World} {v : Value} {l : List PairV} (h : Pairs w v l) (k : CellsK w W) : Pairs W v l := h.imp (fun _ _ _ _ _ h => ⟨k.cell _ _ h.c0, k.cell _ _ h.c1⟩)
def vals {n : Nat} (xs : List (Fin n)) : List Nat := xs.map (fun x => x.val)
theorem vals_snoc {n : Nat} (xs : List (Fin n)) (x : Fin n) : vals (xs ++ [x]) = vals xs ++ [x.val] := by simp [vals]
theorem vals_len {n : Nat} (xs : List (Fin n)) : (vals xs).length = xs.length := by simp [vals]
abbrev encP (l : List PairV) (x : Fin l.length) : Array Value := #[.int .i64 (x.val : Int), .agg #[.string (l.getD x.val default).name, .string (l.getD x.val default).super]]
set_option maxRecDepth 100000 in
theorem back_in (n : Nat) (hn : 1 ≤ n) (v : Value) (l : List PairV) (w : World) (Bn : Nat) (hp : Pairs w v l) (hBn : w.cell? ⟨Bn, 0, none⟩ = some v) (hlen : l.length ≤ 4611686018427387904)
  (lp : Nat) (J Jx : List (Fin l.length) → World → Prop) (W : World)
  (hY : ∀ pre x W1, J pre W1 → pre.length < l.length → YieldAt Fence.wide (n - 1) Tryz.prog lp (encP l x) W1 fun e W' =>
   (e = .returned (.bool true) ∧ J (pre ++ [x]) W' ∧ CellsK W1 W') ∨ (e = .returned (.bool false) ∧ Jx (pre ++ [x]) W'))
  (hs : CellsK w W) (h0 : J [] W) :
  CallsIn Fence.wide n Tryz.prog 168 #[.func (.yield lp) #[] #[], .pointer (some ⟨Bn, 0, none⟩)] W fun e W' => (∃ v, e = .returned v) ∧
   ((∃ xs : List (Fin l.length), vals xs = backN l.length 0 ∧ J xs W') ∨ (∃ pre : List (Fin l.length), True ∧ Jx pre W')) := by
 have HY := hid hY
 have HS := hid hs
 have HP := hid hp
 have HBN := hid hBn
 have hcb := hs.cell _ _ hBn
 obtain ⟨ao, cap, rfl, p1, p2, p3, -⟩ := id hp
 clear hY hs hp hBn p3
 refine callsIn_of_wp Tryz.func168 rfl trivial ?_ rfl
 simp only [Tryz.ntmps168, List.size_toArray, List.length_cons, List.length_nil, Nat.reduceAdd, Nat.reduceSub, Array.replicate_succ, Array.replicate_zero, List.push_toArray, List.append_toArray, List.nil_append, List.cons_append]
 gi_wp2
 clear hcb
 gi_loopw [3] (fun i wr => ∃ (j : Nat) (pre : List (Fin l.length)), i = .int .i64 ((j : Int) - 1) ∧ j ≤ l.length ∧ Hid (vals pre = backN l.length j) ∧ Hid (CellsK w wr) ∧ Hid (J pre wr)) (fun i wr => ((intOf i) + 1).toNat)
 case atStart => exact ⟨l.length, [], rfl, Nat.le_refl _, hid (by rw [backN_end]; rfl), HS, hid h0⟩
 case round =>
  obtain ⟨j, pre, rfl, hj, HPRE, HSR, HJR⟩ := hrel
  have hcb := HSR.out.cell _ _ HBN.out
  by_cases h0 : 0 < j
  ·obtain ⟨m, rfl⟩ : ∃ m, j = m + 1 := ⟨j - 1, by omega⟩
   have hm : m < l.length := by omega
   have hmz : ((m + 1 : Nat) : Int) - 1 = (m : Int) := by omega
   rw [hmz]
   have hm0 : (0 : Int) ≤ (m : Int) := by omega
   have hmlz : (m : Int) < (l.length : Int) := by omega
   obtain ⟨g, o, rfl, y⟩ := Sl.at (HP.out.cells HSR.out) hm
   obtain ⟨y0, y1⟩ := y
   have hpl : pre.length < l.length := by
    have := congrArg List.length HPRE.out
    rw [vals_len, backN_len] at this
    omega
   have HPRE2 : Hid (vals (pre ++ [(⟨m, hm⟩ : Fin l.length)]) = backN l.length m) := hid (by rw [vals_snoc, HPRE.out, backN_step hm])
   obtain ⟨fn, tmps, assign, body, hy, hR⟩ := HY.out pre ⟨m, hm⟩ wr HJR.out hpl
   unfold encP at hy
   dsimp only at hy
   generalize l.getD m default = p at *
   have HR3 := hid hR
   clear hR hmz hpl
   gi_wp2
   refine HR3.out.mono ?_
   rintro e9 W3 (⟨rfl, hJ3, hk3⟩ | ⟨rfl, hJx3⟩)
   ·have HJ3 := hid hJ3
    have HS3 := hid (HSR.out.trans hk3)
    clear hJ3 hk3 hy
    gi_wp2
    go_roundw
    case rel => exact ⟨m, _, rfl, by omega, HPRE2, HS3, HJ3⟩
    case measure => simp [intOf]
   ·have HJ3 := hid hJx3
    clear hJx3 hy
    gi_wp2
    refine bodyPost_ret (results_none rfl _ _ _) rfl ?_
    exact ⟨⟨_, rfl⟩, .inr ⟨_, trivial, HJ3.out⟩⟩
  ·obtain rfl : j = 0 := by omega
   gi_wp2
   go_end0
   exact ⟨⟨_, rfl⟩, .inl ⟨_, HPRE.out, HJR.out⟩⟩
theorem backs_in (ao : Option Addr) (k cap : Nat) (w : World) : Calls Tryz.prog 150 #[.slice ao k cap] w fun e w' => e = .returned (.func (.func 168) #[] #[.pointer (some ⟨w.heap.size, 0, none⟩)]) ∧ w' = w.alloc (.cells #[.slice ao k cap] 53) := by
 go_enter Tryz.func150, Tryz.ntmps150
 go_wp2
 go_ret
 exact ⟨rfl, rfl⟩
def PlaceV (w : World) (l : List PairV) (pv : Value) : Prop := ∃ n b, pv = .func (.func n) #[] #[.pointer (some ⟨b, 0, none⟩)] ∧ (∀ args w, (callFunc n args).run Tryz.prog w = .ok (.enter n args) w) ∧
 ∀ W x, Only (fun _ => False) w W → x.size ≤ maxLen → Calls Tryz.prog n #[.string x, .pointer (some ⟨b, 0, none⟩)] W fun e w' => e = .returned (.int .i64 (pairOf l x)) ∧ Only (fun _ => False) W w'
theorem PlaceV.only {w w' : World} {l : List PairV} {pv : Value} (h : PlaceV w l pv) (ho : Only (fun _ => False) w w') : PlaceV w' l pv := by
 obtain ⟨n, b, h1, h2, h3⟩ := h
 exact ⟨n, b, h1, h2, fun W x hW hx => h3 W x (ho.trans hW (fun _ h _ => h)) hx⟩
theorem make_map8 (n : Int) (w : World) : (Instr.makeMap 118 (some (.int .i64 n))).run Tryz.prog w = .ok (.map (some w.heap.size)) (w.alloc (.map #[] 0)) := by
 have h : (underlying 118).run Tryz.prog w = .ok (.map 9 3) w := by kernel_rfl
 simp only [Instr.makeMap, Sem.run_bind, h, Result.andThen]
 rfl
theorem heap_kept8 {X Y : World} {B : Nat} {o : Obj} {row : Option Nat} (h : X.heap[B]? = some o) (hc : o.isCells = true) (hg : X.grownBy Y row) (hr : ∀ r, row = some r → ∃ o : Obj, X.heap[r]? = some o ∧ o.isCells = false) : Y.heap[B]? = some o :=
 (hg.block B (heap_lt h) (fun e => by obtain ⟨o', h1, h2⟩ := hr B e.symm; rw [h] at h1; cases h1; rw [hc] at h2; cases h2)).trans h
theorem boxed_of_heap {W w1 : World} {B : Nat} {t : TypeId} {v : Value} {row : Option Nat} (h : Boxed W B t v) (hg : W.grownBy w1 row) (hne : some B ≠ row) : Boxed w1 B t v := by
 have h' : W.heap[B]? = _ := h
 exact (hg.block B (heap_lt h') hne).trans h'
set_option maxRecDepth 100000 in
theorem progPlacing (v : Value) (l : List PairV) (w : World) (hp : Pairs w v l) (hlen : l.length ≤ 4611686018427387904) (hsz : ∀ p ∈ l, p.name.size ≤ maxLen) :
  Calls Tryz.prog 122 #[v] w fun e w' => ∃ pv, e = .returned pv ∧ PlaceV w' l pv ∧ Only (fun _ => False) w w' := by
 obtain ⟨ao, cap, rfl, p1, p2, p3, -⟩ := id hp
 have ho1 := (Only.refl (fun _ => False) w).alloc (.cells #[.slice ao l.length cap] 53)
 have hb1 := heap_alloc_new w (.cells #[.slice ao l.length cap] 53)
 by_cases h64 : l.length ≤ 64
 ·have h64z : (l.length : Int) ≤ 64 := by omega
  have HO := hid ho1
  have HP : Hid (PlaceV (w.alloc (.cells #[.slice ao l.length cap] 53)) l (.func (.func 147) #[] #[.pointer (some ⟨w.heap.size, 0, none⟩)])) :=
   hid ⟨_, _, rfl, enters_of Tryz.func147 (by kernel_rfl) rfl, fun W x hW hx => placeFew _ l x _ W ((hp.only ho1).only hW) (hW.cell (cell_blk hb1 0) (fun h => h)) (by omega)⟩
  clear hp p3 hb1 ho1
  go_enter Tryz.func122, Tryz.ntmps122
  go_wp2
  go_ret
  exact ⟨_, rfl, HP.out, HO.out⟩
 ·have h64z : ¬ (l.length : Int) ≤ 64 := by omega
  have HSZ := hid hsz
  have HPW := hid hp
  have hmm := make_map8
  clear p3 hb1 ho1 hsz hp
  refine (callsIn_wide (n := 9)).1 ?_
  refine callsIn_of_wp_marks Tryz.func122 rfl trivial ?_ rfl
  simp only [Tryz.ntmps122, List.size_toArray, List.length_cons, List.length_nil, Nat.reduceAdd, Nat.reduceSub, Array.replicate_succ, Array.replicate_zero, List.push_toArray, List.append_toArray, List.nil_append, List.cons_append]
  gi_wp2_with (fail)
  refine ⟨trivial, (callsIn_wide.2 (backs_in ao l.length cap _)).mono ?_⟩
  rintro e w' ⟨rfl, rfl⟩
  gi_wp2
  have b3 := (Boxed.new ((w.alloc (.cells #[.slice ao l.length cap] 53)).alloc (.map #[] 0)) 118 (.map (some (w.heap.size + 1)))).alloc (.cells #[.slice ao l.length cap] 53)
  have b4 := Boxed.new (((w.alloc (.cells #[.slice ao l.length cap] 53)).alloc (.map #[] 0)).alloc (.cells #[.map (some (w.heap.size + 1))] 118)) 53 (.slice ao l.length cap)
  have hown := ((World.ownsMap_made (w.alloc (.cells #[.slice ao l.length cap] 53)) Tryz.prog 9 (plainElem (H := Unit) Tryz.prog 3)).alloc (.cells #[.map (some (w.heap.size + 1))] 118)).alloc (.cells #[.slice ao l.length cap] 53)
  have ho := ((((Only.refl (fun _ => False) w).alloc (.cells #[.slice ao l.length cap] 53)).alloc (.map #[] 0)).alloc (.cells #[.map (some (w.heap.size + 1))] 118)).alloc (.cells #[.slice ao l.length cap] 53)
  have hszz : ((((w.alloc (.cells #[.slice ao l.length cap] 53)).alloc (.map #[] 0)).alloc (.cells #[.map (some (w.heap.size + 1))] 118)).alloc (.cells #[.slice ao l.length cap] 53)).heap.size = w.heap.size + 4 := by simp
  simp only [World.size_alloc] at b3 b4 hown
  obtain ⟨W0, hW0⟩ : ∃ W0, ((((w.alloc (.cells #[.slice ao l.length cap] 53)).alloc (.map #[] 0)).alloc (.cells #[.map (some (w.heap.size + 1))] 118)).alloc (.cells #[.slice ao l.length cap] 53)) = W0 := ⟨_, rfl⟩
  rw [hW0] at b3 b4 hown ho hszz ⊢
  clear hW0
  have hp0 := HPW.out.only ho
  have HOWN := hid hown
  clear hown
  refine wpIn_rangeFunc_ownH (α := Fin l.length) (F := Fence.wide) rfl (by decide) (gf := 168) (lb := #[.pointer (some ⟨w.heap.size + 1 + 1 + 1, 0, none⟩)]) rfl trivial (enters_of Tryz.func168 (by kernel_rfl) rfl)
   (encs := encP l) (Kp := CellsK) (S := fun xs => vals xs = backN l.length 0) (Sp := fun _ => True) (N := l.length) (w0 := W0)
   (fun lp J Jx W hW hJ hJx hY h0 => back_in 8 (by decide) (.slice ao l.length cap) l W0 (w.heap.size + 1 + 1 + 1) hp0 b4.cell hlen lp J Jx W hY (CellsK.only (Only.of_below hW _)) h0)
   (fun h k => CellsK.trans h k) (fun W lp o o' h1 h2 h3 h4 => cellsK_putObj h2 h3) (Below.refl _ _) (fun _ => rfl)
   (fun pre W => (Boxed W (w.heap.size + 1 + 1) 118 (.map (some (w.heap.size + 1))) ∧ TreeMap W l (w.heap.size + 1) pre.length (vals pre)) ∧ Below w.heap.size w W)
   (fun _ _ _ => False)
   (OwnFrom.and (OwnFrom.and (Own.from (boxed_own _ _ _) _) (fun s X Y row (hs : TreeMap X l (w.heap.size + 1) s.length (vals s)) hg hr => (show TreeMap Y l (w.heap.size + 1) s.length (vals s) from hs.kept hg (fun e => by have := (hr _ e.symm).1; omega)))) (ownFrom_below (Nat.le_refl _) (by omega)))
   (fun c s X Y row hs _ _ => hs)
   ⟨⟨b3, HOWN.out⟩, ho.none⟩
   (fun x a' W => ∃ Bx, W.heap[Bx]? = some (.cells #[.string (l.getD x.val default).name, .string (l.getD x.val default).super] 163 (0, 0)) ∧ a' = { tmps := #[.slice ao l.length cap, .pointer (some ⟨w.heap.size, 0, none⟩), .nilFunc, .pointer (some ⟨w.heap.size + 1 + 1, 0, none⟩), .int .i64 (x.val : Int), .pointer (some ⟨Bx, 0, none⟩), .slice ao l.length cap, .int .i64 l.length, .bool false, undef, .slice ao l.length cap, .int .i64 l.length, .map (some (w.heap.size + 1)), .slice ao l.length cap, .func (.func 168) #[] #[.pointer (some ⟨w.heap.size + 1 + 1 + 1, 0, none⟩)], .int .i64 (x.val : Int), .agg #[.string (l.getD x.val default).name, .string (l.getD x.val default).super], undef, undef, undef, undef, undef], defers := [] })
   (fun x a' _ X Y row hs hg hr => by obtain ⟨Bx, h1, h2⟩ := hs; exact ⟨Bx, heap_kept8 h1 rfl hg (fun r e => (hr r e).2), h2⟩)
   ?assign ?body ?done ?stop
  case assign =>
   rintro lp pre x W K ⟨⟨bM, hm⟩, hB⟩ hK
   obtain ⟨xv, hx⟩ := x
   have hnew := heap_alloc_new W (.cells #[.string (l.getD xv default).name, .string (l.getD xv default).super] 163)
   unfold encP at hK ⊢
   dsimp only at hK ⊢
   generalize l.getD xv default = p at *
   gi_wp2
   exact hK _ _ ((KeepsOthers.alloc _ _).from _) (CellsK.only ((Only.refl _ W).alloc _)) ⟨⟨bM.alloc _, hm.alloc _⟩, hB.alloc hB.size _⟩ ⟨W.heap.size, hnew, rfl⟩
  case body =>
   rintro lp pre ⟨xv, hx⟩ a' W hl2 ⟨r, hr⟩ ⟨⟨bM, hm⟩, hB⟩ ⟨Bx, hbx, rfl⟩ hlt
   dsimp only at hbx ⊢
   have cM := bM.cell
   have q0 := cell_blk hbx 0
   have HM := hid hm
   have HB1 := hid hB
   have BM := hid bM
   have hks := HSZ.out _ (getD_mem hx)
   have HKS := hid hks
   have HSN : Hid (treeD l (vals (pre ++ [(⟨xv, hx⟩ : Fin l.length)])) = (treeD l (vals pre)).put (keyB (l.getD xv default).name) (.lit (.int .i64 xv))) := hid (by rw [vals_snoc, treeD_snoc])
   have hxi : (xv : Int) ≤ 4611686018427387904 := by omega
   simp only [List.getElem?_toArray, List.getElem?_cons_zero] at q0
   generalize l.getD xv default = p at *
   clear hm hB bM hks hbx
   gi_wp2_with (gi_at_mapUpdate; go_loud (refine wpListIn_mapUpdate_own _ rfl _ _ _ 118 rfl 9 3 (Maps.string_keyed Tryz.underlying9) Tryz.underlying118 _ (w.heap.size + 1) pre.length _ rfl HM.out (by unfold maxLen; omega) _ _ _ rfl rfl (Go.WideMaps.keyOf_string_mk Tryz.underlying9 HKS.out) _ [] (plainElem_int Tryz.underlying3 (WalkArith.wf_i64 (by omega))) ?_); intro w1 hown1 hgrow1)
   have hck : CellsK W w1 := ⟨hgrow1.size, fun a u h => by
    have hne : a.block ≠ w.heap.size + 1 := fun e => by
     obtain ⟨es, clock, hmb, _⟩ := HM.out
     unfold World.cell? at h
     rw [e, hmb] at h
     simp at h
    exact (World.cell?_of_block (hgrow1.block _ (World.block_lt_of_cell? W a h) (fun e => hne (by injection e)))).trans h⟩
   refine ⟨KeepsFrom.of_grownBy hgrow1 (fun j e => by cases e; omega), hck, ⟨?_, ?_⟩, HB1.out.grown hgrow1 HB1.out.size (fun k e => by cases e; omega)⟩
   ·exact boxed_of_heap BM.out hgrow1 (fun e => by injection e with e; omega)
   ·unfold TreeMap
    rw [HSN.out, List.length_append]
    exact hown1
  case done =>
   rintro D xs W hD hS ⟨⟨bM, hm⟩, hB⟩ hK
   have hln : xs.length = l.length := by
    have := congrArg List.length hS
    rw [vals_len, backN_len] at this
    omega
   rw [hS, hln] at hm
   have hon := Only.of_below hB (fun _ => False)
   have hB2 := hB.trans (belowK_b (w := w) (Nat.le_refl _) W D _ (.deferred none) (by omega) hK rfl rfl)
   have hm2 : TreeMap (W.putObj D (.deferred none)) l (w.heap.size + 1) l.length (backN l.length 0) := by
    obtain ⟨es, clock, h1, h2⟩ := hm
    exact ⟨es, clock, (World.putObj_heap_other (by intro e; rw [← e] at hK; rw [h1] at hK; cases hK)).trans h1, h2⟩
   have hc2 := (cellsK_putObj (o' := .deferred none) hK rfl).cell _ _ bM.cell
   gi_wp2
   refine ⟨by simp, .inl ⟨_, _, rfl, run_takeDeferred hK, ?_⟩⟩
   refine ⟨_, results_tmp rfl _ _ _, _, rfl, ?_, Only.of_below hB2 _⟩
   exact ⟨_, _, rfl, enters_of Tryz.func151 (by kernel_rfl) rfl, fun W' x hW' hx => placeMap l x _ (w.heap.size + 1) W' (hW'.cell hc2 (fun h => h)) (only_map hm2 hW') hx⟩
  case stop =>
   rintro D c pre W hD hS h hK
   exact h.elim
end Go.Proofs.YtinbelghhfodiaaGreatDoor
namespace Go.Proofs.YtinbelghhfodiaaGreatDoor
set_option maxHeartbeats 8000000
open Lib (hid)
open Go.RowKit Go.Maps
set_option linter.unusedVariables false
set_option linter.unusedSimpArgs false
structure MemAt (w : World) (b o i : Nat) (m : MethN) (s : Int) : Prop where
 c0 : w.cell? ⟨b, o + i * 4, none⟩ = some (.string m.name)
 c1 : w.cell? ⟨b, o + i * 4 + 1, none⟩ = some (.string m.desc)
 c2 : w.cell? ⟨b, o + i * 4 + 2, none⟩ = some (.int .i64 m.flags)
 c3 : w.cell? ⟨b, o + i * 4 + 3, none⟩ = some (.int .i64 s)
theorem MemAt.only {S : Nat → Prop} {w w' : World} {b o i : Nat} {m : MethN} {s : Int} (h : MemAt w b o i m s) (ho : Only S w w') (hb : ¬ S b) : MemAt w' b o i m s := ⟨ho.cell h.c0 hb, ho.cell h.c1 hb, ho.cell h.c2 hb, ho.cell h.c3 hb⟩
theorem MemAt.lt {w : World} {b o i : Nat} {m : MethN} {s : Int} (h : MemAt w b o i m s) : b < w.heap.size := World.block_lt_of_cell? w _ h.c0
def MemG (G : Nat → Prop) (w : World) (v : Value) (ms : List MethN) : Prop := Sl v ms.length (fun b o i => MemAt w b o i (ms.getD i default) 0 ∧ ¬ G b)
def MemS (w : World) (v : Value) (ms : List MethN) (sl : Nat → Int) : Prop := Sl v ms.length (fun b o i => MemAt w b o i (ms.getD i default) (sl i))
def FldS (w : World) (v : Value) (ms : List MethN) (sl : Nat → Int) : Prop := Sl v ms.length (fun b o i => MemAt w b o i (ms.getD i default) (sl i) ∧ w.frozen? ⟨b, o + i * 4 + 3, none⟩ = false)
theorem MemG.mem {G : Nat → Prop} {w : World} {v : Value} {ms : List MethN} (h : MemG G w v ms) : MemS w v ms (fun _ => 0) := h.imp (fun _ _ _ _ _ h => h.1)
theorem FldS.mem {w : World} {v : Value} {ms : List MethN} {sl : Nat → Int} (h : FldS w v ms sl) : MemS w v ms sl := h.imp (fun _ _ _ _ _ h => h.1)
theorem MemS.only {w w' : World} {v : Value} {ms : List MethN} {sl : Nat → Int} (h : MemS w v ms sl) (ho : Only (fun _ => False) w w') : MemS w' v ms sl := h.imp (fun _ _ _ _ _ h => h.only ho (fun h => h))
theorem MemG.only {G S : Nat → Prop} {w w' : World} {v : Value} {ms : List MethN} (h : MemG G w v ms) (ho : Only S w w') (hs : ∀ k, S k → G k) : MemG G w' v ms := h.imp (fun _ _ _ _ _ h => ⟨h.1.only ho (fun hk => h.2 (hs _ hk)), h.2⟩)
theorem MemG.mono {G G' : Nat → Prop} {w : World} {v : Value} {ms : List MethN} (h : MemG G w v ms) (hg : ∀ k, k < w.heap.size → G' k → G k) : MemG G' w v ms := h.imp (fun _ _ _ _ _ h => ⟨h.1, fun hk => h.2 (hg _ h.1.lt hk)⟩)
theorem frozen_only {S : Nat → Prop} {w w' : World} (ho : Only S w w') {b i : Nat} (hl : b < w.heap.size) (hb : ¬ S b) (h : w.frozen? ⟨b, i, none⟩ = false) : w'.frozen? ⟨b, i, none⟩ = false := by
 have e := ho.block b hl hb
 unfold World.frozen? at h ⊢
 simp only at h ⊢
 rw [e]
 exact h
theorem FldS.only {S : Nat → Prop} {w w' : World} {v : Value} {ms : List MethN} {sl : Nat → Int} (h : FldS w v ms sl) (ho : Only S w w') (hs : ∀ k, v.ownBlock = some k → ¬ S k) : FldS w' v ms sl :=
 h.imp (fun b _ _ hb _ h => ⟨h.1.only ho (hs _ hb), frozen_only ho h.1.lt (hs _ hb) h.2⟩)
theorem FldS.nil (w : World) (sl : Nat → Int) : FldS w (.slice none 0 0) [] sl := Sl.nil _
def BytesG (G : Nat → Prop) (w : World) (v : Value) (zs : List Int) : Prop := Bytes w v zs ∧ ∀ k, v.ownBlock = some k → zs ≠ [] → ¬ G k
theorem BytesG.only {G S : Nat → Prop} {w w' : World} {v : Value} {zs : List Int} (h : BytesG G w v zs) (ho : Only S w w') (hs : ∀ k, S k → G k) : BytesG G w' v zs := ⟨h.1.only ho (fun k hk hz hS => h.2 k hk hz (hs _ hS)), h.2⟩
theorem BytesG.mono {G G' : Nat → Prop} {w : World} {v : Value} {zs : List Int} (h : BytesG G w v zs) (hg : ∀ k, k < w.heap.size → G' k → G k) : BytesG G' w v zs := ⟨h.1, fun k hk hz hG => h.2 k hk hz (hg _ (h.1.lt k hk hz) hG)⟩
def FieldsG (G : Nat → Prop) (w : World) (v : Value) (fs : List FieldV) : Prop := Sl v fs.length (fun b o i => FieldAt w b o i (fs.getD i default) ∧ ¬ G b) ∧ ∀ f ∈ fs, FieldR f
def TrapsG (G : Nat → Prop) (w : World) (v : Value) (fs : List TrapV) : Prop := Sl v fs.length (fun b o i => TrapAt w b o i (fs.getD i default) ∧ ¬ G b) ∧ ∀ f ∈ fs, TrapR f
def InsideG (G : Nat → Prop) (w : World) (m : MethodV) (vc vt vm : Value) : Prop := BytesG G w vc m.code ∧ TrapsG G w vt m.traps ∧ BytesG G w vm m.maps
def MethodsG (G : Nat → Prop) (w : World) (v : Value) (ms : List MethodV) : Prop :=
 ∃ f : Nat → Value × Value × Value, Sl v ms.length (fun b o i => MethodAt w b o i (ms.getD i default) (f i).1 (f i).2.1 (f i).2.2 ∧ ¬ G b) ∧ (∀ i, i < ms.length → InsideG G w (ms.getD i default) (f i).1 (f i).2.1 (f i).2.2) ∧ ∀ m ∈ ms, MethodR m
structure ClassG (G : Nat → Prop) (w : World) (vp vf vm : Value) (c : ClassV) : Prop where
 pool : Pool w vp c.pool
 off : ∀ k, vp.ownBlock = some k → k < w.heap.size ∧ ¬ G k
 fields : FieldsG G w vf c.fields
 meths : MethodsG G w vm c.methods
 this : I64 c.this
 super : I64 c.super
theorem FieldsG.plain {G : Nat → Prop} {w : World} {v : Value} {fs : List FieldV} (h : FieldsG G w v fs) : Fields w v fs := ⟨h.1.imp (fun _ _ _ _ _ h => h.1), h.2⟩
theorem TrapsG.plain {G : Nat → Prop} {w : World} {v : Value} {fs : List TrapV} (h : TrapsG G w v fs) : Traps w v fs := ⟨h.1.imp (fun _ _ _ _ _ h => h.1), h.2⟩
theorem InsideG.plain {G : Nat → Prop} {w : World} {m : MethodV} {vc vt vm : Value} (h : InsideG G w m vc vt vm) : Inside w m vc vt vm := ⟨h.1.1, h.2.1.plain, h.2.2.1⟩
theorem MethodsG.plain {G : Nat → Prop} {w : World} {v : Value} {ms : List MethodV} (h : MethodsG G w v ms) : Methods w v ms := by
 obtain ⟨f, h1, h2, h3⟩ := h
 exact ⟨f, h1.imp (fun _ _ _ _ _ h => h.1), fun i hi => (h2 i hi).plain, h3⟩
theorem ClassG.plain {G : Nat → Prop} {w : World} {vp vf vm : Value} {c : ClassV} (h : ClassG G w vp vf vm c) : ClassM w vp vf vm c := ⟨h.pool, h.fields.plain, h.meths.plain, h.this, h.super⟩
section
variable {G S : Nat → Prop} {w w' : World}
theorem FieldAt.onlyS {b o i : Nat} {f : FieldV} (h : FieldAt w b o i f) (ho : Only S w w') (hb : ¬ S b) : FieldAt w' b o i f := ⟨ho.cell h.c0 hb, ho.cell h.c1 hb, ho.cell h.c2 hb⟩
theorem TrapAt.onlyS {b o i : Nat} {f : TrapV} (h : TrapAt w b o i f) (ho : Only S w w') (hb : ¬ S b) : TrapAt w' b o i f := ⟨ho.cell h.c0 hb, ho.cell h.c1 hb, ho.cell h.c2 hb, ho.cell h.c3 hb⟩
theorem MethodAt.onlyS {b o i : Nat} {m : MethodV} {vc vt vm : Value} (h : MethodAt w b o i m vc vt vm) (ho : Only S w w') (hb : ¬ S b) : MethodAt w' b o i m vc vt vm :=
 ⟨ho.cell h.c0 hb, ho.cell h.c1 hb, ho.cell h.c2 hb, ho.cell h.c3 hb, ho.cell h.c4 hb, ho.cell h.c5 hb, ho.cell h.c6 hb, ho.cell h.c7 hb⟩
variable (ho : Only S w w') (hs : ∀ k, S k → G k)
include ho hs
theorem FieldsG.only {v : Value} {fs : List FieldV} (h : FieldsG G w v fs) : FieldsG G w' v fs := ⟨h.1.imp (fun _ _ _ _ _ h => ⟨h.1.onlyS ho (fun hk => h.2 (hs _ hk)), h.2⟩), h.2⟩
theorem TrapsG.only {v : Value} {fs : List TrapV} (h : TrapsG G w v fs) : TrapsG G w' v fs := ⟨h.1.imp (fun _ _ _ _ _ h => ⟨h.1.onlyS ho (fun hk => h.2 (hs _ hk)), h.2⟩), h.2⟩
theorem InsideG.only {m : MethodV} {vc vt vm : Value} (h : InsideG G w m vc vt vm) : InsideG G w' m vc vt vm := ⟨h.1.only ho hs, h.2.1.only ho hs, h.2.2.only ho hs⟩
theorem MethodsG.only {v : Value} {ms : List MethodV} (h : MethodsG G w v ms) : MethodsG G w' v ms := by
 obtain ⟨f, h1, h2, h3⟩ := h
 exact ⟨f, h1.imp (fun _ _ _ _ _ h => ⟨h.1.onlyS ho (fun hk => h.2 (hs _ hk)), h.2⟩), fun i hi => (h2 i hi).only ho hs, h3⟩
theorem ClassG.only {vp vf vm : Value} {c : ClassV} (h : ClassG G w vp vf vm c) : ClassG G w' vp vf vm c :=
 ⟨h.pool.only ho (fun k hk hS => (h.off k hk).2 (hs _ hS)), fun k hk => ⟨Nat.lt_of_lt_of_le (h.off k hk).1 ho.size, (h.off k hk).2⟩, h.fields.only ho hs, h.meths.only ho hs, h.this, h.super⟩
end
section
variable {G G' : Nat → Prop} {w : World} (hg : ∀ k, k < w.heap.size → G' k → G k)
include hg
theorem FieldsG.mono {v : Value} {fs : List FieldV} (h : FieldsG G w v fs) : FieldsG G' w v fs := ⟨h.1.imp (fun _ _ _ _ _ h => ⟨h.1, fun hk => h.2 (hg _ (World.block_lt_of_cell? w _ h.1.c0) hk)⟩), h.2⟩
theorem TrapsG.mono {v : Value} {fs : List TrapV} (h : TrapsG G w v fs) : TrapsG G' w v fs := ⟨h.1.imp (fun _ _ _ _ _ h => ⟨h.1, fun hk => h.2 (hg _ (World.block_lt_of_cell? w _ h.1.c0) hk)⟩), h.2⟩
theorem InsideG.mono {m : MethodV} {vc vt vm : Value} (h : InsideG G w m vc vt vm) : InsideG G' w m vc vt vm := ⟨h.1.mono hg, h.2.1.mono hg, h.2.2.mono hg⟩
theorem MethodsG.mono {v : Value} {ms : List MethodV} (h : MethodsG G w v ms) : MethodsG G' w v ms := by
 obtain ⟨f, h1, h2, h3⟩ := h
 exact ⟨f, h1.imp (fun _ _ _ _ _ h => ⟨h.1, fun hk => h.2 (hg _ (World.block_lt_of_cell? w _ h.1.c0) hk)⟩), fun i hi => (h2 i hi).mono hg, h3⟩
theorem ClassG.mono {vp vf vm : Value} {c : ClassV} (h : ClassG G w vp vf vm c) : ClassG G' w vp vf vm c :=
 ⟨h.pool, fun k hk => ⟨(h.off k hk).1, fun hG => (h.off k hk).2 (hg _ (h.off k hk).1 hG)⟩, h.fields.mono hg, h.meths.mono hg, h.this, h.super⟩
end
def listedO (i : Nat) (c : ClassV) (vp vf vm vof vom : Value) : Obj := .cells #[.int .i64 i, vp, .int .i64 c.this, .int .i64 c.super, vf, vm, vof, vom] 156 (0, 0)
def KnownG (G : Nat → Prop) (w : World) (i : Nat) (iv : Value) (k : KindV) (c : ClassV) (vof : Value) : Prop :=
 (i < 13 ∧ k.fields = [] ∧ vof = .slice none 0 0 ∧ ∃ vom, iv = .iface 126 (.agg #[.string k.name, .string k.super, vom]) ∧ MemG G w vom k.meths) ∨
 (13 ≤ i ∧ k = loadZ c (i - 13) ∧ ∃ lb vp vf vm vom, iv = .iface 128 (.pointer (some ⟨lb, 0, none⟩)) ∧ ¬ G lb ∧ w.heap[lb]? = some (listedO i c vp vf vm vof vom) ∧ ClassG G w vp vf vm c ∧ MemG G w vom k.meths)
theorem KnownG.only {G S : Nat → Prop} {w w' : World} {i : Nat} {iv : Value} {k : KindV} {c : ClassV} {vof : Value} (h : KnownG G w i iv k c vof) (ho : Only S w w') (hs : ∀ k, S k → G k) : KnownG G w' i iv k c vof := by
 rcases h with ⟨h1, h2, h3, vom, h4, h5⟩ | ⟨h1, h2, lb, vp, vf, vm, vom, h3, h4, h5, h6, h7⟩
 ·exact .inl ⟨h1, h2, h3, vom, h4, h5.only ho hs⟩
 ·exact .inr ⟨h1, h2, lb, vp, vf, vm, vom, h3, h4, ho.heap h5 (fun hS => h4 (hs _ hS)), h6.only ho hs, h7.only ho hs⟩
theorem KnownG.mono {G G' : Nat → Prop} {w : World} {i : Nat} {iv : Value} {k : KindV} {c : ClassV} {vof : Value} (h : KnownG G w i iv k c vof) (hg : ∀ k, k < w.heap.size → G' k → G k) : KnownG G' w i iv k c vof := by
 rcases h with ⟨h1, h2, h3, vom, h4, h5⟩ | ⟨h1, h2, lb, vp, vf, vm, vom, h3, h4, h5, h6, h7⟩
 ·exact .inl ⟨h1, h2, h3, vom, h4, h5.mono hg⟩
 ·exact .inr ⟨h1, h2, lb, vp, vf, vm, vom, h3, fun hG => h4 (hg _ (heap_lt h5) hG), h5, h6.mono hg, h7.mono hg⟩
def NamesM (w : World) (mb : Nat) (ks : List KindV) : Prop :=
 ∃ n D, n ≤ ks.length ∧ w.ownsMap Tryz.prog 9 (plainElem (H := Unit) Tryz.prog 3) mb n D ∧ IsMap D ∧
  ∀ x, Maps.has D (keyB x) = !decide (findZ ks x < 0) ∧ (¬ findZ ks x < 0 → D.atKey (keyB x) (.lit (.int .i64 0)) = .lit (.int .i64 (findZ ks x)))
theorem NamesM.only {S : Nat → Prop} {w w' : World} {mb : Nat} {ks : List KindV} (h : NamesM w mb ks) (ho : Only S w w') (hs : ¬ S mb) : NamesM w' mb ks := by
 obtain ⟨n, D, h1, ⟨es, clock, h2, h3⟩, h4⟩ := h
 exact ⟨n, D, h1, ⟨es, clock, ho.heap h2 hs, h3⟩, h4⟩
theorem NamesM.lt {w : World} {mb : Nat} {ks : List KindV} (h : NamesM w mb ks) : mb < w.heap.size := by
 obtain ⟨n, D, h1, h2, h4⟩ := h
 exact h2.lt
def progO (vl : Value) (mb : Nat) : Obj := .cells #[vl, .map (some mb)] 121 (0, 0)
def KnownL (G : Nat → Prop) (fv : Nat → Value) (w : World) (ks : List KindV) (cl : Nat → ClassV) (b o i : Nat) : Prop := ∃ iv, w.cell? ⟨b, o + i, none⟩ = some iv ∧ KnownG G w i iv (ks.getD i default) (cl i) (fv i)
structure ProgG (G : Nat → Prop) (fv : Nat → Value) (w : World) (pb : Nat) (ks : List KindV) (cl : Nat → ClassV) (sl : Nat → Nat → Int) : Prop where
 head : ∃ vl mb, w.heap[pb]? = some (progO vl mb) ∧ NamesM w mb ks ∧ Sl vl ks.length (fun b o i => KnownL G fv w ks cl b o i ∧ ¬ G b) ∧ ¬ G pb ∧ ¬ G mb
 fields : ∀ i, i < ks.length → FldS w (fv i) (ks.getD i default).fields (sl i)
 own : ∀ i k, i < ks.length → (fv i).ownBlock = some k → k < w.heap.size ∧ G k
 apart : ∀ i j k, i < ks.length → j < ks.length → (fv i).ownBlock = some k → (fv j).ownBlock = some k → i = j
theorem ProgG.only {G : Nat → Prop} {fv : Nat → Value} {w w' : World} {pb : Nat} {ks : List KindV} {cl : Nat → ClassV} {sl : Nat → Nat → Int} (h : ProgG G fv w pb ks cl sl) (ho : Only (fun _ => False) w w') : ProgG G fv w' pb ks cl sl := by
 obtain ⟨vl, mb, h1, h2, h3, h4, h5⟩ := h.head
 refine ⟨⟨vl, mb, ho.heap h1 (fun h => h), h2.only ho (fun h => h), h3.imp (fun b o i _ _ h => ?_), h4, h5⟩, fun i hi => (h.fields i hi).only ho (fun _ _ h => h), fun i k hi hk => ⟨Nat.lt_of_lt_of_le (h.own i k hi hk).1 ho.size, (h.own i k hi hk).2⟩, h.apart⟩
 obtain ⟨⟨iv, hc, hk⟩, hG⟩ := h
 exact ⟨⟨iv, ho.cell hc (fun h => h), hk.only ho (fun _ h => h.elim)⟩, hG⟩
theorem ProgG.open {G : Nat → Prop} {fv : Nat → Value} {w : World} {pb : Nat} {ks : List KindV} {cl : Nat → ClassV} {sl : Nat → Nat → Int} (h : ProgG G fv w pb ks cl sl) (hn : 0 < ks.length) :
  ∃ b o cap mb, w.cell? ⟨pb, 0, none⟩ = some (.slice (some ⟨b, o, none⟩) ks.length cap) ∧ w.cell? ⟨pb, 1, none⟩ = some (.map (some mb)) ∧ ks.length ≤ cap ∧ cap ≤ 9223372036854775807 ∧ NamesM w mb ks ∧ ∀ i, i < ks.length → KnownL G fv w ks cl b o i := by
 obtain ⟨vl, mb, h1, h2, ⟨ao, cap, rfl, e1, e2, e3, e4⟩, h4, h5⟩ := h.head
 cases ao with
 | none => have := e3 rfl; omega
 | some x =>
  obtain ⟨b, o, rfl, h6⟩ := e4 x rfl hn
  exact ⟨b, o, cap, mb, by rw [cell_blk h1]; rfl, by rw [cell_blk h1]; rfl, e1, e2, h2, fun i hi => (h6 i hi).1⟩
def CellsAt (w : World) (size : Nat) (cells : Nat → List Value) (b o i : Nat) : Prop := ∀ d, d < size → w.cell? ⟨b, o + i * size + d, none⟩ = (cells i)[d]?
theorem flat_len {α : Type} {size : Nat} {f : α → List Value} (hf : ∀ i, (f i).length = size) : ∀ l : List α, (l.flatMap f).length = l.length * size
 | [] => by simp
 | a :: r => by rw [List.flatMap_cons, List.length_append, hf, flat_len hf r, List.length_cons, Nat.succ_mul]; omega
theorem flat_at {α : Type} [Inhabited α] {size : Nat} {f : α → List Value} (hf : ∀ i, (f i).length = size) : ∀ {l : List α} {i d : Nat}, i < l.length → d < size → (l.flatMap f)[i * size + d]? = (f (l.getD i default))[d]?
 | a :: r, 0, d, _, hd => by
  rw [List.flatMap_cons, List.getElem?_append_left (by rw [hf]; omega)]
  simp
 | a :: r, i + 1, d, hi, hd => by
  rw [List.flatMap_cons, List.getElem?_append_right (by rw [hf, Nat.succ_mul]; omega), hf, show (i + 1) * size + d - size = i * size + d by rw [Nat.succ_mul]; omega, flat_at hf (by simpa using hi) hd]
  simp
theorem range_getD {n i : Nat} (h : i < n) : (List.range n).getD i default = i := by simp [List.getD, h]
theorem Src.of_sl {w : World} {v : Value} {n size : Nat} {cells : Nat → List Value} (h : Sl v n (CellsAt w size cells)) (hsz : ∀ i, (cells i).length = size) (h1 : ∀ i, ∀ u ∈ cells i, u.oneCell' = true) (h0 : 0 < size) : Src w size v n ((List.range n).flatMap cells) := by
 obtain ⟨ao, cap, rfl, p1, p2, p3, p4⟩ := h
 have hlen : ((List.range n).flatMap cells).length = n * size := by rw [flat_len hsz, List.length_range]
 refine ⟨hlen, fun u hu => ?_, ao, cap, rfl, fun e => ⟨by have := p3 e; omega, p3 e⟩, fun ad hd j u hj => ?_⟩
 ·obtain ⟨i, _, hc⟩ := List.mem_flatMap.1 hu
  exact h1 i u hc
 ·have hjl : j < n * size := by rw [← hlen]; exact (List.getElem?_eq_some_iff.1 hj).1
  have hn : 0 < n := Nat.pos_of_ne_zero (fun e => by subst e; simp at hjl)
  obtain ⟨b, o, rfl, hc⟩ := p4 ad hd hn
  have hi : j / size < n := Nat.div_lt_of_lt_mul (by rw [Nat.mul_comm]; exact hjl)
  have hm : j % size < size := Nat.mod_lt _ h0
  have hjd : j / size * size + j % size = j := by rw [Nat.mul_comm]; exact Nat.div_add_mod j size
  have hat := flat_at (l := List.range n) hsz (i := j / size) (d := j % size) (by rw [List.length_range]; exact hi) hm
  rw [hjd, hj, range_getD hi] at hat
  rw [add_lit, ← hjd, show o + (j / size * size + j % size) = o + j / size * size + j % size by omega, hc _ hi _ hm, hat]
theorem owns_sl {w : World} {B : Nat} {e : TypeId} {v : Value} {n size : Nat} {cells : Nat → List Value} (h : w.ownsRow B e size v n ((List.range n).flatMap cells)) (hsz : ∀ i, (cells i).length = size) : Sl v n (fun b o i => CellsAt w size cells b o i ∧ B ≤ b ∧ b < w.heap.size) := by
 have hlt := fun k hk => World.ownsRow.lt h k hk
 rcases h.2 with ⟨rfl, rfl⟩ | ⟨g, cap, cur, rfl, hb, hg, hnc, hcm, hcs, htake⟩
 ·exact Sl.nil _
 ·refine ⟨_, cap, rfl, hnc, by unfold maxLen at hcm; omega, (fun e => by cases e), fun x hx _ => ?_⟩
  cases hx
  refine ⟨g, 0, rfl, fun i hi => ⟨fun d hd => ?_, hb, heap_lt hg⟩⟩
  have hat := flat_at (l := List.range n) hsz (i := i) (d := d) (by rw [List.length_range]; exact hi) hd
  rw [range_getD hi] at hat
  rw [Nat.zero_add, ← hat]
  have hle : i * size + d < n * size := by
   have : (i + 1) * size ≤ n * size := Nat.mul_le_mul_right _ hi
   rw [Nat.succ_mul] at this
   omega
  exact h.cellAt (g := g) (cap := cap) (i * size + d) hle
def CopyTo (w : World) (T : TypeId) (size n : Nat) (cells : Nat → List Value) (e : Ending) (w' : World) : Prop :=
 ∃ v', e = .returned v' ∧ Sl v' n (fun b o i => CellsAt w' size cells b o i ∧ w.heap.size ≤ b ∧ b < w'.heap.size) ∧ (∀ k, v'.ownBlock = some k → w.heap.size ≤ k ∧ k < w'.heap.size) ∧ Only (fun _ => False) w w' ∧ w'.ownsRow w.heap.size T size v' n ((List.range n).flatMap cells)
theorem info_CConst : (Tryz.prog.info? 113).map (fun i => (i.zero, i.size, i.bytes)) = some (some (.agg #[.int .i64 0, .string ⟨#[]⟩, .int .i64 0, .int .i64 0, .int .i64 0]), 5, 48) := by kernel_rfl
set_option maxRecDepth 100000 in
theorem copyCConst (v : Value) (n : Nat) (cells : Nat → List Value) (w : World) (h : Sl v n (CellsAt w 5 cells)) (hsz : ∀ i, (cells i).length = 5) (h1 : ∀ i, ∀ u ∈ cells i, u.oneCell' = true) (hn : n ≤ 1048576) :
  Calls Tryz.prog 116 #[v] w (CopyTo w 113 5 n cells) := by
 have hnil := fun (w : World) (a : Option Addr) (n c : Nat) => Lib.run_eql_slice_nil (P := Tryz.prog) w 54 113 a n c 0 0 Tryz.underlying54
 obtain ⟨i0, hi, hz0, hz1, hz2⟩ := info_parts info_CConst
 have hsrc := Src.of_sl h hsz h1 (by decide)
 obtain ⟨ao, cap, rfl, p1, p2, p3, -⟩ := h
 cases ao with
 | none =>
  obtain rfl : cap = 0 := p3 rfl
  obtain rfl : n = 0 := by omega
  clear hsrc
  go_enter Tryz.func116, Tryz.ntmps116
  go_wp2
  go_ret
  exact ⟨_, rfl, Sl.nil _, fun k hk => (by cases hk), Only.refl _ _, World.ownsRow_nil _ _ _ _⟩
 | some x =>
  have ho1 := (Only.refl (fun _ => False) w).alloc (.cells #[] 113)
  have hown0 : (w.alloc (.cells #[] 113)).ownsRow w.heap.size 113 5 (.slice (some ⟨w.heap.size, 0, none⟩) 0 0) 0 [] := World.ownsRow_made _ #[] 0 (Nat.le_refl _) (Nat.zero_le _) rfl
  have HSRC := hid (hsrc.alloc (.cells #[] 113))
  have HOWN := hid hown0
  have HO := hid ho1
  have HSZ := hid hsz
  clear hsrc hown0 ho1 p3 hsz h1
  go_enter Tryz.func116, Tryz.ntmps116
  go_wp2_with (at_builtin; go_loud (refine wpList_append_src rfl (.tmp 5) (.tmp 6) 54 rfl 113 i0 (.agg #[.int .i64 0, .string ⟨#[]⟩, .int .i64 0, .int .i64 0, .int .i64 0]) 5 48 Tryz.underlying54 hi hz0 hz1 hz2 rfl (by decide) w.heap.size (.slice (some ⟨w.heap.size, 0, none⟩) 0 0) 0 [] rfl (by exact HOWN.out) (by exact HO.out.size) (.slice (some x) n cap) n ((List.range n).flatMap cells) rfl (by exact HSRC.out) (by unfold maxLen; omega) (by omega) ?_); intro v' w5 hown hgrow hnew; have hos := only_grownT hgrow; have hon6 := HO.out.trans hos (fun j hj hl => by have e : w.heap.size = j := Option.some.inj hj; omega); have HO6 := hid hon6; have HOWN6 := hid (show w5.ownsRow w.heap.size 113 5 v' n ((List.range n).flatMap cells) by have := hown; rw [Nat.zero_add, List.nil_append] at this; exact this); clear hown hgrow hnew hos hon6)
  go_ret
  exact ⟨_, rfl, owns_sl HOWN6.out HSZ.out, fun k hk => World.ownsRow.lt HOWN6.out k hk, HO6.out, HOWN6.out⟩
theorem info_CField : (Tryz.prog.info? 151).map (fun i => (i.zero, i.size, i.bytes)) = some (some (.agg #[.int .i64 0, .int .i64 0, .int .i64 0]), 3, 24) := by kernel_rfl
set_option maxRecDepth 100000 in
theorem copyCField (v : Value) (n : Nat) (cells : Nat → List Value) (w : World) (h : Sl v n (CellsAt w 3 cells)) (hsz : ∀ i, (cells i).length = 3) (h1 : ∀ i, ∀ u ∈ cells i, u.oneCell' = true) (hn : n ≤ 1048576) :
  Calls Tryz.prog 117 #[v] w (CopyTo w 151 3 n cells) := by
 have hnil := fun (w : World) (a : Option Addr) (n c : Nat) => Lib.run_eql_slice_nil (P := Tryz.prog) w 81 151 a n c 0 0 Tryz.underlying81
 obtain ⟨i0, hi, hz0, hz1, hz2⟩ := info_parts info_CField
 have hsrc := Src.of_sl h hsz h1 (by decide)
 obtain ⟨ao, cap, rfl, p1, p2, p3, -⟩ := h
 cases ao with
 | none =>
  obtain rfl : cap = 0 := p3 rfl
  obtain rfl : n = 0 := by omega
  clear hsrc
  go_enter Tryz.func117, Tryz.ntmps117
  go_wp2
  go_ret
  exact ⟨_, rfl, Sl.nil _, fun k hk => (by cases hk), Only.refl _ _, World.ownsRow_nil _ _ _ _⟩
 | some x =>
  have ho1 := (Only.refl (fun _ => False) w).alloc (.cells #[] 151)
  have hown0 : (w.alloc (.cells #[] 151)).ownsRow w.heap.size 151 3 (.slice (some ⟨w.heap.size, 0, none⟩) 0 0) 0 [] := World.ownsRow_made _ #[] 0 (Nat.le_refl _) (Nat.zero_le _) rfl
  have HSRC := hid (hsrc.alloc (.cells #[] 151))
  have HOWN := hid hown0
  have HO := hid ho1
  have HSZ := hid hsz
  clear hsrc hown0 ho1 p3 hsz h1
  go_enter Tryz.func117, Tryz.ntmps117
  go_wp2_with (at_builtin; go_loud (refine wpList_append_src rfl (.tmp 5) (.tmp 6) 81 rfl 151 i0 (.agg #[.int .i64 0, .int .i64 0, .int .i64 0]) 3 24 Tryz.underlying81 hi hz0 hz1 hz2 rfl (by decide) w.heap.size (.slice (some ⟨w.heap.size, 0, none⟩) 0 0) 0 [] rfl (by exact HOWN.out) (by exact HO.out.size) (.slice (some x) n cap) n ((List.range n).flatMap cells) rfl (by exact HSRC.out) (by unfold maxLen; omega) (by omega) ?_); intro v' w5 hown hgrow hnew; have hos := only_grownT hgrow; have hon6 := HO.out.trans hos (fun j hj hl => by have e : w.heap.size = j := Option.some.inj hj; omega); have HO6 := hid hon6; have HOWN6 := hid (show w5.ownsRow w.heap.size 151 3 v' n ((List.range n).flatMap cells) by have := hown; rw [Nat.zero_add, List.nil_append] at this; exact this); clear hown hgrow hnew hos hon6)
  go_ret
  exact ⟨_, rfl, owns_sl HOWN6.out HSZ.out, fun k hk => World.ownsRow.lt HOWN6.out k hk, HO6.out, HOWN6.out⟩
theorem info_CTrap : (Tryz.prog.info? 190).map (fun i => (i.zero, i.size, i.bytes)) = some (some (.agg #[.int .i64 0, .int .i64 0, .int .i64 0, .int .i64 0]), 4, 32) := by kernel_rfl
set_option maxRecDepth 100000 in
theorem copyCTrap (v : Value) (n : Nat) (cells : Nat → List Value) (w : World) (h : Sl v n (CellsAt w 4 cells)) (hsz : ∀ i, (cells i).length = 4) (h1 : ∀ i, ∀ u ∈ cells i, u.oneCell' = true) (hn : n ≤ 1048576) :
  Calls Tryz.prog 144 #[v] w (CopyTo w 190 4 n cells) := by
 have hnil := fun (w : World) (a : Option Addr) (n c : Nat) => Lib.run_eql_slice_nil (P := Tryz.prog) w 61 190 a n c 0 0 Tryz.underlying61
 obtain ⟨i0, hi, hz0, hz1, hz2⟩ := info_parts info_CTrap
 have hsrc := Src.of_sl h hsz h1 (by decide)
 obtain ⟨ao, cap, rfl, p1, p2, p3, -⟩ := h
 cases ao with
 | none =>
  obtain rfl : cap = 0 := p3 rfl
  obtain rfl : n = 0 := by omega
  clear hsrc
  go_enter Tryz.func144, Tryz.ntmps144
  go_wp2
  go_ret
  exact ⟨_, rfl, Sl.nil _, fun k hk => (by cases hk), Only.refl _ _, World.ownsRow_nil _ _ _ _⟩
 | some x =>
  have ho1 := (Only.refl (fun _ => False) w).alloc (.cells #[] 190)
  have hown0 : (w.alloc (.cells #[] 190)).ownsRow w.heap.size 190 4 (.slice (some ⟨w.heap.size, 0, none⟩) 0 0) 0 [] := World.ownsRow_made _ #[] 0 (Nat.le_refl _) (Nat.zero_le _) rfl
  have HSRC := hid (hsrc.alloc (.cells #[] 190))
  have HOWN := hid hown0
  have HO := hid ho1
  have HSZ := hid hsz
  clear hsrc hown0 ho1 p3 hsz h1
  go_enter Tryz.func144, Tryz.ntmps144
  go_wp2_with (at_builtin; go_loud (refine wpList_append_src rfl (.tmp 5) (.tmp 6) 61 rfl 190 i0 (.agg #[.int .i64 0, .int .i64 0, .int .i64 0, .int .i64 0]) 4 32 Tryz.underlying61 hi hz0 hz1 hz2 rfl (by decide) w.heap.size (.slice (some ⟨w.heap.size, 0, none⟩) 0 0) 0 [] rfl (by exact HOWN.out) (by exact HO.out.size) (.slice (some x) n cap) n ((List.range n).flatMap cells) rfl (by exact HSRC.out) (by unfold maxLen; omega) (by omega) ?_); intro v' w5 hown hgrow hnew; have hos := only_grownT hgrow; have hon6 := HO.out.trans hos (fun j hj hl => by have e : w.heap.size = j := Option.some.inj hj; omega); have HO6 := hid hon6; have HOWN6 := hid (show w5.ownsRow w.heap.size 190 4 v' n ((List.range n).flatMap cells) by have := hown; rw [Nat.zero_add, List.nil_append] at this; exact this); clear hown hgrow hnew hos hon6)
  go_ret
  exact ⟨_, rfl, owns_sl HOWN6.out HSZ.out, fun k hk => World.ownsRow.lt HOWN6.out k hk, HO6.out, HOWN6.out⟩
theorem info_CMeth : (Tryz.prog.info? 63).map (fun i => (i.zero, i.size, i.bytes)) = some (some (.agg #[.int .i64 0, .int .i64 0, .int .i64 0, .int .i64 0, .int .i64 0, .slice none 0 0, .slice none 0 0, .slice none 0 0]), 8, 112) := by kernel_rfl
set_option maxRecDepth 100000 in
theorem copyCMeth (v : Value) (n : Nat) (cells : Nat → List Value) (w : World) (h : Sl v n (CellsAt w 8 cells)) (hsz : ∀ i, (cells i).length = 8) (h1 : ∀ i, ∀ u ∈ cells i, u.oneCell' = true) (hn : n ≤ 1048576) :
  Calls Tryz.prog 118 #[v] w (CopyTo w 63 8 n cells) := by
 have hnil := fun (w : World) (a : Option Addr) (n c : Nat) => Lib.run_eql_slice_nil (P := Tryz.prog) w 82 63 a n c 0 0 Tryz.underlying82
 obtain ⟨i0, hi, hz0, hz1, hz2⟩ := info_parts info_CMeth
 have hsrc := Src.of_sl h hsz h1 (by decide)
 obtain ⟨ao, cap, rfl, p1, p2, p3, -⟩ := h
 cases ao with
 | none =>
  obtain rfl : cap = 0 := p3 rfl
  obtain rfl : n = 0 := by omega
  clear hsrc
  go_enter Tryz.func118, Tryz.ntmps118
  go_wp2
  go_ret
  exact ⟨_, rfl, Sl.nil _, fun k hk => (by cases hk), Only.refl _ _, World.ownsRow_nil _ _ _ _⟩
 | some x =>
  have ho1 := (Only.refl (fun _ => False) w).alloc (.cells #[] 63)
  have hown0 : (w.alloc (.cells #[] 63)).ownsRow w.heap.size 63 8 (.slice (some ⟨w.heap.size, 0, none⟩) 0 0) 0 [] := World.ownsRow_made _ #[] 0 (Nat.le_refl _) (Nat.zero_le _) rfl
  have HSRC := hid (hsrc.alloc (.cells #[] 63))
  have HOWN := hid hown0
  have HO := hid ho1
  have HSZ := hid hsz
  clear hsrc hown0 ho1 p3 hsz h1
  go_enter Tryz.func118, Tryz.ntmps118
  go_wp2_with (at_builtin; go_loud (refine wpList_append_src rfl (.tmp 5) (.tmp 6) 82 rfl 63 i0 (.agg #[.int .i64 0, .int .i64 0, .int .i64 0, .int .i64 0, .int .i64 0, .slice none 0 0, .slice none 0 0, .slice none 0 0]) 8 112 Tryz.underlying82 hi hz0 hz1 hz2 rfl (by decide) w.heap.size (.slice (some ⟨w.heap.size, 0, none⟩) 0 0) 0 [] rfl (by exact HOWN.out) (by exact HO.out.size) (.slice (some x) n cap) n ((List.range n).flatMap cells) rfl (by exact HSRC.out) (by unfold maxLen; omega) (by omega) ?_); intro v' w5 hown hgrow hnew; have hos := only_grownT hgrow; have hon6 := HO.out.trans hos (fun j hj hl => by have e : w.heap.size = j := Option.some.inj hj; omega); have HO6 := hid hon6; have HOWN6 := hid (show w5.ownsRow w.heap.size 63 8 v' n ((List.range n).flatMap cells) by have := hown; rw [Nat.zero_add, List.nil_append] at this; exact this); clear hown hgrow hnew hos hon6)
  go_ret
  exact ⟨_, rfl, owns_sl HOWN6.out HSZ.out, fun k hk => World.ownsRow.lt HOWN6.out k hk, HO6.out, HOWN6.out⟩
set_option maxRecDepth 100000 in
theorem copyBytes (v : Value) (zs : List Int) (w : World) (hb : Bytes w v zs) (hl : zs.length ≤ 140737488355327) :
  Calls Tryz.prog 143 #[v] w fun e w' => ∃ v', e = .returned v' ∧ Bytes w' v' zs ∧ (∀ k, v'.ownBlock = some k → w.heap.size ≤ k ∧ k < w'.heap.size) ∧ Only (fun _ => False) w w' := by
 have hnil := fun (w : World) (a : Option Addr) (n c : Nat) => Lib.run_eql_slice_nil (P := Tryz.prog) w 55 5 a n c 0 0 Tryz.underlying55
 obtain ⟨i0, hi, hz0, hz1, hz2⟩ := info_parts info_u8
 have hsrc := Src.of_bytes hb
 obtain ⟨ao, cap, rfl, p1, p2, p3, p4, p5⟩ := id hb
 have hbt := p4
 unfold maxLen at p2
 cases ao with
 | none =>
  obtain rfl : cap = 0 := p3 rfl
  obtain rfl : zs = [] := List.eq_nil_of_length_eq_zero (by omega)
  have HB := hid hb
  clear hsrc hb p5 p4 hbt
  go_enter Tryz.func143, Tryz.ntmps143
  go_wp2
  go_ret
  exact ⟨_, rfl, HB.out, fun k hk => (by cases hk), Only.refl _ _⟩
 | some x =>
  have ho1 := (Only.refl (fun _ => False) w).alloc (.cells #[] 5)
  have hown0 : (w.alloc (.cells #[] 5)).ownsRow w.heap.size 5 1 (.slice (some ⟨w.heap.size, 0, none⟩) 0 0) 0 [] := World.ownsRow_made _ #[] 0 (Nat.le_refl _) (Nat.zero_le _) rfl
  have HSRC := hid (hsrc.alloc (.cells #[] 5))
  have HOWN := hid hown0
  have HO := hid ho1
  have HBT := hid hbt
  clear hsrc hown0 ho1 p3 p4 p5 hb hbt
  go_enter Tryz.func143, Tryz.ntmps143
  go_wp2_with (at_builtin; go_loud (refine wpList_append_src rfl (.tmp 5) (.tmp 6) 55 rfl 5 i0 (.int .u8 0) 1 1 Tryz.underlying55 hi hz0 hz1 hz2 rfl (by decide) w.heap.size (.slice (some ⟨w.heap.size, 0, none⟩) 0 0) 0 [] rfl (by exact HOWN.out) (by exact HO.out.size) (.slice (some x) zs.length cap) zs.length (zs.map (Value.int .u8)) rfl (by exact HSRC.out) (by unfold maxLen; omega) (by omega) ?_); intro v' w5 hown hgrow hnew; have hos := only_grownT hgrow; have hon6 := HO.out.trans hos (fun j hj hl => by have e : w.heap.size = j := Option.some.inj hj; omega); have HO6 := hid hon6; have HOWN6 := hid (show Row w5 w.heap.size v' zs by have := hown; rw [Nat.zero_add, List.nil_append] at this; exact this); clear hown hgrow hnew hos hon6)
  go_ret
  exact ⟨_, rfl, HOWN6.out.bytes HBT.out, fun k hk => HOWN6.out.ge k hk, HO6.out⟩
end Go.Proofs.YtinbelghhfodiaaGreatDoor
