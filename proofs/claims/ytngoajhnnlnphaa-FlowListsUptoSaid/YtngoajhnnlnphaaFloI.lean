/- What a loop over an iterator keeps that collects into a row of its own; the program's iterator over a code's instructions. No condition beyond a length that leaves room. -/
import Derived.RangeFuncNested
import Derived.RangeFuncBound
import Derived.RangeFuncCalls
import Derived.RangeFuncLeaves
import Derived.Shelf.Abstract
import Derived.WalkKit
import Derived.OwnWalkIn
import Derived.TacticsInMore
import Derived.LoopNIn
import Derived.LoopIn
import Derived.Test.YtngoajhnnlnphaaFloL
import Derived.Test.YtngoajhnnlnphaaOpsI
namespace Go.Proofs.Ytngoajhnnlnphaa
open Go.RowKit Go.Shelf
set_option linter.unusedVariables false
set_option linter.unusedSimpArgs false
attribute [local go_sem] Oper.semAt_some

/-! What a round keeps: all cells but those of the collecting loop's own variable and of its row. -/
def InvL (B : Nat) (W : World) : Prop := ∃ v, W.cell? ⟨B, 0, none⟩ = some v ∧ ∀ b, v.ownBlock = some b → b < W.heap.size
def FootL (B : Nat) (W : World) (k : Nat) : Prop := k = B ∨ ∃ v, W.cell? ⟨B, 0, none⟩ = some v ∧ v.ownBlock = some k
structure KeepB (B : Nat) (W W' : World) : Prop where
  size : W.heap.size ≤ W'.heap.size
  inv : InvL B W'
  foot : ∀ k, FootL B W' k → FootL B W k ∨ W.heap.size ≤ k
  cell : ∀ a u, W.cell? a = some u → ¬ FootL B W a.block → W'.cell? a = some u
def KeepL (B : Nat) (W W' : World) : Prop := InvL B W → KeepB B W W'
theorem KeepB.trans {B : Nat} {X Y Z : World} (h : KeepB B X Y) (k : KeepB B Y Z) : KeepB B X Z := by
  refine ⟨Nat.le_trans h.size k.size, k.inv, fun i hi => ?_, fun a u hc hn => k.cell a u (h.cell a u hc hn) (fun hf => ?_)⟩
  · rcases k.foot i hi with hf | hl
    · exact h.foot i hf
    · exact .inr (Nat.le_trans h.size hl)
  · rcases h.foot _ hf with hf | hl
    · exact hn hf
    · have := World.block_lt_of_cell? X a hc
      omega
theorem KeepL.trans {B : Nat} {X Y Z : World} (h : KeepL B X Y) (k : KeepL B Y Z) : KeepL B X Z := fun hi => (h hi).trans (k (h hi).inv)
theorem keep_of_cells {B : Nat} {W W' : World} (hi : InvL B W) (hs : W.heap.size ≤ W'.heap.size) (hc : ∀ a u, W.cell? a = some u → W'.cell? a = some u) : KeepB B W W' := by
  obtain ⟨v, hv, hb⟩ := hi
  have hv' := hc _ _ hv
  refine ⟨hs, ⟨v, hv', fun b e => by have := hb b e; omega⟩, fun k hk => ?_, fun a u h _ => hc a u h⟩
  rcases hk with rfl | ⟨u, hu, e⟩
  · exact .inl (.inl rfl)
  · rw [hv'] at hu
    cases hu
    exact .inl (.inr ⟨v, hv, e⟩)
theorem keep_of_only {B : Nat} {W W' : World} (hi : InvL B W) (ho : Only (fun _ => False) W W') : KeepB B W W' := keep_of_cells hi ho.size (fun a u h => ho.cell h (fun h => h))
theorem cell_putObj {W : World} {l : Nat} {o o' : Obj} (hl : W.heap[l]? = some o) (ho : o.isCells = false) (a : Addr) (u : Value) (h : W.cell? a = some u) : (W.putObj l o').cell? a = some u := by
  have hne : a.block ≠ l := by
    intro e
    unfold World.cell? at h
    rw [e, hl] at h
    cases o with
    | cells => cases ho
    | _ => simp at h
  exact (World.cell?_of_block (World.putObj_heap_other hne)).trans h
theorem keepL_b {B n : Nat} (W : World) (l : Nat) (o o' : Obj) (_ : n ≤ l) (hl : W.heap[l]? = some o) (ho : o.isCells = false) (_ : o.isWalk = false) : KeepL B W (W.putObj l o') :=
  fun hi => keep_of_cells hi (by simp) (cell_putObj hl ho)
theorem keepL_only {B : Nat} {W W' : World} (ho : Only (fun _ => False) W W') : KeepL B W W' := fun hi => keep_of_only hi ho

/-! What the iterator sees of the world in which its loop began. -/
structure SeeL (B : Nat) (w W : World) : Prop where
  size : w.heap.size ≤ W.heap.size
  inv : InvL B W
  foot : ∀ k, FootL B W k → k = B ∨ w.heap.size ≤ k
  cell : ∀ a u, w.cell? a = some u → a.block ≠ B → W.cell? a = some u
theorem SeeL.start {B : Nat} {w : World} (h : w.cell? ⟨B, 0, none⟩ = some (.slice none 0 0)) : SeeL B w w := by
  refine ⟨Nat.le_refl _, ⟨_, h, fun b e => by simp [Value.ownBlock] at e⟩, fun k hk => ?_, fun _ _ h _ => h⟩
  rcases hk with rfl | ⟨v, hv, e⟩
  · exact .inl rfl
  · rw [h] at hv
    cases hv
    simp [Value.ownBlock] at e
theorem SeeL.step {B : Nat} {w W W' : World} (h : SeeL B w W) (hB : B < w.heap.size) (k : KeepB B W W') : SeeL B w W' := by
  refine ⟨Nat.le_trans h.size k.size, k.inv, fun i hi => ?_, fun a u hc hn => k.cell a u (h.cell a u hc hn) (fun hf => ?_)⟩
  · rcases k.foot i hi with hf | hl
    · exact h.foot i hf
    · exact .inr (Nat.le_trans h.size hl)
  · have := World.block_lt_of_cell? w a hc
    rcases h.foot _ hf with hf | hl
    · exact hn hf
    · omega
theorem SeeL.only {B : Nat} {w W W' : World} (h : SeeL B w W) (hB : B < w.heap.size) (ho : Only (fun _ => False) W W') : SeeL B w W' := h.step hB (keep_of_only h.inv ho)
/-- A block that is new is not the loop's own. -/
theorem InvL.fresh {B : Nat} {W W1 : World} {k : Nat} (h : InvL B W) (ho : Only (fun _ => False) W W1) (hk : W.heap.size ≤ k) (hB : B < W.heap.size) : ¬ FootL B W1 k := by
  obtain ⟨v, hv, hb⟩ := h
  rintro (rfl | ⟨u, hu, e⟩)
  · omega
  · rw [ho.cell hv (fun h => h)] at hu
    cases hu
    have := hb k e
    omega
theorem Bytes.seen {B : Nat} {w W : World} {v : Value} {zs : List Int} (hb : Bytes w v zs) (h : SeeL B w W) (hv : ∀ k, v.ownBlock = some k → zs ≠ [] → k ≠ B) : Bytes W v zs := by
  obtain ⟨ao, cap, rfl, h1, h2, h3, h4, h5⟩ := hb
  refine ⟨ao, cap, rfl, h1, h2, h3, h4, fun x hx j hj => h.cell _ _ (h5 x hx j hj) ?_⟩
  rw [add_block]
  subst hx
  exact hv x.block rfl (fun e => by rw [e] at hj; simp at hj)
theorem only_grown0 {W W' : World} (ho : Only (fun _ => False) W W') : W.grownBy W' none := ⟨ho.os, ho.tape, ho.output, ho.size, fun k hk _ => ho.block k hk (fun h => h)⟩

/-! What comes. -/
abbrev encI (x : InstrV × Int) : Array Value := #[.agg #[.int .i64 x.1.at_, .int .i64 x.1.op, .int .i64 x.1.a, .int .i64 x.1.b, .int .i64 x.1.size], .int .i64 x.2]
def goods (l : List InstrV) : List (InstrV × Int) := l.map (fun k => (k, 0))
theorem goods_snoc (l : List InstrV) (k : InstrV) : goods l ++ [(k, 0)] = goods (l ++ [k]) := by simp [goods]
theorem goods_len (l : List InstrV) : (goods l).length = l.length := by simp [goods]
def SeqFin (zs : List Int) (xs : List (InstrV × Int)) : Prop := (∃ l, xs = goods l ∧ Run zs l zs.length) ∨ ∃ l p e, xs = goods l ++ [(zeroI, e)] ∧ e ≠ 0 ∧ Run zs l p ∧ p < zs.length ∧ decAt p (zs.drop p) = (zeroI, e)
def SeqCut (zs : List Int) (xs : List (InstrV × Int)) : Prop := ∃ l p x, xs = goods l ++ [x] ∧ Run zs l p ∧ p < zs.length ∧ decAt p (zs.drop p) = x

set_option maxHeartbeats 4000000 in
set_option maxRecDepth 100000 in
/-- The iterator's body, for every loop that keeps what it reads. -/
theorem instr_in (n : Nat) (hn : 1 ≤ n) (v : Value) (zs : List Int) (w : World) (Bn B : Nat) (hb : Bytes w v zs) (hl : zs.length ≤ 140737488355328) (hBn : w.cell? ⟨Bn, 0, none⟩ = some v) (hne : Bn ≠ B) (hB : B < w.heap.size)
    (hvb : ∀ k, v.ownBlock = some k → zs ≠ [] → k ≠ B) (l : Nat) (J Jx : List (InstrV × Int) → World → Prop) (W : World) (hJ : ∀ s X Y, J s X → Only (fun _ => False) X Y → J s Y)
    (hY : ∀ pre x W1, J pre W1 → pre.length < zs.length → YieldAt Fence.wide (n - 1) Try.prog l (encI x) W1 fun e W' =>
      (e = .returned (.bool true) ∧ J (pre ++ [x]) W' ∧ KeepL B W1 W') ∨ (e = .returned (.bool false) ∧ Jx (pre ++ [x]) W'))
    (hs : SeeL B w W) (h0 : J [] W) :
    CallsIn Fence.wide n Try.prog 28 #[.func (.yield l) #[] #[], .pointer (some ⟨Bn, 0, none⟩)] W fun e W' => (∃ v, e = .returned v) ∧
      ((∃ xs, SeqFin zs xs ∧ J xs W') ∨ (∃ pre, SeqCut zs pre ∧ Jx pre W')) := by
  have HJ := Lib.hid hJ
  have HY := Lib.hid hY
  have HS := Lib.hid hs
  have HB := Lib.hid hb
  have HBN := Lib.hid hBn
  have HNE := Lib.hid hne
  have HLB := Lib.hid hB
  have HVB := Lib.hid hvb
  obtain ⟨ao, cap, rfl, p1, p2, p3, -, -⟩ := id hb
  unfold maxLen at p2
  clear hJ hY hs hb hBn hne hB hvb p3
  refine callsIn_of_wp Try.func28 rfl trivial ?_ rfl
  simp only [Try.ntmps28, List.size_toArray, List.length_cons, List.length_nil, Nat.reduceAdd, Nat.reduceSub, Array.replicate_succ, Array.replicate_zero, List.push_toArray, List.append_toArray, List.nil_append, List.cons_append]
  gi_wp2
  gi_loopw [3] (fun i wr => ∃ (l : List InstrV) (p : Nat), i = .int .i64 p ∧ Hid (Run zs l p) ∧ Hid (SeeL B w wr) ∧ Hid (J (goods l) wr)) (fun i wr => zs.length - (intOf i).toNat)
  case atStart => exact ⟨[], 0, rfl, Lib.hid (Run.nil zs), HS, Lib.hid h0⟩
  case round =>
    obtain ⟨li, p, rfl, HR, HSR, HJR⟩ := hrel
    have hcb := HSR.out.cell _ _ HBN.out HNE.out
    have hle := HR.out.length.2
    by_cases hp : p < zs.length
    · have hpz : (p : Int) < (zs.length : Int) := by omega
      have c1 := progDecode _ zs p wr (HB.out.seen HSR.out HVB.out) hl
      rw [decZp (by omega)] at c1
      have hlen := HR.out.length.1
      rcases dec_case (zs.drop p) p with ⟨e, he, he', hne, hd⟩ | ⟨k, hd⟩
      · have HF : Hid (SeqFin zs (goods li ++ [(zeroI, e)])) := Lib.hid (.inr ⟨li, p, e, rfl, hne, HR.out, hp, hd⟩)
        have HC : Hid (SeqCut zs (goods li ++ [(zeroI, e)])) := Lib.hid ⟨li, p, _, rfl, HR.out, hp, hd⟩
        rw [hd] at c1
        unfold valI zeroI at c1
        have C1 := Lib.hid c1
        clear c1 hd hne
        gi_wp2_with (fail)
        refine ⟨trivial, (callsIn_wide.2 C1.out).mono ?_⟩
        rintro e' w3 ⟨rfl, ho3⟩
        have hal := ho3.alloc (.cells #[.int .i64 0, .int .i64 0, .int .i64 0, .int .i64 0, .int .i64 0] 39)
        obtain ⟨fn, tmps, assign, body, hy, hR⟩ := HY.out (goods li) (zeroI, e) _ (HJ.out _ _ _ HJR.out hal) (by rw [goods_len]; omega)
        unfold zeroI at hy
        try dsimp only at hy
        have HR3 := Lib.hid hR
        clear hal ho3 hR C1
        gi_wp2
        refine HR3.out.mono ?_
        rintro e9 W3 (⟨rfl, hJ3, hk3⟩ | ⟨rfl, hJx3⟩)
        · have HJ3 := Lib.hid hJ3
          clear hJ3 hk3 hy
          gi_wp2
          refine bodyPost_ret (results_none rfl _ _ _) rfl ?_
          exact ⟨⟨_, rfl⟩, .inl ⟨_, HF.out, HJ3.out⟩⟩
        · have HJ3 := Lib.hid hJx3
          clear hJx3 hy
          gi_wp2
          refine bodyPost_ret (results_none rfl _ _ _) rfl ?_
          exact ⟨⟨_, rfl⟩, .inr ⟨_, HC.out, HJ3.out⟩⟩
      · have HC : Hid (SeqCut zs (goods li ++ [(k, 0)])) := Lib.hid ⟨li, p, _, rfl, HR.out, hp, hd⟩
        obtain ⟨hf1, hf2, hf3, hf4, hf5⟩ := dec_fits hp hd
        have HR2 := Lib.hid (HR.out.snoc hp hd)
        rw [hd] at c1
        obtain ⟨n', hn'⟩ : ∃ n' : Nat, k.size.toNat = n' := ⟨_, rfl⟩
        rw [hn'] at hf1 hf2 hf3 hf4 HR2
        unfold valI at c1
        have HSZ := Lib.hid hf4
        have C1 := Lib.hid c1
        have HF3 := Lib.hid hf3
        have HF1 := Lib.hid hf1
        clear c1 hd hn' hf4 hf5 hf3
        gi_wp2_with (fail)
        refine ⟨trivial, (callsIn_wide.2 C1.out).mono ?_⟩
        rintro e' w3 ⟨rfl, ho3⟩
        have hal := ho3.alloc (.cells #[.int .i64 k.at_, .int .i64 k.op, .int .i64 k.a, .int .i64 k.b, .int .i64 k.size] 39)
        have hnew := cell_blk (heap_alloc_new w3 (.cells #[.int .i64 k.at_, .int .i64 k.op, .int .i64 k.a, .int .i64 k.b, .int .i64 k.size] 39)) 4
        have hfr := HSR.out.inv.fresh hal ho3.size (by have := HSR.out.size; have := HLB.out; omega)
        have hs1 := HSR.out.only HLB.out hal
        obtain ⟨fn, tmps, assign, body, hy, hR⟩ := HY.out (goods li) (k, 0) _ (HJ.out _ _ _ HJR.out hal) (by rw [goods_len]; omega)
        try dsimp only at hy
        have HR3 := Lib.hid hR
        have HNEW := Lib.hid hnew
        have HFR := Lib.hid hfr
        have HS1 := Lib.hid hs1
        clear hal ho3 hR C1 hnew hfr hs1
        gi_wp2
        refine HR3.out.mono ?_
        rintro e9 W3 (⟨rfl, hJ3, hk3⟩ | ⟨rfl, hJx3⟩)
        · have hk4 := hk3 HS1.out.inv
          have hc3 := hk4.cell _ _ HNEW.out HFR.out
          rw [show k.size = (n' : Int) from HSZ.out.symm] at hc3
          have HJ3 := Lib.hid hJ3
          have HS3 := Lib.hid (HS1.out.step HLB.out hk4)
          clear hJ3 hk3 hy hk4
          gi_wp2
          go_roundw
          case rel => exact ⟨li ++ [k], p + n', by go_num, HR2, HS3, Lib.hid (by rw [← goods_snoc]; exact HJ3.out)⟩
          case measure => have := HF3.out; have := HF1.out; simp [intOf]; omega
        · have HJ3 := Lib.hid hJx3
          clear hJx3 hy
          gi_wp2
          refine bodyPost_ret (results_none rfl _ _ _) rfl ?_
          exact ⟨⟨_, rfl⟩, .inr ⟨_, HC.out, HJ3.out⟩⟩
    · have hpz : ¬ (p : Int) < (zs.length : Int) := by omega
      have HF : Hid (SeqFin zs (goods li)) := Lib.hid (.inl ⟨li, rfl, by have := HR.out; rwa [show p = zs.length by omega] at this⟩)
      gi_wp2
      go_end0
      exact ⟨⟨_, rfl⟩, .inl ⟨_, HF.out, HJR.out⟩⟩
/-- 'instructions(code)': the code in a box of its own; the iterator. -/
theorem instrs_in (ao : Option Addr) (k cap : Nat) (w : World) : Calls Try.prog 21 #[.slice ao k cap] w fun e w' => e = .returned (.func (.func 28) #[] #[.pointer (some ⟨w.heap.size, 0, none⟩)]) ∧ w' = w.alloc (.cells #[.slice ao k cap] 22) := by
  go_enter Try.func21, Try.ntmps21
  go_wp2
  go_ret
  exact ⟨rfl, rfl⟩
end Go.Proofs.Ytngoajhnnlnphaa
