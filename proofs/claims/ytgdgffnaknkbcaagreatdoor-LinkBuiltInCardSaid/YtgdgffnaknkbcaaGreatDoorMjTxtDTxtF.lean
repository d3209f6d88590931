import Derived.Test.YtgdgffnaknkbcaaGreatDoorMjTxtATxtC
import Derived.Handy
namespace Go.Proofs.YtgdgffnaknkbcaaGreatDoor
open Go.RowKit Go.Shelf
set_option linter.unusedVariables false
set_option linter.unusedSimpArgs false
def EncSt (w0 : World) (cb it : Nat) (us : List Int) (w : World) : Prop :=
  ∃ v, w.heap[cb]? = some (.cells #[v] 67 (0, 0)) ∧ Row w w0.heap.size v (UN us) ∧ v.ownBlock ≠ some it ∧ Only (fun k => k = cb) w0 w ∧ w0.heap.size ≤ it ∧ cb < w0.heap.size
theorem EncSt.keep {w0 : World} {cb : Nat} (it : Nat) (us : List Int) (w1 w2 : World) (h : EncSt w0 cb it us w1) (ho : Only (fun k => k = it) w1 w2) : EncSt w0 cb it us w2 := by
  obtain ⟨v, hb, hr, hne, hon, hit, hcb⟩ := h
  refine ⟨v, ho.heap hb (by omega), hr.only ho (fun k hk e => hne (by rw [hk, e])), hne, hon.trans ho (fun k hk hl => by omega), hit, hcb⟩
theorem EncSt.start {w0 : World} {cb : Nat} (hcb : w0.heap[cb]? = some (.cells #[.slice none 0 0] 67 (0, 0))) (it : Nat) (w' : World) (hit : w0.heap.size ≤ it) (ho : Only (fun _ => False) w0 w') : EncSt w0 cb it [] w' :=
  ⟨.slice none 0 0, ho.heap hcb (fun h => h), World.ownsRow_nil _ _ _ _, by simp [Value.ownBlock], ho.mono (fun _ h _ => h.elim), hit, heap_lt hcb⟩
def EncTo (w : World) (s : ByteArray) (v : Value) (ys : List Int) (k : Int) (w' : World) : Prop :=
  Enc (nums s) ys k ∧ Row w' w.heap.size v ys ∧ Only (fun _ => False) w w'
def LenSt (w0 : World) (cb it : Nat) (us : List Int) (w : World) : Prop :=
  w.heap[cb]? = some (.cells #[.int .i64 (UN us).length] 3 (0, 0)) ∧ Only (fun k => k = cb) w0 w ∧ w0.heap.size ≤ it ∧ cb < w0.heap.size
theorem LenSt.keep {w0 : World} {cb : Nat} (it : Nat) (us : List Int) (w1 w2 : World) (h : LenSt w0 cb it us w1) (ho : Only (fun k => k = it) w1 w2) : LenSt w0 cb it us w2 := by
  obtain ⟨hb, hon, hit, hcb⟩ := h
  exact ⟨ho.heap hb (by omega), hon.trans ho (fun k hk hl => by omega), hit, hcb⟩
theorem LenSt.start {w0 : World} {cb : Nat} (hcb : w0.heap[cb]? = some (.cells #[.int .i64 0] 3 (0, 0))) (it : Nat) (w' : World) (hit : w0.heap.size ≤ it) (ho : Only (fun _ => False) w0 w') : LenSt w0 cb it [] w' :=
  ⟨ho.heap hcb (fun h => h), ho.mono (fun _ h _ => h.elim), hit, heap_lt hcb⟩
theorem sizeU_len {u : Int} (h0 : 0 ≤ u) (h1 : u ≤ 65535) : sizeU u = ((unitZ u).length : Int) := by
  unfold sizeU
  by_cases c1 : 1 ≤ u ∧ u ≤ 127
  · rw [if_pos (by omega), unitZ_one c1.1 c1.2]; rfl
  by_cases c2 : u ≤ 2047
  · rw [if_neg (by omega), if_neg (by omega), unitZ_two (by omega) c2]; rfl
  · rw [if_neg (by omega), if_pos (by omega), unitZ_three (by omega)]; rfl
set_option maxHeartbeats 1000000 in
theorem lenTell (w0 : World) (cb it : Nat) (us : List Int) (u : Int) (w1 : World) (hlt : it < w1.heap.size) (h : LenSt w0 cb it us w1) (h0 : 0 ≤ u) (h1 : u ≤ 65535) (hlen : (UN us).length + (unitZ u).length ≤ 1152921504606846976) :
    Calls Tryz.prog 180 #[.int .i32 u, .int .i64 (sizeU u), .pointer (some ⟨cb, 0, none⟩)] w1 fun e w2 => e = .returned (.tuple #[]) ∧ LenSt w0 cb it (us ++ [u]) w2 ∧ w1.heap.size ≤ w2.heap.size ∧ w2.heap[it]? = w1.heap[it]? := by
  obtain ⟨hb, hon, hit, hcb⟩ := h
  have hc0 := cell_blk hb 0
  have hff := frozen_blk hb 0
  simp at hc0
  have hset : Only (fun k => k = cb) w1 (w1.setCell ⟨cb, 0, none⟩ (.int .i64 (((UN us).length : Int) + (unitZ u).length))) := Only.setCell (S := fun k => k = cb) (Only.refl _ _) (fun _ => rfl) _
  have hone : (1 : Int) ≤ ((unitZ u).length : Int) := by rw [← sizeU_len h0 h1]; unfold sizeU; repeat' split <;> omega
  rw [sizeU_len h0 h1]
  have hw : IntKind.i64.wrap (((UN us).length : Int) + (unitZ u).length) = ((UN us).length : Int) + (unitZ u).length := IntWalk.i64_in _ (by omega)
  go_enter Tryz.func180, Tryz.ntmps180
  go_wp2
  first | go_ret | go_end0
  refine ⟨rfl, ⟨by rw [heap_setCell_at hb, UN_append, UN_one, List.length_append]; simp, hon.trans hset (fun k hk _ => hk), hit, hcb⟩, hset.size, ?_⟩
  exact hset.block it hlt (by omega)
set_option maxHeartbeats 1000000 in
theorem lenOf (s : ByteArray) (w : World) (hs : s.size ≤ 140737488355328) (hT : Tabs w) (h1w : 1 < w.heap.size) :
    Calls Tryz.prog 169 #[.string s] w fun e w' => ∃ ys k, e = .returned (.int .i64 ys.length) ∧ Enc (nums s) ys k ∧ Only (fun _ => False) w w' := by
  have hmf : ∀ (fn : Fn) (first cap : Array Value) (w : World), (Instr.makeFunc fn first cap).run Tryz.prog w = .ok (.func fn first cap) w := fun _ _ _ _ => rfl
  have hen : Enters Tryz.prog 180 := enters_of Tryz.func180 (by kernel_rfl) rfl
  have ho0 : Only (fun _ => False) w (w.alloc (.cells #[.int .i64 0] 3)) := (Only.refl _ _).alloc _
  have hT0 := hT.only ho0 (fun h => h) (fun h => h)
  have hcb := heap_alloc_new w (.cells #[.int .i64 0] 3)
  have cE := eachUnit 180 w.heap.size hen (LenSt (w.alloc (.cells #[.int .i64 0] 3)) w.heap.size) 1152921504606846976 s (w.alloc (.cells #[.int .i64 0] 3)) (by omega) hT0
    (LenSt.start hcb) LenSt.keep (lenTell _ _) (fun cs hcs => by have := (M8s_len hcs.1).2; rw [← hcs.2, nums_len] at this; omega)
  go_enter Tryz.func169, Tryz.ntmps169
  go_wp2_with (fail)
  refine cE.mono ?_
  rintro e w1 (⟨cs, it, ht, rfl, hge, hb, hon, hit, hlt⟩ | ⟨hn, rfl, hon⟩)
  · have hc := cell_blk hb 0
    simp at hc
    clear cE
    go_wp2
    go_ret
    rw [UN_Us]
    have hon2 : Only (fun _ => False) w w1 := ho0.trans hon (fun k hk hl => by subst hk; exact Nat.lt_irrefl _ hl)
    exact ⟨M8s cs, 0, rfl, .inl ⟨cs, ht, rfl, rfl⟩, hon2⟩
  · clear cE
    go_wp2
    go_ret
    exact ⟨[], 20, rfl, .inr ⟨hn, rfl, rfl⟩, ho0.trans hon (fun _ h => h.elim)⟩
end Go.Proofs.YtgdgffnaknkbcaaGreatDoor
namespace Go.Proofs.YtgdgffnaknkbcaaGreatDoor
open Go.RowKit Go.Shelf
set_option linter.unusedVariables false
set_option linter.unusedSimpArgs false
def PointTo (zs : List Int) (c : Int) (n : Nat) : Prop := (Sc c ∧ n = (enc8 c).length ∧ ∃ r, zs = enc8 c ++ r) ∨ ((∀ c r, Sc c → zs ≠ enc8 c ++ r) ∧ c = 0 ∧ n = 0)
end Go.Proofs.YtgdgffnaknkbcaaGreatDoor
namespace Go.Proofs.YtgdgffnaknkbcaaGreatDoor
open Go.RowKit Go.Shelf
set_option linter.unusedVariables false
set_option linter.unusedSimpArgs false
theorem Enc.code {zs ys : List Int} {k : Int} (h : Enc zs ys k) : k = 0 ∨ k = 20 := by
  rcases h with ⟨cs, ht, rfl, h⟩ | ⟨_, rfl, h⟩
  · exact .inl h
  · exact .inr h
end Go.Proofs.YtgdgffnaknkbcaaGreatDoor
