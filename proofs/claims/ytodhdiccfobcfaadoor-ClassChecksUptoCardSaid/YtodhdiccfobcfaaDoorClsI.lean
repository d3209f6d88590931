/- What takes up a refusal (refusalOf), and the program's Check of a class: what the document says. No condition but the form's own reach. -/
import Derived.Test.YtodhdiccfobcfaaDoorClsH
namespace Go.Proofs.YtodhdiccfobcfaaDoor
open Go.RowKit
set_option linter.unusedVariables false
set_option linter.unusedSimpArgs false

set_option maxHeartbeats 1000000 in
set_option maxRecDepth 100000 in
theorem catch_idle (p : Addr) (w : World) :
    CallsD Tryd.prog 20 #[.pointer (some p)] .returning w fun e u' w' => e = .returned (.tuple #[]) ∧ u' = .returning ∧ w' = w := by
  refine callsD_of_wpS Tryd.func20 rfl fun c₀ cs hu => ?_
  apply wpS_seq
  apply wpS_region
  simp [wpOpsS, go_sem, recoverD, hu, Tryd.ntmps20, Exit.thenS]
  refine wpS_of_wp ?_
  go_wp2
  cases c₀
  simp_all [bodyPostS, results, Tryd.results20]
theorem run_assert_errno (xT : TypeId) (z : Int) (w : World) : (Instr.typeAssert (.iface 27 (.int .i64 z)) xT 27 true).run Tryd.prog w = .ok (.tuple #[.int .i64 z, .bool true]) w := by
  simp [Instr.typeAssert, run_underlying Tryd.underlying27, go_sem, Result.andThen]
set_option maxHeartbeats 1000000 in
set_option maxRecDepth 100000 in
theorem catch_pan (p : Addr) (z : Int) (x : Value) (w : World) (hc : w.cell? p = some x) (hz : w.frozen? p = false) :
    CallsD Tryd.prog 20 #[.pointer (some p)] (.panicking [{ v := .iface 27 (.int .i64 z), recovered := false }]) w fun e u' w' =>
      e = .returned (.tuple #[]) ∧ u' = .panicking [{ v := .iface 27 (.int .i64 z), recovered := true }] ∧ w' = w.setCell p (.int .i64 z) := by
  refine callsD_of_wpS Tryd.func20 rfl fun c₀ cs hu => ?_
  apply wpS_seq
  apply wpS_region
  simp [wpOpsS, go_sem, recoverD, hu, Tryd.ntmps20, Exit.thenS]
  refine wpS_of_wp ?_
  have hta := fun xT w => run_assert_errno xT z w
  go_wp2
  cases c₀
  simp_all [bodyPostS, results, Tryd.results20]
/-- What goes on, or is refused by z. -/
def Ends (z : Int) (e : Ending) : Prop := (z = 0 ∧ e = .returned (.tuple #[])) ∨ (z ≠ 0 ∧ e = pan z)
set_option maxHeartbeats 1000000 in
set_option maxRecDepth 100000 in
theorem refusal (n : FuncId) (hn : Enters Tryd.prog n) (first cap : Array Value) (w : World) (Q : Int → World → Prop)
    (h : Calls Tryd.prog n (first ++ cap) (w.alloc (.cells #[.int .i64 0] 27)) fun e w1 => ∃ z, Ends z e ∧ Q z w1)
    (hq : ∀ z w1, Q z w1 → w1.heap[w.heap.size]? = some (.cells #[.int .i64 0] 27 (0, 0))) :
    Calls Tryd.prog 11 #[.func (.func n) first cap] w fun e w' => ∃ z w1, e = .returned (.int .i64 z) ∧ Q z w1 ∧ w' = w1.setCell ⟨w.heap.size, 0, none⟩ (.int .i64 z) := by
  have hmf : ∀ (fn : Fn) (first cap : Array Value) (w : World), (Instr.makeFunc fn first cap).run Tryd.prog w = .ok (.func fn first cap) w := fun _ _ _ _ => rfl
  have hen : ∀ args w, (callFunc n args).run Tryd.prog w = .ok (.enter n args) w := hn
  have H := Lib.hid h
  have HQ := Lib.hid hq
  clear h hq
  go_enter_defers Tryd.func11, Tryd.ntmps11
  go_wp2_with (fail)
  refine H.out.mono ?_
  rintro e w1 ⟨z, ⟨rfl, rfl⟩ | ⟨hz, rfl⟩, hq⟩
  · have hb := HQ.out _ _ hq
    have q0 := cell_blk hb 0
    have f0 := frozen_blk hb 0
    simp at q0
    go_wp2
    refine leaves_cons (f := 20) (args := #[.pointer (some ⟨w.heap.size, 0, none⟩)]) (by simp) (by simp [go_sem]) ?_
    refine (catch_idle ⟨w.heap.size, 0, none⟩ _).mono ?_
    rintro e u' w'' ⟨rfl, rfl, rfl⟩
    show Leaves _ _ _ _ [] .returning _
    refine ⟨.int .i64 0, ?_, 0, w1, rfl, hq, rfl⟩
    simp [results, Tryd.results11, go_sem, q0, f0]
  · have hb := HQ.out _ _ hq
    have q0 := cell_blk hb 0
    have f0 := frozen_blk hb 0
    simp at q0
    show Leaves _ _ _ _ [_] (.panicking _) _
    refine leaves_cons (f := 20) (args := #[.pointer (some ⟨w.heap.size, 0, none⟩)]) (by simp) (by simp [go_sem]) ?_
    refine (catch_pan ⟨w.heap.size, 0, none⟩ z _ _ q0 f0).mono ?_
    rintro e u' w'' ⟨rfl, rfl, rfl⟩
    show Leaves _ _ _ _ [] .returning _
    refine ⟨.int .i64 z, ?_, z, w1, rfl, hq, rfl⟩
    simp [results, Tryd.results11, go_sem, q0, f0]

theorem Ends.of {Q : Prop} {z : Int} {w w' : World} {e : Ending} (h : GoIf Q z w e w') (hz : z ≠ 0) : Ends (open Classical in if Q then 0 else z) e := by
  rcases h.1 with ⟨hq, rfl⟩ | ⟨hq, rfl⟩
  · rw [if_pos hq]; exact .inl ⟨rfl, rfl⟩
  · rw [if_neg hq]; exact .inr ⟨hz, rfl⟩
/-- The counts. -/
def LessP (c : ClassV) : Prop := (c.fields.length : Int) ≤ 64 ∧ (c.methods.length : Int) ≤ 64 ∧ ∀ m ∈ c.methods, m.traps.length ≤ 64
theorem LessP.iff (c : ClassV) : LessP c ↔ ¬ LongP c := by
  unfold LessP LongP
  constructor
  · rintro ⟨h1, h2, h3⟩ (h | h | ⟨m, hm, h⟩)
    · omega
    · omega
    · have := h3 m hm; omega
  · intro h
    refine ⟨?_, ?_, fun m hm => ?_⟩
    · apply Classical.byContradiction; intro h'; exact h (.inl (by omega))
    · apply Classical.byContradiction; intro h'; exact h (.inr (.inl (by omega)))
    · apply Classical.byContradiction; intro h'; exact h (.inr (.inr ⟨m, hm, by omega⟩))
set_option maxHeartbeats 4000000 in
set_option maxRecDepth 100000 in
theorem checkCountsP (vp vf vm : Value) (c : ClassV) (w : World) (hc : ClassM w vp vf vm c) :
    Calls Tryd.prog 23 #[.agg #[vp, .int .i64 c.this, .int .i64 c.super, vf, vm]] w (GoIf (LessP c) 2 w) := by
  obtain ⟨pool, this, super, fields, methods⟩ := c
  have hbx := heap_alloc_new w (.cells #[vp, .int .i64 this, .int .i64 super, vf, vm] 26)
  have HON := Lib.hid ((Only.refl (fun _ => False) w).alloc (.cells #[vp, .int .i64 this, .int .i64 super, vf, vm] 26))
  obtain ⟨hp, hf, hm, r1, r2⟩ := id hc
  simp only at *
  obtain ⟨af, cf, rfl, hf1, hf2⟩ := hf.1.slice
  obtain ⟨fm, hm1, hm2, hm3⟩ := id hm
  obtain ⟨am, cm, rfl, hm4, hm5⟩ := hm1.slice
  obtain ⟨ap, cp, rfl, _, _, _, _, _⟩ := id hp
  have HBX := Lib.hid hbx
  have HM1 := Lib.hid hm1
  have HM2 := Lib.hid hm2
  clear hc hp hf hm hbx hm1 hm2 hm3
  have HC := Lib.hid checkCountP
  go_enter Tryd.func23, Tryd.ntmps23
  go_wp2_with (fail)
  refine (checkCountP _ _).mono ?_
  rintro e w1 ⟨⟨g1, rfl⟩ | ⟨g1, rfl⟩, ho1⟩
  rotate_left
  · exact ⟨rfl, GoIf.no (fun h => g1 h.1) (HON.out.trans ho1 (fun _ h => h.elim))⟩
  have hb1 := ho1.heap HBX.out (fun h => h)
  have q4 := cell_blk hb1 4
  simp at q4
  have HON1 := Lib.hid (HON.out.trans ho1 (fun _ h => h.elim))
  have HB1 := Lib.hid hb1
  have G1 := Lib.hid g1
  clear ho1 hb1 g1
  go_wp2_with (fail)
  refine (checkCountP _ _).mono ?_
  rintro e w2 ⟨⟨g2, rfl⟩ | ⟨g2, rfl⟩, ho2⟩
  rotate_left
  · exact ⟨rfl, GoIf.no (fun h => g2 h.2.1) (HON1.out.trans ho2 (fun _ h => h.elim))⟩
  have hb2 := ho2.heap HB1.out (fun h => h)
  have q42 := cell_blk hb2 4
  simp at q42
  have HON2 := Lib.hid (HON1.out.trans ho2 (fun _ h => h.elim))
  have G2 := Lib.hid g2
  clear ho2 hb2 g2 HB1 HBX q4
  go_wp2
  go_loopw [15] (fun i wr => ∃ j : Nat, j ≤ methods.length ∧ i = .int .i64 j ∧ (∀ m ∈ methods.take j, m.traps.length ≤ 64) ∧ Only (fun _ => False) w2 wr) (fun i _ => methods.length - (intOf i).toNat)
  case atStart => exact ⟨0, Nat.zero_le _, rfl, (fun m hm => by simp at hm), Only.refl _ _⟩
  case round =>
    obtain ⟨j, hj, rfl, hall, hwr⟩ := hrel
    have HALL := Lib.hid hall
    have HWR := Lib.hid hwr
    have hon := HON2.out.trans hwr (fun _ h => h.elim)
    clear hall hwr
    by_cases hlt : j < methods.length
    · have hjz : (j : Int) < (methods.length : Int) := by omega
      obtain ⟨b, o, e2, hat⟩ := HM1.out.at hlt
      subst e2
      obtain ⟨k0, k1, k2, k3, k4, k5, k6, k7⟩ := hat.only hon
      have hin := HM2.out j hlt
      have HMEM := Lib.hid (getD_mem hlt)
      have HTK := Lib.hid (take_snoc hlt)
      obtain ⟨m, hm⟩ : ∃ m, methods.getD j default = m := ⟨_, rfl⟩
      rw [hm] at hin HMEM HTK k0 k1 k2 k3 k4
      obtain ⟨at_, ct, e3, hs1, hs2⟩ := hin.2.1.1.slice
      rw [e3] at k6
      have HON := Lib.hid hon
      obtain ⟨ac, cc, e5, _⟩ := hin.1
      obtain ⟨ax, cx, e7, _⟩ := hin.2.2
      rw [e5] at k5
      rw [e7] at k7
      clear hat hin e3 e5 e7 hm hon
      go_wp2_with (fail)
      refine (checkCountP _ _).mono ?_
      rintro e w3 ⟨⟨g3, rfl⟩ | ⟨g3, rfl⟩, ho3⟩
      rotate_left
      · exact ⟨rfl, GoIf.no (fun h => g3 (by have := h.2.2 m HMEM.out; omega)) ((HON.out.alloc _).trans ho3 (fun _ h => h.elim))⟩
      have G3 := Lib.hid g3
      have HO3 := Lib.hid ((HWR.out.alloc _).trans ho3 (fun _ h => h.elim))
      clear g3 ho3
      go_wp2
      go_roundw
      case rel => exact ⟨j + 1, by omega, by go_num, (fun x hx => by
        rw [HTK.out] at hx
        rcases List.mem_append.1 hx with hx | hx
        · exact HALL.out x hx
        · simp only [List.mem_cons, List.mem_nil_iff, or_false] at hx; subst hx; have := G3.out; omega), HO3.out⟩
      case measure => simp [intOf]; omega
    · have hjn : j = methods.length := by omega
      have hjz : (methods.length : Int) ≤ (j : Int) := by omega
      have HL := Lib.hid (show LessP ⟨pool, this, super, fields, methods⟩ from ⟨G1.out, G2.out, fun m hm => HALL.out m (by rw [hjn, List.take_of_length_le (Nat.le_refl _)]; exact hm)⟩)
      have HON := Lib.hid hon
      clear hlt hjn HALL hon
      go_wp2
      go_end0
      exact GoIf.yes HL.out HON.out
end Go.Proofs.YtodhdiccfobcfaaDoor
