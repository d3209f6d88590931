/- The document's own plain form of an instruction. No condition but that its numbers are integers of 64 bits. -/
import Derived.Test.YtcfnikngapngkaaOpsK
namespace Go.Proofs.Ytcfnikngapngkaa
open Go.RowKit
set_option linter.unusedVariables false
set_option linter.unusedSimpArgs false

/-- The boxed argument, the result, the plain form: three new blocks. -/
theorem box3 {w : World} {c d e : Array Value} {s t u : TypeId} : (((w.alloc (.cells c s)).alloc (.cells d t)).alloc (.cells e u)).heap[w.heap.size + 1]? = some (.cells d t (0, 0)) := by
  have h := (box2 (w := w) (c := c) (d := d) (s := s) (t := t)).2
  exact ((Only.refl (fun _ => False) _).alloc _).heap h (fun h => h)
set_option maxHeartbeats 16000000 in
set_option maxRecDepth 100000 in
theorem refPlain (i : InstrV) (w : World) (hi : InstrR i) : Calls Try.prog 20 #[valI i] w fun e w' => e = .returned (valI (plainZ i)) ∧ Only (fun _ => False) w w' := by
  obtain ⟨at_, op, a, b, size⟩ := i
  obtain ⟨z, hz⟩ : ∃ z, z = plainZ ⟨at_, op, a, b, size⟩ := ⟨_, rfl⟩
  rw [← hz]
  clear hi
  have hcs : op ≤ 1 ∨ (2 ≤ op ∧ op ≤ 8) ∨ op = 9 ∨ op = 10 ∨ (11 ≤ op ∧ op ≤ 15) ∨ op = 16 ∨ (17 ≤ op ∧ op ≤ 25) ∨ (26 ≤ op ∧ op ≤ 29) ∨ (30 ≤ op ∧ op ≤ 33) ∨ (34 ≤ op ∧ op ≤ 41) ∨ (42 ≤ op ∧ op ≤ 45) ∨ (46 ≤ op ∧ op ≤ 58) ∨ (59 ≤ op ∧ op ≤ 62) ∨ (63 ≤ op ∧ op ≤ 66) ∨ (67 ≤ op ∧ op ≤ 74) ∨ (75 ≤ op ∧ op ≤ 78) ∨ 79 ≤ op := by omega
  unfold valI
  rcases hcs with h | ⟨h, h'⟩ | rfl | rfl | ⟨h, h'⟩ | rfl | ⟨h, h'⟩ | ⟨h, h'⟩ | ⟨h, h'⟩ | ⟨h, h'⟩ | ⟨h, h'⟩ | ⟨h, h'⟩ | ⟨h, h'⟩ | ⟨h, h'⟩ | ⟨h, h'⟩ | ⟨h, h'⟩ | h
  · have HZ : Hid (z = ⟨at_, op, a, b, size⟩) := by
      refine Lib.hid ?_
      rw [hz]; unfold plainZ; simp only; rw [if_neg (by omega), if_neg (by omega), if_neg (by omega), if_neg (by omega), if_neg (by omega), if_neg (by omega), if_neg (by omega), if_neg (by omega), if_neg (by omega)]
    have l2 : op < 2 := by omega
    have l26 : op < 26 := by omega
    have l30 : op < 30 := by omega
    have l42 : op < 42 := by omega
    have l59 : op < 59 := by omega
    have l63 : op < 63 := by omega
    have l75 : op < 75 := by omega
    have u8 : op ≤ 8 := by omega
    have u29 : op ≤ 29 := by omega
    have u33 : op ≤ 33 := by omega
    have u45 : op ≤ 45 := by omega
    have u62 : op ≤ 62 := by omega
    have u66 : op ≤ 66 := by omega
    have u78 : op ≤ 78 := by omega
    have e16 : (op == 16) = false := by rw [beq_eq_false_iff_ne]; omega
    have e10 : (op == 10) = false := by rw [beq_eq_false_iff_ne]; omega
    clear h
    clear hz
    go_enter Try.func20, Try.ntmps20
    go_wp2
    exact bodyPost_ret (instr_alone (i := ⟨at_, op, a, b, size⟩) (b := w.heap.size + 1) Try.results20 box3 rfl) rfl ⟨by rw [HZ.out]; rfl, (((Only.refl _ w).alloc _).alloc _).alloc _⟩
  · have HZ : Hid (z = ⟨at_, 17, op - 3, 0, size⟩) := by
      refine Lib.hid ?_
      rw [hz]; unfold plainZ; simp only; rw [if_pos (by omega)]
    have l2 : 2 ≤ op := by omega
    have l26 : op < 26 := by omega
    have l30 : op < 30 := by omega
    have l42 : op < 42 := by omega
    have l59 : op < 59 := by omega
    have l63 : op < 63 := by omega
    have l75 : op < 75 := by omega
    have u8 : op ≤ 8 := by omega
    have u29 : op ≤ 29 := by omega
    have u33 : op ≤ 33 := by omega
    have u45 : op ≤ 45 := by omega
    have u62 : op ≤ 62 := by omega
    have u66 : op ≤ 66 := by omega
    have u78 : op ≤ 78 := by omega
    have e16 : (op == 16) = false := by rw [beq_eq_false_iff_ne]; omega
    have e10 : (op == 10) = false := by rw [beq_eq_false_iff_ne]; omega
    clear h h'
    clear hz
    go_enter Try.func20, Try.ntmps20
    go_wp2
    exact bodyPost_ret (instr_alone (i := ⟨at_, 17, op - 3, 0, size⟩) (b := w.heap.size + 1) Try.results20 box3 rfl) rfl ⟨by rw [HZ.out]; rfl, (((Only.refl _ w).alloc _).alloc _).alloc _⟩
  · have HZ : Hid (z = ⟨at_, 9, a, b, size⟩) := by
      refine Lib.hid ?_
      rw [hz]; rfl
    clear hz
    go_enter Try.func20, Try.ntmps20
    go_wp2
    exact bodyPost_ret (instr_alone (i := ⟨at_, 9, a, b, size⟩) (b := w.heap.size + 1) Try.results20 box3 rfl) rfl ⟨by rw [HZ.out]; rfl, (((Only.refl _ w).alloc _).alloc _).alloc _⟩
  · have HZ : Hid (z = ⟨at_, 9, 1, 0, size⟩) := by
      refine Lib.hid ?_
      rw [hz]; rfl
    clear hz
    go_enter Try.func20, Try.ntmps20
    go_wp2
    exact bodyPost_ret (instr_alone (i := ⟨at_, 9, 1, 0, size⟩) (b := w.heap.size + 1) Try.results20 box3 rfl) rfl ⟨by rw [HZ.out]; rfl, (((Only.refl _ w).alloc _).alloc _).alloc _⟩
  · have HZ : Hid (z = ⟨at_, op, a, b, size⟩) := by
      refine Lib.hid ?_
      rw [hz]; unfold plainZ; simp only; rw [if_neg (by omega), if_neg (by omega), if_neg (by omega), if_neg (by omega), if_neg (by omega), if_neg (by omega), if_neg (by omega), if_neg (by omega), if_neg (by omega)]
    have l2 : 2 ≤ op := by omega
    have l26 : op < 26 := by omega
    have l30 : op < 30 := by omega
    have l42 : op < 42 := by omega
    have l59 : op < 59 := by omega
    have l63 : op < 63 := by omega
    have l75 : op < 75 := by omega
    have u8 : 8 < op := by omega
    have u29 : op ≤ 29 := by omega
    have u33 : op ≤ 33 := by omega
    have u45 : op ≤ 45 := by omega
    have u62 : op ≤ 62 := by omega
    have u66 : op ≤ 66 := by omega
    have u78 : op ≤ 78 := by omega
    have e16 : (op == 16) = false := by rw [beq_eq_false_iff_ne]; omega
    have e10 : (op == 10) = false := by rw [beq_eq_false_iff_ne]; omega
    clear h h'
    clear hz
    go_enter Try.func20, Try.ntmps20
    go_wp2
    exact bodyPost_ret (instr_alone (i := ⟨at_, op, a, b, size⟩) (b := w.heap.size + 1) Try.results20 box3 rfl) rfl ⟨by rw [HZ.out]; rfl, (((Only.refl _ w).alloc _).alloc _).alloc _⟩
  · have HZ : Hid (z = ⟨at_, 17, a, 0, size⟩) := by
      refine Lib.hid ?_
      rw [hz]; rfl
    clear hz
    go_enter Try.func20, Try.ntmps20
    go_wp2
    exact bodyPost_ret (instr_alone (i := ⟨at_, 17, a, 0, size⟩) (b := w.heap.size + 1) Try.results20 box3 rfl) rfl ⟨by rw [HZ.out]; rfl, (((Only.refl _ w).alloc _).alloc _).alloc _⟩
  · have HZ : Hid (z = ⟨at_, op, a, b, size⟩) := by
      refine Lib.hid ?_
      rw [hz]; unfold plainZ; simp only; rw [if_neg (by omega), if_neg (by omega), if_neg (by omega), if_neg (by omega), if_neg (by omega), if_neg (by omega), if_neg (by omega), if_neg (by omega), if_neg (by omega)]
    have l2 : 2 ≤ op := by omega
    have l26 : op < 26 := by omega
    have l30 : op < 30 := by omega
    have l42 : op < 42 := by omega
    have l59 : op < 59 := by omega
    have l63 : op < 63 := by omega
    have l75 : op < 75 := by omega
    have u8 : 8 < op := by omega
    have u29 : op ≤ 29 := by omega
    have u33 : op ≤ 33 := by omega
    have u45 : op ≤ 45 := by omega
    have u62 : op ≤ 62 := by omega
    have u66 : op ≤ 66 := by omega
    have u78 : op ≤ 78 := by omega
    have e16 : (op == 16) = false := by rw [beq_eq_false_iff_ne]; omega
    have e10 : (op == 10) = false := by rw [beq_eq_false_iff_ne]; omega
    clear h h'
    clear hz
    go_enter Try.func20, Try.ntmps20
    go_wp2
    exact bodyPost_ret (instr_alone (i := ⟨at_, op, a, b, size⟩) (b := w.heap.size + 1) Try.results20 box3 rfl) rfl ⟨by rw [HZ.out]; rfl, (((Only.refl _ w).alloc _).alloc _).alloc _⟩
  · have HZ : Hid (z = ⟨at_, 21, op - 26, 0, size⟩) := by
      refine Lib.hid ?_
      rw [hz]; unfold plainZ; simp only; rw [if_neg (by omega), if_neg (by omega), if_neg (by omega), if_pos (by omega)]
    have l2 : 2 ≤ op := by omega
    have l26 : 26 ≤ op := by omega
    have l30 : op < 30 := by omega
    have l42 : op < 42 := by omega
    have l59 : op < 59 := by omega
    have l63 : op < 63 := by omega
    have l75 : op < 75 := by omega
    have u8 : 8 < op := by omega
    have u29 : op ≤ 29 := by omega
    have u33 : op ≤ 33 := by omega
    have u45 : op ≤ 45 := by omega
    have u62 : op ≤ 62 := by omega
    have u66 : op ≤ 66 := by omega
    have u78 : op ≤ 78 := by omega
    have e16 : (op == 16) = false := by rw [beq_eq_false_iff_ne]; omega
    have e10 : (op == 10) = false := by rw [beq_eq_false_iff_ne]; omega
    clear h h'
    clear hz
    go_enter Try.func20, Try.ntmps20
    go_wp2
    exact bodyPost_ret (instr_alone (i := ⟨at_, 21, op - 26, 0, size⟩) (b := w.heap.size + 1) Try.results20 box3 rfl) rfl ⟨by rw [HZ.out]; rfl, (((Only.refl _ w).alloc _).alloc _).alloc _⟩
  · have HZ : Hid (z = ⟨at_, 22, op - 30, 0, size⟩) := by
      refine Lib.hid ?_
      rw [hz]; unfold plainZ; simp only; rw [if_neg (by omega), if_neg (by omega), if_neg (by omega), if_neg (by omega), if_pos (by omega)]
    have l2 : 2 ≤ op := by omega
    have l26 : 26 ≤ op := by omega
    have l30 : 30 ≤ op := by omega
    have l42 : op < 42 := by omega
    have l59 : op < 59 := by omega
    have l63 : op < 63 := by omega
    have l75 : op < 75 := by omega
    have u8 : 8 < op := by omega
    have u29 : 29 < op := by omega
    have u33 : op ≤ 33 := by omega
    have u45 : op ≤ 45 := by omega
    have u62 : op ≤ 62 := by omega
    have u66 : op ≤ 66 := by omega
    have u78 : op ≤ 78 := by omega
    have e16 : (op == 16) = false := by rw [beq_eq_false_iff_ne]; omega
    have e10 : (op == 10) = false := by rw [beq_eq_false_iff_ne]; omega
    clear h h'
    clear hz
    go_enter Try.func20, Try.ntmps20
    go_wp2
    exact bodyPost_ret (instr_alone (i := ⟨at_, 22, op - 30, 0, size⟩) (b := w.heap.size + 1) Try.results20 box3 rfl) rfl ⟨by rw [HZ.out]; rfl, (((Only.refl _ w).alloc _).alloc _).alloc _⟩
  · have HZ : Hid (z = ⟨at_, op, a, b, size⟩) := by
      refine Lib.hid ?_
      rw [hz]; unfold plainZ; simp only; rw [if_neg (by omega), if_neg (by omega), if_neg (by omega), if_neg (by omega), if_neg (by omega), if_neg (by omega), if_neg (by omega), if_neg (by omega), if_neg (by omega)]
    have l2 : 2 ≤ op := by omega
    have l26 : 26 ≤ op := by omega
    have l30 : 30 ≤ op := by omega
    have l42 : op < 42 := by omega
    have l59 : op < 59 := by omega
    have l63 : op < 63 := by omega
    have l75 : op < 75 := by omega
    have u8 : 8 < op := by omega
    have u29 : 29 < op := by omega
    have u33 : 33 < op := by omega
    have u45 : op ≤ 45 := by omega
    have u62 : op ≤ 62 := by omega
    have u66 : op ≤ 66 := by omega
    have u78 : op ≤ 78 := by omega
    have e16 : (op == 16) = false := by rw [beq_eq_false_iff_ne]; omega
    have e10 : (op == 10) = false := by rw [beq_eq_false_iff_ne]; omega
    clear h h'
    clear hz
    go_enter Try.func20, Try.ntmps20
    go_wp2
    exact bodyPost_ret (instr_alone (i := ⟨at_, op, a, b, size⟩) (b := w.heap.size + 1) Try.results20 box3 rfl) rfl ⟨by rw [HZ.out]; rfl, (((Only.refl _ w).alloc _).alloc _).alloc _⟩
  · have HZ : Hid (z = ⟨at_, 25, op - 42, 0, size⟩) := by
      refine Lib.hid ?_
      rw [hz]; unfold plainZ; simp only; rw [if_neg (by omega), if_neg (by omega), if_neg (by omega), if_neg (by omega), if_neg (by omega), if_pos (by omega)]
    have l2 : 2 ≤ op := by omega
    have l26 : 26 ≤ op := by omega
    have l30 : 30 ≤ op := by omega
    have l42 : 42 ≤ op := by omega
    have l59 : op < 59 := by omega
    have l63 : op < 63 := by omega
    have l75 : op < 75 := by omega
    have u8 : 8 < op := by omega
    have u29 : 29 < op := by omega
    have u33 : 33 < op := by omega
    have u45 : op ≤ 45 := by omega
    have u62 : op ≤ 62 := by omega
    have u66 : op ≤ 66 := by omega
    have u78 : op ≤ 78 := by omega
    have e16 : (op == 16) = false := by rw [beq_eq_false_iff_ne]; omega
    have e10 : (op == 10) = false := by rw [beq_eq_false_iff_ne]; omega
    clear h h'
    clear hz
    go_enter Try.func20, Try.ntmps20
    go_wp2
    exact bodyPost_ret (instr_alone (i := ⟨at_, 25, op - 42, 0, size⟩) (b := w.heap.size + 1) Try.results20 box3 rfl) rfl ⟨by rw [HZ.out]; rfl, (((Only.refl _ w).alloc _).alloc _).alloc _⟩
  · have HZ : Hid (z = ⟨at_, op, a, b, size⟩) := by
      refine Lib.hid ?_
      rw [hz]; unfold plainZ; simp only; rw [if_neg (by omega), if_neg (by omega), if_neg (by omega), if_neg (by omega), if_neg (by omega), if_neg (by omega), if_neg (by omega), if_neg (by omega), if_neg (by omega)]
    have l2 : 2 ≤ op := by omega
    have l26 : 26 ≤ op := by omega
    have l30 : 30 ≤ op := by omega
    have l42 : 42 ≤ op := by omega
    have l59 : op < 59 := by omega
    have l63 : op < 63 := by omega
    have l75 : op < 75 := by omega
    have u8 : 8 < op := by omega
    have u29 : 29 < op := by omega
    have u33 : 33 < op := by omega
    have u45 : 45 < op := by omega
    have u62 : op ≤ 62 := by omega
    have u66 : op ≤ 66 := by omega
    have u78 : op ≤ 78 := by omega
    have e16 : (op == 16) = false := by rw [beq_eq_false_iff_ne]; omega
    have e10 : (op == 10) = false := by rw [beq_eq_false_iff_ne]; omega
    clear h h'
    clear hz
    go_enter Try.func20, Try.ntmps20
    go_wp2
    exact bodyPost_ret (instr_alone (i := ⟨at_, op, a, b, size⟩) (b := w.heap.size + 1) Try.results20 box3 rfl) rfl ⟨by rw [HZ.out]; rfl, (((Only.refl _ w).alloc _).alloc _).alloc _⟩
  · have HZ : Hid (z = ⟨at_, 54, op - 59, 0, size⟩) := by
      refine Lib.hid ?_
      rw [hz]; unfold plainZ; simp only; rw [if_neg (by omega), if_neg (by omega), if_neg (by omega), if_neg (by omega), if_neg (by omega), if_neg (by omega), if_pos (by omega)]
    have l2 : 2 ≤ op := by omega
    have l26 : 26 ≤ op := by omega
    have l30 : 30 ≤ op := by omega
    have l42 : 42 ≤ op := by omega
    have l59 : 59 ≤ op := by omega
    have l63 : op < 63 := by omega
    have l75 : op < 75 := by omega
    have u8 : 8 < op := by omega
    have u29 : 29 < op := by omega
    have u33 : 33 < op := by omega
    have u45 : 45 < op := by omega
    have u62 : op ≤ 62 := by omega
    have u66 : op ≤ 66 := by omega
    have u78 : op ≤ 78 := by omega
    have e16 : (op == 16) = false := by rw [beq_eq_false_iff_ne]; omega
    have e10 : (op == 10) = false := by rw [beq_eq_false_iff_ne]; omega
    clear h h'
    clear hz
    go_enter Try.func20, Try.ntmps20
    go_wp2
    exact bodyPost_ret (instr_alone (i := ⟨at_, 54, op - 59, 0, size⟩) (b := w.heap.size + 1) Try.results20 box3 rfl) rfl ⟨by rw [HZ.out]; rfl, (((Only.refl _ w).alloc _).alloc _).alloc _⟩
  · have HZ : Hid (z = ⟨at_, 55, op - 63, 0, size⟩) := by
      refine Lib.hid ?_
      rw [hz]; unfold plainZ; simp only; rw [if_neg (by omega), if_neg (by omega), if_neg (by omega), if_neg (by omega), if_neg (by omega), if_neg (by omega), if_neg (by omega), if_pos (by omega)]
    have l2 : 2 ≤ op := by omega
    have l26 : 26 ≤ op := by omega
    have l30 : 30 ≤ op := by omega
    have l42 : 42 ≤ op := by omega
    have l59 : 59 ≤ op := by omega
    have l63 : 63 ≤ op := by omega
    have l75 : op < 75 := by omega
    have u8 : 8 < op := by omega
    have u29 : 29 < op := by omega
    have u33 : 33 < op := by omega
    have u45 : 45 < op := by omega
    have u62 : 62 < op := by omega
    have u66 : op ≤ 66 := by omega
    have u78 : op ≤ 78 := by omega
    have e16 : (op == 16) = false := by rw [beq_eq_false_iff_ne]; omega
    have e10 : (op == 10) = false := by rw [beq_eq_false_iff_ne]; omega
    clear h h'
    clear hz
    go_enter Try.func20, Try.ntmps20
    go_wp2
    exact bodyPost_ret (instr_alone (i := ⟨at_, 55, op - 63, 0, size⟩) (b := w.heap.size + 1) Try.results20 box3 rfl) rfl ⟨by rw [HZ.out]; rfl, (((Only.refl _ w).alloc _).alloc _).alloc _⟩
  · have HZ : Hid (z = ⟨at_, op, a, b, size⟩) := by
      refine Lib.hid ?_
      rw [hz]; unfold plainZ; simp only; rw [if_neg (by omega), if_neg (by omega), if_neg (by omega), if_neg (by omega), if_neg (by omega), if_neg (by omega), if_neg (by omega), if_neg (by omega), if_neg (by omega)]
    have l2 : 2 ≤ op := by omega
    have l26 : 26 ≤ op := by omega
    have l30 : 30 ≤ op := by omega
    have l42 : 42 ≤ op := by omega
    have l59 : 59 ≤ op := by omega
    have l63 : 63 ≤ op := by omega
    have l75 : op < 75 := by omega
    have u8 : 8 < op := by omega
    have u29 : 29 < op := by omega
    have u33 : 33 < op := by omega
    have u45 : 45 < op := by omega
    have u62 : 62 < op := by omega
    have u66 : 66 < op := by omega
    have u78 : op ≤ 78 := by omega
    have e16 : (op == 16) = false := by rw [beq_eq_false_iff_ne]; omega
    have e10 : (op == 10) = false := by rw [beq_eq_false_iff_ne]; omega
    clear h h'
    clear hz
    go_enter Try.func20, Try.ntmps20
    go_wp2
    exact bodyPost_ret (instr_alone (i := ⟨at_, op, a, b, size⟩) (b := w.heap.size + 1) Try.results20 box3 rfl) rfl ⟨by rw [HZ.out]; rfl, (((Only.refl _ w).alloc _).alloc _).alloc _⟩
  · have HZ : Hid (z = ⟨at_, 58, op - 75, 0, size⟩) := by
      refine Lib.hid ?_
      rw [hz]; unfold plainZ; simp only; rw [if_neg (by omega), if_neg (by omega), if_neg (by omega), if_neg (by omega), if_neg (by omega), if_neg (by omega), if_neg (by omega), if_neg (by omega), if_pos (by omega)]
    have l2 : 2 ≤ op := by omega
    have l26 : 26 ≤ op := by omega
    have l30 : 30 ≤ op := by omega
    have l42 : 42 ≤ op := by omega
    have l59 : 59 ≤ op := by omega
    have l63 : 63 ≤ op := by omega
    have l75 : 75 ≤ op := by omega
    have u8 : 8 < op := by omega
    have u29 : 29 < op := by omega
    have u33 : 33 < op := by omega
    have u45 : 45 < op := by omega
    have u62 : 62 < op := by omega
    have u66 : 66 < op := by omega
    have u78 : op ≤ 78 := by omega
    have e16 : (op == 16) = false := by rw [beq_eq_false_iff_ne]; omega
    have e10 : (op == 10) = false := by rw [beq_eq_false_iff_ne]; omega
    clear h h'
    clear hz
    go_enter Try.func20, Try.ntmps20
    go_wp2
    exact bodyPost_ret (instr_alone (i := ⟨at_, 58, op - 75, 0, size⟩) (b := w.heap.size + 1) Try.results20 box3 rfl) rfl ⟨by rw [HZ.out]; rfl, (((Only.refl _ w).alloc _).alloc _).alloc _⟩
  · have HZ : Hid (z = ⟨at_, op, a, b, size⟩) := by
      refine Lib.hid ?_
      rw [hz]; unfold plainZ; simp only; rw [if_neg (by omega), if_neg (by omega), if_neg (by omega), if_neg (by omega), if_neg (by omega), if_neg (by omega), if_neg (by omega), if_neg (by omega), if_neg (by omega)]
    have l2 : 2 ≤ op := by omega
    have l26 : 26 ≤ op := by omega
    have l30 : 30 ≤ op := by omega
    have l42 : 42 ≤ op := by omega
    have l59 : 59 ≤ op := by omega
    have l63 : 63 ≤ op := by omega
    have l75 : 75 ≤ op := by omega
    have u8 : 8 < op := by omega
    have u29 : 29 < op := by omega
    have u33 : 33 < op := by omega
    have u45 : 45 < op := by omega
    have u62 : 62 < op := by omega
    have u66 : 66 < op := by omega
    have u78 : 78 < op := by omega
    have e16 : (op == 16) = false := by rw [beq_eq_false_iff_ne]; omega
    have e10 : (op == 10) = false := by rw [beq_eq_false_iff_ne]; omega
    clear h
    clear hz
    go_enter Try.func20, Try.ntmps20
    go_wp2
    exact bodyPost_ret (instr_alone (i := ⟨at_, op, a, b, size⟩) (b := w.heap.size + 1) Try.results20 box3 rfl) rfl ⟨by rw [HZ.out]; rfl, (((Only.refl _ w).alloc _).alloc _).alloc _⟩
end Go.Proofs.Ytcfnikngapngkaa
