/- The document's own words for bytes: a unit at the head, a code point's bytes. No condition but the form's own reach. -/
import Derived.Test.YtpiandkiijienaaDoorTxtJ
namespace Go.Proofs.YtpiandkiijienaaDoor
open Go.RowKit Go.Shelf
set_option linter.unusedVariables false
set_option linter.unusedSimpArgs false

set_option maxHeartbeats 4000000 in
set_option maxRecDepth 100000 in
theorem take (v : Value) (zs : List Int) (w : World) (hb : Bytes w v zs) (hl : zs.length ≤ 140737488355328) (hlen : 0 < zs.length) :
    Calls Tryd.prog 72 #[v] w fun e w' => (∃ (u : Int) (n : Nat), e = .returned (.tuple #[.int .i64 u, .int .i64 n]) ∧ UnitTo zs u n) ∧ Drawn w w' := by
  obtain ⟨ao, cap, rfl, hq1, hq2, hq3, hbz, hcells⟩ := id hb
  obtain ⟨x, rfl⟩ : ∃ x, ao = some x := by cases ao with | none => have := hq3 rfl; omega | some x => exact ⟨x, rfl⟩
  obtain ⟨b, o, rfl⟩ : ∃ b o, x = ⟨b, o, none⟩ := ⟨_, _, plain_of_cell (hcells x rfl 0 hlen)⟩
  have Hb := Lib.hid hb
  have c0 := cellOf hb 0 hlen
  rw [Nat.add_zero] at c0
  obtain ⟨x0, hx0⟩ : ∃ x0, zs.getD 0 0 = x0 := ⟨_, rfl⟩
  have hx0r := hbz.getD hlen
  rw [hx0] at c0 hx0r
  have Hx0 := Lib.hid hx0
  have hlz : (0 : Int) < (zs.length : Int) := by omega
  clear hb hcells hq3 hx0
  by_cases c1 : 1 ≤ x0 ∧ x0 ≤ 127
  · obtain ⟨c1a, c1b⟩ := c1
    go_enter Tryd.func72, Tryd.ntmps72
    go_wp2
    all_goals first | go_ret2 | skip
    all_goals try simp only [Bool.not_eq_true', Bool.not_eq_false', decide_eq_true_eq, decide_eq_false_iff_not, beq_iff_eq] at *
    all_goals first | (exfalso; omega) | (refine ⟨⟨0, 0, rfl, .inr ⟨fun u r hu he => ?_, rfl, rfl⟩⟩, by first | exact ⟨0, rfl⟩ | exact ⟨_, rfl⟩⟩; have hf := unit_facts hu he; rw [Hx0.out] at hf; omega) | exact ⟨⟨_, 1, rfl, un1 (by omega) _ (by omega) (by omega) Hx0.out⟩, by first | exact ⟨0, rfl⟩ | exact ⟨_, rfl⟩⟩
  by_cases c2 : 192 ≤ x0 ∧ x0 ≤ 223
  · obtain ⟨c2a, c2b⟩ := c2
    by_cases l2 : zs.length < 2
    · have l2z : (zs.length : Int) < 2 := by omega
      go_enter Tryd.func72, Tryd.ntmps72
      go_wp2
      all_goals first | go_ret2 | skip
      all_goals try simp only [Bool.not_eq_true', Bool.not_eq_false', decide_eq_true_eq, decide_eq_false_iff_not, beq_iff_eq] at *
      all_goals first | (exfalso; omega) | (refine ⟨⟨0, 0, rfl, .inr ⟨fun u r hu he => ?_, rfl, rfl⟩⟩, by first | exact ⟨0, rfl⟩ | exact ⟨_, rfl⟩⟩; have hf := unit_facts hu he; rw [Hx0.out] at hf; omega)
    have l2z : (2 : Int) ≤ (zs.length : Int) := by omega
    have hx1r := hbz.getD (j := 1) (by omega)
    have d1 := cellOf Hb.out 1 (by omega)
    obtain ⟨x1, hx1⟩ : ∃ x1, zs.getD 1 0 = x1 := ⟨_, rfl⟩
    rw [hx1] at hx1r d1
    have Hx1 := Lib.hid hx1
    have i1z : ((1 : Nat) : Int) < (zs.length : Int) := by omega
    clear hx1
    go_enter Tryd.func72, Tryd.ntmps72
    go_wp2
    all_goals first | go_ret2 | skip
    all_goals try simp only [Bool.not_eq_true', Bool.not_eq_false', decide_eq_true_eq, decide_eq_false_iff_not, beq_iff_eq] at *
    all_goals first | (exfalso; omega) | (refine ⟨⟨0, 0, rfl, .inr ⟨fun u r hu he => ?_, rfl, rfl⟩⟩, by first | exact ⟨0, rfl⟩ | exact ⟨_, rfl⟩⟩; have hf := unit_facts hu he; rw [Hx0.out, Hx1.out] at hf; omega) | exact ⟨⟨_, 2, rfl, un2 (by omega) _ (by omega) (by omega) (by rw [Hx0.out]; omega) (by rw [Hx1.out]; omega)⟩, by first | exact ⟨0, rfl⟩ | exact ⟨_, rfl⟩⟩
  by_cases c3 : 224 ≤ x0 ∧ x0 ≤ 239
  · obtain ⟨c3a, c3b⟩ := c3
    by_cases l3 : zs.length < 3
    · have l3z : (zs.length : Int) < 3 := by omega
      go_enter Tryd.func72, Tryd.ntmps72
      go_wp2
      all_goals first | go_ret2 | skip
      all_goals try simp only [Bool.not_eq_true', Bool.not_eq_false', decide_eq_true_eq, decide_eq_false_iff_not, beq_iff_eq] at *
      all_goals first | (exfalso; omega) | (refine ⟨⟨0, 0, rfl, .inr ⟨fun u r hu he => ?_, rfl, rfl⟩⟩, by first | exact ⟨0, rfl⟩ | exact ⟨_, rfl⟩⟩; have hf := unit_facts hu he; rw [Hx0.out] at hf; omega)
    have l3z : (3 : Int) ≤ (zs.length : Int) := by omega
    have hx1r := hbz.getD (j := 1) (by omega)
    have d1 := cellOf Hb.out 1 (by omega)
    obtain ⟨x1, hx1⟩ : ∃ x1, zs.getD 1 0 = x1 := ⟨_, rfl⟩
    rw [hx1] at hx1r d1
    have Hx1 := Lib.hid hx1
    have i1z : ((1 : Nat) : Int) < (zs.length : Int) := by omega
    clear hx1
    have hx2r := hbz.getD (j := 2) (by omega)
    have d2 := cellOf Hb.out 2 (by omega)
    obtain ⟨x2, hx2⟩ : ∃ x2, zs.getD 2 0 = x2 := ⟨_, rfl⟩
    rw [hx2] at hx2r d2
    have Hx2 := Lib.hid hx2
    have i2z : ((2 : Nat) : Int) < (zs.length : Int) := by omega
    clear hx2
    by_cases k1 : 128 ≤ x1 ∧ x1 ≤ 191
    · obtain ⟨k1a, k1b⟩ := k1
      by_cases k2 : 128 ≤ x2 ∧ x2 ≤ 191
      · obtain ⟨k2a, k2b⟩ := k2
        go_enter Tryd.func72, Tryd.ntmps72
        go_wp2
        go_quiet (fail)
        go_wp2
        all_goals first | go_ret2 | skip
        all_goals try simp only [Bool.not_eq_true', Bool.not_eq_false', decide_eq_true_eq, decide_eq_false_iff_not, beq_iff_eq] at *
        all_goals first | (exfalso; omega) | (refine ⟨⟨0, 0, rfl, .inr ⟨fun u r hu he => ?_, rfl, rfl⟩⟩, by first | exact ⟨0, rfl⟩ | exact ⟨_, rfl⟩⟩; have hf := unit_facts hu he; rw [Hx0.out, Hx1.out, Hx2.out] at hf; omega) | exact ⟨⟨_, 3, rfl, un3 (by omega) _ (by omega) (by omega) (by rw [Hx0.out]; omega) (by rw [Hx1.out]; omega) (by rw [Hx2.out]; omega)⟩, by first | exact ⟨0, rfl⟩ | exact ⟨_, rfl⟩⟩
      · go_enter Tryd.func72, Tryd.ntmps72
        go_wp2
        all_goals try (exfalso; omega)
        all_goals first | go_ret2 | skip
        all_goals try simp only [Bool.not_eq_true', Bool.not_eq_false', decide_eq_true_eq, decide_eq_false_iff_not, beq_iff_eq] at *
        all_goals first | (exfalso; omega) | (refine ⟨⟨0, 0, rfl, .inr ⟨fun u r hu he => ?_, rfl, rfl⟩⟩, by first | exact ⟨0, rfl⟩ | exact ⟨_, rfl⟩⟩; have hf := unit_facts hu he; rw [Hx0.out, Hx1.out, Hx2.out] at hf; omega)
    · go_enter Tryd.func72, Tryd.ntmps72
      go_wp2
      all_goals try (exfalso; omega)
      all_goals first | go_ret2 | skip
      all_goals try simp only [Bool.not_eq_true', Bool.not_eq_false', decide_eq_true_eq, decide_eq_false_iff_not, beq_iff_eq] at *
      all_goals first | (exfalso; omega) | (refine ⟨⟨0, 0, rfl, .inr ⟨fun u r hu he => ?_, rfl, rfl⟩⟩, by first | exact ⟨0, rfl⟩ | exact ⟨_, rfl⟩⟩; have hf := unit_facts hu he; rw [Hx0.out, Hx1.out, Hx2.out] at hf; omega)
  go_enter Tryd.func72, Tryd.ntmps72
  go_wp2
  all_goals first | go_ret2 | skip
  all_goals try simp only [Bool.not_eq_true', Bool.not_eq_false', decide_eq_true_eq, decide_eq_false_iff_not, beq_iff_eq] at *
  all_goals first | (exfalso; omega) | (refine ⟨⟨0, 0, rfl, .inr ⟨fun u r hu he => ?_, rfl, rfl⟩⟩, by first | exact ⟨0, rfl⟩ | exact ⟨_, rfl⟩⟩; have hf := unit_facts hu he; rw [Hx0.out] at hf; omega)


set_option maxHeartbeats 1000000 in
theorem utf8 (c : Int) (w : World) (hs : Sc c) :
    Calls Tryd.prog 73 #[.int .i64 c] w fun e w' => ∃ v, e = .returned v ∧ Src w' 1 v (enc8 c).length ((enc8 c).map (Value.int .u8)) ∧ Only (fun _ => False) w w' := by
  rcases u8_cases hs with ⟨ha, hb, e⟩ | ⟨ha, hb, e⟩ | ⟨ha, hb, hc, e⟩ | ⟨ha, hb, e⟩ <;> rw [e] <;> clear e hs
  · go_enter Tryd.func73, Tryd.ntmps73
    go_wp2
    all_goals first | go_ret | skip
    all_goals first | (exfalso; omega) | exact ⟨_, rfl, Src.few (w := w) (t := 5) (xs := [.int .u8 (c)]) (by intro x hx; simp only [List.mem_cons, List.mem_nil_iff, or_false] at hx; subst hx; rfl), (Only.refl _ _).alloc _⟩
  · go_enter Tryd.func73, Tryd.ntmps73
    go_wp2
    all_goals first | go_ret | skip
    all_goals first | (exfalso; omega) | exact ⟨_, rfl, Src.few (w := w) (t := 5) (xs := [.int .u8 (192 + c / 64), .int .u8 (128 + c % 64)]) (by intro x hx; simp only [List.mem_cons, List.mem_nil_iff, or_false] at hx; rcases hx with rfl | rfl <;> rfl), (Only.refl _ _).alloc _⟩
  · go_enter Tryd.func73, Tryd.ntmps73
    go_wp2
    all_goals first | go_ret | skip
    all_goals first | (exfalso; omega) | exact ⟨_, rfl, Src.few (w := w) (t := 5) (xs := [.int .u8 (224 + c / 4096), .int .u8 (128 + c / 64 % 64), .int .u8 (128 + c % 64)]) (by intro x hx; simp only [List.mem_cons, List.mem_nil_iff, or_false] at hx; rcases hx with rfl | rfl | rfl <;> rfl), (Only.refl _ _).alloc _⟩
  · go_enter Tryd.func73, Tryd.ntmps73
    go_wp2
    all_goals first | go_ret | skip
    all_goals first | (exfalso; omega) | exact ⟨_, rfl, Src.few (w := w) (t := 5) (xs := [.int .u8 (240 + c / 262144), .int .u8 (128 + c / 4096 % 64), .int .u8 (128 + c / 64 % 64), .int .u8 (128 + c % 64)]) (by intro x hx; simp only [List.mem_cons, List.mem_nil_iff, or_false] at hx; rcases hx with rfl | rfl | rfl | rfl <;> rfl), (Only.refl _ _).alloc _⟩
end Go.Proofs.YtpiandkiijienaaDoor
