/- The law's own awake: the program computes at all. No condition. -/
import Derived.Test.YtngoajhnnlnphaaFloT
namespace Go.Proofs.Ytngoajhnnlnphaa
open Go.RowKit
set_option linter.unusedVariables false
set_option linter.unusedSimpArgs false

theorem run_awake : Run [3, 172] [⟨0, 3, 0, 0, 1⟩, ⟨1, 172, 0, 0, 1⟩] 2 :=
  ((Run.nil [3, 172]).snoc (k := ⟨0, 3, 0, 0, 1⟩) (by decide) rfl).snoc (k := ⟨1, 172, 0, 0, 1⟩) (by decide) rfl

set_option maxHeartbeats 2000000 in
set_option maxRecDepth 100000 in
theorem awake7 (w : World) : Calls Try.prog 12 #[] w fun e w' => e = .returned (.bool true) ∧ Only (fun _ => False) w w' := by
  have hal := (Only.refl (fun _ => False) w).alloc (.cells #[.int .u8 3, .int .u8 172] 5)
  have hnew := heap_alloc_new w (.cells #[.int .u8 3, .int .u8 172] 5)
  have hb : Bytes (w.alloc (.cells #[.int .u8 3, .int .u8 172] 5)) (.slice (some ⟨w.heap.size, 0, none⟩) 2 2) [3, 172] := by
    refine ⟨_, 2, rfl, Nat.le_refl _, by unfold maxLen; omega, (fun e => by cases e), ?_, ?_⟩
    · intro z hz
      simp at hz
      unfold IsByte
      omega
    · intro x hx j hj
      cases hx
      rw [add_lit, Nat.zero_add, cell_blk hnew]
      match j, hj with
      | 0, _ => rfl
      | 1, _ => rfl
  have c1 := progList _ _ _ hb (by decide)
  have HAL := Lib.hid hal
  have C1 := Lib.hid c1
  clear hal hnew hb c1
  go_enter Try.func12, Try.ntmps12
  go_wp2_with (fail)
  refine C1.out.mono ?_
  rintro e w1 ⟨v, l, e0, rfl, hls, ho1, hrow⟩
  obtain ⟨rfl, rfl⟩ := hls.unique (.inl ⟨rfl, run_awake⟩)
  have hon1 := HAL.out.trans ho1 (fun _ h _ => h)
  obtain ⟨av, cv, rfl, g1, g2, g3, -⟩ := id hrow.instrs
  obtain ⟨b, o, rfl, x⟩ := Sl.at hrow.instrs (show 1 < 2 by decide)
  obtain ⟨x0, x1, x2, x3, x4⟩ := x
  simp only [List.getD_cons_succ, List.getD_cons_zero] at x0 x1 x2 x3 x4
  have cf := progFalls ⟨1, 172, 0, 0, 1⟩ w1
  unfold valI at cf
  rw [show fallsZ (172 : Int) = false from rfl] at cf
  have HON1 := Lib.hid hon1
  have CF := Lib.hid cf
  clear hon1 hrow ho1 C1 cf g3
  go_wp2_with (fail)
  refine CF.out.mono ?_
  rintro e w2 ⟨rfl, ho2⟩
  have HON2 := Lib.hid (HON1.out.trans ho2 (fun _ h _ => h))
  clear ho2 CF
  go_wp2
  go_ret
  exact ⟨rfl, HON2.out⟩
end Go.Proofs.Ytngoajhnnlnphaa
