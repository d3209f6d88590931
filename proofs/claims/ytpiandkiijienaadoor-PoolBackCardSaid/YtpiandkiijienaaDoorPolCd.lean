/- What stage 4's laws share: the same constants; awake. No condition. -/
import Derived.Test.YtpiandkiijienaaDoorPolM
import Derived.Deep.QuietTactic
import Derived.BigQuiet
namespace Go.Proofs.YtpiandkiijienaaDoor
open Go.RowKit
set_option linter.unusedVariables false
set_option linter.unusedSimpArgs false

set_option maxHeartbeats 4000000 in
set_option maxRecDepth 100000 in
theorem sameT (v v2 : Value) (cs : List ConstV) (w : World) (hp : Pool w v cs) (hp2 : Pool w v2 cs) :
    Calls Tryd.prog 15 #[v, v2] w fun e w' => e = .returned (.bool true) ∧ Only (fun _ => False) w w' := by
  obtain ⟨ao, cap, rfl, h1, h2, h3, h4, h5⟩ := id hp
  obtain ⟨ao2, cap2, rfl, h1', h2', h3', h4', h5'⟩ := id hp2
  have HP := Lib.hid hp
  have HP2 := Lib.hid hp2
  clear h3 h4 h5 h3' h4' h5' hp hp2
  go_enter Tryd.func15, Tryd.ntmps15
  go_wp2
  go_loopw [5] (fun i wr => ∃ j : Nat, j ≤ cs.length ∧ i = .int .i64 j ∧ Only (fun _ => False) w wr) (fun i _ => cs.length - (intOf i).toNat)
  case atStart => exact ⟨0, Nat.zero_le _, rfl, Only.refl _ _⟩
  case round =>
    obtain ⟨j, hj, rfl, hon⟩ := hrel
    by_cases hlt : j < cs.length
    · have hjz : (j : Int) < (cs.length : Int) := by omega
      have hj0 : (0 : Int) ≤ (j : Int) := by omega
      have hpw := HP.out.only hon (fun _ _ h => h)
      have hpw2 := HP2.out.only hon (fun _ _ h => h)
      obtain ⟨b, o, rfl, hc⟩ := Pool.at hpw hlt
      obtain ⟨b2, o2, rfl, hc2⟩ := Pool.at hpw2 hlt
      obtain ⟨k0, k1, k2, k3, k4⟩ := hc
      obtain ⟨l0, l1, l2, l3, l4⟩ := hc2
      have hr := hpw.range hlt
      have hr0 := hr.r0
      have HON := Lib.hid hon
      clear hpw hpw2 hr hon
      generalize cs.getD j default = c at *
      obtain ⟨t, x, n, a, bb⟩ := c
      simp only at *
      go_wp2
      go_quiet (fail)
      go_wp2
      go_roundw
      case rel => exact ⟨j + 1, by omega, by go_num, HON.out.drewN _⟩
      case measure => simp [intOf]; omega
    · have hjn : j = cs.length := by omega
      have hnz : (cs.length : Int) ≤ (j : Int) := by omega
      go_wp2
      go_ret
      exact ⟨rfl, hon⟩

set_option maxHeartbeats 4000000 in
set_option maxRecDepth 100000 in
theorem awake (w : World) : Calls Tryd.prog 10 #[] w fun e w' => e = .returned (.bool true) ∧ Only (fun _ => False) w w' := by
  have hp : Pool (w.alloc (.cells #[.int .i64 0, .string ⟨#[]⟩, .int .i64 0, .int .i64 0, .int .i64 0, .int .i64 1, .string ⟨#[65]⟩, .int .i64 0, .int .i64 0, .int .i64 0] 45)) (.slice (some ⟨w.heap.size, 0, none⟩) 2 2) [⟨0, noT, 0, 0, 0⟩, ⟨1, ⟨#[65]⟩, 0, 0, 0⟩] := by
    have hb := heap_alloc_new w (.cells #[.int .i64 0, .string ⟨#[]⟩, .int .i64 0, .int .i64 0, .int .i64 0, .int .i64 1, .string ⟨#[65]⟩, .int .i64 0, .int .i64 0, .int .i64 0] 45)
    refine ⟨_, 2, rfl, by decide, by decide, (fun e => by cases e), ?_, fun x hx _ => ?_⟩
    · intro c hc
      simp only [List.mem_cons, List.mem_nil_iff, or_false] at hc
      rcases hc with rfl | rfl
      · exact ⟨by unfold I64; simp, by unfold I64; simp, by unfold I64; simp, by unfold I64; simp, by decide⟩
      · exact ⟨by unfold I64; simp, by unfold I64; simp, by unfold I64; simp, by unfold I64; simp, by decide⟩
    · cases hx
      refine ⟨w.heap.size, 0, rfl, fun i hi => ?_⟩
      match i, hi with
      | 0, _ => exact ⟨by rw [cell_blk hb]; rfl, by rw [cell_blk hb]; rfl, by rw [cell_blk hb]; rfl, by rw [cell_blk hb]; rfl, by rw [cell_blk hb]; rfl⟩
      | 1, _ => exact ⟨by rw [cell_blk hb]; rfl, by rw [cell_blk hb]; rfl, by rw [cell_blk hb]; rfl, by rw [cell_blk hb]; rfl, by rw [cell_blk hb]; rfl⟩
      | i + 2, h => exact absurd h (by simp)
  have cT := progText _ _ 1 _ hp
  rw [show textZ [⟨0, noT, 0, 0, 0⟩, ⟨1, ⟨#[65]⟩, 0, 0, 0⟩] 1 = (⟨#[65]⟩, true) from by simp [textZ, isZ]] at cT
  have CT := Lib.hid cT
  clear hp cT
  go_enter Tryd.func10, Tryd.ntmps10
  go_wp2_with (fail)
  refine CT.out.mono ?_
  rintro e w1 ⟨rfl, ho⟩
  have HO := Lib.hid ho
  clear ho CT
  go_wp2
  go_ret
  exact ⟨rfl, ((Only.refl _ w).alloc _).trans HO.out (fun _ h => h.elim)⟩
end Go.Proofs.YtpiandkiijienaaDoor
