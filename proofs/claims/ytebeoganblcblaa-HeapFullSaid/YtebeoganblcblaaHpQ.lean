/- The law's own comparison of two lists of objects: of equal ones it answers true. Condition: not longer than a heap may be. -/
import Derived.Test.YtebeoganblcblaaHpE
namespace Go.Proofs.Ytebeoganblcblaa
open Go.RowKit
set_option linter.unusedVariables false
set_option linter.unusedSimpArgs false

theorem obx_at {xs ys : List ObX} (h : xs.map ObX.o = ys.map ObX.o) {i : Nat} (hi : i < xs.length) : (xs.getD i default).o = (ys.getD i default).o := by
  have hl : xs.length = ys.length := by have := congrArg List.length h; simpa using this
  rw [← ob_at hi, ← ob_at (by omega), h]
set_option maxHeartbeats 8000000 in
set_option maxRecDepth 100000 in
theorem same14 (v1 v2 : Value) (os : List ObjV) (w : World) (h1 : ObjsR w v1 os) (h2 : ObjsR w v2 os) (hn : os.length ≤ 1024) (hs : ∀ x ∈ os, x.vs.length ≤ 1024) :
    Calls Try.prog 13 #[v1, v2] w fun e w' => e = .returned (.bool true) ∧ Only (fun _ => False) w w' := by
  obtain ⟨xs, h1, e1⟩ := h1
  obtain ⟨ys, h2, e2⟩ := h2
  have hxy : xs.map ObX.o = ys.map ObX.o := e1.trans e2.symm
  have hl : xs.length = ys.length := by have := congrArg List.length hxy; simpa using this
  have hlx : xs.length = os.length := by rw [← e1, List.length_map]
  have hsx : ∀ i, i < xs.length → (xs.getD i default).vs.length ≤ 1024 := fun i hi => hs _ (by rw [← e1]; exact List.mem_map.2 ⟨xs.getD i default, by rw [List.getD_eq_getElem?_getD, List.getElem?_eq_getElem hi]; exact List.getElem_mem hi, rfl⟩)
  have hn' : xs.length ≤ 1024 := by omega
  obtain ⟨a1, c1, rfl, -⟩ := id h1.1
  obtain ⟨a2, c2, rfl, -⟩ := id h2.1
  rw [← hl] at h2
  rw [← hl]
  have H1 := Lib.hid h1
  have H2 := Lib.hid h2
  have HXY := Lib.hid hxy
  have HSX := Lib.hid hsx
  have HN := Lib.hid hn'
  have HL := Lib.hid hl
  clear h1 h2 e1 e2 hxy hl hlx hsx hs hn hn'
  obtain ⟨n, hnn⟩ : ∃ n, xs.length = n := ⟨_, rfl⟩
  have HNN := Lib.hid hnn
  rw [hnn]
  clear hnn
  go_enter Try.func13, Try.ntmps13
  go_wp2
  go_loopw [5] (fun i wr => ∃ j : Nat, i = .int .i64 j ∧ j ≤ n ∧ Only (fun _ => False) w wr) (fun i _ => n - (intOf i).toNat)
  case atStart => exact ⟨0, rfl, Nat.zero_le _, Only.refl _ _⟩
  case round =>
    obtain ⟨j, rfl, hj, hon⟩ := hrel
    have HON := Lib.hid hon
    obtain ⟨w1, hw1⟩ : ∃ x, x = wr := ⟨_, rfl⟩
    subst hw1
    by_cases hlt : j < n
    · have hjx : j < xs.length := by rw [HNN.out]; exact hlt
      have H1w := H1.out.none hon
      have H2w := H2.out.none hon
      obtain ⟨b, o, rfl, x⟩ := Sl.at (by have := H1w.1; rw [HNN.out] at this; exact this) hlt
      obtain ⟨b2, o2, rfl, y⟩ := Sl.at (by have := H2w.1; rw [← HL.out, HNN.out] at this; exact this) hlt
      have hjz : (j : Int) < (n : Int) := by omega
      have hj0 : (0 : Int) ≤ (j : Int) := by omega
      have hv1 := H1w.2 j hjx
      have hv2 := H2w.2 j (by rw [← HL.out]; exact hjx)
      have heq := obx_at HXY.out hjx
      have hsx := HSX.out j hjx
      generalize xs.getD j default = x1 at *
      generalize ys.getD j default = y1 at *
      obtain ⟨tx, dx, vx⟩ := x1
      obtain ⟨ty, dy, vy⟩ := y1
      simp only [ObX.o, ObjV.mk.injEq] at heq
      obtain ⟨rfl, rfl⟩ := heq
      simp only at hv1 hv2 hsx
      obtain ⟨ax, cx, rfl, -⟩ := id hv1
      obtain ⟨ay, cy, rfl, -⟩ := id hv2
      obtain ⟨x0, x1, x2, x3, x4, x5⟩ := x
      obtain ⟨y0, y1, y2, y3, y4, y5⟩ := y
      simp only at x0 x1 x2 x3 x4 x5 y0 y1 y2 y3 y4 y5
      have n1 := neq_type14 tx
      have g1 := guard_type
      obtain ⟨m, hm⟩ : ∃ m, vx.length = m := ⟨_, rfl⟩
      rw [hm] at x5 y5 hsx
      have HM := Lib.hid hm
      have HV1 := Lib.hid hv1
      have HV2 := Lib.hid hv2
      clear hon hm hv1 hv2 H1w H2w
      go_wp2
      go_quiet (fail)
      go_wp2
      go_loopw [6] (fun i wr => ∃ k : Nat, i = .int .i64 k ∧ k ≤ m ∧ Only (fun _ => False) w1 wr) (fun i _ => m - (intOf i).toNat)
      case atStart => exact ⟨0, rfl, Nat.zero_le _, (Only.refl _ w1).drewN _⟩
      case round =>
        obtain ⟨k, rfl, hk, hok⟩ := hrel
        have HOK := Lib.hid hok
        have z5 := hok.cell x5 (fun h => h)
        have u5 := hok.cell y5 (fun h => h)
        by_cases hlk : k < m
        · have V1 := (HV1.out.only hok (fun _ _ h => h))
          have V2 := (HV2.out.only hok (fun _ _ h => h))
          rw [HM.out] at V1 V2
          obtain ⟨b3, o3, rfl, p⟩ := Sl.at (by have := V1; unfold Vals at this; rw [HM.out] at this; exact this) hlk
          obtain ⟨b4, o4, rfl, q⟩ := Sl.at (by have := V2; unfold Vals at this; rw [HM.out] at this; exact this) hlk
          obtain ⟨p0, p1, p2⟩ := p
          obtain ⟨q0, q1, q2⟩ := q
          have hkz : (k : Int) < (m : Int) := by omega
          have hk0 : (0 : Int) ≤ (k : Int) := by omega
          have n2 := neq_val (vx.getD k default)
          have g2 := guard_val
          generalize vx.getD k default = e at *
          clear hok V1 V2 x0 x1 x2 x3 x4 x5 y0 y1 y2 y3 y4 y5 n1 g1
          go_wp2
          go_quiet (fail)
          go_wp2
          go_roundw
          case rel => exact ⟨k + 1, by go_num, by omega, HOK.out.drewN _⟩
          case measure => simp [intOf]; omega
        · have hnk : ¬ ((k : Int) < (m : Int)) := by omega
          have hn9 : n ≤ 1024 := by have := HN.out; rw [HNN.out] at this; exact this
          clear hok
          go_wp2
          go_roundw
          case rel => exact ⟨j + 1, by go_num, by omega, HON.out.trans HOK.out (fun _ h _ => h)⟩
          case measure => simp [intOf]; omega
    · obtain rfl : j = n := by omega
      clear hlt hj hon
      go_wp2
      go_ret
      exact ⟨rfl, HON.out⟩
end Go.Proofs.Ytebeoganblcblaa
