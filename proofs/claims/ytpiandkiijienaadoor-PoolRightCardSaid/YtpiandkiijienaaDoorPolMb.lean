/- The program's look at fields and methods. No condition. -/
import Derived.Test.YtpiandkiijienaaDoorPolM
namespace Go.Proofs.YtpiandkiijienaaDoor
open Go.RowKit
set_option linter.unusedVariables false
set_option linter.unusedSimpArgs false

theorem atC_in {cs : List ConstV} {i tag : Int} (h : (atC cs i).tag = tag) (h0 : tag ≠ 0) : atC cs i = cs.getD i.toNat default := by
  have hc : 1 ≤ i ∧ i < cs.length := Classical.byContradiction fun hc => by unfold atC at h; rw [if_neg hc] at h; exact h0 h.symm
  unfold atC
  rw [if_pos hc]
/-- A name and a descriptor, as the program tells them. -/
def nameZ (cs : List ConstV) (i : Int) : ByteArray × ByteArray × Bool :=
  if (atC cs i).tag = 12 then ((textZ cs (atC cs i).a).1, (textZ cs (atC cs i).b).1, (textZ cs (atC cs i).a).2 && (textZ cs (atC cs i).b).2) else (noT, noT, false)
theorem refZ_at (cs : List ConstV) (i : Int) : refZ cs i =
    if (atC cs i).tag = 9 ∨ (atC cs i).tag = 10 then (if (classZ cs (atC cs i).a).2 = true ∧ (nameZ cs (atC cs i).b).2.2 = true then ((classZ cs (atC cs i).a).1, (nameZ cs (atC cs i).b).1, (nameZ cs (atC cs i).b).2.1, true) else (noT, noT, noT, false)) else (noT, noT, noT, false) := by
  unfold refZ
  rw [atC_tag cs i (by decide), atC_tag cs i (by decide)]
  by_cases h : (atC cs i).tag = 9 ∨ (atC cs i).tag = 10
  · have hin : atC cs i = cs.getD i.toNat default := h.elim (fun h => atC_in h (by decide)) (fun h => atC_in h (by decide))
    rw [if_pos h, ← hin, if_neg (by simp; omega), atC_tag cs (atC cs i).b (by decide)]
    unfold nameZ
    cases hc : (classZ cs (atC cs i).a).2 with
    | false => simp
    | true =>
      by_cases hn : (atC cs (atC cs i).b).tag = 12
      · have hin2 := atC_in hn (by decide)
        rw [← hin2]
        cases ha : (textZ cs (atC cs (atC cs i).b).a).2 <;> cases hb : (textZ cs (atC cs (atC cs i).b).b).2 <;> simp [hn, ha, hb]
      · simp [hn]
  · rw [if_neg h, if_pos (by simp; omega)]

set_option maxHeartbeats 2000000 in
theorem progName (v : Value) (cs : List ConstV) (i : Int) (w : World) (hp : Pool w v cs) :
    Calls Tryd.prog 34 #[v, .int .i64 i] w fun e w' => e = .returned (.tuple #[.string (nameZ cs i).1, .string (nameZ cs i).2.1, .bool (nameZ cs i).2.2]) ∧ Only (fun _ => False) w w' := by
  obtain ⟨ao, cap, rfl, _, _, _, _, _⟩ := id hp
  have cA := progAt _ cs i w hp
  have hr := atC_range w _ cs i hp
  unfold nameZ
  have HP := Lib.hid hp
  clear hp
  generalize atC cs i = c at *
  obtain ⟨t, x, n, a, bb⟩ := c
  obtain ⟨r0, _, r3, r4, _⟩ := hr
  simp only at *
  unfold I64 at r0 r3 r4
  have CA := Lib.hid cA
  clear cA
  by_cases h1 : t = 12
  · subst h1
    rw [if_pos rfl]
    go_enter Tryd.func34, Tryd.ntmps34
    go_wp2_with (fail)
    refine CA.out.mono ?_
    rintro e w1 ⟨rfl, ho⟩
    have hoB : Only (fun _ => False) w (w1.alloc (.cells #[.int .i64 12, .string x, .int .i64 n, .int .i64 a, .int .i64 bb] 45)) := ho.alloc _
    have hblk := heap_alloc_new w1 (.cells #[.int .i64 12, .string x, .int .i64 n, .int .i64 a, .int .i64 bb] 45)
    have HOB := Lib.hid hoB
    have HBLK := Lib.hid hblk
    clear ho hoB hblk CA
    go_wp2_with (fail)
    refine (progText _ cs a _ (by exact HP.out.only HOB.out (fun _ _ h => h))).mono ?_
    rintro e w2 ⟨rfl, ho2⟩
    have q4 := cell_blk (ho2.heap HBLK.out (fun h => h)) 4
    simp at q4
    have HO2 := Lib.hid (HOB.out.trans ho2 (fun _ h => h.elim))
    obtain ⟨t1, e1⟩ : ∃ t1, textZ cs a = t1 := ⟨_, rfl⟩
    rw [e1]
    obtain ⟨x1, o1⟩ := t1
    have E1 := Lib.hid e1
    clear ho2 e1
    go_wp2_with (fail)
    refine (progText _ cs bb _ (by exact HP.out.only HO2.out (fun _ _ h => h))).mono ?_
    rintro e w3 ⟨rfl, ho3⟩
    have HO3 := Lib.hid (HO2.out.trans ho3 (fun _ h => h.elim))
    obtain ⟨t2, e2⟩ : ∃ t2, textZ cs bb = t2 := ⟨_, rfl⟩
    rw [e2]
    obtain ⟨x2, o2⟩ := t2
    have E2 := Lib.hid e2
    clear ho3 e2 q4
    simp only
    cases o1 with
    | true =>
      go_wp2
      go_ret3
      exact ⟨by rw [E1.out, E2.out]; rfl, HO3.out⟩
    | false =>
      go_wp2
      go_ret3
      exact ⟨by rw [E1.out, E2.out]; rfl, HO3.out⟩
  · rw [if_neg h1]
    have hb : (t == 12) = false := by simpa using h1
    have hb2 : (t != 12) = true := by simpa using h1
    go_enter Tryd.func34, Tryd.ntmps34
    go_wp2_with (fail)
    refine CA.out.mono ?_
    rintro e w1 ⟨rfl, ho⟩
    have HO := Lib.hid ho
    clear ho CA
    go_wp2
    go_ret3
    exact ⟨rfl, HO.out.alloc _⟩

set_option maxHeartbeats 4000000 in
theorem progRef (v : Value) (cs : List ConstV) (i : Int) (w : World) (hp : Pool w v cs) :
    Calls Tryd.prog 18 #[v, .int .i64 i] w fun e w' => e = .returned (.tuple #[.string (refZ cs i).1, .string (refZ cs i).2.1, .string (refZ cs i).2.2.1, .bool (refZ cs i).2.2.2]) ∧ Only (fun _ => False) w w' := by
  obtain ⟨ao, cap, rfl, _, _, _, _, _⟩ := id hp
  have cA := progAt _ cs i w hp
  have hr := atC_range w _ cs i hp
  have hZ := refZ_at cs i
  have HP := Lib.hid hp
  clear hp
  generalize atC cs i = c at *
  obtain ⟨t, x, n, a, bb⟩ := c
  obtain ⟨r0, _, r3, r4, _⟩ := hr
  simp only at *
  unfold I64 at r0 r3 r4
  have CA := Lib.hid cA
  clear cA
  by_cases h1 : t = 9 ∨ t = 10
  · rw [if_pos h1] at hZ
    obtain ⟨c1, e1⟩ : ∃ c1, classZ cs a = c1 := ⟨_, rfl⟩
    obtain ⟨n1, e2⟩ : ∃ n1, nameZ cs bb = n1 := ⟨_, rfl⟩
    have cC := fun w' (ho : Only (fun _ => False) w w') => progClass _ cs a w' (HP.out.only ho (fun _ _ h => h))
    have cN := fun w' (ho : Only (fun _ => False) w w') => progName _ cs bb w' (HP.out.only ho (fun _ _ h => h))
    rw [e1, e2] at hZ
    rw [e1] at cC
    rw [e2] at cN
    obtain ⟨xc, oc⟩ := c1
    obtain ⟨x1, x2, on⟩ := n1
    simp only at hZ cC cN
    have CC := Lib.hid cC
    have CN := Lib.hid cN
    have HZ := Lib.hid hZ
    clear e1 e2 cC cN hZ
    rcases h1 with rfl | rfl
    · go_enter Tryd.func18, Tryd.ntmps18
      go_wp2_with (fail)
      refine CA.out.mono ?_
      rintro e w1 ⟨rfl, ho⟩
      have hoB : Only (fun _ => False) w (w1.alloc (.cells #[.int .i64 9, .string x, .int .i64 n, .int .i64 a, .int .i64 bb] 45)) := ho.alloc _
      have hblk := heap_alloc_new w1 (.cells #[.int .i64 9, .string x, .int .i64 n, .int .i64 a, .int .i64 bb] 45)
      have HOB := Lib.hid hoB
      have HBLK := Lib.hid hblk
      clear ho hoB hblk CA
      go_wp2_with (fail)
      refine (CC.out _ HOB.out).mono ?_
      rintro e w2 ⟨rfl, ho2⟩
      have q4 := cell_blk (ho2.heap HBLK.out (fun h => h)) 4
      simp at q4
      have HO2 := Lib.hid (HOB.out.trans ho2 (fun _ h => h.elim))
      clear ho2 CC
      go_wp2_with (fail)
      refine (CN.out _ HO2.out).mono ?_
      rintro e w3 ⟨rfl, ho3⟩
      have HO3 := Lib.hid (HO2.out.trans ho3 (fun _ h => h.elim))
      clear ho3 q4 CN
      cases oc with
      | false =>
        go_wp2
        refine bodyPost_ret (results4 rfl _ _) rfl ?_
        exact ⟨by rw [HZ.out, if_neg (by simp)]; rfl, HO3.out⟩
      | true =>
        cases on with
        | false =>
          go_wp2
          refine bodyPost_ret (results4 rfl _ _) rfl ?_
          exact ⟨by rw [HZ.out, if_neg (by simp)]; rfl, HO3.out⟩
        | true =>
          go_wp2
          refine bodyPost_ret (results4 rfl _ _) rfl ?_
          exact ⟨by rw [HZ.out, if_pos (by simp)]; rfl, HO3.out⟩
    · go_enter Tryd.func18, Tryd.ntmps18
      go_wp2_with (fail)
      refine CA.out.mono ?_
      rintro e w1 ⟨rfl, ho⟩
      have hoB : Only (fun _ => False) w (w1.alloc (.cells #[.int .i64 10, .string x, .int .i64 n, .int .i64 a, .int .i64 bb] 45)) := ho.alloc _
      have hblk := heap_alloc_new w1 (.cells #[.int .i64 10, .string x, .int .i64 n, .int .i64 a, .int .i64 bb] 45)
      have HOB := Lib.hid hoB
      have HBLK := Lib.hid hblk
      clear ho hoB hblk CA
      go_wp2_with (fail)
      refine (CC.out _ HOB.out).mono ?_
      rintro e w2 ⟨rfl, ho2⟩
      have q4 := cell_blk (ho2.heap HBLK.out (fun h => h)) 4
      simp at q4
      have HO2 := Lib.hid (HOB.out.trans ho2 (fun _ h => h.elim))
      clear ho2 CC
      go_wp2_with (fail)
      refine (CN.out _ HO2.out).mono ?_
      rintro e w3 ⟨rfl, ho3⟩
      have HO3 := Lib.hid (HO2.out.trans ho3 (fun _ h => h.elim))
      clear ho3 q4 CN
      cases oc with
      | false =>
        go_wp2
        refine bodyPost_ret (results4 rfl _ _) rfl ?_
        exact ⟨by rw [HZ.out, if_neg (by simp)]; rfl, HO3.out⟩
      | true =>
        cases on with
        | false =>
          go_wp2
          refine bodyPost_ret (results4 rfl _ _) rfl ?_
          exact ⟨by rw [HZ.out, if_neg (by simp)]; rfl, HO3.out⟩
        | true =>
          go_wp2
          refine bodyPost_ret (results4 rfl _ _) rfl ?_
          exact ⟨by rw [HZ.out, if_pos (by simp)]; rfl, HO3.out⟩
  · rw [if_neg h1] at hZ
    have b9 : (t == 9) = false := by simp only [beq_eq_false_iff_ne]; omega
    have b10 : (t == 10) = false := by simp only [beq_eq_false_iff_ne]; omega
    have c9 : (t != 9) = true := by simp; omega
    have c10 : (t != 10) = true := by simp; omega
    have HZ := Lib.hid hZ
    clear h1 hZ
    go_enter Tryd.func18, Tryd.ntmps18
    go_wp2_with (fail)
    refine CA.out.mono ?_
    rintro e w1 ⟨rfl, ho⟩
    have HO := Lib.hid ho
    clear ho CA
    go_wp2
    refine bodyPost_ret (results4 rfl _ _) rfl ?_
    exact ⟨by rw [HZ.out]; rfl, HO.out.alloc _⟩
end Go.Proofs.YtpiandkiijienaaDoor
