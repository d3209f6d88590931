/- The program's Falls, Leads, At. No condition. -/
import Derived.Test.YtngoajhnnlnphaaFloR
import Derived.Test.YtngoajhnnlnphaaOpsD
namespace Go.Proofs.Ytngoajhnnlnphaa
open Go.RowKit
set_option linter.unusedVariables false
set_option linter.unusedSimpArgs false

set_option maxHeartbeats 2000000 in
set_option maxRecDepth 100000 in
theorem progFalls (k : InstrV) (w : World) : Calls Try.prog 17 #[valI k] w fun e w' => e = .returned (.bool (fallsZ k.op)) ∧ Only (fun _ => False) w w' := by
  obtain ⟨at_, op, a, b, size⟩ := k
  unfold valI
  simp only
  have ho := (Only.refl (fun _ => False) w).alloc (.cells #[.int .i64 at_, .int .i64 op, .int .i64 a, .int .i64 b, .int .i64 size] 39)
  have HO := Lib.hid ho
  clear ho
  by_cases h1 : op = 167
  · subst h1
    go_enter Try.func17, Try.ntmps17
    go_wp2
    go_ret
    exact ⟨rfl, HO.out⟩
  by_cases h2 : op = 172
  · subst h2
    go_enter Try.func17, Try.ntmps17
    go_wp2
    go_ret
    exact ⟨rfl, HO.out⟩
  by_cases h3 : op = 173
  · subst h3
    go_enter Try.func17, Try.ntmps17
    go_wp2
    go_ret
    exact ⟨rfl, HO.out⟩
  by_cases h4 : op = 176
  · subst h4
    go_enter Try.func17, Try.ntmps17
    go_wp2
    go_ret
    exact ⟨rfl, HO.out⟩
  by_cases h5 : op = 177
  · subst h5
    go_enter Try.func17, Try.ntmps17
    go_wp2
    go_ret
    exact ⟨rfl, HO.out⟩
  by_cases h6 : op = 191
  · subst h6
    go_enter Try.func17, Try.ntmps17
    go_wp2
    go_ret
    exact ⟨rfl, HO.out⟩
  have e1 : (op == 167) = false := by rw [beq_eq_false_iff_ne]; exact h1
  have e2 : (op == 172) = false := by rw [beq_eq_false_iff_ne]; exact h2
  have e3 : (op == 173) = false := by rw [beq_eq_false_iff_ne]; exact h3
  have e4 : (op == 176) = false := by rw [beq_eq_false_iff_ne]; exact h4
  have e5 : (op == 177) = false := by rw [beq_eq_false_iff_ne]; exact h5
  have e6 : (op == 191) = false := by rw [beq_eq_false_iff_ne]; exact h6
  have hf : fallsZ op = true := by unfold fallsZ; rw [e1, e2, e3, e4, e5, e6]; rfl
  rw [hf]
  clear h1 h2 h3 h4 h5 h6 hf
  go_enter Try.func17, Try.ntmps17
  go_wp2
  go_ret
  exact ⟨rfl, HO.out⟩
set_option maxHeartbeats 2000000 in
set_option maxRecDepth 100000 in
theorem progLeads (k : InstrV) (w : World) : Calls Try.prog 15 #[valI k] w fun e w' => e = .returned (.tuple #[.int .i64 (leadZ k), .bool (isLead k)]) ∧ Only (fun _ => False) w w' := by
  obtain ⟨at_, op, a, b, size⟩ := k
  have hb := heap_alloc_new w (.cells #[.int .i64 at_, .int .i64 op, .int .i64 a, .int .i64 b, .int .i64 size] 39)
  have ho := (Only.refl (fun _ => False) w).alloc (.cells #[.int .i64 at_, .int .i64 op, .int .i64 a, .int .i64 b, .int .i64 size] 39)
  have c1 := progShape op (w.alloc (.cells #[.int .i64 at_, .int .i64 op, .int .i64 a, .int .i64 b, .int .i64 size] 39))
  obtain ⟨ld, hld⟩ : ∃ ld, ld = isLead ⟨at_, op, a, b, size⟩ := ⟨_, rfl⟩
  have hz : leadZ ⟨at_, op, a, b, size⟩ = if ld then a else 0 := by unfold leadZ; rw [hld]
  rw [hz, ← hld]
  unfold isLead at hld
  simp only at hld
  have HB := Lib.hid hb
  have HO := Lib.hid ho
  unfold valI
  simp only
  generalize shapeK op = s at *
  generalize isK op = kk at *
  have C1 := Lib.hid c1
  clear hb ho c1 hz
  cases ld
  · have hs : (s != 116) = true := by rw [bne, ← hld]; rfl
    clear hld
    go_enter Try.func15, Try.ntmps15
    go_wp2_with (fail)
    refine C1.out.mono ?_
    rintro e w1 ⟨rfl, ho1⟩
    have HO1 := Lib.hid (HO.out.trans ho1 (fun _ h _ => h))
    clear ho1
    go_wp2
    go_ret2
    exact ⟨rfl, HO1.out⟩
  · have hs : s = 116 := by simpa using hld.symm
    subst hs
    clear hld
    go_enter Try.func15, Try.ntmps15
    go_wp2_with (fail)
    refine C1.out.mono ?_
    rintro e w1 ⟨rfl, ho1⟩
    have hb1 := ho1.heap HB.out (fun h => h)
    obtain ⟨q0, q1, q2, q3, q4⟩ := cells5 hb1
    have HO1 := Lib.hid (HO.out.trans ho1 (fun _ h _ => h))
    clear ho1 hb1
    go_wp2
    go_ret2
    exact ⟨rfl, HO1.out⟩


set_option maxHeartbeats 2000000 in
set_option maxRecDepth 100000 in
theorem isAt (k : InstrV) (x : Int) (b : Nat) (w : World) (hx : w.cell? ⟨b, 0, none⟩ = some (.int .i64 x)) : Calls Try.prog 27 #[valI k, .pointer (some ⟨b, 0, none⟩)] w fun e w' => e = .returned (.bool (k.at_ == x)) ∧ Only (fun _ => False) w w' := by
  obtain ⟨at_, op, a, bb, size⟩ := k
  have ho := (Only.refl (fun _ => False) w).alloc (.cells #[.int .i64 at_, .int .i64 op, .int .i64 a, .int .i64 bb, .int .i64 size] 39)
  have hx2 := ho.cell hx (fun h => h)
  have HO := Lib.hid ho
  clear ho hx
  unfold valI
  simp only
  go_enter Try.func27, Try.ntmps27
  go_wp2
  go_ret
  exact ⟨rfl, HO.out⟩

set_option maxHeartbeats 4000000 in
set_option maxRecDepth 100000 in
theorem indexI (v : Value) (l : List InstrV) (x : Int) (b : Nat) (w : World) (hl : Instrs w v l) (hx : w.cell? ⟨b, 0, none⟩ = some (.int .i64 x)) (hn : l.length ≤ 9223372036854775806) :
    Calls Try.prog 26 #[v, .func (.func 27) #[] #[.pointer (some ⟨b, 0, none⟩)]] w fun e w' => e = .returned (.int .i64 (atZ l x)) ∧ Only (fun _ => False) w w' := by
  obtain ⟨ao, cap, rfl, h1, h2, h3, h4⟩ := id hl
  have HL := Lib.hid hl
  have HX := Lib.hid hx
  have hen : ∀ args w, (callFunc 27 args).run Try.prog w = .ok (.enter 27 args) w := enters_of Try.func27 (by kernel_rfl) rfl
  clear hl h3 h4 hx
  go_enter Try.func26, Try.ntmps26
  go_wp2
  go_loopw [8] (fun i wr => ∃ j : Nat, i = .int .i64 j ∧ j ≤ l.length ∧ atZ l x = atFrom x j (l.drop j) ∧ Only (fun _ => False) w wr) (fun i _ => l.length - (intOf i).toNat)
  case atStart => exact ⟨0, rfl, Nat.zero_le _, rfl, Only.refl _ _⟩
  case round =>
    obtain ⟨j, rfl, hj, hat, hon⟩ := hrel
    have HON := Lib.hid hon
    by_cases hlt : j < l.length
    · obtain ⟨bb, o, rfl, c⟩ := Sl.at (HL.out.only hon) hlt
      have hd : l.drop j = l.getD j default :: l.drop (j + 1) := by
        rw [List.drop_eq_getElem_cons hlt]; simp [List.getD, hlt]
      have hjz : (j : Int) < (l.length : Int) := by omega
      have c1 := isAt (l.getD j default) x b wr (hon.cell HX.out (fun h => h))
      obtain ⟨q0, q1, q2, q3, q4⟩ := c
      by_cases hx : (l.getD j default).at_ = x
      · have HR := Lib.hid (show atZ l x = j by rw [hat, atFrom_here hd hx])
        rw [show ((l.getD j default).at_ == x) = true by simpa using hx] at c1
        unfold valI at c1
        have C1 := Lib.hid c1
        generalize l.getD j default = k at *
        clear hat hd hx hon c1
        go_wp2_with (fail)
        refine C1.out.mono ?_
        rintro e w1 ⟨rfl, ho1⟩
        have HON1 := Lib.hid (HON.out.trans ho1 (fun _ h _ => h))
        clear ho1 C1
        go_wp2
        go_ret
        rw [HR.out]
        exact ⟨rfl, HON1.out⟩
      · have HR := Lib.hid (show atZ l x = atFrom x (j + 1) (l.drop (j + 1)) by rw [hat, atFrom_skip hd hx])
        rw [show ((l.getD j default).at_ == x) = false by rw [beq_eq_false_iff_ne]; exact hx] at c1
        unfold valI at c1
        have C1 := Lib.hid c1
        generalize l.getD j default = k at *
        clear hat hd hx hon c1
        go_wp2_with (fail)
        refine C1.out.mono ?_
        rintro e w1 ⟨rfl, ho1⟩
        have HON1 := Lib.hid (HON.out.trans ho1 (fun _ h _ => h))
        clear ho1 C1
        go_wp2
        go_roundw
        case rel => exact ⟨j + 1, by go_num, by omega, HR.out, HON1.out⟩
        case measure => simp [intOf]; omega
    · have HR := Lib.hid (show atZ l x = -1 by rw [hat, List.drop_of_length_le (by omega)]; rfl)
      obtain rfl : j = l.length := by omega
      clear hat hj hlt hon
      go_wp2
      go_ret
      rw [HR.out]
      exact ⟨rfl, HON.out⟩

set_option maxHeartbeats 2000000 in
set_option maxRecDepth 100000 in
theorem progAt (v : Value) (l : List InstrV) (x : Int) (w : World) (hl : Instrs w v l) (hn : l.length ≤ 9223372036854775806) :
    Calls Try.prog 19 #[v, .int .i64 x] w fun e w' => e = .returned (.int .i64 (atZ l x)) ∧ Only (fun _ => False) w w' := by
  have ho := (Only.refl (fun _ => False) w).alloc (.cells #[.int .i64 x] 3)
  have hb := heap_alloc_new w (.cells #[.int .i64 x] 3)
  have c1 := indexI v l x w.heap.size _ (hl.only ho) (cell_blk hb 0) hn
  have HO := Lib.hid ho
  have C1 := Lib.hid c1
  clear ho hb c1
  go_enter Try.func19, Try.ntmps19
  go_wp2_with (fail)
  refine C1.out.mono ?_
  rintro e w1 ⟨rfl, ho1⟩
  have HO1 := Lib.hid (HO.out.trans ho1 (fun _ h _ => h))
  clear ho1 C1
  go_wp2
  go_ret
  exact ⟨rfl, HO1.out⟩
end Go.Proofs.Ytngoajhnnlnphaa
