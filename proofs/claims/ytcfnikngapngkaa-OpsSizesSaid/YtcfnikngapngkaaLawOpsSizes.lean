/- PROVED: the law OpsSizes: an instruction has as many bytes as its shape says, and what is read of it does not hang on what stands behind; the arguments read as before. For every input. No condition. -/
import Derived.Test.YtcfnikngapngkaaOpsI
import Derived.Test.YtcfnikngapngkaaOpsE
import Derived.Test.YtcfnikngapngkaaOpsD
import Derived.Test.YtcfnikngapngkaaPart
import Derived.Test.YtcfnikngapngkaaArg
import Derived.Test.YtcfnikngapngkaaBig
import Derived.ProofKit
import Derived.ShutString
import Derived.ChangeOld
import Derived.Below
import Derived.PinnedBridge
namespace Go.Proofs.Ytcfnikngapngkaa.opsSizes
open Go.ChangeShapes Go.WideShapes Go.ChangeAt Go.RowKit
set_option linter.unusedVariables false
set_option linter.unusedSimpArgs false

theorem src_only {w w' : World} {v : Value} {m : Nat} {news : List Value} (h : Src w 1 v m news) (ho : Only (fun _ => False) w w') : Src w' 1 v m news := by
  obtain ⟨h1, h2, ao, c, h3, h4, h5⟩ := h
  exact ⟨h1, h2, ao, c, h3, h4, fun ad had j u hu => ho.cell (h5 ad had j u hu) (fun h => h)⟩
/-- What is read at the beginning of some bytes. -/
theorem decZ0 (zs : List Int) : decZ zs 0 = decAt 0 zs := by
  unfold decZ
  rw [if_neg (by omega)]
  rfl
set_option maxHeartbeats 16000000 in
set_option maxRecDepth 100000 in
theorem walk (v0 v1 : Value) (w : World) (w0 : ∃ zs, Bytes w v0 zs ∧ zs.length ≤ 140737488351232) (w1 : ∃ zs, Bytes w v1 zs ∧ zs.length ≤ 140737488351232) :
    Calls Try.prog 9 #[v0, v1] w fun e w' => e = .returned (.bool true) ∧ Below w.heap.size w w' := by
  obtain ⟨zs, hb, hl⟩ := w0
  obtain ⟨ys, hb1, hl1⟩ := w1
  obtain ⟨i0, hi, hz0, hz1, hz2⟩ := info_parts info_u8
  obtain ⟨ao, cap, rfl, hq1, hq2, hq3, hbz, hcells⟩ := id hb
  obtain ⟨ao1, cap1, rfl, hp1, hp2, hp3, hby, hcells1⟩ := id hb1
  unfold maxLen at hq2 hp2
  have c1 := progDecode _ zs 0 w hb (by omega)
  rw [decZ0] at c1
  have Hb := Lib.hid hb
  have Hb1 := Lib.hid hb1
  have HBZ := Lib.hid hbz
  have HBY := Lib.hid hby
  clear hb1 hcells hcells1 hq3 hp3 hbz hby
  have herr : ∀ e : Int, e = 3 ∨ e = 60 → decAt 0 zs = (zeroI, e) → Calls Try.prog 9 #[.slice ao zs.length cap, .slice ao1 ys.length cap1] w fun e w' => e = .returned (.bool true) ∧ Below w.heap.size w w' := by
    intro e he hd
    rw [hd] at c1
    unfold valI zeroI at c1
    have eq1 : ∀ w : World, (binOp .eql 29 (.agg #[.int .i64 0, .int .i64 0, .int .i64 0, .int .i64 0, .int .i64 0]) (.agg #[.int .i64 0, .int .i64 0, .int .i64 0, .int .i64 0, .int .i64 0])).run Try.prog w = .ok (.bool true) w := fun w => by
      have := eql_instr zeroI zeroI w
      rw [beq_self_eq_true] at this
      exact this
    have g1 := guard_instr
    have C1 := Lib.hid c1
    clear c1 hd hb
    rcases he with rfl | rfl
    all_goals
      go_enter Try.func9, Try.ntmps9
      go_wp2_with (fail)
      refine C1.out.mono ?_
      rintro e w1 ⟨rfl, ho1⟩
      have hon1 := ho1.trans ((Only.refl (fun _ => False) w1).alloc (.cells #[.int .i64 0, .int .i64 0, .int .i64 0, .int .i64 0, .int .i64 0] 29)) (fun _ h _ => h)
      have HON1 := Lib.hid hon1
      clear ho1 hon1
      go_wp2_with (fail)
      refine (progAwake _).mono ?_
      rintro e w2 ⟨rfl, ho2⟩
      have HON2 := Lib.hid (HON1.out.trans ho2 (fun _ h _ => h))
      clear ho2
      go_wp2
      go_ret
      exact ⟨rfl, HON2.out.none⟩
  rcases dec_err zs 0 with h0 | h0 | h0
  rotate_left 1
  · exact herr 3 (by omega) h0
  · exact herr 60 (by omega) h0
  clear herr
  obtain ⟨k, hk⟩ : ∃ k, decAt 0 zs = (k, 0) := ⟨_, Prod.ext rfl h0⟩
  rw [hk] at c1
  obtain ⟨s1, s2, s3⟩ := dec_size hk
  have hL := fun n hn => dec_more (ys := ys) hk n hn
  have cS := fun w => progShape k.op w
  rw [s1] at cS
  clear hk h0 s1
  have hcs : (shapeK k.op = 45 ∧ k.size = 1) ∨ (shapeK k.op = 98 ∧ k.size = 2) ∨ (shapeK k.op = 117 ∧ k.size = 2) ∨ (((shapeK k.op == 45) = false ∧ (shapeK k.op == 98) = false ∧ (shapeK k.op == 117) = false) ∧ k.size = 3) := by
    by_cases h1 : shapeK k.op = 45
    · left; rw [if_pos h1] at s2; exact ⟨h1, s2⟩
    · rw [if_neg h1] at s2
      by_cases h2 : shapeK k.op = 98
      · right; left; rw [if_pos (Or.inl h2)] at s2; exact ⟨h2, s2⟩
      · by_cases h3 : shapeK k.op = 117
        · right; right; left; rw [if_pos (Or.inr h3)] at s2; exact ⟨h3, s2⟩
        · right; right; right
          rw [if_neg (by omega)] at s2
          exact ⟨⟨by rw [beq_eq_false_iff_ne]; exact h1, by rw [beq_eq_false_iff_ne]; exact h2, by rw [beq_eq_false_iff_ne]; exact h3⟩, s2⟩
  clear s2
  generalize shapeK k.op = s at *
  obtain ⟨at_, op, a, b, size⟩ := k
  simp only at s3 hcs cS
  subst s3
  unfold valI at c1
  simp only at c1
  rcases hcs with ⟨rfl, rfl⟩ | ⟨rfl, rfl⟩ | ⟨rfl, rfl⟩ | ⟨⟨e1, e2, e3⟩, rfl⟩
  · obtain ⟨hn1, hd2, hd3⟩ := hL 1 rfl
    obtain ⟨g, o, rfl⟩ := hb.addr (by omega)
    have hbn := Bytes.first hb 1 hn1
    have hbm := Bytes.first hb 0 (by omega)
    have hzm : (zs.take 0).length = 0 := by simp <;> omega
    obtain ⟨xs, hxs⟩ : ∃ xs, xs = zs.take 1 := ⟨_, rfl⟩
    have hxl : xs.length = 1 := by rw [hxs]; simp; omega
    rw [← hxs] at hbn hd2
    obtain ⟨us, hus⟩ : ∃ us, us = zs.take (1 - 1) := ⟨_, rfl⟩
    have hul : us.length ≤ 3 := by rw [hus]; simp <;> omega
    rw [← hus] at hd3
    rw [show zs.take 0 = us from hus.symm] at hbm
    have hsx := Src.of_bytes (v := .slice (some ⟨g, o, none⟩) 1 cap) (w := w) (zs := xs) (by have := hbn; exact this)
    have hcap : 1 ≤ cap := by omega
    have hcz : (1 : Int) ≤ (cap : Int) := by omega
    have hzl : (1 : Int) ≤ (zs.length : Int) := by omega
    have hzl2 : ¬ (zs.length : Int) < 1 := by omega
    have c2 := fun w' v hb' => progDecode v (xs ++ ys) 0 w' hb' (by rw [List.length_append]; omega)
    rw [decZ0, hd2] at c2
    have c3 := fun w' v hb' => progDecode v us 0 w' hb' (by omega)
    rw [decZ0, hd3] at c3
    unfold valI at c2
    unfold valI zeroI at c3
    simp only at c2 c3
    have hxz : Bytish xs := by rw [hxs]; exact HBZ.out.take _
    have eq1 : ∀ w : World, (binOp .eql 29 (.agg #[.int .i64 0, .int .i64 op, .int .i64 a, .int .i64 b, .int .i64 1]) (.agg #[.int .i64 0, .int .i64 op, .int .i64 a, .int .i64 b, .int .i64 1])).run Try.prog w = .ok (.bool true) w := fun w => by
      have := eql_instr ⟨0, op, a, b, 1⟩ ⟨0, op, a, b, 1⟩ w
      rw [beq_self_eq_true] at this
      exact this
    have EQ1 := Lib.hid eq1
    have C1 := Lib.hid c1
    have CS := Lib.hid cS
    have C2 := Lib.hid c2
    have C3 := Lib.hid c3
    have HXL := Lib.hid hxl
    have HXZ := Lib.hid hxz
    have HSX0 := Lib.hid hsx
    have HBM := Lib.hid hbm
    clear hd2 hd3 hbn hbm hzm hxs hxl hus hul hsx c2 c3 hxz eq1 c1 cS hL hb hn1
    go_enter Try.func9, Try.ntmps9
    go_wp2_with (fail)
    refine C1.out.mono ?_
    rintro e w1 ⟨rfl, ho1⟩
    have hal := (Only.refl (fun _ => False) w1).alloc (.cells #[.int .i64 0, .int .i64 op, .int .i64 a, .int .i64 b, .int .i64 1] 29)
    have hx1 := heap_alloc_new w1 (.cells #[.int .i64 0, .int .i64 op, .int .i64 a, .int .i64 b, .int .i64 1] 29)
    have hon1 := ho1.trans hal (fun _ h _ => h)
    have HX1 := Lib.hid hx1
    have HON1 := Lib.hid hon1
    clear hal hx1 hon1 ho1 C1
    go_wp2_with (fail)
    refine (CS.out _).mono ?_
    rintro e w2 ⟨rfl, ho2⟩
    have hx2 := ho2.heap HX1.out (fun h => h)
    have hon2 := HON1.out.trans ho2 (fun _ h _ => h)
    obtain ⟨q0, q1, q2, q3, q4⟩ := cells5 hx2
    have HX2 := Lib.hid hx2
    have HON2 := Lib.hid hon2
    have HSX := Lib.hid (src_only HSX0.out hon2)
    clear hx2 hon2 ho2 CS HX1 HON1
    go_wp2_with (first | (at_builtin; refine wpList_append_src rfl (.tmp 52) (.tmp 55) 27 rfl 5 i0 (.int .u8 0) 1 1 Try.underlying27 hi hz0 hz1 hz2 rfl (by decide) w2.heap.size (.slice (some ⟨w2.heap.size, 0, none⟩) 0 0) 0 [] rfl (by exact made0 w2) (by simp) (.slice (some ⟨g, o, none⟩) 1 cap) xs.length (xs.map (Value.int .u8)) rfl (by exact HSX.out.alloc _) (by unfold maxLen; have := HXL.out; omega) (by have := HXL.out; omega) ?_; intro v3 w3 hown hgrow hnew; obtain ⟨hr3, ho3⟩ := Row.copied hown hgrow hnew; clear hown hgrow hnew; have HR3 := Lib.hid hr3; have HO3 := Lib.hid ho3; clear hr3 ho3) | (at_builtin; go_loud (refine wpList_append_src rfl (.tmp 56) (.tmp 57) 27 rfl 5 i0 (.int .u8 0) 1 1 Try.underlying27 hi hz0 hz1 hz2 rfl (by decide) w2.heap.size v3 xs.length (xs.map (Value.int .u8)) rfl (by exact HR3.out) (by exact HO3.out.size) (.slice ao1 ys.length cap1) ys.length (ys.map (Value.int .u8)) rfl (by exact Src.of_bytes (Hb1.out.only (HON2.out.trans HO3.out (fun _ h _ => h)) (fun _ _ _ h => h))) (by unfold maxLen; have := HXL.out; omega) (by have := HXL.out; omega) ?_); intro v4 w4 hown hgrow hnew; obtain ⟨hr4, ho4⟩ := Row.push HR3.out HO3.out hown hgrow hnew; clear hown hgrow hnew))
    have hz4 : Bytish (xs ++ ys) := HXZ.out.append HBY.out
    refine (C2.out _ _ (hr4.bytes hz4)).mono ?_
    rintro e w5 ⟨rfl, ho5⟩
    have hon5 := (HON2.out.trans ho4 (fun _ h _ => h)).trans ho5 (fun _ h _ => h)
    have hx5 := ho5.heap (ho4.heap HX2.out (fun h => h)) (fun h => h)
    have hal := (Only.refl (fun _ => False) w5).alloc (.cells #[.int .i64 0, .int .i64 op, .int .i64 a, .int .i64 b, .int .i64 1] 29)
    have hy6 := heap_alloc_new w5 (.cells #[.int .i64 0, .int .i64 op, .int .i64 a, .int .i64 b, .int .i64 1] 29)
    have hx6 := hal.heap hx5 (fun h => h)
    have hon6 := hon5.trans hal (fun _ h _ => h)
    have HX6 := Lib.hid hx6
    have HY6 := Lib.hid hy6
    have HON6 := Lib.hid hon6
    clear hz4 hr4 ho4 ho5 hon5 hx5 hal hy6 hx6 hon6 C2 HX2 HON2 HR3 HO3 q0 q1 q2 q3 q4
    go_wp2_with (fail)
    refine (C3.out _ _ (HBM.out.only HON6.out (fun _ _ _ h => h))).mono ?_
    rintro e w7 ⟨rfl, ho7⟩
    have hal := (Only.refl (fun _ => False) w7).alloc (.cells #[.int .i64 0, .int .i64 0, .int .i64 0, .int .i64 0, .int .i64 0] 29)
    have hx8 := hal.heap (ho7.heap HX6.out (fun h => h)) (fun h => h)
    have hy8 := hal.heap (ho7.heap HY6.out (fun h => h)) (fun h => h)
    have hon8 := (HON6.out.trans ho7 (fun _ h _ => h)).trans hal (fun _ h _ => h)
    obtain ⟨q0, q1, q2, q3, q4⟩ := cells5 hx8
    obtain ⟨p0, p1, p2, p3, p4⟩ := cells5 hy8
    have HON8 := Lib.hid hon8
    have eq1 := EQ1.out
    have g1 := guard_instr
    clear hal hx8 hy8 hon8 ho7 C3 HX6 HY6 HON6
    go_wp2
    go_ret
    exact ⟨rfl, HON8.out.none⟩
  · obtain ⟨hn1, hd2, hd3⟩ := hL 2 rfl
    obtain ⟨g, o, rfl⟩ := hb.addr (by omega)
    have hbn := Bytes.first hb 2 hn1
    have hbm := Bytes.first hb 1 (by omega)
    have hzm : (zs.take 1).length = 1 := by simp <;> omega
    obtain ⟨xs, hxs⟩ : ∃ xs, xs = zs.take 2 := ⟨_, rfl⟩
    have hxl : xs.length = 2 := by rw [hxs]; simp; omega
    rw [← hxs] at hbn hd2
    obtain ⟨us, hus⟩ : ∃ us, us = zs.take (2 - 1) := ⟨_, rfl⟩
    have hul : us.length ≤ 3 := by rw [hus]; simp <;> omega
    rw [← hus] at hd3
    rw [show zs.take 1 = us from hus.symm] at hbm
    have hsx := Src.of_bytes (v := .slice (some ⟨g, o, none⟩) 2 cap) (w := w) (zs := xs) (by have := hbn; exact this)
    have hcap : 2 ≤ cap := by omega
    have hcz : (2 : Int) ≤ (cap : Int) := by omega
    have hzl : (2 : Int) ≤ (zs.length : Int) := by omega
    have hzl2 : ¬ (zs.length : Int) < 2 := by omega
    have c2 := fun w' v hb' => progDecode v (xs ++ ys) 0 w' hb' (by rw [List.length_append]; omega)
    rw [decZ0, hd2] at c2
    have c3 := fun w' v hb' => progDecode v us 0 w' hb' (by omega)
    rw [decZ0, hd3] at c3
    unfold valI at c2
    unfold valI zeroI at c3
    simp only at c2 c3
    have hxz : Bytish xs := by rw [hxs]; exact HBZ.out.take _
    have eq1 : ∀ w : World, (binOp .eql 29 (.agg #[.int .i64 0, .int .i64 op, .int .i64 a, .int .i64 b, .int .i64 2]) (.agg #[.int .i64 0, .int .i64 op, .int .i64 a, .int .i64 b, .int .i64 2])).run Try.prog w = .ok (.bool true) w := fun w => by
      have := eql_instr ⟨0, op, a, b, 2⟩ ⟨0, op, a, b, 2⟩ w
      rw [beq_self_eq_true] at this
      exact this
    have EQ1 := Lib.hid eq1
    have C1 := Lib.hid c1
    have CS := Lib.hid cS
    have C2 := Lib.hid c2
    have C3 := Lib.hid c3
    have HXL := Lib.hid hxl
    have HXZ := Lib.hid hxz
    have HSX0 := Lib.hid hsx
    have HBM := Lib.hid hbm
    clear hd2 hd3 hbn hbm hzm hxs hxl hus hul hsx c2 c3 hxz eq1 c1 cS hL hb hn1
    go_enter Try.func9, Try.ntmps9
    go_wp2_with (fail)
    refine C1.out.mono ?_
    rintro e w1 ⟨rfl, ho1⟩
    have hal := (Only.refl (fun _ => False) w1).alloc (.cells #[.int .i64 0, .int .i64 op, .int .i64 a, .int .i64 b, .int .i64 2] 29)
    have hx1 := heap_alloc_new w1 (.cells #[.int .i64 0, .int .i64 op, .int .i64 a, .int .i64 b, .int .i64 2] 29)
    have hon1 := ho1.trans hal (fun _ h _ => h)
    have HX1 := Lib.hid hx1
    have HON1 := Lib.hid hon1
    clear hal hx1 hon1 ho1 C1
    go_wp2_with (fail)
    refine (CS.out _).mono ?_
    rintro e w2 ⟨rfl, ho2⟩
    have hx2 := ho2.heap HX1.out (fun h => h)
    have hon2 := HON1.out.trans ho2 (fun _ h _ => h)
    obtain ⟨q0, q1, q2, q3, q4⟩ := cells5 hx2
    have HX2 := Lib.hid hx2
    have HON2 := Lib.hid hon2
    have HSX := Lib.hid (src_only HSX0.out hon2)
    clear hx2 hon2 ho2 CS HX1 HON1
    go_wp2_with (first | (at_builtin; refine wpList_append_src rfl (.tmp 52) (.tmp 55) 27 rfl 5 i0 (.int .u8 0) 1 1 Try.underlying27 hi hz0 hz1 hz2 rfl (by decide) w2.heap.size (.slice (some ⟨w2.heap.size, 0, none⟩) 0 0) 0 [] rfl (by exact made0 w2) (by simp) (.slice (some ⟨g, o, none⟩) 2 cap) xs.length (xs.map (Value.int .u8)) rfl (by exact HSX.out.alloc _) (by unfold maxLen; have := HXL.out; omega) (by have := HXL.out; omega) ?_; intro v3 w3 hown hgrow hnew; obtain ⟨hr3, ho3⟩ := Row.copied hown hgrow hnew; clear hown hgrow hnew; have HR3 := Lib.hid hr3; have HO3 := Lib.hid ho3; clear hr3 ho3) | (at_builtin; go_loud (refine wpList_append_src rfl (.tmp 56) (.tmp 57) 27 rfl 5 i0 (.int .u8 0) 1 1 Try.underlying27 hi hz0 hz1 hz2 rfl (by decide) w2.heap.size v3 xs.length (xs.map (Value.int .u8)) rfl (by exact HR3.out) (by exact HO3.out.size) (.slice ao1 ys.length cap1) ys.length (ys.map (Value.int .u8)) rfl (by exact Src.of_bytes (Hb1.out.only (HON2.out.trans HO3.out (fun _ h _ => h)) (fun _ _ _ h => h))) (by unfold maxLen; have := HXL.out; omega) (by have := HXL.out; omega) ?_); intro v4 w4 hown hgrow hnew; obtain ⟨hr4, ho4⟩ := Row.push HR3.out HO3.out hown hgrow hnew; clear hown hgrow hnew))
    have hz4 : Bytish (xs ++ ys) := HXZ.out.append HBY.out
    refine (C2.out _ _ (hr4.bytes hz4)).mono ?_
    rintro e w5 ⟨rfl, ho5⟩
    have hon5 := (HON2.out.trans ho4 (fun _ h _ => h)).trans ho5 (fun _ h _ => h)
    have hx5 := ho5.heap (ho4.heap HX2.out (fun h => h)) (fun h => h)
    have hal := (Only.refl (fun _ => False) w5).alloc (.cells #[.int .i64 0, .int .i64 op, .int .i64 a, .int .i64 b, .int .i64 2] 29)
    have hy6 := heap_alloc_new w5 (.cells #[.int .i64 0, .int .i64 op, .int .i64 a, .int .i64 b, .int .i64 2] 29)
    have hx6 := hal.heap hx5 (fun h => h)
    have hon6 := hon5.trans hal (fun _ h _ => h)
    have HX6 := Lib.hid hx6
    have HY6 := Lib.hid hy6
    have HON6 := Lib.hid hon6
    clear hz4 hr4 ho4 ho5 hon5 hx5 hal hy6 hx6 hon6 C2 HX2 HON2 HR3 HO3 q0 q1 q2 q3 q4
    go_wp2_with (fail)
    refine (C3.out _ _ (HBM.out.only HON6.out (fun _ _ _ h => h))).mono ?_
    rintro e w7 ⟨rfl, ho7⟩
    have hal := (Only.refl (fun _ => False) w7).alloc (.cells #[.int .i64 0, .int .i64 0, .int .i64 0, .int .i64 0, .int .i64 0] 29)
    have hx8 := hal.heap (ho7.heap HX6.out (fun h => h)) (fun h => h)
    have hy8 := hal.heap (ho7.heap HY6.out (fun h => h)) (fun h => h)
    have hon8 := (HON6.out.trans ho7 (fun _ h _ => h)).trans hal (fun _ h _ => h)
    obtain ⟨q0, q1, q2, q3, q4⟩ := cells5 hx8
    obtain ⟨p0, p1, p2, p3, p4⟩ := cells5 hy8
    have HON8 := Lib.hid hon8
    have eq1 := EQ1.out
    have g1 := guard_instr
    clear hal hx8 hy8 hon8 ho7 C3 HX6 HY6 HON6
    go_wp2
    go_ret
    exact ⟨rfl, HON8.out.none⟩
  · obtain ⟨hn1, hd2, hd3⟩ := hL 2 rfl
    obtain ⟨g, o, rfl⟩ := hb.addr (by omega)
    have hbn := Bytes.first hb 2 hn1
    have hbm := Bytes.first hb 1 (by omega)
    have hzm : (zs.take 1).length = 1 := by simp <;> omega
    obtain ⟨xs, hxs⟩ : ∃ xs, xs = zs.take 2 := ⟨_, rfl⟩
    have hxl : xs.length = 2 := by rw [hxs]; simp; omega
    rw [← hxs] at hbn hd2
    obtain ⟨us, hus⟩ : ∃ us, us = zs.take (2 - 1) := ⟨_, rfl⟩
    have hul : us.length ≤ 3 := by rw [hus]; simp <;> omega
    rw [← hus] at hd3
    rw [show zs.take 1 = us from hus.symm] at hbm
    have hsx := Src.of_bytes (v := .slice (some ⟨g, o, none⟩) 2 cap) (w := w) (zs := xs) (by have := hbn; exact this)
    have hcap : 2 ≤ cap := by omega
    have hcz : (2 : Int) ≤ (cap : Int) := by omega
    have hzl : (2 : Int) ≤ (zs.length : Int) := by omega
    have hzl2 : ¬ (zs.length : Int) < 2 := by omega
    have c2 := fun w' v hb' => progDecode v (xs ++ ys) 0 w' hb' (by rw [List.length_append]; omega)
    rw [decZ0, hd2] at c2
    have c3 := fun w' v hb' => progDecode v us 0 w' hb' (by omega)
    rw [decZ0, hd3] at c3
    unfold valI at c2
    unfold valI zeroI at c3
    simp only at c2 c3
    have hxz : Bytish xs := by rw [hxs]; exact HBZ.out.take _
    have eq1 : ∀ w : World, (binOp .eql 29 (.agg #[.int .i64 0, .int .i64 op, .int .i64 a, .int .i64 b, .int .i64 2]) (.agg #[.int .i64 0, .int .i64 op, .int .i64 a, .int .i64 b, .int .i64 2])).run Try.prog w = .ok (.bool true) w := fun w => by
      have := eql_instr ⟨0, op, a, b, 2⟩ ⟨0, op, a, b, 2⟩ w
      rw [beq_self_eq_true] at this
      exact this
    have EQ1 := Lib.hid eq1
    have C1 := Lib.hid c1
    have CS := Lib.hid cS
    have C2 := Lib.hid c2
    have C3 := Lib.hid c3
    have HXL := Lib.hid hxl
    have HXZ := Lib.hid hxz
    have HSX0 := Lib.hid hsx
    have HBM := Lib.hid hbm
    clear hd2 hd3 hbn hbm hzm hxs hxl hus hul hsx c2 c3 hxz eq1 c1 cS hL hb hn1
    go_enter Try.func9, Try.ntmps9
    go_wp2_with (fail)
    refine C1.out.mono ?_
    rintro e w1 ⟨rfl, ho1⟩
    have hal := (Only.refl (fun _ => False) w1).alloc (.cells #[.int .i64 0, .int .i64 op, .int .i64 a, .int .i64 b, .int .i64 2] 29)
    have hx1 := heap_alloc_new w1 (.cells #[.int .i64 0, .int .i64 op, .int .i64 a, .int .i64 b, .int .i64 2] 29)
    have hon1 := ho1.trans hal (fun _ h _ => h)
    have HX1 := Lib.hid hx1
    have HON1 := Lib.hid hon1
    clear hal hx1 hon1 ho1 C1
    go_wp2_with (fail)
    refine (CS.out _).mono ?_
    rintro e w2 ⟨rfl, ho2⟩
    have hx2 := ho2.heap HX1.out (fun h => h)
    have hon2 := HON1.out.trans ho2 (fun _ h _ => h)
    obtain ⟨q0, q1, q2, q3, q4⟩ := cells5 hx2
    have HX2 := Lib.hid hx2
    have HON2 := Lib.hid hon2
    have HSX := Lib.hid (src_only HSX0.out hon2)
    clear hx2 hon2 ho2 CS HX1 HON1
    go_wp2_with (first | (at_builtin; refine wpList_append_src rfl (.tmp 52) (.tmp 55) 27 rfl 5 i0 (.int .u8 0) 1 1 Try.underlying27 hi hz0 hz1 hz2 rfl (by decide) w2.heap.size (.slice (some ⟨w2.heap.size, 0, none⟩) 0 0) 0 [] rfl (by exact made0 w2) (by simp) (.slice (some ⟨g, o, none⟩) 2 cap) xs.length (xs.map (Value.int .u8)) rfl (by exact HSX.out.alloc _) (by unfold maxLen; have := HXL.out; omega) (by have := HXL.out; omega) ?_; intro v3 w3 hown hgrow hnew; obtain ⟨hr3, ho3⟩ := Row.copied hown hgrow hnew; clear hown hgrow hnew; have HR3 := Lib.hid hr3; have HO3 := Lib.hid ho3; clear hr3 ho3) | (at_builtin; go_loud (refine wpList_append_src rfl (.tmp 56) (.tmp 57) 27 rfl 5 i0 (.int .u8 0) 1 1 Try.underlying27 hi hz0 hz1 hz2 rfl (by decide) w2.heap.size v3 xs.length (xs.map (Value.int .u8)) rfl (by exact HR3.out) (by exact HO3.out.size) (.slice ao1 ys.length cap1) ys.length (ys.map (Value.int .u8)) rfl (by exact Src.of_bytes (Hb1.out.only (HON2.out.trans HO3.out (fun _ h _ => h)) (fun _ _ _ h => h))) (by unfold maxLen; have := HXL.out; omega) (by have := HXL.out; omega) ?_); intro v4 w4 hown hgrow hnew; obtain ⟨hr4, ho4⟩ := Row.push HR3.out HO3.out hown hgrow hnew; clear hown hgrow hnew))
    have hz4 : Bytish (xs ++ ys) := HXZ.out.append HBY.out
    refine (C2.out _ _ (hr4.bytes hz4)).mono ?_
    rintro e w5 ⟨rfl, ho5⟩
    have hon5 := (HON2.out.trans ho4 (fun _ h _ => h)).trans ho5 (fun _ h _ => h)
    have hx5 := ho5.heap (ho4.heap HX2.out (fun h => h)) (fun h => h)
    have hal := (Only.refl (fun _ => False) w5).alloc (.cells #[.int .i64 0, .int .i64 op, .int .i64 a, .int .i64 b, .int .i64 2] 29)
    have hy6 := heap_alloc_new w5 (.cells #[.int .i64 0, .int .i64 op, .int .i64 a, .int .i64 b, .int .i64 2] 29)
    have hx6 := hal.heap hx5 (fun h => h)
    have hon6 := hon5.trans hal (fun _ h _ => h)
    have HX6 := Lib.hid hx6
    have HY6 := Lib.hid hy6
    have HON6 := Lib.hid hon6
    clear hz4 hr4 ho4 ho5 hon5 hx5 hal hy6 hx6 hon6 C2 HX2 HON2 HR3 HO3 q0 q1 q2 q3 q4
    go_wp2_with (fail)
    refine (C3.out _ _ (HBM.out.only HON6.out (fun _ _ _ h => h))).mono ?_
    rintro e w7 ⟨rfl, ho7⟩
    have hal := (Only.refl (fun _ => False) w7).alloc (.cells #[.int .i64 0, .int .i64 0, .int .i64 0, .int .i64 0, .int .i64 0] 29)
    have hx8 := hal.heap (ho7.heap HX6.out (fun h => h)) (fun h => h)
    have hy8 := hal.heap (ho7.heap HY6.out (fun h => h)) (fun h => h)
    have hon8 := (HON6.out.trans ho7 (fun _ h _ => h)).trans hal (fun _ h _ => h)
    obtain ⟨q0, q1, q2, q3, q4⟩ := cells5 hx8
    obtain ⟨p0, p1, p2, p3, p4⟩ := cells5 hy8
    have HON8 := Lib.hid hon8
    have eq1 := EQ1.out
    have g1 := guard_instr
    clear hal hx8 hy8 hon8 ho7 C3 HX6 HY6 HON6
    go_wp2
    go_ret
    exact ⟨rfl, HON8.out.none⟩
  · obtain ⟨hn1, hd2, hd3⟩ := hL 3 rfl
    obtain ⟨g, o, rfl⟩ := hb.addr (by omega)
    have hbn := Bytes.first hb 3 hn1
    have hbm := Bytes.first hb 2 (by omega)
    have hzm : (zs.take 2).length = 2 := by simp <;> omega
    obtain ⟨xs, hxs⟩ : ∃ xs, xs = zs.take 3 := ⟨_, rfl⟩
    have hxl : xs.length = 3 := by rw [hxs]; simp; omega
    rw [← hxs] at hbn hd2
    obtain ⟨us, hus⟩ : ∃ us, us = zs.take (3 - 1) := ⟨_, rfl⟩
    have hul : us.length ≤ 3 := by rw [hus]; simp <;> omega
    rw [← hus] at hd3
    rw [show zs.take 2 = us from hus.symm] at hbm
    have hsx := Src.of_bytes (v := .slice (some ⟨g, o, none⟩) 3 cap) (w := w) (zs := xs) (by have := hbn; exact this)
    have hcap : 3 ≤ cap := by omega
    have hcz : (3 : Int) ≤ (cap : Int) := by omega
    have hzl : (3 : Int) ≤ (zs.length : Int) := by omega
    have hzl2 : ¬ (zs.length : Int) < 3 := by omega
    have c2 := fun w' v hb' => progDecode v (xs ++ ys) 0 w' hb' (by rw [List.length_append]; omega)
    rw [decZ0, hd2] at c2
    have c3 := fun w' v hb' => progDecode v us 0 w' hb' (by omega)
    rw [decZ0, hd3] at c3
    unfold valI at c2
    unfold valI zeroI at c3
    simp only at c2 c3
    have hxz : Bytish xs := by rw [hxs]; exact HBZ.out.take _
    have eq1 : ∀ w : World, (binOp .eql 29 (.agg #[.int .i64 0, .int .i64 op, .int .i64 a, .int .i64 b, .int .i64 3]) (.agg #[.int .i64 0, .int .i64 op, .int .i64 a, .int .i64 b, .int .i64 3])).run Try.prog w = .ok (.bool true) w := fun w => by
      have := eql_instr ⟨0, op, a, b, 3⟩ ⟨0, op, a, b, 3⟩ w
      rw [beq_self_eq_true] at this
      exact this
    have EQ1 := Lib.hid eq1
    have C1 := Lib.hid c1
    have CS := Lib.hid cS
    have C2 := Lib.hid c2
    have C3 := Lib.hid c3
    have HXL := Lib.hid hxl
    have HXZ := Lib.hid hxz
    have HSX0 := Lib.hid hsx
    have HBM := Lib.hid hbm
    clear hd2 hd3 hbn hbm hzm hxs hxl hus hul hsx c2 c3 hxz eq1 c1 cS hL hb hn1
    go_enter Try.func9, Try.ntmps9
    go_wp2_with (fail)
    refine C1.out.mono ?_
    rintro e w1 ⟨rfl, ho1⟩
    have hal := (Only.refl (fun _ => False) w1).alloc (.cells #[.int .i64 0, .int .i64 op, .int .i64 a, .int .i64 b, .int .i64 3] 29)
    have hx1 := heap_alloc_new w1 (.cells #[.int .i64 0, .int .i64 op, .int .i64 a, .int .i64 b, .int .i64 3] 29)
    have hon1 := ho1.trans hal (fun _ h _ => h)
    have HX1 := Lib.hid hx1
    have HON1 := Lib.hid hon1
    clear hal hx1 hon1 ho1 C1
    go_wp2_with (fail)
    refine (CS.out _).mono ?_
    rintro e w2 ⟨rfl, ho2⟩
    have hx2 := ho2.heap HX1.out (fun h => h)
    have hon2 := HON1.out.trans ho2 (fun _ h _ => h)
    obtain ⟨q0, q1, q2, q3, q4⟩ := cells5 hx2
    have HX2 := Lib.hid hx2
    have HON2 := Lib.hid hon2
    have HSX := Lib.hid (src_only HSX0.out hon2)
    clear hx2 hon2 ho2 CS HX1 HON1
    go_wp2_with (first | (at_builtin; refine wpList_append_src rfl (.tmp 52) (.tmp 55) 27 rfl 5 i0 (.int .u8 0) 1 1 Try.underlying27 hi hz0 hz1 hz2 rfl (by decide) w2.heap.size (.slice (some ⟨w2.heap.size, 0, none⟩) 0 0) 0 [] rfl (by exact made0 w2) (by simp) (.slice (some ⟨g, o, none⟩) 3 cap) xs.length (xs.map (Value.int .u8)) rfl (by exact HSX.out.alloc _) (by unfold maxLen; have := HXL.out; omega) (by have := HXL.out; omega) ?_; intro v3 w3 hown hgrow hnew; obtain ⟨hr3, ho3⟩ := Row.copied hown hgrow hnew; clear hown hgrow hnew; have HR3 := Lib.hid hr3; have HO3 := Lib.hid ho3; clear hr3 ho3) | (at_builtin; go_loud (refine wpList_append_src rfl (.tmp 56) (.tmp 57) 27 rfl 5 i0 (.int .u8 0) 1 1 Try.underlying27 hi hz0 hz1 hz2 rfl (by decide) w2.heap.size v3 xs.length (xs.map (Value.int .u8)) rfl (by exact HR3.out) (by exact HO3.out.size) (.slice ao1 ys.length cap1) ys.length (ys.map (Value.int .u8)) rfl (by exact Src.of_bytes (Hb1.out.only (HON2.out.trans HO3.out (fun _ h _ => h)) (fun _ _ _ h => h))) (by unfold maxLen; have := HXL.out; omega) (by have := HXL.out; omega) ?_); intro v4 w4 hown hgrow hnew; obtain ⟨hr4, ho4⟩ := Row.push HR3.out HO3.out hown hgrow hnew; clear hown hgrow hnew))
    have hz4 : Bytish (xs ++ ys) := HXZ.out.append HBY.out
    refine (C2.out _ _ (hr4.bytes hz4)).mono ?_
    rintro e w5 ⟨rfl, ho5⟩
    have hon5 := (HON2.out.trans ho4 (fun _ h _ => h)).trans ho5 (fun _ h _ => h)
    have hx5 := ho5.heap (ho4.heap HX2.out (fun h => h)) (fun h => h)
    have hal := (Only.refl (fun _ => False) w5).alloc (.cells #[.int .i64 0, .int .i64 op, .int .i64 a, .int .i64 b, .int .i64 3] 29)
    have hy6 := heap_alloc_new w5 (.cells #[.int .i64 0, .int .i64 op, .int .i64 a, .int .i64 b, .int .i64 3] 29)
    have hx6 := hal.heap hx5 (fun h => h)
    have hon6 := hon5.trans hal (fun _ h _ => h)
    have HX6 := Lib.hid hx6
    have HY6 := Lib.hid hy6
    have HON6 := Lib.hid hon6
    clear hz4 hr4 ho4 ho5 hon5 hx5 hal hy6 hx6 hon6 C2 HX2 HON2 HR3 HO3 q0 q1 q2 q3 q4
    go_wp2_with (fail)
    refine (C3.out _ _ (HBM.out.only HON6.out (fun _ _ _ h => h))).mono ?_
    rintro e w7 ⟨rfl, ho7⟩
    have hal := (Only.refl (fun _ => False) w7).alloc (.cells #[.int .i64 0, .int .i64 0, .int .i64 0, .int .i64 0, .int .i64 0] 29)
    have hx8 := hal.heap (ho7.heap HX6.out (fun h => h)) (fun h => h)
    have hy8 := hal.heap (ho7.heap HY6.out (fun h => h)) (fun h => h)
    have hon8 := (HON6.out.trans ho7 (fun _ h _ => h)).trans hal (fun _ h _ => h)
    obtain ⟨q0, q1, q2, q3, q4⟩ := cells5 hx8
    obtain ⟨p0, p1, p2, p3, p4⟩ := cells5 hy8
    have HON8 := Lib.hid hon8
    have eq1 := EQ1.out
    have g1 := guard_instr
    clear hal hx8 hy8 hon8 ho7 C3 HX6 HY6 HON6
    go_wp2
    go_ret
    exact ⟨rfl, HON8.out.none⟩

theorem own : ownKnob Try.prog.godebug = none := by kernel_rfl
theorem laidOut : laidOutB Try.prog = true := by kernel_rfl

set_option maxRecDepth 100000 in
theorem lifted (os : Os) (started : os.Started) (H : Type) (enc : TypeId × Value → H) :
    ReturnsInHanded {} Try.checked os 9 .any (Rows.opsSizesSpec.pre6 enc Try.prog Try.f9 Rows.opsSizesRow.domain false) (Rows.opsSizesSpec.post enc Try.prog Try.f9 false true false false) := by
  refine returnsInHanded_of_change_sized (C := Try.checked) own started (by kernel_rfl) Try.func9
    (ChangeSpec.witness6 (enc := enc) (C := Try.checked) false ⟨#[], #[.slice none 0 0, .slice none 0 0], []⟩ 8 (by kernel_rfl) (by kernel_rfl) (by kernel_rfl) (by kernel_rfl)) ?_
  intro W base args ds gs before hval0 hW hcnd hsz0 _
  have hsz : (DataW.weightsEach Try.prog (Try.f9.params.toList ++ Rows.opsSizesSpec.plain.varTypes Try.prog) (ds ++ gs)).all (· ≤ reachBytes) = true := hsz0
  clear hsz0
  have hval : ∀ (j : Nat) t v, Try.f9.params[j]? = some t → args[j]? = some v → Value.okWide Try.prog W .any base t v := hval0
  have hW' := hW
  obtain ⟨p, q, hA0, hV, rfl, hfz, hnd⟩ := hW
  have hA : DataW.TrodAll enc Try.prog W 0 (fun _ => true) true Try.f9.params.toList args.toList ds p := hA0
  rw [Try.params9] at hA hval hsz
  obtain ⟨v0, vs0, d0, ds0, p0, q0, hargs, rfl, rfl, h0, r0⟩ := trodAll_cons hA
  obtain ⟨v1, vs1, d1, ds1, p1, q1, rfl, rfl, rfl, h1, r1⟩ := trodAll_cons r0
  obtain ⟨rfl, rfl, rfl⟩ := trodAll_nil r1
  obtain rfl : args = #[v0, v1] := by cases args; simp_all
  obtain ⟨rfl, rfl⟩ := trodVars_none hV
  have k0 := h0
  have lt0 : ∀ x ∈ p0, x.block < W.heap.size := by obtain ⟨m, hm⟩ := k0; exact DataW.trod_lt m _ _ _ hm
  have w0 := arg_bytes (hval 0 27 v0 rfl rfl) h0 (light_arg (j := 0) hsz rfl rfl)
  have k1 := h1
  have lt1 : ∀ x ∈ p1, x.block < W.heap.size := by obtain ⟨m, hm⟩ := k1; exact DataW.trod_lt m _ _ _ hm
  have w1 := arg_bytes (hval 1 27 v1 rfl rfl) h1 (light_arg (j := 1) hsz rfl rfl)
  clear hA0 hval0
  refine (walk v0 v1 W w0 w1).mono fun e W' ⟨he, bel⟩ => ?_
  subst he
  exact ⟨_, rfl, _, _, _, [], _, [], hW', trodAll_mk1 (shut_bool Try.underlying4 _), (trodAll_cons_mk (Below.trod laidOut (by kernel_rfl) (of_decide_eq_true (by kernel_rfl)) k0 bel lt0) (trodAll_cons_mk (Below.trod laidOut (by kernel_rfl) (of_decide_eq_true (by kernel_rfl)) k1 bel lt1) trodAll_mk0)), rfl, bel.frame _, fun h => by cases h⟩

theorem over : Rows.opsSizesRow.holds Try.pinned (OpenSpec.ofChange Rows.opsSizesSpec) :=
  OpenClaim.holds_of_wide 9 Try.f9 rfl rfl rfl rfl rfl rfl rfl ⟨rfl, rfl, rfl, rfl, rfl⟩ rfl rfl rfl rfl rfl (by kernel_rfl) Try.func9 (by kernel_rfl)
    (of_decide_eq_true (by kernel_rfl)) (by unfold Func.isWrapper; first | (rw [if_pos (by decide +kernel)]; kernel_rfl) | (rw [if_neg (by decide +kernel)]; exact ⟨rfl, rfl⟩))
    (fun os started H enc _ => lifted os started H enc)

theorem proved : Rows.OpsSizesSaid := over
#print axioms proved
end Go.Proofs.Ytcfnikngapngkaa.opsSizes
