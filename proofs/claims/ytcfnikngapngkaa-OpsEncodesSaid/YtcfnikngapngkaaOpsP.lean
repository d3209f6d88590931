/- The document's own Encode of an instruction. No condition but that its numbers are integers of 64 bits. -/
import Derived.Test.YtcfnikngapngkaaOpsK
namespace Go.Proofs.Ytcfnikngapngkaa
open Go.RowKit
set_option linter.unusedVariables false
set_option linter.unusedSimpArgs false

def btwZ (n a b : Int) : Bool := decide (a ≤ n) && decide (n ≤ b)
set_option maxHeartbeats 1000000 in
theorem refBetween (n a b : Int) (w : World) : Calls Try.prog 33 #[.int .i64 n, .int .i64 a, .int .i64 b] w fun e w' => e = .returned (.bool (btwZ n a b)) ∧ w = w' := by
  by_cases h : a ≤ n
  · go_enter Try.func33, Try.ntmps33
    go_wp2
    go_ret
    refine ⟨?_, rfl⟩
    simp [btwZ, h]
  · go_enter Try.func33, Try.ntmps33
    go_wp2
    go_ret
    refine ⟨?_, rfl⟩
    have h2 : ¬ a ≤ n := by omega
    simp [btwZ, h2]
theorem refBetweenT {n a b : Int} (h : btwZ n a b = true) (w : World) : Calls Try.prog 33 #[.int .i64 n, .int .i64 a, .int .i64 b] w fun e w' => e = .returned (.bool true) ∧ w = w' := by
  have := refBetween n a b w
  rw [h] at this
  exact this
theorem refBetweenF {n a b : Int} (h : btwZ n a b = false) (w : World) : Calls Try.prog 33 #[.int .i64 n, .int .i64 a, .int .i64 b] w fun e w' => e = .returned (.bool false) ∧ w = w' := by
  have := refBetween n a b w
  rw [h] at this
  exact this
/-- What may stand in a shape's bytes, in the document's own order. -/
theorem fine45 (t o a b z : Int) : fineZ 45 ⟨t, o, a, b, z⟩ = ((b == 0) && (a == 0)) := by
  simp [fineZ, fitZ, numA, sgA, lenA, lenB, leadsZ, Bool.and_comm]
theorem fit1t (a : Int) : fitZ true 1 a = btwZ a (-128) 127 := by
  rw [Bool.eq_iff_iff]; simp [fitZ, btwZ]; omega
theorem fit1f (a : Int) : fitZ false 1 a = btwZ a 0 255 := by
  rw [Bool.eq_iff_iff]; simp [fitZ, btwZ]; omega
theorem fit2t (a : Int) : fitZ true 2 a = btwZ a (-32768) 32767 := by
  rw [Bool.eq_iff_iff]; simp [fitZ, btwZ]; omega
theorem fit2f (a : Int) : fitZ false 2 a = btwZ a 0 65535 := by
  rw [Bool.eq_iff_iff]; simp [fitZ, btwZ]; omega
theorem fit0 (sg : Bool) (a : Int) : fitZ sg 0 a = (a == 0) := rfl
theorem fine98 (t o a b z : Int) : fineZ 98 ⟨t, o, a, b, z⟩ = ((b == 0) && btwZ a (-128) 127) := by
  show ((!false || _) && (fitZ true 1 a && fitZ true 0 b)) = _
  rw [fit1t, fit0, Bool.not_false, Bool.true_or, Bool.true_and, Bool.and_comm]
theorem fine115 (t o a b z : Int) : fineZ 115 ⟨t, o, a, b, z⟩ = ((b == 0) && btwZ a (-32768) 32767) := by
  show ((!false || _) && (fitZ true 2 a && fitZ true 0 b)) = _
  rw [fit2t, fit0, Bool.not_false, Bool.true_or, Bool.true_and, Bool.and_comm]
theorem fine117 (t o a b z : Int) : fineZ 117 ⟨t, o, a, b, z⟩ = ((b == 0) && btwZ a 0 255) := by
  show ((!false || _) && (fitZ false 1 a && fitZ true 0 b)) = _
  rw [fit1f, fit0, Bool.not_false, Bool.true_or, Bool.true_and, Bool.and_comm]
theorem fine99 (t o a b z : Int) : fineZ 99 ⟨t, o, a, b, z⟩ = ((b == 0) && btwZ a 0 65535) := by
  show ((!false || _) && (fitZ false 2 a && fitZ true 0 b)) = _
  rw [fit2f, fit0, Bool.not_false, Bool.true_or, Bool.true_and, Bool.and_comm]
theorem fine116 (t o a b z : Int) : fineZ 116 ⟨t, o, a, b, z⟩ = ((b == 0) && (btwZ t 0 4096 && btwZ a 0 4096)) := by
  show ((!true || (isPlaceZ t && isPlaceZ a)) && (fitZ true 2 (a - t) && fitZ true 0 b)) = _
  rw [fit2t, fit0, Bool.not_true, Bool.false_or, Bool.eq_iff_iff]
  simp [isPlaceZ, btwZ]
  omega
theorem fine105 (t o a b z : Int) : fineZ 105 ⟨t, o, a, b, z⟩ = (btwZ a 0 255 && btwZ b (-128) 127) := by
  show ((!false || _) && (fitZ false 1 a && fitZ true 1 b)) = _
  rw [fit1f, fit1t, Bool.not_false, Bool.true_or, Bool.true_and]

theorem row1 (w : World) (op : Int) (o : Obj) : ((w.alloc (.cells #[.int .u8 op] 5)).alloc o).ownsRow w.heap.size 5 1 (.slice (some ⟨w.heap.size, 0, none⟩) 1 1) 1 [.int .u8 op] :=
  World.ownsRow.alloc (Row.new (w := w) (xs := [op]) (by unfold maxLen; simp)) o
theorem src1 (w : World) (o : Obj) (x : Int) : Src ((w.alloc o).alloc (.cells #[.int .u8 x] 5)) 1 (.slice (some ⟨w.heap.size + 1, 0, none⟩) 1 1) 1 [.int .u8 x] := by
  have := Src.few (w := w.alloc o) (t := 5) (xs := [.int .u8 x]) (by intro u hu; simp at hu; subst hu; rfl)
  rw [World.size_alloc] at this
  exact this
theorem src2 (w : World) (o : Obj) (x y : Int) : Src ((w.alloc o).alloc (.cells #[.int .u8 x, .int .u8 y] 5)) 1 (.slice (some ⟨w.heap.size + 1, 0, none⟩) 2 2) 2 [.int .u8 x, .int .u8 y] := by
  have := Src.few (w := w.alloc o) (t := 5) (xs := [.int .u8 x, .int .u8 y]) (by intro u hu; simp at hu; rcases hu with rfl | rfl <;> rfl)
  rw [World.size_alloc] at this
  exact this
theorem only_row {w w2 w5 : World} {o p : Obj} (hon : Only (fun _ => False) w w2) (hw : w.heap.size ≤ w2.heap.size) (hg : ((w2.alloc o).alloc p).grownBy w5 (some w2.heap.size)) : Only (fun _ => False) w w5 := by
  have h1 : Only (fun k => k = w2.heap.size) w2 w5 := (((Only.refl (fun k => k = w2.heap.size) w2).alloc o).alloc p).grown hg (fun k hk _ => by injection hk with hk; exact hk.symm)
  exact hon.trans h1 (fun k hk hl => by omega)
theorem by45 (t o a b z : Int) : bytesZ 45 ⟨t, o, a, b, z⟩ = [o] := rfl
theorem by98 (t o a b z : Int) : bytesZ 98 ⟨t, o, a, b, z⟩ = [o, a % 256] := by
  show o :: (digs 1 a ++ digs 0 b) = _
  rw [digs1, digs0, dig0]; rfl
theorem by117 (t o a b z : Int) : bytesZ 117 ⟨t, o, a, b, z⟩ = [o, a % 256] := by
  show o :: (digs 1 a ++ digs 0 b) = _
  rw [digs1, digs0, dig0]; rfl
theorem by115 (t o a b z : Int) : bytesZ 115 ⟨t, o, a, b, z⟩ = [o, a / 256 % 256, a % 256] := by
  show o :: (digs 2 a ++ digs 0 b) = _
  rw [digs2, digs0, dig0, dig1]; rfl
theorem by99 (t o a b z : Int) : bytesZ 99 ⟨t, o, a, b, z⟩ = [o, a / 256 % 256, a % 256] := by
  show o :: (digs 2 a ++ digs 0 b) = _
  rw [digs2, digs0, dig0, dig1]; rfl
theorem by116 (t o a b z : Int) : bytesZ 116 ⟨t, o, a, b, z⟩ = [o, (a - t) / 256 % 256, (a - t) % 256] := by
  show o :: (digs 2 (a - t) ++ digs 0 b) = _
  rw [digs2, digs0, dig0, dig1]; rfl
theorem by105 (t o a b z : Int) : bytesZ 105 ⟨t, o, a, b, z⟩ = [o, a % 256, b % 256] := by
  show o :: (digs 1 a ++ digs 1 b) = _
  rw [digs1, digs1, dig0, dig0]; rfl
theorem bytish2 {o x : Int} (h0 : 0 ≤ o) (h1 : o < 200) : Bytish [o, x % 256] := by
  intro z hz
  simp at hz
  rcases hz with rfl | rfl
  · exact ⟨h0, by omega⟩
  · exact ⟨by omega, by omega⟩
theorem bytish3 {o x y : Int} (h0 : 0 ≤ o) (h1 : o < 200) : Bytish [o, x % 256, y % 256] := by
  intro z hz
  simp at hz
  rcases hz with rfl | rfl | rfl
  · exact ⟨h0, by omega⟩
  · exact ⟨by omega, by omega⟩
  · exact ⟨by omega, by omega⟩

set_option maxHeartbeats 16000000 in
set_option maxRecDepth 100000 in
theorem refEncode (i : InstrV) (w : World) (hi : InstrR i) : Calls Try.prog 18 #[valI i] w (EncTo w (encZ i)) := by
  obtain ⟨at_, op, a, b, size⟩ := i
  obtain ⟨r0, r1, r2, r3, r4⟩ := hi
  simp only at r0 r1 r2 r3 r4
  obtain ⟨i0, hi0, hz0, hz1, hz2⟩ := info_parts info_u8
  have hb0 := heap_alloc_new w (.cells #[.int .i64 at_, .int .i64 op, .int .i64 a, .int .i64 b, .int .i64 size] 29)
  have ho0 := (Only.refl (fun _ => False) w).alloc (.cells #[.int .i64 at_, .int .i64 op, .int .i64 a, .int .i64 b, .int .i64 size] 29)
  have c1 := refShape op (w.alloc (.cells #[.int .i64 at_, .int .i64 op, .int .i64 a, .int .i64 b, .int .i64 size] 29))
  obtain ⟨r, hr⟩ : ∃ r, r = encZ ⟨at_, op, a, b, size⟩ := ⟨_, rfl⟩
  rw [← hr]
  have HR := Lib.hid hr
  have HB0 := Lib.hid hb0
  have HO0 := Lib.hid ho0
  unfold valI
  cases hc : codeOf op with
  | none =>
    rw [(shape_none hc).1, (shape_none hc).2.1] at c1
    have C1 := Lib.hid c1
    have HC := Lib.hid hc
    clear c1 hc hr hb0 ho0 r0 r1 r2 r3 r4
    go_enter Try.func18, Try.ntmps18
    go_wp2_with (fail)
    refine C1.out.mono ?_
    rintro e w1 ⟨rfl, ho1⟩
    have HON := Lib.hid (HO0.out.trans ho1 (fun _ h _ => h))
    clear ho1 C1
    go_wp2
    go_ret2
    rw [HR.out]
    unfold encZ
    simp only
    rw [HC.out]
    exact encTo_err HON.out
  | some c =>
    rw [(shape_of hc).1, (shape_of hc).2.1] at c1
    have C1 := Lib.hid c1
    have hS := (codeOf_shape hc).1
    have hop := (codeOf_shape hc).2
    have hE : (r = if fineZ c.shape ⟨at_, op, a, b, size⟩ then (bytesZ c.shape ⟨at_, op, a, b, size⟩, 0) else ([], 1)) := by
      rw [hr]; unfold encZ; simp only; rw [hc]
    have hop0 := hop.1
    have hop1 := hop.2
    clear c1 hc hr hb0 ho0 r0 r1 r2 r3 r4 hop HR
    generalize c.shape = s at *
    rcases hS with rfl | rfl | rfl | rfl | rfl | rfl | rfl
    · rw [fine45] at hE
      cases hbb : (b == 0) with
      | false =>
        have HE : Hid (r = ([], 1)) := Lib.hid (by rw [hE, hbb]; rfl)
        clear hE
        go_enter Try.func18, Try.ntmps18
        go_wp2_with (fail)
        refine C1.out.mono ?_
        rintro e w2 ⟨rfl, ho2⟩
        have hb2 := ho2.heap HB0.out (fun h => h)
        have hon2 := HO0.out.trans ho2 (fun _ h _ => h)
        obtain ⟨q0, q1, q2, q3, q4⟩ := cells5 hb2
        have HON2 := Lib.hid hon2
        clear hon2 ho2 hb2 C1 HB0 HO0
        go_wp2
        go_ret2
        rw [HE.out]
        exact encTo_err HON2.out
      | true =>
        cases hba : (a == 0) with
        | false =>
          have HE : Hid (r = ([], 1)) := Lib.hid (by rw [hE, hbb, hba]; rfl)
          clear hE
          go_enter Try.func18, Try.ntmps18
          go_wp2_with (fail)
          refine C1.out.mono ?_
          rintro e w2 ⟨rfl, ho2⟩
          have hb2 := ho2.heap HB0.out (fun h => h)
          have hon2 := HO0.out.trans ho2 (fun _ h _ => h)
          obtain ⟨q0, q1, q2, q3, q4⟩ := cells5 hb2
          have HON2 := Lib.hid hon2
          clear hon2 ho2 hb2 C1 HB0 HO0
          go_wp2
          go_ret2
          rw [HE.out]
          exact encTo_err HON2.out
        | true =>
          have HE : Hid (r = ([op], 0)) := Lib.hid (by rw [hE, by45, hbb, hba]; rfl)
          clear hE
          go_enter Try.func18, Try.ntmps18
          go_wp2_with (fail)
          refine C1.out.mono ?_
          rintro e w2 ⟨rfl, ho2⟩
          have hb2 := ho2.heap HB0.out (fun h => h)
          have hon2 := HO0.out.trans ho2 (fun _ h _ => h)
          obtain ⟨q0, q1, q2, q3, q4⟩ := cells5 hb2
          have HON2 := Lib.hid hon2
          clear hon2 ho2 hb2 C1 HB0 HO0
          go_wp2
          go_ret2
          rw [HE.out]
          exact ⟨_, rfl, Bytes.of_owns (Row.new (w := w2) (xs := [op]) (by unfold maxLen; simp)) (fun z hz => by simp at hz; subst hz; exact ⟨hop0, by omega⟩), HON2.out.alloc _⟩
    · rw [fine98] at hE
      cases hbb : (b == 0) with
      | false =>
        have HE : Hid (r = ([], 1)) := Lib.hid (by rw [hE, hbb]; rfl)
        clear hE
        go_enter Try.func18, Try.ntmps18
        go_wp2_with (fail)
        refine C1.out.mono ?_
        rintro e w2 ⟨rfl, ho2⟩
        have hb2 := ho2.heap HB0.out (fun h => h)
        have hon2 := HO0.out.trans ho2 (fun _ h _ => h)
        obtain ⟨q0, q1, q2, q3, q4⟩ := cells5 hb2
        have HON2 := Lib.hid hon2
        clear hon2 ho2 hb2 C1 HB0 HO0
        go_wp2
        go_ret2
        rw [HE.out]
        exact encTo_err HON2.out
      | true =>
        cases hbt : btwZ a (-128) 127 with
        | false =>
          have HE : Hid (r = ([], 1)) := Lib.hid (by rw [hE, hbb, hbt]; rfl)
          have HBT := Lib.hid hbt
          clear hE hbt
          go_enter Try.func18, Try.ntmps18
          go_wp2_with (fail)
          refine C1.out.mono ?_
          rintro e w2 ⟨rfl, ho2⟩
          have hb2 := ho2.heap HB0.out (fun h => h)
          have hon2 := HO0.out.trans ho2 (fun _ h _ => h)
          obtain ⟨q0, q1, q2, q3, q4⟩ := cells5 hb2
          have HON2 := Lib.hid hon2
          clear hon2 ho2 hb2 C1 HB0 HO0
          go_wp2_with (fail)
          refine (refBetweenF HBT.out _).mono ?_
          rintro e w3 ⟨rfl, rfl⟩
          go_wp2
          go_ret2
          rw [HE.out]
          exact encTo_err HON2.out
        | true =>
          have HE : Hid (r = ([op, a % 256], 0)) := Lib.hid (by rw [hE, by98, hbb, hbt]; rfl)
          have HBT := Lib.hid hbt
          clear hE hbt
          go_enter Try.func18, Try.ntmps18
          go_wp2_with (fail)
          refine C1.out.mono ?_
          rintro e w2 ⟨rfl, ho2⟩
          have hb2 := ho2.heap HB0.out (fun h => h)
          have hon2 := HO0.out.trans ho2 (fun _ h _ => h)
          obtain ⟨q0, q1, q2, q3, q4⟩ := cells5 hb2
          have HON2 := Lib.hid hon2
          clear hon2 ho2 hb2 C1 HB0 HO0
          go_wp2_with (fail)
          refine (refBetweenT HBT.out _).mono ?_
          rintro e w3 ⟨rfl, rfl⟩
          go_wp2_with (at_builtin; go_loud (refine wpList_append_src rfl (.tmp 111) (.tmp 114) 27 rfl 5 i0 (.int .u8 0) 1 1 Try.underlying27 hi0 hz0 hz1 hz2 rfl (by decide) w2.heap.size (.slice (some ⟨w2.heap.size, 0, none⟩) 1 1) 1 [.int .u8 op] rfl (by exact row1 w2 op _) (by simp; omega) (.slice (some ⟨w2.heap.size + 1, 0, none⟩) 1 1) 1 [.int .u8 (a % 256)] rfl (by exact src1 w2 _ (a % 256)) (by unfold maxLen; omega) (by omega) ?_; intro v' w5 hown hgrow hnew))
          go_ret2
          rw [HE.out]
          exact ⟨_, rfl, Bytes.of_owns hown (bytish2 hop0 hop1), only_row HON2.out (HON2.out.size) hgrow⟩
    · rw [fine115] at hE
      cases hbb : (b == 0) with
      | false =>
        have HE : Hid (r = ([], 1)) := Lib.hid (by rw [hE, hbb]; rfl)
        clear hE
        go_enter Try.func18, Try.ntmps18
        go_wp2_with (fail)
        refine C1.out.mono ?_
        rintro e w2 ⟨rfl, ho2⟩
        have hb2 := ho2.heap HB0.out (fun h => h)
        have hon2 := HO0.out.trans ho2 (fun _ h _ => h)
        obtain ⟨q0, q1, q2, q3, q4⟩ := cells5 hb2
        have HON2 := Lib.hid hon2
        clear hon2 ho2 hb2 C1 HB0 HO0
        go_wp2
        go_ret2
        rw [HE.out]
        exact encTo_err HON2.out
      | true =>
        cases hbt : btwZ a (-32768) 32767 with
        | false =>
          have HE : Hid (r = ([], 1)) := Lib.hid (by rw [hE, hbb, hbt]; rfl)
          have HBT := Lib.hid hbt
          clear hE hbt
          go_enter Try.func18, Try.ntmps18
          go_wp2_with (fail)
          refine C1.out.mono ?_
          rintro e w2 ⟨rfl, ho2⟩
          have hb2 := ho2.heap HB0.out (fun h => h)
          have hon2 := HO0.out.trans ho2 (fun _ h _ => h)
          obtain ⟨q0, q1, q2, q3, q4⟩ := cells5 hb2
          have HON2 := Lib.hid hon2
          clear hon2 ho2 hb2 C1 HB0 HO0
          go_wp2_with (fail)
          refine (refBetweenF HBT.out _).mono ?_
          rintro e w3 ⟨rfl, rfl⟩
          go_wp2
          go_ret2
          rw [HE.out]
          exact encTo_err HON2.out
        | true =>
          have HE : Hid (r = ([op, a / 256 % 256, a % 256], 0)) := Lib.hid (by rw [hE, by115, hbb, hbt]; rfl)
          have HBT := Lib.hid hbt
          clear hE hbt
          go_enter Try.func18, Try.ntmps18
          go_wp2_with (fail)
          refine C1.out.mono ?_
          rintro e w2 ⟨rfl, ho2⟩
          have hb2 := ho2.heap HB0.out (fun h => h)
          have hon2 := HO0.out.trans ho2 (fun _ h _ => h)
          obtain ⟨q0, q1, q2, q3, q4⟩ := cells5 hb2
          have HON2 := Lib.hid hon2
          clear hon2 ho2 hb2 C1 HB0 HO0
          go_wp2_with (fail)
          refine (refBetweenT HBT.out _).mono ?_
          rintro e w3 ⟨rfl, rfl⟩
          go_wp2_with (at_builtin; go_loud (refine wpList_append_src rfl (.tmp 127) (.tmp 133) 27 rfl 5 i0 (.int .u8 0) 1 1 Try.underlying27 hi0 hz0 hz1 hz2 rfl (by decide) w2.heap.size (.slice (some ⟨w2.heap.size, 0, none⟩) 1 1) 1 [.int .u8 op] rfl (by exact row1 w2 op _) (by simp; omega) (.slice (some ⟨w2.heap.size + 1, 0, none⟩) 2 2) 2 [.int .u8 (a / 256 % 256), .int .u8 (a % 256)] rfl (by exact src2 w2 _ (a / 256 % 256) (a % 256)) (by unfold maxLen; omega) (by omega) ?_; intro v' w5 hown hgrow hnew))
          go_ret2
          rw [HE.out]
          exact ⟨_, rfl, Bytes.of_owns hown (bytish3 hop0 hop1), only_row HON2.out (HON2.out.size) hgrow⟩
    · rw [fine117] at hE
      cases hbb : (b == 0) with
      | false =>
        have HE : Hid (r = ([], 1)) := Lib.hid (by rw [hE, hbb]; rfl)
        clear hE
        go_enter Try.func18, Try.ntmps18
        go_wp2_with (fail)
        refine C1.out.mono ?_
        rintro e w2 ⟨rfl, ho2⟩
        have hb2 := ho2.heap HB0.out (fun h => h)
        have hon2 := HO0.out.trans ho2 (fun _ h _ => h)
        obtain ⟨q0, q1, q2, q3, q4⟩ := cells5 hb2
        have HON2 := Lib.hid hon2
        clear hon2 ho2 hb2 C1 HB0 HO0
        go_wp2
        go_ret2
        rw [HE.out]
        exact encTo_err HON2.out
      | true =>
        cases hbt : btwZ a 0 255 with
        | false =>
          have HE : Hid (r = ([], 1)) := Lib.hid (by rw [hE, hbb, hbt]; rfl)
          have HBT := Lib.hid hbt
          clear hE hbt
          go_enter Try.func18, Try.ntmps18
          go_wp2_with (fail)
          refine C1.out.mono ?_
          rintro e w2 ⟨rfl, ho2⟩
          have hb2 := ho2.heap HB0.out (fun h => h)
          have hon2 := HO0.out.trans ho2 (fun _ h _ => h)
          obtain ⟨q0, q1, q2, q3, q4⟩ := cells5 hb2
          have HON2 := Lib.hid hon2
          clear hon2 ho2 hb2 C1 HB0 HO0
          go_wp2_with (fail)
          refine (refBetweenF HBT.out _).mono ?_
          rintro e w3 ⟨rfl, rfl⟩
          go_wp2
          go_ret2
          rw [HE.out]
          exact encTo_err HON2.out
        | true =>
          have HE : Hid (r = ([op, a % 256], 0)) := Lib.hid (by rw [hE, by117, hbb, hbt]; rfl)
          have HBT := Lib.hid hbt
          clear hE hbt
          go_enter Try.func18, Try.ntmps18
          go_wp2_with (fail)
          refine C1.out.mono ?_
          rintro e w2 ⟨rfl, ho2⟩
          have hb2 := ho2.heap HB0.out (fun h => h)
          have hon2 := HO0.out.trans ho2 (fun _ h _ => h)
          obtain ⟨q0, q1, q2, q3, q4⟩ := cells5 hb2
          have HON2 := Lib.hid hon2
          clear hon2 ho2 hb2 C1 HB0 HO0
          go_wp2_with (fail)
          refine (refBetweenT HBT.out _).mono ?_
          rintro e w3 ⟨rfl, rfl⟩
          go_wp2_with (at_builtin; go_loud (refine wpList_append_src rfl (.tmp 111) (.tmp 114) 27 rfl 5 i0 (.int .u8 0) 1 1 Try.underlying27 hi0 hz0 hz1 hz2 rfl (by decide) w2.heap.size (.slice (some ⟨w2.heap.size, 0, none⟩) 1 1) 1 [.int .u8 op] rfl (by exact row1 w2 op _) (by simp; omega) (.slice (some ⟨w2.heap.size + 1, 0, none⟩) 1 1) 1 [.int .u8 (a % 256)] rfl (by exact src1 w2 _ (a % 256)) (by unfold maxLen; omega) (by omega) ?_; intro v' w5 hown hgrow hnew))
          go_ret2
          rw [HE.out]
          exact ⟨_, rfl, Bytes.of_owns hown (bytish2 hop0 hop1), only_row HON2.out (HON2.out.size) hgrow⟩
    · rw [fine99] at hE
      cases hbb : (b == 0) with
      | false =>
        have HE : Hid (r = ([], 1)) := Lib.hid (by rw [hE, hbb]; rfl)
        clear hE
        go_enter Try.func18, Try.ntmps18
        go_wp2_with (fail)
        refine C1.out.mono ?_
        rintro e w2 ⟨rfl, ho2⟩
        have hb2 := ho2.heap HB0.out (fun h => h)
        have hon2 := HO0.out.trans ho2 (fun _ h _ => h)
        obtain ⟨q0, q1, q2, q3, q4⟩ := cells5 hb2
        have HON2 := Lib.hid hon2
        clear hon2 ho2 hb2 C1 HB0 HO0
        go_wp2
        go_ret2
        rw [HE.out]
        exact encTo_err HON2.out
      | true =>
        cases hbt : btwZ a 0 65535 with
        | false =>
          have HE : Hid (r = ([], 1)) := Lib.hid (by rw [hE, hbb, hbt]; rfl)
          have HBT := Lib.hid hbt
          clear hE hbt
          go_enter Try.func18, Try.ntmps18
          go_wp2_with (fail)
          refine C1.out.mono ?_
          rintro e w2 ⟨rfl, ho2⟩
          have hb2 := ho2.heap HB0.out (fun h => h)
          have hon2 := HO0.out.trans ho2 (fun _ h _ => h)
          obtain ⟨q0, q1, q2, q3, q4⟩ := cells5 hb2
          have HON2 := Lib.hid hon2
          clear hon2 ho2 hb2 C1 HB0 HO0
          go_wp2_with (fail)
          refine (refBetweenF HBT.out _).mono ?_
          rintro e w3 ⟨rfl, rfl⟩
          go_wp2
          go_ret2
          rw [HE.out]
          exact encTo_err HON2.out
        | true =>
          have HE : Hid (r = ([op, a / 256 % 256, a % 256], 0)) := Lib.hid (by rw [hE, by99, hbb, hbt]; rfl)
          have HBT := Lib.hid hbt
          clear hE hbt
          go_enter Try.func18, Try.ntmps18
          go_wp2_with (fail)
          refine C1.out.mono ?_
          rintro e w2 ⟨rfl, ho2⟩
          have hb2 := ho2.heap HB0.out (fun h => h)
          have hon2 := HO0.out.trans ho2 (fun _ h _ => h)
          obtain ⟨q0, q1, q2, q3, q4⟩ := cells5 hb2
          have HON2 := Lib.hid hon2
          clear hon2 ho2 hb2 C1 HB0 HO0
          go_wp2_with (fail)
          refine (refBetweenT HBT.out _).mono ?_
          rintro e w3 ⟨rfl, rfl⟩
          go_wp2_with (at_builtin; go_loud (refine wpList_append_src rfl (.tmp 127) (.tmp 133) 27 rfl 5 i0 (.int .u8 0) 1 1 Try.underlying27 hi0 hz0 hz1 hz2 rfl (by decide) w2.heap.size (.slice (some ⟨w2.heap.size, 0, none⟩) 1 1) 1 [.int .u8 op] rfl (by exact row1 w2 op _) (by simp; omega) (.slice (some ⟨w2.heap.size + 1, 0, none⟩) 2 2) 2 [.int .u8 (a / 256 % 256), .int .u8 (a % 256)] rfl (by exact src2 w2 _ (a / 256 % 256) (a % 256)) (by unfold maxLen; omega) (by omega) ?_; intro v' w5 hown hgrow hnew))
          go_ret2
          rw [HE.out]
          exact ⟨_, rfl, Bytes.of_owns hown (bytish3 hop0 hop1), only_row HON2.out (HON2.out.size) hgrow⟩
    · rw [fine116] at hE
      cases hbb : (b == 0) with
      | false =>
        have HE : Hid (r = ([], 1)) := Lib.hid (by rw [hE, hbb]; rfl)
        clear hE
        go_enter Try.func18, Try.ntmps18
        go_wp2_with (fail)
        refine C1.out.mono ?_
        rintro e w2 ⟨rfl, ho2⟩
        have hb2 := ho2.heap HB0.out (fun h => h)
        have hon2 := HO0.out.trans ho2 (fun _ h _ => h)
        obtain ⟨q0, q1, q2, q3, q4⟩ := cells5 hb2
        have HON2 := Lib.hid hon2
        clear hon2 ho2 hb2 C1 HB0 HO0
        go_wp2
        go_ret2
        rw [HE.out]
        exact encTo_err HON2.out
      | true =>
        cases hbt : btwZ at_ 0 4096 with
        | false =>
          have HE : Hid (r = ([], 1)) := Lib.hid (by rw [hE, hbb, hbt]; rfl)
          have HBT := Lib.hid hbt
          clear hE hbt
          go_enter Try.func18, Try.ntmps18
          go_wp2_with (fail)
          refine C1.out.mono ?_
          rintro e w2 ⟨rfl, ho2⟩
          have hb2 := ho2.heap HB0.out (fun h => h)
          have hon2 := HO0.out.trans ho2 (fun _ h _ => h)
          obtain ⟨q0, q1, q2, q3, q4⟩ := cells5 hb2
          have HON2 := Lib.hid hon2
          clear hon2 ho2 hb2 C1 HB0 HO0
          go_wp2_with (fail)
          refine (refBetweenF HBT.out _).mono ?_
          rintro e w3 ⟨rfl, rfl⟩
          go_wp2
          go_ret2
          rw [HE.out]
          exact encTo_err HON2.out
        | true =>
          cases hbu : btwZ a 0 4096 with
          | false =>
            have HE : Hid (r = ([], 1)) := Lib.hid (by rw [hE, hbb, hbt, hbu]; rfl)
            have HBT := Lib.hid hbt
            have HBU := Lib.hid hbu
            clear hE hbt hbu
            go_enter Try.func18, Try.ntmps18
            go_wp2_with (fail)
            refine C1.out.mono ?_
            rintro e w2 ⟨rfl, ho2⟩
            have hb2 := ho2.heap HB0.out (fun h => h)
            have hon2 := HO0.out.trans ho2 (fun _ h _ => h)
            obtain ⟨q0, q1, q2, q3, q4⟩ := cells5 hb2
            have HON2 := Lib.hid hon2
            clear hon2 ho2 hb2 C1 HB0 HO0
            go_wp2_with (fail)
            refine (refBetweenT HBT.out _).mono ?_
            rintro e w3 ⟨rfl, rfl⟩
            go_wp2_with (fail)
            refine (refBetweenF HBU.out _).mono ?_
            rintro e w3 ⟨rfl, rfl⟩
            go_wp2
            go_ret2
            rw [HE.out]
            exact encTo_err HON2.out
          | true =>
            have HE : Hid (r = ([op, (a - at_) / 256 % 256, (a - at_) % 256], 0)) := Lib.hid (by rw [hE, by116, hbb, hbt, hbu]; rfl)
            have HBT := Lib.hid hbt
            have HBU := Lib.hid hbu
            obtain ⟨b0, b1⟩ : 0 ≤ at_ ∧ at_ ≤ 4096 := by simpa [btwZ] using hbt
            obtain ⟨b2, b3⟩ : 0 ≤ a ∧ a ≤ 4096 := by simpa [btwZ] using hbu
            clear hE hbt hbu
            go_enter Try.func18, Try.ntmps18
            go_wp2_with (fail)
            refine C1.out.mono ?_
            rintro e w2 ⟨rfl, ho2⟩
            have hb2 := ho2.heap HB0.out (fun h => h)
            have hon2 := HO0.out.trans ho2 (fun _ h _ => h)
            obtain ⟨q0, q1, q2, q3, q4⟩ := cells5 hb2
            have HON2 := Lib.hid hon2
            clear hon2 ho2 hb2 C1 HB0 HO0
            go_wp2_with (fail)
            refine (refBetweenT HBT.out _).mono ?_
            rintro e w3 ⟨rfl, rfl⟩
            go_wp2_with (fail)
            refine (refBetweenT HBU.out _).mono ?_
            rintro e w3 ⟨rfl, rfl⟩
            go_wp2_with (at_builtin; go_loud (refine wpList_append_src rfl (.tmp 127) (.tmp 133) 27 rfl 5 i0 (.int .u8 0) 1 1 Try.underlying27 hi0 hz0 hz1 hz2 rfl (by decide) w2.heap.size (.slice (some ⟨w2.heap.size, 0, none⟩) 1 1) 1 [.int .u8 op] rfl (by exact row1 w2 op _) (by simp; omega) (.slice (some ⟨w2.heap.size + 1, 0, none⟩) 2 2) 2 [.int .u8 ((a - at_) / 256 % 256), .int .u8 ((a - at_) % 256)] rfl (by exact src2 w2 _ ((a - at_) / 256 % 256) ((a - at_) % 256)) (by unfold maxLen; omega) (by omega) ?_; intro v' w5 hown hgrow hnew))
            go_ret2
            rw [HE.out]
            exact ⟨_, rfl, Bytes.of_owns hown (bytish3 hop0 hop1), only_row HON2.out (HON2.out.size) hgrow⟩
    · rw [fine105] at hE
      cases hbt : btwZ a 0 255 with
      | false =>
        have HE : Hid (r = ([], 1)) := Lib.hid (by rw [hE, hbt]; rfl)
        have HBT := Lib.hid hbt
        clear hE hbt
        go_enter Try.func18, Try.ntmps18
        go_wp2_with (fail)
        refine C1.out.mono ?_
        rintro e w2 ⟨rfl, ho2⟩
        have hb2 := ho2.heap HB0.out (fun h => h)
        have hon2 := HO0.out.trans ho2 (fun _ h _ => h)
        obtain ⟨q0, q1, q2, q3, q4⟩ := cells5 hb2
        have HON2 := Lib.hid hon2
        clear hon2 ho2 hb2 C1 HB0 HO0
        go_wp2_with (fail)
        refine (refBetweenF HBT.out _).mono ?_
        rintro e w3 ⟨rfl, rfl⟩
        go_wp2
        go_ret2
        rw [HE.out]
        exact encTo_err HON2.out
      | true =>
        cases hbu : btwZ b (-128) 127 with
        | false =>
          have HE : Hid (r = ([], 1)) := Lib.hid (by rw [hE, hbt, hbu]; rfl)
          have HBT := Lib.hid hbt
          have HBU := Lib.hid hbu
          clear hE hbt hbu
          go_enter Try.func18, Try.ntmps18
          go_wp2_with (fail)
          refine C1.out.mono ?_
          rintro e w2 ⟨rfl, ho2⟩
          have hb2 := ho2.heap HB0.out (fun h => h)
          have hon2 := HO0.out.trans ho2 (fun _ h _ => h)
          obtain ⟨q0, q1, q2, q3, q4⟩ := cells5 hb2
          have HON2 := Lib.hid hon2
          clear hon2 ho2 hb2 C1 HB0 HO0
          go_wp2_with (fail)
          refine (refBetweenT HBT.out _).mono ?_
          rintro e w3 ⟨rfl, rfl⟩
          go_wp2_with (fail)
          refine (refBetweenF HBU.out _).mono ?_
          rintro e w3 ⟨rfl, rfl⟩
          go_wp2
          go_ret2
          rw [HE.out]
          exact encTo_err HON2.out
        | true =>
          have HE : Hid (r = ([op, a % 256, b % 256], 0)) := Lib.hid (by rw [hE, by105, hbt, hbu]; rfl)
          have HBT := Lib.hid hbt
          have HBU := Lib.hid hbu
          clear hE hbt hbu
          go_enter Try.func18, Try.ntmps18
          go_wp2_with (fail)
          refine C1.out.mono ?_
          rintro e w2 ⟨rfl, ho2⟩
          have hb2 := ho2.heap HB0.out (fun h => h)
          have hon2 := HO0.out.trans ho2 (fun _ h _ => h)
          obtain ⟨q0, q1, q2, q3, q4⟩ := cells5 hb2
          have hb2a := ((Only.refl (fun _ => False) w2).alloc (.cells #[.int .u8 op] 5)).heap hb2 (fun h => h)
          obtain ⟨g0, g1, g2, g3, g4⟩ := cells5 hb2a
          clear hb2a
          have HON2 := Lib.hid hon2
          clear hon2 ho2 hb2 C1 HB0 HO0
          go_wp2_with (fail)
          refine (refBetweenT HBT.out _).mono ?_
          rintro e w3 ⟨rfl, rfl⟩
          go_wp2_with (fail)
          refine (refBetweenT HBU.out _).mono ?_
          rintro e w3 ⟨rfl, rfl⟩
          go_wp2_with (at_builtin; go_loud (refine wpList_append_src rfl (.tmp 118) (.tmp 125) 27 rfl 5 i0 (.int .u8 0) 1 1 Try.underlying27 hi0 hz0 hz1 hz2 rfl (by decide) w2.heap.size (.slice (some ⟨w2.heap.size, 0, none⟩) 1 1) 1 [.int .u8 op] rfl (by exact row1 w2 op _) (by simp; omega) (.slice (some ⟨w2.heap.size + 1, 0, none⟩) 2 2) 2 [.int .u8 (a % 256), .int .u8 (b % 256)] rfl (by exact src2 w2 _ (a % 256) (b % 256)) (by unfold maxLen; omega) (by omega) ?_; intro v' w5 hown hgrow hnew))
          go_ret2
          rw [HE.out]
          exact ⟨_, rfl, Bytes.of_owns hown (bytish3 hop0 hop1), only_row HON2.out (HON2.out.size) hgrow⟩
end Go.Proofs.Ytcfnikngapngkaa
