/- The document's own Encode: what it answers, at texts of at most 2^46 bytes. -/
import Derived.Test.YtodhdiccfobcfaaDoorTxtE
namespace Go.Proofs.YtodhdiccfobcfaaDoor
open Go.RowKit Go.Shelf
set_option linter.unusedVariables false
set_option linter.unusedSimpArgs false

set_option maxHeartbeats 1000000 in
theorem unit (u : Int) (w : World) (h0 : 0 ≤ u) (h1 : u ≤ 65535) :
    Calls Tryd.prog 48 #[.int .i64 u] w fun e w' => ∃ v, e = .returned v ∧ Src w' 1 v (unitZ u).length ((unitZ u).map (Value.int .u8)) ∧ Only (fun _ => False) w w' := by
  by_cases c1 : 1 ≤ u ∧ u ≤ 127
  · obtain ⟨ca, cb⟩ := c1
    rw [unitZ_one ca cb]
    go_enter Tryd.func48, Tryd.ntmps48
    go_wp2
    go_ret
    refine ⟨_, rfl, ?_, (Only.refl _ _).alloc _⟩
    exact Src.few (w := w) (t := 5) (xs := [.int .u8 (u)]) (by intro x hx; simp only [List.mem_cons, List.mem_nil_iff, or_false] at hx; subst hx; rfl)
  by_cases c2 : u ≤ 2047
  · have c1' : u < 1 ∨ 127 < u := by omega
    rw [unitZ_two (by omega) c2]
    go_enter Tryd.func48, Tryd.ntmps48
    go_wp2
    all_goals go_ret
    all_goals first | (exfalso; omega) | skip
    all_goals refine ⟨_, rfl, ?_, (Only.refl _ _).alloc _⟩
    all_goals exact Src.few (w := w) (t := 5) (xs := [.int .u8 (192 + u / 64), .int .u8 (128 + u % 64)]) (by intro x hx; simp only [List.mem_cons, List.mem_nil_iff, or_false] at hx; rcases hx with rfl | rfl <;> rfl)
  · rw [unitZ_three (by omega)]
    go_enter Tryd.func48, Tryd.ntmps48
    go_wp2
    all_goals go_ret
    all_goals first | (exfalso; omega) | skip
    all_goals refine ⟨_, rfl, ?_, (Only.refl _ _).alloc _⟩
    all_goals exact Src.few (w := w) (t := 5) (xs := [.int .u8 (224 + u / 4096), .int .u8 (128 + u / 64 % 64), .int .u8 (128 + u % 64)]) (by intro x hx; simp only [List.mem_cons, List.mem_nil_iff, or_false] at hx; rcases hx with rfl | rfl | rfl <;> rfl)

theorem nums_ext (t : ByteArray) (n : Nat) : nums (t.extract n t.size) = (nums t).drop n := by
  rw [nums, Lib.extract_data, List.take_of_length_le (by rw [List.length_drop]; exact Nat.le_refl _)]
  simp only [nums, numsL, List.map_drop]

set_option maxHeartbeats 4000000 in
set_option maxRecDepth 100000 in
theorem refEncode (s : ByteArray) (w : World) (hs : s.size ≤ 70368744177664) :
    Calls Tryd.prog 42 #[.string s] w fun e w' => ∃ v ys k, e = .returned (.tuple #[v, .int .i64 k]) ∧ EncTo w s v ys k w' := by
  obtain ⟨i0, hi, hz0, hz1, hz2⟩ := info_parts info_u8
  go_enter Tryd.func42, Tryd.ntmps42
  go_wp2
  go_loopg [0, 4] (s.size + 1) (fun gk s0 b wr => ∃ (t : ByteArray) (pre : List Int), s0 = .string t ∧ AllSc pre ∧ nums s = U8s pre ++ nums t ∧ t.size < gk ∧ Row wr w.heap.size b (M8s pre) ∧ Only (fun _ => False) w wr)
  case atStart => exact ⟨s, [], rfl, .nil, rfl, by omega, World.ownsRow_nil _ _ _ _, Only.refl _ _⟩
  case round =>
    obtain ⟨t, pre, rfl, hsc, hnum, hgk, hrow, hon⟩ := hrel
    obtain ⟨ao, cap, rfl, hc1, hc2⟩ := slice_of_owns hrow
    have hlen : (U8s pre).length + t.size = s.size := by rw [← nums_len s, hnum, List.length_append, nums_len]
    have hml := (M8s_len hsc).2
    have Hnum := Lib.hid hnum
    have Hrow := Lib.hid hrow
    clear hnum hrow
    obtain ⟨ys, hys⟩ : ∃ ys, M8s pre = ys := ⟨_, rfl⟩
    rw [hys] at hml Hrow hc1
    rw [hys]
    have Hys := Lib.hid hys
    clear hys
    by_cases h0 : 0 < t.size
    · obtain ⟨g', rfl⟩ : ∃ g', gk = g' + 1 := ⟨gk - 1, by omega⟩
      have h0z : (0 : Int) < (t.size : Int) := by omega
      go_wp2_with (fail)
      refine (point t _ (by omega) h0).mono ?_
      rintro e w1 ⟨⟨c, n, rfl, hpt⟩, hdr⟩
      have hon1 : Only (fun _ => False) w w1 := hon.trans (hdr.only (S := fun _ => False)) (fun _ h => h.elim)
      have hrow1 : Row w1 w.heap.size (.slice ao ys.length cap) ys := Row.only Hrow.out (hdr.only (S := fun _ => False)) (fun _ _ h => h)
      clear hdr Hrow
      rcases hpt with ⟨hc, hn, r, hr⟩ | ⟨hno, rfl, rfl⟩
      · have hnle : n ≤ t.size := by rw [← nums_len, hr, List.length_append]; omega
        have hnz : (n : Int) ≤ (t.size : Int) := by omega
        have hn1 : 1 ≤ n := by rw [hn]; exact (u8_len hc).1
        have hnb : ((n : Int) == 0) = false := by simp; omega
        clear hon
        have hext : nums (t.extract n t.size) = r := by rw [nums_ext, hr, hn, List.drop_left]
        have hsz : (t.extract n t.size).size + n = t.size := by rw [Lib.ext_size]; omega
        obtain ⟨t2, ht2⟩ : ∃ t2, t.extract n t.size = t2 := ⟨_, rfl⟩
        rw [ht2] at hext hsz
        have Ht := Lib.hid ht2
        have Hr := Lib.hid hr
        have Hn := Lib.hid hn
        have Hext := Lib.hid hext
        have hcr : 0 ≤ c ∧ c ≤ 1114111 := by unfold Sc at hc; omega
        have hml2 := (m8_len hc).2
        have hm : M8s (pre ++ [c]) = ys ++ m8 c := by rw [M8s_append, Hys.out, M8s_cons, M8s_nil, List.append_nil]
        have Hm := Lib.hid hm
        have hN8 : nums s = U8s (pre ++ [c]) ++ nums t2 := by rw [U8s_append, U8s_cons, U8s_nil, List.append_nil, hext, List.append_assoc, ← hr]; exact Hnum.out
        clear hr hn hext hm
        have htot : ys.length + (m8 c).length ≤ 140737488355328 := by rw [Hn.out] at hnle; omega
        have Hu := Lib.hid hN8
        clear hN8
        by_cases hc6 : 65536 ≤ c
        · have hm8 : m8 c = unitZ (55296 + (c - 65536) / 1024) ++ unitZ (56320 + (c - 65536) % 1024) := by unfold m8; rw [if_neg (by omega)]; rfl
          rw [hm8, List.length_append] at htot
          have Hm8 := Lib.hid hm8
          clear hm8 hml2
          go_wp2_with (fail)
          refine (unit _ _ (by omega) (by omega)).mono ?_
          rintro e w2 ⟨v2, rfl, hsw2, ho2⟩
          have hon2 := hon1.trans ho2 (fun _ h => h.elim)
          have hrow2 := Row.only hrow1 ho2 (fun _ _ h => h)
          have hBw2 := hon2.size
          clear hrow1 hon1 ho2
          go_wp2_with (at_builtin; go_loud (refine wpList_append_src rfl (.tmp 22) (.tmp 27) 36 rfl 5 i0 (.int .u8 0) 1 1 Tryd.underlying36 hi hz0 hz1 hz2 rfl (by decide) w.heap.size (.slice ao ys.length cap) ys.length (ys.map (Value.int .u8)) rfl (by exact hrow2) (by exact hBw2) v2 (unitZ (55296 + (c - 65536) / 1024)).length ((unitZ (55296 + (c - 65536) / 1024)).map (Value.int .u8)) rfl (by exact hsw2) (by unfold maxLen; omega) (by omega) ?_); intro vw3 w3 hownw3 hgroww3 hneww3)
          obtain ⟨hrow3, hon3⟩ := Row.push hrow2 hon2 hownw3 hgroww3 hneww3
          obtain ⟨ao3, cap3, rfl, hc31, hc32⟩ := slice_of_owns hrow3
          obtain ⟨y3, hy3⟩ : ∃ y3, ys ++ unitZ (55296 + (c - 65536) / 1024) = y3 := ⟨_, rfl⟩
          rw [hy3] at hrow3 hc31 ⊢
          have hl3 : y3.length ≤ ys.length + (unitZ (55296 + (c - 65536) / 1024)).length := by rw [← hy3, List.length_append]; exact Nat.le_refl _
          have Hy3 := Lib.hid hy3
          clear hownw3 hgroww3 hneww3 hrow2 hon2 hBw2 hsw2 hy3
          go_wp2_with (fail)
          refine (unit _ _ (by omega) (by omega)).mono ?_
          rintro e w4 ⟨v4, rfl, hsw4, ho4⟩
          have hon4 := hon3.trans ho4 (fun _ h => h.elim)
          have hrow4 := Row.only hrow3 ho4 (fun _ _ h => h)
          have hBw4 := hon4.size
          clear hrow3 hon3 ho4
          go_wp2_with (at_builtin; go_loud (refine wpList_append_src rfl (.tmp 29) (.tmp 34) 36 rfl 5 i0 (.int .u8 0) 1 1 Tryd.underlying36 hi hz0 hz1 hz2 rfl (by decide) w.heap.size (.slice ao3 y3.length cap3) y3.length (y3.map (Value.int .u8)) rfl (by exact hrow4) (by exact hBw4) v4 (unitZ (56320 + (c - 65536) % 1024)).length ((unitZ (56320 + (c - 65536) % 1024)).map (Value.int .u8)) rfl (by exact hsw4) (by unfold maxLen; omega) (by omega) ?_); intro vw5 w5 hownw5 hgroww5 hneww5)
          obtain ⟨hrow5, hon5⟩ := Row.push hrow4 hon4 hownw5 hgroww5 hneww5
          clear hownw5 hgroww5 hneww5 hrow4 hon4 hBw4 hsw4
          rw [← Hy3.out, List.append_assoc, ← Hm8.out, ← Hm.out] at hrow5
          go_wp2
          go_roundg g'
          case measure => omega
          case rel => exact ⟨t2, pre ++ [c], rfl, hsc.append (.mk hc .nil), Hu.out, by omega, hrow5, hon5⟩
        · have hm8 : m8 c = unitZ c := by unfold m8; rw [if_pos (by omega)]
          rw [hm8] at htot
          have Hm8 := Lib.hid hm8
          clear hm8 hml2
          go_wp2_with (fail)
          refine (unit _ _ (by omega) (by omega)).mono ?_
          rintro e w2 ⟨v2, rfl, hsw2, ho2⟩
          have hon2 := hon1.trans ho2 (fun _ h => h.elim)
          have hrow2 := Row.only hrow1 ho2 (fun _ _ h => h)
          have hBw2 := hon2.size
          clear hrow1 hon1 ho2
          go_wp2_with (at_builtin; go_loud (refine wpList_append_src rfl (.tmp 36) (.tmp 38) 36 rfl 5 i0 (.int .u8 0) 1 1 Tryd.underlying36 hi hz0 hz1 hz2 rfl (by decide) w.heap.size (.slice ao ys.length cap) ys.length (ys.map (Value.int .u8)) rfl (by exact hrow2) (by exact hBw2) v2 (unitZ (c)).length ((unitZ (c)).map (Value.int .u8)) rfl (by exact hsw2) (by unfold maxLen; omega) (by omega) ?_); intro vw3 w3 hownw3 hgroww3 hneww3)
          obtain ⟨hrow3, hon3⟩ := Row.push hrow2 hon2 hownw3 hgroww3 hneww3
          clear hownw3 hgroww3 hneww3 hrow2 hon2 hBw2 hsw2
          rw [← Hm8.out, ← Hm.out] at hrow3
          go_wp2
          go_roundg g'
          case measure => omega
          case rel => exact ⟨t2, pre ++ [c], rfl, hsc.append (.mk hc .nil), Hu.out, by omega, hrow3, hon3⟩
      · have hnot : ¬ ∃ cs, IsText (nums s) cs := by
          rw [Hnum.out, text_tails hsc]
          exact no_text (by intro e; have := nums_len t; rw [e] at this; simp at this; omega) hno
        go_wp2
        go_ret2
        exact ⟨_, [], 20, rfl, .inr ⟨hnot, rfl, rfl⟩, World.ownsRow_nil _ _ _ _, hon1⟩
    · have ht0 : nums t = [] := List.eq_nil_of_length_eq_zero (by rw [nums_len]; omega)
      go_wp2
      go_ret2
      exact ⟨_, ys, 0, rfl, .inl ⟨pre, ⟨hsc, by rw [Hnum.out, ht0, List.append_nil]⟩, Hys.out.symm, rfl⟩, Hrow.out, hon⟩
theorem Enc.byte {zs ys : List Int} {k : Int} (h : Enc zs ys k) : Bytish ys := by
  rcases h with ⟨cs, ht, rfl, _⟩ | ⟨_, rfl, _⟩
  · exact M8s_byte ht.1
  · exact Bytish.nil
theorem enc_A {ys : List Int} {k : Int} (h : Enc (nums ⟨#[65]⟩) ys k) : ys = [65] ∧ k = 0 := by
  have hA : IsText (nums ⟨#[65]⟩) [65] := ⟨fun c hc => by simp at hc; subst hc; unfold Sc; omega, by decide⟩
  have := Enc.unique h (.inl ⟨[65], hA, rfl, rfl⟩)
  exact ⟨this.1.trans (by decide), this.2⟩
theorem nN (s : ByteArray) (hs : s.size ≤ 70368744177664) : ∀ cs, IsText (nums s) cs → (M8s cs).length ≤ 140737488355328 := fun cs hcs => by
  have := (M8s_len hcs.1).2
  rw [← hcs.2, nums_len] at this
  omega
theorem Enc.code {zs ys : List Int} {k : Int} (h : Enc zs ys k) : k = 0 ∨ k = 20 := by
  rcases h with ⟨cs, ht, rfl, h⟩ | ⟨_, rfl, h⟩
  · exact .inl h
  · exact .inr h
end Go.Proofs.YtodhdiccfobcfaaDoor
