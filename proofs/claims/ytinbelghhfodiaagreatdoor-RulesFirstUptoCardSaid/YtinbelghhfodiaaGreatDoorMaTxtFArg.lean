import Derived.Test.YtinbelghhfodiaaGreatDoorMaTxtATxtE
import Derived.Test.YtinbelghhfodiaaGreatDoorMaSepPolT
import Derived.Test.YtinbelghhfodiaaGreatDoorMaPolW
import Derived.Lib.IfaceEq
import Derived.Stop.Asserts
import Derived.LaidEql
import Derived.RowKitTokens
import Derived.Test.YtinbelghhfodiaaGreatDoorRows
import Derived.ProofKit
import Derived.SizedLaws
import Derived.Deep.Slices
import Derived.Deep.Fields
namespace Go.Proofs.YtinbelghhfodiaaGreatDoor
set_option maxHeartbeats 4000000
open Lib (hid)
open Go.RowKit Go.Shelf
set_option linter.unusedVariables false
set_option linter.unusedSimpArgs false
theorem unit (u : Int) (w : World) (h0 : 0 ≤ u) (h1 : u ≤ 65535) :
  Calls Tryz.prog 165 #[.int .i64 u] w fun e w' => ∃ v, e = .returned v ∧ Src w' 1 v (unitZ u).length ((unitZ u).map (Value.int .u8)) ∧ Only (fun _ => False) w w' := by
 by_cases c1 : 1 ≤ u ∧ u ≤ 127
 ·obtain ⟨ca, cb⟩ := c1
  rw [unitZ_one ca cb]
  go_enter Tryz.func165, Tryz.ntmps165
  go_wp2
  go_ret
  refine ⟨_, rfl, ?_, (Only.refl _ _).alloc _⟩
  exact Src.few (w := w) (t := 5) (xs := [.int .u8 (u)]) (by intro x hx; simp only [List.mem_cons, List.mem_nil_iff, or_false] at hx; subst hx; rfl)
 by_cases c2 : u ≤ 2047
 ·have c1' : u < 1 ∨ 127 < u := by omega
  rw [unitZ_two (by omega) c2]
  go_enter Tryz.func165, Tryz.ntmps165
  go_wp2
  all_goals go_ret
  all_goals first | (exfalso; omega) | skip
  all_goals refine ⟨_, rfl, ?_, (Only.refl _ _).alloc _⟩
  all_goals exact Src.few (w := w) (t := 5) (xs := [.int .u8 (192 + u / 64), .int .u8 (128 + u % 64)]) (by intro x hx; simp only [List.mem_cons, List.mem_nil_iff, or_false] at hx; rcases hx with rfl | rfl <;> rfl)
 ·rw [unitZ_three (by omega)]
  go_enter Tryz.func165, Tryz.ntmps165
  go_wp2
  all_goals go_ret
  all_goals first | (exfalso; omega) | skip
  all_goals refine ⟨_, rfl, ?_, (Only.refl _ _).alloc _⟩
  all_goals exact Src.few (w := w) (t := 5) (xs := [.int .u8 (224 + u / 4096), .int .u8 (128 + u / 64 % 64), .int .u8 (128 + u % 64)]) (by intro x hx; simp only [List.mem_cons, List.mem_nil_iff, or_false] at hx; rcases hx with rfl | rfl | rfl <;> rfl)
theorem nums_ext (t : ByteArray) (n : Nat) : nums (t.extract n t.size) = (nums t).drop n := by
 rw [nums, Lib.extract_data, List.take_of_length_le (by rw [List.length_drop]; exact Nat.le_refl _)]
 simp only [nums, numsL, List.map_drop]
set_option maxRecDepth 100000 in
theorem refEncode (s : ByteArray) (w : World) (hs : s.size ≤ 70368744177664) :
  Calls Tryz.prog 142 #[.string s] w fun e w' => ∃ v ys k, e = .returned (.tuple #[v, .int .i64 k]) ∧ EncTo w s v ys k w' := by
 obtain ⟨i0, hi, hz0, hz1, hz2⟩ := info_parts info_u8
 go_enter Tryz.func142, Tryz.ntmps142
 go_wp2
 go_loopg [0, 4] (s.size + 1) (fun gk s0 b wr => ∃ (t : ByteArray) (pre : List Int), s0 = .string t ∧ AllSc pre ∧ nums s = U8s pre ++ nums t ∧ t.size < gk ∧ Row wr w.heap.size b (M8s pre) ∧ Only (fun _ => False) w wr)
 case atStart => exact ⟨s, [], rfl, .nil, rfl, by omega, World.ownsRow_nil _ _ _ _, Only.refl _ _⟩
 case round =>
  obtain ⟨t, pre, rfl, hsc, hnum, hgk, hrow, hon⟩ := hrel
  obtain ⟨ao, cap, rfl, hc1, hc2⟩ := slice_of_owns hrow
  have hlen : (U8s pre).length + t.size = s.size := by rw [← nums_len s, hnum, List.length_append, nums_len]
  have hml := (M8s_len hsc).2
  have Hnum := hid hnum
  have Hrow := hid hrow
  clear hnum hrow
  obtain ⟨ys, hys⟩ : ∃ ys, M8s pre = ys := ⟨_, rfl⟩
  rw [hys] at hml Hrow hc1
  rw [hys]
  have Hys := hid hys
  clear hys
  by_cases h0 : 0 < t.size
  ·obtain ⟨g', rfl⟩ : ∃ g', gk = g' + 1 := ⟨gk - 1, by omega⟩
   have h0z : (0 : Int) < (t.size : Int) := by omega
   go_wp2_with (fail)
   refine (point t _ (by omega) h0).mono ?_
   rintro e w1 ⟨⟨c, n, rfl, hpt⟩, hdr⟩
   have hon1 : Only (fun _ => False) w w1 := hon.trans (hdr.only (S := fun _ => False)) (fun _ h => h.elim)
   have hrow1 : Row w1 w.heap.size (.slice ao ys.length cap) ys := Row.only Hrow.out (hdr.only (S := fun _ => False)) (fun _ _ h => h)
   clear hdr Hrow
   rcases hpt with ⟨hc, hn, r, hr⟩ | ⟨hno, rfl, rfl⟩
   ·have hnle : n ≤ t.size := by rw [← nums_len, hr, List.length_append]; omega
    have hnz : (n : Int) ≤ (t.size : Int) := by omega
    have hn1 : 1 ≤ n := by rw [hn]; exact (u8_len hc).1
    have hnb : ((n : Int) == 0) = false := by simp; omega
    clear hon
    have hext : nums (t.extract n t.size) = r := by rw [nums_ext, hr, hn, List.drop_left]
    have hsz : (t.extract n t.size).size + n = t.size := by rw [Lib.ext_size]; omega
    obtain ⟨t2, ht2⟩ : ∃ t2, t.extract n t.size = t2 := ⟨_, rfl⟩
    rw [ht2] at hext hsz
    have Ht := hid ht2
    have Hr := hid hr
    have Hn := hid hn
    have Hext := hid hext
    have hcr : 0 ≤ c ∧ c ≤ 1114111 := by unfold Sc at hc; omega
    have hml2 := (m8_len hc).2
    have hm : M8s (pre ++ [c]) = ys ++ m8 c := by rw [M8s_append, Hys.out, M8s_cons, M8s_nil, List.append_nil]
    have Hm := hid hm
    have hN8 : nums s = U8s (pre ++ [c]) ++ nums t2 := by rw [U8s_append, U8s_cons, U8s_nil, List.append_nil, hext, List.append_assoc, ← hr]; exact Hnum.out
    clear hr hn hext hm
    have htot : ys.length + (m8 c).length ≤ 140737488355328 := by rw [Hn.out] at hnle; omega
    have Hu := hid hN8
    clear hN8
    by_cases hc6 : 65536 ≤ c
    ·have hm8 : m8 c = unitZ (55296 + (c - 65536) / 1024) ++ unitZ (56320 + (c - 65536) % 1024) := by unfold m8; rw [if_neg (by omega)]; rfl
     rw [hm8, List.length_append] at htot
     have Hm8 := hid hm8
     clear hm8 hml2
     go_wp2_with (fail)
     refine (unit _ _ (by omega) (by omega)).mono ?_
     rintro e w2 ⟨v2, rfl, hsw2, ho2⟩
     have hon2 := hon1.trans ho2 (fun _ h => h.elim)
     have hrow2 := Row.only hrow1 ho2 (fun _ _ h => h)
     have hBw2 := hon2.size
     clear hrow1 hon1 ho2
     go_wp2_with (at_builtin; go_loud (refine wpList_append_src rfl (.tmp 22) (.tmp 27) 55 rfl 5 i0 (.int .u8 0) 1 1 Tryz.underlying55 hi hz0 hz1 hz2 rfl (by decide) w.heap.size (.slice ao ys.length cap) ys.length (ys.map (Value.int .u8)) rfl (by exact hrow2) (by exact hBw2) v2 (unitZ (55296 + (c - 65536) / 1024)).length ((unitZ (55296 + (c - 65536) / 1024)).map (Value.int .u8)) rfl (by exact hsw2) (by unfold maxLen; omega) (by omega) ?_); intro vw3 w3 hownw3 hgroww3 hneww3)
     obtain ⟨hrow3, hon3⟩ := Row.push hrow2 hon2 hownw3 hgroww3 hneww3
     obtain ⟨ao3, cap3, rfl, hc31, hc32⟩ := slice_of_owns hrow3
     obtain ⟨y3, hy3⟩ : ∃ y3, ys ++ unitZ (55296 + (c - 65536) / 1024) = y3 := ⟨_, rfl⟩
     rw [hy3] at hrow3 hc31 ⊢
     have hl3 : y3.length ≤ ys.length + (unitZ (55296 + (c - 65536) / 1024)).length := by rw [← hy3, List.length_append]; exact Nat.le_refl _
     have Hy3 := hid hy3
     clear hownw3 hgroww3 hneww3 hrow2 hon2 hBw2 hsw2 hy3
     go_wp2_with (fail)
     refine (unit _ _ (by omega) (by omega)).mono ?_
     rintro e w4 ⟨v4, rfl, hsw4, ho4⟩
     have hon4 := hon3.trans ho4 (fun _ h => h.elim)
     have hrow4 := Row.only hrow3 ho4 (fun _ _ h => h)
     have hBw4 := hon4.size
     clear hrow3 hon3 ho4
     go_wp2_with (at_builtin; go_loud (refine wpList_append_src rfl (.tmp 29) (.tmp 34) 55 rfl 5 i0 (.int .u8 0) 1 1 Tryz.underlying55 hi hz0 hz1 hz2 rfl (by decide) w.heap.size (.slice ao3 y3.length cap3) y3.length (y3.map (Value.int .u8)) rfl (by exact hrow4) (by exact hBw4) v4 (unitZ (56320 + (c - 65536) % 1024)).length ((unitZ (56320 + (c - 65536) % 1024)).map (Value.int .u8)) rfl (by exact hsw4) (by unfold maxLen; omega) (by omega) ?_); intro vw5 w5 hownw5 hgroww5 hneww5)
     obtain ⟨hrow5, hon5⟩ := Row.push hrow4 hon4 hownw5 hgroww5 hneww5
     clear hownw5 hgroww5 hneww5 hrow4 hon4 hBw4 hsw4
     rw [← Hy3.out, List.append_assoc, ← Hm8.out, ← Hm.out] at hrow5
     go_wp2
     go_roundg g'
     case measure => omega
     case rel => exact ⟨t2, pre ++ [c], rfl, hsc.append (.mk hc .nil), Hu.out, by omega, hrow5, hon5⟩
    ·have hm8 : m8 c = unitZ c := by unfold m8; rw [if_pos (by omega)]
     rw [hm8] at htot
     have Hm8 := hid hm8
     clear hm8 hml2
     go_wp2_with (fail)
     refine (unit _ _ (by omega) (by omega)).mono ?_
     rintro e w2 ⟨v2, rfl, hsw2, ho2⟩
     have hon2 := hon1.trans ho2 (fun _ h => h.elim)
     have hrow2 := Row.only hrow1 ho2 (fun _ _ h => h)
     have hBw2 := hon2.size
     clear hrow1 hon1 ho2
     go_wp2_with (at_builtin; go_loud (refine wpList_append_src rfl (.tmp 36) (.tmp 38) 55 rfl 5 i0 (.int .u8 0) 1 1 Tryz.underlying55 hi hz0 hz1 hz2 rfl (by decide) w.heap.size (.slice ao ys.length cap) ys.length (ys.map (Value.int .u8)) rfl (by exact hrow2) (by exact hBw2) v2 (unitZ (c)).length ((unitZ (c)).map (Value.int .u8)) rfl (by exact hsw2) (by unfold maxLen; omega) (by omega) ?_); intro vw3 w3 hownw3 hgroww3 hneww3)
     obtain ⟨hrow3, hon3⟩ := Row.push hrow2 hon2 hownw3 hgroww3 hneww3
     clear hownw3 hgroww3 hneww3 hrow2 hon2 hBw2 hsw2
     rw [← Hm8.out, ← Hm.out] at hrow3
     go_wp2
     go_roundg g'
     case measure => omega
     case rel => exact ⟨t2, pre ++ [c], rfl, hsc.append (.mk hc .nil), Hu.out, by omega, hrow3, hon3⟩
   ·have hnot : ¬ ∃ cs, IsText (nums s) cs := by
     rw [Hnum.out, text_tails hsc]
     exact no_text (by intro e; have := nums_len t; rw [e] at this; simp at this; omega) hno
    go_wp2
    go_ret2
    exact ⟨_, [], 20, rfl, .inr ⟨hnot, rfl, rfl⟩, World.ownsRow_nil _ _ _ _, hon1⟩
  ·have ht0 : nums t = [] := List.eq_nil_of_length_eq_zero (by rw [nums_len]; omega)
   go_wp2
   go_ret2
   exact ⟨_, ys, 0, rfl, .inl ⟨pre, ⟨hsc, by rw [Hnum.out, ht0, List.append_nil]⟩, Hys.out.symm, rfl⟩, Hrow.out, hon⟩
theorem Enc.code {zs ys : List Int} {k : Int} (h : Enc zs ys k) : k = 0 ∨ k = 20 := by
 rcases h with ⟨cs, ht, rfl, h⟩ | ⟨_, rfl, h⟩
 ·exact .inl h
 ·exact .inr h
def TextBad (x : ByteArray) : Prop := ∀ ys k, Enc (nums x) ys k → k ≠ 0 ∨ 256 < ys.length
open Classical in
noncomputable def oneZ (cs : List ConstV) (c : ConstV) : Int :=
 if bareZ c = false then 40
 else if c.tag = 1 then (if TextBad c.text then 20 else 0)
 else if c.tag = 3 then (if -2147483648 ≤ c.n ∧ c.n ≤ 2147483647 then 0 else 40)
 else if c.tag = 5 then 0
 else if c.tag = 7 then (if isZ cs c.a 1 = true then 0 else 40)
 else if c.tag = 12 then (if isZ cs c.a 1 = true ∧ isZ cs c.b 1 = true then 0 else 40)
 else if c.tag = 9 ∨ c.tag = 10 then (if isZ cs c.a 7 = true ∧ isZ cs c.b 12 = true then 0 else 40)
 else 40
theorem refOne (v : Value) (cs : List ConstV) (i : Nat) (w : World) (hp : Pool w v cs) (hi : i < cs.length) (ht : (cs.getD i default).text.size ≤ 70368744177664) :
  Calls Tryz.prog 114 #[v, .int .i64 i] w fun e w' => e = .returned (.int .i64 (oneZ cs (cs.getD i default))) ∧ Only (fun _ => False) w w' := by
 obtain ⟨ao, cap, rfl, h1, h2, h3, h4, h5⟩ := id hp
 obtain ⟨b, o, rfl, hc⟩ := Pool.at hp hi
 have hr := hp.range hi
 obtain ⟨r0, r2, r3, r4, _⟩ := hr
 obtain ⟨g0, g1, g2, g3, g4⟩ := hc
 have Hp := hid hp
 clear h3 h4 h5 hp
 generalize cs.getD i default = c at *
 obtain ⟨t, x, n, a, bb⟩ := c
 simp only at *
 have hiz : (i : Int) < (cs.length : Int) := by omega
 have cB := fun w => refBare ⟨t, x, n, a, bb⟩ w
 simp only at cB
 go_enter Tryz.func114, Tryz.ntmps114
 go_wp2_with (fail)
 refine (cB _).mono ?_
 rintro e w1 ⟨rfl, ho1⟩
 have hoW : Only (fun _ => False) w w1 := ((Only.refl (fun _ => False) w).alloc _).trans ho1 (fun _ h => h.elim)
 have hblk := ho1.heap (heap_alloc_new w _) (fun h => h)
 have q0 := cell_blk hblk 0
 have q1 := cell_blk hblk 1
 have q2 := cell_blk hblk 2
 have q3 := cell_blk hblk 3
 have q4 := cell_blk hblk 4
 simp at q0 q1 q2 q3 q4
 have hp1 := (Hp.out).only hoW (fun _ _ h => h)
 have Hp1 := hid hp1
 have HoW := hid hoW
 clear cB g0 g1 g2 g3 g4 ho1 hoW hblk hp1
 obtain ⟨B, hB⟩ : ∃ B, bareZ ⟨t, x, n, a, bb⟩ = B := ⟨_, rfl⟩
 rw [hB]
 cases B with
 | false =>
  have Hf := hid hB
  clear hB
  go_wp2
  go_ret
  exact ⟨congrArg (fun z => Ending.returned (.int .i64 z)) (show _ = oneZ _ _ from by unfold oneZ; dsimp only; rw [if_pos Hf.out]), HoW.out⟩
 | true =>
  have hB2 : ¬ bareZ ⟨t, x, n, a, bb⟩ = false := by rw [hB]; simp
  have Hb2 := hid hB2
  clear hB hB2
  by_cases t1 : t = 1
  ·subst t1
   go_wp2_with (fail)
   refine (refEncode x _ ht).mono ?_
   rintro e w2 ⟨v2, ys, k, rfl, henc, hrow, hon⟩
   have hoW2 := (HoW.out).trans hon (fun _ h => h.elim)
   have q0 := hon.cell q0 (fun h => h)
   obtain ⟨ao2, cap2, rfl, hc1, hc2⟩ := slice_of_owns hrow
   have hu : ∀ ys' k', Enc (nums x) ys' k' → ys' = ys ∧ k' = k := fun ys' k' h => Enc.unique h henc
   have hk := henc
   have Hu := hid hu
   have Henc := hid henc
   have hcode : k = 0 ∨ k = 20 := by rcases henc with ⟨cs', ht', _, h⟩ | ⟨_, _, h⟩; exact .inl h; exact .inr h
   clear hu henc hrow hon hk
   by_cases hbad : k ≠ 0 ∨ 256 < ys.length
   ·have hT : TextBad x := fun ys' k' h => by
     obtain ⟨rfl, rfl⟩ := Hu.out ys' k' h
     exact hbad
    have HT := hid hT
    clear hT
    rcases hcode with rfl | rfl
    ·have hbl : (256 : Int) < (ys.length : Int) := by omega
     go_wp2
     go_ret
     exact ⟨congrArg (fun z => Ending.returned (.int .i64 z)) (show _ = oneZ _ _ from by unfold oneZ; dsimp only; rw [if_neg Hb2.out, if_pos rfl, if_pos HT.out]), hoW2⟩
    ·go_wp2
     go_ret
     exact ⟨congrArg (fun z => Ending.returned (.int .i64 z)) (show _ = oneZ _ _ from by unfold oneZ; dsimp only; rw [if_neg Hb2.out, if_pos rfl, if_pos HT.out]), hoW2⟩
   ·have hT : ¬ TextBad x := fun h => hbad (h _ _ Henc.out)
    have HT := hid hT
    have hk0 : k = 0 := by omega
    have hbl : (ys.length : Int) ≤ 256 := by omega
    subst hk0
    clear hT hbad
    go_wp2
    go_ret
    exact ⟨congrArg (fun z => Ending.returned (.int .i64 z)) (show _ = oneZ _ _ from by unfold oneZ; dsimp only; rw [if_neg Hb2.out, if_pos rfl, if_neg HT.out]), hoW2⟩
  by_cases t3 : t = 3
  ·subst t3
   by_cases hr : -2147483648 ≤ n ∧ n ≤ 2147483647
   ·have Hr := hid hr
    go_wp2
    all_goals first | go_ret | skip
    all_goals try simp only [Bool.not_eq_true', Bool.not_eq_false', decide_eq_true_eq, decide_eq_false_iff_not, beq_iff_eq] at *
    all_goals first | (exfalso; omega) | exact ⟨congrArg (fun z => Ending.returned (.int .i64 z)) (show _ = oneZ _ _ from by unfold oneZ; dsimp only; rw [if_neg Hb2.out, if_neg (by decide), if_pos rfl, if_pos Hr.out]), HoW.out⟩
   ·have Hr := hid hr
    go_wp2
    all_goals first | go_ret | skip
    all_goals try simp only [Bool.not_eq_true', Bool.not_eq_false', decide_eq_true_eq, decide_eq_false_iff_not, beq_iff_eq] at *
    all_goals first | (exfalso; omega) | exact ⟨congrArg (fun z => Ending.returned (.int .i64 z)) (show _ = oneZ _ _ from by unfold oneZ; dsimp only; rw [if_neg Hb2.out, if_neg (by decide), if_pos rfl, if_neg Hr.out]), HoW.out⟩
  by_cases t5 : t = 5
  ·subst t5
   go_wp2
   go_ret
   exact ⟨congrArg (fun z => Ending.returned (.int .i64 z)) (show _ = oneZ _ _ from by unfold oneZ; dsimp only; rw [if_neg Hb2.out, if_neg (by decide), if_neg (by decide), if_pos rfl]), HoW.out⟩
  by_cases t7 : t = 7
  ·subst t7
   cases hA : isZ cs a 1 with
   | true =>
    have HA := hid hA
    go_wp2_with (go_at_call 57; refine (refIs _ cs _ _ _ (by exact Hp1.out)).mono ?_; rintro e w' ⟨rfl, rfl⟩)
    go_ret
    exact ⟨congrArg (fun z => Ending.returned (.int .i64 z)) (show _ = oneZ _ _ from by unfold oneZ; dsimp only; rw [if_neg Hb2.out, if_neg (by decide), if_neg (by decide), if_neg (by decide), if_pos rfl, if_pos HA.out]), HoW.out⟩
   | false =>
    have HA := hid hA
    go_wp2_with (go_at_call 57; refine (refIs _ cs _ _ _ (by exact Hp1.out)).mono ?_; rintro e w' ⟨rfl, rfl⟩)
    go_ret
    exact ⟨congrArg (fun z => Ending.returned (.int .i64 z)) (show _ = oneZ _ _ from by unfold oneZ; dsimp only; rw [if_neg Hb2.out, if_neg (by decide), if_neg (by decide), if_neg (by decide), if_pos rfl, if_neg (by rw [HA.out]; simp)]), HoW.out⟩
  by_cases t12 : t = 12
  ·subst t12
   cases hA : isZ cs a 1 with
   | true =>
    have HA := hid hA
    cases hB2 : isZ cs bb 1 with
    | true =>
     have HB := hid hB2
     go_wp2_with (go_at_call 57; refine (refIs _ cs _ _ _ (by exact Hp1.out)).mono ?_; rintro e w' ⟨rfl, rfl⟩)
     go_ret
     exact ⟨congrArg (fun z => Ending.returned (.int .i64 z)) (show _ = oneZ _ _ from by unfold oneZ; dsimp only; rw [if_neg Hb2.out, if_neg (by decide), if_neg (by decide), if_neg (by decide), if_neg (by decide), if_pos rfl, if_pos ⟨HA.out, HB.out⟩]), HoW.out⟩
    | false =>
     have HB := hid hB2
     go_wp2_with (go_at_call 57; refine (refIs _ cs _ _ _ (by exact Hp1.out)).mono ?_; rintro e w' ⟨rfl, rfl⟩)
     go_ret
     exact ⟨congrArg (fun z => Ending.returned (.int .i64 z)) (show _ = oneZ _ _ from by unfold oneZ; dsimp only; rw [if_neg Hb2.out, if_neg (by decide), if_neg (by decide), if_neg (by decide), if_neg (by decide), if_pos rfl, if_neg (fun h => by have := h.2; rw [HB.out] at this; simp at this)]), HoW.out⟩
   | false =>
    have HA := hid hA
    go_wp2_with (go_at_call 57; refine (refIs _ cs _ _ _ (by exact Hp1.out)).mono ?_; rintro e w' ⟨rfl, rfl⟩)
    go_ret
    exact ⟨congrArg (fun z => Ending.returned (.int .i64 z)) (show _ = oneZ _ _ from by unfold oneZ; dsimp only; rw [if_neg Hb2.out, if_neg (by decide), if_neg (by decide), if_neg (by decide), if_neg (by decide), if_pos rfl, if_neg (fun h => by have := h.1; rw [HA.out] at this; simp at this)]), HoW.out⟩
  by_cases t9 : t = 9
  ·subst t9
   cases hA : isZ cs a 7 with
   | true =>
    have HA := hid hA
    cases hB2 : isZ cs bb 12 with
    | true =>
     have HB := hid hB2
     go_wp2_with (go_at_call 57; refine (refIs _ cs _ _ _ (by exact Hp1.out)).mono ?_; rintro e w' ⟨rfl, rfl⟩)
     go_ret
     exact ⟨congrArg (fun z => Ending.returned (.int .i64 z)) (show _ = oneZ _ _ from by unfold oneZ; dsimp only; rw [if_neg Hb2.out, if_neg (by decide), if_neg (by decide), if_neg (by decide), if_neg (by decide), if_neg (by decide), if_pos (.inl rfl), if_pos ⟨HA.out, HB.out⟩]), HoW.out⟩
    | false =>
     have HB := hid hB2
     go_wp2_with (go_at_call 57; refine (refIs _ cs _ _ _ (by exact Hp1.out)).mono ?_; rintro e w' ⟨rfl, rfl⟩)
     go_ret
     exact ⟨congrArg (fun z => Ending.returned (.int .i64 z)) (show _ = oneZ _ _ from by unfold oneZ; dsimp only; rw [if_neg Hb2.out, if_neg (by decide), if_neg (by decide), if_neg (by decide), if_neg (by decide), if_neg (by decide), if_pos (.inl rfl), if_neg (fun h => by have := h.2; rw [HB.out] at this; simp at this)]), HoW.out⟩
   | false =>
    have HA := hid hA
    go_wp2_with (go_at_call 57; refine (refIs _ cs _ _ _ (by exact Hp1.out)).mono ?_; rintro e w' ⟨rfl, rfl⟩)
    go_ret
    exact ⟨congrArg (fun z => Ending.returned (.int .i64 z)) (show _ = oneZ _ _ from by unfold oneZ; dsimp only; rw [if_neg Hb2.out, if_neg (by decide), if_neg (by decide), if_neg (by decide), if_neg (by decide), if_neg (by decide), if_pos (.inl rfl), if_neg (fun h => by have := h.1; rw [HA.out] at this; simp at this)]), HoW.out⟩
  by_cases t10 : t = 10
  ·subst t10
   cases hA : isZ cs a 7 with
   | true =>
    have HA := hid hA
    cases hB2 : isZ cs bb 12 with
    | true =>
     have HB := hid hB2
     go_wp2_with (go_at_call 57; refine (refIs _ cs _ _ _ (by exact Hp1.out)).mono ?_; rintro e w' ⟨rfl, rfl⟩)
     go_ret
     exact ⟨congrArg (fun z => Ending.returned (.int .i64 z)) (show _ = oneZ _ _ from by unfold oneZ; dsimp only; rw [if_neg Hb2.out, if_neg (by decide), if_neg (by decide), if_neg (by decide), if_neg (by decide), if_neg (by decide), if_pos (.inr rfl), if_pos ⟨HA.out, HB.out⟩]), HoW.out⟩
    | false =>
     have HB := hid hB2
     go_wp2_with (go_at_call 57; refine (refIs _ cs _ _ _ (by exact Hp1.out)).mono ?_; rintro e w' ⟨rfl, rfl⟩)
     go_ret
     exact ⟨congrArg (fun z => Ending.returned (.int .i64 z)) (show _ = oneZ _ _ from by unfold oneZ; dsimp only; rw [if_neg Hb2.out, if_neg (by decide), if_neg (by decide), if_neg (by decide), if_neg (by decide), if_neg (by decide), if_pos (.inr rfl), if_neg (fun h => by have := h.2; rw [HB.out] at this; simp at this)]), HoW.out⟩
   | false =>
    have HA := hid hA
    go_wp2_with (go_at_call 57; refine (refIs _ cs _ _ _ (by exact Hp1.out)).mono ?_; rintro e w' ⟨rfl, rfl⟩)
    go_ret
    exact ⟨congrArg (fun z => Ending.returned (.int .i64 z)) (show _ = oneZ _ _ from by unfold oneZ; dsimp only; rw [if_neg Hb2.out, if_neg (by decide), if_neg (by decide), if_neg (by decide), if_neg (by decide), if_neg (by decide), if_pos (.inr rfl), if_neg (fun h => by have := h.1; rw [HA.out] at this; simp at this)]), HoW.out⟩
  go_wp2
  all_goals first | go_ret | skip
  all_goals first | (exfalso; omega) | skip
  all_goals exact ⟨congrArg (fun z => Ending.returned (.int .i64 z)) (show _ = oneZ _ _ from by unfold oneZ; dsimp only; rw [if_neg Hb2.out, if_neg t1, if_neg t3, if_neg t5, if_neg t7, if_neg t12, if_neg (by omega)]), HoW.out⟩
end Go.Proofs.YtinbelghhfodiaaGreatDoor
namespace Go.Proofs.YtinbelghhfodiaaGreatDoor
set_option maxHeartbeats 4000000
open Lib (hid)
open Go.RowKit Go.Shelf
set_option linter.unusedVariables false
set_option linter.unusedSimpArgs false
def zeroC : ConstV := ⟨0, ⟨#[]⟩, 0, 0, 0⟩
open Classical in
noncomputable def errs (cs : List ConstV) : List ConstV → Int
 | [] => 0
 | c :: r => if oneZ cs c ≠ 0 then oneZ cs c else errs cs r
open Classical in
noncomputable def checkZ (cs : List ConstV) : Int := if 1024 < cs.length then 2 else if cs = [] ∨ cs.getD 0 default ≠ zeroC then 40 else errs cs (cs.drop 1)
def Texts (cs : List ConstV) : Prop := ∀ c ∈ cs, c.text.size ≤ 70368744177664
theorem Texts.at {cs : List ConstV} (h : Texts cs) {i : Nat} (hi : i < cs.length) : (cs.getD i default).text.size ≤ 70368744177664 := by
 have e : cs.getD i default = cs[i] := by simp [List.getD, hi]
 rw [e]
 exact h _ (List.getElem_mem hi)
theorem refCheck (v : Value) (cs : List ConstV) (w : World) (hp : Pool w v cs) (ht : Texts cs) :
  Calls Tryz.prog 73 #[v] w fun e w' => e = .returned (.int .i64 (checkZ cs)) ∧ Only (fun _ => False) w w' := by
 obtain ⟨ao, cap, rfl, h1, h2, h3, h4, h5⟩ := id hp
 have Hp := hid hp
 have Ht := hid ht
 clear h3 h4 h5 hp ht
 by_cases hl : 1024 < cs.length
 ·have hlz : (1024 : Int) < (cs.length : Int) := by omega
  go_enter Tryz.func73, Tryz.ntmps73
  go_wp2
  go_ret
  exact ⟨congrArg (fun z => Ending.returned (.int .i64 z)) (show _ = checkZ _ from by unfold checkZ; rw [if_pos hl]), Only.refl _ _⟩
 have hlz : (cs.length : Int) ≤ 1024 := by omega
 by_cases hz : cs = []
 ·have hc : checkZ cs = 40 := by unfold checkZ; rw [if_neg hl, if_pos (.inl hz)]
  have h0 : cs.length = 0 := by rw [hz]; rfl
  have Hc := hid hc
  clear hz hc
  go_enter Tryz.func73, Tryz.ntmps73
  go_wp2
  go_ret
  exact ⟨congrArg (fun z => Ending.returned (.int .i64 z)) Hc.out.symm, Only.refl _ _⟩
 have h0 : 0 < cs.length := List.length_pos_iff.2 hz
 obtain ⟨b, o, rfl, hc⟩ := Pool.at Hp.out h0
 obtain ⟨g0, g1, g2, g3, g4⟩ := hc
 simp only [Nat.zero_mul, Nat.add_zero] at g0 g1 g2 g3 g4
 have h0z : (0 : Int) < (cs.length : Int) := by omega
 have h0b : ((cs.length : Int) == 0) = false := by simp; omega
 obtain ⟨c, hc⟩ : ∃ c, cs.getD 0 default = c := ⟨_, rfl⟩
 rw [hc] at g0 g1 g2 g3 g4
 obtain ⟨t, x, n, a, bb⟩ := c
 simp only at g0 g1 g2 g3 g4
 have Hc0 := hid hc
 have Hz := hid hz
 clear hc hz
 by_cases hzero : t = 0 ∧ x.toList = [] ∧ n = 0 ∧ a = 0 ∧ bb = 0
 ·obtain ⟨rfl, hx, rfl, rfl, rfl⟩ := hzero
  have hx' : x = ⟨#[]⟩ := by rw [empty_text]; exact hx
  subst hx'
  have hR : checkZ cs = errs cs (cs.drop 1) := by
   unfold checkZ
   rw [if_neg hl, if_neg (fun h => h.elim Hz.out (fun h => h (Hc0.out)))]
  obtain ⟨R, hRR⟩ : ∃ R, errs cs (cs.drop 1) = R := ⟨_, rfl⟩
  rw [hRR] at hR
  have HR := hid hR
  have HRR := hid hRR
  clear hR hRR hx hl
  go_enter Tryz.func73, Tryz.ntmps73
  go_wp2
  go_loopw [3] (fun i wr => ∃ j : Nat, 1 ≤ j ∧ j ≤ cs.length ∧ i = .int .i64 j ∧ errs cs (cs.drop j) = R ∧ Only (fun _ => False) w wr) (fun i _ => cs.length - (intOf i).toNat)
  case atStart => exact ⟨1, Nat.le_refl _, h0, rfl, HRR.out, Only.refl _ _⟩
  case round =>
   obtain ⟨j, hj1, hj, rfl, he, hon⟩ := hrel
   clear g0 g1 g2 g3 g4
   by_cases hlt : j < cs.length
   ·have hstep : errs cs (cs.drop j) = errs cs (cs.getD j default :: cs.drop (j + 1)) := by
     rw [List.drop_eq_getElem_cons hlt]
     simp [List.getD, hlt]
    have hjz : (j : Int) < (cs.length : Int) := by omega
    have hpw := (Hp.out).only hon (fun _ _ h => h)
    have htw := (Ht.out).at hlt
    rw [hstep] at he
    have He := hid he
    clear hstep he
    go_wp2_with (fail)
    refine (refOne _ cs j _ hpw hlt htw).mono ?_
    rintro e w2 ⟨rfl, ho2⟩
    have hon2 := hon.trans ho2 (fun _ h => h.elim)
    clear hpw htw ho2 hon
    obtain ⟨q, hq⟩ : ∃ q, oneZ cs (cs.getD j default) = q := ⟨_, rfl⟩
    rw [hq]
    have he2 := He.out
    unfold errs at he2
    rw [hq] at he2
    clear hq
    by_cases hq0 : q = 0
    ·subst hq0
     rw [if_neg (by simp)] at he2
     have He2 := hid he2
     clear he2
     go_wp2
     go_roundw
     case rel => exact ⟨j + 1, by omega, by omega, by go_num, He2.out, hon2⟩
     case measure => simp [intOf]; omega
    ·rw [if_pos hq0] at he2
     have He2 := hid he2
     clear he2
     go_wp2
     go_ret
     exact ⟨congrArg (fun z => Ending.returned (.int .i64 z)) (show q = _ from by rw [HR.out]; exact He2.out), hon2⟩
   ·have hjn : j = cs.length := by omega
    subst hjn
    rw [List.drop_length] at he
    have he2 : (0 : Int) = R := he
    have He := hid he2
    clear he he2
    go_wp2
    go_ret
    exact ⟨congrArg (fun z => Ending.returned (.int .i64 z)) (show (0 : Int) = _ from by rw [HR.out]; exact He.out), hon⟩
 ·have hR : checkZ cs = 40 := by
   unfold checkZ
   rw [if_neg hl, if_pos (.inr (fun h => hzero (by rw [Hc0.out] at h; injection h with e1 e2 e3 e4 e5; exact ⟨e1, by rw [← empty_text]; exact e2, e3, e4, e5⟩)))]
  have HR := hid hR
  clear hR
  go_enter Tryz.func73, Tryz.ntmps73
  go_wp2
  all_goals first | go_ret | skip
  all_goals first | exact ⟨congrArg (fun z => Ending.returned (.int .i64 z)) HR.out.symm, Only.refl _ _⟩ | (exfalso; apply hzero; simp_all; done)
end Go.Proofs.YtinbelghhfodiaaGreatDoor
namespace Go.Proofs.YtinbelghhfodiaaGreatDoor
set_option maxHeartbeats 4000000
open Lib (hid)
open Go.RowKit Go.Shelf
set_option linter.unusedVariables false
set_option linter.unusedSimpArgs false
theorem empty_enc : Enc (nums ⟨#[]⟩) [] 0 := .inl ⟨[], ⟨(fun c hc => (by cases hc)), rfl⟩, rfl, rfl⟩
theorem empty_not_bad : ¬ TextBad ⟨#[]⟩ := fun h => by
 rcases h [] 0 empty_enc with h | h
 ·exact h rfl
 ·simp at h
theorem bad_len {x : ByteArray} {ys : List Int} {k : Int} (h : Enc (nums x) ys k) : TextBad x ↔ (256 < ys.length ∨ (ys.length = 0 ∧ x ≠ ⟨#[]⟩)) := by
 constructor
 ·intro hb
  rcases hb ys k h with hk | hl
  ·rcases h with ⟨cs, ht, rfl, rfl⟩ | ⟨hn, rfl, rfl⟩
   ·exact absurd rfl hk
   ·refine .inr ⟨rfl, fun e => hn ?_⟩
    subst e
    exact ⟨[], ⟨fun c hc => (by cases hc), rfl⟩⟩
  ·exact .inl hl
 ·intro hb ys' k' h'
  obtain ⟨rfl, rfl⟩ := Enc.unique h h'
  rcases hb with hl | ⟨h0, hx⟩
  ·exact .inr hl
  ·rcases h with ⟨cs, ht, rfl, rfl⟩ | ⟨hn, rfl, rfl⟩
   ·exfalso
    have h1 := (M8s_len ht.1).1
    rw [← ht.2, nums_len, h0] at h1
    apply hx
    rcases x with ⟨⟨l⟩⟩
    cases l with
    | nil => rfl
    | cons a r => simp [ByteArray.size] at h1
   ·exact .inl (by decide)
open Classical in
theorem oneZ_shape (cs : List ConstV) (c : ConstV) : oneZ cs c = if (shapeZ c.tag).2 = true ∧ holdsZ (shapeZ c.tag).1 c = true ∧ (ledZ cs (shapeZ c.tag).1.la c.a && ledZ cs (shapeZ c.tag).1.lb c.b) = true then (if TextBad c.text then 20 else 0) else 40 := by
 obtain ⟨t, x, n, a, b⟩ := c
 have e0 : ∀ z, ledZ cs 0 z = decide (z = 0) := fun z => by unfold ledZ; rw [if_pos rfl]
 have e1 : ∀ l z, l ≠ 0 → ledZ cs l z = isZ cs z l := fun l z hl => by unfold ledZ; rw [if_neg hl, atC_tag cs z hl]
 unfold oneZ bareZ shapeZ holdsZ
 simp only
 by_cases h1 : t = 1
 ·subst h1
  by_cases hn : n = 0 <;> by_cases ha : a = 0 <;> by_cases hb : b = 0 <;> simp [e0, hn, ha, hb]
 by_cases h5 : t = 5
 ·subst h5
  by_cases hx : x = ⟨#[]⟩ <;> by_cases ha : a = 0 <;> by_cases hb : b = 0 <;> simp [e0, hx, ha, hb, empty_not_bad]
 by_cases h3 : t = 3
 ·subst h3
  by_cases hx : x = ⟨#[]⟩ <;> by_cases hn : -2147483648 ≤ n ∧ n ≤ 2147483647 <;> by_cases ha : a = 0 <;> by_cases hb : b = 0 <;> simp [e0, hx, hn, ha, hb, empty_not_bad]
 by_cases h12 : t = 12
 ·subst h12
  cases hA : isZ cs a 1 <;> cases hB : isZ cs b 1 <;> by_cases hx : x = ⟨#[]⟩ <;> by_cases hn : n = 0 <;> simp [e1, hA, hB, hx, hn, empty_not_bad]
 by_cases h7 : t = 7
 ·subst h7
  cases hA : isZ cs a 1 <;> by_cases hx : x = ⟨#[]⟩ <;> by_cases hn : n = 0 <;> by_cases hb : b = 0 <;> simp [e0, e1, hA, hx, hn, hb, empty_not_bad]
 by_cases h9 : t = 9 ∨ t = 10
 ·cases hA : isZ cs a 7 <;> cases hB : isZ cs b 12 <;> by_cases hx : x = ⟨#[]⟩ <;> by_cases hn : n = 0 <;> simp [h1, h3, h5, h7, h9, h12, e1, hA, hB, hx, hn, empty_not_bad]
 simp [h1, h3, h5, h7, h9, h12]
theorem progHolds (txt : Bool) (sz la lb : Int) (c : ConstV) (w : World) (hr : ConstR c) (hs : sz = 0 ∨ sz = 4 ∨ sz = 8) :
  Calls Tryz.prog 174 #[.agg #[.bool txt, .int .i64 sz, .int .i64 la, .int .i64 lb], .agg #[.int .i64 c.tag, .string c.text, .int .i64 c.n, .int .i64 c.a, .int .i64 c.b]] w fun e w' => e = .returned (.bool (holdsZ ⟨txt, sz, la, lb⟩ c)) ∧ Only (fun _ => False) w w' := by
 rcases hs with rfl | rfl | rfl
 ·exact progHolds0 txt la lb c w hr
 ·exact progHolds4 txt la lb c w hr
 ·exact progHolds8 txt la lb c w hr
theorem shapeZ_size (t : Int) : (shapeZ t).1.size = 0 ∨ (shapeZ t).1.size = 4 ∨ (shapeZ t).1.size = 8 := by
 unfold shapeZ
 repeat' split
 all_goals simp
theorem Tabs.lt {w : World} (h : Tabs w) : 1 < w.heap.size := by
 have h2 := (h.2 0 (by decide)).1
 have := World.block_lt_of_cell? w _ h2
 simp at this
 omega
set_option maxRecDepth 100000 in
theorem progConst (v : Value) (cs : List ConstV) (c : ConstV) (w : World) (hp : Pool w v cs) (hr : ConstR c) (hT : Tabs w) :
  Calls Tryz.prog 154 #[v, .agg #[.int .i64 c.tag, .string c.text, .int .i64 c.n, .int .i64 c.a, .int .i64 c.b]] w fun e w' => e = .returned (.int .i64 (oneZ cs c)) ∧ Only (fun _ => False) w w' := by
 obtain ⟨ao, cap, rfl, _, _, _, _, _⟩ := id hp
 have hz := oneZ_shape cs c
 have hsz := shapeZ_size c.tag
 obtain ⟨q, hq⟩ : ∃ q, shapeZ c.tag = q := ⟨_, rfl⟩
 have cS := fun w => progShape c.tag w
 rw [hq] at hz hsz cS
 obtain ⟨⟨tx, sz, la, lb⟩, ok⟩ := q
 have cH := fun w => progHolds tx sz la lb c w hr hsz
 have cL := fun w' (ho : Only (fun _ => False) w w') => progLed _ cs tx sz la lb c w' (hp.only ho (fun _ _ h => h))
 have cN := fun w' (ho : Only (fun _ => False) w w') => lenOf c.text w' (by have := hr.rt; omega) (hT.only ho (fun h => h) (fun h => h)) (hT.only ho (fun h => h) (fun h => h)).lt
 simp only at hz cS cH cL cN hsz
 have hbad : ∀ ys k, Enc (nums c.text) ys k → _ := fun ys k h => bad_len h
 obtain ⟨H, hH⟩ : ∃ H, holdsZ ⟨tx, sz, la, lb⟩ c = H := ⟨_, rfl⟩
 obtain ⟨L, hL⟩ : ∃ L, (ledZ cs la c.a && ledZ cs lb c.b) = L := ⟨_, rfl⟩
 rw [hH, hL] at hz
 rw [hH] at cH
 rw [hL] at cL
 obtain ⟨t, x, n, a, b⟩ := c
 obtain ⟨r0, r2, r3, r4, _⟩ := hr
 unfold I64 at r0 r2 r3 r4
 simp only at *
 have CS := hid cS
 have CH := hid cH
 have CL := hid cL
 have CN := hid cN
 have HZ := hid hz
 have HB := hid hbad
 clear cS cH cL cN hz hbad hH hL hq hp hT hsz
 go_enter Tryz.func154, Tryz.ntmps154
 go_wp2_with (fail)
 refine (CS.out _).mono ?_
 rintro e w1 ⟨rfl, ho1⟩
 have hblk := ho1.heap (heap_alloc_new w _) (fun h => h)
 have q0 := cell_blk hblk 0
 have q1 := cell_blk hblk 1
 have q2 := cell_blk hblk 2
 have q3 := cell_blk hblk 3
 have q4 := cell_blk hblk 4
 simp at q0 q1 q2 q3 q4
 have HO1 := hid (((Only.refl (fun _ => False) w).alloc _).trans ho1 (fun _ h => h.elim))
 have hsA : Only (fun _ => False) w1 (w1.alloc (.cells #[.bool tx, .int .i64 sz, .int .i64 la, .int .i64 lb] 247)) := (Only.refl _ _).alloc _
 have u0 := hsA.cell q0 (fun h => h)
 have u1 := hsA.cell q1 (fun h => h)
 have u2 := hsA.cell q2 (fun h => h)
 have u3 := hsA.cell q3 (fun h => h)
 have u4 := hsA.cell q4 (fun h => h)
 clear ho1 hblk hsA
 cases ok with
 | false =>
  go_wp2
  go_ret
  exact ⟨congrArg (fun z => Ending.returned (.int .i64 z)) (by rw [HZ.out, if_neg (by simp)]), HO1.out.alloc _⟩
 | true =>
  cases H with
  | false =>
   go_wp2_with (fail)
   refine (CH.out _).mono ?_
   rintro e w2 ⟨rfl, ho2⟩
   have HO2 := hid ((HO1.out.alloc _).trans ho2 (fun _ h => h.elim))
   clear ho2
   go_wp2
   go_ret
   exact ⟨congrArg (fun z => Ending.returned (.int .i64 z)) (by rw [HZ.out, if_neg (by simp)]), HO2.out⟩
  | true =>
   go_wp2_with (fail)
   refine (CH.out _).mono ?_
   rintro e w2 ⟨rfl, ho2⟩
   have ho12 := ((Only.refl (fun _ => False) w1).alloc (.cells #[.bool tx, .int .i64 sz, .int .i64 la, .int .i64 lb] 247)).trans ho2 (fun _ h => h.elim)
   have HO2 := hid (HO1.out.trans ho12 (fun _ h => h.elim))
   have hsb := ho2.heap (heap_alloc_new w1 _) (fun h => h)
   have s0 := cell_blk hsb 0
   have s1 := cell_blk hsb 1
   have s2 := cell_blk hsb 2
   have s3 := cell_blk hsb 3
   simp at s0 s1 s2 s3
   have p0 := ho12.cell q0 (fun h => h)
   have p1 := ho12.cell q1 (fun h => h)
   have p2 := ho12.cell q2 (fun h => h)
   have p3 := ho12.cell q3 (fun h => h)
   have p4 := ho12.cell q4 (fun h => h)
   clear q0 q1 q2 q3 q4 u0 u1 u2 u3 u4 hsb ho2 ho12
   cases L with
   | false =>
    go_wp2_with (fail)
    refine (CL.out _ (HO2.out)).mono ?_
    rintro e w3 ⟨rfl, ho3⟩
    have HO3 := hid (HO2.out.trans ho3 (fun _ h => h.elim))
    clear ho3
    go_wp2
    go_ret
    exact ⟨congrArg (fun z => Ending.returned (.int .i64 z)) (by rw [HZ.out, if_neg (by simp)]), HO3.out⟩
   | true =>
    go_wp2_with (fail)
    refine (CL.out _ (HO2.out)).mono ?_
    rintro e w3 ⟨rfl, ho3⟩
    have HO3 := hid (HO2.out.trans ho3 (fun _ h => h.elim))
    have x1 := ho3.cell p1 (fun h => h)
    clear ho3 p0 p1 p2 p3 p4 s0 s1 s2 s3
    go_wp2_with (fail)
    refine (CN.out _ (HO3.out)).mono ?_
    rintro e w4 ⟨ys, k, rfl, henc, ho4⟩
    have hb := HB.out ys k henc
    have y1 := ho4.cell x1 (fun h => h)
    have HO4 := hid (HO3.out.trans ho4 (fun _ h => h.elim))
    clear ho4 x1 henc
    by_cases h1 : 256 < ys.length
    ·have HT := hid (hb.2 (.inl h1))
     have h1z : (256 : Int) < (ys.length : Int) := by omega
     clear hb
     go_wp2
     go_ret
     exact ⟨congrArg (fun z => Ending.returned (.int .i64 z)) (by rw [HZ.out, if_pos (by simp), if_pos HT.out]), HO4.out⟩
    have h1z : (ys.length : Int) ≤ 256 := by omega
    by_cases h2 : ys.length = 0
    ·by_cases h3 : x = ⟨#[]⟩
     ·have HT := hid (show ¬ TextBad x from fun h => by rcases hb.1 h with h | h; (exact h1 h); (exact h.2 h3))
      subst h3
      have h2z : (ys.length : Int) = 0 := by omega
      clear hb
      go_wp2
      go_ret
      exact ⟨congrArg (fun z => Ending.returned (.int .i64 z)) (by rw [HZ.out, if_pos (by simp), if_neg HT.out]), HO4.out⟩
     ·have HT := hid (hb.2 (.inr ⟨h2, h3⟩))
      have hx1 : x.toList.isEmpty = false := by
       rw [Bool.eq_false_iff]
       intro h
       exact h3 (by rw [empty_text]; simpa using h)
      have h2z : (ys.length : Int) = 0 := by omega
      clear hb h3
      go_wp2
      go_ret
      exact ⟨congrArg (fun z => Ending.returned (.int .i64 z)) (by rw [HZ.out, if_pos (by simp), if_pos HT.out]), HO4.out⟩
    ·have HT := hid (show ¬ TextBad x from fun h => by rcases hb.1 h with h | h; (exact h1 h); (exact h2 h.1))
     have h2z : ((ys.length : Int) == 0) = false := by simp only [beq_eq_false_iff_ne]; omega
     clear hb h2
     go_wp2
     go_ret
     exact ⟨congrArg (fun z => Ending.returned (.int .i64 z)) (by rw [HZ.out, if_pos (by simp), if_neg HT.out]), HO4.out⟩
end Go.Proofs.YtinbelghhfodiaaGreatDoor
namespace Go.Proofs.YtinbelghhfodiaaGreatDoor
set_option maxHeartbeats 4000000
open Lib (hid)
open Go.RowKit Go.Extern.Stop Go.Stop Go.Extern
set_option linter.unusedVariables false
set_option linter.unusedSimpArgs false
theorem asValP (t : Addr) (w : World) : (ReflectliteValue.unpack (.iface 220 (.pointer (some t)))).run Tryz.prog w
  = .ok (.agg #[.pointer (some ⟨4, 220, none⟩), .pointer (some ⟨w.heap.size, 0, none⟩), .int .u64 150]) (w.alloc (.cells #[.pointer (some t)] 220)) := by kernel_rfl
theorem asTypeP (a : Addr) (w : World) : (ReflectliteValue.methodAny (ReflectliteValue.valueError "reflectlite.Value.Type" 0) (fun t _ _ _ => ReflectliteType.toType t) #[.agg #[.pointer (some ⟨4, 220, none⟩), .pointer (some a), .int .u64 150]]).run Tryz.prog w
  = .ok (.iface 254 (.agg #[.pointer (some ⟨4, 220, none⟩)])) w := by kernel_rfl
theorem asMethodKind (n : Nat) (h : Value) (w : World) : (Go.method (n + 1) 254 (.agg #[h]) "Kind").run Tryz.prog w = .ok (218, h) w := by kernel_rfl
theorem asKindP (w : World) : ((ReflectliteType.abiMethod fun t => (fun a : Nat => Value.int IntKind.u8 (a : Int)) <$> Rtype.kind t) #[.pointer (some ⟨4, 220, none⟩)]).run Tryz.prog w = .ok (.int .u8 22) w := by kernel_rfl
theorem asKindE (w : World) : ((ReflectliteType.abiMethod fun t => (fun a : Nat => Value.int IntKind.u8 (a : Int)) <$> Rtype.kind t) #[.pointer (some ⟨4, 34, none⟩)]).run Tryz.prog w = .ok (.int .u8 2) w := by kernel_rfl
theorem asIsNilRun (a : Addr) (W : World) : (ReflectliteValue.method (ReflectliteValue.valueError "reflectlite.Value.IsNil" 0) ReflectliteValue.isNil #[.agg #[.pointer (some ⟨4, 220, none⟩), .pointer (some a), .int .u64 150]]).run Tryz.prog W = (ReflectliteValue.isNil 220 a 150 22).run Tryz.prog W := by kernel_rfl
theorem asIsNilP (a p : Addr) (W : World) (ha : W.cell? a = some (.pointer (some p))) :
  (ReflectliteValue.method (ReflectliteValue.valueError "reflectlite.Value.IsNil" 0) ReflectliteValue.isNil #[.agg #[.pointer (some ⟨4, 220, none⟩), .pointer (some a), .int .u64 150]]).run Tryz.prog W = .ok (.bool false) W := by
 rw [asIsNilRun]
 simp [ReflectliteValue.isNil, loadVar, isAgg, underlying, Tryz.underlying220, ha, Result.andThen]
theorem asMethodElem (n : Nat) (h : Value) (w : World) : (Go.method (n + 1) 254 (.agg #[h]) "Elem").run Tryz.prog w = .ok (237, .agg #[h]) w := by kernel_rfl
theorem asMethodImplements (n : Nat) (h : Value) (w : World) : (Go.method (n + 1) 254 (.agg #[h]) "Implements").run Tryz.prog w = .ok (238, .agg #[h]) w := by kernel_rfl
theorem asMethodAssignable (n : Nat) (h : Value) (w : World) : (Go.method (n + 1) 254 (.agg #[h]) "AssignableTo").run Tryz.prog w = .ok (235, .agg #[h]) w := by kernel_rfl
theorem asElemP (w : World) : (ReflectliteType.method ReflectliteType.elem #[.agg #[.pointer (some ⟨4, 220, none⟩)]]).run Tryz.prog w = .ok (.iface 254 (.agg #[.pointer (some ⟨4, 34, none⟩)])) w := by kernel_rfl
theorem asImplements (w : World) : (ReflectliteType.relation "Implements" ReflectliteType.implements_ #[.agg #[.pointer (some ⟨4, 34, none⟩)], .iface 254 (.agg #[.pointer (some ⟨4, 199, none⟩)])]).run Tryz.prog w = .ok (.bool true) w := by kernel_rfl
theorem asTypeOfE (v : Value) (w : World) : (ReflectliteType.typeOf #[.iface 34 v]).run Tryz.prog w = .ok (.iface 254 (.agg #[.pointer (some ⟨4, 34, none⟩)])) w := by kernel_rfl
theorem asTypeOfF (v : Value) (w : World) : (ReflectliteType.typeOf #[.iface 223 v]).run Tryz.prog w = .ok (.iface 254 (.agg #[.pointer (some ⟨4, 223, none⟩)])) w := by kernel_rfl
theorem asAssignE (w : World) : (ReflectliteType.relation "AssignableTo" ReflectliteType.assignableTo #[.agg #[.pointer (some ⟨4, 34, none⟩)], .iface 254 (.agg #[.pointer (some ⟨4, 34, none⟩)])]).run Tryz.prog w = .ok (.bool true) w := by kernel_rfl
theorem asAssignF (w : World) : (ReflectliteType.relation "AssignableTo" ReflectliteType.assignableTo #[.agg #[.pointer (some ⟨4, 223, none⟩)], .iface 254 (.agg #[.pointer (some ⟨4, 34, none⟩)])]).run Tryz.prog w = .ok (.bool false) w := by kernel_rfl
theorem asValE (k : Int) (w : World) : (ReflectliteValue.unpack (.iface 34 (.int .i64 k))).run Tryz.prog w
  = .ok (.agg #[.pointer (some ⟨4, 34, none⟩), .pointer (some ⟨w.heap.size, 0, none⟩), .int .u64 130]) (w.alloc (.cells #[.int .i64 k] 34)) := by kernel_rfl
theorem asElemOfP (w : World) : (Rtype.elem? 220).run Tryz.prog w = .ok (some 34) w := by kernel_rfl
theorem asMkE (p : Addr) (w : World) : (ReflectliteValue.mk 34 p ReflectliteValue.flagAddr).run Tryz.prog w = .ok (.agg #[.pointer (some ⟨4, 34, none⟩), .pointer (some p), .int .u64 386]) w := by kernel_rfl
theorem asElemRun (a : Addr) (W : World) : (ReflectliteValue.method (ReflectliteValue.valueError "reflectlite.Value.Elem" 0) ReflectliteValue.elem #[.agg #[.pointer (some ⟨4, 220, none⟩), .pointer (some a), .int .u64 150]]).run Tryz.prog W = (ReflectliteValue.elem 220 a 150 22).run Tryz.prog W := by kernel_rfl
theorem asElemV (a p : Addr) (W : World) (ha : W.cell? a = some (.pointer (some p))) :
  (ReflectliteValue.method (ReflectliteValue.valueError "reflectlite.Value.Elem" 0) ReflectliteValue.elem #[.agg #[.pointer (some ⟨4, 220, none⟩), .pointer (some a), .int .u64 150]]).run Tryz.prog W
   = .ok (.agg #[.pointer (some ⟨4, 34, none⟩), .pointer (some p), .int .u64 386]) W := by
 rw [asElemRun]
 simp [ReflectliteValue.elem, loadVar, isAgg, underlying, Tryz.underlying220, ha, Result.andThen, asElemOfP, asMkE]
theorem asSetRun (ta b : Addr) (W : World) : (ReflectliteValue.set #[.agg #[.pointer (some ⟨4, 34, none⟩), .pointer (some ta), .int .u64 386], .agg #[.pointer (some ⟨4, 34, none⟩), .pointer (some b), .int .u64 130]]).run Tryz.prog W
  = (loadVar 34 b >>= fun u => storeVar 34 ta u >>= fun _ => pure (.tuple #[]) : Sem Value).run Tryz.prog W := by kernel_rfl
theorem asSet (ta b : Addr) (k : Int) (old : Value) (W : World) (hb : W.cell? b = some (.int .i64 k)) (ht : W.cell? ta = some old) (hf : W.frozen? ta = false) :
  (ReflectliteValue.set #[.agg #[.pointer (some ⟨4, 34, none⟩), .pointer (some ta), .int .u64 386], .agg #[.pointer (some ⟨4, 34, none⟩), .pointer (some b), .int .u64 130]]).run Tryz.prog W
   = .ok (.tuple #[]) (W.setCell ta (.int .i64 k)) := by
 rw [asSetRun]
 simp [loadVar, isAgg, underlying, Tryz.underlying34, hb, Result.andThen, storeVar, Value.cells, storeCells, Addr.add]
 rw [run_store Tryz.prog W ta _ _ (by rfl)]
 simp [ht, hf]
theorem asNoAsF (v : Value) (xT : TypeId) (w : World) : (Instr.typeAssert (.iface 223 v) xT 259 true).run Tryz.prog w = .ok (.tuple #[.nilIface, .bool false]) w := run_typeAssert_lacksB Tryz.underlying259 (by kernel_rfl) (by kernel_rfl) v xT w
theorem asHasUnwrapF (v : Value) (xT : TypeId) (w : World) : (Instr.typeAssert (.iface 223 v) xT 262 true).run Tryz.prog w = .ok (.tuple #[.iface 223 v, .bool true]) w := run_typeAssert_hasB Tryz.underlying262 (by kernel_rfl) v xT w
theorem asMethodUnwrap (n : Nat) (v : Value) (w : World) : (Go.method (n + 1) 223 v "Unwrap").run Tryz.prog w = .ok (230, v) w := by kernel_rfl
def ErrV (w : World) : Prop := w.cell? ⟨0, 0, none⟩ = some (.iface 254 (.agg #[.pointer (some ⟨4, 199, none⟩)]))
theorem ErrV.only {S : Nat → Prop} {w w' : World} (h : ErrV w) (ho : Only S w w') (h0 : ¬ S 0) : ErrV w' := Only.cell ho h h0
theorem asNil (t : Value) (w : World) : Calls Tryz.prog 152 #[.nilIface, t] w fun e w' => e = .returned (.bool false) ∧ w = w' := by
 go_enter Tryz.func152, Tryz.ntmps152
 go_wp2
 go_ret
 exact ⟨rfl, rfl⟩
theorem whichNil (w : World) :
  Calls Tryz.prog 125 #[.nilIface] w fun e w' => e = .returned (.int .i64 0) ∧ Only (fun _ => False) w w' := by
 go_enter Tryz.func125, Tryz.ntmps125
 go_wp2_with (go_at_call 152; refine (asNil _ _).mono ?_; rintro e w1 ⟨rfl, rfl⟩)
 go_ret
 exact ⟨rfl, (Only.refl _ _).alloc _⟩
end Go.Proofs.YtinbelghhfodiaaGreatDoor
namespace Go.Proofs.YtinbelghhfodiaaGreatDoor
set_option maxHeartbeats 4000000
open Lib (hid)
open Go.ChangeShapes Go.WideShapes Go.ChangeAt Go.RowKit Go.Deep
section
variable {H : Type} {enc : TypeId × Value → H} {P : Program} {w : World} {held : Bool}
def Light (P : Program) (t : TypeId) (d : DataW H) : Prop := ∀ n ∈ d.weights P t, n ≤ reachBytes
theorem light_arg {ts : List TypeId} {ds : List (DataW H)} (h : (DataW.weightsEach P ts ds).all (· ≤ reachBytes) = true) {j : Nat} {t : TypeId} {d : DataW H} (ht : ts[j]? = some t) (hd : ds[j]? = some d) : Light P t d :=
 fun n hn => of_decide_eq_true (List.all_eq_true.1 h n (DataW.weights_mem_each ht hd n hn))
theorem weights_in_all {e : TypeId} : ∀ {l : List (DataW H)} {d : DataW H}, d ∈ l → ∀ n ∈ d.weights P e, n ∈ DataW.weightsAll P e l := by
 intro l
 induction l with
 | nil => intro d hd; cases hd
 | cons a r ih =>
  intro d hd n hn
  unfold DataW.weightsAll
  rcases List.mem_cons.1 hd with rfl | hr
  ·exact List.mem_append_left _ hn
  ·exact List.mem_append_right _ (ih hr n hn)
theorem light_elem {t e : TypeId} {elems spare : List (DataW H)} (ht : P.underlying t = some (.slice e)) (h : Light P t (.slice elems spare)) {d : DataW H} (hd : d ∈ elems) : Light P e d :=
 fun n hn => h n (by simp only [DataW.weights, ht]; exact List.mem_cons_of_mem _ (List.mem_append_left _ (weights_in_all hd n hn)))
theorem light_len {t e : TypeId} {elems spare : List (DataW H)} (ht : P.underlying t = some (.slice e)) (h : Light P t (.slice elems spare)) : (elems.length + spare.length) * P.bytesOf e ≤ reachBytes :=
 h _ (by simp only [DataW.weights, ht]; exact List.mem_cons_self)
theorem light_field {t : TypeId} {fs : Array Field} {parts : List (DataW H)} (ht : P.underlying t = some (.struct fs)) (h : Light P t (.agg parts)) {j : Nat} {f : Field} {d : DataW H} (hf : fs[j]? = some f) (hd : parts[j]? = some d) : Light P f.type d :=
 fun n hn => h n (by simp only [DataW.weights, ht]; exact DataW.weights_mem_each (j := j) (by simp [hf]) hd n hn)
theorem open_bytes {t e : TypeId} (ht : P.underlying t = some (.slice e)) (he : P.underlying e = some (.int .u8)) (hc : P.cellsOf e = 1) (hb : P.bytesOf e = 1) {fuel : Nat} {cs : List Value} {x : DataW H × List MemPlace}
  (h : DataW.trod enc P w 0 (fun _ => true) held fuel t cs = some x) (hL : Light P t x.1) : ∃ v zs, cs = [v] ∧ Bytes w v zs ∧ zs.length ≤ 140737488351232 := by
 rcases open_ints ht he hc h with ⟨rfl, _⟩ | ⟨a, len, cap, zs, rfl, _, hl, hm, hz, rfl, hcell, hwz⟩
 ·exact ⟨_, [], rfl, ⟨none, 0, rfl, Nat.le_refl _, by unfold maxLen; omega, fun _ => rfl, Bytish.nil, fun x hx => by cases hx⟩, by simp⟩
 ·refine ⟨_, zs.take len, rfl, Bytes.of_cells hl hm (by simpa using hz) hcell hwz, ?_⟩
  have := light_len ht hL
  rw [hb] at this
  simp only [lits, List.length_map, List.length_take, List.length_drop, reachBytes] at this
  simp only [List.length_take]
  simp at hz
  omega
theorem open_field {t : TypeId} {fs : Array Field} (ht : P.underlying t = some (.struct fs)) (hone : oneCellFields P fs = true) {fuel : Nat} {cs : List Value} {x : DataW H × List MemPlace}
  (h : DataW.trod enc P w 0 (fun _ => true) held fuel t cs = some x) (hcs : cs.length = fs.size) (hL : Light P t x.1) {j : Nat} {f : Field} (hf : fs[j]? = some f) :
  ∃ v n y, cs[j]? = some v ∧ DataW.trod enc P w 0 (fun _ => true) held n f.type [v] = some y ∧ Light P f.type y.1 := by
 obtain ⟨xs, n, _, rfl, _, hxl, hg⟩ := DataW.trod_struct ht h
 obtain ⟨ho, hk⟩ := hone_of hone j f hf
 have hj : j < fs.size := (Array.getElem?_eq_some_iff.1 hf).1
 have hjc : j < cs.length := by omega
 have h1 := hg j f hf
 rw [ho, hk, List.drop_eq_getElem_cons hjc] at h1
 have hx : xs[j]? = some (xs[j]'(by omega)) := List.getElem?_eq_getElem (by omega)
 refine ⟨cs[j], n, xs[j]'(by omega), List.getElem?_eq_getElem hjc, h1.trans hx, light_field ht hL hf (by simp [hx])⟩
end
end Go.Proofs.YtinbelghhfodiaaGreatDoor
