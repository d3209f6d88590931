/- The document's own words for bytes: a unit at the head, a code point's bytes. No condition but the form's own reach. The document's own Decode: what it answers, at bytes within the form's own reach. -/
import Derived.Test.YtodhdiccfobcfaaGreatDoorGTxtR
namespace Go.Proofs.YtodhdiccfobcfaaGreatDoor
open Go.RowKit Go.Shelf
set_option linter.unusedVariables false
set_option linter.unusedSimpArgs false

set_option maxHeartbeats 4000000 in
set_option maxRecDepth 100000 in
theorem take (v : Value) (zs : List Int) (w : World) (hb : Bytes w v zs) (hl : zs.length ≤ 140737488355328) (hlen : 0 < zs.length) :
    Calls Tryz.prog 115 #[v] w fun e w' => (∃ (u : Int) (n : Nat), e = .returned (.tuple #[.int .i64 u, .int .i64 n]) ∧ UnitTo zs u n) ∧ Drawn w w' := by
  obtain ⟨ao, cap, rfl, hq1, hq2, hq3, hbz, hcells⟩ := id hb
  obtain ⟨x, rfl⟩ : ∃ x, ao = some x := by cases ao with | none => have := hq3 rfl; omega | some x => exact ⟨x, rfl⟩
  obtain ⟨b, o, rfl⟩ : ∃ b o, x = ⟨b, o, none⟩ := ⟨_, _, plain_of_cell (hcells x rfl 0 hlen)⟩
  have Hb := Lib.hid hb
  have c0 := cellOf hb 0 hlen
  rw [Nat.add_zero] at c0
  obtain ⟨x0, hx0⟩ : ∃ x0, zs.getD 0 0 = x0 := ⟨_, rfl⟩
  have hx0r := hbz.getD hlen
  rw [hx0] at c0 hx0r
  have Hx0 := Lib.hid hx0
  have hlz : (0 : Int) < (zs.length : Int) := by omega
  clear hb hcells hq3 hx0
  by_cases c1 : 1 ≤ x0 ∧ x0 ≤ 127
  · obtain ⟨c1a, c1b⟩ := c1
    go_enter Tryz.func115, Tryz.ntmps115
    go_wp2
    all_goals first | go_ret2 | skip
    all_goals try simp only [Bool.not_eq_true', Bool.not_eq_false', decide_eq_true_eq, decide_eq_false_iff_not, beq_iff_eq] at *
    all_goals first | (exfalso; omega) | (refine ⟨⟨0, 0, rfl, .inr ⟨fun u r hu he => ?_, rfl, rfl⟩⟩, by first | exact ⟨0, rfl⟩ | exact ⟨_, rfl⟩⟩; have hf := unit_facts hu he; rw [Hx0.out] at hf; omega) | exact ⟨⟨_, 1, rfl, un1 (by omega) _ (by omega) (by omega) Hx0.out⟩, by first | exact ⟨0, rfl⟩ | exact ⟨_, rfl⟩⟩
  by_cases c2 : 192 ≤ x0 ∧ x0 ≤ 223
  · obtain ⟨c2a, c2b⟩ := c2
    by_cases l2 : zs.length < 2
    · have l2z : (zs.length : Int) < 2 := by omega
      go_enter Tryz.func115, Tryz.ntmps115
      go_wp2
      all_goals first | go_ret2 | skip
      all_goals try simp only [Bool.not_eq_true', Bool.not_eq_false', decide_eq_true_eq, decide_eq_false_iff_not, beq_iff_eq] at *
      all_goals first | (exfalso; omega) | (refine ⟨⟨0, 0, rfl, .inr ⟨fun u r hu he => ?_, rfl, rfl⟩⟩, by first | exact ⟨0, rfl⟩ | exact ⟨_, rfl⟩⟩; have hf := unit_facts hu he; rw [Hx0.out] at hf; omega)
    have l2z : (2 : Int) ≤ (zs.length : Int) := by omega
    have hx1r := hbz.getD (j := 1) (by omega)
    have d1 := cellOf Hb.out 1 (by omega)
    obtain ⟨x1, hx1⟩ : ∃ x1, zs.getD 1 0 = x1 := ⟨_, rfl⟩
    rw [hx1] at hx1r d1
    have Hx1 := Lib.hid hx1
    have i1z : ((1 : Nat) : Int) < (zs.length : Int) := by omega
    clear hx1
    go_enter Tryz.func115, Tryz.ntmps115
    go_wp2
    all_goals first | go_ret2 | skip
    all_goals try simp only [Bool.not_eq_true', Bool.not_eq_false', decide_eq_true_eq, decide_eq_false_iff_not, beq_iff_eq] at *
    all_goals first | (exfalso; omega) | (refine ⟨⟨0, 0, rfl, .inr ⟨fun u r hu he => ?_, rfl, rfl⟩⟩, by first | exact ⟨0, rfl⟩ | exact ⟨_, rfl⟩⟩; have hf := unit_facts hu he; rw [Hx0.out, Hx1.out] at hf; omega) | exact ⟨⟨_, 2, rfl, un2 (by omega) _ (by omega) (by omega) (by rw [Hx0.out]; omega) (by rw [Hx1.out]; omega)⟩, by first | exact ⟨0, rfl⟩ | exact ⟨_, rfl⟩⟩
  by_cases c3 : 224 ≤ x0 ∧ x0 ≤ 239
  · obtain ⟨c3a, c3b⟩ := c3
    by_cases l3 : zs.length < 3
    · have l3z : (zs.length : Int) < 3 := by omega
      go_enter Tryz.func115, Tryz.ntmps115
      go_wp2
      all_goals first | go_ret2 | skip
      all_goals try simp only [Bool.not_eq_true', Bool.not_eq_false', decide_eq_true_eq, decide_eq_false_iff_not, beq_iff_eq] at *
      all_goals first | (exfalso; omega) | (refine ⟨⟨0, 0, rfl, .inr ⟨fun u r hu he => ?_, rfl, rfl⟩⟩, by first | exact ⟨0, rfl⟩ | exact ⟨_, rfl⟩⟩; have hf := unit_facts hu he; rw [Hx0.out] at hf; omega)
    have l3z : (3 : Int) ≤ (zs.length : Int) := by omega
    have hx1r := hbz.getD (j := 1) (by omega)
    have d1 := cellOf Hb.out 1 (by omega)
    obtain ⟨x1, hx1⟩ : ∃ x1, zs.getD 1 0 = x1 := ⟨_, rfl⟩
    rw [hx1] at hx1r d1
    have Hx1 := Lib.hid hx1
    have i1z : ((1 : Nat) : Int) < (zs.length : Int) := by omega
    clear hx1
    have hx2r := hbz.getD (j := 2) (by omega)
    have d2 := cellOf Hb.out 2 (by omega)
    obtain ⟨x2, hx2⟩ : ∃ x2, zs.getD 2 0 = x2 := ⟨_, rfl⟩
    rw [hx2] at hx2r d2
    have Hx2 := Lib.hid hx2
    have i2z : ((2 : Nat) : Int) < (zs.length : Int) := by omega
    clear hx2
    by_cases k1 : 128 ≤ x1 ∧ x1 ≤ 191
    · obtain ⟨k1a, k1b⟩ := k1
      by_cases k2 : 128 ≤ x2 ∧ x2 ≤ 191
      · obtain ⟨k2a, k2b⟩ := k2
        go_enter Tryz.func115, Tryz.ntmps115
        go_wp2
        go_quiet (fail)
        go_wp2
        all_goals first | go_ret2 | skip
        all_goals try simp only [Bool.not_eq_true', Bool.not_eq_false', decide_eq_true_eq, decide_eq_false_iff_not, beq_iff_eq] at *
        all_goals first | (exfalso; omega) | (refine ⟨⟨0, 0, rfl, .inr ⟨fun u r hu he => ?_, rfl, rfl⟩⟩, by first | exact ⟨0, rfl⟩ | exact ⟨_, rfl⟩⟩; have hf := unit_facts hu he; rw [Hx0.out, Hx1.out, Hx2.out] at hf; omega) | exact ⟨⟨_, 3, rfl, un3 (by omega) _ (by omega) (by omega) (by rw [Hx0.out]; omega) (by rw [Hx1.out]; omega) (by rw [Hx2.out]; omega)⟩, by first | exact ⟨0, rfl⟩ | exact ⟨_, rfl⟩⟩
      · go_enter Tryz.func115, Tryz.ntmps115
        go_wp2
        all_goals try (exfalso; omega)
        all_goals first | go_ret2 | skip
        all_goals try simp only [Bool.not_eq_true', Bool.not_eq_false', decide_eq_true_eq, decide_eq_false_iff_not, beq_iff_eq] at *
        all_goals first | (exfalso; omega) | (refine ⟨⟨0, 0, rfl, .inr ⟨fun u r hu he => ?_, rfl, rfl⟩⟩, by first | exact ⟨0, rfl⟩ | exact ⟨_, rfl⟩⟩; have hf := unit_facts hu he; rw [Hx0.out, Hx1.out, Hx2.out] at hf; omega)
    · go_enter Tryz.func115, Tryz.ntmps115
      go_wp2
      all_goals try (exfalso; omega)
      all_goals first | go_ret2 | skip
      all_goals try simp only [Bool.not_eq_true', Bool.not_eq_false', decide_eq_true_eq, decide_eq_false_iff_not, beq_iff_eq] at *
      all_goals first | (exfalso; omega) | (refine ⟨⟨0, 0, rfl, .inr ⟨fun u r hu he => ?_, rfl, rfl⟩⟩, by first | exact ⟨0, rfl⟩ | exact ⟨_, rfl⟩⟩; have hf := unit_facts hu he; rw [Hx0.out, Hx1.out, Hx2.out] at hf; omega)
  go_enter Tryz.func115, Tryz.ntmps115
  go_wp2
  all_goals first | go_ret2 | skip
  all_goals try simp only [Bool.not_eq_true', Bool.not_eq_false', decide_eq_true_eq, decide_eq_false_iff_not, beq_iff_eq] at *
  all_goals first | (exfalso; omega) | (refine ⟨⟨0, 0, rfl, .inr ⟨fun u r hu he => ?_, rfl, rfl⟩⟩, by first | exact ⟨0, rfl⟩ | exact ⟨_, rfl⟩⟩; have hf := unit_facts hu he; rw [Hx0.out] at hf; omega)


set_option maxHeartbeats 1000000 in
theorem utf8 (c : Int) (w : World) (hs : Sc c) :
    Calls Tryz.prog 116 #[.int .i64 c] w fun e w' => ∃ v, e = .returned v ∧ Src w' 1 v (enc8 c).length ((enc8 c).map (Value.int .u8)) ∧ Only (fun _ => False) w w' := by
  rcases u8_cases hs with ⟨ha, hb, e⟩ | ⟨ha, hb, e⟩ | ⟨ha, hb, hc, e⟩ | ⟨ha, hb, e⟩ <;> rw [e] <;> clear e hs
  · go_enter Tryz.func116, Tryz.ntmps116
    go_wp2
    all_goals first | go_ret | skip
    all_goals first | (exfalso; omega) | exact ⟨_, rfl, Src.few (w := w) (t := 5) (xs := [.int .u8 (c)]) (by intro x hx; simp only [List.mem_cons, List.mem_nil_iff, or_false] at hx; subst hx; rfl), (Only.refl _ _).alloc _⟩
  · go_enter Tryz.func116, Tryz.ntmps116
    go_wp2
    all_goals first | go_ret | skip
    all_goals first | (exfalso; omega) | exact ⟨_, rfl, Src.few (w := w) (t := 5) (xs := [.int .u8 (192 + c / 64), .int .u8 (128 + c % 64)]) (by intro x hx; simp only [List.mem_cons, List.mem_nil_iff, or_false] at hx; rcases hx with rfl | rfl <;> rfl), (Only.refl _ _).alloc _⟩
  · go_enter Tryz.func116, Tryz.ntmps116
    go_wp2
    all_goals first | go_ret | skip
    all_goals first | (exfalso; omega) | exact ⟨_, rfl, Src.few (w := w) (t := 5) (xs := [.int .u8 (224 + c / 4096), .int .u8 (128 + c / 64 % 64), .int .u8 (128 + c % 64)]) (by intro x hx; simp only [List.mem_cons, List.mem_nil_iff, or_false] at hx; rcases hx with rfl | rfl | rfl <;> rfl), (Only.refl _ _).alloc _⟩
  · go_enter Tryz.func116, Tryz.ntmps116
    go_wp2
    all_goals first | go_ret | skip
    all_goals first | (exfalso; omega) | exact ⟨_, rfl, Src.few (w := w) (t := 5) (xs := [.int .u8 (240 + c / 262144), .int .u8 (128 + c / 4096 % 64), .int .u8 (128 + c / 64 % 64), .int .u8 (128 + c % 64)]) (by intro x hx; simp only [List.mem_cons, List.mem_nil_iff, or_false] at hx; rcases hx with rfl | rfl | rfl | rfl <;> rfl), (Only.refl _ _).alloc _⟩
end Go.Proofs.YtodhdiccfobcfaaGreatDoor
namespace Go.Proofs.YtodhdiccfobcfaaGreatDoor
open Go.RowKit Go.Shelf
set_option linter.unusedVariables false
set_option linter.unusedSimpArgs false

set_option maxHeartbeats 8000000 in
set_option maxRecDepth 100000 in
theorem refDecode (v : Value) (zs : List Int) (w : World) (hb : Bytes w v zs) (hl : zs.length ≤ 140737488351232) :
    Calls Tryz.prog 96 #[v] w fun e w' => ∃ ys k, e = .returned (.tuple #[.string (strOfNums ys), .int .i64 k]) ∧ Dec zs ys k ∧ Only (fun _ => False) w w' := by
  obtain ⟨i0, hi, hz0, hz1, hz2⟩ := info_parts info_u8
  go_enter Tryz.func96, Tryz.ntmps96
  go_wp2
  go_loopg [0, 4] (zs.length + 1) (fun gk b out wr => ∃ (pre rest : List Int), Bytes w b rest ∧ AllSc pre ∧ zs = M8s pre ++ rest ∧ rest.length < gk ∧ Row wr w.heap.size out (U8s pre) ∧ Only (fun _ => False) w wr)
  case atStart => exact ⟨[], zs, hb, .nil, rfl, by omega, World.ownsRow_nil _ _ _ _, Only.refl _ _⟩
  case round =>
    obtain ⟨pre, rest, hbr, hsc, hzs, hgk, hrow, hon⟩ := hrel
    obtain ⟨ao, cap, rfl, hq1, hq2, _, hbz, _⟩ := id hbr
    obtain ⟨ao2, cap2, rfl, hc1, hc2⟩ := slice_of_owns hrow
    have hlen : (M8s pre).length + rest.length = zs.length := by rw [hzs, List.length_append]
    have hml := (M8s_len hsc).1
    have Hzs := Lib.hid hzs
    have Hbr := Lib.hid hbr
    have Hrow := Lib.hid hrow
    clear hzs hbr hb hrow
    obtain ⟨ys, hys⟩ : ∃ ys, U8s pre = ys := ⟨_, rfl⟩
    rw [hys] at hml Hrow hc1
    rw [hys]
    have Hys := Lib.hid hys
    clear hys
    by_cases h0 : 0 < rest.length
    · obtain ⟨g', rfl⟩ : ∃ g', gk = g' + 1 := ⟨gk - 1, by omega⟩
      have h0z : (0 : Int) < (rest.length : Int) := by omega
      have hnotI : (∀ c r, Sc c → rest ≠ m8 c ++ r) → ¬ ∃ cs, IsMod zs cs := fun h => by
        rw [Hzs.out, mod_tails hsc]
        exact no_mod (by intro e; subst e; simp at h0) h
      have HnotI := Lib.hid hnotI
      clear hnotI
      go_wp2_with (fail)
      refine (take _ rest _ ((Hbr.out).only hon (fun _ _ _ h => h)) (by omega) h0).mono ?_
      rintro e w1 ⟨⟨u, n, rfl, hu⟩, hdr⟩
      have honc : Only (fun _ => False) w w1 := hon.trans (hdr.only (S := fun _ => False)) (fun _ h => h.elim)
      have hrowc : Row w1 w.heap.size (.slice ao2 ys.length cap2) ys := Row.only Hrow.out (hdr.only (S := fun _ => False)) (fun _ _ h => h)
      clear hdr Hrow hon
      rcases hu with ⟨hun, hn, r, hz⟩ | ⟨hno, rfl, rfl⟩
      · have hun2 := hun
        unfold Un at hun2
        have hnl : n ≤ rest.length := by rw [hz, List.length_append]; omega
        have hn1 : 1 ≤ n := by rw [hn]; rcases unit_cases hun with ⟨_, _, e⟩ | ⟨_, _, _, e⟩ | ⟨_, _, e⟩ <;> rw [e] <;> simp
        have hdrop : rest.drop n = r := by rw [hz, hn, List.drop_left]
        have hrl : r.length + n = rest.length := by rw [← hdrop, List.length_drop]; omega
        have hnb : ((n : Int) == 0) = false := by simp; omega
        have hnz : (n : Int) ≤ (rest.length : Int) := by omega
        have Hz := Lib.hid hz
        have Hn := Lib.hid hn
        have Hu := Lib.hid hun
        have Hd := Lib.hid hdrop
        clear hz hn hun hdrop
        by_cases hlow : 56320 ≤ u ∧ u ≤ 57343
        · obtain ⟨hlow1, hlow2⟩ := hlow
          have hnot := HnotI.out (head_low Hu.out Hz.out ⟨hlow1, hlow2⟩)
          go_wp2
          all_goals first | go_ret2 | skip
          all_goals try simp only [Bool.not_eq_true', Bool.not_eq_false', decide_eq_true_eq, decide_eq_false_iff_not, beq_iff_eq] at *
          all_goals first | (exfalso; omega) | exact ⟨[], 20, rfl, .inr ⟨hnot, rfl, rfl⟩, honc⟩
        by_cases hhi : 55296 ≤ u ∧ u ≤ 56319
        · obtain ⟨hhi1, hhi2⟩ := hhi
          by_cases hr0 : r.length = 0
          · have hnot := HnotI.out (head_half Hu.out Hz.out ⟨hhi1, hhi2⟩ (fun v r2 hv he => by
              have e2 := congrArg List.length he
              rw [hr0, List.length_append] at e2
              rcases unit_cases hv with ⟨_, _, e⟩ | ⟨_, _, _, e⟩ | ⟨_, _, e⟩ <;> rw [e] at e2 <;> simp only [List.length_cons, List.length_nil] at e2 <;> omega))
            have hrn : rest.length - n = 0 := by omega
            go_wp2
            all_goals first | go_ret2 | skip
            all_goals try simp only [Bool.not_eq_true', Bool.not_eq_false', decide_eq_true_eq, decide_eq_false_iff_not, beq_iff_eq] at *
            all_goals first | (exfalso; omega) | exact ⟨[], 20, rfl, .inr ⟨hnot, rfl, rfl⟩, honc⟩
          have hr0z : ¬ rest.length - n = 0 := by omega
          have hcn : ¬ cap = n := by omega
          go_wp2_with (fail)
          · have hb2 : Bytes w _ (rest.drop n) := Bytes.rest Hbr.out n hnl
            have hb2' := Bytes.only hb2 honc (fun _ _ _ h => h)
            refine (take _ (rest.drop n) _ hb2' (by rw [List.length_drop]; omega) (by rw [List.length_drop]; omega)).mono ?_
            rintro e w4 ⟨⟨u2, n2, rfl, hu2⟩, hdr4⟩
            rw [Hd.out] at hu2 hb2
            rw [show rest.length - n = r.length by omega] at hb2 ⊢
            have Hb2 := Lib.hid hb2
            have honc := honc.trans (hdr4.only (S := fun _ => False)) (fun _ h => h.elim)
            have hrowc := Row.only hrowc (hdr4.only (S := fun _ => False)) (fun _ _ h => h)
            clear hdr4 hb2 hb2'
            by_cases hl2 : 56320 ≤ u2 ∧ u2 ≤ 57343
            · obtain ⟨hl21, hl22⟩ := hl2
              rcases hu2 with ⟨hun3, hn3, r2, hr2⟩ | ⟨_, rfl, _⟩
              · have hnl2 : n2 ≤ r.length := by rw [hr2, List.length_append]; omega
                have hn21 : 1 ≤ n2 := by rw [hn3]; rcases unit_cases hun3 with ⟨_, _, e⟩ | ⟨_, _, _, e⟩ | ⟨_, _, e⟩ <;> rw [e] <;> simp
                have hd2 : r.drop n2 = r2 := by rw [hr2, hn3, List.drop_left]
                have hrl2 : r2.length + n2 = r.length := by rw [← hd2, List.length_drop]; omega
                have hnb2 : ((n2 : Int) == 0) = false := by simp; omega
                have hnz2 : (n2 : Int) ≤ (r.length : Int) := by omega
                have hce : 65536 + (u - 55296) * 1024 + u2 - 56320 = 65536 + (u - 55296) * 1024 + (u2 - 56320) := by omega
                have hsc2 : Sc (65536 + (u - 55296) * 1024 + u2 - 56320) := by unfold Sc; omega
                have hml8 := (m8_len hsc2)
                have he4 := (u8_len hsc2).2
                have hm82 : m8 (65536 + (u - 55296) * 1024 + u2 - 56320) = unitZ u ++ unitZ u2 := by
                  have e1 : hiU (65536 + (u - 55296) * 1024 + u2 - 56320) = u := by unfold hiU; omega
                  have e2 : loU (65536 + (u - 55296) * 1024 + u2 - 56320) = u2 := by unfold loU; omega
                  unfold m8
                  rw [if_neg (by omega), e1, e2]
                have hzs2 : zs = M8s (pre ++ [65536 + (u - 55296) * 1024 + u2 - 56320]) ++ r2 := by
                  rw [M8s_append, M8s_cons, M8s_nil, List.append_nil, hm82, List.append_assoc, List.append_assoc, ← hr2, ← Hz.out]
                  exact Hzs.out
                have hm : U8s (pre ++ [65536 + (u - 55296) * 1024 + u2 - 56320]) = ys ++ enc8 (65536 + (u - 55296) * 1024 + u2 - 56320) := by rw [U8s_append, Hys.out, U8s_cons, U8s_nil, List.append_nil]
                have Hzs2 := Lib.hid hzs2
                have Hm := Lib.hid hm
                have Hd2 := Lib.hid hd2
                clear hce hml8 hm82 hzs2 hm hd2 hun3 hn3 hr2
                go_wp2_with (fail)
                · refine (utf8 (65536 + (u - 55296) * 1024 + u2 - 56320) _ hsc2).mono ?_
                  rintro e w2 ⟨v2, rfl, hsw2, ho2⟩
                  have hon2 := honc.trans ho2 (fun _ h => h.elim)
                  have hrow2 := Row.only hrowc ho2 (fun _ _ h => h)
                  have hBw2 := hon2.size
                  clear hrowc honc ho2
                  go_wp2_with (at_builtin; refine wpList_append_src rfl (.tmp 61) (.tmp 69) 27 rfl 5 i0 (.int .u8 0) 1 1 Tryz.underlying27 hi hz0 hz1 hz2 rfl (by decide) w.heap.size (.slice ao2 ys.length cap2) ys.length (ys.map (Value.int .u8)) rfl (by exact hrow2) (by exact hBw2) v2 (enc8 (65536 + (u - 55296) * 1024 + u2 - 56320)).length ((enc8 (65536 + (u - 55296) * 1024 + u2 - 56320)).map (Value.int .u8)) rfl (by exact hsw2) (by unfold maxLen; omega) (by omega) ?_; intro vw3 w3 hownw3 hgroww3 hneww3)
                  obtain ⟨hrow3, hon3⟩ := Row.push hrow2 hon2 hownw3 hgroww3 hneww3
                  clear hownw3 hgroww3 hneww3 hrow2 hon2 hBw2 hsw2
                  rw [← Hm.out] at hrow3
                  go_wp2
                  have hnx := Bytes.rest0 Hb2.out n2 hnl2 (by omega)
                  rw [Hd2.out] at hnx
                  go_roundg g'
                  case measure => omega
                  case rel => exact ⟨pre ++ [65536 + (u - 55296) * 1024 + u2 - 56320], r2, hnx, hsc.append (.mk hsc2 .nil), Hzs2.out, by omega, hrow3, hon3⟩
                · refine (utf8 (65536 + (u - 55296) * 1024 + u2 - 56320) _ hsc2).mono ?_
                  rintro e w2 ⟨v2, rfl, hsw2, ho2⟩
                  have hon2 := honc.trans ho2 (fun _ h => h.elim)
                  have hrow2 := Row.only hrowc ho2 (fun _ _ h => h)
                  have hBw2 := hon2.size
                  clear hrowc honc ho2
                  go_wp2_with (at_builtin; refine wpList_append_src rfl (.tmp 61) (.tmp 69) 27 rfl 5 i0 (.int .u8 0) 1 1 Tryz.underlying27 hi hz0 hz1 hz2 rfl (by decide) w.heap.size (.slice ao2 ys.length cap2) ys.length (ys.map (Value.int .u8)) rfl (by exact hrow2) (by exact hBw2) v2 (enc8 (65536 + (u - 55296) * 1024 + u2 - 56320)).length ((enc8 (65536 + (u - 55296) * 1024 + u2 - 56320)).map (Value.int .u8)) rfl (by exact hsw2) (by unfold maxLen; omega) (by omega) ?_; intro vw3 w3 hownw3 hgroww3 hneww3)
                  obtain ⟨hrow3, hon3⟩ := Row.push hrow2 hon2 hownw3 hgroww3 hneww3
                  clear hownw3 hgroww3 hneww3 hrow2 hon2 hBw2 hsw2
                  rw [← Hm.out] at hrow3
                  go_wp2
                  have hnx := Bytes.rest Hb2.out n2 hnl2
                  rw [Hd2.out, Option.map_map] at hnx
                  go_roundg g'
                  case measure => omega
                  case rel => exact ⟨pre ++ [65536 + (u - 55296) * 1024 + u2 - 56320], r2, hnx, hsc.append (.mk hsc2 .nil), Hzs2.out, by omega, hrow3, hon3⟩
              · exfalso; omega
            · have hnot := HnotI.out (head_half Hu.out Hz.out ⟨hhi1, hhi2⟩ (fun v r2 hv he hvl => by
                rcases hu2 with ⟨hun3, _, r3, hr3⟩ | ⟨hn3, _, _⟩
                · rw [hr3] at he
                  have := (unit_inj hun3 hv he).1
                  subst this
                  exact hl2 hvl
                · exact hn3 v r2 hv he))
              clear hu2
              have hl3 : u2 < 56320 ∨ 57343 < u2 := by omega
              go_wp2
              all_goals first | go_ret2 | skip
              all_goals try simp only [Bool.not_eq_true', Bool.not_eq_false', decide_eq_true_eq, decide_eq_false_iff_not, beq_iff_eq] at *
              all_goals first | (exfalso; omega) | exact ⟨[], 20, rfl, .inr ⟨hnot, rfl, rfl⟩, honc⟩
        · have hsc2 : Sc u := by unfold Sc; omega
          have he4 := (u8_len hsc2).2
          have hm82 : m8 u = unitZ u := by unfold m8; rw [if_pos (by omega)]
          have hzs2 : zs = M8s (pre ++ [u]) ++ r := by
            rw [M8s_append, M8s_cons, M8s_nil, List.append_nil, hm82, List.append_assoc, ← Hz.out]
            exact Hzs.out
          have hm : U8s (pre ++ [u]) = ys ++ enc8 u := by rw [U8s_append, Hys.out, U8s_cons, U8s_nil, List.append_nil]
          have Hzs2 := Lib.hid hzs2
          have Hm := Lib.hid hm
          clear hm82 hzs2 hm
          have hx : u < 55296 ∨ 57343 < u := by omega
          rcases hx with hx | hx
          · go_wp2_with (fail)
            · refine (utf8 (u) _ hsc2).mono ?_
              rintro e w2 ⟨v2, rfl, hsw2, ho2⟩
              have hon2 := honc.trans ho2 (fun _ h => h.elim)
              have hrow2 := Row.only hrowc ho2 (fun _ _ h => h)
              have hBw2 := hon2.size
              clear hrowc honc ho2
              go_wp2_with (at_builtin; refine wpList_append_src rfl (.tmp 36) (.tmp 38) 27 rfl 5 i0 (.int .u8 0) 1 1 Tryz.underlying27 hi hz0 hz1 hz2 rfl (by decide) w.heap.size (.slice ao2 ys.length cap2) ys.length (ys.map (Value.int .u8)) rfl (by exact hrow2) (by exact hBw2) v2 (enc8 (u)).length ((enc8 (u)).map (Value.int .u8)) rfl (by exact hsw2) (by unfold maxLen; omega) (by omega) ?_; intro vw3 w3 hownw3 hgroww3 hneww3)
              obtain ⟨hrow3, hon3⟩ := Row.push hrow2 hon2 hownw3 hgroww3 hneww3
              clear hownw3 hgroww3 hneww3 hrow2 hon2 hBw2 hsw2
              rw [← Hm.out] at hrow3
              go_wp2
              have hnx := Bytes.rest0 (Hbr.out) n hnl (by omega)
              rw [Hd.out] at hnx
              go_roundg g'
              case measure => omega
              case rel => exact ⟨pre ++ [u], r, hnx, hsc.append (.mk hsc2 .nil), Hzs2.out, by omega, hrow3, hon3⟩
            · refine (utf8 (u) _ hsc2).mono ?_
              rintro e w2 ⟨v2, rfl, hsw2, ho2⟩
              have hon2 := honc.trans ho2 (fun _ h => h.elim)
              have hrow2 := Row.only hrowc ho2 (fun _ _ h => h)
              have hBw2 := hon2.size
              clear hrowc honc ho2
              go_wp2_with (at_builtin; refine wpList_append_src rfl (.tmp 36) (.tmp 38) 27 rfl 5 i0 (.int .u8 0) 1 1 Tryz.underlying27 hi hz0 hz1 hz2 rfl (by decide) w.heap.size (.slice ao2 ys.length cap2) ys.length (ys.map (Value.int .u8)) rfl (by exact hrow2) (by exact hBw2) v2 (enc8 (u)).length ((enc8 (u)).map (Value.int .u8)) rfl (by exact hsw2) (by unfold maxLen; omega) (by omega) ?_; intro vw3 w3 hownw3 hgroww3 hneww3)
              obtain ⟨hrow3, hon3⟩ := Row.push hrow2 hon2 hownw3 hgroww3 hneww3
              clear hownw3 hgroww3 hneww3 hrow2 hon2 hBw2 hsw2
              rw [← Hm.out] at hrow3
              go_wp2
              have hnx := Bytes.rest Hbr.out n hnl
              rw [Hd.out] at hnx
              go_roundg g'
              case measure => omega
              case rel => exact ⟨pre ++ [u], r, hnx, hsc.append (.mk hsc2 .nil), Hzs2.out, by omega, hrow3, hon3⟩
          · go_wp2_with (fail)
            · refine (utf8 (u) _ hsc2).mono ?_
              rintro e w2 ⟨v2, rfl, hsw2, ho2⟩
              have hon2 := honc.trans ho2 (fun _ h => h.elim)
              have hrow2 := Row.only hrowc ho2 (fun _ _ h => h)
              have hBw2 := hon2.size
              clear hrowc honc ho2
              go_wp2_with (at_builtin; refine wpList_append_src rfl (.tmp 36) (.tmp 38) 27 rfl 5 i0 (.int .u8 0) 1 1 Tryz.underlying27 hi hz0 hz1 hz2 rfl (by decide) w.heap.size (.slice ao2 ys.length cap2) ys.length (ys.map (Value.int .u8)) rfl (by exact hrow2) (by exact hBw2) v2 (enc8 (u)).length ((enc8 (u)).map (Value.int .u8)) rfl (by exact hsw2) (by unfold maxLen; omega) (by omega) ?_; intro vw3 w3 hownw3 hgroww3 hneww3)
              obtain ⟨hrow3, hon3⟩ := Row.push hrow2 hon2 hownw3 hgroww3 hneww3
              clear hownw3 hgroww3 hneww3 hrow2 hon2 hBw2 hsw2
              rw [← Hm.out] at hrow3
              go_wp2
              have hnx := Bytes.rest0 (Hbr.out) n hnl (by omega)
              rw [Hd.out] at hnx
              go_roundg g'
              case measure => omega
              case rel => exact ⟨pre ++ [u], r, hnx, hsc.append (.mk hsc2 .nil), Hzs2.out, by omega, hrow3, hon3⟩
            · refine (utf8 (u) _ hsc2).mono ?_
              rintro e w2 ⟨v2, rfl, hsw2, ho2⟩
              have hon2 := honc.trans ho2 (fun _ h => h.elim)
              have hrow2 := Row.only hrowc ho2 (fun _ _ h => h)
              have hBw2 := hon2.size
              clear hrowc honc ho2
              go_wp2_with (at_builtin; refine wpList_append_src rfl (.tmp 36) (.tmp 38) 27 rfl 5 i0 (.int .u8 0) 1 1 Tryz.underlying27 hi hz0 hz1 hz2 rfl (by decide) w.heap.size (.slice ao2 ys.length cap2) ys.length (ys.map (Value.int .u8)) rfl (by exact hrow2) (by exact hBw2) v2 (enc8 (u)).length ((enc8 (u)).map (Value.int .u8)) rfl (by exact hsw2) (by unfold maxLen; omega) (by omega) ?_; intro vw3 w3 hownw3 hgroww3 hneww3)
              obtain ⟨hrow3, hon3⟩ := Row.push hrow2 hon2 hownw3 hgroww3 hneww3
              clear hownw3 hgroww3 hneww3 hrow2 hon2 hBw2 hsw2
              rw [← Hm.out] at hrow3
              go_wp2
              have hnx := Bytes.rest Hbr.out n hnl
              rw [Hd.out] at hnx
              go_roundg g'
              case measure => omega
              case rel => exact ⟨pre ++ [u], r, hnx, hsc.append (.mk hsc2 .nil), Hzs2.out, by omega, hrow3, hon3⟩
      · have hnot := HnotI.out (head_none hno)
        go_wp2
        all_goals first | go_ret2 | skip
        all_goals try simp only [Bool.not_eq_true', Bool.not_eq_false', decide_eq_true_eq, decide_eq_false_iff_not, beq_iff_eq] at *
        all_goals first | (exfalso; omega) | exact ⟨[], 20, rfl, .inr ⟨hnot, rfl, rfl⟩, honc⟩
    · have hr0 : rest = [] := List.eq_nil_of_length_eq_zero (by omega)
      subst hr0
      have hcv := conv8 ((Hrow.out).bytes (by rw [← Hys.out]; exact U8s_byte pre))
      go_wp2
      go_ret2
      exact ⟨ys, 0, rfl, .inl ⟨pre, ⟨hsc, by rw [Hzs.out, List.append_nil]⟩, Hys.out.symm, rfl⟩, hon⟩
end Go.Proofs.YtodhdiccfobcfaaGreatDoor
