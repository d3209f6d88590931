/- The walks of TextLong and TextJoins. The tables of unicode/utf8 are as their text lays them; texts of at most 2^45 bytes. -/
import Derived.Test.YtnmdhlbfcmpcnaaDoorTxtG
namespace Go.Proofs.YtnmdhlbfcmpcnaaDoor
open Go.RowKit Go.Shelf
set_option linter.unusedVariables false
set_option linter.unusedSimpArgs false

theorem Enc.long {zs ys : List Int} (h : Enc zs ys 0) : zs.length ≤ ys.length ∧ ys.length ≤ 2 * zs.length := by
  rcases h with ⟨cs, ht, rfl, _⟩ | ⟨_, _, h⟩
  · rw [ht.2]; exact M8s_len ht.1
  · cases h
theorem Enc.none {zs ys : List Int} (h : Enc zs ys 20) : ys = [] := by
  rcases h with ⟨cs, ht, _, h⟩ | ⟨_, h, _⟩
  · cases h
  · exact h
theorem Enc.join {ls ms ys zs us : List Int} {k : Int} (h : Enc ls ys 0) (h' : Enc ms zs 0) (h2 : Enc (ls ++ ms) us k) : us = ys ++ zs ∧ k = 0 := by
  rcases h with ⟨cs, ht, rfl, _⟩ | ⟨_, _, h⟩
  · rcases h' with ⟨ds, ht', rfl, _⟩ | ⟨_, _, h⟩
    · have := Enc.unique h2 (.inl ⟨cs ++ ds, ⟨ht.1.append ht'.1, by rw [U8s_append, ht.2, ht'.2]⟩, rfl, rfl⟩)
      exact ⟨this.1.trans (M8s_append _ _), this.2⟩
    · cases h
  · cases h

set_option maxHeartbeats 4000000 in
theorem walkLong (s : ByteArray) (w : World) (hs : s.size ≤ 35184372088832) (hT : Tabs w) (h1w : 1 < w.heap.size) :
    Calls Tryd.prog 8 #[.string s] w fun e w' => e = .returned (.bool true) ∧ Only (fun _ => False) w w' := by
  go_enter Tryd.func8, Tryd.ntmps8
  go_wp2_with (fail)
  refine (lenOf s _ (by omega) hT h1w).mono ?_
  rintro e w1 ⟨ys, k, rfl, henc, hon⟩
  have hT1 := hT.only hon (fun h => h) (fun h => h)
  have hsz1 : 1 < w1.heap.size := by have := hon.size; omega
  go_wp2_with (fail)
  refine (encode s _ (by omega) hT1 hsz1 (nN s (by omega))).mono ?_
  rintro e w2 ⟨v2, ys2, k2, rfl, henc2, hrow2, hon2⟩
  obtain ⟨rfl, rfl⟩ := Enc.unique henc2 henc
  have hT2 := hT1.only hon2 (fun h => h) (fun h => h)
  have hon12 := hon.trans hon2 (fun _ h => h.elim)
  have hsz : 1 < w2.heap.size := by have := hon12.size; omega
  clear hon hon2 hrow2 henc2
  rcases henc.code with rfl | rfl
  · obtain ⟨hl1, hl2⟩ := henc.long
    rw [nums_len] at hl1 hl2
    clear henc
    have hl3 : ((ys2.length : Int)) / 2 ≤ (s.size : Int) := by omega
    have hl4 : (s.size : Int) ≤ (ys2.length : Int) := by omega
    go_wp2_with (fail)
    refine (awake _ hT2 hsz).mono ?_
    rintro e w4 ⟨rfl, hon4⟩
    have hon14 := hon12.trans hon4 (fun _ h => h.elim)
    clear hon12 hon4
    go_wp2
    go_ret
    exact ⟨rfl, hon14⟩
  · have hn := henc.none
    subst hn
    clear henc
    go_wp2_with (fail)
    refine (awake _ hT2 hsz).mono ?_
    rintro e w4 ⟨rfl, hon4⟩
    have hon14 := hon12.trans hon4 (fun _ h => h.elim)
    clear hon12 hon4
    go_wp2
    go_ret
    exact ⟨rfl, hon14⟩

theorem nums_app (s t : ByteArray) : nums (s ++ t) = nums s ++ nums t := by
  simp only [nums, numsL, ByteArray.data_append, Array.toList_append, List.map_append]
theorem str_app (ys zs : List Int) : strOfNums ys ++ strOfNums zs = strOfNums (ys ++ zs) := by
  have e : (strOfNums ys ++ strOfNums zs).data.toList = (strOfNums (ys ++ zs)).data.toList := by
    simp only [ByteArray.data_append, Array.toList_append, strOfNums_data, List.map_append]
  have e2 := Array.toList_inj.1 e
  cases h : strOfNums ys ++ strOfNums zs; cases h' : strOfNums (ys ++ zs)
  rw [h, h'] at e2
  simp at e2
  rw [e2]

set_option maxHeartbeats 4000000 in
theorem walkJoins (s t : ByteArray) (w : World) (hs : s.size ≤ 17592186044416) (ht : t.size ≤ 17592186044416) (hT : Tabs w) (h1w : 1 < w.heap.size) :
    Calls Tryd.prog 6 #[.string s, .string t] w fun e w' => e = .returned (.bool true) ∧ Only (fun _ => False) w w' := by
  have hst : (s ++ t).size = s.size + t.size := by simp
  go_enter Tryd.func6, Tryd.ntmps6
  go_wp2_with (fail)
  refine (encode s _ (by omega) hT h1w (nN s (by omega))).mono ?_
  rintro e w1 ⟨v1, ys1, k1, rfl, henc1, hrow1, hon1⟩
  have hT1 := hT.only hon1 (fun h => h) (fun h => h)
  have hsz1 : 1 < w1.heap.size := by have := hon1.size; omega
  go_wp2_with (fail)
  refine (encode t _ (by omega) hT1 hsz1 (nN t (by omega))).mono ?_
  rintro e w2 ⟨v2, ys2, k2, rfl, henc2, hrow2, hon2⟩
  have hT2 := hT1.only hon2 (fun h => h) (fun h => h)
  have hsz2 : 1 < w2.heap.size := by have := hon2.size; omega
  go_wp2_with (fail)
  refine (encode (s ++ t) _ (by omega) hT2 hsz2 (nN (s ++ t) (by omega))).mono ?_
  rintro e w3 ⟨v3, ys3, k3, rfl, henc3, hrow3, hon3⟩
  have hT3 := hT2.only hon3 (fun h => h) (fun h => h)
  have hsz3 : 1 < w3.heap.size := by have := hon3.size; omega
  have hon13 := (hon1.trans hon2 (fun _ h => h.elim)).trans hon3 (fun _ h => h.elim)
  have hb1 := ((hrow1.only hon2 (fun _ _ h => h)).only hon3 (fun _ _ h => h)).bytes henc1.byte
  have hb2 := (hrow2.only hon3 (fun _ _ h => h)).bytes henc2.byte
  have hb3 := hrow3.bytes henc3.byte
  clear hrow1 hrow2 hrow3 hon1 hon2 hon3 hT1 hT2 hT h1w hsz1 hsz2
  have H1 := Lib.hid henc1
  have H2 := Lib.hid henc2
  have H3 := Lib.hid henc3
  by_cases hk : k1 = 0 ∧ k2 = 0
  · obtain ⟨rfl, rfl⟩ := hk
    rw [nums_app] at henc3
    obtain ⟨rfl, rfl⟩ := henc1.join henc2 henc3
    have hl1 := henc1.long.2
    have hl2 := henc2.long.2
    rw [nums_len] at hl1 hl2
    have hsum : (strOfNums ys1).size + (strOfNums ys2).size ≤ 9223372036854775807 := by rw [strOfNums_size, strOfNums_size]; omega
    clear henc1 henc2 henc3
    have c1 := conv8 hb1
    have c2 := conv8 hb2
    have c3 := conv8 hb3
    rw [← str_app] at c3
    clear hb1 hb2 hb3
    go_wp2_with (fail)
    refine (lenOf (s ++ t) _ (by omega) hT3 hsz3).mono ?_
    rintro e w4 ⟨ys4, k4, rfl, henc4, hon4⟩
    obtain ⟨rfl, rfl⟩ := Enc.unique henc4 H3.out
    have hT4 := hT3.only hon4 (fun h => h) (fun h => h)
    have hsz4 : 1 < w4.heap.size := by have := hon4.size; omega
    clear henc4 c1 c2 c3
    go_wp2_with (fail)
    refine (lenOf s _ (by omega) hT4 hsz4).mono ?_
    rintro e w5 ⟨ys5, k5, rfl, henc5, hon5⟩
    obtain ⟨rfl, rfl⟩ := Enc.unique henc5 H1.out
    have hT5 := hT4.only hon5 (fun h => h) (fun h => h)
    have hsz5 : 1 < w5.heap.size := by have := hon5.size; omega
    clear henc5
    go_wp2_with (fail)
    refine (lenOf t _ (by omega) hT5 hsz5).mono ?_
    rintro e w6 ⟨ys6, k6, rfl, henc6, hon6⟩
    obtain ⟨rfl, rfl⟩ := Enc.unique henc6 H2.out
    have hT6 := hT5.only hon6 (fun h => h) (fun h => h)
    have hsz6 : 1 < w6.heap.size := by have := hon6.size; omega
    have hon16 := ((hon13.trans hon4 (fun _ h => h.elim)).trans hon5 (fun _ h => h.elim)).trans hon6 (fun _ h => h.elim)
    clear henc6 hon13 hon4 hon5 hon6 hT3 hT4 hT5 hsz3 hsz4 hsz5
    go_wp2_with (fail)
    refine (awake _ hT6 hsz6).mono ?_
    rintro e w7 ⟨rfl, hon7⟩
    have hon17 := hon16.trans hon7 (fun _ h => h.elim)
    clear hon16 hon7
    go_wp2
    go_ret
    exact ⟨rfl, hon17⟩
  · have hk2 : ¬ k1 = 0 ∨ (k1 = 0 ∧ ¬ k2 = 0) := by omega
    rcases hk2 with hk2 | ⟨rfl, hk2⟩
    · go_wp2_with (fail)
      refine (awake _ hT3 hsz3).mono ?_
      rintro e w4 ⟨rfl, hon4⟩
      have hon14 := hon13.trans hon4 (fun _ h => h.elim)
      clear hon13 hon4
      go_wp2
      go_ret
      exact ⟨rfl, hon14⟩
    · go_wp2_with (fail)
      refine (awake _ hT3 hsz3).mono ?_
      rintro e w4 ⟨rfl, hon4⟩
      have hon14 := hon13.trans hon4 (fun _ h => h.elim)
      clear hon13 hon4
      go_wp2
      go_ret
      exact ⟨rfl, hon14⟩
end Go.Proofs.YtnmdhlbfcmpcnaaDoor
