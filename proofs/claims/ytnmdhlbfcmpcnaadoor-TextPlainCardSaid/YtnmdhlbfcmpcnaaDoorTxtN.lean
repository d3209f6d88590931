/- The walks of TextDecodes and TextBack. The tables of unicode/utf8 are as their text lays them. -/
import Derived.Test.YtnmdhlbfcmpcnaaDoorTxtM
import Derived.Test.YtnmdhlbfcmpcnaaDoorTxtH
namespace Go.Proofs.YtnmdhlbfcmpcnaaDoor
open Go.RowKit Go.Shelf
set_option linter.unusedVariables false
set_option linter.unusedSimpArgs false

theorem Dec.code {zs ys : List Int} {k : Int} (h : Dec zs ys k) : k = 0 ∨ k = 20 := by
  rcases h with ⟨cs, ht, rfl, h⟩ | ⟨_, rfl, h⟩
  · exact .inl h
  · exact .inr h

set_option maxHeartbeats 4000000 in
theorem walkDecodes (v0 : Value) (zs : List Int) (w : World) (hb : Bytes w v0 zs) (hl : zs.length ≤ 140737488351232) (hT : Tabs w) (h1w : 1 < w.heap.size) :
    Calls Tryd.prog 4 #[v0] w fun e w' => e = .returned (.bool true) ∧ Only (fun _ => False) w w' := by
  obtain ⟨i0, hi, hz0, hz1, hz2⟩ := info_parts info_u8
  obtain ⟨bo, bcap, rfl, hb1, hb2, hb3, hbz, hbc⟩ := id hb
  have Hb := Lib.hid hb
  clear hb hbc
  go_enter Tryd.func4, Tryd.ntmps4
  go_wp2_with (first | (at_builtin; refine wpList_append_src rfl (.tmp 8) (.tmp 9) 22 rfl 5 i0 (.int .u8 0) 1 1 Tryd.underlying22 hi hz0 hz1 hz2 rfl (by decide) w.heap.size (.slice (some ⟨w.heap.size, 0, none⟩) 0 0) 0 [] rfl (by exact World.ownsRow_made _ #[] 0 (Nat.le_refl _) (Nat.zero_le _) rfl) (by simp) (.slice bo zs.length bcap) zs.length (zs.map (Value.int .u8)) rfl (by exact (Src.of_bytes Hb.out).alloc _) (by unfold maxLen; omega) (by omega) ?_; intro v' w1 hown1 hgrow1 hnew1))
  have hbel1 : Below w.heap.size w w1 := Below.grown (B := w.heap.size) ((Below.refl _ _).alloc (Nat.le_refl _) _) hgrow1 (by simp) (fun k hk => by simp [Value.ownBlock] at hk; omega)
  have hon1 : Only (fun _ => False) w w1 := Only.of_below hbel1 _
  have hbv : Bytes w1 v' zs := Bytes.of_owns (by simpa using hown1) hbz
  clear hown1 hgrow1 hnew1 hbel1
  refine (decode v' zs _ hbv hl).mono ?_
  rintro e w2 ⟨ys, k, rfl, hdec, hon2⟩
  have hon12 := hon1.trans hon2 (fun _ h => h.elim)
  clear hbv hon1 hon2
  go_wp2_with (fail)
  refine (refDecode _ zs _ ((Hb.out).only hon12 (fun _ _ _ h => h)) hl).mono ?_
  rintro e w3 ⟨ys2, k2, rfl, hdec2, hon3⟩
  obtain ⟨rfl, rfl⟩ := Dec.unique hdec2 hdec
  have hon13 := hon12.trans hon3 (fun _ h => h.elim)
  have hT3 := hT.only hon13 (fun h => h) (fun h => h)
  have hsz : 1 < w3.heap.size := by have := hon13.size; omega
  clear hon12 hon3 hdec hdec2
  go_wp2_with (fail)
  refine (awake _ hT3 hsz).mono ?_
  rintro e w4 ⟨rfl, hon4⟩
  have hon14 := hon13.trans hon4 (fun _ h => h.elim)
  clear hon13 hon4
  go_wp2
  go_ret
  exact ⟨rfl, hon14⟩
theorem Enc.back {s : ByteArray} {xs : List Int} (h : Enc (nums s) xs 0) : Dec xs (nums s) 0 ∧ (∀ z ∈ xs, z ≠ 0) := by
  rcases h with ⟨cs, ht, rfl, _⟩ | ⟨_, _, h⟩
  · exact ⟨.inl ⟨cs, ⟨ht.1, rfl⟩, ht.2, rfl⟩, M8s_pos ht.1⟩
  · cases h
theorem Dec.fwd {zs ys : List Int} (h : Dec zs ys 0) : Enc (nums (strOfNums ys)) zs 0 ∧ ys.length ≤ zs.length := by
  rcases h with ⟨cs, ht, rfl, _⟩ | ⟨_, _, h⟩
  · refine ⟨.inl ⟨cs, ⟨ht.1, nums_str (U8s_byte cs)⟩, ht.2, rfl⟩, ?_⟩
    rw [ht.2]
    exact (M8s_len ht.1).1
  · cases h
theorem Enc.bound {zs xs : List Int} (h : Enc zs xs 0) (hl : xs.length ≤ 140737488355328) : ∀ cs, IsText zs cs → (M8s cs).length ≤ 140737488355328 := by
  rcases h with ⟨ds, ht, rfl, _⟩ | ⟨_, _, h⟩
  · intro cs hcs
    rw [U8s_inj hcs.1 ht.1 (hcs.2.symm.trans ht.2)]
    exact hl
  · cases h
theorem ne_getD {xs : List Int} (h : ∀ z ∈ xs, z ≠ 0) {j : Nat} (hj : j < xs.length) : ¬ xs.getD j 0 = 0 := by
  have e : xs.getD j 0 = xs[j] := by simp [List.getD, hj]
  rw [e]
  exact h _ (List.getElem_mem hj)

set_option maxHeartbeats 4000000 in
theorem walkBack (s : ByteArray) (v0 : Value) (zs : List Int) (w : World) (hs : s.size ≤ 35184372088832) (hb : Bytes w v0 zs) (hl : zs.length ≤ 140737488351232) (hT : Tabs w) (h1w : 1 < w.heap.size) :
    Calls Tryd.prog 5 #[.string s, v0] w fun e w' => e = .returned (.bool true) ∧ Only (fun _ => False) w w' := by
  obtain ⟨bo, bcap, rfl, hb1, hb2, hb3, hbz, hbc⟩ := id hb
  have Hb := Lib.hid hb
  clear hb hbc
  go_enter Tryd.func5, Tryd.ntmps5
  go_wp2_with (fail)
  refine (encode s _ (by omega) hT h1w (nN s (by omega))).mono ?_
  rintro e w1 ⟨v1, xs, k1, rfl, henc1, hrow1, hon1⟩
  obtain ⟨ao, cap, rfl, hc1, hc2⟩ := slice_of_owns hrow1
  rcases henc1.code with rfl | rfl
  · have hxl := henc1.long.2
    rw [nums_len] at hxl
    obtain ⟨hd, hpos⟩ := henc1.back
    have hbx := hrow1.bytes henc1.byte
    clear henc1 hrow1
    go_wp2_with (fail)
    refine (decode _ xs _ hbx (by omega)).mono ?_
    rintro e w2 ⟨ys2, k2, rfl, hdec2, hon2⟩
    obtain ⟨rfl, rfl⟩ := Dec.unique hdec2 hd
    rw [str_nums]
    have hbx2 := hbx.only hon2 (fun _ _ _ h => h)
    have hon12 := hon1.trans hon2 (fun _ h => h.elim)
    have Hbx := Lib.hid hbx2
    have Hpos := Lib.hid hpos
    clear hdec2 hd hbx hbx2 hpos hon1 hon2
    go_wp2
    go_loop [9] (fun i => ∃ j : Nat, j ≤ xs.length ∧ i = .int .i64 j) (fun i => xs.length - (intOf i).toNat)
    case atStart => exact ⟨0, Nat.zero_le _, rfl⟩
    case round =>
      obtain ⟨j, hj, rfl⟩ := hrel
      by_cases hlt : j < xs.length
      · obtain ⟨x, rfl⟩ : ∃ x, ao = some x := by
          obtain ⟨ao', cap', e, _, _, h3, _⟩ := Hbx.out
          injection e with e1 e2 e3
          cases ao with
          | none => subst e1 e3; have := h3 rfl; omega
          | some x => exact ⟨x, rfl⟩
        obtain ⟨b, o, rfl⟩ : ∃ b o, x = ⟨b, o, none⟩ := by
          obtain ⟨ao', cap', e, _, _, h3, _, h5⟩ := Hbx.out
          injection e with e1 e2 e3
          exact ⟨_, _, plain_of_cell (h5 x e1.symm 0 (by omega))⟩
        have gc := cellOf Hbx.out j hlt
        have gz := ne_getD Hpos.out hlt
        have hjz : (j : Int) < (xs.length : Int) := by omega
        obtain ⟨c, hc⟩ : ∃ c, xs.getD j 0 = c := ⟨_, rfl⟩
        rw [hc] at gc gz
        clear hc
        go_wp2
        go_round
        case rel => exact ⟨j + 1, by omega, by go_num⟩
        case measure => simp [intOf]; omega
      · clear Hbx Hpos
        go_wp2_with (fail)
        refine (decode _ zs _ ((Hb.out).only hon12 (fun _ _ _ h => h)) hl).mono ?_
        rintro e w5 ⟨ys5, k5, rfl, hdec5, hon5⟩
        have hon05 := hon12.trans hon5 (fun _ h => h.elim)
        have hT5 := hT.only hon05 (fun h => h) (fun h => h)
        have hsz5 : 1 < w5.heap.size := by have := hon05.size; omega
        clear hon5
        rcases hdec5.code with rfl | rfl
        · obtain ⟨henc5, hl5⟩ := hdec5.fwd
          clear hdec5
          go_wp2_with (fail)
          refine (encode (strOfNums ys5) _ (by rw [strOfNums_size]; omega) hT5 hsz5 (henc5.bound (by omega))).mono ?_
          rintro e w6 ⟨v6, ys6, k6, rfl, henc6, hrow6, hon6⟩
          obtain ⟨rfl, rfl⟩ := Enc.unique henc6 henc5
          have hon06 := hon05.trans hon6 (fun _ h => h.elim)
          have hT6 := hT5.only hon6 (fun h => h) (fun h => h)
          have hsz6 : 1 < w6.heap.size := by have := hon06.size; omega
          have hc6 := conv8 (hrow6.bytes henc6.byte)
          have hc7 := conv8 ((Hb.out).only hon06 (fun _ _ _ h => h))
          clear henc6 henc5 hrow6 hon6 hon05 hT5 hsz5
          go_wp2_with (fail)
          refine (awake _ hT6 hsz6).mono ?_
          rintro e w7 ⟨rfl, hon7⟩
          have hon07 := hon06.trans hon7 (fun _ h => h.elim)
          clear hon06 hon7 hc6 hc7
          go_wp2
          go_ret
          exact ⟨rfl, hon07⟩
        · clear hdec5
          go_wp2_with (fail)
          refine (awake _ hT5 hsz5).mono ?_
          rintro e w7 ⟨rfl, hon7⟩
          have hon07 := hon05.trans hon7 (fun _ h => h.elim)
          clear hon05 hon7
          go_wp2
          go_ret
          exact ⟨rfl, hon07⟩
  · clear henc1 hrow1
    go_wp2_with (fail)
    refine (decode _ zs _ ((Hb.out).only hon1 (fun _ _ _ h => h)) hl).mono ?_
    rintro e w5 ⟨ys5, k5, rfl, hdec5, hon5⟩
    have hon05 := hon1.trans hon5 (fun _ h => h.elim)
    have hT5 := hT.only hon05 (fun h => h) (fun h => h)
    have hsz5 : 1 < w5.heap.size := by have := hon05.size; omega
    clear hon5
    rcases hdec5.code with rfl | rfl
    · obtain ⟨henc5, hl5⟩ := hdec5.fwd
      clear hdec5
      go_wp2_with (fail)
      refine (encode (strOfNums ys5) _ (by rw [strOfNums_size]; omega) hT5 hsz5 (henc5.bound (by omega))).mono ?_
      rintro e w6 ⟨v6, ys6, k6, rfl, henc6, hrow6, hon6⟩
      obtain ⟨rfl, rfl⟩ := Enc.unique henc6 henc5
      have hon06 := hon05.trans hon6 (fun _ h => h.elim)
      have hT6 := hT5.only hon6 (fun h => h) (fun h => h)
      have hsz6 : 1 < w6.heap.size := by have := hon06.size; omega
      have hc6 := conv8 (hrow6.bytes henc6.byte)
      have hc7 := conv8 ((Hb.out).only hon06 (fun _ _ _ h => h))
      clear henc6 henc5 hrow6 hon6 hon05 hT5 hsz5
      go_wp2_with (fail)
      refine (awake _ hT6 hsz6).mono ?_
      rintro e w7 ⟨rfl, hon7⟩
      have hon07 := hon06.trans hon7 (fun _ h => h.elim)
      clear hon06 hon7 hc6 hc7
      go_wp2
      go_ret
      exact ⟨rfl, hon07⟩
    · clear hdec5
      go_wp2_with (fail)
      refine (awake _ hT5 hsz5).mono ?_
      rintro e w7 ⟨rfl, hon7⟩
      have hon07 := hon05.trans hon7 (fun _ h => h.elim)
      clear hon05 hon7
      go_wp2
      go_ret
      exact ⟨rfl, hon07⟩
end Go.Proofs.YtnmdhlbfcmpcnaaDoor
