/- What follows of frames, over plain lists: a frame opens, whatever stands behind; cut short it does not; with one bit turned it does not. No condition beyond those written. -/
import Derived.Test.YtfbkmgjgklkjiaaSumO
namespace Go.Proofs.Ytfbkmgjgklkjiaa
set_option linter.unusedVariables false

theorem getD_left {a r : List Int} {k : Nat} (h : k < a.length) : (a ++ r).getD k 0 = a.getD k 0 := by simp only [List.getD, List.getElem?_append_left h]
theorem beV_be4 {n : Int} (h0 : 0 ≤ n) (h1 : n < 4294967296) (r : List Int) : beV (be4 n ++ r) = n := by
  unfold beV be4
  simp [List.getD]
  omega
theorem leV_le4 {n : Int} (h0 : 0 ≤ n) (h1 : n < 4294967296) (r : List Int) : leV (le4 n ++ r) = n := by
  unfold leV le4
  simp [List.getD]
  omega
theorem frame_len (zs : List Int) : (frame zs).length = zs.length + 8 := by simp [frame, be4, le4]
theorem frame_byte {zs : List Int} (h : Bytish zs) : Bytish (frame zs) := ((be4_byte _).append h).append (le4_byte _)
theorem be4_len (n : Int) : (be4 n).length = 4 := rfl
theorem le4_len (n : Int) : (le4 n).length = 4 := rfl

theorem frame_be {zs : List Int} (h : zs.length ≤ 1048576) (r : List Int) : beV (frame zs ++ r) = (zs.length : Int) := by
  unfold frame
  rw [List.append_assoc, List.append_assoc, beV_be4 (by omega) (by omega)]
theorem frame_head (zs r : List Int) : (frame zs ++ r).take (zs.length + 4) = be4 zs.length ++ zs := by
  unfold frame
  rw [List.append_assoc, List.take_left' (by rw [List.length_append, be4_len]; omega)]
theorem frame_tail (zs r : List Int) : (frame zs ++ r).drop (zs.length + 4) = le4 (crc (be4 zs.length ++ zs)) ++ r := by
  unfold frame
  rw [List.append_assoc, List.drop_left' (by rw [List.length_append, be4_len]; omega)]
/-- What is wrapped opens, whatever stands behind. -/
theorem open_frame {zs : List Int} (h : zs.length ≤ 1048576) (r : List Int) : openZ (frame zs ++ r) = (zs, (zs.length : Int) + 8, 0) := by
  have hl : (frame zs ++ r).length = zs.length + 8 + r.length := by rw [List.length_append, frame_len]
  have hc := crc_lt (be4 zs.length ++ zs)
  unfold openZ
  rw [if_neg (by omega), frame_be h, if_neg (by omega), if_neg (by omega), Int.toNat_natCast, frame_tail, frame_head, leV_le4 (by omega) (by omega), if_neg (by simp)]
  have e : ((frame zs ++ r).drop 4).take zs.length = zs := by
    unfold frame
    rw [List.append_assoc, List.append_assoc, List.drop_left' (be4_len _), List.take_left]
  rw [e]
/-- Cut short it does not. -/
theorem open_cut {zs : List Int} (h : zs.length ≤ 1048576) (j : Nat) (hj : j < (frame zs).length) : openZ ((frame zs).take j) = ([], 0, 3) := by
  have hl := frame_len zs
  have ht : ((frame zs).take j).length = j := by rw [List.length_take]; omega
  unfold openZ
  by_cases h4 : j < 4
  · rw [if_pos (by omega)]
  · have hb : beV ((frame zs).take j) = (zs.length : Int) := by
      have e := frame_be h []
      rw [List.append_nil] at e
      unfold beV at e ⊢
      have g : ∀ k, k < j → ((frame zs).take j).getD k 0 = (frame zs).getD k 0 := fun k hk => by simp [List.getD, hk]
      rw [g 0 (by omega), g 1 (by omega), g 2 (by omega), g 3 (by omega)]
      exact e
    rw [if_neg (by omega), hb, if_neg (by omega), if_pos (by omega)]

theorem flip_ne : ∀ (j : Nat) {x y : Nat}, Flip j x y → x ≠ y
  | 0, x, y, h, e => h.2 (by rw [e])
  | j + 1, x, y, h, e => flip_ne j h.2 (by rw [e])
/-- A frame with one bit turned, behind its first four bytes, does not open. -/
theorem open_turned {zs a b : List Int} {x y : Int} {j : Nat} (h : zs.length ≤ 1048576) (hf : frame zs = a ++ x :: b) (ha : 4 ≤ a.length) (hj : j < 8) (hx : 0 ≤ x) (hy : 0 ≤ y) (hfl : Flip j x.toNat y.toNat) :
    openZ (a ++ y :: b) = ([], (zs.length : Int) + 8, 30) := by
  have hl := frame_len zs
  have hlen : (a ++ y :: b).length = zs.length + 8 := by rw [← hl, hf]; simp
  have hlen' : a.length + (b.length + 1) = zs.length + 8 := by simpa using hlen
  have hb : beV (a ++ y :: b) = (zs.length : Int) := by
    have e := frame_be h []
    rw [List.append_nil, hf] at e
    unfold beV at e ⊢
    rw [getD_left (by omega), getD_left (by omega), getD_left (by omega), getD_left (by omega)] at e ⊢
    exact e
  have hne := flip_ne j hfl
  have hh := frame_head zs []
  have ht := frame_tail zs []
  rw [List.append_nil] at hh ht
  rw [List.append_nil] at ht
  have hc := crc_lt (be4 zs.length ++ zs)
  have hle : leV ((frame zs).drop (zs.length + 4)) = (crc ((frame zs).take (zs.length + 4)) : Int) := by
    rw [hh, ht]
    have := leV_le4 (n := (crc (be4 zs.length ++ zs) : Int)) (by omega) (by omega) []
    rwa [List.append_nil] at this
  rw [hf] at hle
  unfold openZ
  rw [if_neg (by omega), hb, if_neg (by omega), if_neg (by omega), Int.toNat_natCast]
  by_cases hi : a.length < zs.length + 4
  · obtain ⟨m, hm⟩ : ∃ m, zs.length + 4 = a.length + (m + 1) := ⟨zs.length + 4 - a.length - 1, by omega⟩
    have t1 : ∀ z : Int, (a ++ z :: b).take (zs.length + 4) = a ++ z :: b.take m := fun z => by rw [hm, List.take_append, List.take_of_length_le (by omega)]; simp
    have t2 : ∀ z : Int, (a ++ z :: b).drop (zs.length + 4) = b.drop m := fun z => by rw [hm, List.drop_append, List.drop_of_length_le (by omega)]; simp
    rw [t1, t2] at hle ⊢
    have hd := crc_turned (a := a) (b := b.take m) (x := x) (y := y) hj hfl
    rw [if_pos (by rw [hle]; omega)]
  · have t1 : ∀ z : Int, (a ++ z :: b).take (zs.length + 4) = a.take (zs.length + 4) := fun z => by rw [List.take_append_of_le_length (by omega)]
    rw [t1] at hle ⊢
    have hd : leV ((a ++ y :: b).drop (zs.length + 4)) ≠ leV ((a ++ x :: b).drop (zs.length + 4)) := by
      have g : ∀ z : Int, (a ++ z :: b).drop (zs.length + 4) = a.drop (zs.length + 4) ++ z :: b := fun z => by rw [List.drop_append_of_le_length (by omega)]
      rw [g, g]
      have hdl : (a.drop (zs.length + 4)).length = a.length - (zs.length + 4) := by simp
      have hxy : x ≠ y := fun e => hne (by rw [e])
      generalize a.drop (zs.length + 4) = c at *
      have hc4 : c.length ≤ 3 := by omega
      unfold leV
      rcases c with _ | ⟨c0, _ | ⟨c1, _ | ⟨c2, _ | ⟨c3, c⟩⟩⟩⟩
      · simp [List.getD]; omega
      · simp [List.getD]; omega
      · simp [List.getD]; omega
      · simp [List.getD]; omega
      · simp at hc4
    rw [if_pos (by rw [← hle]; exact hd)]
end Go.Proofs.Ytfbkmgjgklkjiaa
