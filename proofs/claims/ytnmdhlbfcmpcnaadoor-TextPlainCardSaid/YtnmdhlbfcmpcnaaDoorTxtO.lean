/- The walk of TextPlain. The tables of unicode/utf8 are as their text lays them. -/
import Derived.Test.YtnmdhlbfcmpcnaaDoorTxtN
import Derived.Laws.OwnMore
namespace Go.Proofs.YtnmdhlbfcmpcnaaDoor
open Go.RowKit Go.Shelf
set_option linter.unusedVariables false
set_option linter.unusedSimpArgs false

def lett (z : Int) : Int := 1 + z % 127
/-- The first so many bytes made letters. -/
def upTo (zs : List Int) (j : Nat) : List Int := (zs.take j).map lett ++ zs.drop j
theorem upTo_len (zs : List Int) (j : Nat) (h : j ≤ zs.length) : (upTo zs j).length = zs.length := by simp [upTo]; omega
theorem upTo_get {zs : List Int} {j : Nat} (h : j < zs.length) : (upTo zs j).getD j 0 = zs.getD j 0 := by
  unfold upTo
  simp only [List.getD]
  rw [List.getElem?_append_right (by simp; omega)]
  simp only [List.length_map, List.length_take, List.getElem?_drop]
  congr 2
  omega
theorem upTo_step {zs : List Int} {j : Nat} (h : j < zs.length) : (upTo zs j).set j (lett (zs.getD j 0)) = upTo zs (j + 1) := by
  have e : zs.getD j 0 = zs[j] := by simp [List.getD, h]
  rw [e]
  unfold upTo
  rw [List.set_append_right _ _ (by simp; omega)]
  rw [List.take_add_one, List.map_append, List.drop_eq_getElem_cons h]
  simp only [List.length_map, List.length_take]
  rw [show j - min j zs.length = 0 by omega, List.set_cons_zero, List.getElem?_eq_getElem h, List.append_assoc]
  rfl
theorem lett_text {zs : List Int} (h : Bytish zs) : IsText (zs.map lett) (zs.map lett) ∧ M8s (zs.map lett) = zs.map lett := by
  have hsc : AllSc (zs.map lett) := fun c hc => by
    obtain ⟨z, hz, rfl⟩ := List.mem_map.1 hc
    unfold Sc lett
    omega
  have hu : ∀ (l : List Int), (∀ c ∈ l, 1 ≤ c ∧ c ≤ 127) → U8s l = l ∧ M8s l = l := by
    intro l
    induction l with
    | nil => intro _; exact ⟨rfl, rfl⟩
    | cons c l ih =>
      intro hl
      obtain ⟨h1, h2⟩ := ih (fun d hd => hl d (by simp [hd]))
      obtain ⟨h3, h4⟩ := hl c (by simp)
      rw [U8s_cons, M8s_cons, h1, h2]
      refine ⟨?_, ?_⟩
      · unfold enc8; rw [Lib.encodeRuneZ_one (by omega) h4]; rfl
      · unfold m8; rw [if_pos (by omega), unitZ_one h3 h4]; rfl
  obtain ⟨h1, h2⟩ := hu (zs.map lett) (fun c hc => by
    obtain ⟨z, hz, rfl⟩ := List.mem_map.1 hc
    unfold lett
    omega)
  exact ⟨⟨hsc, h1.symm⟩, h2⟩

set_option maxHeartbeats 4000000 in
theorem walkPlain (v0 : Value) (zs : List Int) (w : World) (hb : Bytes w v0 zs) (hl : zs.length ≤ 140737488351232) (hT : Tabs w) (h1w : 1 < w.heap.size) :
    Calls Tryd.prog 7 #[v0] w fun e w' => e = .returned (.bool true) ∧ Only (fun _ => False) w w' := by
  obtain ⟨i0, hi, hz0, hz1, hz2⟩ := info_parts info_u8
  obtain ⟨bo, bcap, rfl, hb1, hb2, hb3, hbz, hbc⟩ := id hb
  have Hb := Lib.hid hb
  clear hb hbc
  go_enter Tryd.func7, Tryd.ntmps7
  go_wp2_with (first | (at_builtin; refine wpList_append_src rfl (.tmp 9) (.tmp 10) 22 rfl 5 i0 (.int .u8 0) 1 1 Tryd.underlying22 hi hz0 hz1 hz2 rfl (by decide) w.heap.size (.slice (some ⟨w.heap.size, 0, none⟩) 0 0) 0 [] rfl (by exact World.ownsRow_made _ #[] 0 (Nat.le_refl _) (Nat.zero_le _) rfl) (by simp) (.slice bo zs.length bcap) zs.length (zs.map (Value.int .u8)) rfl (by exact (Src.of_bytes Hb.out).alloc _) (by unfold maxLen; omega) (by omega) ?_; intro v' w1 hown1 hgrow1 hnew1))
  have hbel1 : Below w.heap.size w w1 := Below.grown (B := w.heap.size) ((Below.refl _ _).alloc (Nat.le_refl _) _) hgrow1 (by simp) (fun k hk => by simp [Value.ownBlock] at hk; omega)
  have hon1 : Only (fun _ => False) w w1 := Only.of_below hbel1 _
  have hrow : Row w1 w.heap.size v' (upTo zs 0) := by
    have e : upTo zs 0 = zs := by simp [upTo]
    rw [e]
    unfold Row
    simpa using hown1
  have hbel := Lib.hid hbel1
  clear hown1 hgrow1 hnew1 hbel1
  obtain ⟨ao, cap, rfl, hc1, hc2⟩ := slice_of_owns hrow
  rw [upTo_len zs 0 (Nat.zero_le _)] at hrow hc1 ⊢
  go_loopw [4] (fun i wr => ∃ j : Nat, j ≤ zs.length ∧ i = .int .i64 j ∧ Row wr w.heap.size (.slice ao zs.length cap) (upTo zs j) ∧ Only (fun _ => False) w wr) (fun i _ => zs.length - (intOf i).toNat)
  case atStart => exact ⟨0, Nat.zero_le _, rfl, hrow, hon1⟩
  case round =>
    obtain ⟨j, hj, rfl, hr0, hon⟩ := hrel
    have hr : wr.ownsRow w.heap.size 5 1 (.slice ao zs.length cap) zs.length ((upTo zs j).map (Value.int .u8)) := by
      have := hr0
      unfold Row at this
      rwa [upTo_len zs j hj] at this
    by_cases hlt : j < zs.length
    · obtain ⟨g, rfl⟩ : ∃ g, ao = some ⟨g, 0, none⟩ := by
        rcases hr.2 with ⟨e, h0⟩ | ⟨g, cap', cur, e, _⟩
        · omega
        · injection e with e1; exact ⟨g, e1⟩
      obtain ⟨z, hz⟩ : ∃ z, zs.getD j 0 = z := ⟨_, rfl⟩
      have gc : wr.cell? ⟨g, j, none⟩ = some (.int .u8 z) := by
        rw [hr.cellAt j (by omega), List.getElem?_map]
        have e := upTo_get hlt
        rw [hz] at e
        rw [← e, List.getElem?_eq_getElem (by rw [upTo_len zs j hj]; exact hlt)]
        simp [List.getD, upTo_len zs j hj, hlt]
      have gf := hr.frozenAt j
      have hst := hr.stored j (.int .u8 (1 + z % 127))
      have hzr := hbz.getD hlt
      rw [hz] at hzr
      have hge := hr0.ge g rfl
      have hnext : Row (wr.setCell ⟨g, j, none⟩ (.int .u8 (1 + z % 127))) w.heap.size (.slice (some ⟨g, 0, none⟩) zs.length cap) (upTo zs (j + 1)) := by
        unfold Row
        rw [upTo_len zs (j + 1) hlt, ← upTo_step hlt, hz, List.map_set]
        exact hst.1
      have honx : Only (fun _ => False) w (wr.setCell ⟨g, j, none⟩ (.int .u8 (1 + z % 127))) := hon.setCell (fun hk => absurd hk (Nat.not_lt.2 hge.1)) _
      have hjz : (j : Int) < (zs.length : Int) := by omega
      have Hn := Lib.hid hnext
      have Ho := Lib.hid honx
      clear hr hr0 hst hnext honx hrow hon hz
      go_wp2
      go_roundw
      case rel => exact ⟨j + 1, by omega, by go_num, Hn.out, Ho.out⟩
      case measure => simp [intOf]; omega
    · have hjn : j = zs.length := by omega
      subst hjn
      have hup : upTo zs zs.length = zs.map lett := by simp [upTo]
      rw [hup] at hr0
      have hlz : (zs.map lett).length = zs.length := by simp
      obtain ⟨ls, hls⟩ : ∃ ls, zs.map lett = ls := ⟨_, rfl⟩
      have htxt := lett_text hbz
      rw [hls] at htxt hr0 hlz
      obtain ⟨htx, hm8⟩ := htxt
      have hlb : Bytish ls := by rw [htx.2]; exact U8s_byte _
      have hbc := hr0.bytes hlb
      have hcv := conv8 hbc
      have hnl : nums (strOfNums ls) = ls := nums_str hlb
      have hencl : Enc (nums (strOfNums ls)) ls 0 := .inl ⟨ls, by rw [hnl]; exact htx, hm8.symm, rfl⟩
      have hdecl : Dec ls ls 0 := .inl ⟨ls, ⟨htx.1, hm8.symm⟩, htx.2, rfl⟩
      have hT0 := hT.only hon (fun h => h) (fun h => h)
      have hsz0 : 1 < wr.heap.size := by have := hon.size; omega
      rw [← hlz]
      rw [← hlz] at hl hbc hcv
      have Hz := Lib.hid hlz
      clear hls hr hr0 hup htx hm8 hrow hlz hnl hj hlt
      go_wp2_with (fail)
      refine (encode (strOfNums ls) _ (by rw [strOfNums_size]; omega) hT0 hsz0 (hencl.bound (by omega))).mono ?_
      rintro e w3 ⟨v3, ys3, k3, rfl, henc3, hrow3, hon3⟩
      obtain ⟨rfl, rfl⟩ := Enc.unique henc3 hencl
      have hbc3 := hbc.only hon3 (fun _ _ _ h => h)
      have hon03 := hon.trans hon3 (fun _ h => h.elim)
      go_wp2_with (fail)
      refine (decode _ ys3 _ hbc3 hl).mono ?_
      rintro e w4 ⟨ys4, k4, rfl, hdec4, hon4⟩
      obtain ⟨rfl, rfl⟩ := Dec.unique hdec4 hdecl
      have hon04 := hon03.trans hon4 (fun _ h => h.elim)
      have hT4 := hT.only hon04 (fun h => h) (fun h => h)
      have hsz4 : 1 < w4.heap.size := by have := hon04.size; omega
      have hc4 := conv8 (hbc3.only hon4 (fun _ _ _ h => h))
      have hc5 := conv8 ((hrow3.bytes henc3.byte).only hon4 (fun _ _ _ h => h))
      clear henc3 hrow3 hon3 hdec4 hon4 hbc hbc3 hcv hencl hdecl hon03 hon hT0 hsz0
      go_wp2_with (fail)
      refine (awake _ hT4 hsz4).mono ?_
      rintro e w7 ⟨rfl, hon7⟩
      have hon07 := hon04.trans hon7 (fun _ h => h.elim)
      clear hon04 hon7 hc4 hc5
      go_wp2
      go_ret
      exact ⟨rfl, hon07⟩
end Go.Proofs.YtnmdhlbfcmpcnaaDoor
