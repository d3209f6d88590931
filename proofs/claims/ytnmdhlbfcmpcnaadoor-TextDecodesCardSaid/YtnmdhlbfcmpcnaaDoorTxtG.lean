/- The law's small help: the program computes at all. The tables of unicode/utf8 are as their text lays them. -/
import Derived.Test.YtnmdhlbfcmpcnaaDoorTxtF
namespace Go.Proofs.YtnmdhlbfcmpcnaaDoor
open Go.RowKit Go.Shelf
set_option linter.unusedVariables false
set_option linter.unusedSimpArgs false

theorem Row.bytes {w : World} {B : Nat} {v : Value} {ys : List Int} (h : Row w B v ys) (hz : Bytish ys) : Bytes w v ys := Bytes.of_owns h hz
theorem Enc.byte {zs ys : List Int} {k : Int} (h : Enc zs ys k) : Bytish ys := by
  rcases h with ⟨cs, ht, rfl, _⟩ | ⟨_, rfl, _⟩
  · exact M8s_byte ht.1
  · exact Bytish.nil
theorem conv8 {w : World} {v : Value} {ys : List Int} (h : Bytes w v ys) : (convert 22 9 v).run Tryd.prog w = .ok (.string (strOfNums ys)) w :=
  conv_bytes w 22 5 9 Tryd.underlying22 Tryd.underlying5 Tryd.underlying9 h

theorem enc_A {ys : List Int} {k : Int} (h : Enc (nums ⟨#[65]⟩) ys k) : ys = [65] ∧ k = 0 := by
  have hA : IsText (nums ⟨#[65]⟩) [65] := ⟨fun c hc => by simp at hc; subst hc; unfold Sc; omega, by decide⟩
  have := Enc.unique h (.inl ⟨[65], hA, rfl, rfl⟩)
  exact ⟨this.1.trans (by decide), this.2⟩

set_option maxHeartbeats 1000000 in
theorem awake (w : World) (hT : Tabs w) (h1w : 1 < w.heap.size) :
    Calls Tryd.prog 12 #[] w fun e w' => e = .returned (.bool true) ∧ Only (fun _ => False) w w' := by
  have cE := encode ⟨#[65]⟩ w (by decide) hT h1w (fun cs hcs => by have := (M8s_len hcs.1).2; rw [← hcs.2, nums_len] at this; exact Nat.le_trans this (by decide))
  go_enter Tryd.func12, Tryd.ntmps12
  go_wp2_with (fail)
  refine cE.mono ?_
  rintro e w1 ⟨v, ys, k, rfl, henc, hrow, hon⟩
  obtain ⟨rfl, rfl⟩ := enc_A henc
  have hcv := conv8 (hrow.bytes henc.byte)
  have hstr : strOfNums [65] = ⟨#[65]⟩ := by decide
  rw [hstr] at hcv
  clear cE henc
  go_wp2
  go_ret
  exact ⟨rfl, hon⟩

theorem nN (s : ByteArray) (hs : s.size ≤ 70368744177664) : ∀ cs, IsText (nums s) cs → (M8s cs).length ≤ 140737488355328 := fun cs hcs => by
  have := (M8s_len hcs.1).2
  rw [← hcs.2, nums_len] at this
  omega
theorem Enc.code {zs ys : List Int} {k : Int} (h : Enc zs ys k) : k = 0 ∨ k = 20 := by
  rcases h with ⟨cs, ht, rfl, h⟩ | ⟨_, rfl, h⟩
  · exact .inl h
  · exact .inr h

set_option maxHeartbeats 4000000 in
theorem walkEncodes (s : ByteArray) (w : World) (hs : s.size ≤ 70368744177664) (hT : Tabs w) (h1w : 1 < w.heap.size) :
    Calls Tryd.prog 3 #[.string s] w fun e w' => e = .returned (.bool true) ∧ Only (fun _ => False) w w' := by
  have cE := encode s w (by omega) hT h1w (nN s hs)
  go_enter Tryd.func3, Tryd.ntmps3
  go_wp2_with (fail)
  refine cE.mono ?_
  rintro e w1 ⟨v, ys, k, rfl, henc, hrow, hon⟩
  clear cE
  have hT1 := hT.only hon (fun h => h) (fun h => h)
  go_wp2_with (fail)
  refine (refEncode s _ hs).mono ?_
  rintro e w2 ⟨v2, ys2, k2, rfl, henc2, hrow2, hon2⟩
  obtain ⟨rfl, rfl⟩ := Enc.unique henc2 henc
  have hT2 := hT1.only hon2 (fun h => h) (fun h => h)
  have hb1 := (hrow.only hon2 (fun _ _ h => h)).bytes henc.byte
  have hb2 := hrow2.bytes henc.byte
  have hon12 := hon.trans hon2 (fun _ h => h.elim)
  have hsz : 1 < w2.heap.size := by have := hon12.size; omega
  have hcv1 := conv8 hb1
  have hcv2 := conv8 hb2
  obtain ⟨ao, cap, rfl, hc1, hc2⟩ := slice_of_owns hrow2
  clear hon hon2 hrow hrow2 hb1 hb2
  have Henc := Lib.hid henc
  clear henc henc2
  go_wp2_with (fail)
  refine (lenOf s _ (by omega) hT2 hsz).mono ?_
  rintro e w3 ⟨ys3, k3, rfl, henc3, hon3⟩
  obtain ⟨rfl, rfl⟩ := Enc.unique henc3 Henc.out
  have hT3 := hT2.only hon3 (fun h => h) (fun h => h)
  have hsz3 : 1 < w3.heap.size := by have := hon3.size; omega
  have hon13 := hon12.trans hon3 (fun _ h => h.elim)
  clear henc3 hon3 hon12 hT2 hT1 hT hcv1 hcv2
  go_wp2_with (fail)
  refine (awake _ hT3 hsz3).mono ?_
  rintro e w4 ⟨rfl, hon4⟩
  have hon14 := hon13.trans hon4 (fun _ h => h.elim)
  clear hon13 hon4
  go_wp2
  go_ret
  exact ⟨rfl, hon14⟩
end Go.Proofs.YtnmdhlbfcmpcnaaDoor
