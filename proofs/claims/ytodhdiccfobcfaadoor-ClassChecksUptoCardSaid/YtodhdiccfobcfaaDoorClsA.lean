/- Layer 5's small questions of a pool, in the document's own words: the earliest place of a text; does a place lead to a text, to a class. No condition. -/
import Derived.Test.YtodhdiccfobcfaaDoorPolD
namespace Go.Proofs.YtodhdiccfobcfaaDoor
open Go.RowKit
set_option linter.unusedVariables false
set_option linter.unusedSimpArgs false

theorem toList_inj {x y : ByteArray} (h : x.toList = y.toList) : x = y := by
  rw [ByteArray.toList_eq, ByteArray.toList_eq] at h
  cases x with | mk a => cases y with | mk b => cases a; cases b; simp at h; rw [h]
theorem text_ne {x y : ByteArray} (h : x ≠ y) : (x.toList == y.toList) = false := beq_eq_false_iff_ne.2 (fun e => h (toList_inj e))
/-- The earliest place of a text from the place i on; 0: there is none. -/
noncomputable def findFrom (s : ByteArray) : Nat → List ConstV → Int
  | _, [] => 0
  | i, c :: r => open Classical in if c.tag = 1 ∧ c.text = s then (i : Int) else findFrom s (i + 1) r
noncomputable def placeOf (cs : List ConstV) (s : ByteArray) : Int := findFrom s 1 (cs.drop 1)
theorem findFrom_skip {s : ByteArray} {i : Nat} {l : List ConstV} {c : ConstV} {r : List ConstV} (hl : l = c :: r) (h : ¬ (c.tag = 1 ∧ c.text = s)) : findFrom s i l = findFrom s (i + 1) r := by
  subst hl
  show (if c.tag = 1 ∧ c.text = s then (i : Int) else findFrom s (i + 1) r) = _
  exact if_neg h
theorem findFrom_here {s : ByteArray} {i : Nat} {l : List ConstV} {c : ConstV} {r : List ConstV} (hl : l = c :: r) (h : c.tag = 1 ∧ c.text = s) : findFrom s i l = (i : Int) := by
  subst hl
  show (if c.tag = 1 ∧ c.text = s then (i : Int) else findFrom s (i + 1) r) = _
  exact if_pos h

set_option maxHeartbeats 2000000 in
theorem refPlace (v : Value) (cs : List ConstV) (s : ByteArray) (w : World) (hp : Pool w v cs) :
    Calls Tryd.prog 30 #[v, .string s] w fun e w' => e = .returned (.int .i64 (placeOf cs s)) ∧ w = w' := by
  obtain ⟨ao, cap, rfl, h1, h2, h3, h4, h5⟩ := id hp
  have Hp := Lib.hid hp
  clear h3 h4 h5 hp
  go_enter Tryd.func30, Tryd.ntmps30
  go_wp2
  go_loop [5] (fun i => ∃ j : Nat, 1 ≤ j ∧ (j ≤ cs.length ∨ j = 1) ∧ i = .int .i64 j ∧ placeOf cs s = findFrom s j (cs.drop j)) (fun i => cs.length - (intOf i).toNat)
  case atStart => exact ⟨1, Nat.le_refl _, .inr rfl, rfl, rfl⟩
  case round =>
    obtain ⟨j, hj1, hj, rfl, hpl⟩ := hrel
    by_cases hlt : j < cs.length
    · obtain ⟨b, o, rfl, hc⟩ := Pool.at Hp.out hlt
      have g0 := hc.c0
      have g1 := hc.c1
      have hjz : (j : Int) < (cs.length : Int) := by omega
      have hdr : cs.drop j = cs.getD j default :: cs.drop (j + 1) := by rw [List.drop_eq_getElem_cons hlt]; simp [List.getD, hlt]
      by_cases hh : (cs.getD j default).tag = 1 ∧ (cs.getD j default).text = s
      · have hv := hpl.trans (findFrom_here hdr hh)
        have Hv := Lib.hid hv
        obtain ⟨ht, hx⟩ := hh
        rw [ht] at g0
        rw [hx] at g1
        clear hc hdr hpl hv ht hx
        go_wp2
        go_ret
        exact ⟨by rw [Hv.out]; rfl, rfl⟩
      · have hv := hpl.trans (findFrom_skip (i := j) hdr hh)
        have Hv := Lib.hid hv
        by_cases ht : (cs.getD j default).tag = 1
        · have hx : (cs.getD j default).text ≠ s := fun e => hh ⟨ht, e⟩
          have hne := text_ne hx
          rw [ht] at g0
          generalize (cs.getD j default).text = x at *
          clear hc hdr hpl hv ht hx hh
          go_wp2
          go_round
          case rel => exact ⟨j + 1, by omega, by omega, by go_num, Hv.out⟩
          case measure => simp [intOf]; omega
        · have hne : ((cs.getD j default).tag == 1) = false := by simpa using ht
          generalize (cs.getD j default).tag = t at *
          clear hc hdr hpl hv ht hh
          go_wp2
          go_round
          case rel => exact ⟨j + 1, by omega, by omega, by go_num, Hv.out⟩
          case measure => simp [intOf]; omega
    · have hz : placeOf cs s = 0 := by rw [hpl, List.drop_eq_nil_of_le (by omega)]; rfl
      have Hz := Lib.hid hz
      have hjz : (cs.length : Int) ≤ (j : Int) := by omega
      clear hz hpl
      go_wp2
      go_ret
      exact ⟨by rw [Hz.out]; rfl, rfl⟩

theorem refUtf (v : Value) (cs : List ConstV) (i : Int) (w : World) (hp : Pool w v cs) :
    Calls Tryd.prog 16 #[v, .int .i64 i] w fun e w' => e = .returned (.bool (textZ cs i).2) ∧ w = w' := by
  have cT := refText v cs i w hp
  go_enter Tryd.func16, Tryd.ntmps16
  go_wp2_with (go_at_call 29; refine cT.mono ?_; rintro e w' ⟨rfl, rfl⟩)
  go_ret
  exact ⟨rfl, rfl⟩
theorem refCls (v : Value) (cs : List ConstV) (i : Int) (w : World) (hp : Pool w v cs) :
    Calls Tryd.prog 15 #[v, .int .i64 i] w fun e w' => e = .returned (.bool (classZ cs i).2) ∧ w = w' := by
  have cT := refClass v cs i w hp
  go_enter Tryd.func15, Tryd.ntmps15
  go_wp2_with (go_at_call 19; refine cT.mono ?_; rintro e w' ⟨rfl, rfl⟩)
  go_ret
  exact ⟨rfl, rfl⟩
end Go.Proofs.YtodhdiccfobcfaaDoor
