/- The document's own Plain: may a text be a class's name. No condition but a length that a text can have. -/
import Derived.Test.YtadgbkjjeigpjaaTxtP
import Derived.Test.YtadgbkjjeigpjaaMem
import Derived.Lib.Hide
namespace Go.Proofs.Ytadgbkjjeigpjaa
open Go.RowKit
set_option linter.unusedVariables false
set_option linter.unusedSimpArgs false

/-- May a byte stand in a name. -/
def badC (z : Int) : Bool := z == 46 || (z == 59 || (z == 91 || (z == 47 || (z == 60 || z == 62))))
def plainN (zs : List Int) : Bool := (decide (1 ≤ zs.length) && decide (zs.length ≤ 256)) && zs.all (fun z => !badC z)
theorem nums_at {s : ByteArray} {j : Nat} (h : j < s.size) : (nums s).getD j 0 = ((s[j].toNat : Nat) : Int) := by
  rw [nums_get]
  congr 1
  simp [ByteArray.get!, h]
  rfl
theorem badC_yes {z : Int} (h : badC z = true) : z = 46 ∨ z = 59 ∨ z = 91 ∨ z = 47 ∨ z = 60 ∨ z = 62 := by
  unfold badC at h
  simpa using h
theorem plainN_no {zs : List Int} {j : Nat} (hj : j < zs.length) (h : badC (zs.getD j 0) = true) : plainN zs = false := by
  unfold plainN
  have : zs.all (fun z => !badC z) = false := by
    rw [List.all_eq_false]
    refine ⟨zs[j], List.getElem_mem hj, ?_⟩
    rw [show zs.getD j 0 = zs[j] by simp [List.getD, hj]] at h
    rw [h]; decide
  rw [this, Bool.and_false]
theorem plainN_yes {zs : List Int} (h1 : 1 ≤ zs.length) (h2 : zs.length ≤ 256) (h : ∀ j, j < zs.length → badC (zs.getD j 0) = false) : plainN zs = true := by
  unfold plainN
  simp only [h1, h2, decide_true, Bool.and_self, Bool.true_and, List.all_eq_true]
  intro z hz
  obtain ⟨j, hj, rfl⟩ := List.getElem_of_mem hz
  have := h j hj
  rw [show zs.getD j 0 = zs[j] by simp [List.getD, hj]] at this
  rw [this]; rfl
theorem badC_no {z : Int} (h : badC z = false) : (z == 46) = false ∧ (z == 59) = false ∧ (z == 91) = false ∧ (z == 47) = false ∧ (z == 60) = false ∧ (z == 62) = false := by
  unfold badC at h
  simp only [Bool.or_eq_false_iff] at h
  exact ⟨h.1, h.2.1, h.2.2.1, h.2.2.2.1, h.2.2.2.2.1, h.2.2.2.2.2⟩
set_option maxHeartbeats 2000000 in
set_option maxRecDepth 100000 in
theorem refPlainN (s : ByteArray) (w : World) (hs : s.size ≤ 281474976710656) :
    Calls Try.prog 39 #[.string s] w fun e w' => e = .returned (.bool (plainN (nums s))) ∧ w = w' := by
  have hl := nums_len s
  by_cases h1 : s.size < 1
  · have HP := Lib.hid (show plainN (nums s) = false by unfold plainN; rw [hl]; simp; omega)
    have h1z : (s.size : Int) < 1 := by omega
    clear hl
    go_enter Try.func39, Try.ntmps39
    go_wp2
    go_ret
    rw [HP.out]
    exact ⟨rfl, rfl⟩
  by_cases h2 : 256 < s.size
  · have HP := Lib.hid (show plainN (nums s) = false by unfold plainN; rw [hl]; simp; omega)
    have h2z : 256 < (s.size : Int) := by omega
    have h1z : ¬ (s.size : Int) < 1 := by omega
    clear hl
    go_enter Try.func39, Try.ntmps39
    go_wp2
    go_ret
    rw [HP.out]
    exact ⟨rfl, rfl⟩
  have h2z : ¬ 256 < (s.size : Int) := by omega
  have h1z : ¬ (s.size : Int) < 1 := by omega
  have HL := Lib.hid hl
  clear hl
  go_enter Try.func39, Try.ntmps39
  go_wp2
  go_loop [3] (fun i => ∃ j : Nat, i = .int .i64 j ∧ j ≤ s.size ∧ ∀ n, n < j → badC ((nums s).getD n 0) = false) (fun i => s.size - (intOf i).toNat)
  case atStart => exact ⟨0, rfl, Nat.zero_le _, fun n hn => by omega⟩
  case round =>
    obtain ⟨j, rfl, hj, hbef⟩ := hrel
    have HBEF := Lib.hid hbef
    clear hbef
    by_cases hlt : j < s.size
    · have hjz : (j : Int) < (s.size : Int) := by omega
      have hg := nums_at hlt
      cases hbc : badC ((nums s).getD j 0)
      · have HNX : Hid (∀ n, n < j + 1 → badC ((nums s).getD n 0) = false) := by
          refine Lib.hid ?_
          intro n hnj
          by_cases hkj : n < j
          · exact HBEF.out n hkj
          · rw [show n = j by omega]; exact hbc
        rw [hg] at hbc
        obtain ⟨b1, b2, b3, b4, b5, b6⟩ := badC_no hbc
        clear hbc hg
        go_wp2
        go_round
        case rel => exact ⟨j + 1, by go_num, by omega, HNX.out⟩
        case measure => simp [intOf]; omega
      · have HP := Lib.hid (plainN_no (by rw [HL.out]; exact hlt) hbc)
        rw [hg] at hbc
        clear hg
        rcases badC_yes hbc with h | h | h | h | h | h
        all_goals
          clear hbc
          go_wp2
          go_ret
          rw [HP.out]
          exact ⟨rfl, rfl⟩
    · have HP := Lib.hid (plainN_yes (by rw [HL.out]; omega) (by rw [HL.out]; omega) (fun n hn => HBEF.out n (by rw [HL.out] at hn; omega)))
      obtain rfl : j = s.size := by omega
      clear hlt hj
      go_wp2
      go_ret
      rw [HP.out]
      exact ⟨rfl, rfl⟩
end Go.Proofs.Ytadgbkjjeigpjaa
