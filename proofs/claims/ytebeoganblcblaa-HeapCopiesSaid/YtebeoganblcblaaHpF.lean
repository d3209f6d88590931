/- The document's First. No condition. -/
import Derived.Test.YtebeoganblcblaaHpD
namespace Go.Proofs.Ytebeoganblcblaa
open Go.RowKit
set_option linter.unusedVariables false
set_option linter.unusedSimpArgs false

set_option maxHeartbeats 4000000 in
set_option maxRecDepth 100000 in
theorem refFirst14 (t : TypeV) (w : World) : Calls Try.prog 17 #[valT t] w fun e w' => e = .returned (valVa (firstZ t)) ∧ Only (fun _ => False) w w' := by
  unfold firstZ valT
  obtain ⟨k, nm, d, el, a⟩ := t
  simp only
  by_cases h1 : k = 1
  · subst h1
    go_enter Try.func17, Try.ntmps17
    go_wp2
    exact bodyPost_ret (val_result Try.results17 (t := ⟨1, 0, 0⟩) (heap_alloc_new _ _) (by simp)) rfl ⟨rfl, ((Only.refl _ w).alloc _).alloc _⟩
  have e1 : (k == 1) = false := by rw [beq_eq_false_iff_ne]; exact h1
  by_cases h2 : k = 2
  · subst h2
    go_enter Try.func17, Try.ntmps17
    go_wp2
    exact bodyPost_ret (val_result Try.results17 (t := ⟨2, 0, 0⟩) (heap_alloc_new _ _) (by simp)) rfl ⟨rfl, ((Only.refl _ w).alloc _).alloc _⟩
  have e2 : (k == 2) = false := by rw [beq_eq_false_iff_ne]; exact h2
  by_cases h4 : k = 4
  · subst h4
    go_enter Try.func17, Try.ntmps17
    go_wp2
    exact bodyPost_ret (val_result Try.results17 (t := ⟨3, 0, 0⟩) (heap_alloc_new _ _) (by simp)) rfl ⟨rfl, ((Only.refl _ w).alloc _).alloc _⟩
  have e4 : (k == 4) = false := by rw [beq_eq_false_iff_ne]; exact h4
  by_cases h5 : k = 5
  · subst h5
    go_enter Try.func17, Try.ntmps17
    go_wp2
    exact bodyPost_ret (val_result Try.results17 (t := ⟨3, 0, 0⟩) (heap_alloc_new _ _) (by simp)) rfl ⟨rfl, ((Only.refl _ w).alloc _).alloc _⟩
  have e5 : (k == 5) = false := by rw [beq_eq_false_iff_ne]; exact h5
  by_cases h3 : k = 3
  · subst h3
    go_enter Try.func17, Try.ntmps17
    go_wp2
    exact bodyPost_ret (val_result Try.results17 (t := ⟨3, 0, 0⟩) (heap_alloc_new _ _) (by simp)) rfl ⟨rfl, ((Only.refl _ w).alloc _).alloc _⟩
  have e3 : (k == 3) = false := by rw [beq_eq_false_iff_ne]; exact h3
  rw [if_neg h1, if_neg h2, if_neg (by omega)]
  clear h1 h2 h3 h4 h5
  go_enter Try.func17, Try.ntmps17
  go_wp2
  exact bodyPost_ret (val_result Try.results17 (t := ⟨0, 0, 0⟩) (heap_alloc_new _ _) (by simp)) rfl ⟨rfl, ((Only.refl _ w).alloc _).alloc _⟩
end Go.Proofs.Ytebeoganblcblaa
