/- Plain facts of whole numbers: what the laws of layer 13 say beside 'as the document'. Condition: the numbers are such of 32 or 64 bits. -/
import Derived.Test.YtmgglicfhddmpaaArW
namespace Go.Proofs.Ytmgglicfhddmpaa
open Go.RowKit
set_option linter.unusedVariables false
set_option linter.unusedSimpArgs false

theorem tparts (a b : Int) (h : b ≠ 0) : b * a.tdiv b + a.tmod b = a ∧ (0 ≤ a → 0 ≤ a.tmod b ∧ a.tmod b ≤ a) ∧ (a ≤ 0 → a.tmod b ≤ 0 ∧ a ≤ a.tmod b) ∧ (a.tmod b).natAbs < b.natAbs ∧ (a.tdiv b).natAbs ≤ a.natAbs := by
  have hn : (a.tmod b).natAbs = a.natAbs % b.natAbs := Int.natAbs_tmod a b
  have hl : (a.tmod b).natAbs ≤ a.natAbs := by rw [hn]; exact Nat.mod_le _ _
  refine ⟨Int.mul_tdiv_add_tmod a b, fun h0 => ?_, fun h0 => ?_, ?_, ?_⟩
  · have := Int.tmod_nonneg b h0
    omega
  · have : 0 ≤ (-a).tmod b := Int.tmod_nonneg b (by omega)
    rw [Int.neg_tmod] at this
    omega
  · rw [hn]
    exact Nat.mod_lt _ (by omega)
  · rw [Int.natAbs_tdiv]
    exact Nat.div_le_self _ _
theorem sq_lt {r b : Int} (h : r.natAbs < b.natAbs) : r * r < b * b := by
  rw [← Int.natAbs_mul_self' r, ← Int.natAbs_mul_self' b]
  exact_mod_cast Nat.mul_self_lt_mul_self h
theorem parts32 (a b : Int) (ha : -2147483648 ≤ a ∧ a ≤ 2147483647) (hb : -2147483648 ≤ b ∧ b ≤ 2147483647) (h : b ≠ 0) :
    wrap32 (a.tmod b) = a.tmod b ∧ wrap32 (wrap32 (wrap32 (wrap64 (a.tdiv b)) * b) + a.tmod b) = a ∧ (a.tmod b) * (a.tmod b) < b * b ∧ (a.tmod b ≠ 0 → (a.tmod b < 0 ↔ a < 0)) := by
  obtain ⟨he, hp, hm, hlt, hd⟩ := tparts a b h
  have hr : -2147483648 ≤ a.tmod b ∧ a.tmod b ≤ 2147483647 := by omega
  refine ⟨by unfold wrap32; omega, ?_, sq_lt hlt, by omega⟩
  by_cases h1 : b = -1
  · subst h1
    have e : a.tdiv (-1) = -a := by simp
    rw [e] at he ⊢
    unfold wrap32 wrap64
    omega
  · have hq : -2147483648 ≤ a.tdiv b ∧ a.tdiv b ≤ 2147483647 := by
      rcases Int.lt_or_le (a.tdiv b) 2147483648 with hq | hq
      · omega
      · have hmin : a = -2147483648 := by omega
        have : a.tdiv b = 2147483648 := by omega
        rw [this] at he
        exfalso
        omega
    have e1 : wrap64 (a.tdiv b) = a.tdiv b := by unfold wrap64; omega
    have e2 : wrap32 (a.tdiv b) = a.tdiv b := by unfold wrap32; omega
    rw [e1, e2]
    have hm2 : a.tdiv b * b = a - a.tmod b := by rw [Int.mul_comm]; omega
    rw [hm2]
    unfold wrap32
    omega
theorem parts64 (a b : Int) (ha : -9223372036854775808 ≤ a ∧ a ≤ 9223372036854775807) (hb : -9223372036854775808 ≤ b ∧ b ≤ 9223372036854775807) (h : b ≠ 0) :
    wrap64 (wrap64 (wrap64 (a.tdiv b) * b) + a.tmod b) = a ∧ (a.tmod b ≠ 0 → (a.tmod b < 0 ↔ a < 0)) := by
  obtain ⟨he, hp, hm, hlt, hd⟩ := tparts a b h
  refine ⟨?_, by omega⟩
  by_cases h1 : b = -1
  · subst h1
    have e : a.tdiv (-1) = -a := by simp
    rw [e] at he ⊢
    unfold wrap64
    omega
  · have hq : -9223372036854775808 ≤ a.tdiv b ∧ a.tdiv b ≤ 9223372036854775807 := by
      rcases Int.lt_or_le (a.tdiv b) 9223372036854775808 with hq | hq
      · omega
      · have hmin : a = -9223372036854775808 := by omega
        have : a.tdiv b = 9223372036854775808 := by omega
        rw [this] at he
        exfalso
        omega
    have e1 : wrap64 (a.tdiv b) = a.tdiv b := by unfold wrap64; omega
    rw [e1]
    have hm2 : a.tdiv b * b = a - a.tmod b := by rw [Int.mul_comm]; omega
    rw [hm2]
    unfold wrap64
    omega
end Go.Proofs.Ytmgglicfhddmpaa
