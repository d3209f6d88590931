/- The writers' calls, each for every argument. No condition beyond a writer that was made. -/
import Derived.Test.YtngoajhnnlnphaaWireD
namespace Go.Proofs.Ytngoajhnnlnphaa
open Go.RowKit

theorem fitU_width {n x : Int} (h : fitU n x = true) : 1 ≤ n ∧ n ≤ 8 := by simp [fitU] at h; omega
theorem fitI_width {n x : Int} (h : fitI n x = true) : 1 ≤ n ∧ n ≤ 8 := by simp [fitI] at h; omega
theorem wrErr_zero {r : Bool} {n room : Int} (h : wrErr r n room = 0) : r = true ∧ n ≤ room := by
  unfold wrErr at h
  cases r
  · simp at h
  · simp only [Bool.true_eq_false, if_false] at h
    split at h
    · simp at h
    · exact ⟨rfl, by omega⟩
/-- The bytes that a call adds. -/
def addU (r : Bool) (n x room : Int) : List Int := if wrErr r n room = 0 then digs n.toNat x else []

theorem fitU_iff (k : Nat) (h1 : 1 ≤ k) (h8 : k ≤ 8) (x : Int) (h0 : 0 ≤ x) : fitU k x = decide (x < 2 ^ (8 * k)) := by
  have hk : (k : Int).toNat = k := by omega
  have h1' : (1 : Int) ≤ k := by omega
  have h8' : (k : Int) ≤ 8 := by omega
  unfold fitU
  rw [hk, cutUv_eq k h1 h8, decide_eq_true h1', decide_eq_true h8', Bool.true_and, Bool.true_and]
  rcases width_cases h1 h8 with rfl | rfl | rfl | rfl | rfl | rfl | rfl | rfl <;> simp only [Nat.reduceMul, Int.reducePow, Bool.beq_eq_decide_eq] <;> congr 1 <;> apply propext <;> constructor <;> intro h <;> omega
theorem fitI_iff (k : Nat) (h1 : 1 ≤ k) (h8 : k ≤ 8) (x : Int) : fitI k x = decide (-(2 ^ (8 * k - 1)) ≤ x ∧ x < 2 ^ (8 * k - 1)) := by
  have hk : (k : Int).toNat = k := by omega
  have h1' : (1 : Int) ≤ k := by omega
  have h8' : (k : Int) ≤ 8 := by omega
  unfold fitI
  rw [hk, cutIv_eq k h1 h8, decide_eq_true h1', decide_eq_true h8', Bool.true_and, Bool.true_and]
  rcases width_cases h1 h8 with rfl | rfl | rfl | rfl | rfl | rfl | rfl | rfl <;> simp only [Nat.reduceMul, Nat.reduceSub, Int.reducePow, Bool.beq_eq_decide_eq] <;> congr 1 <;> apply propext <;> constructor <;> intro h <;> omega

def addB (zs : List Int) (err : Int) : List Int := if err = 0 then zs else []

end Go.Proofs.Ytngoajhnnlnphaa
