/- Below in a tree that is rooted: it goes on. Plain words. -/
import Derived.Test.YtcmceabkadgfiaaKndF
namespace Go.Proofs.Ytcmceabkadgfiaa
open Go.RowKit
set_option linter.unusedVariables false
set_option linter.unusedSimpArgs false

theorem belowN_mono {l : List PairV} {b : ByteArray} : ∀ {n m : Nat} {a : ByteArray}, n ≤ m → belowN l b n a = true → belowN l b m a = true
  | 0, m, a, _, h => by
    have h' : a = b := by simpa [belowN] using h
    subst h'
    exact belowN_same l a m
  | n + 1, 0, a, hm, _ => by omega
  | n + 1, m + 1, a, hm, h => by
    by_cases hab : a = b
    · subst hab
      exact belowN_same l a _
    · rcases pairOf_cases l a with hp | ⟨j, hj, hp⟩
      · rw [belowN_none hab hp] at h
        cases h
      · rw [belowN_step hab hp] at h ⊢
        exact belowN_mono (by omega) h
theorem belowN_add {l : List PairV} {b c : ByteArray} : ∀ {n m : Nat} {a : ByteArray}, belowN l b n a = true → belowN l c m b = true → belowN l c (n + m) a = true
  | 0, m, a, h, hb => by
    have h' : a = b := by simpa [belowN] using h
    subst h'
    rw [Nat.zero_add]
    exact hb
  | n + 1, m, a, h, hb => by
    by_cases hab : a = b
    · subst hab
      exact belowN_mono (by omega) hb
    · rcases pairOf_cases l a with hp | ⟨j, hj, hp⟩
      · rw [belowN_none hab hp] at h
        cases h
      · rw [belowN_step hab hp] at h
        by_cases hac : a = c
        · subst hac
          exact belowN_same l a _
        · rw [show n + 1 + m = (n + m) + 1 by omega, belowN_step hac hp]
          exact belowN_add h hb
/-- Each name once and not empty, its super ahead of it, or empty. -/
def RootedL (l : List PairV) : Prop := ∀ i, i < l.length → (l.getD i default).name ≠ ⟨#[]⟩ ∧ ((l.getD i default).super = ⟨#[]⟩ ∨ ∃ k, k < i ∧ (l.getD k default).name = (l.getD i default).super) ∧ ∀ k, k < l.length → k ≠ i → (l.getD k default).name ≠ (l.getD i default).name
theorem pairFrom_le {x : ByteArray} : ∀ (l : List PairV) (i k : Nat), k < l.length → (l.getD k default).name = x → ∃ j : Nat, j ≤ k ∧ pairFrom x i l = ((i + j : Nat) : Int)
  | [], i, k, hk, _ => by cases hk
  | p :: r, i, k, hk, h => by
    by_cases hp : p.name = x
    · exact ⟨0, by omega, by rw [pairFrom, if_pos hp]; rfl⟩
    · cases k with
      | zero => exact absurd (by simpa using h) hp
      | succ k =>
        obtain ⟨j, h1, h2⟩ := pairFrom_le r (i + 1) k (by simpa using hk) (by simpa using h)
        exact ⟨j + 1, by omega, by rw [pairFrom, if_neg hp, h2]; congr 1; omega⟩
theorem pairOf_le {x : ByteArray} {l : List PairV} {k : Nat} (hk : k < l.length) (h : (l.getD k default).name = x) : ∃ j : Nat, j ≤ k ∧ pairOf l x = (j : Int) := by
  obtain ⟨j, h1, h2⟩ := pairFrom_le l 0 k hk h
  exact ⟨j, h1, by rw [pairOf, h2, Nat.zero_add]⟩
theorem pairFrom_name {x : ByteArray} : ∀ (l : List PairV) (i j : Nat), pairFrom x i l = ((i + j : Nat) : Int) → j < l.length → (l.getD j default).name = x
  | [], i, j, h, hj => by cases hj
  | p :: r, i, j, h, hj => by
    by_cases hp : p.name = x
    · rw [pairFrom, if_pos hp] at h
      obtain rfl : j = 0 := by omega
      simpa using hp
    · rw [pairFrom, if_neg hp] at h
      rcases pairFrom_range (x := x) r (i + 1) with h1 | ⟨q, hq, h1⟩
      · omega
      · obtain rfl : j = q + 1 := by omega
        have := pairFrom_name r (i + 1) q h1 hq
        simpa using this
theorem pairOf_name {x : ByteArray} {l : List PairV} {j : Nat} (h : pairOf l x = (j : Int)) (hj : j < l.length) : (l.getD j default).name = x := pairFrom_name l 0 j (by rw [Nat.zero_add]; exact h) hj
/-- In a rooted tree as many steps do as the place says. -/
theorem RootedL.steps {l : List PairV} (hr : RootedL l) {b : ByteArray} : ∀ (j : Nat) {n : Nat} {a : ByteArray}, j < l.length → pairOf l a = (j : Int) → belowN l b n a = true → belowN l b (j + 1) a = true := by
  intro j
  induction j using Nat.strongRecOn with
  | ind j ih =>
    intro n a hj hp h
    by_cases hab : a = b
    · subst hab
      exact belowN_same l a _
    · rw [belowN_step hab hp]
      cases n with
      | zero =>
        rw [belowN_last hab] at h
        cases h
      | succ n =>
        rw [belowN_step hab hp] at h
        obtain ⟨-, h2, -⟩ := hr j hj
        generalize (l.getD j default).super = s at *
        by_cases hsb : s = b
        · subst hsb
          exact belowN_same l s _
        · rcases pairOf_cases l s with hq | ⟨q, hq, hqp⟩
          · rw [belowN_none hsb hq] at h
            cases h
          · rcases h2 with rfl | ⟨k, hk, hks⟩
            · exact absurd (pairOf_name hqp hq) (hr q hq).1
            · obtain ⟨q', hq', hqp'⟩ := pairOf_le (by omega) hks
              obtain rfl : q = q' := by omega
              exact belowN_mono (by omega) (ih q (by omega) hq hqp h)
theorem RootedL.enough {l : List PairV} (hr : RootedL l) {a b : ByteArray} {n : Nat} (h : belowN l b n a = true) : belowZ l a b = true := by
  by_cases hab : a = b
  · subst hab
    exact belowN_same l a _
  · rcases pairOf_cases l a with hp | ⟨j, hj, hp⟩
    · rw [belowN_none hab hp] at h
      cases h
    · exact belowN_mono (by omega) (hr.steps j hj hp h)
theorem RootedL.on {l : List PairV} (hr : RootedL l) {a b c : ByteArray} (h : belowZ l a b = true) (h2 : belowZ l b c = true) : belowZ l a c = true := hr.enough (belowN_add h h2)
theorem assignZ_self (l : List PairV) (a : TypeV) : assignZ l a a = true := by
  unfold assignZ
  rw [if_pos (eqT_self a)]
  split <;> rfl
theorem assignZ_zero (l : List PairV) (a b : TypeV) (h : b.k = 0) : assignZ l a b = true := by
  unfold assignZ
  rw [if_pos h]
theorem assignZ_null (l : List PairV) (a b : TypeV) (ha : a.k = 3) (hb : b.k = 4 ∨ b.k = 5) : assignZ l a b = true := by
  unfold assignZ
  rcases hb with h | h <;> simp [h, ha]
theorem assignZ_ref (l : List PairV) (a b : TypeV) (ha : a.k = 4) (hb : b.k = 4) : assignZ l a b = (eqT a b || belowZ l a.name b.name) := by
  unfold assignZ
  cases h : eqT a b <;> simp [ha, hb]
theorem assignZ_on {l : List PairV} (hr : RootedL l) {a b c : TypeV} (ha : a.k = 4) (hb : b.k = 4) (hc : c.k = 4) (h : assignZ l a b = true) (h2 : assignZ l b c = true) : assignZ l a c = true := by
  have key : ∀ {x y : TypeV}, x.k = 4 → y.k = 4 → assignZ l x y = true → belowZ l x.name y.name = true := by
    intro x y hx hy h
    rw [assignZ_ref l x y hx hy, Bool.or_eq_true] at h
    rcases h with h | h
    · have : x.name = y.name := by
        have e : x = y := by simpa [eqT] using h
        rw [e]
      rw [this]
      exact belowN_same _ _ _
    · exact h
  rw [assignZ_ref l a c ha hc, hr.on (key ha hb h) (key hb hc h2), Bool.or_true]
end Go.Proofs.Ytcmceabkadgfiaa
