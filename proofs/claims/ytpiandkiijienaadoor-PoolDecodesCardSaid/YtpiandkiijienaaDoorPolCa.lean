/- No pool reaches further than so many bytes: what stands behind does not matter. No condition. -/
import Derived.Test.YtpiandkiijienaaDoorPolH
namespace Go.Proofs.YtpiandkiijienaaDoor
open Go.RowKit
set_option linter.unusedVariables false
set_option linter.unusedSimpArgs false

theorem drop_take_take {zs : List Int} {M k n : Nat} (h : k + n ≤ M) : ((zs.take M).drop k).take n = (zs.drop k).take n := by
  rw [List.drop_take, List.take_take, Nat.min_eq_left (by omega)]
theorem uAt_take {zs : List Int} {M k n : Nat} (h : k + n ≤ M) : uAt (zs.take M) k n = uAt zs k n := by unfold uAt; rw [drop_take_take h]
theorem RdC.take {zs : List Int} {M k : Nat} {tag : Int} {c : ConstV} {k' : Nat} {e : Int} (hM : M ≤ zs.length) (hk : k + 258 ≤ M) (h : RdC (zs.take M) k tag c k' e) : RdC zs k tag c k' e := by
  have hl : (zs.take M).length = M := by rw [List.length_take, Nat.min_eq_left hM]
  unfold RdC at *
  by_cases h1 : tag = 1
  · rw [if_pos h1] at *
    unfold TextRd at h
    rw [hl, uAt_take (by omega)] at h
    rcases h with ⟨h, _⟩ | ⟨h, h2, h3⟩ | ⟨h, h2, h3, h4⟩ | ⟨h, h2, h3, ys, hd, h5, h6⟩
    · omega
    · exact .inr (.inl ⟨by omega, h2, h3⟩)
    · omega
    · rw [drop_take_take (by omega)] at hd
      exact .inr (.inr (.inr ⟨by omega, h2, by omega, ys, hd, h5, h6⟩))
  rw [if_neg h1] at *
  have num : ∀ n mk, n ≤ 8 → NumRd (zs.take M) k n mk c k' e → NumRd zs k n mk c k' e := fun n mk hn h => by
    unfold NumRd at h
    rw [hl, uAt_take (by omega)] at h
    rcases h with ⟨h, _⟩ | ⟨h, h2, h3, h4⟩
    · omega
    · exact .inr ⟨by omega, h2, h3, h4⟩
  by_cases h3 : tag = 3
  · rw [if_pos h3] at *; exact num _ _ (by decide) h
  rw [if_neg h3] at *
  by_cases h5 : tag = 5
  · rw [if_pos h5] at *; exact num _ _ (by decide) h
  rw [if_neg h5] at *
  by_cases h7 : tag = 7
  · rw [if_pos h7] at *; exact num _ _ (by decide) h
  rw [if_neg h7] at *
  by_cases h9 : tag = 9 ∨ tag = 10 ∨ tag = 12
  · rw [if_pos h9] at *
    unfold PairRd at h
    rw [hl, uAt_take (by omega), uAt_take (by omega)] at h
    rcases h with ⟨h, _⟩ | ⟨h, h2, h3, h4⟩
    · omega
    · exact .inr ⟨by omega, h2, h3, h4⟩
  rw [if_neg h9] at *
  exact h
theorem RdOne.take {zs : List Int} {M k : Nat} {c : ConstV} {k' : Nat} {e : Int} (hM : M ≤ zs.length) (hk : k + 259 ≤ M) (h : RdOne (zs.take M) k c k' e) : RdOne zs k c k' e := by
  have hl : (zs.take M).length = M := by rw [List.length_take, Nat.min_eq_left hM]
  unfold RdOne at h
  rw [hl, uAt_take (by omega)] at h
  rcases h with ⟨h, _⟩ | ⟨h, h2⟩
  · omega
  · exact .inr ⟨by omega, h2.take hM (by omega)⟩
theorem RdC.far {zs : List Int} {k : Nat} {tag : Int} {c : ConstV} {k' : Nat} (h : RdC zs k tag c k' 0) : k' ≤ k + 258 := by
  unfold RdC at h
  by_cases h1 : tag = 1
  · rw [if_pos h1] at h
    rcases h with ⟨h, h2⟩ | ⟨h, h2, h3⟩ | ⟨h, h2, h3, h4⟩ | ⟨h, h2, h3, ys, hd, h5, h6⟩
    · exact absurd h2 (by decide)
    · exact absurd h3 (by decide)
    · exact absurd h4 (by decide)
    · omega
  rw [if_neg h1] at h
  have num : ∀ n mk, n ≤ 8 → NumRd zs k n mk c k' 0 → k' ≤ k + 258 := fun n mk hn h => by
    rcases h with ⟨h, h2⟩ | ⟨h, h2, h3, h4⟩
    · exact absurd h2 (by decide)
    · omega
  by_cases h3 : tag = 3
  · rw [if_pos h3] at h; exact num _ _ (by decide) h
  rw [if_neg h3] at h
  by_cases h5 : tag = 5
  · rw [if_pos h5] at h; exact num _ _ (by decide) h
  rw [if_neg h5] at h
  by_cases h7 : tag = 7
  · rw [if_pos h7] at h; exact num _ _ (by decide) h
  rw [if_neg h7] at h
  by_cases h9 : tag = 9 ∨ tag = 10 ∨ tag = 12
  · rw [if_pos h9] at h
    rcases h with ⟨h, h2⟩ | ⟨h, h2, h3, h4⟩
    · exact absurd h2 (by decide)
    · omega
  rw [if_neg h9] at h
  exact absurd h (by decide)
theorem RdOne.far {zs : List Int} {k : Nat} {c : ConstV} {k' : Nat} (h : RdOne zs k c k' 0) : k' ≤ k + 259 := by
  rcases h with ⟨_, h2⟩ | ⟨_, h2⟩
  · exact absurd h2 (by decide)
  · have := h2.far; omega
theorem Reads.take {zs : List Int} {M : Nat} (hM : M ≤ zs.length) (hm : 264959 ≤ M) {ds : List ConstV} {k : Nat} (h : Reads (zs.take M) ds k) : ds.length ≤ 1024 → Reads zs ds k ∧ k ≤ 2 + 259 * (ds.length - 1) := by
  induction h with
  | start => intro _; exact ⟨.start, by simp⟩
  | @more cs k k' c h1 r1 ih =>
    intro hl
    simp only [List.length_append, List.length_cons, List.length_nil] at hl ⊢
    obtain ⟨h2, h3⟩ := ih (by omega)
    have h0 := h1.ne_nil
    have r2 := r1.take hM (by omega)
    have := r2.far
    exact ⟨.more h2 r2, by omega⟩
theorem ReadsTo.take {zs : List Int} {M : Nat} (hM : M ≤ zs.length) (hm : 264959 ≤ M) {N : Nat} (hN : N ≤ 1024) {r : (List ConstV × Nat) ⊕ Int} (h : ReadsTo (zs.take M) N r) : ReadsTo zs N r := by
  rcases h with ⟨ds, k, c, k', e, h1, h2, h3, h4, rfl⟩ | ⟨ds, k, h1, h2, rfl⟩
  · obtain ⟨r1, r2⟩ := h1.take hM hm (by omega)
    have h0 := h1.ne_nil
    exact .inl ⟨ds, k, c, k', e, r1, h2, h3.take hM (by omega), h4, rfl⟩
  · exact .inr ⟨ds, k, (h1.take hM hm (by omega)).1, h2, rfl⟩
/-- Decode looks no further. -/
theorem DecP.take {zs : List Int} {M : Nat} (hm : 264959 ≤ M) {cs : List ConstV} {n e : Int} (h : DecP (zs.take M) cs n e) : DecP zs cs n e := by
  by_cases hM : zs.length ≤ M
  · rwa [List.take_of_length_le hM] at h
  have hM' : M ≤ zs.length := by omega
  have hl : (zs.take M).length = M := by rw [List.length_take, Nat.min_eq_left hM']
  unfold DecP at h
  rw [hl, uAt_take (by omega)] at h
  rcases h with ⟨h1, _⟩ | ⟨h1, h2⟩ | ⟨h1, h2⟩ | ⟨h1, h2, h3, hr⟩
  · omega
  · exact .inr (.inl ⟨by omega, h2⟩)
  · exact .inr (.inr (.inl ⟨by omega, h2⟩))
  · refine .inr (.inr (.inr ⟨by omega, h2, h3, ?_⟩))
    rcases hr with ⟨e0, hr, h4⟩ | ⟨ds, k, hr, h4⟩
    · exact .inl ⟨e0, hr.take hM' hm (by omega), h4⟩
    · exact .inr ⟨ds, k, hr.take hM' hm (by omega), h4⟩
end Go.Proofs.YtpiandkiijienaaDoor
