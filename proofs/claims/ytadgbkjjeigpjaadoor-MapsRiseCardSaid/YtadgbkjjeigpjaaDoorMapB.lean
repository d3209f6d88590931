/- What was read of maps is right: places rise, the lists are short, each type is one of those. Plain words. -/
import Derived.Test.YtadgbkjjeigpjaaDoorGMapG
namespace Go.Proofs.YtadgbkjjeigpjaaDoor
open Go.RowKit
set_option linter.unusedVariables false
set_option linter.unusedSimpArgs false

/-- A type that a map may hold, of a pool's classes. -/
def OkT (cs : List ConstV) (t : TypeV) : Prop := (∃ q : Int, (q = 0 ∨ q = 1 ∨ q = 2 ∨ q = 3 ∨ q = 7) ∧ t = ⟨q, ⟨#[]⟩, 0, 0, 0⟩) ∨ (∃ a : Int, (0 ≤ a ∧ a ≤ 4096) ∧ t = ⟨6, ⟨#[]⟩, 0, 0, a⟩) ∨ ∃ i : Int, (0 ≤ i ∧ i < 65536) ∧ typeN (classZ cs i).1 = some t
structure RightM (cs : List ConstV) (m : MapV) : Prop where
  low : 0 ≤ m.at_
  high : m.at_ ≤ 4096
  ll : m.locals.length ≤ 64
  sl : m.stack.length ≤ 64
  fr : m.fresh = freshM m.locals
  lo : ∀ t ∈ m.locals, OkT cs t
  st : ∀ t ∈ m.stack, OkT cs t
def RiseM (cs : List ConstV) : Int → List MapV → Prop
  | _, [] => True
  | f, m :: r => f ≤ m.at_ ∧ RightM cs m ∧ RiseM cs (m.at_ + 1) r
section
variable {cs : List ConstV} {zs : List Int} (hz : Bytish zs)
include hz
theorem place_right {f a : Int} {k k' : Nat} (h : placeM f zs k = .ok (a, k')) : f ≤ a ∧ a ≤ 4096 := by
  obtain ⟨n, k1, hn, hy⟩ := bindP_inv h
  obtain ⟨u, k2, hm, hy2⟩ := bindP_inv hy
  have hv := numP_val zs _ hz hn
  unfold mustM at hm
  split at hm
  · rename_i hd
    have hd := of_decide_eq_true hd
    unfold retP at hy2
    injection hy2 with hy2
    injection hy2 with hy2
    omega
  · cases hm
theorem type_right {t : TypeV} {k k' : Nat} (h : typeM cs zs k = .ok (t, k')) : OkT cs t := by
  obtain ⟨n, k1, hn, hy⟩ := bindP_inv h
  have ret : ∀ {u : TypeV}, (retP u : Pr TypeV) zs k1 = .ok (t, k') → u = t := fun h => by
    unfold retP at h
    injection h with h
    injection h with h
  by_cases h0 : n = 0
  · rw [if_pos h0] at hy; exact .inl ⟨0, by omega, (ret hy).symm⟩
  by_cases h1 : n = 1
  · rw [if_neg h0, if_pos h1] at hy; exact .inl ⟨1, by omega, (ret hy).symm⟩
  by_cases h4 : n = 4
  · rw [if_neg h0, if_neg h1, if_pos h4] at hy; exact .inl ⟨2, by omega, (ret hy).symm⟩
  by_cases h5 : n = 5
  · rw [if_neg h0, if_neg h1, if_neg h4, if_pos h5] at hy; exact .inl ⟨3, by omega, (ret hy).symm⟩
  by_cases h6 : n = 6
  · rw [if_neg h0, if_neg h1, if_neg h4, if_neg h5, if_pos h6] at hy; exact .inl ⟨7, by omega, (ret hy).symm⟩
  by_cases h7 : n = 7
  · rw [if_neg h0, if_neg h1, if_neg h4, if_neg h5, if_neg h6, if_pos h7] at hy
    obtain ⟨i, k2, hi, hc⟩ := bindP_inv hy
    have hv := numP_val zs _ hz hi
    simp only [Int.reducePow] at hv
    refine .inr (.inr ⟨i, hv, ?_⟩)
    cases ht : typeN (classZ cs i).1 with
    | none => rw [ht] at hc; cases hc
    | some u =>
      rw [ht] at hc
      simp only at hc
      injection hc with hc
      injection hc with hc
      rw [hc]
  by_cases h8 : n = 8
  · rw [if_neg h0, if_neg h1, if_neg h4, if_neg h5, if_neg h6, if_neg h7, if_pos h8] at hy
    obtain ⟨a, k2, ha, hc⟩ := bindP_inv hy
    have hp := place_right hz ha
    unfold retP at hc
    injection hc with hc
    injection hc with hc
    exact .inr (.inl ⟨a, hp, hc.symm⟩)
  · rw [if_neg h0, if_neg h1, if_neg h4, if_neg h5, if_neg h6, if_neg h7, if_neg h8] at hy
    cases hy
theorem list_right : ∀ {n k k' : Nat} {l : List TypeV}, listP (typeM cs) n zs k = .ok (l, k') → ∀ t ∈ l, OkT cs t
  | 0, k, k', l, h => by
    unfold listP retP at h
    injection h with h
    injection h with h
    subst h
    intro t ht; cases ht
  | n + 1, k, k', l, h => by
    obtain ⟨a, k1, h1, h2⟩ := bindP_inv h
    obtain ⟨r, k2, h3, h4⟩ := bindP_inv h2
    unfold retP at h4
    injection h4 with h4
    injection h4 with h4
    subst h4
    intro t ht
    rcases List.mem_cons.1 ht with rfl | ht
    · exact type_right hz h1
    · exact list_right h3 t ht
theorem types_right {l : List TypeV} {k k' : Nat} (h : typesM cs zs k = .ok (l, k')) : ∀ t ∈ l, OkT cs t := by
  obtain ⟨n, k1, h1, h2⟩ := bindP_inv h
  obtain ⟨u, k2, h3, h4⟩ := bindP_inv h2
  exact list_right hz h4
theorem map_right {f : Int} {m : MapV} {k k' : Nat} (hf : 0 ≤ f) (h : mapM cs f zs k = .ok (m, k')) : f ≤ m.at_ ∧ RightM cs m := by
  obtain ⟨x, k1, h1, h2⟩ := bindP_inv h
  obtain ⟨u, k2, h3, h4⟩ := bindP_inv h2
  obtain ⟨a, k3, h5, h6⟩ := bindP_inv h4
  obtain ⟨lo, k4, h7, h8⟩ := bindP_inv h6
  obtain ⟨st, k5, h9, h10⟩ := bindP_inv h8
  unfold retP at h10
  injection h10 with h10
  injection h10 with h10
  subst h10
  have hp := place_right hz h5
  exact ⟨hp.1, by simp only; omega, hp.2, types_len hz h7, types_len hz h9, rfl, types_right hz h7, types_right hz h9⟩
theorem run_right : ∀ {n : Nat} {f : Int} {k k' : Nat} {l : List MapV}, 0 ≤ f → runM cs n f zs k = .ok (l, k') → RiseM cs f l
  | 0, f, k, k', l, hf, h => by
    unfold runM retP at h
    injection h with h
    injection h with h
    subst h
    trivial
  | n + 1, f, k, k', l, hf, h => by
    obtain ⟨m, k1, h1, h2⟩ := bindP_inv h
    obtain ⟨r, k2, h3, h4⟩ := bindP_inv h2
    unfold retP at h4
    injection h4 with h4
    injection h4 with h4
    subst h4
    have hm := map_right hz hf h1
    exact ⟨hm.1, hm.2, run_right (by omega) h3⟩
theorem dec_right {l : List MapV} (h : decM cs zs = .ok l) : RiseM cs 0 l := by
  unfold decM at h
  split at h
  · injection h with h; subst h; trivial
  · split at h
    · rename_i l' k' ha
      injection h with h
      subst h
      obtain ⟨n, k1, h1, h2⟩ := bindP_inv ha
      obtain ⟨r, k2, h3, h4⟩ := bindP_inv h2
      split at h4
      · injection h4 with h4
        injection h4 with h4
        subst h4
        exact run_right hz (Int.le_refl _) h3
      · cases h4
    · cases h
end
theorem rise_mem {cs : List ConstV} : ∀ {f : Int} {l : List MapV}, RiseM cs f l → ∀ m ∈ l, f ≤ m.at_ ∧ RightM cs m
  | f, [], _, m, hm => by cases hm
  | f, a :: r, h, m, hm => by
    rcases List.mem_cons.1 hm with rfl | hm
    · exact ⟨h.1, h.2.1⟩
    · have := rise_mem h.2.2 m hm
      exact ⟨by have := h.1; omega, this.2⟩
theorem dec_sizes {cs : List ConstV} {zs : List Int} {l : List MapV} (hz : Bytish zs) (h : decM cs zs = .ok l) : ∀ m ∈ l, m.locals.length ≤ 9223372036854775806 ∧ m.stack.length ≤ 9223372036854775806 := fun m hm => by
  have := (rise_mem (dec_right hz h) m hm).2
  exact ⟨Nat.le_trans this.ll (by decide), Nat.le_trans this.sl (by decide)⟩
end Go.Proofs.YtadgbkjjeigpjaaDoor
