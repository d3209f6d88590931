/- Decode of a pool as a relation over plain lists, one answer for each list; rows of constants that are owned. No condition. -/
import Derived.Test.YtodhdiccfobcfaaDoorPolG
import Derived.Test.YtodhdiccfobcfaaDoorPolC
namespace Go.Proofs.YtodhdiccfobcfaaDoor
open Go.RowKit
set_option linter.unusedVariables false
set_option linter.unusedSimpArgs false

/-- What Decode answers: the constants, how many bytes, the error. -/
def DecP (zs : List Int) (cs : List ConstV) (n e : Int) : Prop :=
  (zs.length < 2 ∧ cs = [] ∧ n = 0 ∧ e = 3) ∨ (2 ≤ zs.length ∧ 1024 < uAt zs 0 2 ∧ cs = [] ∧ n = 0 ∧ e = 2) ∨ (2 ≤ zs.length ∧ uAt zs 0 2 = 0 ∧ cs = [] ∧ n = 0 ∧ e = 40) ∨
  (2 ≤ zs.length ∧ 1 ≤ uAt zs 0 2 ∧ uAt zs 0 2 ≤ 1024 ∧
    ((∃ e0, ReadsTo zs (uAt zs 0 2).toNat (.inr e0) ∧ cs = [] ∧ n = 0 ∧ e = e0) ∨
     (∃ ds k, ReadsTo zs (uAt zs 0 2).toNat (.inl (ds, k)) ∧ ((checkZ ds ≠ 0 ∧ cs = [] ∧ n = 0 ∧ e = checkZ ds) ∨ (checkZ ds = 0 ∧ cs = ds ∧ n = (k : Int) ∧ e = 0)))))
theorem DecP.unique {zs : List Int} {cs cs' : List ConstV} {n n' e e' : Int} (h : DecP zs cs n e) (h' : DecP zs cs' n' e') : cs = cs' ∧ n = n' ∧ e = e' := by
  rcases h with ⟨h1, rfl, rfl, rfl⟩ | ⟨h1, h2, rfl, rfl, rfl⟩ | ⟨h1, h2, rfl, rfl, rfl⟩ | ⟨h1, h2, h3, hr⟩ <;> rcases h' with ⟨h1', rfl, rfl, rfl⟩ | ⟨h1', h2', rfl, rfl, rfl⟩ | ⟨h1', h2', rfl, rfl, rfl⟩ | ⟨h1', h2', h3', hr'⟩
  all_goals first
    | exact ⟨rfl, rfl, rfl⟩
    | omega
    | skip
  rcases hr with ⟨e0, hr, rfl, rfl, rfl⟩ | ⟨ds, k, hr, hc⟩ <;> rcases hr' with ⟨e0', hr', rfl, rfl, rfl⟩ | ⟨ds', k', hr', hc'⟩
  · have := hr.unique hr'
    injection this with this
    exact ⟨rfl, rfl, this⟩
  · have := hr.unique hr'; cases this
  · have := hr.unique hr'; cases this
  · have := hr.unique hr'
    injection this with this
    injection this with h1 h2
    subst h1 h2
    rcases hc with ⟨h4, rfl, rfl, rfl⟩ | ⟨h4, rfl, rfl, rfl⟩ <;> rcases hc' with ⟨h4', rfl, rfl, rfl⟩ | ⟨h4', rfl, rfl, rfl⟩
    · exact ⟨rfl, rfl, rfl⟩
    · exact absurd h4' h4
    · exact absurd h4 h4'
    · exact ⟨rfl, rfl, rfl⟩

/-- What was read fits: its numbers, its texts. -/
def Fits (c : ConstV) : Prop := ConstR c ∧ c.text.size ≤ 256
theorem noText_size : noText.size = 0 := rfl
theorem sgn_fits {n : Nat} (h : n = 4 ∨ n = 8) {u : Int} (h0 : 0 ≤ u) (h1 : u < 256 ^ n) : I64 (sgn n u) := by
  rcases h with rfl | rfl
  all_goals
    unfold I64 sgn
    simp only [Int.reducePow, Nat.reduceMul, Nat.reduceSub] at h1 ⊢
    split <;> omega
theorem uAt_fits {zs : List Int} (hz : Bytish zs) (k n : Nat) (h : k + n ≤ zs.length) : 0 ≤ uAt zs k n ∧ uAt zs k n < 256 ^ n := valB_lt n _ (by simp; omega) ((hz.drop k).take n)
theorem dec_small {zs ys : List Int} {e : Int} (h : Dec zs ys e) (hl : zs.length ≤ 256) : (strOfNums ys).size ≤ 256 := by
  rw [strOfNums_size]
  rcases h with ⟨cs, hm, rfl, _⟩ | ⟨_, rfl, _⟩
  · have := (M8s_len hm.1).1
    rw [hm.2] at hl
    omega
  · simp
theorem I64.small {z : Int} (h0 : -65536 ≤ z) (h1 : z ≤ 65536) : I64 z := ⟨by omega, by omega⟩
theorem fits_of {t n a b : Int} {x : ByteArray} (ht : I64 t) (hn : I64 n) (ha : I64 a) (hb : I64 b) (hx : x.size ≤ 256) : Fits ⟨t, x, n, a, b⟩ := ⟨⟨ht, hn, ha, hb, Nat.le_trans hx (by decide)⟩, hx⟩
theorem zeroK_fits : Fits zeroK := fits_of (I64.small (by decide) (by decide)) (I64.small (by decide) (by decide)) (I64.small (by decide) (by decide)) (I64.small (by decide) (by decide)) (by decide)
theorem RdC.fits {zs : List Int} (hz : Bytish zs) {k k' : Nat} {tag : Int} {c : ConstV} (h : RdC zs k tag c k' 0) : Fits c ∧ k' ≤ zs.length := by
  unfold RdC at h
  by_cases h1 : tag = 1
  · rw [if_pos h1] at h
    rcases h with ⟨_, h⟩ | ⟨_, _, h⟩ | ⟨_, _, _, h⟩ | ⟨ha, hb, hc, ys, hd, rfl, rfl⟩
    · cases h
    · cases h
    · cases h
    · have := dec_small hd (by simp; omega)
      exact ⟨fits_of (I64.small (by decide) (by decide)) (I64.small (by decide) (by decide)) (I64.small (by decide) (by decide)) (I64.small (by decide) (by decide)) this, hc⟩
  rw [if_neg h1] at h
  by_cases h3 : tag = 3
  · rw [if_pos h3] at h
    rcases h with ⟨_, h⟩ | ⟨ha, _, rfl, rfl⟩
    · cases h
    · have := uAt_fits hz k 4 ha
      exact ⟨fits_of (I64.small (by decide) (by decide)) (sgn_fits (.inl rfl) this.1 this.2) (I64.small (by decide) (by decide)) (I64.small (by decide) (by decide)) (by decide), ha⟩
  rw [if_neg h3] at h
  by_cases h5 : tag = 5
  · rw [if_pos h5] at h
    rcases h with ⟨_, h⟩ | ⟨ha, _, rfl, rfl⟩
    · cases h
    · have := uAt_fits hz k 8 ha
      exact ⟨fits_of (I64.small (by decide) (by decide)) (sgn_fits (.inr rfl) this.1 this.2) (I64.small (by decide) (by decide)) (I64.small (by decide) (by decide)) (by decide), ha⟩
  rw [if_neg h5] at h
  by_cases h7 : tag = 7
  · rw [if_pos h7] at h
    rcases h with ⟨_, h⟩ | ⟨ha, _, rfl, rfl⟩
    · cases h
    · have := uAt_fits hz k 2 ha
      simp only [Int.reducePow] at this
      exact ⟨fits_of (I64.small (by decide) (by decide)) (I64.small (by decide) (by decide)) (I64.small (by omega) (by omega)) (I64.small (by decide) (by decide)) (by decide), ha⟩
  rw [if_neg h7] at h
  by_cases h9 : tag = 9 ∨ tag = 10 ∨ tag = 12
  · rw [if_pos h9] at h
    rcases h with ⟨_, h⟩ | ⟨ha, _, rfl, rfl⟩
    · cases h
    · have h1 := uAt_fits hz k 2 (by omega)
      have h2 := uAt_fits hz (k + 2) 2 (by omega)
      simp only [Int.reducePow] at h1 h2
      exact ⟨fits_of (I64.small (by omega) (by omega)) (I64.small (by decide) (by decide)) (I64.small (by omega) (by omega)) (I64.small (by omega) (by omega)) (by decide), ha⟩
  rw [if_neg h9] at h
  cases h
theorem Reads.fits {zs : List Int} (hz : Bytish zs) (h2 : 2 ≤ zs.length) {cs : List ConstV} {k : Nat} (h : Reads zs cs k) : (∀ c ∈ cs, Fits c) ∧ k ≤ zs.length := by
  induction h with
  | start => exact ⟨fun c hc => by simp at hc; subst hc; exact zeroK_fits, h2⟩
  | more _ r ih =>
    rcases r with ⟨_, h⟩ | ⟨_, hr⟩
    · cases h
    · have := hr.fits hz
      refine ⟨fun c hc => ?_, this.2⟩
      rcases List.mem_append.1 hc with hc | hc
      · exact ih.1 c hc
      · simp at hc; subst hc; exact this.1

/-- The cells of a constant; an owned row of constants. -/
def cellsC (c : ConstV) : List Value := [.int .i64 c.tag, .string c.text, .int .i64 c.n, .int .i64 c.a, .int .i64 c.b]
def RowC (w : World) (B : Nat) (v : Value) (cs : List ConstV) : Prop := w.ownsRow B 47 5 v cs.length (cs.flatMap cellsC)
theorem cellsC_at : ∀ {cs : List ConstV} {i d : Nat}, i < cs.length → d < 5 → (cs.flatMap cellsC)[i * 5 + d]? = (cellsC (cs.getD i default))[d]?
  | c :: r, 0, d, _, hd => by
    rw [List.flatMap_cons, List.getElem?_append_left (by simp [cellsC]; omega)]
    simp
  | c :: r, i + 1, d, hi, hd => by
    rw [List.flatMap_cons, List.getElem?_append_right (by simp [cellsC]; omega)]
    have : (i + 1) * 5 + d - (cellsC c).length = i * 5 + d := by simp [cellsC]; omega
    rw [this, cellsC_at (by simpa using hi) hd]
    simp
theorem RowC.pool {w : World} {B : Nat} {v : Value} {cs : List ConstV} (h : RowC w B v cs) (hr : ∀ c ∈ cs, ConstR c) : Pool w v cs := by
  rcases h.2 with ⟨rfl, hn⟩ | ⟨g, cap, cur, rfl, hb, hg, hnc, hcm, hcs, htake⟩
  · have : cs = [] := List.eq_nil_of_length_eq_zero hn
    subst this
    exact ⟨none, 0, rfl, Nat.le_refl _, by omega, fun _ => rfl, hr, fun x hx _ => by cases hx⟩
  · refine ⟨_, cap, rfl, hnc, by unfold maxLen at hcm; omega, (fun e => by cases e), hr, fun x hx _ => ?_⟩
    cases hx
    refine ⟨g, 0, rfl, fun i hi => ?_⟩
    have hc : ∀ d, d < 5 → w.cell? ⟨g, 0 + i * 5 + d, none⟩ = (cellsC (cs.getD i default))[d]? := fun d hd => by
      rw [Nat.zero_add, ← cellsC_at hi hd]
      exact (show w.ownsRow B _ 5 _ _ _ from h).cellAt (g := g) (cap := cap) (i * 5 + d) (by omega)
    exact ⟨hc 0 (by decide), hc 1 (by decide), hc 2 (by decide), hc 3 (by decide), hc 4 (by decide)⟩
theorem RowC.only {S : Nat → Prop} {w w' : World} {B : Nat} {v : Value} {cs : List ConstV} (h : RowC w B v cs) (ho : Only S w w') (hs : ∀ k, v.ownBlock = some k → ¬ S k) : RowC w' B v cs := ho.owns h hs
theorem RowC.ge {w : World} {B : Nat} {v : Value} {cs : List ConstV} (h : RowC w B v cs) : ∀ k, v.ownBlock = some k → B ≤ k ∧ k < w.heap.size := fun k hk => World.ownsRow.lt h k hk
end Go.Proofs.YtodhdiccfobcfaaDoor
