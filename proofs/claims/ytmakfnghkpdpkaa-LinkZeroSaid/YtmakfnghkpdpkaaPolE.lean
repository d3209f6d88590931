/- The document's own bytes of a pool. Texts of at most 2^46 bytes. -/
import Derived.Test.YtmakfnghkpdpkaaPolC
namespace Go.Proofs.Ytmakfnghkpdpkaa
open Go.RowKit Go.Shelf
set_option linter.unusedVariables false
set_option linter.unusedSimpArgs false

def be2 (n : Int) : List Int := [n / 256 % 256, n % 256]
/-- A constant's bytes. -/
def ConstB (c : ConstV) (bs : List Int) : Prop :=
  (c.tag = 1 ∧ ∃ ys, Enc (nums c.text) ys 0 ∧ ys.length ≤ 256 ∧ bs = 1 :: be2 ys.length ++ ys) ∨
  (c.tag = 3 ∧ bs = [3, c.n / 16777216 % 256, c.n / 65536 % 256, c.n / 256 % 256, c.n % 256]) ∨
  (c.tag = 5 ∧ bs = [5, c.n / 72057594037927936 % 256, c.n / 281474976710656 % 256, c.n / 1099511627776 % 256, c.n / 4294967296 % 256, c.n / 16777216 % 256, c.n / 65536 % 256, c.n / 256 % 256, c.n % 256]) ∨
  (c.tag = 7 ∧ bs = 7 :: be2 c.a) ∨
  ((c.tag = 9 ∨ c.tag = 10 ∨ c.tag = 12) ∧ bs = c.tag :: be2 c.a ++ be2 c.b)
inductive ConstsB : List ConstV → List Int → Prop
  | nil : ConstsB [] []
  | snoc {cs : List ConstV} {bs : List Int} {c : ConstV} {b : List Int} : ConstsB cs bs → ConstB c b → ConstsB (cs ++ [c]) (bs ++ b)
theorem ConstB.len {c : ConstV} {b : List Int} (h : ConstB c b) : b.length ≤ 259 := by
  rcases h with ⟨_, ys, _, h, rfl⟩ | ⟨_, rfl⟩ | ⟨_, rfl⟩ | ⟨_, rfl⟩ | ⟨_, rfl⟩ <;> simp [be2] <;> omega
theorem ConstsB.len {cs : List ConstV} {b : List Int} (h : ConstsB cs b) : b.length ≤ 259 * cs.length := by
  induction h with
  | nil => simp
  | snoc _ h2 ih => have := h2.len; simp only [List.length_append, List.length_cons, List.length_nil]; omega
theorem be2_byte (n : Int) : Bytish (be2 n) := by
  intro z hz
  unfold be2 at hz
  unfold IsByte
  simp only [List.mem_cons, List.mem_nil_iff, or_false] at hz
  omega

theorem errs_drop {cs all : List ConstV} (h : errs all cs = 0) : ∀ c ∈ cs, oneZ all c = 0 := by
  induction cs with
  | nil => intro c hc; cases hc
  | cons x r ih =>
    unfold errs at h
    by_cases hx : oneZ all x = 0
    · rw [if_neg (by simp [hx])] at h
      intro c hc
      rcases List.mem_cons.1 hc with rfl | hc
      · exact hx
      · exact ih h c hc
    · rw [if_pos hx] at h
      exact absurd h hx
theorem checkZ_zero {cs : List ConstV} (h : checkZ cs = 0) : cs.length ≤ 1024 ∧ 0 < cs.length ∧ cs.getD 0 default = zeroC ∧ ∀ i, 1 ≤ i → i < cs.length → oneZ cs (cs.getD i default) = 0 := by
  unfold checkZ at h
  by_cases h1 : 1024 < cs.length
  · rw [if_pos h1] at h; simp at h
  rw [if_neg h1] at h
  by_cases h2 : cs = [] ∨ cs.getD 0 default ≠ zeroC
  · rw [if_pos h2] at h; simp at h
  rw [if_neg h2] at h
  refine ⟨by omega, List.length_pos_iff.2 (fun e => h2 (.inl e)), Classical.byContradiction (fun e => h2 (.inr e)), fun i hi hl => errs_drop h _ ?_⟩
  rw [List.mem_drop_iff_getElem]
  refine ⟨i - 1, by omega, ?_⟩
  simp [List.getD, hl, show 1 + (i - 1) = i by omega]

theorem isZ_small {cs : List ConstV} {i tag : Int} (h : isZ cs i tag = true) (hl : cs.length ≤ 1024) : 0 ≤ i ∧ i ≤ 1023 := by
  unfold isZ at h
  simp only [Bool.and_eq_true, decide_eq_true_eq] at h
  omega

/-- What a constant that may be looks like. -/
theorem oneZ_zero {cs : List ConstV} {c : ConstV} (hl : cs.length ≤ 1024) (h : oneZ cs c = 0) :
    (c.tag = 1 ∧ ¬ TextBad c.text) ∨ (c.tag = 3 ∧ -2147483648 ≤ c.n ∧ c.n ≤ 2147483647) ∨ c.tag = 5 ∨ (c.tag = 7 ∧ 0 ≤ c.a ∧ c.a ≤ 1023) ∨
    ((c.tag = 9 ∨ c.tag = 10 ∨ c.tag = 12) ∧ (0 ≤ c.a ∧ c.a ≤ 1023) ∧ 0 ≤ c.b ∧ c.b ≤ 1023) := by
  unfold oneZ at h
  by_cases hb : bareZ c = false
  · rw [if_pos hb] at h; simp at h
  rw [if_neg hb] at h
  by_cases h1 : c.tag = 1
  · rw [if_pos h1] at h
    by_cases ht : TextBad c.text
    · rw [if_pos ht] at h; simp at h
    · exact .inl ⟨h1, ht⟩
  rw [if_neg h1] at h
  by_cases h3 : c.tag = 3
  · rw [if_pos h3] at h
    by_cases ht : -2147483648 ≤ c.n ∧ c.n ≤ 2147483647
    · exact .inr (.inl ⟨h3, ht⟩)
    · rw [if_neg ht] at h; simp at h
  rw [if_neg h3] at h
  by_cases h5 : c.tag = 5
  · exact .inr (.inr (.inl h5))
  rw [if_neg h5] at h
  by_cases h7 : c.tag = 7
  · rw [if_pos h7] at h
    by_cases ht : isZ cs c.a 1 = true
    · exact .inr (.inr (.inr (.inl ⟨h7, isZ_small ht hl⟩)))
    · rw [if_neg ht] at h; simp at h
  rw [if_neg h7] at h
  by_cases h12 : c.tag = 12
  · rw [if_pos h12] at h
    by_cases ht : isZ cs c.a 1 = true ∧ isZ cs c.b 1 = true
    · exact .inr (.inr (.inr (.inr ⟨.inr (.inr h12), isZ_small ht.1 hl, isZ_small ht.2 hl⟩)))
    · rw [if_neg ht] at h; simp at h
  rw [if_neg h12] at h
  by_cases h9 : c.tag = 9 ∨ c.tag = 10
  · rw [if_pos h9] at h
    by_cases ht : isZ cs c.a 7 = true ∧ isZ cs c.b 12 = true
    · exact .inr (.inr (.inr (.inr ⟨h9.elim .inl (fun e => .inr (.inl e)), isZ_small ht.1 hl, isZ_small ht.2 hl⟩)))
    · rw [if_neg ht] at h; simp at h
  rw [if_neg h9] at h
  simp at h
end Go.Proofs.Ytmakfnghkpdpkaa
