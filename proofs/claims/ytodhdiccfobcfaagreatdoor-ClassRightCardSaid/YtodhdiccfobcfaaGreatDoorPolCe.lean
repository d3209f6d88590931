/- Lists of constants copied by append; a pool's bytes are one alone. No condition but the form's own reach. -/
import Derived.Test.YtodhdiccfobcfaaGreatDoorGPolR
import Derived.Test.YtodhdiccfobcfaaGreatDoorPolE
namespace Go.Proofs.YtodhdiccfobcfaaGreatDoor
open Go.RowKit
set_option linter.unusedVariables false
set_option linter.unusedSimpArgs false

theorem ConstB.unique {c : ConstV} {b b' : List Int} (h : ConstB c b) (h' : ConstB c b') : b = b' := by
  rcases h with ⟨ht, ys, he, _, rfl⟩ | ⟨ht, rfl⟩ | ⟨ht, rfl⟩ | ⟨ht, rfl⟩ | ⟨ht, rfl⟩ <;> rcases h' with ⟨ht', ys', he', _, rfl⟩ | ⟨ht', rfl⟩ | ⟨ht', rfl⟩ | ⟨ht', rfl⟩ | ⟨ht', rfl⟩
  all_goals first
    | rfl
    | (obtain ⟨rfl, _⟩ := Enc.unique he he'; rfl)
    | (exfalso; omega)
theorem ConstsB.unique : ∀ {n : Nat} {cs : List ConstV} {b b' : List Int}, cs.length = n → ConstsB cs b → ConstsB cs b' → b = b'
  | 0, cs, b, b', hn, h, h' => by
    have : cs = [] := List.eq_nil_of_length_eq_zero hn
    subst this
    have e : ∀ {ds : List ConstV} {d : List Int}, ConstsB ds d → ds = [] → d = [] := fun hd he => by
      cases hd with
      | nil => rfl
      | snoc _ _ => simp at he
    rw [e h rfl, e h' rfl]
  | n + 1, cs, b, b', hn, h, h' => by
    have e : ∀ {ds : List ConstV} {d : List Int}, ConstsB ds d → ∀ {xs x}, ds = xs ++ [x] → ∃ p q, ConstsB xs p ∧ ConstB x q ∧ d = p ++ q := by
      intro ds d hd xs x he
      cases hd with
      | nil => simp at he
      | snoc h1 h2 =>
        obtain ⟨rfl, h3⟩ := List.append_inj' he rfl
        simp only [List.cons.injEq, and_true] at h3
        subst h3
        exact ⟨_, _, h1, h2, rfl⟩
    obtain ⟨xs, x, rfl⟩ : ∃ xs x, cs = xs ++ [x] := by
      have := List.dropLast_concat_getLast (l := cs) (by intro e; rw [e] at hn; simp at hn)
      exact ⟨_, _, this.symm⟩
    obtain ⟨p, q, h1, h2, rfl⟩ := e h rfl
    obtain ⟨p', q', h1', h2', rfl⟩ := e h' rfl
    simp only [List.length_append, List.length_cons, List.length_nil] at hn
    rw [ConstsB.unique (n := n) (by omega) h1 h1', ConstB.unique h2 h2']

theorem cellsC_len (cs : List ConstV) : (cs.flatMap cellsC).length = cs.length * 5 := by
  induction cs with
  | nil => rfl
  | cons c r ih => rw [List.flatMap_cons, List.length_append, ih]; simp [cellsC]; omega
/-- A pool, as what is appended. -/
theorem Src.of_pool {w : World} {v : Value} {cs : List ConstV} (h : Pool w v cs) : Src w 5 v cs.length (cs.flatMap cellsC) := by
  obtain ⟨ao, cap, rfl, h1, h2, h3, h4, h5⟩ := h
  refine ⟨cellsC_len cs, ?_, ao, cap, rfl, fun e => ⟨by have := h3 e; omega, h3 e⟩, fun ad hd j u hj => ?_⟩
  · intro u hu
    obtain ⟨c, _, hc⟩ := List.mem_flatMap.1 hu
    simp only [cellsC, List.mem_cons, List.mem_nil_iff, or_false] at hc
    rcases hc with rfl | rfl | rfl | rfl | rfl <;> rfl
  · have hjl : j < cs.length * 5 := by rw [← cellsC_len]; exact (List.getElem?_eq_some_iff.1 hj).1
    obtain ⟨b, o, rfl, hc⟩ := h5 ad hd (by omega)
    have hi : j / 5 < cs.length := by omega
    have hd5 : j % 5 < 5 := by omega
    have hat := cellsC_at (cs := cs) (i := j / 5) (d := j % 5) hi hd5
    rw [show j / 5 * 5 + j % 5 = j by omega, hj] at hat
    rw [add_lit, show o + j = o + j / 5 * 5 + j % 5 by omega]
    obtain ⟨c0, c1, c2, c3, c4⟩ := hc (j / 5) hi
    generalize cs.getD (j / 5) default = c at *
    have h5' : j % 5 = 0 ∨ j % 5 = 1 ∨ j % 5 = 2 ∨ j % 5 = 3 ∨ j % 5 = 4 := by omega
    rcases h5' with e | e | e | e | e
    · rw [e] at hat ⊢; rw [Nat.add_zero, c0]; simpa [cellsC] using hat.symm
    · rw [e] at hat ⊢; rw [c1]; simpa [cellsC] using hat.symm
    · rw [e] at hat ⊢; rw [c2]; simpa [cellsC] using hat.symm
    · rw [e] at hat ⊢; rw [c3]; simpa [cellsC] using hat.symm
    · rw [e] at hat ⊢; rw [c4]; simpa [cellsC] using hat.symm
/-- A row of no constants, as '[]api.Const{}' makes it. -/
theorem madeC (w : World) : RowC (w.alloc (.cells #[] 67)) w.heap.size (.slice (some ⟨w.heap.size, 0, none⟩) 0 0) [] := World.ownsRow_made _ #[] 0 (Nat.le_refl _) (Nat.zero_le _) rfl
/-- Constants copied behind none. -/
theorem RowC.copied {w w3 : World} {v' : Value} {cs : List ConstV} (hown : w3.ownsRow w.heap.size 67 5 v' (0 + cs.length) (([] : List ConstV).flatMap cellsC ++ cs.flatMap cellsC)) (hr : ∀ c ∈ cs, ConstR c) : Pool w3 v' cs := by
  refine RowC.pool (B := w.heap.size) ?_ hr
  unfold RowC
  simpa using hown
theorem consts_byte {cs : List ConstV} {bs : List Int} (h : ConstsB cs bs) : Bytish bs := by
  induction h with
  | nil => exact Bytish.nil
  | @snoc cs bs c b h1 h2 ih =>
    refine ih.append ?_
    have hm : ∀ z : Int, IsByte (z % 256) := fun z => by unfold IsByte; omega
    rcases h2 with ⟨_, ys, he, hl, rfl⟩ | ⟨_, rfl⟩ | ⟨_, rfl⟩ | ⟨_, rfl⟩ | ⟨ht, rfl⟩
    · intro z hz
      simp only [List.cons_append, List.mem_cons, List.mem_append] at hz
      rcases hz with rfl | hz | hz
      · unfold IsByte; omega
      · exact be2_byte _ z hz
      · exact he.byte z hz
    · intro z hz
      simp only [List.mem_cons, List.mem_nil_iff, or_false] at hz
      rcases hz with rfl | rfl | rfl | rfl | rfl
      · unfold IsByte; omega
      all_goals exact hm _
    · intro z hz
      simp only [List.mem_cons, List.mem_nil_iff, or_false] at hz
      rcases hz with rfl | rfl | rfl | rfl | rfl | rfl | rfl | rfl | rfl
      · unfold IsByte; omega
      all_goals exact hm _
    · intro z hz
      rcases List.mem_cons.1 hz with rfl | hz
      · unfold IsByte; omega
      · exact be2_byte _ z hz
    · intro z hz
      simp only [List.cons_append, List.mem_cons, List.mem_append] at hz
      rcases hz with rfl | hz | hz
      · unfold IsByte; omega
      · exact be2_byte _ z hz
      · exact be2_byte _ z hz

theorem row_at {w : World} {B : Nat} {v : Value} {ys : List Int} (h : Row w B v ys) (h0 : 0 < ys.length) : ∃ g cap, v = .slice (some ⟨g, 0, none⟩) ys.length cap ∧ B ≤ g ∧ ys.length ≤ cap ∧ cap ≤ maxLen := by
  rcases h.2 with ⟨_, hn⟩ | ⟨g, cap, cur, rfl, hb, _, hnc, hcm, _, _⟩
  · omega
  · exact ⟨g, cap, rfl, hb, hnc, hcm⟩
end Go.Proofs.YtodhdiccfobcfaaGreatDoor
