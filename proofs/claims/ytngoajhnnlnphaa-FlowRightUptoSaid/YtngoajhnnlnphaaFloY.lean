/- Plain words of layer 7, what follows: one behind the other, nobody falls out, two codes joined. No condition. -/
import Derived.Test.YtngoajhnnlnphaaFloW
namespace Go.Proofs.Ytngoajhnnlnphaa
open Go.RowKit
set_option linter.unusedVariables false
set_option linter.unusedSimpArgs false

/-! One behind the other. -/
/-- Where the first so many instructions end. -/
def placeZ (zs : List Int) (i : Nat) : Nat := match stepR zs i with | some q => q.2 | none => 0
theorem place_zero (zs : List Int) : placeZ zs 0 = 0 := rfl
theorem Run.row {zs : List Int} {l : List InstrV} {p : Nat} (h : Run zs l p) {i : Nat} (hi : i < l.length) :
    (l.getD i default).at_ = placeZ zs i ∧ 1 ≤ (l.getD i default).size ∧ (l.getD i default).size ≤ 3 ∧ ((placeZ zs (i + 1) : Nat) : Int) = placeZ zs i + (l.getD i default).size ∧ placeZ zs i < zs.length := by
  obtain ⟨q, h1, h2, h3⟩ := Run.at_ h i hi
  have hf := dec_fits h2 h3
  have e1 : placeZ zs i = q := by unfold placeZ; rw [h1]
  have e2 : placeZ zs (i + 1) = q + (l.getD i default).size.toNat := by
    unfold placeZ stepR
    rw [h1]
    simp only
    rw [h3]
    simp only [h2, and_self, if_true]
  rw [e1, e2]
  refine ⟨hf.2.2.2.2, by omega, by omega, by omega, h2⟩
theorem Run.end_ {zs : List Int} {l : List InstrV} {p : Nat} (h : Run zs l p) : placeZ zs l.length = p := by unfold placeZ; unfold Run at h; rw [h]
theorem Run.lt {zs : List Int} {l : List InstrV} {p : Nat} (h : Run zs l p) : ∀ {j i : Nat}, i < j → j ≤ l.length → placeZ zs i < placeZ zs j
  | 0, i, hij, _ => by omega
  | j + 1, i, hij, hj => by
    have hr := h.row (i := j) (by omega)
    by_cases e : i = j
    · subst e; omega
    · have := Run.lt h (j := j) (i := i) (by omega) (by omega)
      omega
theorem Run.found {zs : List Int} {l : List InstrV} {p : Nat} (h : Run zs l p) {i : Nat} (hi : i < l.length) : atZ l (placeZ zs i : Nat) = i := by
  have hr := (h.row hi).1
  rcases atZ_cases l (placeZ zs i : Nat) with ⟨_, h2⟩ | ⟨j, h1, h2, h3, h4⟩
  · exact absurd hr (h2 _ (getD_mem hi))
  · have hj := (h.row h1).1
    by_cases e : j = i
    · subst e; exact h2
    · by_cases hlt : j < i
      · have := h.lt hlt (by omega)
        rw [h3] at hj
        omega
      · exact absurd hr (h4 i (by omega))
theorem atZ_range (l : List InstrV) (x : Int) : -1 ≤ atZ l x ∧ atZ l x < l.length ∧ (0 ≤ atZ l x → (l.getD (atZ l x).toNat default).at_ = x) := by
  rcases atZ_cases l x with ⟨h1, h2⟩ | ⟨j, h1, h2, h3, h4⟩
  · rw [h1]; exact ⟨by omega, by omega, fun h => by omega⟩
  · rw [h2]; exact ⟨by omega, by omega, fun _ => by rw [Int.toNat_natCast]; exact h3⟩

/-! Nobody falls out. -/
theorem Checked7.right {zs : List Int} {ts : List TrapV} {l : List InstrV} (h : Checked7 zs ts l 0) : Run zs l zs.length ∧ rightL l zs.length ts = true := by
  obtain ⟨l0, e0, hl, ⟨h1, _, h2⟩ | ⟨h1, ⟨_, _, h2⟩ | ⟨h3, rfl, _⟩⟩⟩ := h
  · exact absurd h2.symm h1
  · cases h2
  · rcases hl with ⟨_, hl⟩ | ⟨_, hl, _⟩
    · exact ⟨hl, h3⟩
    · exact absurd h1 hl
theorem Checked7.err {zs : List Int} {ts : List TrapV} {l : List InstrV} {e : Int} (h : Checked7 zs ts l e) (he : e ≠ 0) : l = [] := by
  obtain ⟨l0, e0, hl, ⟨h1, h2, _⟩ | ⟨h1, ⟨_, h2, _⟩ | ⟨_, _, h2⟩⟩⟩ := h
  · exact h2
  · exact h2
  · exact absurd h2 he
theorem Listed.err {zs : List Int} {l : List InstrV} {e : Int} (h : Listed zs l e) (he : e ≠ 0) : l = [] := by
  rcases h with ⟨h, _⟩ | ⟨h, _⟩
  · exact absurd h he
  · exact h
theorem Listed.ok {zs : List Int} {l : List InstrV} (h : Listed zs l 0) : Run zs l zs.length := by
  rcases h with ⟨_, h⟩ | ⟨_, h, _⟩
  · exact h
  · exact absurd rfl h
theorem rightL_parts {l : List InstrV} {n : Int} {ts : List TrapV} (h : rightL l n ts = true) : 0 < l.length ∧ lastFalls l = false ∧ (∀ j, j < l.length → badLead l (l.getD j default) = false) ∧ ∀ j, j < ts.length → badTrap l n (ts.getD j default) = false := by
  unfold rightL at h
  simp only [Bool.and_eq_true, Bool.not_eq_true', Bool.or_eq_false_iff, List.all_eq_true] at h
  obtain ⟨⟨h1, h2⟩, h3, h4⟩ := h
  refine ⟨?_, h2, fun j hj => ?_, fun j hj => ?_⟩
  · cases l with
    | nil => simp at h1
    | cons _ _ => simp
  · exact h3 _ (getD_mem hj)
  · exact h4 _ (getD_mem hj)

/-! Two codes joined. -/
def shiftI (n : Int) (k : InstrV) : InstrV := ⟨k.at_ + n, k.op, k.a + (if isLead k then n else 0), k.b, k.size⟩
theorem numZ_more (sg : Bool) {n : Nat} {zs ys : List Int} (h : n ≤ zs.length) : numZ sg n (zs ++ ys) = numZ sg n zs := by
  unfold numZ
  rw [List.take_append_of_le_length h]
/-- What an instruction is read of does not hang on what stands behind it. -/
theorem dec_behind {p : Int} {zs ys : List Int} {k : InstrV} (h : decAt p zs = (k, 0)) : decAt p (zs ++ ys) = (k, 0) := by
  obtain ⟨op, rest, c, rfl, hc, hl, rfl⟩ := dec_ok h
  rw [List.cons_append]
  unfold decAt
  simp only
  rw [hc]
  simp only
  have hA : lenA c.shape ≤ rest.length := by unfold extraZ at hl; omega
  have hB : lenB c.shape ≤ (rest.drop (lenA c.shape)).length := by rw [List.length_drop]; unfold extraZ at hl; omega
  rw [if_neg (by rw [List.length_append]; omega)]
  have e1 : aZ c.shape p (rest ++ ys) = aZ c.shape p rest := by unfold aZ; rw [numZ_more _ hA]
  have e2 : bZ c.shape (rest ++ ys) = bZ c.shape rest := by unfold bZ; rw [List.drop_append_of_le_length hA, numZ_more _ hB]
  rw [e1, e2]
/-- The same bytes as far behind. -/
theorem dec_shift {p n : Int} {zs : List Int} {k : InstrV} (h : decAt p zs = (k, 0)) : decAt (p + n) zs = (shiftI n k, 0) := by
  obtain ⟨op, rest, c, rfl, hc, hl, rfl⟩ := dec_ok h
  unfold decAt shiftI isLead
  simp only
  rw [hc, (shape_of hc).1]
  simp only
  rw [if_neg (by omega)]
  congr 2
  unfold aZ leadsZ
  by_cases hs : c.shape = 116
  · rw [hs]; simp; omega
  · have : (c.shape == 116) = false := by rw [beq_eq_false_iff_ne]; exact hs
    rw [this]; simp
theorem stepR_front {a b : List Int} : ∀ {n : Nat} {l : List InstrV} {p : Nat}, stepR a n = some (l, p) → stepR (a ++ b) n = some (l, p)
  | 0, l, p, h => h
  | n + 1, l, p, h => by
    obtain ⟨l', p', k, hs, hp, hd, rfl, rfl⟩ := stepR_pred h
    unfold stepR
    rw [stepR_front hs]
    simp only
    rw [List.drop_append_of_le_length (by omega), dec_behind hd]
    simp only [List.length_append, and_true]
    rw [if_pos (by omega)]
theorem stepR_back {a b x : List Int} {X : List InstrV} (hx : Run a X a.length) : ∀ {n : Nat} {l : List InstrV} {p : Nat}, stepR b n = some (l, p) → stepR (a ++ b) (X.length + n) = some (X ++ l.map (shiftI a.length), a.length + p)
  | 0, l, p, h => by
    simp only [stepR, Option.some.injEq, Prod.mk.injEq] at h
    obtain ⟨rfl, rfl⟩ := h
    have := stepR_front (b := b) (show stepR a X.length = some (X, a.length) from hx)
    simpa using this
  | n + 1, l, p, h => by
    obtain ⟨l', p', k, hs, hp, hd, rfl, rfl⟩ := stepR_pred h
    have ih := stepR_back (x := x) hx hs
    rw [← Nat.add_assoc]
    unfold stepR
    rw [ih]
    simp only
    have hdr : (a ++ b).drop (a.length + p') = b.drop p' := by rw [List.drop_append]; simp
    rw [hdr, show ((a.length + p' : Nat) : Int) = (p' : Int) + (a.length : Int) by omega, dec_shift hd]
    simp only [List.length_append, and_true]
    rw [if_pos (by omega)]
    simp [shiftI]
    omega
theorem Run.join {a b : List Int} {X Y : List InstrV} (hx : Run a X a.length) (hy : Run b Y b.length) : Run (a ++ b) (X ++ Y.map (shiftI a.length)) (a ++ b).length := by
  have := stepR_back (x := []) hx (show stepR b Y.length = some (Y, b.length) from hy)
  unfold Run
  simpa using this
end Go.Proofs.Ytngoajhnnlnphaa
