/- Plain words of layer 7: the instructions of a code, one behind the other; where one begins; what leads, what falls; which methods are right. No condition. -/
import Derived.Test.YtngoajhnnlnphaaOpsW
import Derived.Test.YtngoajhnnlnphaaClsB
namespace Go.Proofs.Ytngoajhnnlnphaa
open Go.RowKit
set_option linter.unusedVariables false
set_option linter.unusedSimpArgs false

instance : Inhabited InstrV := ⟨zeroI⟩
/-- The first so many instructions of a code, and where the next begins. -/
def stepR (zs : List Int) : Nat → Option (List InstrV × Nat)
  | 0 => some ([], 0)
  | n + 1 =>
    match stepR zs n with
    | none => none
    | some (l, p) => if p < zs.length ∧ (decAt p (zs.drop p)).2 = 0 then some (l ++ [(decAt p (zs.drop p)).1], p + (decAt p (zs.drop p)).1.size.toNat) else none
def Run (zs : List Int) (l : List InstrV) (p : Nat) : Prop := stepR zs l.length = some (l, p)
theorem Run.nil (zs : List Int) : Run zs [] 0 := rfl
theorem Run.snoc {zs : List Int} {l : List InstrV} {p : Nat} {k : InstrV} (h : Run zs l p) (hp : p < zs.length) (hd : decAt p (zs.drop p) = (k, 0)) : Run zs (l ++ [k]) (p + k.size.toNat) := by
  unfold Run at h ⊢
  rw [List.length_append, List.length_singleton]
  unfold stepR
  rw [h]
  simp only
  rw [hd]
  simp only [hp, and_self, if_true]
theorem stepR_len {zs : List Int} : ∀ {n : Nat} {l : List InstrV} {p : Nat}, stepR zs n = some (l, p) → l.length = n
  | 0, l, p, h => by simp only [stepR, Option.some.injEq, Prod.mk.injEq] at h; rw [← h.1]; rfl
  | n + 1, l, p, h => by
    unfold stepR at h
    cases hs : stepR zs n with
    | none => rw [hs] at h; cases h
    | some q =>
      obtain ⟨l', p'⟩ := q
      rw [hs] at h
      simp only at h
      split at h
      · simp only [Option.some.injEq, Prod.mk.injEq] at h
        rw [← h.1, List.length_append, stepR_len hs]; rfl
      · cases h
theorem Run.of {zs : List Int} {n : Nat} {l : List InstrV} {p : Nat} (h : stepR zs n = some (l, p)) : Run zs l p := by unfold Run; rw [stepR_len h]; exact h
/-- The step before. -/
theorem stepR_pred {zs : List Int} {n : Nat} {l : List InstrV} {p : Nat} (h : stepR zs (n + 1) = some (l, p)) :
    ∃ l' p' k, stepR zs n = some (l', p') ∧ p' < zs.length ∧ decAt p' (zs.drop p') = (k, 0) ∧ l = l' ++ [k] ∧ p = p' + k.size.toNat := by
  unfold stepR at h
  cases hs : stepR zs n with
  | none => rw [hs] at h; cases h
  | some q =>
    obtain ⟨l', p'⟩ := q
    rw [hs] at h
    simp only at h
    split at h
    · rename_i hc
      simp only [Option.some.injEq, Prod.mk.injEq] at h
      exact ⟨l', p', _, rfl, hc.1, Prod.ext rfl hc.2, h.1.symm, h.2.symm⟩
    · cases h
theorem stepR_mono {zs : List Int} : ∀ {m n : Nat}, n ≤ m → ∀ {q}, stepR zs m = some q → ∃ q', stepR zs n = some q'
  | 0, n, h, q, hq => by obtain rfl : n = 0 := by omega
                         exact ⟨_, hq⟩
  | m + 1, n, h, q, hq => by
    by_cases e : n = m + 1
    · subst e; exact ⟨_, hq⟩
    · obtain ⟨l, p⟩ := q
      obtain ⟨l', p', k, hs, _⟩ := stepR_pred hq
      exact stepR_mono (by omega) hs
theorem dec_fits {zs : List Int} {p : Nat} {k : InstrV} (hp : p < zs.length) (h : decAt p (zs.drop p) = (k, 0)) : 1 ≤ k.size.toNat ∧ k.size.toNat ≤ 3 ∧ p + k.size.toNat ≤ zs.length ∧ (k.size.toNat : Int) = k.size ∧ k.at_ = p := by
  obtain ⟨op, rest, c, hz, hc, hl, rfl⟩ := dec_ok h
  have hlen : (zs.drop p).length = (op :: rest).length := by rw [hz]
  rw [List.length_drop, List.length_cons] at hlen
  have hL := (lens hc).2.2
  have hs : (1 + (extraZ c.shape : Int)).toNat = 1 + extraZ c.shape := by omega
  refine ⟨?_, ?_, ?_, ?_, rfl⟩ <;> simp only [hs] <;> omega
theorem Run.le {zs : List Int} : ∀ {n : Nat} {l : List InstrV} {p : Nat}, stepR zs n = some (l, p) → n ≤ p ∧ p ≤ zs.length
  | 0, l, p, h => by simp only [stepR, Option.some.injEq, Prod.mk.injEq] at h; omega
  | n + 1, l, p, h => by
    obtain ⟨l', p', k, hs, hp, hd, _, rfl⟩ := stepR_pred h
    have := Run.le hs
    have := dec_fits hp hd
    omega
theorem Run.length {zs : List Int} {l : List InstrV} {p : Nat} (h : Run zs l p) : l.length ≤ p ∧ p ≤ zs.length := Run.le h
/-- A walk that can't go on is the only one. -/
theorem stop_unique {zs : List Int} {l l' : List InstrV} {p p' : Nat} (h : Run zs l p) (h' : Run zs l' p') (hs : ¬ (p < zs.length ∧ (decAt p (zs.drop p)).2 = 0)) (hs' : ¬ (p' < zs.length ∧ (decAt p' (zs.drop p')).2 = 0)) : l = l' ∧ p = p' := by
  have key : ∀ {l l' : List InstrV} {p p' : Nat}, Run zs l p → Run zs l' p' → ¬ (p < zs.length ∧ (decAt p (zs.drop p)).2 = 0) → ¬ l.length < l'.length := by
    intro l l' p p' h h' hs hlt
    obtain ⟨q, hq⟩ := stepR_mono (n := l.length + 1) (by omega) h'
    obtain ⟨l2, p2⟩ := q
    obtain ⟨l3, p3, k, h3, h4, h5, _⟩ := stepR_pred hq
    unfold Run at h
    rw [h] at h3
    injection h3 with h3
    injection h3 with e1 e2
    subst e1 e2
    exact hs ⟨h4, by rw [h5]⟩
  have e : l.length = l'.length := by
    have := key h h' hs
    have := key h' h hs'
    omega
  unfold Run at h h'
  rw [e, h'] at h
  injection h with h
  injection h with e1 e2
  exact ⟨e1.symm, e2.symm⟩
/-- What List answers. -/
def Listed (zs : List Int) (l : List InstrV) (e : Int) : Prop :=
  (e = 0 ∧ Run zs l zs.length) ∨ (l = [] ∧ e ≠ 0 ∧ ∃ l' p, Run zs l' p ∧ p < zs.length ∧ (decAt p (zs.drop p)).2 = e)
theorem Listed.unique {zs : List Int} {l l' : List InstrV} {e e' : Int} (h : Listed zs l e) (h' : Listed zs l' e') : l = l' ∧ e = e' := by
  rcases h with ⟨rfl, h⟩ | ⟨rfl, he, m, p, h, hp, hd⟩ <;> rcases h' with ⟨rfl, h'⟩ | ⟨rfl, he', m', p', h', hp', hd'⟩
  · exact ⟨(stop_unique h h' (fun hc => by omega) (fun hc => by omega)).1, rfl⟩
  · have := (stop_unique h h' (fun hc => by omega) (fun hc => he' (by rw [← hd', hc.2]))).2
    omega
  · have := (stop_unique h h' (fun hc => he (by rw [← hd, hc.2])) (fun hc => by omega)).2
    omega
  · obtain ⟨_, rfl⟩ := stop_unique h h' (fun hc => he (by rw [← hd, hc.2])) (fun hc => he' (by rw [← hd', hc.2]))
    exact ⟨rfl, by rw [← hd, ← hd']⟩
theorem Listed.short {zs : List Int} {l : List InstrV} {e : Int} (h : Listed zs l e) : l.length ≤ zs.length := by
  rcases h with ⟨_, h⟩ | ⟨rfl, _⟩
  · exact h.length.1
  · exact Nat.zero_le _

/-! Where an instruction begins. -/
def atFrom (x : Int) : Nat → List InstrV → Int
  | _, [] => -1
  | i, k :: r => if k.at_ = x then i else atFrom x (i + 1) r
def atZ (l : List InstrV) (x : Int) : Int := atFrom x 0 l
theorem atFrom_skip {x : Int} {i : Nat} {l : List InstrV} {k : InstrV} {r : List InstrV} (hl : l = k :: r) (h : ¬ k.at_ = x) : atFrom x i l = atFrom x (i + 1) r := by
  rw [hl, atFrom, if_neg h]
theorem atFrom_here {x : Int} {i : Nat} {l : List InstrV} {k : InstrV} {r : List InstrV} (hl : l = k :: r) (h : k.at_ = x) : atFrom x i l = i := by
  rw [hl, atFrom, if_pos h]
theorem atFrom_cases (x : Int) : ∀ (l : List InstrV) (i : Nat), (atFrom x i l = -1 ∧ ∀ k ∈ l, k.at_ ≠ x) ∨ ∃ j, j < l.length ∧ atFrom x i l = ((i + j : Nat) : Int) ∧ (l.getD j default).at_ = x ∧ ∀ m, m < j → (l.getD m default).at_ ≠ x
  | [], i => .inl ⟨rfl, fun k hk => by cases hk⟩
  | k :: r, i => by
    by_cases h : k.at_ = x
    · exact .inr ⟨0, by simp, atFrom_here rfl h, h, fun m hm => by omega⟩
    · rw [atFrom_skip rfl h]
      rcases atFrom_cases x r (i + 1) with ⟨h1, h2⟩ | ⟨j, h1, h2, h3, h4⟩
      · refine .inl ⟨h1, fun q hq => ?_⟩
        rcases List.mem_cons.1 hq with rfl | hq
        · exact h
        · exact h2 q hq
      · refine .inr ⟨j + 1, by simpa using h1, by rw [h2]; congr 1; omega, by simpa using h3, fun m hm => ?_⟩
        cases m with
        | zero => simpa using h
        | succ m => simpa using h4 m (by omega)
theorem atZ_cases (l : List InstrV) (x : Int) : (atZ l x = -1 ∧ ∀ k ∈ l, k.at_ ≠ x) ∨ ∃ j : Nat, j < l.length ∧ atZ l x = j ∧ (l.getD j default).at_ = x ∧ ∀ m, m < j → (l.getD m default).at_ ≠ x := by
  rcases atFrom_cases x l 0 with h | ⟨j, h1, h2, h3, h4⟩
  · exact .inl h
  · exact .inr ⟨j, h1, by rw [atZ, h2, Nat.zero_add], h3, h4⟩

/-! What leads, what falls. -/
def fallsZ (op : Int) : Bool := !(op == 167 || (op == 172 || (op == 173 || (op == 176 || (op == 177 || op == 191)))))
def isLead (k : InstrV) : Bool := shapeK k.op == 116
def leadZ (k : InstrV) : Int := if isLead k then k.a else 0
def badLead (l : List InstrV) (k : InstrV) : Bool := isLead k && decide (atZ l k.a < 0)
def badTrap (l : List InstrV) (n : Int) (t : TrapV) : Bool := decide (atZ l t.from_ < 0) || ((decide (atZ l t.to_ < 0) && (t.to_ != n)) || decide (atZ l t.hand < 0))
def lastFalls (l : List InstrV) : Bool := fallsZ (l.getD (l.length - 1) default).op
def rightL (l : List InstrV) (n : Int) (ts : List TrapV) : Bool := !(l.isEmpty || lastFalls l) && (l.all (fun k => !badLead l k) && ts.all (fun t => !badTrap l n t))
/-- What Check answers. -/
def Checked7 (zs : List Int) (ts : List TrapV) (l : List InstrV) (e : Int) : Prop :=
  ∃ l0 e0, Listed zs l0 e0 ∧ ((e0 ≠ 0 ∧ l = [] ∧ e = e0) ∨ (e0 = 0 ∧ ((rightL l0 zs.length ts = false ∧ l = [] ∧ e = 70) ∨ (rightL l0 zs.length ts = true ∧ l = l0 ∧ e = 0))))
theorem Checked7.unique {zs : List Int} {ts : List TrapV} {l l' : List InstrV} {e e' : Int} (h : Checked7 zs ts l e) (h' : Checked7 zs ts l' e') : l = l' ∧ e = e' := by
  obtain ⟨l0, e0, hl, h⟩ := h
  obtain ⟨l1, e1, hl', h'⟩ := h'
  obtain ⟨rfl, rfl⟩ := hl.unique hl'
  rcases h with ⟨h1, rfl, rfl⟩ | ⟨h1, ⟨h2, rfl, rfl⟩ | ⟨h2, rfl, rfl⟩⟩ <;> rcases h' with ⟨h1', rfl, rfl⟩ | ⟨h1', ⟨h2', rfl, rfl⟩ | ⟨h2', rfl, rfl⟩⟩
  all_goals first | exact ⟨rfl, rfl⟩ | (exfalso; simp_all; done)

/-! The instructions of a code stand one behind the other. -/
theorem Run.at_ {zs : List Int} : ∀ {n : Nat} {l : List InstrV} {p : Nat}, stepR zs n = some (l, p) → ∀ i, i < n → ∃ q, stepR zs i = some (l.take i, q) ∧ q < zs.length ∧ decAt q (zs.drop q) = (l.getD i default, 0)
  | 0, l, p, h, i, hi => by omega
  | n + 1, l, p, h, i, hi => by
    obtain ⟨l', p', k, hs, hp, hd, rfl, rfl⟩ := stepR_pred h
    have hl := stepR_len hs
    by_cases e : i = n
    · subst e
      refine ⟨p', ?_, hp, ?_⟩
      · rw [hs, List.take_left' hl]
      · rw [hd]; simp [List.getD, ← hl]
    · obtain ⟨q, h1, h2, h3⟩ := Run.at_ hs i (by omega)
      refine ⟨q, ?_, h2, ?_⟩
      · rw [h1, List.take_append_of_le_length (by omega)]
      · rw [h3]; simp [List.getD, List.getElem?_append_left (show i < l'.length by omega)]
end Go.Proofs.Ytngoajhnnlnphaa
