/- Bytes that are read in order, in plain words: a value and the place behind it, or the first error. What one call of a reader leaves. No condition. -/
import Derived.Test.YtadgbkjjeigpjaaDoorGWire
import Derived.Test.YtadgbkjjeigpjaaDoorGPolR
namespace Go.Proofs.YtadgbkjjeigpjaaDoor
open Go.RowKit
set_option linter.unusedVariables false
set_option linter.unusedSimpArgs false

theorem Rd.bytish {w : World} {rb : Nat} {sv : Value} {zs : List Int} {k : Nat} (h : Rd w rb sv zs k) : Bytish zs := h.byt
theorem uAt_lt' {zs : List Int} (hz : Bytish zs) (k n : Nat) (h : k + n ≤ zs.length) : 0 ≤ uAt zs k n ∧ uAt zs k n < 256 ^ n := valB_lt n _ (by simp; omega) ((hz.drop k).take n)
section
variable (rb : Nat) (sv : Value) (zs : List Int) (k n : Nat) (w : World)
theorem pdU_ok (h : Rd w rb sv zs k) (hn1 : 1 ≤ n) (hn8 : n ≤ 8) (hroom : k + n ≤ zs.length) :
    Calls Tryd.prog 59 #[.pointer (some ⟨rb, 0, none⟩), .int .i64 n] w fun e w' => e = .returned (.tuple #[.int .u64 (uAt zs k n), .int .i64 0]) ∧ RdTo w rb sv zs (k + n) w' := by
  have he : rdErr0 n ((zs.length : Int) - k) = 0 := by unfold rdErr0; rw [if_neg (by omega), if_neg (by omega)]
  have := rdUint rb sv zs k n w h (by omega) (by omega)
  rw [he] at this
  simp only [rdU, rdK, if_true, Int.toNat_natCast] at this
  exact this
theorem pdU_short (h : Rd w rb sv zs k) (hn1 : 1 ≤ n) (hn8 : n ≤ 8) (hroom : zs.length < k + n) :
    Calls Tryd.prog 59 #[.pointer (some ⟨rb, 0, none⟩), .int .i64 n] w fun e w' => e = .returned (.tuple #[.int .u64 0, .int .i64 3]) ∧ RdTo w rb sv zs k w' := by
  have he : rdErr0 n ((zs.length : Int) - k) = 3 := by unfold rdErr0; rw [if_neg (by omega), if_pos (by omega)]
  have := rdUint rb sv zs k n w h (by omega) (by omega)
  rw [he] at this
  simp only [rdU, rdK, show ¬ ((3 : Int) = 0) by decide, if_false] at this
  exact this
end

/-- What leaves by a panic with an error's number. -/
abbrev pan (z : Int) : Ending := .panicked [{ v := .iface 25 (.int .i64 z), recovered := false }]

/-- What reads: the bytes, a place; a value and the place behind it, or an error. -/
abbrev Pr (α : Type) := List Int → Nat → Except Int (α × Nat)
def retP {α : Type} (a : α) : Pr α := fun _ k => .ok (a, k)
def failP {α : Type} (e : Int) : Pr α := fun _ _ => .error e
def bindP {α β : Type} (p : Pr α) (f : α → Pr β) : Pr β := fun zs k => match p zs k with | .ok (a, k') => f a zs k' | .error e => .error e
def numP (n : Nat) : Pr Int := fun zs k => if k + n ≤ zs.length then .ok (uAt zs k n, k + n) else .error 3
def bytesP (n : Nat) : Pr (List Int) := fun zs k => if k + n ≤ zs.length then .ok ((zs.drop k).take n, k + n) else .error 3

def atP : Pr Nat := fun _ k => .ok (k, k)

def listP {α : Type} (p : Pr α) : Nat → Pr (List α)
  | 0 => retP []
  | n + 1 => bindP p fun a => bindP (listP p n) fun l => retP (a :: l)

theorem bindP_ok {α β : Type} {p : Pr α} {f : α → Pr β} {zs : List Int} {k k' : Nat} {a : α} (h : p zs k = .ok (a, k')) : bindP p f zs k = f a zs k' := by unfold bindP; rw [h]
theorem bindP_error {α β : Type} {p : Pr α} {f : α → Pr β} {zs : List Int} {k : Nat} {e : Int} (h : p zs k = .error e) : bindP p f zs k = .error e := by unfold bindP; rw [h]
theorem bindP_inv {α β : Type} {p : Pr α} {f : α → Pr β} {zs : List Int} {k k' : Nat} {b : β} (h : bindP p f zs k = .ok (b, k')) : ∃ a k1, p zs k = .ok (a, k1) ∧ f a zs k1 = .ok (b, k') := by
  unfold bindP at h
  split at h
  · rename_i a k1 e; exact ⟨a, k1, e, h⟩
  · cases h


/-- What a reading leaves: its value and the place behind it, or a refusal. -/
def RdE {α : Type} (V : α → Value) (rb : Nat) (sv : Value) (zs : List Int) (w : World) (r : Except Int (α × Nat)) (e : Ending) (w' : World) : Prop :=
  ((∃ a k, r = .ok (a, k) ∧ e = .returned (V a) ∧ Rd w' rb sv zs k) ∨ (∃ x, r = .error x ∧ e = pan x)) ∧ Only (fun j => j = rb) w w'
theorem RdE.ok {α : Type} {V : α → Value} {rb : Nat} {sv : Value} {zs : List Int} {w w' : World} {r : Except Int (α × Nat)} {a : α} {k : Nat} (h : r = .ok (a, k)) (hr : Rd w' rb sv zs k) (ho : Only (fun j => j = rb) w w') : RdE V rb sv zs w r (.returned (V a)) w' := ⟨.inl ⟨a, k, h, rfl, hr⟩, ho⟩
theorem RdE.no {α : Type} {V : α → Value} {rb : Nat} {sv : Value} {zs : List Int} {w w' : World} {r : Except Int (α × Nat)} {x : Int} (h : r = .error x) (ho : Only (fun j => j = rb) w w') : RdE V rb sv zs w r (pan x) w' := ⟨.inr ⟨x, h, rfl⟩, ho⟩
abbrev unitV : Unit → Value := fun _ => .tuple #[]
theorem Only.rb {w1 w2 : World} {rb : Nat} (h : Only (fun _ => False) w1 w2) : Only (fun j => j = rb) w1 w2 := h.mono (fun _ h _ => h.elim)
theorem Only.rbs {w0 w1 w2 : World} {rb : Nat} (h : Only (fun j => j = rb) w0 w1) (h2 : Only (fun j => j = rb) w1 w2) : Only (fun j => j = rb) w0 w2 := h.trans h2 (fun _ h _ => h)


theorem numP_val (zs : List Int) (k : Nat) {n : Nat} {x : Int} {k' : Nat} (hz : Bytish zs) (h : numP n zs k = .ok (x, k')) : 0 ≤ x ∧ x < 256 ^ n := by
  unfold numP at h
  split at h
  · rename_i hr
    injection h with h
    injection h with h1 h2
    subst h1
    exact uAt_lt' hz k n hr
  · cases h

/-- So much of a list is read. -/
def ListTo {α : Type} (p : Pr α) (n : Nat) (zs : List Int) (k : Nat) (l : List α) (k' : Nat) : Prop := listP p n zs k = bindP (listP p (n - l.length)) (fun r => retP (l ++ r)) zs k'
section
variable {α : Type} {p : Pr α} {n : Nat} {zs : List Int} {k k' k'' : Nat} {l : List α} {a : α} {e : Int}
theorem ListTo.start : ListTo p n zs k [] k := by
  unfold ListTo bindP retP
  simp only [List.length_nil, Nat.sub_zero, List.nil_append]
  cases listP p n zs k <;> rfl
theorem ListTo.more (h : ListTo p n zs k l k') (hl : l.length < n) (hp : p zs k' = .ok (a, k'')) : ListTo p n zs k (l ++ [a]) k'' := by
  unfold ListTo at *
  rw [h]
  obtain ⟨m, hm⟩ : ∃ m, n - l.length = m + 1 := ⟨n - l.length - 1, by omega⟩
  have hm2 : n - (l ++ [a]).length = m := by simp; omega
  rw [hm, hm2]
  simp only [listP, bindP, retP, hp]
  cases listP p m zs k'' with
  | error e => rfl
  | ok x => simp
theorem ListTo.fail (h : ListTo p n zs k l k') (hl : l.length < n) (hp : p zs k' = .error e) : listP p n zs k = .error e := by
  unfold ListTo at h
  rw [h]
  obtain ⟨m, hm⟩ : ∃ m, n - l.length = m + 1 := ⟨n - l.length - 1, by omega⟩
  rw [hm]
  simp only [listP, bindP, retP, hp]
theorem ListTo.done (h : ListTo p n zs k l k') (hl : l.length = n) : listP p n zs k = .ok (l, k') := by
  unfold ListTo at h
  rw [h, hl, Nat.sub_self]
  simp only [listP, bindP, retP, List.append_nil]
end

/-- Where a reading stands: at a place, or at its first error. -/
abbrev StZ := Except Int Nat
def runP {α : Type} (p : Pr α) (zs : List Int) : StZ → Except Int (α × Nat)
  | .ok k => p zs k
  | .error e => .error e
def withZ {α : Type} (a : α) : StZ → Except Int (α × Nat)
  | .ok k => .ok (a, k)
  | .error e => .error e
/-- A part is read: from one state to the next, with a value (any one behind an error). -/
def Nx {α : Type} (p : Pr α) (zs : List Int) (σ : StZ) (a : α) (σ' : StZ) : Prop := runP p zs σ = withZ a σ'
theorem Nx.bind {α β : Type} {p : Pr α} {f : α → Pr β} {zs : List Int} {σ σ' σ'' : StZ} {a : α} {b : β} (h : Nx p zs σ a σ') (h2 : Nx (f a) zs σ' b σ'') : Nx (bindP p f) zs σ b σ'' := by
  unfold Nx at *
  cases σ with
  | error e =>
    cases σ' with
    | error e' => simp only [runP, withZ] at h h2 ⊢; injection h with h; subst h; exact h2
    | ok k => simp only [runP, withZ] at h; cases h
  | ok k =>
    cases σ' with
    | error e' =>
      simp only [runP, withZ] at h h2 ⊢
      rw [bindP_error h]
      exact h2
    | ok k' =>
      simp only [runP, withZ] at h h2 ⊢
      rw [bindP_ok h]
      exact h2
theorem Nx.ret {α : Type} (a : α) (zs : List Int) (σ : StZ) : Nx (retP a) zs σ a σ := by cases σ <;> rfl
theorem Nx.bad {α : Type} (p : Pr α) (a : α) (zs : List Int) (e : Int) : Nx p zs (.error e) a (.error e) := rfl
theorem Nx.of_ok {α : Type} {p : Pr α} {zs : List Int} {k k' : Nat} {a : α} (h : p zs k = .ok (a, k')) : Nx p zs (.ok k) a (.ok k') := h
theorem Nx.of_error {α : Type} {p : Pr α} {zs : List Int} {k : Nat} {e : Int} (a : α) (h : p zs k = .error e) : Nx p zs (.ok k) a (.error e) := h
def failS (x : Int) : StZ → StZ
  | .ok k => if x = 0 then .ok k else .error x
  | .error e => .error e

theorem Nx.fail {α : Type} (a : α) {zs : List Int} {σ : StZ} {x : Int} (h : x ≠ 0) : Nx (failP x) zs σ a (failS x σ) := by
  unfold Nx
  cases σ with
  | ok k => simp only [failS, if_neg h]; rfl
  | error e => rfl

def StK (σ : StZ) (k : Nat) (e : Int) : Prop := match σ with
  | .ok k' => k' = k ∧ e = 0
  | .error x => e = x ∧ x ≠ 0
theorem Nx.at {σ : StZ} {k : Nat} {e : Int} (zs : List Int) (h : StK σ k e) : Nx atP zs σ k σ := by
  unfold Nx
  cases σ with
  | ok k' => obtain ⟨rfl, _⟩ := h; rfl
  | error e => rfl

/-- So much of a list is read, to a state. -/
def ListS {α : Type} (p : Pr α) (n : Nat) (zs : List Int) (σ0 : StZ) (l : List α) : StZ → Prop
  | .ok k => ∃ k0, σ0 = .ok k0 ∧ ListTo p n zs k0 l k
  | .error e => runP (listP p n) zs σ0 = .error e
section
variable {α : Type} {p : Pr α} {n : Nat} {zs : List Int} {σ0 σ σ' : StZ} {l : List α} {a : α}
theorem ListS.start : ListS p n zs σ0 [] σ0 := by
  cases σ0 with
  | ok k => exact ⟨k, rfl, ListTo.start⟩
  | error e => rfl
theorem ListS.more {k : Nat} (h : ListS p n zs σ0 l (.ok k)) (hl : l.length < n) (hp : Nx p zs (.ok k) a σ') : ListS p n zs σ0 (l ++ [a]) σ' := by
  obtain ⟨k0, rfl, h⟩ := h
  cases σ' with
  | ok k' => exact ⟨k0, rfl, h.more hl hp⟩
  | error e => exact h.fail hl hp
theorem ListS.done (h : ListS p n zs σ0 l σ) (hd : (∃ e, σ = .error e) ∨ l.length = n) : Nx (listP p n) zs σ0 l σ := by
  cases σ with
  | error e => exact h
  | ok k =>
    rcases hd with ⟨e, he⟩ | hd
    · cases he
    · obtain ⟨k0, rfl, h⟩ := h
      exact h.done hd
end
theorem nx_num_lt {n : Nat} {zs : List Int} {σ σ' : StZ} (hz : Bytish zs) : ∃ x σ', Nx (numP n) zs σ x σ' ∧ 0 ≤ x ∧ x < 256 ^ n ∧ (∀ e, σ' = .error e → x = 0) := by
  have hp : (0 : Int) < 256 ^ n := Int.pow_pos (by decide)
  cases σ with
  | error e => exact ⟨0, .error e, rfl, Int.le_refl _, hp, fun _ _ => rfl⟩
  | ok k =>
    unfold Nx runP numP
    by_cases hr : k + n ≤ zs.length
    · have := uAt_lt' hz k n hr
      exact ⟨uAt zs k n, .ok (k + n), by simp only [if_pos hr]; rfl, this.1, this.2, fun e he => by cases he⟩
    · exact ⟨0, .error 3, by simp only [if_neg hr]; rfl, Int.le_refl _, hp, fun _ _ => rfl⟩
end Go.Proofs.YtadgbkjjeigpjaaDoor
