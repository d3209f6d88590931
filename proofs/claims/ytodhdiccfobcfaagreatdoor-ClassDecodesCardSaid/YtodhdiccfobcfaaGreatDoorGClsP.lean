/- A class file's bytes, read in order, in plain words: a value and the place behind it, or the first error. No program. A right class's bytes, in plain words: they are read as the class; cut short they are none. No program. -/
import Derived.Test.YtodhdiccfobcfaaGreatDoorGPolR
import Derived.Test.YtodhdiccfobcfaaGreatDoorGPolD
import Derived.Test.YtodhdiccfobcfaaGreatDoorGClsR
namespace Go.Proofs.YtodhdiccfobcfaaGreatDoor
open Go.RowKit
set_option linter.unusedVariables false
set_option linter.unusedSimpArgs false

/-- What reads: the bytes, a place; a value and the place behind it, or an error. -/
abbrev Pr (α : Type) := List Int → Nat → Except Int (α × Nat)
def retP {α : Type} (a : α) : Pr α := fun _ k => .ok (a, k)
def failP {α : Type} (e : Int) : Pr α := fun _ _ => .error e
def bindP {α β : Type} (p : Pr α) (f : α → Pr β) : Pr β := fun zs k => match p zs k with | .ok (a, k') => f a zs k' | .error e => .error e
def numP (n : Nat) : Pr Int := fun zs k => if k + n ≤ zs.length then .ok (uAt zs k n, k + n) else .error 3
def bytesP (n : Nat) : Pr (List Int) := fun zs k => if k + n ≤ zs.length then .ok ((zs.drop k).take n, k + n) else .error 3
def mustP (b : Bool) : Pr Unit := fun _ k => if b = true then .ok ((), k) else .error 50
def atP : Pr Nat := fun _ k => .ok (k, k)
def fixedP (n : Nat) (want : Int) : Pr Unit := bindP (numP n) fun x => mustP (decide (x = want))
def countP (n : Nat) (most : Int) : Pr Int := bindP (numP n) fun x => if most < x then failP 2 else retP x
def listP {α : Type} (p : Pr α) : Nat → Pr (List α)
  | 0 => retP []
  | n + 1 => bindP p fun a => bindP (listP p n) fun l => retP (a :: l)
/-- A place that must lead to a text. -/
noncomputable def textP (cs : List ConstV) (s : ByteArray) : Pr Unit := bindP (numP 2) fun i => fun _ k => open Classical in if textZ cs i = (s, true) then .ok ((), k) else .error 50
def trapP : Pr TrapV := bindP (numP 2) fun a => bindP (numP 2) fun b => bindP (numP 2) fun c => bindP (numP 2) fun d => retP ⟨a, b, c, d⟩
noncomputable def mapsP (cs : List ConstV) : Pr (List Int) := bindP (numP 2) fun t =>
  if t = 0 then retP [] else if t = 1 then bindP (textP cs mapsT) fun _ => bindP (countP 4 4096) fun n => bindP (mustP (decide (0 < n))) fun _ => bytesP n.toNat else failP 50
/-- What stands behind the number of bytes of a method's code. -/
noncomputable def codeP (cs : List ConstV) (fl nm ds : Int) : Pr MethodV :=
  bindP (numP 2) fun st => bindP (numP 2) fun lo => bindP (countP 4 4096) fun n => bindP (bytesP n.toNat) fun code => bindP (countP 2 64) fun m => bindP (listP trapP m.toNat) fun traps => bindP (mapsP cs) fun maps =>
    retP ⟨fl, nm, ds, st, lo, code, traps, maps⟩
noncomputable def methodP (cs : List ConstV) : Pr MethodV :=
  bindP (numP 2) fun fl => bindP (numP 2) fun nm => bindP (numP 2) fun ds => bindP (fixedP 2 1) fun _ => bindP (textP cs codeT) fun _ => bindP (numP 4) fun size => bindP atP fun k0 =>
    bindP (codeP cs fl nm ds) fun m => bindP atP fun k1 => bindP (mustP (decide ((k1 : Int) - k0 = size))) fun _ => retP m
def fieldP : Pr FieldV := bindP (numP 2) fun a => bindP (numP 2) fun b => bindP (numP 2) fun c => bindP (fixedP 2 0) fun _ => retP ⟨a, b, c⟩
def headP : Pr Unit := bindP (fixedP 4 3405691582) fun _ => fixedP 4 61
noncomputable def bodyP (cs : List ConstV) : Pr ClassV :=
  bindP (fixedP 2 0) fun _ => bindP (numP 2) fun this => bindP (numP 2) fun super => bindP (fixedP 2 0) fun _ => bindP (countP 2 64) fun nf => bindP (listP fieldP nf.toNat) fun fields =>
    bindP (countP 2 64) fun nm => bindP (listP (methodP cs) nm.toNat) fun methods => bindP (fixedP 2 0) fun _ => retP ⟨cs, this, super, fields, methods⟩
/-- The end of it: nothing is left, and it is a right class. -/
noncomputable def endP (zs : List Int) : Except Int (ClassV × Nat) → Except Int ClassV
  | .error e => .error e
  | .ok (c, k) => if k = zs.length then (if clsZ c = 0 then .ok c else .error (clsZ c)) else .error 50
/-- What Decode answers. -/
def DecC (zs : List Int) (r : Except Int ClassV) : Prop :=
  (∃ e, headP zs 0 = .error e ∧ r = .error e) ∨
  (∃ k cs n e, headP zs 0 = .ok ((), k) ∧ DecP (zs.drop k) cs n e ∧ ((e ≠ 0 ∧ r = .error e) ∨ (e = 0 ∧ r = endP zs (bodyP cs zs (k + n.toNat)))))
theorem DecC.unique {zs : List Int} {r r' : Except Int ClassV} (h : DecC zs r) (h' : DecC zs r') : r = r' := by
  rcases h with ⟨e, h1, rfl⟩ | ⟨k, cs, n, e, h1, h2, h3⟩ <;> rcases h' with ⟨e', h1', rfl⟩ | ⟨k', cs', n', e', h1', h2', h3'⟩
  · rw [h1] at h1'; injection h1' with h1'; rw [h1']
  · rw [h1] at h1'; cases h1'
  · rw [h1] at h1'; cases h1'
  · rw [h1] at h1'
    injection h1' with h1'
    injection h1' with _ h1'
    subst h1'
    obtain ⟨rfl, rfl, rfl⟩ := h2.unique h2'
    rcases h3 with ⟨h4, rfl⟩ | ⟨h4, rfl⟩ <;> rcases h3' with ⟨h4', rfl⟩ | ⟨h4', rfl⟩
    · rfl
    · exact absurd h4' h4
    · exact absurd h4 h4'
    · rfl

theorem bindP_ok {α β : Type} {p : Pr α} {f : α → Pr β} {zs : List Int} {k k' : Nat} {a : α} (h : p zs k = .ok (a, k')) : bindP p f zs k = f a zs k' := by unfold bindP; rw [h]
theorem bindP_error {α β : Type} {p : Pr α} {f : α → Pr β} {zs : List Int} {k : Nat} {e : Int} (h : p zs k = .error e) : bindP p f zs k = .error e := by unfold bindP; rw [h]
theorem bindP_inv {α β : Type} {p : Pr α} {f : α → Pr β} {zs : List Int} {k k' : Nat} {b : β} (h : bindP p f zs k = .ok (b, k')) : ∃ a k1, p zs k = .ok (a, k1) ∧ f a zs k1 = .ok (b, k') := by
  unfold bindP at h
  split at h
  · rename_i a k1 e; exact ⟨a, k1, e, h⟩
  · cases h

/-- How a reader looks at bytes that are cut short: nowhere beyond r more, and no further than it says. -/
structure Good {α : Type} (p : Pr α) (r : Nat) : Prop where
  up : ∀ zs k a k', p zs k = .ok (a, k') → k ≤ k' ∧ k' ≤ k + r
  inl : ∀ zs k a k', k ≤ zs.length → p zs k = .ok (a, k') → k' ≤ zs.length
  cut : ∀ zs n k a k', n ≤ zs.length → p (zs.take n) k = .ok (a, k') → p zs k = .ok (a, k')
  far : ∀ zs n k, n ≤ zs.length → k + r ≤ n → p (zs.take n) k = p zs k
theorem Good.mono {α : Type} {p : Pr α} {r s : Nat} (h : Good p r) (hs : r ≤ s) : Good p s :=
  ⟨fun zs k a k' h0 => by have := h.up zs k a k' h0; omega, h.inl, h.cut, fun zs n k h1 h2 => h.far zs n k h1 (by omega)⟩
theorem Good.ret {α : Type} (a : α) : Good (retP a) 0 :=
  ⟨fun zs k b k' h => by simp [retP] at h; omega, fun zs k b k' h0 h => by simp [retP] at h; omega, fun zs n k b k' _ h => h, fun _ _ _ _ _ => rfl⟩
theorem Good.fail {α : Type} (e : Int) : Good (failP (α := α) e) 0 :=
  ⟨fun zs k b k' h => by simp [failP] at h, fun zs k b k' h0 h => by simp [failP] at h, fun zs n k b k' _ h => h, fun _ _ _ _ _ => rfl⟩
theorem Good.at : Good atP 0 :=
  ⟨fun zs k b k' h => by simp [atP] at h; omega, fun zs k b k' h0 h => by simp [atP] at h; omega, fun zs n k b k' _ h => h, fun _ _ _ _ _ => rfl⟩
theorem Good.must (b : Bool) : Good (mustP b) 0 := by
  cases b
  · exact ⟨fun zs k b k' h => by simp [mustP] at h, fun zs k b k' h0 h => by simp [mustP] at h, fun zs n k b k' _ h => h, fun _ _ _ _ _ => rfl⟩
  · exact ⟨fun zs k b k' h => by simp [mustP] at h; omega, fun zs k b k' h0 h => by simp [mustP] at h; omega, fun zs n k b k' _ h => h, fun _ _ _ _ _ => rfl⟩
theorem Good.ite {α : Type} {c : Prop} [Decidable c] {p q : Pr α} {r : Nat} (h1 : Good p r) (h2 : Good q r) : Good (if c then p else q) r := by split <;> assumption
theorem uAt_cut {zs : List Int} {M k n : Nat} (h : k + n ≤ M) : uAt (zs.take M) k n = uAt zs k n := by
  unfold uAt
  rw [List.drop_take, List.take_take, Nat.min_eq_left (by omega)]
theorem Good.num (n : Nat) : Good (numP n) n := by
  refine ⟨fun zs k a k' h => ?_, fun zs k a k' h0 h => ?_, fun zs m k a k' hm h => ?_, fun zs m k hm hk => ?_⟩
  · unfold numP at h; split at h <;> simp at h; omega
  · unfold numP at h; split at h <;> simp at h; omega
  · unfold numP at *
    rw [List.length_take, Nat.min_eq_left hm] at h
    split at h
    · rename_i hk
      rw [uAt_cut hk] at h
      rw [if_pos (by omega)]
      exact h
    · cases h
  · unfold numP
    rw [List.length_take, Nat.min_eq_left hm, if_pos hk, if_pos (by omega), uAt_cut hk]
theorem Good.bytes (n : Nat) : Good (bytesP n) n := by
  have e : ∀ {zs : List Int} {M k : Nat}, k + n ≤ M → ((zs.take M).drop k).take n = (zs.drop k).take n := fun h => by rw [List.drop_take, List.take_take, Nat.min_eq_left (by omega)]
  refine ⟨fun zs k a k' h => ?_, fun zs k a k' h0 h => ?_, fun zs m k a k' hm h => ?_, fun zs m k hm hk => ?_⟩
  · unfold bytesP at h; split at h <;> simp at h; omega
  · unfold bytesP at h; split at h <;> simp at h; omega
  · unfold bytesP at *
    rw [List.length_take, Nat.min_eq_left hm] at h
    split at h
    · rename_i hk
      rw [e hk] at h
      rw [if_pos (by omega)]
      exact h
    · cases h
  · unfold bytesP
    rw [List.length_take, Nat.min_eq_left hm, if_pos hk, if_pos (by omega), e hk]
theorem Good.bind {α β : Type} {p : Pr α} {f : α → Pr β} {r s : Nat} (hp : Good p r) (Q : α → Prop) (hQ : ∀ zs k a k', p zs k = .ok (a, k') → Q a) (hf : ∀ a, Q a → Good (f a) s) : Good (bindP p f) (r + s) := by
  refine ⟨fun zs k b k' h => ?_, fun zs k b k' h0 h => ?_, fun zs m k b k' hm h => ?_, fun zs m k hm hk => ?_⟩
  · obtain ⟨a, k1, h1, h2⟩ := bindP_inv h
    have := hp.up _ _ _ _ h1
    have := (hf a (hQ _ _ _ _ h1)).up _ _ _ _ h2
    omega
  · obtain ⟨a, k1, h1, h2⟩ := bindP_inv h
    exact (hf a (hQ _ _ _ _ h1)).inl _ _ _ _ (hp.inl _ _ _ _ h0 h1) h2
  · obtain ⟨a, k1, h1, h2⟩ := bindP_inv h
    rw [bindP_ok (hp.cut _ _ _ _ _ hm h1)]
    exact (hf a (hQ _ _ _ _ h1)).cut _ _ _ _ _ hm h2
  · have hp1 := hp.far zs m k hm (by omega)
    cases hc : p zs k with
    | error e => rw [bindP_error hc, bindP_error (hp1.trans hc)]
    | ok x =>
      obtain ⟨a, k1⟩ := x
      rw [bindP_ok hc, bindP_ok (hp1.trans hc)]
      have := hp.up _ _ _ _ hc
      exact (hf a (hQ _ _ _ _ hc)).far zs m k1 hm (by omega)
theorem Good.bind' {α β : Type} {p : Pr α} {f : α → Pr β} {r s : Nat} (hp : Good p r) (hf : ∀ a, Good (f a) s) : Good (bindP p f) (r + s) := hp.bind (fun _ => True) (fun _ _ _ _ _ => trivial) (fun a _ => hf a)
theorem Good.fixed (n : Nat) (want : Int) : Good (fixedP n want) n := (Good.num n).bind' (fun x => Good.must _)
theorem Good.count (n : Nat) (most : Int) : Good (countP n most) n := (Good.num n).bind' (fun x => Good.ite (Good.fail 2) (Good.ret x))
theorem countP_le {n : Nat} {most : Int} {zs : List Int} {k k' : Nat} {x : Int} (h : countP n most zs k = .ok (x, k')) : x ≤ most := by
  obtain ⟨y, k1, h1, h2⟩ := bindP_inv h
  split at h2
  · simp [failP] at h2
  · simp [retP] at h2; omega
theorem Good.list {α : Type} {p : Pr α} {r : Nat} (h : Good p r) : ∀ n, Good (listP p n) (n * r)
  | 0 => (Good.ret _).mono (by omega)
  | n + 1 => (h.bind' fun a => (h.list n).bind' fun l => Good.ret _).mono (by rw [Nat.succ_mul]; omega)
theorem Good.text (cs : List ConstV) (s : ByteArray) : Good (textP cs s) 2 := by
  refine ((Good.num 2).bind' (s := 0) fun i => ?_)
  by_cases h : textZ cs i = (s, true)
  · have : (fun (_ : List Int) (k : Nat) => (open Classical in if textZ cs i = (s, true) then Except.ok ((), k) else Except.error (50 : Int))) = retP () := by funext _ k; rw [if_pos h]; rfl
    rw [this]
    exact Good.ret _
  · have : (fun (_ : List Int) (k : Nat) => (open Classical in if textZ cs i = (s, true) then Except.ok ((), k) else Except.error (50 : Int))) = failP 50 := by funext _ k; rw [if_neg h]; rfl
    rw [this]
    exact Good.fail _
theorem Good.trap : Good trapP 8 := ((Good.num 2).bind' fun _ => (Good.num 2).bind' fun _ => (Good.num 2).bind' fun _ => (Good.num 2).bind' fun _ => Good.ret _)
theorem Good.maps (cs : List ConstV) : Good (mapsP cs) 4104 := by
  refine ((Good.num 2).bind' (s := 4102) fun t => Good.ite ((Good.ret _).mono (by omega)) (Good.ite ?_ ((Good.fail _).mono (by omega))))
  refine (Good.text cs mapsT).bind' (s := 4100) fun _ => ((Good.count 4 4096).bind (s := 4096) (fun n => n ≤ 4096) (fun _ _ _ _ h => countP_le h) fun n hn => ?_)
  exact ((Good.must _).bind' (s := 4096) fun _ => (Good.bytes n.toNat).mono (by omega)).mono (by omega)
theorem Good.code (cs : List ConstV) (fl nm ds : Int) : Good (codeP cs fl nm ds) 8722 := by
  refine (((Good.num 2).bind' (s := 8720) fun st => (Good.num 2).bind' (s := 8718) fun lo => (Good.count 4 4096).bind (s := 8714) (fun n => n ≤ 4096) (fun _ _ _ _ h => countP_le h) fun n hn => ?_)).mono (by omega)
  refine ((Good.bytes n.toNat).bind' (s := 4618) fun code => ((Good.count 2 64).bind (s := 4616) (fun n => n ≤ 64) (fun _ _ _ _ h => countP_le h) fun m hm => ?_)).mono (by omega)
  refine ((Good.trap.list m.toNat).bind' (s := 4104) fun traps => ((Good.maps cs).bind' (s := 0) fun maps => Good.ret _)).mono (by omega)
theorem Good.method (cs : List ConstV) : Good (methodP cs) 8736 :=
  ((Good.num 2).bind' fun fl => (Good.num 2).bind' fun nm => (Good.num 2).bind' fun ds => (Good.fixed 2 1).bind' fun _ => (Good.text cs codeT).bind' fun _ => (Good.num 4).bind' fun size => Good.at.bind' fun k0 =>
    (Good.code cs fl nm ds).bind' fun m => Good.at.bind' fun k1 => (Good.must _).bind' fun _ => Good.ret m)
theorem Good.field : Good fieldP 8 := ((Good.num 2).bind' fun _ => (Good.num 2).bind' fun _ => (Good.num 2).bind' fun _ => (Good.fixed 2 0).bind' fun _ => Good.ret _)
theorem Good.head : Good headP 8 := (Good.fixed 4 3405691582).bind' fun _ => Good.fixed 4 61
theorem Good.body (cs : List ConstV) : Good (bodyP cs) 559630 := by
  refine ((Good.fixed 2 0).bind' (s := 559628) fun _ => (Good.num 2).bind' (s := 559626) fun this => (Good.num 2).bind' (s := 559624) fun super => (Good.fixed 2 0).bind' (s := 559622) fun _ => ?_)
  refine ((Good.count 2 64).bind (s := 559620) (fun n => n ≤ 64) (fun _ _ _ _ h => countP_le h) fun nf hf => ?_)
  refine ((Good.field.list nf.toNat).bind' (s := 559108) fun fields => ?_).mono (by omega)
  refine ((Good.count 2 64).bind (s := 559106) (fun n => n ≤ 64) (fun _ _ _ _ h => countP_le h) fun nm hm => ?_)
  exact (((Good.method cs).list nm.toNat).bind' (s := 2) fun methods => (Good.fixed 2 0).bind' fun _ => Good.ret _).mono (by omega)

/-- Its errors are no 0. -/
def Ne0 {α : Type} (p : Pr α) : Prop := ∀ zs k e, p zs k = .error e → e ≠ 0
theorem Ne0.bind {α β : Type} {p : Pr α} {f : α → Pr β} (hp : Ne0 p) (hf : ∀ a, Ne0 (f a)) : Ne0 (bindP p f) := fun zs k e h => by
  unfold bindP at h
  split at h
  · exact hf _ _ _ _ h
  · rename_i e' he; injection h with h; subst h; exact hp _ _ _ he
theorem Ne0.ret {α : Type} (a : α) : Ne0 (retP a) := fun zs k e h => by cases h
theorem Ne0.fail {α : Type} {e : Int} (h0 : e ≠ 0) : Ne0 (failP (α := α) e) := fun zs k e h => by injection h with h; subst h; exact h0
theorem Ne0.at : Ne0 atP := fun zs k e h => by cases h
theorem Ne0.must (b : Bool) : Ne0 (mustP b) := fun zs k e h => by
  unfold mustP at h
  split at h
  · cases h
  · injection h with h; subst h; decide
theorem Ne0.num (n : Nat) : Ne0 (numP n) := fun zs k e h => by
  unfold numP at h
  split at h
  · cases h
  · injection h with h; subst h; decide
theorem Ne0.bytes (n : Nat) : Ne0 (bytesP n) := fun zs k e h => by
  unfold bytesP at h
  split at h
  · cases h
  · injection h with h; subst h; decide
theorem Ne0.ite {α : Type} {c : Prop} [Decidable c] {p q : Pr α} (h1 : Ne0 p) (h2 : Ne0 q) : Ne0 (if c then p else q) := by split <;> assumption
theorem Ne0.fixed (n : Nat) (want : Int) : Ne0 (fixedP n want) := (Ne0.num n).bind fun x => Ne0.must _
theorem Ne0.count (n : Nat) (most : Int) : Ne0 (countP n most) := (Ne0.num n).bind fun x => Ne0.ite (Ne0.fail (by decide)) (Ne0.ret x)
theorem Ne0.list {α : Type} {p : Pr α} (h : Ne0 p) : ∀ n, Ne0 (listP p n)
  | 0 => Ne0.ret _
  | n + 1 => h.bind fun a => (h.list n).bind fun l => Ne0.ret _
theorem Ne0.text (cs : List ConstV) (s : ByteArray) : Ne0 (textP cs s) := (Ne0.num 2).bind fun i zs k e h => by
  split at h
  · cases h
  · injection h with h; subst h; decide
theorem Ne0.trap : Ne0 trapP := (Ne0.num 2).bind fun _ => (Ne0.num 2).bind fun _ => (Ne0.num 2).bind fun _ => (Ne0.num 2).bind fun _ => Ne0.ret _
theorem Ne0.maps (cs : List ConstV) : Ne0 (mapsP cs) := (Ne0.num 2).bind fun t => Ne0.ite (Ne0.ret _) (Ne0.ite ((Ne0.text cs mapsT).bind fun _ => (Ne0.count 4 4096).bind fun n => (Ne0.must _).bind fun _ => Ne0.bytes _) (Ne0.fail (by decide)))
theorem Ne0.code (cs : List ConstV) (fl nm ds : Int) : Ne0 (codeP cs fl nm ds) :=
  (Ne0.num 2).bind fun st => (Ne0.num 2).bind fun lo => (Ne0.count 4 4096).bind fun n => (Ne0.bytes _).bind fun code => (Ne0.count 2 64).bind fun m => (Ne0.trap.list _).bind fun traps => (Ne0.maps cs).bind fun maps => Ne0.ret _
theorem Ne0.method (cs : List ConstV) : Ne0 (methodP cs) :=
  (Ne0.num 2).bind fun fl => (Ne0.num 2).bind fun nm => (Ne0.num 2).bind fun ds => (Ne0.fixed 2 1).bind fun _ => (Ne0.text cs codeT).bind fun _ => (Ne0.num 4).bind fun size => Ne0.at.bind fun k0 =>
    (Ne0.code cs fl nm ds).bind fun m => Ne0.at.bind fun k1 => (Ne0.must _).bind fun _ => Ne0.ret m
theorem Ne0.field : Ne0 fieldP := (Ne0.num 2).bind fun _ => (Ne0.num 2).bind fun _ => (Ne0.num 2).bind fun _ => (Ne0.fixed 2 0).bind fun _ => Ne0.ret _
theorem Ne0.head : Ne0 headP := (Ne0.fixed 4 3405691582).bind fun _ => Ne0.fixed 4 61
theorem Ne0.body (cs : List ConstV) : Ne0 (bodyP cs) :=
  (Ne0.fixed 2 0).bind fun _ => (Ne0.num 2).bind fun this => (Ne0.num 2).bind fun super => (Ne0.fixed 2 0).bind fun _ => (Ne0.count 2 64).bind fun nf => (Ne0.field.list _).bind fun fields =>
    (Ne0.count 2 64).bind fun nm => ((Ne0.method cs).list _).bind fun methods => (Ne0.fixed 2 0).bind fun _ => Ne0.ret _
theorem bodyP_ne {cs : List ConstV} {zs : List Int} {k : Nat} {e : Int} (h : bodyP cs zs k = .error e) : e ≠ 0 := Ne0.body cs _ _ _ h
theorem DecC.ne {zs : List Int} {e : Int} (h : DecC zs (.error e)) : e ≠ 0 := by
  rcases h with ⟨e', h1, h2⟩ | ⟨k, cs, n, e', h1, h2, h3⟩
  · injection h2 with h2; subst h2; exact Ne0.head _ _ _ h1
  · rcases h3 with ⟨h4, h5⟩ | ⟨h4, h5⟩
    · injection h5 with h5; subst h5; exact h4
    · unfold endP at h5
      split at h5
      · rename_i e2 he2; injection h5 with h5; subst h5; exact bodyP_ne he2
      · split at h5
        · split at h5
          · cases h5
          · injection h5 with h5; subst h5; assumption
        · injection h5 with h5; subst h5; decide

theorem headP_ok {zs : List Int} {k : Nat} (h : headP zs 0 = .ok ((), k)) : k = 8 := by
  have one : ∀ {n : Nat} {want : Int} {zs : List Int} {k k' : Nat}, fixedP n want zs k = .ok ((), k') → k' = k + n := fun h => by
    obtain ⟨x, k1, h1, h2⟩ := bindP_inv h
    unfold numP at h1
    split at h1
    · simp at h1
      unfold mustP at h2
      split at h2 <;> simp at h2
      omega
    · cases h1
  obtain ⟨u, k1, h1, h2⟩ := bindP_inv h
  have := one h1
  have := one h2
  omega
theorem DecP.n_le {zs : List Int} {cs : List ConstV} {n : Int} (h : DecP zs cs n 0) : 0 ≤ n ∧ n ≤ 264959 := by
  rcases h with ⟨_, _, _, h⟩ | ⟨_, _, _, _, h⟩ | ⟨_, _, _, _, h⟩ | ⟨_, _, h3, hr⟩
  · exact absurd h (by decide)
  · exact absurd h (by decide)
  · exact absurd h (by decide)
  · rcases hr with ⟨e0, hr, _, _, he⟩ | ⟨ds, k, hr, ⟨h4, _, _, h5⟩ | ⟨_, _, rfl, _⟩⟩
    · rcases hr with ⟨ds, k, c, k', e, _, _, _, h4, h5⟩ | ⟨ds, k, _, _, h5⟩
      · injection h5 with h5; exact absurd (he.trans h5).symm h4
      · cases h5
    · exact absurd h5.symm h4
    · rcases hr with ⟨_, _, _, _, _, _, _, _, _, h5⟩ | ⟨ds', k', h1, h2, h5⟩
      · cases h5
      · injection h5 with h5
        injection h5 with h5 h6
        subst h5 h6
        have hz : zs.take zs.length = zs := List.take_length
        have reach : ∀ {ds : List ConstV} {k : Nat}, Reads zs ds k → k ≤ 2 + 259 * (ds.length - 1) := fun h => by
          induction h with
          | start => simp
          | more h1 r ih =>
            have h0 := h1.ne_nil
            have := r.far
            simp only [List.length_append, List.length_cons, List.length_nil]
            omega
        have := reach h1
        omega
/-- A class file that is longer than any: enough of it is looked at. -/
theorem DecC.take {zs : List Int} {r : Except Int ClassV} (h : DecC (zs.take 1048576) r) : DecC zs r := by
  by_cases hl : zs.length ≤ 1048576
  · rwa [List.take_of_length_le hl] at h
  have hn : 1048576 ≤ zs.length := by omega
  have hlen : (zs.take 1048576).length = 1048576 := by rw [List.length_take, Nat.min_eq_left hn]
  have hh := Good.head.far zs 1048576 0 hn (by omega)
  rcases h with ⟨e, h1, rfl⟩ | ⟨k, cs, n, e, h1, h2, h3⟩
  · exact .inl ⟨e, hh.symm.trans h1, rfl⟩
  · have hk := headP_ok h1
    subst hk
    have hd : DecP (zs.drop 8) cs n e := by
      rw [List.drop_take] at h2
      exact DecP.take (by decide) h2
    refine .inr ⟨8, cs, n, e, hh.symm.trans h1, hd, ?_⟩
    rcases h3 with ⟨h4, rfl⟩ | ⟨rfl, rfl⟩
    · exact .inl ⟨h4, rfl⟩
    · refine .inr ⟨rfl, ?_⟩
      have hb := hd.n_le
      rw [(Good.body cs).far zs 1048576 (8 + n.toNat) hn (by omega)]
      cases hc : bodyP cs zs (8 + n.toNat) with
      | error e => rfl
      | ok x =>
        obtain ⟨c, k'⟩ := x
        have := (Good.body cs).up _ _ _ _ hc
        unfold endP
        simp only
        rw [if_neg (by omega), if_neg (by omega)]
end Go.Proofs.YtodhdiccfobcfaaGreatDoor
namespace Go.Proofs.YtodhdiccfobcfaaGreatDoor
open Go.RowKit
set_option linter.unusedVariables false
set_option linter.unusedSimpArgs false

def be4 (n : Int) : List Int := [n / 16777216 % 256, n / 65536 % 256, n / 256 % 256, n % 256]
def fieldB (f : FieldV) : List Int := be2 f.flags ++ (be2 f.name ++ (be2 f.desc ++ be2 0))
def trapB (t : TrapV) : List Int := be2 t.from_ ++ (be2 t.to_ ++ (be2 t.hand ++ be2 t.type))
noncomputable def mapsB (cs : List ConstV) (maps : List Int) : List Int := if maps = [] then be2 0 else be2 1 ++ (be2 (placeOf cs mapsT) ++ (be4 maps.length ++ maps))
noncomputable def codeB (cs : List ConstV) (m : MethodV) : List Int := be2 m.stack ++ (be2 m.locals ++ (be4 m.code.length ++ (m.code ++ (be2 m.traps.length ++ (m.traps.flatMap trapB ++ mapsB cs m.maps)))))
noncomputable def methodB (cs : List ConstV) (m : MethodV) : List Int := be2 m.flags ++ (be2 m.name ++ (be2 m.desc ++ (be2 1 ++ (be2 (placeOf cs codeT) ++ (be4 (codeB cs m).length ++ codeB cs m)))))
noncomputable def bodyB (c : ClassV) : List Int :=
  be2 0 ++ (be2 c.this ++ (be2 c.super ++ (be2 0 ++ (be2 c.fields.length ++ (c.fields.flatMap fieldB ++ (be2 c.methods.length ++ (c.methods.flatMap (methodB c.pool) ++ be2 0)))))))
def headB : List Int := be4 3405691582 ++ be4 61
noncomputable def fileB (c : ClassV) (bs : List Int) : List Int := headB ++ ((be2 c.pool.length ++ bs) ++ bodyB c)

def Gives {α : Type} (p : Pr α) (a : α) (ys : List Int) : Prop := ∀ pre post : List Int, p (pre ++ (ys ++ post)) pre.length = .ok (a, pre.length + ys.length)
theorem Gives.bind {α β : Type} {p : Pr α} {f : α → Pr β} {a : α} {b : β} {ys zs : List Int} (h : Gives p a ys) (h2 : Gives (f a) b zs) : Gives (bindP p f) b (ys ++ zs) := by
  intro pre post
  have e1 : pre ++ (ys ++ zs ++ post) = pre ++ (ys ++ (zs ++ post)) := by simp
  have e2 : pre ++ (ys ++ zs ++ post) = (pre ++ ys) ++ (zs ++ post) := by simp
  rw [bindP_ok (by rw [e1]; exact h pre (zs ++ post)), e2, show pre.length + ys.length = (pre ++ ys).length by simp, h2 (pre ++ ys) post]
  simp; omega
theorem Gives.bind0 {α β : Type} {p : Pr α} {f : α → Pr β} {a : α} {b : β} {ys : List Int} (h : Gives p a ys) (h2 : Gives (f a) b []) : Gives (bindP p f) b ys := by
  have := h.bind h2
  rwa [List.append_nil] at this
theorem Gives.then0 {α β : Type} {p : Pr α} {f : α → Pr β} {a : α} {b : β} {ys : List Int} (h : Gives p a []) (h2 : Gives (f a) b ys) : Gives (bindP p f) b ys := h.bind h2
theorem Gives.ret {α : Type} (a : α) : Gives (retP a) a [] := fun pre post => by simp [retP]
theorem Gives.num2 {x : Int} (h0 : 0 ≤ x) (h1 : x ≤ 65535) : Gives (numP 2) x (be2 x) := fun pre post => by
  unfold numP
  rw [if_pos (by simp [be2]), uAt_mid pre (be2 x) post pre.length 2 rfl rfl, valB_be2 h0 h1]
  rfl
theorem valB_be4 {n : Int} (h0 : 0 ≤ n) (h1 : n ≤ 4294967295) : valB (be4 n) = n := by
  simp [valB, be4]
  omega
theorem Gives.num4 {x : Int} (h0 : 0 ≤ x) (h1 : x ≤ 4294967295) : Gives (numP 4) x (be4 x) := fun pre post => by
  unfold numP
  rw [if_pos (by simp [be4]), uAt_mid pre (be4 x) post pre.length 4 rfl rfl, valB_be4 h0 h1]
  rfl
theorem Gives.bytes {n : Nat} {ys : List Int} (h : ys.length = n) : Gives (bytesP n) ys ys := fun pre post => by
  subst h
  unfold bytesP
  rw [if_pos (by simp), List.drop_left, List.take_left]
theorem Gives.must {b : Bool} (h : b = true) : Gives (mustP b) () [] := fun pre post => by subst h; simp [mustP]
theorem Gives.fixed2 {want : Int} (h0 : 0 ≤ want) (h1 : want ≤ 65535) : Gives (fixedP 2 want) () (be2 want) := (Gives.num2 h0 h1).bind0 (Gives.must (by simp))
theorem Gives.fixed4 {want : Int} (h0 : 0 ≤ want) (h1 : want ≤ 4294967295) : Gives (fixedP 4 want) () (be4 want) := (Gives.num4 h0 h1).bind0 (Gives.must (by simp))
theorem Gives.count2 {x most : Int} (h0 : 0 ≤ x) (h1 : x ≤ 65535) (h : x ≤ most) : Gives (countP 2 most) x (be2 x) := (Gives.num2 h0 h1).bind0 (by rw [if_neg (by omega)]; exact Gives.ret x)
theorem Gives.count4 {x most : Int} (h0 : 0 ≤ x) (h1 : x ≤ 65535) (h : x ≤ most) : Gives (countP 4 most) x (be4 x) := (Gives.num4 h0 (by omega)).bind0 (by rw [if_neg (by omega)]; exact Gives.ret x)
theorem Gives.list {α : Type} {p : Pr α} {B : α → List Int} : ∀ {l : List α}, (∀ a ∈ l, Gives p a (B a)) → Gives (listP p l.length) l (l.flatMap B)
  | [], _ => Gives.ret []
  | a :: r, h => by
    rw [List.flatMap_cons]
    exact (h a (by simp)).bind ((Gives.list (fun b hb => h b (by simp [hb]))).bind0 (Gives.ret _))
theorem Gives.text {cs : List ConstV} {s : ByteArray} {i : Int} (h : textZ cs i = (s, true)) (h0 : 0 ≤ i) (h1 : i ≤ 65535) : Gives (textP cs s) () (be2 i) :=
  (Gives.num2 h0 h1).bind0 (fun pre post => by simp only [if_pos h]; rfl)
theorem Gives.trap {t : TrapV} (h : ∀ x ∈ [t.from_, t.to_, t.hand, t.type], 0 ≤ x ∧ x ≤ 65535) : Gives trapP t (trapB t) := by
  have a := h t.from_ (by simp)
  have b := h t.to_ (by simp)
  have c := h t.hand (by simp)
  have d := h t.type (by simp)
  exact (Gives.num2 a.1 a.2).bind ((Gives.num2 b.1 b.2).bind ((Gives.num2 c.1 c.2).bind ((Gives.num2 d.1 d.2).bind0 (Gives.ret _))))
theorem Gives.field {f : FieldV} (h : ∀ x ∈ [f.flags, f.name, f.desc], 0 ≤ x ∧ x ≤ 65535) : Gives fieldP f (fieldB f) := by
  have a := h f.flags (by simp)
  have b := h f.name (by simp)
  have c := h f.desc (by simp)
  exact (Gives.num2 a.1 a.2).bind ((Gives.num2 b.1 b.2).bind ((Gives.num2 c.1 c.2).bind ((Gives.fixed2 (by decide) (by decide)).bind0 (Gives.ret _))))

theorem textZ_lt {cs : List ConstV} {i : Int} (h : (textZ cs i).2 = true) (hl : cs.length ≤ 1024) : 0 ≤ i ∧ i ≤ 1023 := by
  unfold textZ at h
  split at h
  · rename_i h1; exact isZ_small h1 hl
  · simp at h
theorem classZ_lt {cs : List ConstV} {i : Int} (h : (classZ cs i).2 = true) (hl : cs.length ≤ 1024) : 0 ≤ i ∧ i ≤ 1023 := by
  unfold classZ at h
  split at h
  · rename_i h1; exact isZ_small h1 hl
  · simp at h
theorem findFrom_found {s : ByteArray} : ∀ {l : List ConstV} {i : Nat}, 1 ≤ i → findFrom s i l ≠ 0 → ∃ j, j < l.length ∧ findFrom s i l = ((i + j : Nat) : Int) ∧ (l.getD j default).tag = 1 ∧ (l.getD j default).text = s
  | [], i, _, h => by simp [findFrom] at h
  | c :: r, i, hi, h => by
    by_cases hc : c.tag = 1 ∧ c.text = s
    · rw [findFrom_here rfl hc] at h ⊢
      exact ⟨0, by simp, by simp, hc⟩
    · rw [findFrom_skip rfl hc] at h ⊢
      obtain ⟨j, h1, h2, h3⟩ := findFrom_found (i := i + 1) (by omega) h
      exact ⟨j + 1, by simp; omega, by rw [h2]; congr 1; omega, by simpa using h3⟩
theorem placeOf_found {cs : List ConstV} {s : ByteArray} (h : placeOf cs s ≠ 0) : textZ cs (placeOf cs s) = (s, true) := by
  obtain ⟨j, h1, h2, h3, h4⟩ := findFrom_found (i := 1) (by decide) h
  rw [List.length_drop] at h1
  unfold placeOf
  rw [h2]
  have e : (cs.drop 1).getD j default = cs.getD (1 + j) default := by simp [List.getD, Nat.add_comm]
  rw [e] at h3 h4
  have hz : isZ cs ((1 + j : Nat) : Int) 1 = true := by
    unfold isZ
    rw [Int.toNat_natCast]
    simp only [Bool.and_eq_true, decide_eq_true_eq]
    exact ⟨by omega, by omega, h3⟩
  unfold textZ
  rw [if_pos hz, Int.toNat_natCast, h4]

theorem trapB_len (l : List TrapV) : (l.flatMap trapB).length = l.length * 8 := by
  induction l with
  | nil => rfl
  | cons a r ih => rw [List.flatMap_cons, List.length_append, ih]; simp [trapB, be2]; omega
theorem mapsB_len (cs : List ConstV) (maps : List Int) : (mapsB cs maps).length ≤ 8 + maps.length := by
  unfold mapsB
  split
  · simp [be2]; omega
  · simp [be2, be4]; omega
theorem codeB_len (cs : List ConstV) (m : MethodV) : (codeB cs m).length ≤ 18 + m.code.length + m.traps.length * 8 + m.maps.length := by
  have := mapsB_len cs m.maps
  unfold codeB
  simp only [List.length_append, trapB_len]
  have e2 : ∀ x, (be2 x).length = 2 := fun _ => rfl
  have e4 : ∀ x, (be4 x).length = 4 := fun _ => rfl
  simp only [e2, e4]
  omega
theorem Gives.maps {cs : List ConstV} {maps : List Int} (hl : cs.length ≤ 1024) (h1 : maps.length ≤ 4096) (h2 : 0 < maps.length → placeOf cs mapsT ≠ 0) : Gives (mapsP cs) maps (mapsB cs maps) := by
  unfold mapsB
  by_cases h : maps = []
  · rw [if_pos h]
    exact (Gives.num2 (by decide) (by decide)).bind0 (by rw [if_pos rfl, h]; exact Gives.ret [])
  · rw [if_neg h]
    have h0 : 0 < maps.length := List.length_pos_iff.2 h
    have ht := placeOf_found (h2 h0)
    have hb := textZ_lt (by rw [ht]) hl
    refine (Gives.num2 (by decide) (by decide)).bind ?_
    rw [if_neg (by decide), if_pos rfl]
    refine (Gives.text ht (by omega) (by omega)).bind ((Gives.count4 (by omega) (by omega) (by omega)).bind ((Gives.must (by simp; omega)).then0 ?_))
    exact Gives.bytes (by simp)
theorem Gives.code {cs : List ConstV} {m : MethodV} (hl : cs.length ≤ 1024) (h : MethodP cs m) (ht : m.traps.length ≤ 64) : Gives (codeP cs m.flags m.name m.desc) m (codeB cs m) := by
  obtain ⟨⟨h0, h1, h2, h3, h4, h5, h6⟩, ⟨h7, h8, h9, h10, h11⟩, h12⟩ := h
  refine (Gives.num2 h3 (by omega)).bind ((Gives.num2 h5 (by omega)).bind ((Gives.count4 (by omega) (by omega) (by omega)).bind ((Gives.bytes (by simp)).bind ((Gives.count2 (by omega) (by omega) (by omega)).bind ?_))))
  rw [Int.toNat_natCast]
  refine (Gives.list (B := trapB) (fun t hm => Gives.trap fun x hx => ?_)).bind ((Gives.maps hl h9 h11).bind0 (Gives.ret _))
  obtain ⟨t1, t2, t3, t4, t5, t6⟩ := h12 t hm
  simp only [List.mem_cons, List.mem_nil_iff, or_false] at hx
  rcases hx with rfl | rfl | rfl | rfl
  · omega
  · omega
  · omega
  · rcases t6 with t6 | t6
    · omega
    · have := classZ_lt t6 hl; omega
theorem Gives.method {cs : List ConstV} {m : MethodV} (hl : cs.length ≤ 1024) (h : MethodP cs m) (ht : m.traps.length ≤ 64) : Gives (methodP cs) m (methodB cs m) := by
  have hcode := Gives.code hl h ht
  have hlen := codeB_len cs m
  obtain ⟨⟨h0, h1, h2, h3, h4, h5, h6⟩, ⟨h7, h8, h9, h10, h11⟩, h12⟩ := h
  have ht := placeOf_found h10
  have hb := textZ_lt (by rw [ht]) hl
  have b1 := textZ_lt h1 hl
  have b2 := textZ_lt h2 hl
  unfold FlagsP at h0
  refine (Gives.num2 (by omega) (by omega)).bind ((Gives.num2 (by omega) (by omega)).bind ((Gives.num2 (by omega) (by omega)).bind ((Gives.fixed2 (by decide) (by decide)).bind ((Gives.text ht (by omega) (by omega)).bind ((Gives.num4 (by omega) (by omega)).bind ?_)))))
  intro pre post
  refine (bindP_ok rfl).trans ?_
  refine (bindP_ok (hcode pre post)).trans ?_
  refine (bindP_ok rfl).trans ?_
  refine (bindP_ok (a := ()) (k' := pre.length + (codeB cs m).length) ?_).trans rfl
  unfold mustP
  rw [if_pos (by simp; omega)]
theorem Gives.body {c : ClassV} (h : clsZ c = 0) : Gives (bodyP c.pool) c (bodyB c) := by
  obtain ⟨hz, hl, hr1, hr2, hr3, hr4⟩ := clsZ_zero h
  have hc := (checkZ_zero hz).1
  have b1 := classZ_lt hr1 hc
  have b2 := classZ_lt hr2 hc
  have l1 : c.fields.length ≤ 64 := Nat.le_of_not_lt fun e => hl (.inl e)
  have l2 : c.methods.length ≤ 64 := Nat.le_of_not_lt fun e => hl (.inr (.inl e))
  have l3 : ∀ m ∈ c.methods, m.traps.length ≤ 64 := fun m hm => Nat.le_of_not_lt fun e => hl (.inr (.inr ⟨m, hm, e⟩))
  refine (Gives.fixed2 (by decide) (by decide)).bind ((Gives.num2 (by omega) (by omega)).bind ((Gives.num2 (by omega) (by omega)).bind ((Gives.fixed2 (by decide) (by decide)).bind ((Gives.count2 (by omega) (by omega) (by omega)).bind ?_))))
  rw [Int.toNat_natCast]
  refine (Gives.list (B := fieldB) (fun f hf => Gives.field fun x hx => ?_)).bind ((Gives.count2 (by omega) (by omega) (by omega)).bind ?_)
  · obtain ⟨f1, f2, f3⟩ := hr3 f hf
    have := textZ_lt f2 hc
    have := textZ_lt f3 hc
    unfold FlagsP at f1
    simp only [List.mem_cons, List.mem_nil_iff, or_false] at hx
    rcases hx with rfl | rfl | rfl <;> omega
  · rw [Int.toNat_natCast]
    exact (Gives.list (B := methodB c.pool) (fun m hm => Gives.method hc (hr4 m hm) (l3 m hm))).bind ((Gives.fixed2 (by decide) (by decide)).bind0 (Gives.ret _))
theorem Gives.head : Gives headP () headB := (Gives.fixed4 (by decide) (by decide)).bind (Gives.fixed4 (by decide) (by decide))
/-- There and back; whatever stands behind is not read. -/
theorem class_reads {c : ClassV} {bs : List Int} (h : clsZ c = 0) (hn : ∀ k ∈ c.pool, I64 k.n) (hb : ConstsB (c.pool.drop 1) bs) (post : List Int) :
    headP (fileB c bs ++ post) 0 = .ok ((), 8) ∧ DecP ((fileB c bs ++ post).drop 8) c.pool ((be2 c.pool.length ++ bs).length : Int) 0 ∧
      bodyP c.pool (fileB c bs ++ post) (8 + (be2 c.pool.length ++ bs).length) = .ok (c, (fileB c bs).length) := by
  have hhl : headB.length = 8 := rfl
  refine ⟨?_, ?_, ?_⟩
  · have := Gives.head [] (be2 c.pool.length ++ bs ++ bodyB c ++ post)
    simp only [List.nil_append, List.length_nil, Nat.zero_add, hhl] at this
    rw [← this]
    unfold fileB
    simp
  · have e : (fileB c bs ++ post).drop 8 = be2 c.pool.length ++ bs ++ (bodyB c ++ post) := by
      unfold fileB
      rw [← hhl, List.append_assoc, List.drop_left]
      simp
    rw [e]
    exact pool_back (clsZ_zero h).1 hn hb _
  · have := Gives.body h (headB ++ (be2 c.pool.length ++ bs)) post
    have e : headB ++ (be2 c.pool.length ++ bs) ++ (bodyB c ++ post) = fileB c bs ++ post := by unfold fileB; simp
    rw [e] at this
    rw [show 8 + (be2 (c.pool.length : Int) ++ bs).length = (headB ++ (be2 (c.pool.length : Int) ++ bs)).length by simp only [List.length_append, hhl], this]
    congr 2
    unfold fileB
    simp only [List.length_append]
    omega
theorem class_back {c : ClassV} {bs : List Int} (h : clsZ c = 0) (hn : ∀ k ∈ c.pool, I64 k.n) (hb : ConstsB (c.pool.drop 1) bs) : DecC (fileB c bs) (.ok c) := by
  obtain ⟨h1, h2, h3⟩ := class_reads h hn hb []
  rw [List.append_nil] at h1 h2 h3
  refine .inr ⟨8, _, _, _, h1, h2, .inr ⟨rfl, ?_⟩⟩
  rw [Int.toNat_natCast, h3]
  simp [endP, h]
theorem class_more {c : ClassV} {bs : List Int} (h : clsZ c = 0) (hn : ∀ k ∈ c.pool, I64 k.n) (hb : ConstsB (c.pool.drop 1) bs) (z : Int) : DecC (fileB c bs ++ [z]) (.error 50) := by
  obtain ⟨h1, h2, h3⟩ := class_reads h hn hb [z]
  refine .inr ⟨8, _, _, _, h1, h2, .inr ⟨rfl, ?_⟩⟩
  rw [Int.toNat_natCast, h3]
  simp [endP]
theorem fileB_len {c : ClassV} {bs : List Int} (h : clsZ c = 0) (hb : ConstsB (c.pool.drop 1) bs) : (fileB c bs).length ≤ 824597 ∧ (be2 c.pool.length ++ bs).length ≤ 264959 ∧ (bodyB c).length ≤ 559630 := by
  have h1 := (Good.body c.pool).up _ _ _ _ (Gives.body h [] [])
  have hc := (checkZ_zero (clsZ_zero h).1)
  have h2 := hb.len
  rw [List.length_drop] at h2
  have e2 : (be2 (c.pool.length : Int)).length = 2 := rfl
  have e3 : headB.length = 8 := rfl
  simp only [List.length_nil, Nat.zero_add] at h1
  unfold fileB
  simp only [List.length_append, e2, e3]
  omega

theorem RdC.cut {zs : List Int} {M k : Nat} {tag : Int} {c : ConstV} {k' : Nat} (hM : M ≤ zs.length) (h : RdC (zs.take M) k tag c k' 0) : RdC zs k tag c k' 0 := by
  have hl : (zs.take M).length = M := by rw [List.length_take, Nat.min_eq_left hM]
  unfold RdC at *
  by_cases h1 : tag = 1
  · rw [if_pos h1] at *
    unfold TextRd at h
    rw [hl] at h
    rcases h with ⟨h, h2⟩ | ⟨h, h2, h3⟩ | ⟨h, h2, h3, h4⟩ | ⟨h, h2, h3, ys, hd, h5, h6⟩
    · exact absurd h2 (by decide)
    · exact absurd h3 (by decide)
    · exact absurd h4 (by decide)
    · rw [uAt_take (by omega)] at h2 h3 h6 hd
      rw [drop_take_take (by omega)] at hd
      exact .inr (.inr (.inr ⟨by omega, h2, by omega, ys, hd, h5, h6⟩))
  rw [if_neg h1] at *
  have num : ∀ n mk, NumRd (zs.take M) k n mk c k' 0 → NumRd zs k n mk c k' 0 := fun n mk h => by
    unfold NumRd at h
    rw [hl] at h
    rcases h with ⟨h, h2⟩ | ⟨h, h2, h3, h4⟩
    · exact absurd h2 (by decide)
    · rw [uAt_take (by omega)] at h3
      exact .inr ⟨by omega, h2, h3, h4⟩
  by_cases h3 : tag = 3
  · rw [if_pos h3] at *; exact num _ _ h
  rw [if_neg h3] at *
  by_cases h5 : tag = 5
  · rw [if_pos h5] at *; exact num _ _ h
  rw [if_neg h5] at *
  by_cases h7 : tag = 7
  · rw [if_pos h7] at *; exact num _ _ h
  rw [if_neg h7] at *
  by_cases h9 : tag = 9 ∨ tag = 10 ∨ tag = 12
  · rw [if_pos h9] at *
    unfold PairRd at h
    rw [hl] at h
    rcases h with ⟨h, h2⟩ | ⟨h, h2, h3, h4⟩
    · exact absurd h2 (by decide)
    · rw [uAt_take (by omega), uAt_take (by omega)] at h3
      exact .inr ⟨by omega, h2, h3, h4⟩
  rw [if_neg h9] at *
  exact h
theorem Reads.cut {zs : List Int} {M : Nat} (hM : M ≤ zs.length) {ds : List ConstV} {k : Nat} (h : Reads (zs.take M) ds k) : Reads zs ds k := by
  induction h with
  | start => exact .start
  | more h1 r ih =>
    refine .more ih ?_
    rcases r with ⟨_, h2⟩ | ⟨h1, h2⟩
    · exact absurd h2 (by decide)
    · rw [List.length_take, Nat.min_eq_left hM] at h1
      rw [uAt_take (by omega)] at h2
      exact .inr ⟨by omega, h2.cut hM⟩
theorem DecP.cut {zs : List Int} {M : Nat} (hM : M ≤ zs.length) {cs : List ConstV} {n : Int} (h : DecP (zs.take M) cs n 0) : DecP zs cs n 0 := by
  unfold DecP at h
  rw [List.length_take, Nat.min_eq_left hM] at h
  rcases h with ⟨_, _, _, h⟩ | ⟨_, _, _, _, h⟩ | ⟨_, _, _, _, h⟩ | ⟨h1, h2, h3, hr⟩
  · exact absurd h (by decide)
  · exact absurd h (by decide)
  · exact absurd h (by decide)
  · rw [uAt_take (by omega)] at h2 h3 hr
    refine .inr (.inr (.inr ⟨by omega, h2, h3, ?_⟩))
    rcases hr with ⟨e0, hr, _, _, he⟩ | ⟨ds, k, hr, h4⟩
    · rcases hr with ⟨ds, k, c, k', e, _, _, _, h4, h5⟩ | ⟨ds, k, _, _, h5⟩
      · injection h5 with h5; exact absurd (he.trans h5).symm h4
      · cases h5
    · refine .inr ⟨ds, k, ?_, h4⟩
      rcases hr with ⟨_, _, _, _, _, _, _, _, _, h5⟩ | ⟨ds', k', h1, h2, h5⟩
      · cases h5
      · injection h5 with h5
        injection h5 with h5 h6
        subst h5 h6
        exact .inr ⟨_, _, h1.cut hM, h2, rfl⟩
/-- A right class's bytes, cut short, are none. -/
theorem class_cut {c : ClassV} {bs : List Int} (h : clsZ c = 0) (hn : ∀ k ∈ c.pool, I64 k.n) (hb : ConstsB (c.pool.drop 1) bs) {n : Nat} (hlt : n < (fileB c bs).length) {r : Except Int ClassV} (hd : DecC ((fileB c bs).take n) r) : ∃ e, e ≠ 0 ∧ r = .error e := by
  obtain ⟨g1, g2, g3⟩ := class_reads h hn hb []
  rw [List.append_nil] at g1 g2 g3
  have hnl : n ≤ (fileB c bs).length := by omega
  have ne : ∀ {e : Int}, headP ((fileB c bs).take n) 0 = .error e → e ≠ 0 := fun {e} he => by
    exact Ne0.head _ _ _ he
  rcases hd with ⟨e, h1, rfl⟩ | ⟨k, cs, m, e, h1, h2, h3⟩
  · exact ⟨e, ne h1, rfl⟩
  · rcases h3 with ⟨h3, rfl⟩ | ⟨rfl, rfl⟩
    · exact ⟨e, h3, rfl⟩
    · have hk := headP_ok h1
      subst hk
      have h2' : DecP ((fileB c bs).drop 8) cs m 0 := by
        rw [List.drop_take] at h2
        by_cases h8 : 8 ≤ n
        · exact h2.cut (by rw [List.length_drop]; omega)
        · rw [show n - 8 = 0 by omega, List.take_zero] at h2
          rcases h2 with ⟨_, _, _, h⟩ | ⟨h, _⟩ | ⟨h, _⟩ | ⟨h, _⟩
          · exact absurd h (by decide)
          all_goals simp at h
      obtain ⟨rfl, rfl, _⟩ := h2'.unique g2
      rw [Int.toNat_natCast]
      cases hc : bodyP c.pool ((fileB c bs).take n) (8 + (be2 (c.pool.length : Int) ++ bs).length) with
      | error e =>
        refine ⟨e, ?_, rfl⟩
        exact bodyP_ne hc
      | ok x =>
        obtain ⟨c', k'⟩ := x
        have := (Good.body c.pool).cut _ _ _ _ _ hnl hc
        rw [g3] at this
        injection this with this
        injection this with _ hk
        unfold endP
        simp only
        rw [if_neg (by rw [List.length_take, Nat.min_eq_left hnl]; omega)]
        exact ⟨50, by decide, rfl⟩
end Go.Proofs.YtodhdiccfobcfaaGreatDoor
