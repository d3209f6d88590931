import Derived.Test.YtgdgffnaknkbcaaGreatDoorMiLpAClone
import Derived.Test.YtgdgffnaknkbcaaGreatDoorMiMemPolV
namespace Go.Proofs.YtgdgffnaknkbcaaGreatDoor
open Go.RowKit
def WrS (wb : Nat) (sv : Value) : Nat → Prop := fun k => k = wb ∨ sv.ownBlock = some k
def fitU (n x : Int) : Bool := decide (1 ≤ n) && (decide (n ≤ 8) && (cutUv n.toNat x == x))
def fitI (n x : Int) : Bool := decide (1 ≤ n) && (decide (n ≤ 8) && (cutIv n.toNat x == x))
def wrErr (right : Bool) (n room : Int) : Int := if right = false then 1 else if room < n then 2 else 0
def rdK (k : Nat) (n err : Int) : Nat := if err = 0 then k + n.toNat else k
def rdPart (zs : List Int) (k : Nat) (n err : Int) : List Int := if err = 0 then (zs.drop k).take n.toNat else []
def rdU (zs : List Int) (k : Nat) (n err : Int) : Int := if err = 0 then valB ((zs.drop k).take n.toNat) else 0
def rdI (zs : List Int) (k : Nat) (n err : Int) : Int := if err = 0 then sgn n.toNat (valB ((zs.drop k).take n.toNat)) else 0
set_option linter.unusedVariables false
set_option linter.unusedSimpArgs false
def uAt (zs : List Int) (k n : Nat) : Int := valB ((zs.drop k).take n)
def noText : ByteArray := ⟨#[]⟩
def NumRd (zs : List Int) (k n : Nat) (mk : Int → ConstV) (c : ConstV) (k' : Nat) (e : Int) : Prop :=
 (zs.length < k + n ∧ e = 3) ∨ (k + n ≤ zs.length ∧ e = 0 ∧ c = mk (uAt zs k n) ∧ k' = k + n)
def PairRd (zs : List Int) (k : Nat) (tag : Int) (c : ConstV) (k' : Nat) (e : Int) : Prop :=
 (zs.length < k + 4 ∧ e = 3) ∨ (k + 4 ≤ zs.length ∧ e = 0 ∧ c = ⟨tag, noText, 0, uAt zs k 2, uAt zs (k + 2) 2⟩ ∧ k' = k + 4)
def TextRd (zs : List Int) (k : Nat) (c : ConstV) (k' : Nat) (e : Int) : Prop :=
 (zs.length < k + 2 ∧ e = 3) ∨ (k + 2 ≤ zs.length ∧ 256 < uAt zs k 2 ∧ e = 20) ∨ (k + 2 ≤ zs.length ∧ uAt zs k 2 ≤ 256 ∧ zs.length < k + 2 + (uAt zs k 2).toNat ∧ e = 3) ∨
 (k + 2 ≤ zs.length ∧ uAt zs k 2 ≤ 256 ∧ k + 2 + (uAt zs k 2).toNat ≤ zs.length ∧ ∃ ys, Dec ((zs.drop (k + 2)).take (uAt zs k 2).toNat) ys e ∧ c = ⟨1, strOfNums ys, 0, 0, 0⟩ ∧ k' = k + 2 + (uAt zs k 2).toNat)
def RdC (zs : List Int) (k : Nat) (tag : Int) (c : ConstV) (k' : Nat) (e : Int) : Prop :=
 if tag = 1 then TextRd zs k c k' e
 else if tag = 3 then NumRd zs k 4 (fun u => ⟨3, noText, sgn 4 u, 0, 0⟩) c k' e
 else if tag = 5 then NumRd zs k 8 (fun u => ⟨5, noText, sgn 8 u, 0, 0⟩) c k' e
 else if tag = 7 then NumRd zs k 2 (fun u => ⟨7, noText, 0, u, 0⟩) c k' e
 else if tag = 9 ∨ tag = 10 ∨ tag = 12 then PairRd zs k tag c k' e
 else e = 40
def RdOne (zs : List Int) (k : Nat) (c : ConstV) (k' : Nat) (e : Int) : Prop :=
 (zs.length < k + 1 ∧ e = 3) ∨ (k + 1 ≤ zs.length ∧ RdC zs (k + 1) (uAt zs k 1) c k' e)
theorem NumRd.unique {zs : List Int} {k n : Nat} {mk : Int → ConstV} {c c' : ConstV} {k1 k2 : Nat} {e e' : Int} (h : NumRd zs k n mk c k1 e) (h' : NumRd zs k n mk c' k2 e') : e = e' ∧ (e = 0 → c = c' ∧ k1 = k2) := by
 rcases h with ⟨h, rfl⟩ | ⟨h, rfl, rfl, rfl⟩ <;> rcases h' with ⟨h', rfl⟩ | ⟨h', rfl, rfl, rfl⟩
 ·exact ⟨rfl, fun h => absurd h (by decide)⟩
 ·omega
 ·omega
 ·exact ⟨rfl, fun _ => ⟨rfl, rfl⟩⟩
theorem PairRd.unique {zs : List Int} {k : Nat} {tag : Int} {c c' : ConstV} {k1 k2 : Nat} {e e' : Int} (h : PairRd zs k tag c k1 e) (h' : PairRd zs k tag c' k2 e') : e = e' ∧ (e = 0 → c = c' ∧ k1 = k2) := by
 rcases h with ⟨h, rfl⟩ | ⟨h, rfl, rfl, rfl⟩ <;> rcases h' with ⟨h', rfl⟩ | ⟨h', rfl, rfl, rfl⟩
 ·exact ⟨rfl, fun h => absurd h (by decide)⟩
 ·omega
 ·omega
 ·exact ⟨rfl, fun _ => ⟨rfl, rfl⟩⟩
theorem TextRd.unique {zs : List Int} {k : Nat} {c c' : ConstV} {k1 k2 : Nat} {e e' : Int} (h : TextRd zs k c k1 e) (h' : TextRd zs k c' k2 e') : e = e' ∧ (e = 0 → c = c' ∧ k1 = k2) := by
 rcases h with ⟨h, rfl⟩ | ⟨h, h2, rfl⟩ | ⟨h, h2, h3, rfl⟩ | ⟨h, h2, h3, ys, hd, rfl, rfl⟩ <;> rcases h' with ⟨h', rfl⟩ | ⟨h', h2', rfl⟩ | ⟨h', h2', h3', rfl⟩ | ⟨h', h2', h3', ys', hd', rfl, rfl⟩
 all_goals first
  | exact ⟨rfl, fun h => absurd h (by decide)⟩
  | omega
  | (obtain ⟨rfl, rfl⟩ := Dec.unique hd hd'; exact ⟨rfl, fun _ => ⟨rfl, rfl⟩⟩)
theorem RdC.unique {zs : List Int} {k : Nat} {tag : Int} {c c' : ConstV} {k1 k2 : Nat} {e e' : Int} (h : RdC zs k tag c k1 e) (h' : RdC zs k tag c' k2 e') : e = e' ∧ (e = 0 → c = c' ∧ k1 = k2) := by
 unfold RdC at h h'
 by_cases h1 : tag = 1
 ·rw [if_pos h1] at h h'; exact h.unique h'
 rw [if_neg h1] at h h'
 by_cases h3 : tag = 3
 ·rw [if_pos h3] at h h'; exact h.unique h'
 rw [if_neg h3] at h h'
 by_cases h5 : tag = 5
 ·rw [if_pos h5] at h h'; exact h.unique h'
 rw [if_neg h5] at h h'
 by_cases h7 : tag = 7
 ·rw [if_pos h7] at h h'; exact h.unique h'
 rw [if_neg h7] at h h'
 by_cases h9 : tag = 9 ∨ tag = 10 ∨ tag = 12
 ·rw [if_pos h9] at h h'; exact h.unique h'
 rw [if_neg h9] at h h'
 subst h h'
 exact ⟨rfl, fun h => absurd h (by decide)⟩
theorem RdOne.unique {zs : List Int} {k : Nat} {c c' : ConstV} {k1 k2 : Nat} {e e' : Int} (h : RdOne zs k c k1 e) (h' : RdOne zs k c' k2 e') : e = e' ∧ (e = 0 → c = c' ∧ k1 = k2) := by
 rcases h with ⟨h, rfl⟩ | ⟨h, hr⟩ <;> rcases h' with ⟨h', rfl⟩ | ⟨h', hr'⟩
 ·exact ⟨rfl, fun h => absurd h (by decide)⟩
 ·omega
 ·omega
 ·exact hr.unique hr'
def zeroK : ConstV := ⟨0, noText, 0, 0, 0⟩
inductive Reads (zs : List Int) : List ConstV → Nat → Prop
 | start : Reads zs [zeroK] 2
 | more {cs : List ConstV} {k k' : Nat} {c : ConstV} : Reads zs cs k → RdOne zs k c k' 0 → Reads zs (cs ++ [c]) k'
theorem Reads.ne_nil {zs : List Int} {cs : List ConstV} {k : Nat} (h : Reads zs cs k) : 0 < cs.length := by
 cases h with
 | start => simp
 | more _ _ => simp
theorem Reads.unique {zs : List Int} : ∀ {n : Nat} {cs ds : List ConstV} {k l : Nat}, cs.length = n → ds.length = n → Reads zs cs k → Reads zs ds l → cs = ds ∧ k = l
 | 0, cs, ds, k, l, hc, hd, h, h' => by have := h.ne_nil; omega
 | n + 1, cs, ds, k, l, hc, hd, h, h' => by
  cases h with
  | start =>
   cases h' with
   | start => exact ⟨rfl, rfl⟩
   | more h2 _ => have := h2.ne_nil; simp at hd hc; omega
  | more h1 r1 =>
   cases h' with
   | start => have := h1.ne_nil; simp at hd hc; omega
   | more h2 r2 =>
    simp only [List.length_append, List.length_cons, List.length_nil] at hc hd
    obtain ⟨rfl, rfl⟩ := Reads.unique (n := n) (by omega) (by omega) h1 h2
    obtain ⟨_, hu⟩ := r1.unique r2
    obtain ⟨rfl, rfl⟩ := hu rfl
    exact ⟨rfl, rfl⟩
theorem Reads.part {zs : List Int} {cs : List ConstV} {k : Nat} (h : Reads zs cs k) : ∀ {m : Nat}, 0 < m → m < cs.length → ∃ ds l c l', ds.length = m ∧ Reads zs ds l ∧ RdOne zs l c l' 0 := by
 induction h with
 | start => intro m h0 h1; simp at h1; omega
 | @more cs k k' c h1 r1 ih =>
  intro m h0 hm
  simp only [List.length_append, List.length_cons, List.length_nil] at hm
  by_cases e : m < cs.length
  ·exact ih h0 e
  ·exact ⟨cs, k, c, k', by omega, h1, r1⟩
def ReadsTo (zs : List Int) (N : Nat) (r : (List ConstV × Nat) ⊕ Int) : Prop :=
 (∃ ds k c k' e, Reads zs ds k ∧ ds.length < N ∧ RdOne zs k c k' e ∧ e ≠ 0 ∧ r = .inr e) ∨ (∃ ds k, Reads zs ds k ∧ ds.length = N ∧ r = .inl (ds, k))
theorem ReadsTo.unique {zs : List Int} {N : Nat} {r r' : (List ConstV × Nat) ⊕ Int} (h : ReadsTo zs N r) (h' : ReadsTo zs N r') : r = r' := by
 rcases h with ⟨ds, k, c, k', e, h1, h2, h3, h4, rfl⟩ | ⟨ds, k, h1, h2, rfl⟩ <;> rcases h' with ⟨ds', l, c', l', e', h1', h2', h3', h4', rfl⟩ | ⟨ds', l, h1', h2', rfl⟩
 ·have hlen : ds.length = ds'.length := by
   rcases Nat.lt_trichotomy ds.length ds'.length with hl | hl | hl
   ·obtain ⟨es, m, d, m', he, hr, ho⟩ := h1'.part h1.ne_nil hl
    obtain ⟨rfl, rfl⟩ := Reads.unique he rfl hr h1
    exact absurd (ho.unique h3).1.symm h4
   ·exact hl
   ·obtain ⟨es, m, d, m', he, hr, ho⟩ := h1.part h1'.ne_nil hl
    obtain ⟨rfl, rfl⟩ := Reads.unique he rfl hr h1'
    exact absurd (ho.unique h3').1.symm h4'
  obtain ⟨rfl, rfl⟩ := Reads.unique rfl hlen.symm h1 h1'
  rw [(h3.unique h3').1]
 ·obtain ⟨es, m, d, m', he, hr, ho⟩ := h1'.part h1.ne_nil (by omega)
  obtain ⟨rfl, rfl⟩ := Reads.unique he rfl hr h1
  exact absurd (ho.unique h3).1.symm h4
 ·obtain ⟨es, m, d, m', he, hr, ho⟩ := h1.part h1'.ne_nil (by omega)
  obtain ⟨rfl, rfl⟩ := Reads.unique he rfl hr h1'
  exact absurd (ho.unique h3').1.symm h4'
 ·obtain ⟨rfl, rfl⟩ := Reads.unique h2 h2' h1 h1'
  rfl
section
variable (rb : Nat) (sv : Value) (zs : List Int) (k n : Nat) (w : World)
end
abbrev pan (z : Int) : Ending := .panicked [{ v := .iface 24 (.int .i64 z), recovered := false }]
abbrev Pr (α : Type) := List Int → Nat → Except Int (α × Nat)
def retP {α : Type} (a : α) : Pr α := fun _ k => .ok (a, k)
def failP {α : Type} (e : Int) : Pr α := fun _ _ => .error e
def bindP {α β : Type} (p : Pr α) (f : α → Pr β) : Pr β := fun zs k => match p zs k with | .ok (a, k') => f a zs k' | .error e => .error e
def numP (n : Nat) : Pr Int := fun zs k => if k + n ≤ zs.length then .ok (uAt zs k n, k + n) else .error 3
def bytesP (n : Nat) : Pr (List Int) := fun zs k => if k + n ≤ zs.length then .ok ((zs.drop k).take n, k + n) else .error 3
def atP : Pr Nat := fun _ k => .ok (k, k)
def listP {α : Type} (p : Pr α) : Nat → Pr (List α)
 | 0 => retP []
 | n + 1 => bindP p fun a => bindP (listP p n) fun l => retP (a :: l)
abbrev unitV : Unit → Value := fun _ => .tuple #[]
def ListTo {α : Type} (p : Pr α) (n : Nat) (zs : List Int) (k : Nat) (l : List α) (k' : Nat) : Prop := listP p n zs k = bindP (listP p (n - l.length)) (fun r => retP (l ++ r)) zs k'
section
variable {α : Type} {p : Pr α} {n : Nat} {zs : List Int} {k k' k'' : Nat} {l : List α} {a : α} {e : Int}
theorem ListTo.start : ListTo p n zs k [] k := by
 unfold ListTo bindP retP
 simp only [List.length_nil, Nat.sub_zero, List.nil_append]
 cases listP p n zs k <;> rfl
theorem ListTo.more (h : ListTo p n zs k l k') (hl : l.length < n) (hp : p zs k' = .ok (a, k'')) : ListTo p n zs k (l ++ [a]) k'' := by
 unfold ListTo at *
 rw [h]
 obtain ⟨m, hm⟩ : ∃ m, n - l.length = m + 1 := ⟨n - l.length - 1, by omega⟩
 have hm2 : n - (l ++ [a]).length = m := by simp; omega
 rw [hm, hm2]
 simp only [listP, bindP, retP, hp]
 cases listP p m zs k'' with
 | error e => rfl
 | ok x => simp
theorem ListTo.fail (h : ListTo p n zs k l k') (hl : l.length < n) (hp : p zs k' = .error e) : listP p n zs k = .error e := by
 unfold ListTo at h
 rw [h]
 obtain ⟨m, hm⟩ : ∃ m, n - l.length = m + 1 := ⟨n - l.length - 1, by omega⟩
 rw [hm]
 simp only [listP, bindP, retP, hp]
theorem ListTo.done (h : ListTo p n zs k l k') (hl : l.length = n) : listP p n zs k = .ok (l, k') := by
 unfold ListTo at h
 rw [h, hl, Nat.sub_self]
 simp only [listP, bindP, retP, List.append_nil]
end
abbrev StZ := Except Int Nat
def runP {α : Type} (p : Pr α) (zs : List Int) : StZ → Except Int (α × Nat)
 | .ok k => p zs k
 | .error e => .error e
def withZ {α : Type} (a : α) : StZ → Except Int (α × Nat)
 | .ok k => .ok (a, k)
 | .error e => .error e
def Nx {α : Type} (p : Pr α) (zs : List Int) (σ : StZ) (a : α) (σ' : StZ) : Prop := runP p zs σ = withZ a σ'
theorem Nx.ret {α : Type} (a : α) (zs : List Int) (σ : StZ) : Nx (retP a) zs σ a σ := by cases σ <;> rfl
theorem Nx.bad {α : Type} (p : Pr α) (a : α) (zs : List Int) (e : Int) : Nx p zs (.error e) a (.error e) := rfl
def failS (x : Int) : StZ → StZ
 | .ok k => if x = 0 then .ok k else .error x
 | .error e => .error e
theorem Nx.fail {α : Type} (a : α) {zs : List Int} {σ : StZ} {x : Int} (h : x ≠ 0) : Nx (failP x) zs σ a (failS x σ) := by
 unfold Nx
 cases σ with
 | ok k => simp only [failS, if_neg h]; rfl
 | error e => rfl
def StK (σ : StZ) (k : Nat) (e : Int) : Prop := match σ with
 | .ok k' => k' = k ∧ e = 0
 | .error x => e = x ∧ x ≠ 0
theorem Nx.at {σ : StZ} {k : Nat} {e : Int} (zs : List Int) (h : StK σ k e) : Nx atP zs σ k σ := by
 unfold Nx
 cases σ with
 | ok k' => obtain ⟨rfl, _⟩ := h; rfl
 | error e => rfl
def ListS {α : Type} (p : Pr α) (n : Nat) (zs : List Int) (σ0 : StZ) (l : List α) : StZ → Prop
 | .ok k => ∃ k0, σ0 = .ok k0 ∧ ListTo p n zs k0 l k
 | .error e => runP (listP p n) zs σ0 = .error e
section
variable {α : Type} {p : Pr α} {n : Nat} {zs : List Int} {σ0 σ σ' : StZ} {l : List α} {a : α}
theorem ListS.start : ListS p n zs σ0 [] σ0 := by
 cases σ0 with
 | ok k => exact ⟨k, rfl, ListTo.start⟩
 | error e => rfl
theorem ListS.more {k : Nat} (h : ListS p n zs σ0 l (.ok k)) (hl : l.length < n) (hp : Nx p zs (.ok k) a σ') : ListS p n zs σ0 (l ++ [a]) σ' := by
 obtain ⟨k0, rfl, h⟩ := h
 cases σ' with
 | ok k' => exact ⟨k0, rfl, h.more hl hp⟩
 | error e => exact h.fail hl hp
theorem ListS.done (h : ListS p n zs σ0 l σ) (hd : (∃ e, σ = .error e) ∨ l.length = n) : Nx (listP p n) zs σ0 l σ := by
 cases σ with
 | error e => exact h
 | ok k =>
  rcases hd with ⟨e, he⟩ | hd
  ·cases he
  ·obtain ⟨k0, rfl, h⟩ := h
   exact h.done hd
end
end Go.Proofs.YtgdgffnaknkbcaaGreatDoor
