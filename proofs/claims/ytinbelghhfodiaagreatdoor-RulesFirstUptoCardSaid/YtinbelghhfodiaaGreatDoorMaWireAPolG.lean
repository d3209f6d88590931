import Derived.Test.YtinbelghhfodiaaGreatDoorRows
import Derived.Test.YtinbelghhfodiaaGreatDoorMaSepPolT
import Derived.Deep.QuietTactic
import Derived.BigQuiet
import Derived.Laws.BitsAllLaws
namespace Go.Proofs.YtinbelghhfodiaaGreatDoor
open Go.RowKit
def RdCells (w : World) (rb : Nat) (ao : Option Addr) (n cap : Nat) (at_ : Nat) : Prop :=
 w.cell? ⟨rb, 0, none⟩ = some (.slice ao n cap) ∧ w.cell? ⟨rb, 1, none⟩ = some (.int .i64 at_) ∧ w.cell? ⟨rb, 2, none⟩ = some (.bool true)
def rdErr0 (n left : Int) : Int := if n < 1 ∨ 8 < n then 1 else if left < n then 3 else 0
def rdErr1 (n left : Int) : Int := if n < 0 then 1 else if left < n then 3 else 0
def valB (zs : List Int) : Int := zs.foldl (fun x c => x * 256 + c) 0
theorem valB_snoc (zs : List Int) (c : Int) : valB (zs ++ [c]) = valB zs * 256 + c := by simp [valB]
theorem valB_lt : ∀ (n : Nat) (zs : List Int), zs.length = n → Bytish zs → 0 ≤ valB zs ∧ valB zs < 256 ^ n := by
 intro n
 induction n with
 | zero => intro zs h _; rw [List.eq_nil_of_length_eq_zero h]; simp [valB]
 | succ n ih =>
  intro zs h hz
  have hne : zs ≠ [] := by intro e; subst e; simp at h
  have he : zs = zs.dropLast ++ [zs.getLast hne] := (List.dropLast_concat_getLast hne).symm
  have h1 := ih zs.dropLast (by simp; omega) (fun z hz' => hz z ((List.dropLast_sublist zs).subset hz'))
  have h2 := hz (zs.getLast hne) (List.getLast_mem hne)
  unfold IsByte at h2
  rw [he, valB_snoc]
  have : (256 : Int) ^ (n + 1) = 256 ^ n * 256 := by rw [Int.pow_succ]
  rw [this]
  omega
def cutUv (n : Nat) (x : Int) : Int := IntKind.u64.wrap (x * 2 ^ (8 * (8 - n))) / 2 ^ (8 * (8 - n))
def cutIv (n : Nat) (x : Int) : Int := wrap64 (x * 2 ^ (8 * (8 - n))) / 2 ^ (8 * (8 - n))
def sgn (n : Nat) (v : Int) : Int := if 2 ^ (8 * n - 1) ≤ v then v - 2 ^ (8 * n) else v
def dig (x : Int) (i : Nat) : Int := IntKind.u8.wrap (x / 2 ^ (8 * i))
def digsTo (n : Nat) (x : Int) (j : Nat) : List Int := (List.range j).map (fun t => dig x (n - 1 - t))
def digs (n : Nat) (x : Int) : List Int := digsTo n x n
def Moved (rb : Nat) (k : Int) (w w' : World) : Prop := ∃ nq, w' = (w.setCell ⟨rb, 1, none⟩ (.int .i64 k)).drewN nq
theorem Moved.after {rb : Nat} {k : Int} {w w' w'' : World} (h : Drawn w w') (h' : Moved rb k w' w'') : Moved rb k w w'' := by
 obtain ⟨a, rfl⟩ := h; obtain ⟨b, rfl⟩ := h'; exact ⟨a + b, by simp [World.drewN, World.setCell, Nat.add_assoc]⟩
theorem Moved.frozen {rb : Nat} {k : Int} {w w' : World} (h : Moved rb k w w') (a : Addr) : w'.frozen? a = w.frozen? a := by
 obtain ⟨n, rfl⟩ := h
 show (w.setCell _ _).frozen? _ = _
 simp
theorem Moved.only {rb : Nat} {k : Int} {w w' : World} (h : Moved rb k w w') : Only (fun b => b = rb) w w' := by
 obtain ⟨n, rfl⟩ := h
 exact (Only.setCell (S := fun b => b = rb) (Only.refl _ _) (fun _ => rfl) _).drewN n
def WrS (wb : Nat) (sv : Value) : Nat → Prop := fun k => k = wb ∨ sv.ownBlock = some k
def fitU (n x : Int) : Bool := decide (1 ≤ n) && (decide (n ≤ 8) && (cutUv n.toNat x == x))
def fitI (n x : Int) : Bool := decide (1 ≤ n) && (decide (n ≤ 8) && (cutIv n.toNat x == x))
def wrErr (right : Bool) (n room : Int) : Int := if right = false then 1 else if room < n then 2 else 0
def rdK (k : Nat) (n err : Int) : Nat := if err = 0 then k + n.toNat else k
def rdPart (zs : List Int) (k : Nat) (n err : Int) : List Int := if err = 0 then (zs.drop k).take n.toNat else []
def rdU (zs : List Int) (k : Nat) (n err : Int) : Int := if err = 0 then valB ((zs.drop k).take n.toNat) else 0
def rdI (zs : List Int) (k : Nat) (n err : Int) : Int := if err = 0 then sgn n.toNat (valB ((zs.drop k).take n.toNat)) else 0
set_option linter.unusedVariables false
set_option linter.unusedSimpArgs false
def uAt (zs : List Int) (k n : Nat) : Int := valB ((zs.drop k).take n)
def noText : ByteArray := ⟨#[]⟩
def NumRd (zs : List Int) (k n : Nat) (mk : Int → ConstV) (c : ConstV) (k' : Nat) (e : Int) : Prop :=
 (zs.length < k + n ∧ e = 3) ∨ (k + n ≤ zs.length ∧ e = 0 ∧ c = mk (uAt zs k n) ∧ k' = k + n)
def PairRd (zs : List Int) (k : Nat) (tag : Int) (c : ConstV) (k' : Nat) (e : Int) : Prop :=
 (zs.length < k + 4 ∧ e = 3) ∨ (k + 4 ≤ zs.length ∧ e = 0 ∧ c = ⟨tag, noText, 0, uAt zs k 2, uAt zs (k + 2) 2⟩ ∧ k' = k + 4)
def TextRd (zs : List Int) (k : Nat) (c : ConstV) (k' : Nat) (e : Int) : Prop :=
 (zs.length < k + 2 ∧ e = 3) ∨ (k + 2 ≤ zs.length ∧ 256 < uAt zs k 2 ∧ e = 20) ∨ (k + 2 ≤ zs.length ∧ uAt zs k 2 ≤ 256 ∧ zs.length < k + 2 + (uAt zs k 2).toNat ∧ e = 3) ∨
 (k + 2 ≤ zs.length ∧ uAt zs k 2 ≤ 256 ∧ k + 2 + (uAt zs k 2).toNat ≤ zs.length ∧ ∃ ys, Dec ((zs.drop (k + 2)).take (uAt zs k 2).toNat) ys e ∧ c = ⟨1, strOfNums ys, 0, 0, 0⟩ ∧ k' = k + 2 + (uAt zs k 2).toNat)
def RdC (zs : List Int) (k : Nat) (tag : Int) (c : ConstV) (k' : Nat) (e : Int) : Prop :=
 if tag = 1 then TextRd zs k c k' e
 else if tag = 3 then NumRd zs k 4 (fun u => ⟨3, noText, sgn 4 u, 0, 0⟩) c k' e
 else if tag = 5 then NumRd zs k 8 (fun u => ⟨5, noText, sgn 8 u, 0, 0⟩) c k' e
 else if tag = 7 then NumRd zs k 2 (fun u => ⟨7, noText, 0, u, 0⟩) c k' e
 else if tag = 9 ∨ tag = 10 ∨ tag = 12 then PairRd zs k tag c k' e
 else e = 40
def RdOne (zs : List Int) (k : Nat) (c : ConstV) (k' : Nat) (e : Int) : Prop :=
 (zs.length < k + 1 ∧ e = 3) ∨ (k + 1 ≤ zs.length ∧ RdC zs (k + 1) (uAt zs k 1) c k' e)
theorem NumRd.unique {zs : List Int} {k n : Nat} {mk : Int → ConstV} {c c' : ConstV} {k1 k2 : Nat} {e e' : Int} (h : NumRd zs k n mk c k1 e) (h' : NumRd zs k n mk c' k2 e') : e = e' ∧ (e = 0 → c = c' ∧ k1 = k2) := by
 rcases h with ⟨h, rfl⟩ | ⟨h, rfl, rfl, rfl⟩ <;> rcases h' with ⟨h', rfl⟩ | ⟨h', rfl, rfl, rfl⟩
 ·exact ⟨rfl, fun h => absurd h (by decide)⟩
 ·omega
 ·omega
 ·exact ⟨rfl, fun _ => ⟨rfl, rfl⟩⟩
theorem PairRd.unique {zs : List Int} {k : Nat} {tag : Int} {c c' : ConstV} {k1 k2 : Nat} {e e' : Int} (h : PairRd zs k tag c k1 e) (h' : PairRd zs k tag c' k2 e') : e = e' ∧ (e = 0 → c = c' ∧ k1 = k2) := by
 rcases h with ⟨h, rfl⟩ | ⟨h, rfl, rfl, rfl⟩ <;> rcases h' with ⟨h', rfl⟩ | ⟨h', rfl, rfl, rfl⟩
 ·exact ⟨rfl, fun h => absurd h (by decide)⟩
 ·omega
 ·omega
 ·exact ⟨rfl, fun _ => ⟨rfl, rfl⟩⟩
theorem TextRd.unique {zs : List Int} {k : Nat} {c c' : ConstV} {k1 k2 : Nat} {e e' : Int} (h : TextRd zs k c k1 e) (h' : TextRd zs k c' k2 e') : e = e' ∧ (e = 0 → c = c' ∧ k1 = k2) := by
 rcases h with ⟨h, rfl⟩ | ⟨h, h2, rfl⟩ | ⟨h, h2, h3, rfl⟩ | ⟨h, h2, h3, ys, hd, rfl, rfl⟩ <;> rcases h' with ⟨h', rfl⟩ | ⟨h', h2', rfl⟩ | ⟨h', h2', h3', rfl⟩ | ⟨h', h2', h3', ys', hd', rfl, rfl⟩
 all_goals first
  | exact ⟨rfl, fun h => absurd h (by decide)⟩
  | omega
  | (obtain ⟨rfl, rfl⟩ := Dec.unique hd hd'; exact ⟨rfl, fun _ => ⟨rfl, rfl⟩⟩)
theorem RdC.unique {zs : List Int} {k : Nat} {tag : Int} {c c' : ConstV} {k1 k2 : Nat} {e e' : Int} (h : RdC zs k tag c k1 e) (h' : RdC zs k tag c' k2 e') : e = e' ∧ (e = 0 → c = c' ∧ k1 = k2) := by
 unfold RdC at h h'
 by_cases h1 : tag = 1
 ·rw [if_pos h1] at h h'; exact h.unique h'
 rw [if_neg h1] at h h'
 by_cases h3 : tag = 3
 ·rw [if_pos h3] at h h'; exact h.unique h'
 rw [if_neg h3] at h h'
 by_cases h5 : tag = 5
 ·rw [if_pos h5] at h h'; exact h.unique h'
 rw [if_neg h5] at h h'
 by_cases h7 : tag = 7
 ·rw [if_pos h7] at h h'; exact h.unique h'
 rw [if_neg h7] at h h'
 by_cases h9 : tag = 9 ∨ tag = 10 ∨ tag = 12
 ·rw [if_pos h9] at h h'; exact h.unique h'
 rw [if_neg h9] at h h'
 subst h h'
 exact ⟨rfl, fun h => absurd h (by decide)⟩
theorem RdOne.unique {zs : List Int} {k : Nat} {c c' : ConstV} {k1 k2 : Nat} {e e' : Int} (h : RdOne zs k c k1 e) (h' : RdOne zs k c' k2 e') : e = e' ∧ (e = 0 → c = c' ∧ k1 = k2) := by
 rcases h with ⟨h, rfl⟩ | ⟨h, hr⟩ <;> rcases h' with ⟨h', rfl⟩ | ⟨h', hr'⟩
 ·exact ⟨rfl, fun h => absurd h (by decide)⟩
 ·omega
 ·omega
 ·exact hr.unique hr'
def zeroK : ConstV := ⟨0, noText, 0, 0, 0⟩
inductive Reads (zs : List Int) : List ConstV → Nat → Prop
 | start : Reads zs [zeroK] 2
 | more {cs : List ConstV} {k k' : Nat} {c : ConstV} : Reads zs cs k → RdOne zs k c k' 0 → Reads zs (cs ++ [c]) k'
theorem Reads.ne_nil {zs : List Int} {cs : List ConstV} {k : Nat} (h : Reads zs cs k) : 0 < cs.length := by
 cases h with
 | start => simp
 | more _ _ => simp
theorem Reads.unique {zs : List Int} : ∀ {n : Nat} {cs ds : List ConstV} {k l : Nat}, cs.length = n → ds.length = n → Reads zs cs k → Reads zs ds l → cs = ds ∧ k = l
 | 0, cs, ds, k, l, hc, hd, h, h' => by have := h.ne_nil; omega
 | n + 1, cs, ds, k, l, hc, hd, h, h' => by
  cases h with
  | start =>
   cases h' with
   | start => exact ⟨rfl, rfl⟩
   | more h2 _ => have := h2.ne_nil; simp at hd hc; omega
  | more h1 r1 =>
   cases h' with
   | start => have := h1.ne_nil; simp at hd hc; omega
   | more h2 r2 =>
    simp only [List.length_append, List.length_cons, List.length_nil] at hc hd
    obtain ⟨rfl, rfl⟩ := Reads.unique (n := n) (by omega) (by omega) h1 h2
    obtain ⟨_, hu⟩ := r1.unique r2
    obtain ⟨rfl, rfl⟩ := hu rfl
    exact ⟨rfl, rfl⟩
theorem Reads.part {zs : List Int} {cs : List ConstV} {k : Nat} (h : Reads zs cs k) : ∀ {m : Nat}, 0 < m → m < cs.length → ∃ ds l c l', ds.length = m ∧ Reads zs ds l ∧ RdOne zs l c l' 0 := by
 induction h with
 | start => intro m h0 h1; simp at h1; omega
 | @more cs k k' c h1 r1 ih =>
  intro m h0 hm
  simp only [List.length_append, List.length_cons, List.length_nil] at hm
  by_cases e : m < cs.length
  ·exact ih h0 e
  ·exact ⟨cs, k, c, k', by omega, h1, r1⟩
def ReadsTo (zs : List Int) (N : Nat) (r : (List ConstV × Nat) ⊕ Int) : Prop :=
 (∃ ds k c k' e, Reads zs ds k ∧ ds.length < N ∧ RdOne zs k c k' e ∧ e ≠ 0 ∧ r = .inr e) ∨ (∃ ds k, Reads zs ds k ∧ ds.length = N ∧ r = .inl (ds, k))
theorem ReadsTo.unique {zs : List Int} {N : Nat} {r r' : (List ConstV × Nat) ⊕ Int} (h : ReadsTo zs N r) (h' : ReadsTo zs N r') : r = r' := by
 rcases h with ⟨ds, k, c, k', e, h1, h2, h3, h4, rfl⟩ | ⟨ds, k, h1, h2, rfl⟩ <;> rcases h' with ⟨ds', l, c', l', e', h1', h2', h3', h4', rfl⟩ | ⟨ds', l, h1', h2', rfl⟩
 ·have hlen : ds.length = ds'.length := by
   rcases Nat.lt_trichotomy ds.length ds'.length with hl | hl | hl
   ·obtain ⟨es, m, d, m', he, hr, ho⟩ := h1'.part h1.ne_nil hl
    obtain ⟨rfl, rfl⟩ := Reads.unique he rfl hr h1
    exact absurd (ho.unique h3).1.symm h4
   ·exact hl
   ·obtain ⟨es, m, d, m', he, hr, ho⟩ := h1.part h1'.ne_nil hl
    obtain ⟨rfl, rfl⟩ := Reads.unique he rfl hr h1'
    exact absurd (ho.unique h3').1.symm h4'
  obtain ⟨rfl, rfl⟩ := Reads.unique rfl hlen.symm h1 h1'
  rw [(h3.unique h3').1]
 ·obtain ⟨es, m, d, m', he, hr, ho⟩ := h1'.part h1.ne_nil (by omega)
  obtain ⟨rfl, rfl⟩ := Reads.unique he rfl hr h1
  exact absurd (ho.unique h3).1.symm h4
 ·obtain ⟨es, m, d, m', he, hr, ho⟩ := h1.part h1'.ne_nil (by omega)
  obtain ⟨rfl, rfl⟩ := Reads.unique he rfl hr h1'
  exact absurd (ho.unique h3').1.symm h4'
 ·obtain ⟨rfl, rfl⟩ := Reads.unique h2 h2' h1 h1'
  rfl
end Go.Proofs.YtinbelghhfodiaaGreatDoor
