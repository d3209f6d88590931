import Derived.Test.YtinbelghhfodiaaGreatDoorMaWireAPolG
import Derived.Test.YtinbelghhfodiaaGreatDoorMaKndBRulN
import Derived.Test.YtinbelghhfodiaaGreatDoorMaSepPolT
import Derived.Test.YtinbelghhfodiaaGreatDoorMaPolMPolV
import Derived.OwnWalk
import Derived.ArgAppend
namespace Go.Proofs.YtinbelghhfodiaaGreatDoor
open Go.RowKit
set_option linter.unusedVariables false
set_option linter.unusedSimpArgs false
section
variable (rb : Nat) (sv : Value) (zs : List Int) (k n : Nat) (w : World)
end
abbrev pan (z : Int) : Ending := .panicked [{ v := .iface 34 (.int .i64 z), recovered := false }]
abbrev Pr (α : Type) := List Int → Nat → Except Int (α × Nat)
def retP {α : Type} (a : α) : Pr α := fun _ k => .ok (a, k)
def failP {α : Type} (e : Int) : Pr α := fun _ _ => .error e
def bindP {α β : Type} (p : Pr α) (f : α → Pr β) : Pr β := fun zs k => match p zs k with | .ok (a, k') => f a zs k' | .error e => .error e
def numP (n : Nat) : Pr Int := fun zs k => if k + n ≤ zs.length then .ok (uAt zs k n, k + n) else .error 3
def bytesP (n : Nat) : Pr (List Int) := fun zs k => if k + n ≤ zs.length then .ok ((zs.drop k).take n, k + n) else .error 3
def atP : Pr Nat := fun _ k => .ok (k, k)
def listP {α : Type} (p : Pr α) : Nat → Pr (List α)
 | 0 => retP []
 | n + 1 => bindP p fun a => bindP (listP p n) fun l => retP (a :: l)
abbrev unitV : Unit → Value := fun _ => .tuple #[]
def ListTo {α : Type} (p : Pr α) (n : Nat) (zs : List Int) (k : Nat) (l : List α) (k' : Nat) : Prop := listP p n zs k = bindP (listP p (n - l.length)) (fun r => retP (l ++ r)) zs k'
section
variable {α : Type} {p : Pr α} {n : Nat} {zs : List Int} {k k' k'' : Nat} {l : List α} {a : α} {e : Int}
theorem ListTo.start : ListTo p n zs k [] k := by
 unfold ListTo bindP retP
 simp only [List.length_nil, Nat.sub_zero, List.nil_append]
 cases listP p n zs k <;> rfl
theorem ListTo.more (h : ListTo p n zs k l k') (hl : l.length < n) (hp : p zs k' = .ok (a, k'')) : ListTo p n zs k (l ++ [a]) k'' := by
 unfold ListTo at *
 rw [h]
 obtain ⟨m, hm⟩ : ∃ m, n - l.length = m + 1 := ⟨n - l.length - 1, by omega⟩
 have hm2 : n - (l ++ [a]).length = m := by simp; omega
 rw [hm, hm2]
 simp only [listP, bindP, retP, hp]
 cases listP p m zs k'' with
 | error e => rfl
 | ok x => simp
theorem ListTo.fail (h : ListTo p n zs k l k') (hl : l.length < n) (hp : p zs k' = .error e) : listP p n zs k = .error e := by
 unfold ListTo at h
 rw [h]
 obtain ⟨m, hm⟩ : ∃ m, n - l.length = m + 1 := ⟨n - l.length - 1, by omega⟩
 rw [hm]
 simp only [listP, bindP, retP, hp]
theorem ListTo.done (h : ListTo p n zs k l k') (hl : l.length = n) : listP p n zs k = .ok (l, k') := by
 unfold ListTo at h
 rw [h, hl, Nat.sub_self]
 simp only [listP, bindP, retP, List.append_nil]
end
abbrev StZ := Except Int Nat
def runP {α : Type} (p : Pr α) (zs : List Int) : StZ → Except Int (α × Nat)
 | .ok k => p zs k
 | .error e => .error e
def withZ {α : Type} (a : α) : StZ → Except Int (α × Nat)
 | .ok k => .ok (a, k)
 | .error e => .error e
def Nx {α : Type} (p : Pr α) (zs : List Int) (σ : StZ) (a : α) (σ' : StZ) : Prop := runP p zs σ = withZ a σ'
theorem Nx.ret {α : Type} (a : α) (zs : List Int) (σ : StZ) : Nx (retP a) zs σ a σ := by cases σ <;> rfl
theorem Nx.bad {α : Type} (p : Pr α) (a : α) (zs : List Int) (e : Int) : Nx p zs (.error e) a (.error e) := rfl
def failS (x : Int) : StZ → StZ
 | .ok k => if x = 0 then .ok k else .error x
 | .error e => .error e
theorem Nx.fail {α : Type} (a : α) {zs : List Int} {σ : StZ} {x : Int} (h : x ≠ 0) : Nx (failP x) zs σ a (failS x σ) := by
 unfold Nx
 cases σ with
 | ok k => simp only [failS, if_neg h]; rfl
 | error e => rfl
def StK (σ : StZ) (k : Nat) (e : Int) : Prop := match σ with
 | .ok k' => k' = k ∧ e = 0
 | .error x => e = x ∧ x ≠ 0
theorem Nx.at {σ : StZ} {k : Nat} {e : Int} (zs : List Int) (h : StK σ k e) : Nx atP zs σ k σ := by
 unfold Nx
 cases σ with
 | ok k' => obtain ⟨rfl, _⟩ := h; rfl
 | error e => rfl
def ListS {α : Type} (p : Pr α) (n : Nat) (zs : List Int) (σ0 : StZ) (l : List α) : StZ → Prop
 | .ok k => ∃ k0, σ0 = .ok k0 ∧ ListTo p n zs k0 l k
 | .error e => runP (listP p n) zs σ0 = .error e
section
variable {α : Type} {p : Pr α} {n : Nat} {zs : List Int} {σ0 σ σ' : StZ} {l : List α} {a : α}
theorem ListS.start : ListS p n zs σ0 [] σ0 := by
 cases σ0 with
 | ok k => exact ⟨k, rfl, ListTo.start⟩
 | error e => rfl
theorem ListS.more {k : Nat} (h : ListS p n zs σ0 l (.ok k)) (hl : l.length < n) (hp : Nx p zs (.ok k) a σ') : ListS p n zs σ0 (l ++ [a]) σ' := by
 obtain ⟨k0, rfl, h⟩ := h
 cases σ' with
 | ok k' => exact ⟨k0, rfl, h.more hl hp⟩
 | error e => exact h.fail hl hp
theorem ListS.done (h : ListS p n zs σ0 l σ) (hd : (∃ e, σ = .error e) ∨ l.length = n) : Nx (listP p n) zs σ0 l σ := by
 cases σ with
 | error e => exact h
 | ok k =>
  rcases hd with ⟨e, he⟩ | hd
  ·cases he
  ·obtain ⟨k0, rfl, h⟩ := h
   exact h.done hd
end
def TypeR (t : TypeV) : Prop := (-9223372036854775808 ≤ t.k ∧ t.k ≤ 9223372036854775807) ∧ (-9223372036854775808 ≤ t.dims ∧ t.dims ≤ 9223372036854775807) ∧ (-9223372036854775808 ≤ t.elem ∧ t.elem ≤ 9223372036854775807) ∧ (-9223372036854775808 ≤ t.at_ ∧ t.at_ ≤ 9223372036854775807) ∧ t.name.size ≤ 140737488351232
def refB (nm : ByteArray) : ByteArray := ⟨#[76]⟩ ++ nm ++ ⟨#[59]⟩
def baseText (t : TypeV) : ByteArray :=
 if t.k = 1 then (if eqT t ⟨1, ⟨#[]⟩, 0, 0, 0⟩ then ⟨#[73]⟩ else ⟨#[]⟩)
 else if t.k = 2 then (if eqT t ⟨2, ⟨#[]⟩, 0, 0, 0⟩ then ⟨#[74]⟩ else ⟨#[]⟩)
 else if t.k = 8 then (if eqT t ⟨8, ⟨#[]⟩, 0, 0, 0⟩ then ⟨#[86]⟩ else ⟨#[]⟩)
 else if t.k = 4 then (if plainN (nums t.name) && eqT t ⟨4, t.name, 0, 0, 0⟩ then refB t.name else ⟨#[]⟩)
 else ⟨#[]⟩
def preB : Nat → ByteArray → ByteArray
 | 0, s => s
 | n + 1, s => ⟨#[91]⟩ ++ preB n s
def badArr (t : TypeV) : Bool := (decide (t.dims < 1) || decide (4 < t.dims)) || (t.at_ != 0 || (t.elem != 1 && (t.elem != 2 && t.elem != 4)))
def textZ8 (t : TypeV) : ByteArray :=
 if t.k = 5 then (if badArr t then ⟨#[]⟩ else let s := baseText ⟨t.elem, t.name, 0, 0, 0⟩; if s = ⟨#[]⟩ then ⟨#[]⟩ else preB t.dims.toNat s) else baseText t
theorem preB_size : ∀ (n : Nat) (s : ByteArray), (preB n s).size = n + s.size
 | 0, s => by simp [preB]
 | n + 1, s => by
  rw [preB, ByteArray.size_append, preB_size n s]
  have : (⟨#[91]⟩ : ByteArray).size = 1 := rfl
  omega
def holdsZ8 (t : TypeV) : TypeV × Bool := if t.k = 5 then (if 1 < t.dims then (⟨5, t.name, t.dims - 1, t.elem, t.at_⟩, true) else (⟨t.elem, t.name, 0, 0, 0⟩, true)) else (zeroT, false)
theorem box2T {w : World} {c d : Array Value} {s t : TypeId} : ((w.alloc (.cells c s)).alloc (.cells d t)).heap[w.heap.size + 1]? = some (.cells d t (0, 0)) := by
 have h2 := heap_alloc_new (w.alloc (.cells c s)) (.cells d t)
 simpa using h2
theorem nums_cat (s t : ByteArray) : nums (s ++ t) = nums s ++ nums t := by simp [nums, numsL]
theorem nums_preB : ∀ (n : Nat) (s : ByteArray), nums (preB n s) = List.replicate n 91 ++ nums s
 | 0, s => rfl
 | n + 1, s => by rw [preB, nums_cat, nums_preB n s]; rfl
theorem nums_refB (nm : ByteArray) : nums (refB nm) = 76 :: (nums nm ++ [59]) := by
 rw [refB, nums_cat, nums_cat]
 rfl
theorem dims_split : ∀ zs : List Int, zs = List.replicate (dimsZ zs) 91 ++ zs.drop (dimsZ zs)
 | [] => rfl
 | c :: r => by
  by_cases h : c = 91
  ·rw [dimsZ, if_pos h, List.replicate_succ, List.drop_succ_cons, List.cons_append, ← dims_split r, h]
  ·rw [dimsZ, if_neg h]; rfl
theorem dims_head : ∀ (zs : List Int) {c : Int} {r : List Int}, zs.drop (dimsZ zs) = c :: r → c ≠ 91
 | [], c, r, h => by cases h
 | x :: q, c, r, h => by
  by_cases hx : x = 91
  ·rw [dimsZ, if_pos hx, List.drop_succ_cons] at h
   exact dims_head q h
  ·rw [dimsZ, if_neg hx, List.drop_zero] at h
   cases h
   exact hx
theorem dims_of : ∀ (n : Nat) {c : Int} {r : List Int}, c ≠ 91 → dimsZ (List.replicate n 91 ++ c :: r) = n
 | 0, c, r, h => by
  show dimsZ (c :: r) = 0
  rw [dimsZ, if_neg h]
 | n + 1, c, r, h => by rw [List.replicate_succ, List.cons_append, dimsZ, if_pos rfl, dims_of n h]
theorem semi_split : ∀ r : List Int, semiZ r ≠ r.length → r = r.take (semiZ r) ++ 59 :: r.drop (semiZ r + 1)
 | [], h => absurd rfl h
 | c :: r, h => by
  by_cases hc : c = 59
  ·rw [semiZ, if_pos hc, hc]; rfl
  ·rw [semiZ, if_neg hc] at h ⊢
   rw [List.take_succ_cons, List.drop_succ_cons, List.cons_append, ← semi_split r (by simpa using h)]
theorem semi_of : ∀ (x : List Int) {r : List Int}, (∀ z ∈ x, z ≠ 59) → semiZ (x ++ 59 :: r) = x.length
 | [], r, _ => by
  show semiZ (59 :: r) = 0
  rw [semiZ, if_pos rfl]
 | c :: q, r, h => by
  rw [List.cons_append, semiZ, if_neg (h c (by simp)), semi_of q (fun z hz => h z (by simp [hz]))]
  rfl
theorem plain_semi {x : List Int} (h : plainN x = true) : ∀ z ∈ x, z ≠ 59 := by
 intro z hz e
 subst e
 unfold plainN at h
 rw [Bool.and_eq_true, List.all_eq_true] at h
 have := h.2 59 hz
 revert this
 decide
def BaseOk (k : Int) (nm : ByteArray) : Prop := (k = 1 ∧ nm = ⟨#[]⟩) ∨ (k = 2 ∧ nm = ⟨#[]⟩) ∨ (k = 4 ∧ plainN (nums nm) = true)
def baseL (k : Int) (nm : ByteArray) : List Int := if k = 1 then [73] else if k = 2 then [74] else 76 :: (nums nm ++ [59])
theorem BaseOk.text {k : Int} {nm : ByteArray} (h : BaseOk k nm) : nums (baseText ⟨k, nm, 0, 0, 0⟩) = baseL k nm := by
 rcases h with ⟨rfl, rfl⟩ | ⟨rfl, rfl⟩ | ⟨rfl, hp⟩
 ·rfl
 ·rfl
 ·show nums (if plainN (nums nm) && eqT ⟨4, nm, 0, 0, 0⟩ ⟨4, nm, 0, 0, 0⟩ then refB nm else ⟨#[]⟩) = _
  rw [hp, eqT_self, Bool.and_self, if_pos rfl, nums_refB]
  rfl
theorem BaseOk.ne {k : Int} {nm : ByteArray} (h : BaseOk k nm) : ∃ c r, baseL k nm = c :: r ∧ c ≠ 91 := by
 rcases h with ⟨rfl, rfl⟩ | ⟨rfl, rfl⟩ | ⟨rfl, hp⟩
 ·exact ⟨73, [], rfl, by decide⟩
 ·exact ⟨74, [], rfl, by decide⟩
 ·exact ⟨76, _, rfl, by decide⟩
theorem BaseOk.some {k : Int} {nm : ByteArray} (h : BaseOk k nm) : baseText ⟨k, nm, 0, 0, 0⟩ ≠ ⟨#[]⟩ := fun e => by
 have h1 := h.text
 obtain ⟨c, r, h2, -⟩ := h.ne
 rw [e, h2] at h1
 cases h1
theorem BaseOk.read {k : Int} {nm : ByteArray} (h : BaseOk k nm) {d : Nat} (hd : d ≤ 4) (r : List Int) : baseZ d (baseL k nm ++ r) = Option.some (arrT d k nm, r) := by
 have hd' : ¬ 4 < d := by omega
 rcases h with ⟨rfl, rfl⟩ | ⟨rfl, rfl⟩ | ⟨rfl, hp⟩
 ·show baseZ d (73 :: r) = _
  unfold baseZ
  simp only
  rw [if_neg hd', if_pos trivial]
 ·show baseZ d (74 :: r) = _
  unfold baseZ
  simp only
  rw [if_neg hd', if_neg (by decide), if_pos trivial]
 ·show baseZ d (76 :: (nums nm ++ [59] ++ r)) = _
  have e : nums nm ++ [59] ++ r = nums nm ++ 59 :: r := by simp
  have hs := semi_of (nums nm) (r := r) (plain_semi hp)
  rw [e]
  unfold baseZ
  simp only
  rw [if_neg hd', if_neg (by decide), if_neg (by decide), if_pos trivial, hs, if_neg (by simp), List.take_left', List.drop_append]
  ·simp [hp, str_nums, List.drop_eq_nil_of_le]
  ·rfl
def typeN (s : ByteArray) : Option TypeV :=
 match nums s with
 | [] => none
 | c :: r => if c = 91 then oneZ8 (c :: r) else if plainN (c :: r) then some ⟨4, s, 0, 0, 0⟩ else none
def headIs1 (zs : List Int) : Bool := decide (zs.head? = some 91)
structure MapV where
 at_ : Int
 locals : List TypeV
 stack : List TypeV
 fresh : Bool
instance : Inhabited MapV := ⟨⟨0, [], [], false⟩⟩
def freshM (l : List TypeV) : Bool := l.any (fun t => t.k == 7)
def mustM (b : Bool) : Pr Unit := fun _ k => if b = true then .ok ((), k) else .error 100
def placeM (from_ : Int) : Pr Int := bindP (numP 2) fun n => bindP (mustM (decide (from_ + n ≤ 4096))) fun _ => retP (from_ + n)
def classM (cs : List ConstV) : Pr TypeV := bindP (numP 2) fun i => fun _ k => match typeN (classZ cs i).1 with | some t => .ok (t, k) | none => .error 100
def typeM (cs : List ConstV) : Pr TypeV := bindP (numP 1) fun n =>
 if n = 0 then retP zeroT else if n = 1 then retP ⟨1, ⟨#[]⟩, 0, 0, 0⟩ else if n = 4 then retP ⟨2, ⟨#[]⟩, 0, 0, 0⟩ else if n = 5 then retP ⟨3, ⟨#[]⟩, 0, 0, 0⟩
 else if n = 6 then retP ⟨7, ⟨#[]⟩, 0, 0, 0⟩ else if n = 7 then classM cs else if n = 8 then bindP (placeM 0) fun a => retP ⟨6, ⟨#[]⟩, 0, 0, a⟩ else failP 100
def typesM (cs : List ConstV) : Pr (List TypeV) := bindP (numP 2) fun n => bindP (mustM (decide (n ≤ 64))) fun _ => listP (typeM cs) n.toNat
def mapM (cs : List ConstV) (from_ : Int) : Pr MapV := bindP (numP 1) fun x => bindP (mustM (decide (x = 255))) fun _ => bindP (placeM from_) fun a =>
 bindP (typesM cs) fun lo => bindP (typesM cs) fun st => retP ⟨a, lo, st, freshM lo⟩
def runM (cs : List ConstV) : Nat → Int → Pr (List MapV)
 | 0, _ => retP []
 | n + 1, f => bindP (mapM cs f) fun m => bindP (runM cs n (m.at_ + 1)) fun l => retP (m :: l)
def allM (cs : List ConstV) : Pr (List MapV) := bindP (numP 2) fun n => bindP (runM cs n.toNat 0) fun l => fun zs k => if k = zs.length then .ok (l, k) else .error 100
def decM (cs : List ConstV) (zs : List Int) : Except Int (List MapV) := if zs = [] then .ok [] else match allM cs zs 0 with | .ok (l, _) => .ok l | .error e => .error e
def behindM (l : List MapV) : Int := match l.getLast? with | some m => m.at_ + 1 | none => 0
def RunTo (cs : List ConstV) (n : Nat) (zs : List Int) (k : Nat) (l : List MapV) (k' : Nat) : Prop := runM cs n 0 zs k = bindP (runM cs (n - l.length) (behindM l)) (fun r => retP (l ++ r)) zs k'
section
variable {cs : List ConstV} {n : Nat} {zs : List Int} {k k' k'' : Nat} {l : List MapV} {m : MapV} {e : Int}
theorem behindM_snoc (l : List MapV) (m : MapV) : behindM (l ++ [m]) = m.at_ + 1 := by unfold behindM; simp
theorem RunTo.start : RunTo cs n zs k [] k := by
 unfold RunTo bindP retP
 simp only [List.length_nil, Nat.sub_zero, List.nil_append]
 rw [show behindM [] = 0 from rfl]
 cases runM cs n 0 zs k <;> rfl
theorem RunTo.more (h : RunTo cs n zs k l k') (hl : l.length < n) (hp : mapM cs (behindM l) zs k' = .ok (m, k'')) : RunTo cs n zs k (l ++ [m]) k'' := by
 unfold RunTo at *
 rw [h, behindM_snoc]
 obtain ⟨d, hd⟩ : ∃ d, n - l.length = d + 1 := ⟨n - l.length - 1, by omega⟩
 have hd2 : n - (l ++ [m]).length = d := by simp; omega
 rw [hd, hd2]
 simp only [runM, bindP, retP, hp]
 cases runM cs d (m.at_ + 1) zs k'' with
 | error e => rfl
 | ok x => simp
theorem RunTo.fail (h : RunTo cs n zs k l k') (hl : l.length < n) (hp : mapM cs (behindM l) zs k' = .error e) : runM cs n 0 zs k = .error e := by
 unfold RunTo at h
 rw [h]
 obtain ⟨d, hd⟩ : ∃ d, n - l.length = d + 1 := ⟨n - l.length - 1, by omega⟩
 rw [hd]
 simp only [runM, bindP, retP, hp]
theorem RunTo.done (h : RunTo cs n zs k l k') (hl : l.length = n) : runM cs n 0 zs k = .ok (l, k') := by
 unfold RunTo at h
 rw [h, hl, Nat.sub_self]
 simp only [runM, bindP, retP, List.append_nil]
end
section
variable {P : Program} (w : World)
end
end Go.Proofs.YtinbelghhfodiaaGreatDoor
