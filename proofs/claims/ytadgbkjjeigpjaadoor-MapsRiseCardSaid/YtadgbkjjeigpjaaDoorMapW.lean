/- Frames of types, in plain words: the type of a name, what bytes of maps say. No condition. -/
import Derived.Test.YtadgbkjjeigpjaaDoorPrs
import Derived.Test.YtadgbkjjeigpjaaDoorGKndC
import Derived.Test.YtadgbkjjeigpjaaDoorKndI
import Derived.Test.YtadgbkjjeigpjaaDoorPolT
import Derived.Test.YtadgbkjjeigpjaaDoorPolM
namespace Go.Proofs.YtadgbkjjeigpjaaDoor
open Go.RowKit
set_option linter.unusedVariables false
set_option linter.unusedSimpArgs false

/-- The type of a class's name, or of an array's descriptor. -/
def typeN (s : ByteArray) : Option TypeV :=
  match nums s with
  | [] => none
  | c :: r => if c = 91 then oneZ8 (c :: r) else if plainN (c :: r) then some ⟨4, s, 0, 0, 0⟩ else none
def headIs1 (zs : List Int) : Bool := decide (zs.head? = some 91)
theorem typeN_none : typeN noT = none := rfl
theorem typeN_arr {s : ByteArray} (h : headIs1 (nums s) = true) : typeN s = oneZ8 (nums s) := by
  unfold headIs1 at h
  unfold typeN
  cases hq : nums s with
  | nil => rw [hq] at h; cases h
  | cons c r =>
    rw [hq] at h
    simp only [List.head?_cons, Option.some.injEq, decide_eq_true_eq] at h
    simp only [h, if_true]
theorem typeN_name {s : ByteArray} (h : headIs1 (nums s) = false) : typeN s = if plainN (nums s) then some ⟨4, s, 0, 0, 0⟩ else none := by
  unfold headIs1 at h
  unfold typeN
  cases hq : nums s with
  | nil => rfl
  | cons c r =>
    rw [hq] at h
    simp only [List.head?_cons, Option.some.injEq, decide_eq_false_iff_not] at h
    simp only [if_neg h]
/-- The descriptor of a class's name tells the name. -/
theorem desc_name (s : ByteArray) : oneZ8 (nums (refB s)) = if plainN (nums s) then some ⟨4, s, 0, 0, 0⟩ else none := by
  rw [nums_refB]
  have hd : dimsZ (76 :: (nums s ++ [59])) = 0 := by rw [dimsZ, if_neg (by decide)]
  unfold oneZ8 fieldZ
  rw [hd, List.drop_zero]
  unfold baseZ
  simp only [show ¬ ((4 : Nat) < 0) by decide, show ¬ ((76 : Int) = 73) by decide, show ¬ ((76 : Int) = 74) by decide, if_false, if_true]
  by_cases hs : ∀ z ∈ nums s, z ≠ 59
  · have h1 : semiZ (nums s ++ [59]) = (nums s).length := semi_of (nums s) hs
    rw [h1]
    have h2 : ¬ (nums s).length = (nums s ++ [59]).length := by simp
    rw [if_neg h2, List.take_left, show List.drop ((nums s).length + 1) (nums s ++ [59]) = [] by simp, str_nums]
    by_cases hp : plainN (nums s) = true
    · rw [if_pos hp, if_pos hp]; rfl
    · rw [if_neg hp, if_neg hp]
  · have hno : plainN (nums s) = false := by
      cases hp : plainN (nums s) with
      | false => rfl
      | true => exact absurd (plain_semi hp) hs
    rw [hno]
    have hlt : semiZ (nums s ++ [59]) < (nums s).length := by
      have : ∀ x : List Int, (¬ ∀ z ∈ x, z ≠ 59) → semiZ (x ++ [59]) < x.length := by
        intro x
        induction x with
        | nil => intro h; exact absurd (fun z hz => by cases hz) h
        | cons c q ih =>
          intro h
          rw [List.cons_append, semiZ]
          split
          · simp
          · rename_i hc
            have := ih (fun h' => h (fun z hz => by
              rcases List.mem_cons.1 hz with rfl | hz
              · exact hc
              · exact h' z hz))
            simp; omega
      exact this _ hs
    rw [if_neg (by simp; omega)]
    have hne : List.drop (semiZ (nums s ++ [59]) + 1) (nums s ++ [59]) ≠ [] := by
      intro e
      have := congrArg List.length e
      simp at this
      omega
    simp only [Bool.false_eq_true, if_false]
    split
    · rename_i heq
      split at heq
      · injection heq with heq
        injection heq with _ heq
        exact absurd heq hne
      · cases heq
    · rfl

structure MapV where
  at_ : Int
  locals : List TypeV
  stack : List TypeV
  fresh : Bool
instance : Inhabited MapV := ⟨⟨0, [], [], false⟩⟩
def freshM (l : List TypeV) : Bool := l.any (fun t => t.k == 7)
def mustM (b : Bool) : Pr Unit := fun _ k => if b = true then .ok ((), k) else .error 100
def placeM (from_ : Int) : Pr Int := bindP (numP 2) fun n => bindP (mustM (decide (from_ + n ≤ 4096))) fun _ => retP (from_ + n)
def classM (cs : List ConstV) : Pr TypeV := bindP (numP 2) fun i => fun _ k => match typeN (classZ cs i).1 with | some t => .ok (t, k) | none => .error 100
def typeM (cs : List ConstV) : Pr TypeV := bindP (numP 1) fun n =>
  if n = 0 then retP zeroT else if n = 1 then retP ⟨1, ⟨#[]⟩, 0, 0, 0⟩ else if n = 4 then retP ⟨2, ⟨#[]⟩, 0, 0, 0⟩ else if n = 5 then retP ⟨3, ⟨#[]⟩, 0, 0, 0⟩
  else if n = 6 then retP ⟨7, ⟨#[]⟩, 0, 0, 0⟩ else if n = 7 then classM cs else if n = 8 then bindP (placeM 0) fun a => retP ⟨6, ⟨#[]⟩, 0, 0, a⟩ else failP 100
def typesM (cs : List ConstV) : Pr (List TypeV) := bindP (numP 2) fun n => bindP (mustM (decide (n ≤ 64))) fun _ => listP (typeM cs) n.toNat
def mapM (cs : List ConstV) (from_ : Int) : Pr MapV := bindP (numP 1) fun x => bindP (mustM (decide (x = 255))) fun _ => bindP (placeM from_) fun a =>
  bindP (typesM cs) fun lo => bindP (typesM cs) fun st => retP ⟨a, lo, st, freshM lo⟩
/-- So many maps, from a place on. -/
def runM (cs : List ConstV) : Nat → Int → Pr (List MapV)
  | 0, _ => retP []
  | n + 1, f => bindP (mapM cs f) fun m => bindP (runM cs n (m.at_ + 1)) fun l => retP (m :: l)
def allM (cs : List ConstV) : Pr (List MapV) := bindP (numP 2) fun n => bindP (runM cs n.toNat 0) fun l => fun zs k => if k = zs.length then .ok (l, k) else .error 100
def decM (cs : List ConstV) (zs : List Int) : Except Int (List MapV) := if zs = [] then .ok [] else match allM cs zs 0 with | .ok (l, _) => .ok l | .error e => .error e
/-- Where the next map counts from. -/
def behindM (l : List MapV) : Int := match l.getLast? with | some m => m.at_ + 1 | none => 0
/-- So many maps are read. -/
def RunTo (cs : List ConstV) (n : Nat) (zs : List Int) (k : Nat) (l : List MapV) (k' : Nat) : Prop := runM cs n 0 zs k = bindP (runM cs (n - l.length) (behindM l)) (fun r => retP (l ++ r)) zs k'
section
variable {cs : List ConstV} {n : Nat} {zs : List Int} {k k' k'' : Nat} {l : List MapV} {m : MapV} {e : Int}
theorem behindM_snoc (l : List MapV) (m : MapV) : behindM (l ++ [m]) = m.at_ + 1 := by unfold behindM; simp
theorem RunTo.start : RunTo cs n zs k [] k := by
  unfold RunTo bindP retP
  simp only [List.length_nil, Nat.sub_zero, List.nil_append]
  rw [show behindM [] = 0 from rfl]
  cases runM cs n 0 zs k <;> rfl
theorem RunTo.more (h : RunTo cs n zs k l k') (hl : l.length < n) (hp : mapM cs (behindM l) zs k' = .ok (m, k'')) : RunTo cs n zs k (l ++ [m]) k'' := by
  unfold RunTo at *
  rw [h, behindM_snoc]
  obtain ⟨d, hd⟩ : ∃ d, n - l.length = d + 1 := ⟨n - l.length - 1, by omega⟩
  have hd2 : n - (l ++ [m]).length = d := by simp; omega
  rw [hd, hd2]
  simp only [runM, bindP, retP, hp]
  cases runM cs d (m.at_ + 1) zs k'' with
  | error e => rfl
  | ok x => simp
theorem RunTo.fail (h : RunTo cs n zs k l k') (hl : l.length < n) (hp : mapM cs (behindM l) zs k' = .error e) : runM cs n 0 zs k = .error e := by
  unfold RunTo at h
  rw [h]
  obtain ⟨d, hd⟩ : ∃ d, n - l.length = d + 1 := ⟨n - l.length - 1, by omega⟩
  rw [hd]
  simp only [runM, bindP, retP, hp]
theorem RunTo.done (h : RunTo cs n zs k l k') (hl : l.length = n) : runM cs n 0 zs k = .ok (l, k') := by
  unfold RunTo at h
  rw [h, hl, Nat.sub_self]
  simp only [runM, bindP, retP, List.append_nil]
end
end Go.Proofs.YtadgbkjjeigpjaaDoor
