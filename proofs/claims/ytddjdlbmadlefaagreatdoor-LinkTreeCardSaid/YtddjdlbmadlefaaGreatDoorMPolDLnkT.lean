import Derived.Test.YtddjdlbmadlefaaGreatDoorMTxtPPolT
import Derived.Test.YtddjdlbmadlefaaGreatDoorMPolYClsB
import Derived.Test.YtddjdlbmadlefaaGreatDoorMPolBPolX
import Derived.Test.YtddjdlbmadlefaaGreatDoorLnkP
namespace Go.Proofs.YtddjdlbmadlefaaGreatDoor
open Go.RowKit
set_option linter.unusedVariables false
set_option linter.unusedSimpArgs false
end Go.Proofs.YtddjdlbmadlefaaGreatDoor
namespace Go.Proofs.YtddjdlbmadlefaaGreatDoor
open Go.RowKit
set_option linter.unusedVariables false
set_option linter.unusedSimpArgs false
theorem toList_inj {x y : ByteArray} (h : x.toList = y.toList) : x = y := by
  rw [ByteArray.toList_eq, ByteArray.toList_eq] at h
  cases x with | mk a => cases y with | mk b => cases a; cases b; simp at h; rw [h]
theorem text_ne {x y : ByteArray} (h : x ≠ y) : (x.toList == y.toList) = false := beq_eq_false_iff_ne.2 (fun e => h (toList_inj e))
noncomputable def findFrom (s : ByteArray) : Nat → List ConstV → Int
  | _, [] => 0
  | i, c :: r => open Classical in if c.tag = 1 ∧ c.text = s then (i : Int) else findFrom s (i + 1) r
noncomputable def placeOf (cs : List ConstV) (s : ByteArray) : Int := findFrom s 1 (cs.drop 1)
theorem findFrom_skip {s : ByteArray} {i : Nat} {l : List ConstV} {c : ConstV} {r : List ConstV} (hl : l = c :: r) (h : ¬ (c.tag = 1 ∧ c.text = s)) : findFrom s i l = findFrom s (i + 1) r := by
  subst hl
  show (if c.tag = 1 ∧ c.text = s then (i : Int) else findFrom s (i + 1) r) = _
  exact if_neg h
theorem findFrom_here {s : ByteArray} {i : Nat} {l : List ConstV} {c : ConstV} {r : List ConstV} (hl : l = c :: r) (h : c.tag = 1 ∧ c.text = s) : findFrom s i l = (i : Int) := by
  subst hl
  show (if c.tag = 1 ∧ c.text = s then (i : Int) else findFrom s (i + 1) r) = _
  exact if_pos h
end Go.Proofs.YtddjdlbmadlefaaGreatDoor
namespace Go.Proofs.YtddjdlbmadlefaaGreatDoor
open Go.RowKit
set_option linter.unusedVariables false
set_option linter.unusedSimpArgs false
def FlagsP (f : Int) : Prop := f = 0 ∨ f = 8
abbrev codeT : ByteArray := ⟨#[67, 111, 100, 101]⟩
abbrev mapsT : ByteArray := ⟨#[83, 116, 97, 99, 107, 77, 97, 112, 84, 97, 98, 108, 101]⟩
def HeadP (cs : List ConstV) (m : MethodV) : Prop := FlagsP m.flags ∧ (textZ cs m.name).2 = true ∧ (textZ cs m.desc).2 = true ∧ 0 ≤ m.stack ∧ m.stack ≤ 64 ∧ 0 ≤ m.locals ∧ m.locals ≤ 64
def BodyP (cs : List ConstV) (m : MethodV) : Prop := 1 ≤ m.code.length ∧ m.code.length ≤ 4096 ∧ m.maps.length ≤ 4096 ∧ placeOf cs codeT ≠ 0 ∧ (0 < m.maps.length → placeOf cs mapsT ≠ 0)
def TrapP (cs : List ConstV) (n : Nat) (t : TrapV) : Prop := 0 ≤ t.from_ ∧ t.from_ < t.to_ ∧ t.to_ ≤ n ∧ 0 ≤ t.hand ∧ t.hand < n ∧ (t.type = 0 ∨ (classZ cs t.type).2 = true)
def MethodP (cs : List ConstV) (m : MethodV) : Prop := HeadP cs m ∧ BodyP cs m ∧ ∀ t ∈ m.traps, TrapP cs m.code.length t
def FieldP (cs : List ConstV) (f : FieldV) : Prop := FlagsP f.flags ∧ (textZ cs f.name).2 = true ∧ (textZ cs f.desc).2 = true
def LongP (c : ClassV) : Prop := 64 < c.fields.length ∨ 64 < c.methods.length ∨ ∃ m ∈ c.methods, 64 < m.traps.length
def RightP (c : ClassV) : Prop := (classZ c.pool c.this).2 = true ∧ (classZ c.pool c.super).2 = true ∧ (∀ f ∈ c.fields, FieldP c.pool f) ∧ ∀ m ∈ c.methods, MethodP c.pool m
open Classical in
noncomputable def clsZ (c : ClassV) : Int := if checkZ c.pool ≠ 0 then checkZ c.pool else if LongP c then 2 else if RightP c then 0 else 50
theorem clsZ_pool {c : ClassV} (h : checkZ c.pool ≠ 0) : clsZ c = checkZ c.pool := by unfold clsZ; rw [if_pos h]
theorem clsZ_long {c : ClassV} (h : checkZ c.pool = 0) (hl : LongP c) : clsZ c = 2 := by unfold clsZ; rw [if_neg (by simp [h]), if_pos hl]
theorem clsZ_ok {c : ClassV} (h : checkZ c.pool = 0) (hl : ¬ LongP c) (hr : RightP c) : clsZ c = 0 := by unfold clsZ; rw [if_neg (by simp [h]), if_neg hl, if_pos hr]
theorem clsZ_wrong {c : ClassV} (h : checkZ c.pool = 0) (hl : ¬ LongP c) (hr : ¬ RightP c) : clsZ c = 50 := by unfold clsZ; rw [if_neg (by simp [h]), if_neg hl, if_neg hr]
theorem clsZ_zero {c : ClassV} (h : clsZ c = 0) : checkZ c.pool = 0 ∧ ¬ LongP c ∧ RightP c := by
  by_cases h0 : checkZ c.pool = 0
  · by_cases hl : LongP c
    · rw [clsZ_long h0 hl] at h; exact absurd h (by decide)
    · by_cases hr : RightP c
      · exact ⟨h0, hl, hr⟩
      · rw [clsZ_wrong h0 hl hr] at h; exact absurd h (by decide)
  · rw [clsZ_pool h0] at h; exact absurd h h0
theorem take_snoc {α : Type} [Inhabited α] {l : List α} {j : Nat} (h : j < l.length) : l.take (j + 1) = l.take j ++ [l.getD j default] := by
  rw [List.take_succ_eq_append_getElem h]
  congr 1
  simp [List.getD, h]
end Go.Proofs.YtddjdlbmadlefaaGreatDoor
namespace Go.Proofs.YtddjdlbmadlefaaGreatDoor
open Go.RowKit
set_option linter.unusedVariables false
set_option linter.unusedSimpArgs false
def objB : ByteArray := ⟨#[79, 98, 106, 101, 99, 116]⟩
def thrB : ByteArray := ⟨#[84, 104, 114, 111, 119, 97, 98, 108, 101]⟩
def thdB : ByteArray := ⟨#[84, 104, 114, 101, 97, 100]⟩
def nulB : ByteArray := ⟨#[78, 117, 108, 108, 69, 114, 114, 111, 114]⟩
def bndB : ByteArray := ⟨#[66, 111, 117, 110, 100, 115, 69, 114, 114, 111, 114]⟩
def cstB : ByteArray := ⟨#[67, 97, 115, 116, 69, 114, 114, 111, 114]⟩
def divB : ByteArray := ⟨#[68, 105, 118, 69, 114, 114, 111, 114]⟩
def ownB : ByteArray := ⟨#[79, 119, 110, 101, 114, 69, 114, 114, 111, 114]⟩
def memB : ByteArray := ⟨#[77, 101, 109, 111, 114, 121, 69, 114, 114, 111, 114]⟩
def dptB : ByteArray := ⟨#[68, 101, 112, 116, 104, 69, 114, 114, 111, 114]⟩
def sizB : ByteArray := ⟨#[83, 105, 122, 101, 69, 114, 114, 111, 114]⟩
def stoB : ByteArray := ⟨#[83, 116, 111, 114, 101, 69, 114, 114, 111, 114]⟩
def waitB : ByteArray := ⟨#[119, 97, 105, 116]⟩
def notiB : ByteArray := ⟨#[110, 111, 116, 105, 102, 121]⟩
def ntalB : ByteArray := ⟨#[110, 111, 116, 105, 102, 121, 65, 108, 108]⟩
def startB : ByteArray := ⟨#[115, 116, 97, 114, 116]⟩
def joinB : ByteArray := ⟨#[106, 111, 105, 110]⟩
def runB : ByteArray := ⟨#[114, 117, 110]⟩
def readB : ByteArray := ⟨#[114, 101, 97, 100]⟩
def clockB : ByteArray := ⟨#[99, 108, 111, 99, 107]⟩
def writeB : ByteArray := ⟨#[119, 114, 105, 116, 101]⟩
def retIB : ByteArray := ⟨#[40, 41, 73]⟩
def retJB : ByteArray := ⟨#[40, 41, 74]⟩
def argJB : ByteArray := ⟨#[40, 74, 41, 86]⟩
def beginM : MethN := ⟨initB, voidB, 0⟩
def errK (n : ByteArray) : KindV := ⟨n, thrB, [], [beginM], -1⟩
def builtK : List KindV := [⟨objB, ⟨#[]⟩, [], [beginM, ⟨waitB, voidB, 0⟩, ⟨notiB, voidB, 0⟩, ⟨ntalB, voidB, 0⟩], -1⟩, ⟨thrB, objB, [], [beginM], -1⟩,
  ⟨thdB, objB, [], [beginM, ⟨startB, voidB, 0⟩, ⟨joinB, voidB, 0⟩, ⟨runB, voidB, 0⟩], -1⟩, ⟨sysB, objB, [], [⟨readB, retIB, 8⟩, ⟨clockB, retJB, 8⟩, ⟨writeB, argJB, 8⟩], -1⟩,
  errK nulB, errK bndB, errK cstB, errK divB, errK ownB, errK memB, errK dptB, errK sizB, errK stoB]
theorem builtK_len : builtK.length = 13 := rfl
def methK (cs : List ConstV) (n d f : Int) : MethN := ⟨(textZ cs n).1, (textZ cs d).1, f⟩
def loadZ (c : ClassV) (i : Nat) : KindV := ⟨(classZ c.pool c.this).1, (classZ c.pool c.super).1, c.fields.map (fun f => methK c.pool f.name f.desc f.flags), c.methods.map (fun m => methK c.pool m.name m.desc m.flags), (i : Int)⟩
def listK : List ClassV → Nat → List KindV
  | [], _ => []
  | c :: r, i => loadZ c i :: listK r (i + 1)
def kindsZ (cs : List ClassV) : List KindV := builtK ++ listK cs 0
theorem listK_len : ∀ (cs : List ClassV) (i : Nat), (listK cs i).length = cs.length
  | [], _ => rfl
  | c :: r, i => by rw [listK, List.length_cons, List.length_cons, listK_len r]
theorem kindsZ_len (cs : List ClassV) : (kindsZ cs).length = 13 + cs.length := by rw [kindsZ, List.length_append, listK_len, builtK_len]
theorem listK_at : ∀ {cs : List ClassV} {i j : Nat}, j < cs.length → (listK cs i).getD j default = loadZ (cs.getD j default) (i + j)
  | c :: r, i, 0, _ => rfl
  | c :: r, i, j + 1, h => by
    show (listK r (i + 1)).getD j default = loadZ (r.getD j default) (i + (j + 1))
    rw [listK_at (by simpa using h)]
    congr 1
    omega
theorem listK_app : ∀ (cs ds : List ClassV) (i : Nat), listK (cs ++ ds) i = listK cs i ++ listK ds (i + cs.length)
  | [], ds, i => by simp [listK]
  | c :: r, ds, i => by
    rw [List.cons_append, listK, listK, listK_app r ds, List.cons_append, List.length_cons]
    congr 3
    omega
theorem kindsZ_built {cs : List ClassV} {j : Nat} (h : j < 13) : (kindsZ cs).getD j default = builtK.getD j default := by
  rw [kindsZ]
  show ((builtK ++ listK cs 0)[j]?).getD default = (builtK[j]?).getD default
  rw [List.getElem?_append_left (by rw [builtK_len]; exact h)]
noncomputable def errsC : List ClassV → Int
  | [] => 0
  | c :: r => if clsZ c ≠ 0 then clsZ c else errsC r
theorem errsC_zero : ∀ {cs : List ClassV}, errsC cs = 0 → ∀ c ∈ cs, clsZ c = 0
  | [], _, c, hc => by cases hc
  | d :: r, h, c, hc => by
    unfold errsC at h
    by_cases h0 : clsZ d = 0
    · rw [if_neg (by simp [h0])] at h
      rcases List.mem_cons.1 hc with rfl | hc
      · exact h0
      · exact errsC_zero h c hc
    · rw [if_pos h0] at h; exact absurd h h0
theorem errsC_all : ∀ {cs : List ClassV}, (∀ c ∈ cs, clsZ c = 0) → errsC cs = 0
  | [], _ => rfl
  | d :: r, h => by
    unfold errsC
    rw [if_neg (by simp [h d (by simp)])]
    exact errsC_all (fun c hc => h c (by simp [hc]))
theorem errsC_at {cs : List ClassV} {j : Nat} (h : j < cs.length) : errsC (cs.drop j) = if clsZ (cs.getD j default) ≠ 0 then clsZ (cs.getD j default) else errsC (cs.drop (j + 1)) := by
  rw [List.drop_eq_getElem_cons h]
  show (if clsZ cs[j] ≠ 0 then clsZ cs[j] else _) = _
  rw [show cs.getD j default = cs[j] by simp [List.getD, h]]
structure RightK (ks : List KindV) : Prop where
  own : ∀ j, 13 ≤ j → j < ks.length → (plainN (nums (ks.getD j default).name) = true ∧ findZ ks (ks.getD j default).name = (j : Int)) ∧ MembersOK (ks.getD j default)
  tops : ∀ j, 13 ≤ j → j < ks.length → topsZ ks j = true
  keeps : ∀ j, 13 ≤ j → j < ks.length → keepsZ ks j = true
  main : 13 < ks.length ∧ ¬ hasZ (ks.getD 13 default).meths mainB voidB < 0 ∧ ((ks.getD 13 default).meths.getD (hasZ (ks.getD 13 default).meths mainB voidB).toNat default).flags = 8
open Classical in
noncomputable def buildZ (cs : List ClassV) : Int := if 16 < cs.length then 2 else if errsC cs ≠ 0 then errsC cs else if RightK (kindsZ cs) then 0 else 90
def FlagsL (l : List MethN) : Prop := ∀ m ∈ l, m.flags = 0 ∨ m.flags = 8
structure FineK (k : KindV) : Prop where
  fields : k.fields.length ≤ 64
  meths : k.meths.length ≤ 64
  ff : FlagsL k.fields
  mf : FlagsL k.meths
  name : k.name.size ≤ 256
  super : k.super.size ≤ 256
  fnm : ∀ m ∈ k.fields, m.name.size ≤ 256 ∧ m.desc.size ≤ 256
  mnm : ∀ m ∈ k.meths, m.name.size ≤ 256 ∧ m.desc.size ≤ 256
end Go.Proofs.YtddjdlbmadlefaaGreatDoor
