import Derived.Test.YtgdgffnaknkbcaaGreatDoorMiMemPolV
import Derived.Test.YtgdgffnaknkbcaaGreatDoorMiPolXClsB
import Derived.Test.YtgdgffnaknkbcaaGreatDoorMiTxtEPolC
import Derived.Test.YtgdgffnaknkbcaaGreatDoorMiLnkOLnkP
namespace Go.Proofs.YtgdgffnaknkbcaaGreatDoor
open Go.RowKit
set_option linter.unusedVariables false
set_option linter.unusedSimpArgs false
set_option maxHeartbeats 1000000 in
theorem refText (v : Value) (cs : List ConstV) (i : Int) (w : World) (hp : Pool w v cs) :
  Calls Tryz.prog 86 #[v, .int .i64 i] w fun e w' => e = .returned (.tuple #[.string (textZ cs i).1, .bool (textZ cs i).2]) ∧ w = w' := by
 have cI := refIs v cs i 1 w hp
 obtain ⟨ao, cap, rfl, h1, h2, h3, h4, h5⟩ := id hp
 obtain ⟨q, hq⟩ : ∃ q, isZ cs i 1 = q := ⟨_, rfl⟩
 rw [hq] at cI
 cases q with
 | true =>
  obtain ⟨j, rfl, hj1, hj2, _⟩ := isZ_lt hq
  obtain ⟨b, o, rfl, hc⟩ := Pool.at hp hj2
  have g1 := hc.c1
  have hZ : textZ cs (j : Int) = ((cs.getD j default).text, true) := by unfold textZ; rw [if_pos hq]; rfl
  rw [hZ]
  have hjz : (j : Int) < (cs.length : Int) := by omega
  clear h3 h4 h5 hp hq hc hZ
  generalize (cs.getD j default).text = x at *
  go_enter Tryz.func86, Tryz.ntmps86
  go_wp2_with (fail)
  refine cI.mono ?_
  rintro e w1 ⟨rfl, rfl⟩
  clear cI
  go_wp2
  go_ret2
  exact ⟨rfl, rfl⟩
 | false =>
  have hZ : textZ cs i = (noT, false) := by unfold textZ; rw [if_neg (by rw [hq]; simp)]
  rw [hZ]
  clear h3 h4 h5 hp hq hZ
  go_enter Tryz.func86, Tryz.ntmps86
  go_wp2_with (fail)
  refine cI.mono ?_
  rintro e w1 ⟨rfl, rfl⟩
  clear cI
  go_wp2
  go_ret2
  exact ⟨rfl, rfl⟩
set_option maxHeartbeats 1000000 in
theorem refClass (v : Value) (cs : List ConstV) (i : Int) (w : World) (hp : Pool w v cs) :
  Calls Tryz.prog 119 #[v, .int .i64 i] w fun e w' => e = .returned (.tuple #[.string (classZ cs i).1, .bool (classZ cs i).2]) ∧ w = w' := by
 have cI := refIs v cs i 7 w hp
 obtain ⟨ao, cap, rfl, h1, h2, h3, h4, h5⟩ := id hp
 obtain ⟨q, hq⟩ : ∃ q, isZ cs i 7 = q := ⟨_, rfl⟩
 rw [hq] at cI
 cases q with
 | true =>
  obtain ⟨j, rfl, hj1, hj2, _⟩ := isZ_lt hq
  obtain ⟨b, o, rfl, hc⟩ := Pool.at hp hj2
  have g3 := hc.c3
  have hZ : classZ cs (j : Int) = textZ cs (cs.getD j default).a := by unfold classZ; rw [if_pos hq]; rfl
  have cT := refText _ cs (cs.getD j default).a w hp
  rw [hZ]
  have hjz : (j : Int) < (cs.length : Int) := by omega
  clear h3 h4 h5 hp hq hc hZ
  generalize (cs.getD j default).a = x at *
  go_enter Tryz.func119, Tryz.ntmps119
  go_wp2_with (fail)
  refine cI.mono ?_
  rintro e w1 ⟨rfl, rfl⟩
  clear cI
  go_wp2_with (fail)
  refine cT.mono ?_
  rintro e w1 ⟨rfl, rfl⟩
  clear cT
  go_wp2
  go_ret2
  exact ⟨rfl, rfl⟩
 | false =>
  have hZ : classZ cs i = (noT, false) := by unfold classZ; rw [if_neg (by rw [hq]; simp)]
  rw [hZ]
  clear h3 h4 h5 hp hq hZ
  go_enter Tryz.func119, Tryz.ntmps119
  go_wp2_with (fail)
  refine cI.mono ?_
  rintro e w1 ⟨rfl, rfl⟩
  clear cI
  go_wp2
  go_ret2
  exact ⟨rfl, rfl⟩
theorem toList_inj {x y : ByteArray} (h : x.toList = y.toList) : x = y := by
 rw [ByteArray.toList_eq, ByteArray.toList_eq] at h
 cases x with | mk a => cases y with | mk b => cases a; cases b; simp at h; rw [h]
theorem text_ne {x y : ByteArray} (h : x ≠ y) : (x.toList == y.toList) = false := beq_eq_false_iff_ne.2 (fun e => h (toList_inj e))
noncomputable def findFrom (s : ByteArray) : Nat → List ConstV → Int
 | _, [] => 0
 | i, c :: r => open Classical in if c.tag = 1 ∧ c.text = s then (i : Int) else findFrom s (i + 1) r
noncomputable def placeOf (cs : List ConstV) (s : ByteArray) : Int := findFrom s 1 (cs.drop 1)
theorem findFrom_skip {s : ByteArray} {i : Nat} {l : List ConstV} {c : ConstV} {r : List ConstV} (hl : l = c :: r) (h : ¬ (c.tag = 1 ∧ c.text = s)) : findFrom s i l = findFrom s (i + 1) r := by
 subst hl
 show (if c.tag = 1 ∧ c.text = s then (i : Int) else findFrom s (i + 1) r) = _
 exact if_neg h
theorem findFrom_here {s : ByteArray} {i : Nat} {l : List ConstV} {c : ConstV} {r : List ConstV} (hl : l = c :: r) (h : c.tag = 1 ∧ c.text = s) : findFrom s i l = (i : Int) := by
 subst hl
 show (if c.tag = 1 ∧ c.text = s then (i : Int) else findFrom s (i + 1) r) = _
 exact if_pos h
set_option maxHeartbeats 2000000 in
theorem refPlace (v : Value) (cs : List ConstV) (s : ByteArray) (w : World) (hp : Pool w v cs) :
  Calls Tryz.prog 120 #[v, .string s] w fun e w' => e = .returned (.int .i64 (placeOf cs s)) ∧ w = w' := by
 obtain ⟨ao, cap, rfl, h1, h2, h3, h4, h5⟩ := id hp
 have Hp := Lib.hid hp
 clear h3 h4 h5 hp
 go_enter Tryz.func120, Tryz.ntmps120
 go_wp2
 go_loop [5] (fun i => ∃ j : Nat, 1 ≤ j ∧ (j ≤ cs.length ∨ j = 1) ∧ i = .int .i64 j ∧ placeOf cs s = findFrom s j (cs.drop j)) (fun i => cs.length - (intOf i).toNat)
 case atStart => exact ⟨1, Nat.le_refl _, .inr rfl, rfl, rfl⟩
 case round =>
  obtain ⟨j, hj1, hj, rfl, hpl⟩ := hrel
  by_cases hlt : j < cs.length
  ·obtain ⟨b, o, rfl, hc⟩ := Pool.at Hp.out hlt
   have g0 := hc.c0
   have g1 := hc.c1
   have hjz : (j : Int) < (cs.length : Int) := by omega
   have hdr : cs.drop j = cs.getD j default :: cs.drop (j + 1) := by rw [List.drop_eq_getElem_cons hlt]; simp [List.getD, hlt]
   by_cases hh : (cs.getD j default).tag = 1 ∧ (cs.getD j default).text = s
   ·have hv := hpl.trans (findFrom_here hdr hh)
    have Hv := Lib.hid hv
    obtain ⟨ht, hx⟩ := hh
    rw [ht] at g0
    rw [hx] at g1
    clear hc hdr hpl hv ht hx
    go_wp2
    go_ret
    exact ⟨by rw [Hv.out]; rfl, rfl⟩
   ·have hv := hpl.trans (findFrom_skip (i := j) hdr hh)
    have Hv := Lib.hid hv
    by_cases ht : (cs.getD j default).tag = 1
    ·have hx : (cs.getD j default).text ≠ s := fun e => hh ⟨ht, e⟩
     have hne := text_ne hx
     rw [ht] at g0
     generalize (cs.getD j default).text = x at *
     clear hc hdr hpl hv ht hx hh
     go_wp2
     go_round
     case rel => exact ⟨j + 1, by omega, by omega, by go_num, Hv.out⟩
     case measure => simp [intOf]; omega
    ·have hne : ((cs.getD j default).tag == 1) = false := by simpa using ht
     generalize (cs.getD j default).tag = t at *
     clear hc hdr hpl hv ht hh
     go_wp2
     go_round
     case rel => exact ⟨j + 1, by omega, by omega, by go_num, Hv.out⟩
     case measure => simp [intOf]; omega
  ·have hz : placeOf cs s = 0 := by rw [hpl, List.drop_eq_nil_of_le (by omega)]; rfl
   have Hz := Lib.hid hz
   have hjz : (cs.length : Int) ≤ (j : Int) := by omega
   clear hz hpl
   go_wp2
   go_ret
   exact ⟨by rw [Hz.out]; rfl, rfl⟩
theorem refUtf (v : Value) (cs : List ConstV) (i : Int) (w : World) (hp : Pool w v cs) :
  Calls Tryz.prog 82 #[v, .int .i64 i] w fun e w' => e = .returned (.bool (textZ cs i).2) ∧ w = w' := by
 have cT := refText v cs i w hp
 go_enter Tryz.func82, Tryz.ntmps82
 go_wp2_with (go_at_call 86; refine cT.mono ?_; rintro e w' ⟨rfl, rfl⟩)
 go_ret
 exact ⟨rfl, rfl⟩
theorem refCls (v : Value) (cs : List ConstV) (i : Int) (w : World) (hp : Pool w v cs) :
  Calls Tryz.prog 81 #[v, .int .i64 i] w fun e w' => e = .returned (.bool (classZ cs i).2) ∧ w = w' := by
 have cT := refClass v cs i w hp
 go_enter Tryz.func81, Tryz.ntmps81
 go_wp2_with (go_at_call 119; refine cT.mono ?_; rintro e w' ⟨rfl, rfl⟩)
 go_ret
 exact ⟨rfl, rfl⟩
def FlagsP (f : Int) : Prop := f = 0 ∨ f = 8
abbrev codeT : ByteArray := ⟨#[67, 111, 100, 101]⟩
abbrev mapsT : ByteArray := ⟨#[83, 116, 97, 99, 107, 77, 97, 112, 84, 97, 98, 108, 101]⟩
def HeadP (cs : List ConstV) (m : MethodV) : Prop := FlagsP m.flags ∧ (textZ cs m.name).2 = true ∧ (textZ cs m.desc).2 = true ∧ 0 ≤ m.stack ∧ m.stack ≤ 64 ∧ 0 ≤ m.locals ∧ m.locals ≤ 64
def BodyP (cs : List ConstV) (m : MethodV) : Prop := 1 ≤ m.code.length ∧ m.code.length ≤ 4096 ∧ m.maps.length ≤ 4096 ∧ placeOf cs codeT ≠ 0 ∧ (0 < m.maps.length → placeOf cs mapsT ≠ 0)
def TrapP (cs : List ConstV) (n : Nat) (t : TrapV) : Prop := 0 ≤ t.from_ ∧ t.from_ < t.to_ ∧ t.to_ ≤ n ∧ 0 ≤ t.hand ∧ t.hand < n ∧ (t.type = 0 ∨ (classZ cs t.type).2 = true)
def MethodP (cs : List ConstV) (m : MethodV) : Prop := HeadP cs m ∧ BodyP cs m ∧ ∀ t ∈ m.traps, TrapP cs m.code.length t
def FieldP (cs : List ConstV) (f : FieldV) : Prop := FlagsP f.flags ∧ (textZ cs f.name).2 = true ∧ (textZ cs f.desc).2 = true
def LongP (c : ClassV) : Prop := 64 < c.fields.length ∨ 64 < c.methods.length ∨ ∃ m ∈ c.methods, 64 < m.traps.length
def RightP (c : ClassV) : Prop := (classZ c.pool c.this).2 = true ∧ (classZ c.pool c.super).2 = true ∧ (∀ f ∈ c.fields, FieldP c.pool f) ∧ ∀ m ∈ c.methods, MethodP c.pool m
open Classical in
noncomputable def clsZ (c : ClassV) : Int := if checkZ c.pool ≠ 0 then checkZ c.pool else if LongP c then 2 else if RightP c then 0 else 50
theorem clsZ_pool {c : ClassV} (h : checkZ c.pool ≠ 0) : clsZ c = checkZ c.pool := by unfold clsZ; rw [if_pos h]
theorem clsZ_long {c : ClassV} (h : checkZ c.pool = 0) (hl : LongP c) : clsZ c = 2 := by unfold clsZ; rw [if_neg (by simp [h]), if_pos hl]
theorem clsZ_ok {c : ClassV} (h : checkZ c.pool = 0) (hl : ¬ LongP c) (hr : RightP c) : clsZ c = 0 := by unfold clsZ; rw [if_neg (by simp [h]), if_neg hl, if_pos hr]
theorem clsZ_wrong {c : ClassV} (h : checkZ c.pool = 0) (hl : ¬ LongP c) (hr : ¬ RightP c) : clsZ c = 50 := by unfold clsZ; rw [if_neg (by simp [h]), if_neg hl, if_neg hr]
theorem clsZ_zero {c : ClassV} (h : clsZ c = 0) : checkZ c.pool = 0 ∧ ¬ LongP c ∧ RightP c := by
 by_cases h0 : checkZ c.pool = 0
 ·by_cases hl : LongP c
  ·rw [clsZ_long h0 hl] at h; exact absurd h (by decide)
  ·by_cases hr : RightP c
   ·exact ⟨h0, hl, hr⟩
   ·rw [clsZ_wrong h0 hl hr] at h; exact absurd h (by decide)
 ·rw [clsZ_pool h0] at h; exact absurd h h0
theorem take_snoc {α : Type} [Inhabited α] {l : List α} {j : Nat} (h : j < l.length) : l.take (j + 1) = l.take j ++ [l.getD j default] := by
 rw [List.take_succ_eq_append_getElem h]
 congr 1
 simp [List.getD, h]
end Go.Proofs.YtgdgffnaknkbcaaGreatDoor
namespace Go.Proofs.YtgdgffnaknkbcaaGreatDoor
open Go.RowKit
set_option linter.unusedVariables false
set_option linter.unusedSimpArgs false
def objB : ByteArray := ⟨#[79, 98, 106, 101, 99, 116]⟩
def thrB : ByteArray := ⟨#[84, 104, 114, 111, 119, 97, 98, 108, 101]⟩
def thdB : ByteArray := ⟨#[84, 104, 114, 101, 97, 100]⟩
def nulB : ByteArray := ⟨#[78, 117, 108, 108, 69, 114, 114, 111, 114]⟩
def bndB : ByteArray := ⟨#[66, 111, 117, 110, 100, 115, 69, 114, 114, 111, 114]⟩
def cstB : ByteArray := ⟨#[67, 97, 115, 116, 69, 114, 114, 111, 114]⟩
def divB : ByteArray := ⟨#[68, 105, 118, 69, 114, 114, 111, 114]⟩
def ownB : ByteArray := ⟨#[79, 119, 110, 101, 114, 69, 114, 114, 111, 114]⟩
def memB : ByteArray := ⟨#[77, 101, 109, 111, 114, 121, 69, 114, 114, 111, 114]⟩
def dptB : ByteArray := ⟨#[68, 101, 112, 116, 104, 69, 114, 114, 111, 114]⟩
def sizB : ByteArray := ⟨#[83, 105, 122, 101, 69, 114, 114, 111, 114]⟩
def stoB : ByteArray := ⟨#[83, 116, 111, 114, 101, 69, 114, 114, 111, 114]⟩
def waitB : ByteArray := ⟨#[119, 97, 105, 116]⟩
def notiB : ByteArray := ⟨#[110, 111, 116, 105, 102, 121]⟩
def ntalB : ByteArray := ⟨#[110, 111, 116, 105, 102, 121, 65, 108, 108]⟩
def startB : ByteArray := ⟨#[115, 116, 97, 114, 116]⟩
def joinB : ByteArray := ⟨#[106, 111, 105, 110]⟩
def runB : ByteArray := ⟨#[114, 117, 110]⟩
def readB : ByteArray := ⟨#[114, 101, 97, 100]⟩
def clockB : ByteArray := ⟨#[99, 108, 111, 99, 107]⟩
def writeB : ByteArray := ⟨#[119, 114, 105, 116, 101]⟩
def retIB : ByteArray := ⟨#[40, 41, 73]⟩
def retJB : ByteArray := ⟨#[40, 41, 74]⟩
def argJB : ByteArray := ⟨#[40, 74, 41, 86]⟩
def beginM : MethN := ⟨initB, voidB, 0⟩
def errK (n : ByteArray) : KindV := ⟨n, thrB, [], [beginM], -1⟩
def builtK : List KindV := [⟨objB, ⟨#[]⟩, [], [beginM, ⟨waitB, voidB, 0⟩, ⟨notiB, voidB, 0⟩, ⟨ntalB, voidB, 0⟩], -1⟩, ⟨thrB, objB, [], [beginM], -1⟩,
 ⟨thdB, objB, [], [beginM, ⟨startB, voidB, 0⟩, ⟨joinB, voidB, 0⟩, ⟨runB, voidB, 0⟩], -1⟩, ⟨sysB, objB, [], [⟨readB, retIB, 8⟩, ⟨clockB, retJB, 8⟩, ⟨writeB, argJB, 8⟩], -1⟩,
 errK nulB, errK bndB, errK cstB, errK divB, errK ownB, errK memB, errK dptB, errK sizB, errK stoB]
theorem builtK_len : builtK.length = 13 := rfl
def methK (cs : List ConstV) (n d f : Int) : MethN := ⟨(textZ cs n).1, (textZ cs d).1, f⟩
def loadZ (c : ClassV) (i : Nat) : KindV := ⟨(classZ c.pool c.this).1, (classZ c.pool c.super).1, c.fields.map (fun f => methK c.pool f.name f.desc f.flags), c.methods.map (fun m => methK c.pool m.name m.desc m.flags), (i : Int)⟩
def listK : List ClassV → Nat → List KindV
 | [], _ => []
 | c :: r, i => loadZ c i :: listK r (i + 1)
def kindsZ (cs : List ClassV) : List KindV := builtK ++ listK cs 0
theorem listK_len : ∀ (cs : List ClassV) (i : Nat), (listK cs i).length = cs.length
 | [], _ => rfl
 | c :: r, i => by rw [listK, List.length_cons, List.length_cons, listK_len r]
theorem kindsZ_len (cs : List ClassV) : (kindsZ cs).length = 13 + cs.length := by rw [kindsZ, List.length_append, listK_len, builtK_len]
theorem listK_at : ∀ {cs : List ClassV} {i j : Nat}, j < cs.length → (listK cs i).getD j default = loadZ (cs.getD j default) (i + j)
 | c :: r, i, 0, _ => rfl
 | c :: r, i, j + 1, h => by
  show (listK r (i + 1)).getD j default = loadZ (r.getD j default) (i + (j + 1))
  rw [listK_at (by simpa using h)]
  congr 1
  omega
theorem listK_app : ∀ (cs ds : List ClassV) (i : Nat), listK (cs ++ ds) i = listK cs i ++ listK ds (i + cs.length)
 | [], ds, i => by simp [listK]
 | c :: r, ds, i => by
  rw [List.cons_append, listK, listK, listK_app r ds, List.cons_append, List.length_cons]
  congr 3
  omega
theorem kindsZ_snoc (cs : List ClassV) (c : ClassV) : kindsZ (cs ++ [c]) = kindsZ cs ++ [loadZ c cs.length] := by
 rw [kindsZ, kindsZ, listK_app, List.append_assoc, Nat.zero_add]
 rfl
theorem kindsZ_built {cs : List ClassV} {j : Nat} (h : j < 13) : (kindsZ cs).getD j default = builtK.getD j default := by
 rw [kindsZ]
 show ((builtK ++ listK cs 0)[j]?).getD default = (builtK[j]?).getD default
 rw [List.getElem?_append_left (by rw [builtK_len]; exact h)]
noncomputable def errsC : List ClassV → Int
 | [] => 0
 | c :: r => if clsZ c ≠ 0 then clsZ c else errsC r
theorem errsC_zero : ∀ {cs : List ClassV}, errsC cs = 0 → ∀ c ∈ cs, clsZ c = 0
 | [], _, c, hc => by cases hc
 | d :: r, h, c, hc => by
  unfold errsC at h
  by_cases h0 : clsZ d = 0
  ·rw [if_neg (by simp [h0])] at h
   rcases List.mem_cons.1 hc with rfl | hc
   ·exact h0
   ·exact errsC_zero h c hc
  ·rw [if_pos h0] at h; exact absurd h h0
theorem errsC_all : ∀ {cs : List ClassV}, (∀ c ∈ cs, clsZ c = 0) → errsC cs = 0
 | [], _ => rfl
 | d :: r, h => by
  unfold errsC
  rw [if_neg (by simp [h d (by simp)])]
  exact errsC_all (fun c hc => h c (by simp [hc]))
theorem errsC_at {cs : List ClassV} {j : Nat} (h : j < cs.length) : errsC (cs.drop j) = if clsZ (cs.getD j default) ≠ 0 then clsZ (cs.getD j default) else errsC (cs.drop (j + 1)) := by
 rw [List.drop_eq_getElem_cons h]
 show (if clsZ cs[j] ≠ 0 then clsZ cs[j] else _) = _
 rw [show cs.getD j default = cs[j] by simp [List.getD, h]]
structure RightK (ks : List KindV) : Prop where
 own : ∀ j, 13 ≤ j → j < ks.length → (plainN (nums (ks.getD j default).name) = true ∧ findZ ks (ks.getD j default).name = (j : Int)) ∧ MembersOK (ks.getD j default)
 tops : ∀ j, 13 ≤ j → j < ks.length → topsZ ks j = true
 keeps : ∀ j, 13 ≤ j → j < ks.length → keepsZ ks j = true
 main : 13 < ks.length ∧ ¬ hasZ (ks.getD 13 default).meths mainB voidB < 0 ∧ ((ks.getD 13 default).meths.getD (hasZ (ks.getD 13 default).meths mainB voidB).toNat default).flags = 8
open Classical in
noncomputable def buildZ (cs : List ClassV) : Int := if 16 < cs.length then 2 else if errsC cs ≠ 0 then errsC cs else if RightK (kindsZ cs) then 0 else 90
def FlagsL (l : List MethN) : Prop := ∀ m ∈ l, m.flags = 0 ∨ m.flags = 8
structure FineK (k : KindV) : Prop where
 fields : k.fields.length ≤ 64
 meths : k.meths.length ≤ 64
 ff : FlagsL k.fields
 mf : FlagsL k.meths
 name : k.name.size ≤ 256
 super : k.super.size ≤ 256
 fnm : ∀ m ∈ k.fields, m.name.size ≤ 256 ∧ m.desc.size ≤ 256
 mnm : ∀ m ∈ k.meths, m.name.size ≤ 256 ∧ m.desc.size ≤ 256
end Go.Proofs.YtgdgffnaknkbcaaGreatDoor
namespace Go.Proofs.YtgdgffnaknkbcaaGreatDoor
open Go.RowKit Go.Shelf
set_option linter.unusedVariables false
set_option linter.unusedSimpArgs false
def be2 (n : Int) : List Int := [n / 256 % 256, n % 256]
def ConstB (c : ConstV) (bs : List Int) : Prop :=
 (c.tag = 1 ∧ ∃ ys, Enc (nums c.text) ys 0 ∧ ys.length ≤ 256 ∧ bs = 1 :: be2 ys.length ++ ys) ∨
 (c.tag = 3 ∧ bs = [3, c.n / 16777216 % 256, c.n / 65536 % 256, c.n / 256 % 256, c.n % 256]) ∨
 (c.tag = 5 ∧ bs = [5, c.n / 72057594037927936 % 256, c.n / 281474976710656 % 256, c.n / 1099511627776 % 256, c.n / 4294967296 % 256, c.n / 16777216 % 256, c.n / 65536 % 256, c.n / 256 % 256, c.n % 256]) ∨
 (c.tag = 7 ∧ bs = 7 :: be2 c.a) ∨
 ((c.tag = 9 ∨ c.tag = 10 ∨ c.tag = 12) ∧ bs = c.tag :: be2 c.a ++ be2 c.b)
inductive ConstsB : List ConstV → List Int → Prop
 | nil : ConstsB [] []
 | snoc {cs : List ConstV} {bs : List Int} {c : ConstV} {b : List Int} : ConstsB cs bs → ConstB c b → ConstsB (cs ++ [c]) (bs ++ b)
theorem ConstB.len {c : ConstV} {b : List Int} (h : ConstB c b) : b.length ≤ 259 := by
 rcases h with ⟨_, ys, _, h, rfl⟩ | ⟨_, rfl⟩ | ⟨_, rfl⟩ | ⟨_, rfl⟩ | ⟨_, rfl⟩ <;> simp [be2] <;> omega
theorem ConstsB.len {cs : List ConstV} {b : List Int} (h : ConstsB cs b) : b.length ≤ 259 * cs.length := by
 induction h with
 | nil => simp
 | snoc _ h2 ih => have := h2.len; simp only [List.length_append, List.length_cons, List.length_nil]; omega
theorem errs_drop {cs all : List ConstV} (h : errs all cs = 0) : ∀ c ∈ cs, oneZ all c = 0 := by
 induction cs with
 | nil => intro c hc; cases hc
 | cons x r ih =>
  unfold errs at h
  by_cases hx : oneZ all x = 0
  ·rw [if_neg (by simp [hx])] at h
   intro c hc
   rcases List.mem_cons.1 hc with rfl | hc
   ·exact hx
   ·exact ih h c hc
  ·rw [if_pos hx] at h
   exact absurd h hx
theorem checkZ_zero {cs : List ConstV} (h : checkZ cs = 0) : cs.length ≤ 1024 ∧ 0 < cs.length ∧ cs.getD 0 default = zeroC ∧ ∀ i, 1 ≤ i → i < cs.length → oneZ cs (cs.getD i default) = 0 := by
 unfold checkZ at h
 by_cases h1 : 1024 < cs.length
 ·rw [if_pos h1] at h; simp at h
 rw [if_neg h1] at h
 by_cases h2 : cs = [] ∨ cs.getD 0 default ≠ zeroC
 ·rw [if_pos h2] at h; simp at h
 rw [if_neg h2] at h
 refine ⟨by omega, List.length_pos_iff.2 (fun e => h2 (.inl e)), Classical.byContradiction (fun e => h2 (.inr e)), fun i hi hl => errs_drop h _ ?_⟩
 rw [List.mem_drop_iff_getElem]
 refine ⟨i - 1, by omega, ?_⟩
 simp [List.getD, hl, show 1 + (i - 1) = i by omega]
theorem isZ_small {cs : List ConstV} {i tag : Int} (h : isZ cs i tag = true) (hl : cs.length ≤ 1024) : 0 ≤ i ∧ i ≤ 1023 := by
 unfold isZ at h
 simp only [Bool.and_eq_true, decide_eq_true_eq] at h
 omega
theorem oneZ_zero {cs : List ConstV} {c : ConstV} (hl : cs.length ≤ 1024) (h : oneZ cs c = 0) :
  (c.tag = 1 ∧ ¬ TextBad c.text) ∨ (c.tag = 3 ∧ -2147483648 ≤ c.n ∧ c.n ≤ 2147483647) ∨ c.tag = 5 ∨ (c.tag = 7 ∧ 0 ≤ c.a ∧ c.a ≤ 1023) ∨
  ((c.tag = 9 ∨ c.tag = 10 ∨ c.tag = 12) ∧ (0 ≤ c.a ∧ c.a ≤ 1023) ∧ 0 ≤ c.b ∧ c.b ≤ 1023) := by
 unfold oneZ at h
 by_cases hb : bareZ c = false
 ·rw [if_pos hb] at h; simp at h
 rw [if_neg hb] at h
 by_cases h1 : c.tag = 1
 ·rw [if_pos h1] at h
  by_cases ht : TextBad c.text
  ·rw [if_pos ht] at h; simp at h
  ·exact .inl ⟨h1, ht⟩
 rw [if_neg h1] at h
 by_cases h3 : c.tag = 3
 ·rw [if_pos h3] at h
  by_cases ht : -2147483648 ≤ c.n ∧ c.n ≤ 2147483647
  ·exact .inr (.inl ⟨h3, ht⟩)
  ·rw [if_neg ht] at h; simp at h
 rw [if_neg h3] at h
 by_cases h5 : c.tag = 5
 ·exact .inr (.inr (.inl h5))
 rw [if_neg h5] at h
 by_cases h7 : c.tag = 7
 ·rw [if_pos h7] at h
  by_cases ht : isZ cs c.a 1 = true
  ·exact .inr (.inr (.inr (.inl ⟨h7, isZ_small ht hl⟩)))
  ·rw [if_neg ht] at h; simp at h
 rw [if_neg h7] at h
 by_cases h12 : c.tag = 12
 ·rw [if_pos h12] at h
  by_cases ht : isZ cs c.a 1 = true ∧ isZ cs c.b 1 = true
  ·exact .inr (.inr (.inr (.inr ⟨.inr (.inr h12), isZ_small ht.1 hl, isZ_small ht.2 hl⟩)))
  ·rw [if_neg ht] at h; simp at h
 rw [if_neg h12] at h
 by_cases h9 : c.tag = 9 ∨ c.tag = 10
 ·rw [if_pos h9] at h
  by_cases ht : isZ cs c.a 7 = true ∧ isZ cs c.b 12 = true
  ·exact .inr (.inr (.inr (.inr ⟨h9.elim .inl (fun e => .inr (.inl e)), isZ_small ht.1 hl, isZ_small ht.2 hl⟩)))
  ·rw [if_neg ht] at h; simp at h
 rw [if_neg h9] at h
 simp at h
end Go.Proofs.YtgdgffnaknkbcaaGreatDoor
