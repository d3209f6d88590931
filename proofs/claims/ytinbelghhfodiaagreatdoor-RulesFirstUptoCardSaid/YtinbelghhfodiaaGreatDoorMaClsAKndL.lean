import Derived.Test.YtinbelghhfodiaaGreatDoorMaLnkOPolD
import Derived.Test.YtinbelghhfodiaaGreatDoorMaPolLKndW
import Derived.Test.YtinbelghhfodiaaGreatDoorMaTxtFArg
import Derived.RangeFuncNested
import Derived.RangeFuncBound
import Derived.RangeFuncCalls
import Derived.RangeFuncLeaves
import Derived.RangeFuncBox
import Derived.Shelf.Abstract
import Derived.WalkKit
import Derived.OwnWalkIn
import Derived.TacticsInMore
import Derived.LoopNIn
import Derived.LoopIn
import Derived.Maps.OwnSet
import Derived.Maps.OwnIn
import Derived.Maps.Views
import Derived.StringKeys
import Derived.Test.YtinbelghhfodiaaGreatDoorMaKndBRulN
namespace Go.Proofs.YtinbelghhfodiaaGreatDoor
set_option maxHeartbeats 4000000
open Lib (hid)
open Go.RowKit
set_option linter.unusedVariables false
set_option linter.unusedSimpArgs false
theorem toList_inj {x y : ByteArray} (h : x.toList = y.toList) : x = y := by
 rw [ByteArray.toList_eq, ByteArray.toList_eq] at h
 cases x with | mk a => cases y with | mk b => cases a; cases b; simp at h; rw [h]
theorem text_ne {x y : ByteArray} (h : x ≠ y) : (x.toList == y.toList) = false := beq_eq_false_iff_ne.2 (fun e => h (toList_inj e))
noncomputable def findFrom (s : ByteArray) : Nat → List ConstV → Int
 | _, [] => 0
 | i, c :: r => open Classical in if c.tag = 1 ∧ c.text = s then (i : Int) else findFrom s (i + 1) r
noncomputable def placeOf (cs : List ConstV) (s : ByteArray) : Int := findFrom s 1 (cs.drop 1)
theorem findFrom_skip {s : ByteArray} {i : Nat} {l : List ConstV} {c : ConstV} {r : List ConstV} (hl : l = c :: r) (h : ¬ (c.tag = 1 ∧ c.text = s)) : findFrom s i l = findFrom s (i + 1) r := by
 subst hl
 show (if c.tag = 1 ∧ c.text = s then (i : Int) else findFrom s (i + 1) r) = _
 exact if_neg h
theorem findFrom_here {s : ByteArray} {i : Nat} {l : List ConstV} {c : ConstV} {r : List ConstV} (hl : l = c :: r) (h : c.tag = 1 ∧ c.text = s) : findFrom s i l = (i : Int) := by
 subst hl
 show (if c.tag = 1 ∧ c.text = s then (i : Int) else findFrom s (i + 1) r) = _
 exact if_pos h
theorem refPlace (v : Value) (cs : List ConstV) (s : ByteArray) (w : World) (hp : Pool w v cs) :
  Calls Tryz.prog 115 #[v, .string s] w fun e w' => e = .returned (.int .i64 (placeOf cs s)) ∧ w = w' := by
 obtain ⟨ao, cap, rfl, h1, h2, h3, h4, h5⟩ := id hp
 have Hp := hid hp
 clear h3 h4 h5 hp
 go_enter Tryz.func115, Tryz.ntmps115
 go_wp2
 go_loop [5] (fun i => ∃ j : Nat, 1 ≤ j ∧ (j ≤ cs.length ∨ j = 1) ∧ i = .int .i64 j ∧ placeOf cs s = findFrom s j (cs.drop j)) (fun i => cs.length - (intOf i).toNat)
 case atStart => exact ⟨1, Nat.le_refl _, .inr rfl, rfl, rfl⟩
 case round =>
  obtain ⟨j, hj1, hj, rfl, hpl⟩ := hrel
  by_cases hlt : j < cs.length
  ·obtain ⟨b, o, rfl, hc⟩ := Pool.at Hp.out hlt
   have g0 := hc.c0
   have g1 := hc.c1
   have hjz : (j : Int) < (cs.length : Int) := by omega
   have hdr : cs.drop j = cs.getD j default :: cs.drop (j + 1) := by rw [List.drop_eq_getElem_cons hlt]; simp [List.getD, hlt]
   by_cases hh : (cs.getD j default).tag = 1 ∧ (cs.getD j default).text = s
   ·have hv := hpl.trans (findFrom_here hdr hh)
    have Hv := hid hv
    obtain ⟨ht, hx⟩ := hh
    rw [ht] at g0
    rw [hx] at g1
    clear hc hdr hpl hv ht hx
    go_wp2
    go_ret
    exact ⟨by rw [Hv.out]; rfl, rfl⟩
   ·have hv := hpl.trans (findFrom_skip (i := j) hdr hh)
    have Hv := hid hv
    by_cases ht : (cs.getD j default).tag = 1
    ·have hx : (cs.getD j default).text ≠ s := fun e => hh ⟨ht, e⟩
     have hne := text_ne hx
     rw [ht] at g0
     generalize (cs.getD j default).text = x at *
     clear hc hdr hpl hv ht hx hh
     go_wp2
     go_round
     case rel => exact ⟨j + 1, by omega, by omega, by go_num, Hv.out⟩
     case measure => simp [intOf]; omega
    ·have hne : ((cs.getD j default).tag == 1) = false := by simpa using ht
     generalize (cs.getD j default).tag = t at *
     clear hc hdr hpl hv ht hh
     go_wp2
     go_round
     case rel => exact ⟨j + 1, by omega, by omega, by go_num, Hv.out⟩
     case measure => simp [intOf]; omega
  ·have hz : placeOf cs s = 0 := by rw [hpl, List.drop_eq_nil_of_le (by omega)]; rfl
   have Hz := hid hz
   have hjz : (cs.length : Int) ≤ (j : Int) := by omega
   clear hz hpl
   go_wp2
   go_ret
   exact ⟨by rw [Hz.out]; rfl, rfl⟩
theorem refUtf (v : Value) (cs : List ConstV) (i : Int) (w : World) (hp : Pool w v cs) :
  Calls Tryz.prog 75 #[v, .int .i64 i] w fun e w' => e = .returned (.bool (textZ cs i).2) ∧ w = w' := by
 have cT := refText v cs i w hp
 go_enter Tryz.func75, Tryz.ntmps75
 go_wp2_with (go_at_call 58; refine cT.mono ?_; rintro e w' ⟨rfl, rfl⟩)
 go_ret
 exact ⟨rfl, rfl⟩
theorem refCls (v : Value) (cs : List ConstV) (i : Int) (w : World) (hp : Pool w v cs) :
  Calls Tryz.prog 74 #[v, .int .i64 i] w fun e w' => e = .returned (.bool (classZ cs i).2) ∧ w = w' := by
 have cT := refClass v cs i w hp
 go_enter Tryz.func74, Tryz.ntmps74
 go_wp2_with (go_at_call 24; refine cT.mono ?_; rintro e w' ⟨rfl, rfl⟩)
 go_ret
 exact ⟨rfl, rfl⟩
def FlagsP (f : Int) : Prop := f = 0 ∨ f = 8
abbrev codeT : ByteArray := ⟨#[67, 111, 100, 101]⟩
abbrev mapsT : ByteArray := ⟨#[83, 116, 97, 99, 107, 77, 97, 112, 84, 97, 98, 108, 101]⟩
def HeadP (cs : List ConstV) (m : MethodV) : Prop := FlagsP m.flags ∧ (textZ cs m.name).2 = true ∧ (textZ cs m.desc).2 = true ∧ 0 ≤ m.stack ∧ m.stack ≤ 64 ∧ 0 ≤ m.locals ∧ m.locals ≤ 64
def BodyP (cs : List ConstV) (m : MethodV) : Prop := 1 ≤ m.code.length ∧ m.code.length ≤ 4096 ∧ m.maps.length ≤ 4096 ∧ placeOf cs codeT ≠ 0 ∧ (0 < m.maps.length → placeOf cs mapsT ≠ 0)
def TrapP (cs : List ConstV) (n : Nat) (t : TrapV) : Prop := 0 ≤ t.from_ ∧ t.from_ < t.to_ ∧ t.to_ ≤ n ∧ 0 ≤ t.hand ∧ t.hand < n ∧ (t.type = 0 ∨ (classZ cs t.type).2 = true)
def MethodP (cs : List ConstV) (m : MethodV) : Prop := HeadP cs m ∧ BodyP cs m ∧ ∀ t ∈ m.traps, TrapP cs m.code.length t
def FieldP (cs : List ConstV) (f : FieldV) : Prop := FlagsP f.flags ∧ (textZ cs f.name).2 = true ∧ (textZ cs f.desc).2 = true
def LongP (c : ClassV) : Prop := 64 < c.fields.length ∨ 64 < c.methods.length ∨ ∃ m ∈ c.methods, 64 < m.traps.length
def RightP (c : ClassV) : Prop := (classZ c.pool c.this).2 = true ∧ (classZ c.pool c.super).2 = true ∧ (∀ f ∈ c.fields, FieldP c.pool f) ∧ ∀ m ∈ c.methods, MethodP c.pool m
open Classical in
noncomputable def clsZ (c : ClassV) : Int := if checkZ c.pool ≠ 0 then checkZ c.pool else if LongP c then 2 else if RightP c then 0 else 50
theorem clsZ_pool {c : ClassV} (h : checkZ c.pool ≠ 0) : clsZ c = checkZ c.pool := by unfold clsZ; rw [if_pos h]
theorem clsZ_long {c : ClassV} (h : checkZ c.pool = 0) (hl : LongP c) : clsZ c = 2 := by unfold clsZ; rw [if_neg (by simp [h]), if_pos hl]
theorem clsZ_ok {c : ClassV} (h : checkZ c.pool = 0) (hl : ¬ LongP c) (hr : RightP c) : clsZ c = 0 := by unfold clsZ; rw [if_neg (by simp [h]), if_neg hl, if_pos hr]
theorem clsZ_wrong {c : ClassV} (h : checkZ c.pool = 0) (hl : ¬ LongP c) (hr : ¬ RightP c) : clsZ c = 50 := by unfold clsZ; rw [if_neg (by simp [h]), if_neg hl, if_neg hr]
theorem clsZ_zero {c : ClassV} (h : clsZ c = 0) : checkZ c.pool = 0 ∧ ¬ LongP c ∧ RightP c := by
 by_cases h0 : checkZ c.pool = 0
 ·by_cases hl : LongP c
  ·rw [clsZ_long h0 hl] at h; exact absurd h (by decide)
  ·by_cases hr : RightP c
   ·exact ⟨h0, hl, hr⟩
   ·rw [clsZ_wrong h0 hl hr] at h; exact absurd h (by decide)
 ·rw [clsZ_pool h0] at h; exact absurd h h0
theorem take_snoc {α : Type} [Inhabited α] {l : List α} {j : Nat} (h : j < l.length) : l.take (j + 1) = l.take j ++ [l.getD j default] := by
 rw [List.take_succ_eq_append_getElem h]
 congr 1
 simp [List.getD, h]
end Go.Proofs.YtinbelghhfodiaaGreatDoor
namespace Go.Proofs.YtinbelghhfodiaaGreatDoor
set_option maxHeartbeats 4000000
open Lib (hid)
open Go.RowKit
set_option linter.unusedVariables false
set_option linter.unusedSimpArgs false
def objB : ByteArray := ⟨#[79, 98, 106, 101, 99, 116]⟩
def thrB : ByteArray := ⟨#[84, 104, 114, 111, 119, 97, 98, 108, 101]⟩
def thdB : ByteArray := ⟨#[84, 104, 114, 101, 97, 100]⟩
def nulB : ByteArray := ⟨#[78, 117, 108, 108, 69, 114, 114, 111, 114]⟩
def bndB : ByteArray := ⟨#[66, 111, 117, 110, 100, 115, 69, 114, 114, 111, 114]⟩
def cstB : ByteArray := ⟨#[67, 97, 115, 116, 69, 114, 114, 111, 114]⟩
def divB : ByteArray := ⟨#[68, 105, 118, 69, 114, 114, 111, 114]⟩
def ownB : ByteArray := ⟨#[79, 119, 110, 101, 114, 69, 114, 114, 111, 114]⟩
def memB : ByteArray := ⟨#[77, 101, 109, 111, 114, 121, 69, 114, 114, 111, 114]⟩
def dptB : ByteArray := ⟨#[68, 101, 112, 116, 104, 69, 114, 114, 111, 114]⟩
def sizB : ByteArray := ⟨#[83, 105, 122, 101, 69, 114, 114, 111, 114]⟩
def stoB : ByteArray := ⟨#[83, 116, 111, 114, 101, 69, 114, 114, 111, 114]⟩
def waitB : ByteArray := ⟨#[119, 97, 105, 116]⟩
def notiB : ByteArray := ⟨#[110, 111, 116, 105, 102, 121]⟩
def ntalB : ByteArray := ⟨#[110, 111, 116, 105, 102, 121, 65, 108, 108]⟩
def startB : ByteArray := ⟨#[115, 116, 97, 114, 116]⟩
def joinB : ByteArray := ⟨#[106, 111, 105, 110]⟩
def runB : ByteArray := ⟨#[114, 117, 110]⟩
def readB : ByteArray := ⟨#[114, 101, 97, 100]⟩
def clockB : ByteArray := ⟨#[99, 108, 111, 99, 107]⟩
def writeB : ByteArray := ⟨#[119, 114, 105, 116, 101]⟩
def retIB : ByteArray := ⟨#[40, 41, 73]⟩
def retJB : ByteArray := ⟨#[40, 41, 74]⟩
def argJB : ByteArray := ⟨#[40, 74, 41, 86]⟩
def beginM : MethN := ⟨initB, voidB, 0⟩
def errK (n : ByteArray) : KindV := ⟨n, thrB, [], [beginM], -1⟩
def builtK : List KindV := [⟨objB, ⟨#[]⟩, [], [beginM, ⟨waitB, voidB, 0⟩, ⟨notiB, voidB, 0⟩, ⟨ntalB, voidB, 0⟩], -1⟩, ⟨thrB, objB, [], [beginM], -1⟩,
 ⟨thdB, objB, [], [beginM, ⟨startB, voidB, 0⟩, ⟨joinB, voidB, 0⟩, ⟨runB, voidB, 0⟩], -1⟩, ⟨sysB, objB, [], [⟨readB, retIB, 8⟩, ⟨clockB, retJB, 8⟩, ⟨writeB, argJB, 8⟩], -1⟩,
 errK nulB, errK bndB, errK cstB, errK divB, errK ownB, errK memB, errK dptB, errK sizB, errK stoB]
theorem builtK_len : builtK.length = 13 := rfl
def methK (cs : List ConstV) (n d f : Int) : MethN := ⟨(textZ cs n).1, (textZ cs d).1, f⟩
def loadZ (c : ClassV) (i : Nat) : KindV := ⟨(classZ c.pool c.this).1, (classZ c.pool c.super).1, c.fields.map (fun f => methK c.pool f.name f.desc f.flags), c.methods.map (fun m => methK c.pool m.name m.desc m.flags), (i : Int)⟩
def listK : List ClassV → Nat → List KindV
 | [], _ => []
 | c :: r, i => loadZ c i :: listK r (i + 1)
def kindsZ (cs : List ClassV) : List KindV := builtK ++ listK cs 0
theorem listK_len : ∀ (cs : List ClassV) (i : Nat), (listK cs i).length = cs.length
 | [], _ => rfl
 | c :: r, i => by rw [listK, List.length_cons, List.length_cons, listK_len r]
theorem kindsZ_len (cs : List ClassV) : (kindsZ cs).length = 13 + cs.length := by rw [kindsZ, List.length_append, listK_len, builtK_len]
theorem listK_at : ∀ {cs : List ClassV} {i j : Nat}, j < cs.length → (listK cs i).getD j default = loadZ (cs.getD j default) (i + j)
 | c :: r, i, 0, _ => rfl
 | c :: r, i, j + 1, h => by
  show (listK r (i + 1)).getD j default = loadZ (r.getD j default) (i + (j + 1))
  rw [listK_at (by simpa using h)]
  congr 1
  omega
theorem listK_app : ∀ (cs ds : List ClassV) (i : Nat), listK (cs ++ ds) i = listK cs i ++ listK ds (i + cs.length)
 | [], ds, i => by simp [listK]
 | c :: r, ds, i => by
  rw [List.cons_append, listK, listK, listK_app r ds, List.cons_append, List.length_cons]
  congr 3
  omega
theorem kindsZ_snoc (cs : List ClassV) (c : ClassV) : kindsZ (cs ++ [c]) = kindsZ cs ++ [loadZ c cs.length] := by
 rw [kindsZ, kindsZ, listK_app, List.append_assoc, Nat.zero_add]
 rfl
theorem kindsZ_list {cs : List ClassV} {j : Nat} (h : j < cs.length) : (kindsZ cs).getD (13 + j) default = loadZ (cs.getD j default) j := by
 have := listK_at (i := 0) h
 rw [Nat.zero_add] at this
 rw [← this, kindsZ]
 show ((builtK ++ listK cs 0)[13 + j]?).getD default = ((listK cs 0)[j]?).getD default
 rw [List.getElem?_append_right (by rw [builtK_len]; omega), builtK_len, show 13 + j - 13 = j by omega]
theorem kindsZ_built {cs : List ClassV} {j : Nat} (h : j < 13) : (kindsZ cs).getD j default = builtK.getD j default := by
 rw [kindsZ]
 show ((builtK ++ listK cs 0)[j]?).getD default = (builtK[j]?).getD default
 rw [List.getElem?_append_left (by rw [builtK_len]; exact h)]
noncomputable def errsC : List ClassV → Int
 | [] => 0
 | c :: r => if clsZ c ≠ 0 then clsZ c else errsC r
theorem errsC_zero : ∀ {cs : List ClassV}, errsC cs = 0 → ∀ c ∈ cs, clsZ c = 0
 | [], _, c, hc => by cases hc
 | d :: r, h, c, hc => by
  unfold errsC at h
  by_cases h0 : clsZ d = 0
  ·rw [if_neg (by simp [h0])] at h
   rcases List.mem_cons.1 hc with rfl | hc
   ·exact h0
   ·exact errsC_zero h c hc
  ·rw [if_pos h0] at h; exact absurd h h0
theorem errsC_all : ∀ {cs : List ClassV}, (∀ c ∈ cs, clsZ c = 0) → errsC cs = 0
 | [], _ => rfl
 | d :: r, h => by
  unfold errsC
  rw [if_neg (by simp [h d (by simp)])]
  exact errsC_all (fun c hc => h c (by simp [hc]))
theorem errsC_at {cs : List ClassV} {j : Nat} (h : j < cs.length) : errsC (cs.drop j) = if clsZ (cs.getD j default) ≠ 0 then clsZ (cs.getD j default) else errsC (cs.drop (j + 1)) := by
 rw [List.drop_eq_getElem_cons h]
 show (if clsZ cs[j] ≠ 0 then clsZ cs[j] else _) = _
 rw [show cs.getD j default = cs[j] by simp [List.getD, h]]
structure RightK (ks : List KindV) : Prop where
 own : ∀ j, 13 ≤ j → j < ks.length → (plainN (nums (ks.getD j default).name) = true ∧ findZ ks (ks.getD j default).name = (j : Int)) ∧ MembersOK (ks.getD j default)
 tops : ∀ j, 13 ≤ j → j < ks.length → topsZ ks j = true
 keeps : ∀ j, 13 ≤ j → j < ks.length → keepsZ ks j = true
 main : 13 < ks.length ∧ ¬ hasZ (ks.getD 13 default).meths mainB voidB < 0 ∧ ((ks.getD 13 default).meths.getD (hasZ (ks.getD 13 default).meths mainB voidB).toNat default).flags = 8
open Classical in
noncomputable def buildZ (cs : List ClassV) : Int := if 16 < cs.length then 2 else if errsC cs ≠ 0 then errsC cs else if RightK (kindsZ cs) then 0 else 90
def FlagsL (l : List MethN) : Prop := ∀ m ∈ l, m.flags = 0 ∨ m.flags = 8
structure FineK (k : KindV) : Prop where
 fields : k.fields.length ≤ 64
 meths : k.meths.length ≤ 64
 ff : FlagsL k.fields
 mf : FlagsL k.meths
 name : k.name.size ≤ 256
 super : k.super.size ≤ 256
 fnm : ∀ m ∈ k.fields, m.name.size ≤ 256 ∧ m.desc.size ≤ 256
 mnm : ∀ m ∈ k.meths, m.name.size ≤ 256 ∧ m.desc.size ≤ 256
end Go.Proofs.YtinbelghhfodiaaGreatDoor
namespace Go.Proofs.YtinbelghhfodiaaGreatDoor
set_option maxHeartbeats 4000000
open Lib (hid)
open Go.RowKit Go.Shelf
set_option linter.unusedVariables false
set_option linter.unusedSimpArgs false
def be2 (n : Int) : List Int := [n / 256 % 256, n % 256]
def ConstB (c : ConstV) (bs : List Int) : Prop :=
 (c.tag = 1 ∧ ∃ ys, Enc (nums c.text) ys 0 ∧ ys.length ≤ 256 ∧ bs = 1 :: be2 ys.length ++ ys) ∨
 (c.tag = 3 ∧ bs = [3, c.n / 16777216 % 256, c.n / 65536 % 256, c.n / 256 % 256, c.n % 256]) ∨
 (c.tag = 5 ∧ bs = [5, c.n / 72057594037927936 % 256, c.n / 281474976710656 % 256, c.n / 1099511627776 % 256, c.n / 4294967296 % 256, c.n / 16777216 % 256, c.n / 65536 % 256, c.n / 256 % 256, c.n % 256]) ∨
 (c.tag = 7 ∧ bs = 7 :: be2 c.a) ∨
 ((c.tag = 9 ∨ c.tag = 10 ∨ c.tag = 12) ∧ bs = c.tag :: be2 c.a ++ be2 c.b)
inductive ConstsB : List ConstV → List Int → Prop
 | nil : ConstsB [] []
 | snoc {cs : List ConstV} {bs : List Int} {c : ConstV} {b : List Int} : ConstsB cs bs → ConstB c b → ConstsB (cs ++ [c]) (bs ++ b)
theorem ConstB.len {c : ConstV} {b : List Int} (h : ConstB c b) : b.length ≤ 259 := by
 rcases h with ⟨_, ys, _, h, rfl⟩ | ⟨_, rfl⟩ | ⟨_, rfl⟩ | ⟨_, rfl⟩ | ⟨_, rfl⟩ <;> simp [be2] <;> omega
theorem ConstsB.len {cs : List ConstV} {b : List Int} (h : ConstsB cs b) : b.length ≤ 259 * cs.length := by
 induction h with
 | nil => simp
 | snoc _ h2 ih => have := h2.len; simp only [List.length_append, List.length_cons, List.length_nil]; omega
theorem errs_drop {cs all : List ConstV} (h : errs all cs = 0) : ∀ c ∈ cs, oneZ all c = 0 := by
 induction cs with
 | nil => intro c hc; cases hc
 | cons x r ih =>
  unfold errs at h
  by_cases hx : oneZ all x = 0
  ·rw [if_neg (by simp [hx])] at h
   intro c hc
   rcases List.mem_cons.1 hc with rfl | hc
   ·exact hx
   ·exact ih h c hc
  ·rw [if_pos hx] at h
   exact absurd h hx
theorem checkZ_zero {cs : List ConstV} (h : checkZ cs = 0) : cs.length ≤ 1024 ∧ 0 < cs.length ∧ cs.getD 0 default = zeroC ∧ ∀ i, 1 ≤ i → i < cs.length → oneZ cs (cs.getD i default) = 0 := by
 unfold checkZ at h
 by_cases h1 : 1024 < cs.length
 ·rw [if_pos h1] at h; simp at h
 rw [if_neg h1] at h
 by_cases h2 : cs = [] ∨ cs.getD 0 default ≠ zeroC
 ·rw [if_pos h2] at h; simp at h
 rw [if_neg h2] at h
 refine ⟨by omega, List.length_pos_iff.2 (fun e => h2 (.inl e)), Classical.byContradiction (fun e => h2 (.inr e)), fun i hi hl => errs_drop h _ ?_⟩
 rw [List.mem_drop_iff_getElem]
 refine ⟨i - 1, by omega, ?_⟩
 simp [List.getD, hl, show 1 + (i - 1) = i by omega]
theorem isZ_small {cs : List ConstV} {i tag : Int} (h : isZ cs i tag = true) (hl : cs.length ≤ 1024) : 0 ≤ i ∧ i ≤ 1023 := by
 unfold isZ at h
 simp only [Bool.and_eq_true, decide_eq_true_eq] at h
 omega
theorem oneZ_zero {cs : List ConstV} {c : ConstV} (hl : cs.length ≤ 1024) (h : oneZ cs c = 0) :
  (c.tag = 1 ∧ ¬ TextBad c.text) ∨ (c.tag = 3 ∧ -2147483648 ≤ c.n ∧ c.n ≤ 2147483647) ∨ c.tag = 5 ∨ (c.tag = 7 ∧ 0 ≤ c.a ∧ c.a ≤ 1023) ∨
  ((c.tag = 9 ∨ c.tag = 10 ∨ c.tag = 12) ∧ (0 ≤ c.a ∧ c.a ≤ 1023) ∧ 0 ≤ c.b ∧ c.b ≤ 1023) := by
 unfold oneZ at h
 by_cases hb : bareZ c = false
 ·rw [if_pos hb] at h; simp at h
 rw [if_neg hb] at h
 by_cases h1 : c.tag = 1
 ·rw [if_pos h1] at h
  by_cases ht : TextBad c.text
  ·rw [if_pos ht] at h; simp at h
  ·exact .inl ⟨h1, ht⟩
 rw [if_neg h1] at h
 by_cases h3 : c.tag = 3
 ·rw [if_pos h3] at h
  by_cases ht : -2147483648 ≤ c.n ∧ c.n ≤ 2147483647
  ·exact .inr (.inl ⟨h3, ht⟩)
  ·rw [if_neg ht] at h; simp at h
 rw [if_neg h3] at h
 by_cases h5 : c.tag = 5
 ·exact .inr (.inr (.inl h5))
 rw [if_neg h5] at h
 by_cases h7 : c.tag = 7
 ·rw [if_pos h7] at h
  by_cases ht : isZ cs c.a 1 = true
  ·exact .inr (.inr (.inr (.inl ⟨h7, isZ_small ht hl⟩)))
  ·rw [if_neg ht] at h; simp at h
 rw [if_neg h7] at h
 by_cases h12 : c.tag = 12
 ·rw [if_pos h12] at h
  by_cases ht : isZ cs c.a 1 = true ∧ isZ cs c.b 1 = true
  ·exact .inr (.inr (.inr (.inr ⟨.inr (.inr h12), isZ_small ht.1 hl, isZ_small ht.2 hl⟩)))
  ·rw [if_neg ht] at h; simp at h
 rw [if_neg h12] at h
 by_cases h9 : c.tag = 9 ∨ c.tag = 10
 ·rw [if_pos h9] at h
  by_cases ht : isZ cs c.a 7 = true ∧ isZ cs c.b 12 = true
  ·exact .inr (.inr (.inr (.inr ⟨h9.elim .inl (fun e => .inr (.inl e)), isZ_small ht.1 hl, isZ_small ht.2 hl⟩)))
  ·rw [if_neg ht] at h; simp at h
 rw [if_neg h9] at h
 simp at h
end Go.Proofs.YtinbelghhfodiaaGreatDoor
namespace Go.Proofs.YtinbelghhfodiaaGreatDoor
set_option maxHeartbeats 4000000
open Lib (hid)
open Go.RowKit
set_option linter.unusedVariables false
set_option linter.unusedSimpArgs false
theorem text256 {x : ByteArray} (h : ¬ TextBad x) : x.size ≤ 256 := by
 unfold TextBad at h
 have h' : ∃ ys k, Enc (nums x) ys k ∧ ¬ (k ≠ 0 ∨ 256 < ys.length) := Classical.byContradiction (fun hn => h (fun ys k he => Classical.byContradiction (fun hb => hn ⟨ys, k, he, hb⟩)))
 obtain ⟨ys, k, he, hb⟩ := h'
 have hk : k = 0 := Classical.byContradiction (fun hk => hb (.inl hk))
 have hl : ys.length ≤ 256 := Classical.byContradiction (fun hk => hb (.inr (by omega)))
 subst hk
 rcases he with ⟨cs, ht, rfl, _⟩ | ⟨_, _, h0⟩
 ·have h1 := (M8s_len ht.1).1
  have h2 : (nums x).length = (U8s cs).length := by rw [ht.2]
  rw [nums_len] at h2
  omega
 ·cases h0
theorem pool256 {cs : List ConstV} (h : checkZ cs = 0) (i : Int) : (textZ cs i).1.size ≤ 256 := by
 unfold textZ
 by_cases hi : isZ cs i 1 = true
 ·rw [if_pos hi]
  obtain ⟨j, rfl, h1, h2, h3⟩ := isZ_lt hi
  have := (checkZ_zero h).2.2.2 j h1 h2
  show (cs.getD j default).text.size ≤ 256
  unfold oneZ at this
  by_cases hb : bareZ (cs.getD j default) = false
  ·rw [if_pos hb] at this; exact absurd this (by decide)
  ·rw [if_neg hb, if_pos h3] at this
   by_cases ht : TextBad (cs.getD j default).text
   ·rw [if_pos ht] at this; exact absurd this (by decide)
   ·exact text256 ht
 ·rw [if_neg hi]; decide
theorem class256 {cs : List ConstV} (h : checkZ cs = 0) (i : Int) : (classZ cs i).1.size ≤ 256 := by
 unfold classZ
 split
 ·exact pool256 h _
 ·decide
theorem fine_load {c : ClassV} (h : clsZ c = 0) (i : Nat) : FineK (loadZ c i) := by
 obtain ⟨h1, h2, h3⟩ := clsZ_zero h
 have h4 : ¬ 64 < c.fields.length := fun x => h2 (.inl x)
 have h5 : ¬ 64 < c.methods.length := fun x => h2 (.inr (.inl x))
 refine ⟨?_, ?_, ?_, ?_, class256 h1 _, class256 h1 _, ?_, ?_⟩
 ·show (c.fields.map _).length ≤ 64
  rw [List.length_map]; omega
 ·show (c.methods.map _).length ≤ 64
  rw [List.length_map]; omega
 ·intro m hm
  obtain ⟨f, hf, rfl⟩ := List.mem_map.1 hm
  exact (h3.2.2.1 f hf).1
 ·intro m hm
  obtain ⟨f, hf, rfl⟩ := List.mem_map.1 hm
  exact (h3.2.2.2 f hf).1.1
 ·intro m hm
  obtain ⟨f, hf, rfl⟩ := List.mem_map.1 hm
  exact ⟨pool256 h1 _, pool256 h1 _⟩
 ·intro m hm
  obtain ⟨f, hf, rfl⟩ := List.mem_map.1 hm
  exact ⟨pool256 h1 _, pool256 h1 _⟩
theorem fine_begin {k : KindV} (hn : k.name.size ≤ 256) (hs : k.super.size ≤ 256) (hf : k.fields = []) (hl : k.meths.length ≤ 64) (hm : ∀ m ∈ k.meths, (m.flags = 0 ∨ m.flags = 8) ∧ m.name.size ≤ 256 ∧ m.desc.size ≤ 256) : FineK k :=
 ⟨by rw [hf]; decide, hl, by rw [hf]; exact (fun m h => by cases h), fun m h => (hm m h).1, hn, hs, by rw [hf]; exact (fun m h => by cases h), fun m h => (hm m h).2⟩
theorem fine_err {n : ByteArray} (h : n.size ≤ 256) : FineK (errK n) := fine_begin h (show thrB.size ≤ 256 by decide) rfl (show [beginM].length ≤ 64 by decide) (fun m hm => by
 simp only [errK, List.mem_cons, List.mem_nil_iff, or_false] at hm
 subst hm
 exact ⟨.inl rfl, by decide, by decide⟩)
theorem fine_built : ∀ k ∈ builtK, FineK k := by
 intro k hk
 simp only [builtK, List.mem_cons, List.mem_nil_iff, or_false] at hk
 rcases hk with rfl | rfl | rfl | rfl | rfl | rfl | rfl | rfl | rfl | rfl | rfl | rfl | rfl
 ·exact fine_begin (by decide) (by decide) rfl (by decide) (fun m hm => by
   simp only [List.mem_cons, List.mem_nil_iff, or_false] at hm
   rcases hm with rfl | rfl | rfl | rfl <;> exact ⟨.inl rfl, by decide, by decide⟩)
 ·exact fine_begin (by decide) (by decide) rfl (by decide) (fun m hm => by
   simp only [List.mem_cons, List.mem_nil_iff, or_false] at hm
   subst hm; exact ⟨.inl rfl, by decide, by decide⟩)
 ·exact fine_begin (by decide) (by decide) rfl (by decide) (fun m hm => by
   simp only [List.mem_cons, List.mem_nil_iff, or_false] at hm
   rcases hm with rfl | rfl | rfl | rfl <;> exact ⟨.inl rfl, by decide, by decide⟩)
 ·exact fine_begin (by decide) (by decide) rfl (by decide) (fun m hm => by
   simp only [List.mem_cons, List.mem_nil_iff, or_false] at hm
   rcases hm with rfl | rfl | rfl <;> exact ⟨.inr rfl, by decide, by decide⟩)
 all_goals exact fine_err (by decide)
theorem listK_mem : ∀ {cs : List ClassV} {i : Nat} {k : KindV}, k ∈ listK cs i → ∃ c ∈ cs, ∃ j, k = loadZ c j
 | c :: r, i, k, h => by
  rcases List.mem_cons.1 h with rfl | h
  ·exact ⟨c, by simp, i, rfl⟩
  ·obtain ⟨d, hd, j, e⟩ := listK_mem h
   exact ⟨d, by simp [hd], j, e⟩
theorem fine_all {cs : List ClassV} (h : ∀ c ∈ cs, clsZ c = 0) : ∀ k ∈ kindsZ cs, FineK k := by
 intro k hk
 rcases List.mem_append.1 hk with hk | hk
 ·exact fine_built k hk
 ·obtain ⟨c, hc, j, rfl⟩ := listK_mem hk
  exact fine_load (h c hc) j
theorem fine_small {cs : List ClassV} (h : ∀ c ∈ cs, clsZ c = 0) (hl : cs.length ≤ 16) : SmallK (kindsZ cs) := ⟨by rw [kindsZ_len]; omega, fun k hk => ⟨(fine_all h k hk).fields, (fine_all h k hk).meths⟩⟩
theorem pairFrom_app (x : ByteArray) : ∀ (a b : List PairV) (i : Nat), pairFrom x i (a ++ b) = if pairFrom x i a < 0 then pairFrom x (i + a.length) b else pairFrom x i a
 | [], b, i => by show _ = if (-1 : Int) < 0 then _ else _; rw [if_pos (by decide)]; rfl
 | p :: a, b, i => by
  rw [List.cons_append, pairFrom, pairFrom]
  by_cases h : p.name = x
  ·rw [if_pos h, if_pos h, if_neg (by omega)]
  ·rw [if_neg h, if_neg h, pairFrom_app x a b (i + 1), List.length_cons, show i + 1 + a.length = i + (a.length + 1) by omega]
theorem findZ_app (a b : List KindV) (x : ByteArray) : findZ (a ++ b) x = if findZ a x < 0 then pairFrom x a.length (treeZ b) else findZ a x := by
 unfold findZ pairOf
 rw [show treeZ (a ++ b) = treeZ a ++ treeZ b by simp [treeZ], pairFrom_app, treeZ_len, Nat.zero_add]
theorem builtK_find : ∀ j, j < 13 → findZ builtK (builtK.getD j default).name = (j : Int) := by decide
theorem find_built {cs : List ClassV} {j : Nat} (h : j < 13) : findZ (kindsZ cs) ((kindsZ cs).getD j default).name = (j : Int) := by
 rw [kindsZ_built h, kindsZ, findZ_app, builtK_find j h, if_neg (by omega)]
theorem find_obj (cs : List ClassV) : findZ (kindsZ cs) objB = 0 := find_built (cs := cs) (j := 0) (by decide)
theorem find_thr (cs : List ClassV) : findZ (kindsZ cs) thrB = 1 := find_built (cs := cs) (j := 1) (by decide)
theorem builtK_super : ∀ j, 1 ≤ j → j < 13 → (builtK.getD j default).super = objB ∨ (builtK.getD j default).super = thrB := fun j h1 h => (show ∀ j, j < 13 → 1 ≤ j → (builtK.getD j default).super = objB ∨ (builtK.getD j default).super = thrB by decide) j h h1
theorem super_zero (ks : List KindV) : superZ ks 0 = -1 := if_pos (by decide)
theorem super_one (cs : List ClassV) : superZ (kindsZ cs) 1 = 0 := by
 have := kindsZ_len cs
 unfold superZ
 rw [if_neg (by decide), if_neg (by omega)]
 exact find_obj cs
theorem super_built {cs : List ClassV} {j : Nat} (h1 : 1 ≤ j) (h : j < 13) : superZ (kindsZ cs) (j : Int) = 0 ∨ superZ (kindsZ cs) (j : Int) = 1 := by
 have := kindsZ_len cs
 unfold superZ
 rw [if_neg (by omega), if_neg (by omega), Int.toNat_natCast, kindsZ_built h]
 rcases builtK_super j h1 h with e | e
 ·rw [e]; exact .inl (find_obj cs)
 ·rw [e]; exact .inr (find_thr cs)
theorem super_list {ks : List KindV} {j : Nat} (h1 : 1 ≤ j) (h : j < ks.length) : superZ ks (j : Int) = findZ ks (ks.getD j default).super := by
 unfold superZ
 rw [if_neg (by omega), if_neg (by omega), Int.toNat_natCast]
theorem Ends.neg {ks : List KindV} {f : Nat} {x : Int} (h : x < 0) : Ends ks f x := by cases f with | zero => exact h | succ f => exact .inl h
theorem Ends.plus {ks : List KindV} {f : Nat} {x : Int} (h : Ends ks f x) : ∀ k, Ends ks (f + k) x
 | 0 => h
 | k + 1 => (h.plus k).more
theorem tops_ends {ks : List KindV} : ∀ {f : Nat} {x : Int}, topsF ks f x = true → Ends ks f x
 | 0, x, h => by cases h
 | f + 1, x, h => by
  unfold topsF at h
  by_cases h0 : x = 0
  ·subst h0
   exact .inr (by rw [super_zero]; exact Ends.neg (by decide))
  ·rw [if_neg h0] at h
   by_cases h1 : superZ ks x < 0
   ·rw [if_pos h1] at h; cases h
   ·rw [if_neg h1] at h
    by_cases h2 : (ks.getD (superZ ks x).toNat default).name = sysB
    ·rw [if_pos h2] at h; cases h
    ·rw [if_neg h2] at h
     exact .inr (tops_ends h)
theorem ends_built {cs : List ClassV} {j : Nat} (h : j < 13) : Ends (kindsZ cs) 4 (j : Int) := by
 have e0 : Ends (kindsZ cs) 2 0 := .inr (by rw [super_zero]; exact Ends.neg (by decide))
 have e1 : Ends (kindsZ cs) 3 1 := .inr (by rw [super_one]; exact e0)
 by_cases h0 : j = 0
 ·subst h0; exact e0.plus 2
 ·refine .inr ?_
  rcases super_built (cs := cs) (show 1 ≤ j by omega) h with e | e
  ·rw [e]; exact e0.plus 1
  ·rw [e]; exact e1
theorem ends_all {cs : List ClassV} (h : ∀ j, 13 ≤ j → j < (kindsZ cs).length → topsZ (kindsZ cs) (j : Int) = true) : EndsAll (kindsZ cs) := fun x hx => by
 have hl := kindsZ_len cs
 by_cases h0 : x < 0
 ·exact Ends.neg h0
 ·obtain ⟨j, rfl⟩ := Int.eq_ofNat_of_zero_le (show 0 ≤ x by omega)
  by_cases h13 : j < 13
  ·have := (ends_built (cs := cs) h13).plus ((kindsZ cs).length + 1 - 4)
   rwa [show 4 + ((kindsZ cs).length + 1 - 4) = (kindsZ cs).length + 1 by omega] at this
  ·exact tops_ends (h j (by omega) (by omega))
theorem once_all {cs : List ClassV} (h : ∀ j, 13 ≤ j → j < (kindsZ cs).length → findZ (kindsZ cs) ((kindsZ cs).getD j default).name = (j : Int)) : NamesOnce (kindsZ cs) := fun j hj => by
 by_cases h13 : j < 13
 ·exact find_built h13
 ·exact h j (by omega) hj
theorem pairFrom_hit {x : ByteArray} : ∀ {l : List PairV} {i n : Nat}, pairFrom x i l = (n : Int) → i ≤ n ∧ n < i + l.length ∧ (l.getD (n - i) default).name = x
 | [], i, n, h => by simp [pairFrom] at h <;> omega
 | p :: r, i, n, h => by
  rw [pairFrom] at h
  by_cases hp : p.name = x
  ·rw [if_pos hp] at h
   obtain rfl : i = n := by omega
   exact ⟨Nat.le_refl _, by simp, by simpa using hp⟩
  ·rw [if_neg hp] at h
   obtain ⟨h1, h2, h3⟩ := pairFrom_hit h
   refine ⟨by omega, by rw [List.length_cons]; omega, ?_⟩
   rw [show n - i = (n - (i + 1)) + 1 by omega]
   exact h3
theorem find_hit {ks : List KindV} {x : ByteArray} {n : Nat} (h : findZ ks x = (n : Int)) : n < ks.length ∧ (ks.getD n default).name = x := by
 obtain ⟨_, h2, h3⟩ := pairFrom_hit (show pairFrom x 0 (treeZ ks) = _ from h)
 rw [treeZ_len, Nat.zero_add] at h2
 rw [Nat.sub_zero, treeZ_at h2] at h3
 exact ⟨h2, h3⟩
end Go.Proofs.YtinbelghhfodiaaGreatDoor
namespace Go.Proofs.YtinbelghhfodiaaGreatDoor
set_option maxHeartbeats 4000000
open Lib (hid)
open Go.RowKit Go.Shelf Go.Maps
set_option linter.unusedVariables false
set_option linter.unusedSimpArgs false
attribute [local go_sem] Oper.semAt_some
theorem beq_bytes (a b : ByteArray) : (a.toList == b.toList) = decide (a = b) := by
 by_cases h : a = b
 ·subst h; simp
 ·rw [(toList_beq h).1]
  simp [h]
set_option maxRecDepth 100000 in
theorem progNamed (p : PairV) (x : ByteArray) (b : Nat) (w : World) (hx : w.cell? ⟨b, 0, none⟩ = some (.string x)) : Calls Tryz.prog 149 #[.agg #[.string p.name, .string p.super], .pointer (some ⟨b, 0, none⟩)] w fun e w' => e = .returned (.bool (decide (p.name = x))) ∧ Only (fun _ => False) w w' := by
 have ho := (Only.refl (fun _ => False) w).alloc (.cells #[.string p.name, .string p.super] 163)
 have hx2 := ho.cell hx (fun h => h)
 have HO := hid ho
 rw [← beq_bytes]
 clear ho hx
 go_enter Tryz.func149, Tryz.ntmps149
 go_wp2
 go_ret
 exact ⟨rfl, HO.out⟩
set_option maxRecDepth 100000 in
theorem indexPr (v : Value) (l : List PairV) (x : ByteArray) (b : Nat) (w : World) (hl : Pairs w v l) (hx : w.cell? ⟨b, 0, none⟩ = some (.string x)) (hn : l.length ≤ 9223372036854775806) :
  Calls Tryz.prog 148 #[v, .func (.func 149) #[] #[.pointer (some ⟨b, 0, none⟩)]] w fun e w' => e = .returned (.int .i64 (pairOf l x)) ∧ Only (fun _ => False) w w' := by
 obtain ⟨ao, cap, rfl, h1, h2, h3, h4⟩ := id hl
 have HL := hid hl
 have HX := hid hx
 have hen : ∀ args w, (callFunc 149 args).run Tryz.prog w = .ok (.enter 149 args) w := enters_of Tryz.func149 (by kernel_rfl) rfl
 clear hl h3 h4 hx
 go_enter Tryz.func148, Tryz.ntmps148
 go_wp2
 go_loopw [8] (fun i wr => ∃ j : Nat, i = .int .i64 j ∧ j ≤ l.length ∧ pairOf l x = pairFrom x j (l.drop j) ∧ Only (fun _ => False) w wr) (fun i _ => l.length - (intOf i).toNat)
 case atStart => exact ⟨0, rfl, Nat.zero_le _, rfl, Only.refl _ _⟩
 case round =>
  obtain ⟨j, rfl, hj, hat, hon⟩ := hrel
  have HON := hid hon
  by_cases hlt : j < l.length
  ·obtain ⟨bb, o, rfl, c⟩ := Sl.at (HL.out.only hon) hlt
   have hpf := pairFrom_at (x := x) hlt
   have hjz : (j : Int) < (l.length : Int) := by omega
   have c1 := progNamed (l.getD j default) x b wr (hon.cell HX.out (fun h => h))
   obtain ⟨q0, q1⟩ := c
   by_cases hx : (l.getD j default).name = x
   ·have HR := hid (show pairOf l x = j by rw [hat, hpf, if_pos hx])
    rw [show decide ((l.getD j default).name = x) = true by simpa using hx] at c1
    have C1 := hid c1
    generalize l.getD j default = k at *
    clear hat hpf hx hon c1
    go_wp2_with (fail)
    refine C1.out.mono ?_
    rintro e w1 ⟨rfl, ho1⟩
    have HON1 := hid (HON.out.trans ho1 (fun _ h _ => h))
    clear ho1 C1
    go_wp2
    go_ret
    rw [HR.out]
    exact ⟨rfl, HON1.out⟩
   ·have HR := hid (show pairOf l x = pairFrom x (j + 1) (l.drop (j + 1)) by rw [hat, hpf, if_neg hx])
    rw [show decide ((l.getD j default).name = x) = false by simpa using hx] at c1
    have C1 := hid c1
    generalize l.getD j default = k at *
    clear hat hpf hx hon c1
    go_wp2_with (fail)
    refine C1.out.mono ?_
    rintro e w1 ⟨rfl, ho1⟩
    have HON1 := hid (HON.out.trans ho1 (fun _ h _ => h))
    clear ho1 C1
    go_wp2
    go_roundw
    case rel => exact ⟨j + 1, by go_num, by omega, HR.out, HON1.out⟩
    case measure => simp [intOf]; omega
  ·have HR := hid (show pairOf l x = -1 by rw [hat, List.drop_of_length_le (by omega)]; rfl)
   obtain rfl : j = l.length := by omega
   clear hat hj hlt hon
   go_wp2
   go_ret
   rw [HR.out]
   exact ⟨rfl, HON.out⟩
set_option maxRecDepth 100000 in
theorem placeFew (v : Value) (l : List PairV) (x : ByteArray) (b : Nat) (w : World) (hl : Pairs w v l) (hb : w.cell? ⟨b, 0, none⟩ = some v) (hn : l.length ≤ 9223372036854775806) :
  Calls Tryz.prog 147 #[.string x, .pointer (some ⟨b, 0, none⟩)] w fun e w' => e = .returned (.int .i64 (pairOf l x)) ∧ Only (fun _ => False) w w' := by
 have ho := (Only.refl (fun _ => False) w).alloc (.cells #[.string x] 9)
 have hb0 := heap_alloc_new w (.cells #[.string x] 9)
 have c1 := indexPr v l x w.heap.size _ (hl.only ho) (cell_blk hb0 0) hn
 have hb2 := ho.cell hb (fun h => h)
 obtain ⟨ao, cap, rfl, h1, h2, h3, h4⟩ := id hl
 have HO := hid ho
 have C1 := hid c1
 clear ho hb0 c1 hb hl h3 h4
 go_enter Tryz.func147, Tryz.ntmps147
 go_wp2_with (fail)
 refine C1.out.mono ?_
 rintro e w1 ⟨rfl, ho1⟩
 have HO1 := hid (HO.out.trans ho1 (fun _ h _ => h))
 clear ho1 C1
 go_wp2
 go_ret
 exact ⟨rfl, HO1.out⟩
def keyB (s : ByteArray) : Lit := .string s.data.toList
theorem keyB_inj {a b : ByteArray} (h : keyB a = keyB b) : a = b := by
 unfold keyB at h
 injection h with h
 apply toList_inj'
 rw [Lib.toList_data, Lib.toList_data, h]
def putN (l : List PairV) (D : DataW Unit) (ns : List Nat) : DataW Unit := ns.foldl (fun D i => D.put (keyB (l.getD i default).name) (.lit (.int .i64 i))) D
def treeD (l : List PairV) (ns : List Nat) : DataW Unit := putN l (.map []) ns
theorem treeD_snoc (l : List PairV) (ns : List Nat) (i : Nat) : treeD l (ns ++ [i]) = (treeD l ns).put (keyB (l.getD i default).name) (.lit (.int .i64 i)) := by simp [treeD, putN]
theorem putN_map (l : List PairV) : ∀ (ns : List Nat) (D : DataW Unit), IsMap D → IsMap (putN l D ns)
 | [], D, h => h
 | i :: ns, D, h => putN_map l ns _ (h.put _ _)
theorem treeD_map (l : List PairV) (ns : List Nat) : IsMap (treeD l ns) := putN_map l ns _ isMap_empty
def backN (n j : Nat) : List Nat := ((List.range n).drop j).reverse
theorem backN_end (n : Nat) : backN n n = [] := by simp [backN]
theorem backN_step {n j : Nat} (h : j < n) : backN n j = backN n (j + 1) ++ [j] := by
 unfold backN
 rw [List.drop_eq_getElem_cons (by simpa using h), List.reverse_cons]
 simp
theorem backN_len (n j : Nat) : (backN n j).length = n - j := by simp [backN]
theorem tree_look {l : List PairV} (x : ByteArray) : ∀ (k j : Nat), j + k = l.length →
  Maps.has (treeD l (backN l.length j)) (keyB x) = !decide (pairFrom x j (l.drop j) < 0) ∧ (¬ pairFrom x j (l.drop j) < 0 → (treeD l (backN l.length j)).atKey (keyB x) (.lit (.int .i64 0)) = .lit (.int .i64 (pairFrom x j (l.drop j))))
 | 0, j, h => by
  obtain rfl : j = l.length := by omega
  rw [backN_end, List.drop_length]
  exact ⟨rfl, fun h => absurd (show (-1 : Int) < 0 by decide) h⟩
 | k + 1, j, h => by
  have hj : j < l.length := by omega
  have ih := tree_look (l := l) x k (j + 1) (by omega)
  rw [backN_step hj, treeD_snoc, pairFrom_at hj]
  by_cases hx : (l.getD j default).name = x
  ·rw [if_pos hx, hx, has_put_same (k := keyB x) (treeD_map l _) (by unfold keyB; trivial), atKey_put_same (k := keyB x) (treeD_map l _) (by unfold keyB; trivial)]
   exact ⟨by simp, fun _ => rfl⟩
  ·have hk : keyB x ≠ keyB (l.getD j default).name := fun e => hx (keyB_inj e).symm
   rw [if_neg hx, has_put_other hk, atKey_put_other hk]
   exact ih
theorem tree_has (l : List PairV) (x : ByteArray) : Maps.has (treeD l (backN l.length 0)) (keyB x) = !decide (pairOf l x < 0) := (tree_look (l := l) x l.length 0 (by omega)).1
theorem tree_at {l : List PairV} {x : ByteArray} (h : ¬ pairOf l x < 0) : (treeD l (backN l.length 0)).atKey (keyB x) (.lit (.int .i64 0)) = .lit (.int .i64 (pairOf l x)) := (tree_look (l := l) x l.length 0 (by omega)).2 h
theorem zero_int8 (w : World) : (zeroValue 3).run Tryz.prog w = .ok (.int .i64 0) w := by kernel_rfl
abbrev TreeMap (w : World) (l : List PairV) (b n : Nat) (ns : List Nat) : Prop := w.ownsMap Tryz.prog 9 (plainElem (H := Unit) Tryz.prog 3) b n (treeD l ns)
theorem only_map {w w' : World} {l : List PairV} {b n : Nat} {ns : List Nat} (h : TreeMap w l b n ns) (ho : Only (fun _ => False) w w') : TreeMap w' l b n ns := by
 obtain ⟨es, clock, h1, h2⟩ := h
 exact ⟨es, clock, ho.heap h1 (fun h => h), h2⟩
theorem lit_eq {c d : Int} (h : (DataW.lit (.int .i64 c) : DataW Unit) = .lit (.int .i64 d)) : c = d := by
 injection h with h
 injection h
set_option maxRecDepth 100000 in
theorem placeMap (l : List PairV) (x : ByteArray) (b mb : Nat) (w : World) (hb : w.cell? ⟨b, 0, none⟩ = some (.map (some mb))) (hm : TreeMap w l mb l.length (backN l.length 0)) (hx : x.size ≤ maxLen) :
  Calls Tryz.prog 151 #[.string x, .pointer (some ⟨b, 0, none⟩)] w fun e w' => e = .returned (.int .i64 (pairOf l x)) ∧ Only (fun _ => False) w w' := by
 have HM := hid hm
 have HX := hid hx
 have hh := tree_has l x
 have ha := tree_at (l := l) (x := x)
 clear hm hx
 by_cases hneg : pairOf l x < 0
 ·rw [show decide (pairOf l x < 0) = true by simpa using hneg, Bool.not_true] at hh
  have HH := hid hh
  have HP : Hid (pairOf l x = -1) := by
   refine hid ?_
   rcases pairOf_cases l x with h | ⟨j, _, h⟩
   ·exact h
   ·omega
  clear hh ha hneg
  go_enter Tryz.func151, Tryz.ntmps151
  go_wp2_with (at_lookup; go_loud (refine wpList_lookup_own_ok_int _ rfl _ _ 118 rfl 9 3 .i64 (Maps.string_keyed Tryz.underlying9) Tryz.underlying118 Tryz.underlying3 (zero_int8 _) mb l.length (treeD l (backN l.length 0)) rfl (by exact HM.out) _ _ rfl (Go.WideMaps.keyOf_string_mk Tryz.underlying9 HX.out) ?_); intro c hat hwc; rw [show Maps.has (treeD l (backN l.length 0)) (.string x.data.toList) = _ from HH.out]; clear hat hwc)
  go_ret
  rw [HP.out]
  exact ⟨rfl, Only.refl _ _⟩
 ·rw [show decide (pairOf l x < 0) = false by simpa using hneg, Bool.not_false] at hh
  have HH := hid hh
  have HA := hid (ha hneg)
  clear hh ha hneg
  go_enter Tryz.func151, Tryz.ntmps151
  go_wp2_with (at_lookup; go_loud (refine wpList_lookup_own_ok_int _ rfl _ _ 118 rfl 9 3 .i64 (Maps.string_keyed Tryz.underlying9) Tryz.underlying118 Tryz.underlying3 (zero_int8 _) mb l.length (treeD l (backN l.length 0)) rfl (by exact HM.out) _ _ rfl (Go.WideMaps.keyOf_string_mk Tryz.underlying9 HX.out) ?_); intro c hat hwc; rw [show Maps.has (treeD l (backN l.length 0)) (.string x.data.toList) = _ from HH.out]; have hc := lit_eq (hat.symm.trans HA.out); have HC := hid hc; clear hat hwc hc)
  go_ret
  rw [HC.out]
  exact ⟨rfl, Only.refl _ _⟩
end Go.Proofs.YtinbelghhfodiaaGreatDoor
