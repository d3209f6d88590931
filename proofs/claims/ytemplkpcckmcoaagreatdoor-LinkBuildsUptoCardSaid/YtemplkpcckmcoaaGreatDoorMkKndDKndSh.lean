import Derived.Test.YtemplkpcckmcoaaGreatDoorMkKndCLnkB
import Derived.Shelf.Strings.Prefix
import Derived.Lib.Bytealg
import Derived.BigQuiet
import Derived.Deep.QuietTactic
namespace Go.Proofs.YtemplkpcckmcoaaGreatDoor
set_option maxHeartbeats 2000000
open Lib (hid)
open Go.RowKit
set_option linter.unusedVariables false
set_option linter.unusedSimpArgs false
def TypeR (t : TypeV) : Prop := (-9223372036854775808 ≤ t.k ∧ t.k ≤ 9223372036854775807) ∧ (-9223372036854775808 ≤ t.dims ∧ t.dims ≤ 9223372036854775807) ∧ (-9223372036854775808 ≤ t.elem ∧ t.elem ≤ 9223372036854775807) ∧ (-9223372036854775808 ≤ t.at_ ∧ t.at_ ≤ 9223372036854775807) ∧ t.name.size ≤ 140737488351232
def refB (nm : ByteArray) : ByteArray := ⟨#[76]⟩ ++ nm ++ ⟨#[59]⟩
def baseText (t : TypeV) : ByteArray :=
 if t.k = 1 then (if eqT t ⟨1, ⟨#[]⟩, 0, 0, 0⟩ then ⟨#[73]⟩ else ⟨#[]⟩)
 else if t.k = 2 then (if eqT t ⟨2, ⟨#[]⟩, 0, 0, 0⟩ then ⟨#[74]⟩ else ⟨#[]⟩)
 else if t.k = 8 then (if eqT t ⟨8, ⟨#[]⟩, 0, 0, 0⟩ then ⟨#[86]⟩ else ⟨#[]⟩)
 else if t.k = 4 then (if plainN (nums t.name) && eqT t ⟨4, t.name, 0, 0, 0⟩ then refB t.name else ⟨#[]⟩)
 else ⟨#[]⟩
def preB : Nat → ByteArray → ByteArray
 | 0, s => s
 | n + 1, s => ⟨#[91]⟩ ++ preB n s
def badArr (t : TypeV) : Bool := (decide (t.dims < 1) || decide (4 < t.dims)) || (t.at_ != 0 || (t.elem != 1 && (t.elem != 2 && t.elem != 4)))
def textZ8 (t : TypeV) : ByteArray :=
 if t.k = 5 then (if badArr t then ⟨#[]⟩ else let s := baseText ⟨t.elem, t.name, 0, 0, 0⟩; if s = ⟨#[]⟩ then ⟨#[]⟩ else preB t.dims.toNat s) else baseText t
theorem preB_size : ∀ (n : Nat) (s : ByteArray), (preB n s).size = n + s.size
 | 0, s => by simp [preB]
 | n + 1, s => by
  rw [preB, ByteArray.size_append, preB_size n s]
  have : (⟨#[91]⟩ : ByteArray).size = 1 := rfl
  omega
def holdsZ8 (t : TypeV) : TypeV × Bool := if t.k = 5 then (if 1 < t.dims then (⟨5, t.name, t.dims - 1, t.elem, t.at_⟩, true) else (⟨t.elem, t.name, 0, 0, 0⟩, true)) else (zeroT, false)
theorem box2T {w : World} {c d : Array Value} {s t : TypeId} : ((w.alloc (.cells c s)).alloc (.cells d t)).heap[w.heap.size + 1]? = some (.cells d t (0, 0)) := by
 have h2 := heap_alloc_new (w.alloc (.cells c s)) (.cells d t)
 simpa using h2
theorem nums_cat (s t : ByteArray) : nums (s ++ t) = nums s ++ nums t := by simp [nums, numsL]
theorem nums_preB : ∀ (n : Nat) (s : ByteArray), nums (preB n s) = List.replicate n 91 ++ nums s
 | 0, s => rfl
 | n + 1, s => by rw [preB, nums_cat, nums_preB n s]; rfl
theorem nums_refB (nm : ByteArray) : nums (refB nm) = 76 :: (nums nm ++ [59]) := by
 rw [refB, nums_cat, nums_cat]
 rfl
theorem dims_split : ∀ zs : List Int, zs = List.replicate (dimsZ zs) 91 ++ zs.drop (dimsZ zs)
 | [] => rfl
 | c :: r => by
  by_cases h : c = 91
  ·rw [dimsZ, if_pos h, List.replicate_succ, List.drop_succ_cons, List.cons_append, ← dims_split r, h]
  ·rw [dimsZ, if_neg h]; rfl
theorem dims_head : ∀ (zs : List Int) {c : Int} {r : List Int}, zs.drop (dimsZ zs) = c :: r → c ≠ 91
 | [], c, r, h => by cases h
 | x :: q, c, r, h => by
  by_cases hx : x = 91
  ·rw [dimsZ, if_pos hx, List.drop_succ_cons] at h
   exact dims_head q h
  ·rw [dimsZ, if_neg hx, List.drop_zero] at h
   cases h
   exact hx
theorem dims_of : ∀ (n : Nat) {c : Int} {r : List Int}, c ≠ 91 → dimsZ (List.replicate n 91 ++ c :: r) = n
 | 0, c, r, h => by
  show dimsZ (c :: r) = 0
  rw [dimsZ, if_neg h]
 | n + 1, c, r, h => by rw [List.replicate_succ, List.cons_append, dimsZ, if_pos rfl, dims_of n h]
theorem semi_split : ∀ r : List Int, semiZ r ≠ r.length → r = r.take (semiZ r) ++ 59 :: r.drop (semiZ r + 1)
 | [], h => absurd rfl h
 | c :: r, h => by
  by_cases hc : c = 59
  ·rw [semiZ, if_pos hc, hc]; rfl
  ·rw [semiZ, if_neg hc] at h ⊢
   rw [List.take_succ_cons, List.drop_succ_cons, List.cons_append, ← semi_split r (by simpa using h)]
theorem semi_of : ∀ (x : List Int) {r : List Int}, (∀ z ∈ x, z ≠ 59) → semiZ (x ++ 59 :: r) = x.length
 | [], r, _ => by
  show semiZ (59 :: r) = 0
  rw [semiZ, if_pos rfl]
 | c :: q, r, h => by
  rw [List.cons_append, semiZ, if_neg (h c (by simp)), semi_of q (fun z hz => h z (by simp [hz]))]
  rfl
theorem plain_semi {x : List Int} (h : plainN x = true) : ∀ z ∈ x, z ≠ 59 := by
 intro z hz e
 subst e
 unfold plainN at h
 rw [Bool.and_eq_true, List.all_eq_true] at h
 have := h.2 59 hz
 revert this
 decide
def BaseOk (k : Int) (nm : ByteArray) : Prop := (k = 1 ∧ nm = ⟨#[]⟩) ∨ (k = 2 ∧ nm = ⟨#[]⟩) ∨ (k = 4 ∧ plainN (nums nm) = true)
def baseL (k : Int) (nm : ByteArray) : List Int := if k = 1 then [73] else if k = 2 then [74] else 76 :: (nums nm ++ [59])
theorem BaseOk.text {k : Int} {nm : ByteArray} (h : BaseOk k nm) : nums (baseText ⟨k, nm, 0, 0, 0⟩) = baseL k nm := by
 rcases h with ⟨rfl, rfl⟩ | ⟨rfl, rfl⟩ | ⟨rfl, hp⟩
 ·rfl
 ·rfl
 ·show nums (if plainN (nums nm) && eqT ⟨4, nm, 0, 0, 0⟩ ⟨4, nm, 0, 0, 0⟩ then refB nm else ⟨#[]⟩) = _
  rw [hp, eqT_self, Bool.and_self, if_pos rfl, nums_refB]
  rfl
theorem BaseOk.ne {k : Int} {nm : ByteArray} (h : BaseOk k nm) : ∃ c r, baseL k nm = c :: r ∧ c ≠ 91 := by
 rcases h with ⟨rfl, rfl⟩ | ⟨rfl, rfl⟩ | ⟨rfl, hp⟩
 ·exact ⟨73, [], rfl, by decide⟩
 ·exact ⟨74, [], rfl, by decide⟩
 ·exact ⟨76, _, rfl, by decide⟩
theorem BaseOk.some {k : Int} {nm : ByteArray} (h : BaseOk k nm) : baseText ⟨k, nm, 0, 0, 0⟩ ≠ ⟨#[]⟩ := fun e => by
 have h1 := h.text
 obtain ⟨c, r, h2, -⟩ := h.ne
 rw [e, h2] at h1
 cases h1
theorem BaseOk.read {k : Int} {nm : ByteArray} (h : BaseOk k nm) {d : Nat} (hd : d ≤ 4) (r : List Int) : baseZ d (baseL k nm ++ r) = Option.some (arrT d k nm, r) := by
 have hd' : ¬ 4 < d := by omega
 rcases h with ⟨rfl, rfl⟩ | ⟨rfl, rfl⟩ | ⟨rfl, hp⟩
 ·show baseZ d (73 :: r) = _
  unfold baseZ
  simp only
  rw [if_neg hd', if_pos trivial]
 ·show baseZ d (74 :: r) = _
  unfold baseZ
  simp only
  rw [if_neg hd', if_neg (by decide), if_pos trivial]
 ·show baseZ d (76 :: (nums nm ++ [59] ++ r)) = _
  have e : nums nm ++ [59] ++ r = nums nm ++ 59 :: r := by simp
  have hs := semi_of (nums nm) (r := r) (plain_semi hp)
  rw [e]
  unfold baseZ
  simp only
  rw [if_neg hd', if_neg (by decide), if_neg (by decide), if_pos trivial, hs, if_neg (by simp), List.take_left', List.drop_append]
  ·simp [hp, str_nums, List.drop_eq_nil_of_le]
  ·rfl
end Go.Proofs.YtemplkpcckmcoaaGreatDoor
namespace Go.Proofs
open Go.Shelf
def Tryz.lays99_ren : Go.Shelf.Ren := ⟨fun | 99 => 148 | 206 => 166 | n => n, fun | 3 => 3 | 4 => 4 | 9 => 9 | n => n, fun | n => n⟩
set_option maxRecDepth 100000 in
theorem Tryz.lays99 : Go.Proofs.Lays.n99 Tryz.prog Tryz.lays99_ren := {
 mixed := by kernel_rfl
 f99 := Tryz.func148.trans (congrArg some (by kernel_rfl))
 f206 := Tryz.func166.trans (congrArg some (by kernel_rfl))
 t3 := Tryz.underlying3
 a3 := Tryz.isAgg3
 z3 := Tryz.sizeOf3
 v3 := Tryz.zeroValue3
 t4 := Tryz.underlying4
 a4 := Tryz.isAgg4
 z4 := Tryz.sizeOf4
 v4 := Tryz.zeroValue4
 t9 := Tryz.underlying9
 a9 := Tryz.isAgg9
 z9 := Tryz.sizeOf9
 v9 := Tryz.zeroValue9 }
theorem Tryz.strings_HasPrefix (s p : ByteArray) (w : World) :
  Calls Tryz.prog 148 #[.string s, .string p] w fun e w' => e = .returned (.bool (Lib.hasPrefix s.data.toList p.data.toList)) ∧ w' = w := Any.strings_HasPrefix Tryz.lays99 s p w
end Go.Proofs
namespace Go.Proofs.YtemplkpcckmcoaaGreatDoor
set_option maxHeartbeats 2000000
open Lib (hid)
open Go.RowKit
set_option linter.unusedVariables false
set_option linter.unusedSimpArgs false
def headIs (c : Int) (zs : List Int) : Bool := decide (zs.head? = some c)
theorem prefix_one (s : ByteArray) (c : UInt8) : Lib.hasPrefix s.data.toList [c] = headIs c.toNat (nums s) := by
 unfold Lib.hasPrefix headIs nums numsL
 cases s.data.toList with
 | nil => rfl
 | cons x r =>
  simp only [List.map_cons, List.head?_cons, Option.some.injEq]
  rw [Bool.eq_iff_iff]
  simp only [List.isPrefixOf, Bool.and_true, beq_iff_eq, decide_eq_true_eq]
  constructor
  ·rintro rfl; rfl
  ·intro h
   exact UInt8.toNat_inj.1 (by omega)
theorem hasHead (s : ByteArray) (c : UInt8) (w : World) : Calls Tryz.prog 148 #[.string s, .string ⟨#[c]⟩] w fun e w' => e = .returned (.bool (headIs c.toNat (nums s))) ∧ w = w' := by
 refine (Tryz.strings_HasPrefix s ⟨#[c]⟩ w).mono ?_
 rintro e w' ⟨rfl, hw⟩
 exact ⟨by rw [← prefix_one], hw.symm⟩
theorem index_semi : ∀ l : List UInt8, Lib.indexByte l 59 = if semiZ (numsL l) = l.length then -1 else (semiZ (numsL l) : Int)
 | [] => rfl
 | b :: l => by
  have h := index_semi l
  have hle := semiZ_le (numsL l)
  have hln : (numsL l).length = l.length := by simp [numsL]
  unfold Lib.indexByte
  rw [show numsL (b :: l) = ((b.toNat : Nat) : Int) :: numsL l from rfl, List.length_cons]
  by_cases hb : b = 59
  ·subst hb
   have hz : semiZ ((((59 : UInt8).toNat : Nat) : Int) :: numsL l) = 0 := by rw [semiZ]; exact if_pos rfl
   have h1 : ¬ 0 = l.length + 1 := by omega
   rw [hz, if_neg h1]
   rfl
  ·have hb1 : (b == 59) = false := by rw [beq_eq_false_iff_ne]; exact hb
   have hb2 : ((b.toNat : Nat) : Int) ≠ 59 := fun e => hb (UInt8.toNat_inj.1 (by rw [show (59 : UInt8).toNat = 59 from rfl]; omega))
   have hz : semiZ (((b.toNat : Nat) : Int) :: numsL l) = semiZ (numsL l) + 1 := by rw [semiZ]; exact if_neg hb2
   rw [hz, hb1, h]
   by_cases hq : semiZ (numsL l) = l.length
   ·have hq1 : semiZ (numsL l) + 1 = l.length + 1 := by omega
    rw [if_pos hq, if_pos hq1]
    rfl
   ·have hq1 : ¬ semiZ (numsL l) + 1 = l.length + 1 := by omega
    have hx : ((semiZ (numsL l) : Int) == -1) = false := by rw [beq_eq_false_iff_ne]; omega
    rw [if_neg hq, if_neg hq1, hx]
    rfl
theorem index_semi_s (s : ByteArray) : Lib.indexByte s.data.toList 59 = if semiZ (nums s) = s.size then -1 else (semiZ (nums s) : Int) := by
 rw [index_semi, ← Lib.size_eq]
 rfl
set_option maxRecDepth 100000 in
theorem libIndexByte (s : ByteArray) (c : Int) (w : World) :
  Calls Tryz.prog 179 #[.string s, .int .u8 c] w fun e w' => e = .returned (.int .i64 (Lib.indexByte s.data.toList c.toNat.toUInt8)) ∧ w = w' := by
 go_enter Tryz.func179, Tryz.ntmps179
 go_wp2
 rw [run_callFunc_extern Tryz.func182 (by kernel_rfl) (by kernel_rfl) (by kernel_rfl) (e := Extern.BytealgIndexByte.indexByte) (by kernel_rfl), Lib.run_indexByteString]
 simp only [Result.andThen]
 rw [Oper.upon_value]
 go_wp2
 go_ret
 exact ⟨rfl, rfl⟩
set_option maxRecDepth 100000 in
theorem libIndexOne (s : ByteArray) (w : World) :
  Calls Tryz.prog 176 #[.string s, .string ⟨#[59]⟩] w fun e w' => e = .returned (.int .i64 (Lib.indexByte s.data.toList 59)) ∧ w = w' := by
 go_enter Tryz.func176, Tryz.ntmps176
 go_wp2_with (go_at_call 179; refine (libIndexByte _ _ _).mono ?_; rintro e w' ⟨rfl, rfl⟩)
 ·have h : ([59] == s.toList) = true := by assumption
  go_ret
  refine ⟨?_, rfl⟩
  have e : s.data.toList = [59] := by rw [← Lib.toList_data]; exact (beq_iff_eq.1 h).symm
  rw [e]
  rfl
 ·go_ret
  exact ⟨rfl, rfl⟩
theorem libIndexSemi (s : ByteArray) (w : World) :
  Calls Tryz.prog 176 #[.string s, .string ⟨#[59]⟩] w fun e w' => e = .returned (.int .i64 (if semiZ (nums s) = s.size then -1 else (semiZ (nums s) : Int))) ∧ w = w' := by
 rw [← index_semi_s]
 exact libIndexOne s w
def cutV (s : ByteArray) (k : Nat) : Value := if k = s.size then .tuple #[.string s, .string ⟨#[]⟩, .bool false] else .tuple #[.string (s.extract 0 k), .string (s.extract (k + 1) s.size), .bool true]
def cutTo (s : ByteArray) (w : World) (e : Ending) (w' : World) : Prop := e = .returned (cutV s (semiZ (nums s))) ∧ Drawn w w'
set_option maxRecDepth 100000 in
theorem libCutIn (s : ByteArray) (w : World) (hs : s.size ≤ 281474976710656) :
  Calls Tryz.prog 167 #[.string s, .string ⟨#[59]⟩] w (cutTo s w) := by
 have c1 := libIndexSemi s w
 have hle := semiZ_le (nums s)
 rw [nums_len] at hle
 unfold cutTo
 obtain ⟨k, hk⟩ : ∃ k, semiZ (nums s) = k := ⟨_, rfl⟩
 rw [hk] at c1 hle ⊢
 clear hk
 by_cases h : k = s.size
 ·rw [if_pos h] at c1
  rw [show cutV s k = _ from if_pos h]
  have C1 := hid c1
  clear c1 h hle
  go_enter Tryz.func167, Tryz.ntmps167
  go_wp2_with (fail)
  refine C1.out.mono ?_
  rintro e w' ⟨rfl, rfl⟩
  go_wp2
  go_ret3
  exact ⟨rfl, Drawn.refl _⟩
 ·rw [if_neg h] at c1
  rw [show cutV s k = _ from if_neg h]
  have C1 := hid c1
  have hk1 : k + 1 ≤ s.size := by omega
  have c0 : (0 : Int) ≤ (k : Int) := by omega
  have c2 : (k : Int) ≤ (s.size : Int) := by omega
  have c3 : (0 : Int) ≤ (k : Int) + 1 := by omega
  have c4 : (k : Int) + 1 ≤ (s.size : Int) := by omega
  have c5 : ((k : Int) + 1).toNat = k + 1 := by omega
  clear c1 h hle
  go_enter Tryz.func167, Tryz.ntmps167
  go_wp2_with (fail)
  refine C1.out.mono ?_
  rintro e w' ⟨rfl, rfl⟩
  go_wp2
  go_quiet (fail)
  go_wp2
  go_ret3
  exact ⟨rfl, _, rfl⟩
theorem libCut (s : ByteArray) (w : World) (hs : s.size ≤ 281474976710656) :
  Calls Tryz.prog 150 #[.string s, .string ⟨#[59]⟩] w (cutTo s w) := by
 have c1 := libCutIn s w hs
 unfold cutTo at c1 ⊢
 by_cases h : semiZ (nums s) = s.size
 ·rw [show cutV s (semiZ (nums s)) = _ from if_pos h] at c1 ⊢
  go_enter Tryz.func150, Tryz.ntmps150
  go_wp2_with (fail)
  refine c1.mono ?_
  rintro e w' ⟨rfl, hd⟩
  go_wp2
  go_ret3
  exact ⟨rfl, hd⟩
 ·rw [show cutV s (semiZ (nums s)) = _ from if_neg h] at c1 ⊢
  go_enter Tryz.func150, Tryz.ntmps150
  go_wp2_with (fail)
  refine c1.mono ?_
  rintro e w' ⟨rfl, hd⟩
  go_wp2
  go_ret3
  exact ⟨rfl, hd⟩
end Go.Proofs.YtemplkpcckmcoaaGreatDoor
