/- The library's contracts that the program's texts reach: strings.HasPrefix, strings.Cut at one byte. The first is one application of a theorem of the library (the numbers are the program's own); the other is walked. No condition beyond those written in each. -/
import Derived.Shelf.Strings.Prefix
import Derived.Lib.Bytealg
import Derived.BigQuiet
import Derived.Deep.QuietTactic
import Derived.Test.YtadgbkjjeigpjaaDoorKndI
namespace Go.Proofs
open Go.Shelf
def Tryd.lays99_ren : Go.Shelf.Ren := ⟨fun | 99 => 36 | 206 => 53 | n => n, fun | 3 => 3 | 4 => 4 | 9 => 9 | n => n, fun | n => n⟩
set_option maxRecDepth 100000 in
theorem Tryd.lays99 : Go.Proofs.Lays.n99 Tryd.prog Tryd.lays99_ren := {
  mixed := by kernel_rfl
  f99 := Tryd.func36.trans (congrArg some (by kernel_rfl))
  f206 := Tryd.func53.trans (congrArg some (by kernel_rfl))
  t3 := Tryd.underlying3
  a3 := Tryd.isAgg3
  z3 := Tryd.sizeOf3
  v3 := Tryd.zeroValue3
  t4 := Tryd.underlying4
  a4 := Tryd.isAgg4
  z4 := Tryd.sizeOf4
  v4 := Tryd.zeroValue4
  t9 := Tryd.underlying9
  a9 := Tryd.isAgg9
  z9 := Tryd.sizeOf9
  v9 := Tryd.zeroValue9 }
theorem Tryd.strings_HasPrefix (s p : ByteArray) (w : World) :
    Calls Tryd.prog 36 #[.string s, .string p] w fun e w' => e = .returned (.bool (Lib.hasPrefix s.data.toList p.data.toList)) ∧ w' = w := Any.strings_HasPrefix Tryd.lays99 s p w
end Go.Proofs
namespace Go.Proofs.YtadgbkjjeigpjaaDoor
open Go.RowKit
set_option linter.unusedVariables false
set_option linter.unusedSimpArgs false

/-- Does a text begin with this byte. -/
def headIs (c : Int) (zs : List Int) : Bool := decide (zs.head? = some c)
theorem prefix_one (s : ByteArray) (c : UInt8) : Lib.hasPrefix s.data.toList [c] = headIs c.toNat (nums s) := by
  unfold Lib.hasPrefix headIs nums numsL
  cases s.data.toList with
  | nil => rfl
  | cons x r =>
    simp only [List.map_cons, List.head?_cons, Option.some.injEq]
    rw [Bool.eq_iff_iff]
    simp only [List.isPrefixOf, Bool.and_true, beq_iff_eq, decide_eq_true_eq]
    constructor
    · rintro rfl; rfl
    · intro h
      exact UInt8.toNat_inj.1 (by omega)
theorem hasHead (s : ByteArray) (c : UInt8) (w : World) : Calls Tryd.prog 36 #[.string s, .string ⟨#[c]⟩] w fun e w' => e = .returned (.bool (headIs c.toNat (nums s))) ∧ w = w' := by
  refine (Tryd.strings_HasPrefix s ⟨#[c]⟩ w).mono ?_
  rintro e w' ⟨rfl, hw⟩
  exact ⟨by rw [← prefix_one], hw.symm⟩

theorem index_semi : ∀ l : List UInt8, Lib.indexByte l 59 = if semiZ (numsL l) = l.length then -1 else (semiZ (numsL l) : Int)
  | [] => rfl
  | b :: l => by
    have h := index_semi l
    have hle := semiZ_le (numsL l)
    have hln : (numsL l).length = l.length := by simp [numsL]
    unfold Lib.indexByte
    rw [show numsL (b :: l) = ((b.toNat : Nat) : Int) :: numsL l from rfl, List.length_cons]
    by_cases hb : b = 59
    · subst hb
      have hz : semiZ ((((59 : UInt8).toNat : Nat) : Int) :: numsL l) = 0 := by rw [semiZ]; exact if_pos rfl
      have h1 : ¬ 0 = l.length + 1 := by omega
      rw [hz, if_neg h1]
      rfl
    · have hb1 : (b == 59) = false := by rw [beq_eq_false_iff_ne]; exact hb
      have hb2 : ((b.toNat : Nat) : Int) ≠ 59 := fun e => hb (UInt8.toNat_inj.1 (by rw [show (59 : UInt8).toNat = 59 from rfl]; omega))
      have hz : semiZ (((b.toNat : Nat) : Int) :: numsL l) = semiZ (numsL l) + 1 := by rw [semiZ]; exact if_neg hb2
      rw [hz, hb1, h]
      by_cases hq : semiZ (numsL l) = l.length
      · have hq1 : semiZ (numsL l) + 1 = l.length + 1 := by omega
        rw [if_pos hq, if_pos hq1]
        rfl
      · have hq1 : ¬ semiZ (numsL l) + 1 = l.length + 1 := by omega
        have hx : ((semiZ (numsL l) : Int) == -1) = false := by rw [beq_eq_false_iff_ne]; omega
        rw [if_neg hq, if_neg hq1, hx]
        rfl
theorem index_semi_s (s : ByteArray) : Lib.indexByte s.data.toList 59 = if semiZ (nums s) = s.size then -1 else (semiZ (nums s) : Int) := by
  rw [index_semi, ← Lib.size_eq]
  rfl
set_option maxHeartbeats 1000000 in
set_option maxRecDepth 100000 in
theorem libIndexByte (s : ByteArray) (c : Int) (w : World) :
    Calls Tryd.prog 86 #[.string s, .int .u8 c] w fun e w' => e = .returned (.int .i64 (Lib.indexByte s.data.toList c.toNat.toUInt8)) ∧ w = w' := by
  go_enter Tryd.func86, Tryd.ntmps86
  go_wp2
  rw [run_callFunc_extern Tryd.func90 (by kernel_rfl) (by kernel_rfl) (by kernel_rfl) (e := Extern.BytealgIndexByte.indexByte) (by kernel_rfl), Lib.run_indexByteString]
  simp only [Result.andThen]
  rw [Oper.upon_value]
  go_wp2
  go_ret
  exact ⟨rfl, rfl⟩
set_option maxHeartbeats 2000000 in
set_option maxRecDepth 100000 in
theorem libIndexOne (s : ByteArray) (w : World) :
    Calls Tryd.prog 85 #[.string s, .string ⟨#[59]⟩] w fun e w' => e = .returned (.int .i64 (Lib.indexByte s.data.toList 59)) ∧ w = w' := by
  go_enter Tryd.func85, Tryd.ntmps85
  go_wp2_with (go_at_call 86; refine (libIndexByte _ _ _).mono ?_; rintro e w' ⟨rfl, rfl⟩)
  · have h : ([59] == s.toList) = true := by assumption
    go_ret
    refine ⟨?_, rfl⟩
    have e : s.data.toList = [59] := by rw [← Lib.toList_data]; exact (beq_iff_eq.1 h).symm
    rw [e]
    rfl
  · go_ret
    exact ⟨rfl, rfl⟩
theorem libIndexSemi (s : ByteArray) (w : World) :
    Calls Tryd.prog 85 #[.string s, .string ⟨#[59]⟩] w fun e w' => e = .returned (.int .i64 (if semiZ (nums s) = s.size then -1 else (semiZ (nums s) : Int))) ∧ w = w' := by
  rw [← index_semi_s]
  exact libIndexOne s w
/-- What 'strings.Cut(s, ";")' finds. -/
def cutV (s : ByteArray) (k : Nat) : Value := if k = s.size then .tuple #[.string s, .string ⟨#[]⟩, .bool false] else .tuple #[.string (s.extract 0 k), .string (s.extract (k + 1) s.size), .bool true]
def cutTo (s : ByteArray) (w : World) (e : Ending) (w' : World) : Prop := e = .returned (cutV s (semiZ (nums s))) ∧ Drawn w w'
set_option maxHeartbeats 2000000 in
set_option maxRecDepth 100000 in
theorem libCutIn (s : ByteArray) (w : World) (hs : s.size ≤ 281474976710656) :
    Calls Tryd.prog 84 #[.string s, .string ⟨#[59]⟩] w (cutTo s w) := by
  have c1 := libIndexSemi s w
  have hle := semiZ_le (nums s)
  rw [nums_len] at hle
  unfold cutTo
  obtain ⟨k, hk⟩ : ∃ k, semiZ (nums s) = k := ⟨_, rfl⟩
  rw [hk] at c1 hle ⊢
  clear hk
  by_cases h : k = s.size
  · rw [if_pos h] at c1
    rw [show cutV s k = _ from if_pos h]
    have C1 := Lib.hid c1
    clear c1 h hle
    go_enter Tryd.func84, Tryd.ntmps84
    go_wp2_with (fail)
    refine C1.out.mono ?_
    rintro e w' ⟨rfl, rfl⟩
    go_wp2
    go_ret3
    exact ⟨rfl, Drawn.refl _⟩
  · rw [if_neg h] at c1
    rw [show cutV s k = _ from if_neg h]
    have C1 := Lib.hid c1
    have hk1 : k + 1 ≤ s.size := by omega
    have c0 : (0 : Int) ≤ (k : Int) := by omega
    have c2 : (k : Int) ≤ (s.size : Int) := by omega
    have c3 : (0 : Int) ≤ (k : Int) + 1 := by omega
    have c4 : (k : Int) + 1 ≤ (s.size : Int) := by omega
    have c5 : ((k : Int) + 1).toNat = k + 1 := by omega
    clear c1 h hle
    go_enter Tryd.func84, Tryd.ntmps84
    go_wp2_with (fail)
    refine C1.out.mono ?_
    rintro e w' ⟨rfl, rfl⟩
    go_wp2
    go_quiet (fail)
    go_wp2
    go_ret3
    exact ⟨rfl, _, rfl⟩
theorem libCut (s : ByteArray) (w : World) (hs : s.size ≤ 281474976710656) :
    Calls Tryd.prog 78 #[.string s, .string ⟨#[59]⟩] w (cutTo s w) := by
  have c1 := libCutIn s w hs
  unfold cutTo at c1 ⊢
  by_cases h : semiZ (nums s) = s.size
  · rw [show cutV s (semiZ (nums s)) = _ from if_pos h] at c1 ⊢
    go_enter Tryd.func78, Tryd.ntmps78
    go_wp2_with (fail)
    refine c1.mono ?_
    rintro e w' ⟨rfl, hd⟩
    go_wp2
    go_ret3
    exact ⟨rfl, hd⟩
  · rw [show cutV s (semiZ (nums s)) = _ from if_neg h] at c1 ⊢
    go_enter Tryd.func78, Tryd.ntmps78
    go_wp2_with (fail)
    refine c1.mono ?_
    rintro e w' ⟨rfl, hd⟩
    go_wp2
    go_ret3
    exact ⟨rfl, hd⟩
end Go.Proofs.YtadgbkjjeigpjaaDoor
