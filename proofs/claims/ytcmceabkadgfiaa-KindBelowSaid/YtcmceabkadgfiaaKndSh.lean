/- The library's contracts that the program's texts reach: strings.Repeat, strings.HasPrefix, strings.Cut at one byte. The first is one application of a theorem of the library (the numbers are the program's own); the others are walked. No condition beyond those written in each. -/
import Derived.Shelf.Strings.Repeat
import Derived.Shelf.Strings.Prefix
import Derived.Lib.Bytealg
import Derived.BigQuiet
import Derived.Deep.QuietTactic
import Derived.Test.YtcmceabkadgfiaaKndI
namespace Go.Proofs
open Go.Shelf
def Try.lays105_ren : Go.Shelf.Ren := ⟨fun | 99 => 37 | 105 => 38 | 165 => 45 | 166 => 46 | 169 => 48 | 170 => 47 | 206 => 43 | 212 => 44 | 240 => 57 | 241 => 58 | 263 => 55 | 264 => 56 | 276 => 61 | 277 => 62 | n => n, fun | 0 => 0 | 3 => 3 | 4 => 4 | 5 => 5 | 9 => 9 | 20 => 20 | 37 => 74 | 46 => 70 | 51 => 91 | 53 => 94 | 70 => 73 | 72 => 76 | 75 => 79 | 76 => 80 | 80 => 83 | 109 => 71 | 127 => 97 | 146 => 92 | 148 => 95 | 164 => 100 | n => n, fun | n => n⟩
set_option maxRecDepth 100000 in
theorem Try.lays105 : Go.Proofs.Lays.n105 Try.prog Try.lays105_ren := {
  mixed := by kernel_rfl
  f99 := Try.func37.trans (congrArg some (by kernel_rfl))
  f105 := Try.func38.trans (congrArg some (by kernel_rfl))
  f165 := Try.func45.trans (congrArg some (by kernel_rfl))
  f166 := Try.func46.trans (congrArg some (by kernel_rfl))
  f169 := Try.func48.trans (congrArg some (by kernel_rfl))
  f170 := Try.func47.trans (congrArg some (by kernel_rfl))
  f206 := Try.func43.trans (congrArg some (by kernel_rfl))
  f212 := Try.func44.trans (congrArg some (by kernel_rfl))
  f240 := Try.func57.trans (congrArg some (by kernel_rfl))
  f241 := Try.func58.trans (congrArg some (by kernel_rfl))
  f263 := Try.func55.trans (congrArg some (by kernel_rfl))
  f264 := Try.func56.trans (congrArg some (by kernel_rfl))
  f276 := Try.func61.trans (congrArg some (by kernel_rfl))
  f277 := Try.func62.trans (congrArg some (by kernel_rfl))
  t0 := Try.underlying0
  a0 := Try.isAgg0
  z0 := Try.sizeOf0
  v0 := Try.zeroValue0
  t3 := Try.underlying3
  a3 := Try.isAgg3
  z3 := Try.sizeOf3
  v3 := Try.zeroValue3
  t4 := Try.underlying4
  a4 := Try.isAgg4
  z4 := Try.sizeOf4
  v4 := Try.zeroValue4
  t5 := Try.underlying5
  a5 := Try.isAgg5
  z5 := Try.sizeOf5
  v5 := Try.zeroValue5
  t9 := Try.underlying9
  a9 := Try.isAgg9
  z9 := Try.sizeOf9
  v9 := Try.zeroValue9
  t20 := Try.underlying20
  a20 := Try.isAgg20
  z20 := Try.sizeOf20
  v20 := Try.zeroValue20
  t37 := Try.underlying74
  a37 := Try.isAgg74
  z37 := Try.sizeOf74
  v37 := Try.zeroValue74
  t46 := Try.underlying70
  a46 := Try.isAgg70
  z46 := Try.sizeOf70
  v46 := Try.zeroValue70
  t51 := Try.underlying91
  a51 := Try.isAgg91
  z51 := Try.sizeOf91
  v51 := Try.zeroValue91
  t53 := Try.underlying94
  a53 := Try.isAgg94
  z53 := Try.sizeOf94
  v53 := Try.zeroValue94
  t70 := Try.underlying73
  a70 := Try.isAgg73
  z70 := Try.sizeOf73
  v70 := Try.zeroValue73
  t72 := Try.underlying76
  a72 := Try.isAgg76
  z72 := Try.sizeOf76
  v72 := Try.zeroValue76
  t75 := Try.underlying79
  a75 := Try.isAgg79
  z75 := Try.sizeOf79
  v75 := Try.zeroValue79
  t76 := Try.underlying80
  a76 := Try.isAgg80
  z76 := Try.sizeOf80
  v76 := Try.zeroValue80
  t109 := Try.underlying71
  a109 := Try.isAgg71
  z109 := Try.sizeOf71
  v109 := Try.zeroValue71
  t127 := Try.underlying97
  a127 := Try.isAgg97
  z127 := Try.sizeOf97
  v127 := Try.zeroValue97
  t146 := Try.underlying92
  a146 := Try.isAgg92
  z146 := Try.sizeOf92
  v146 := Try.zeroValue92
  t148 := Try.underlying95
  a148 := Try.isAgg95
  z148 := Try.sizeOf95
  v148 := Try.zeroValue95
  t164 := Try.underlying100
  a164 := Try.isAgg100
  z164 := Try.sizeOf100
  v164 := Try.zeroValue100 }
theorem Try.Builder_Extra_105 : Builder.Extra Try.prog Try.lays105_ren := {
  sizeBuilder := by kernel_rfl
  liesBuilder := by kernel_rfl
  t5 := Try.underlying5
  a5 := Try.isAgg5
  z5 := Try.sizeOf5
  v5 := Try.zeroValue5
  infoByte := by kernel_rfl
  cellsByte := by kernel_rfl
  sizeByte := by kernel_rfl
  neB5 := by decide }
theorem Try.strings_Repeat (s : ByteArray) (c : Nat) (w : World) (hc : c ≤ 9223372036854775807) (hlen : s.size * c ≤ 140737488355328) :
    Calls Try.prog 38 #[.string s, .int .i64 c] w fun e w' => e = .returned (.string ⟨(Lib.repeatL s.data.toList c).toArray⟩) ∧ RowKit.Below w.heap.size w w' := Any.strings_Repeat Try.lays105 Try.Builder_Extra_105 s c w hc hlen
theorem Try.strings_HasPrefix (s p : ByteArray) (w : World) :
    Calls Try.prog 37 #[.string s, .string p] w fun e w' => e = .returned (.bool (Lib.hasPrefix s.data.toList p.data.toList)) ∧ w' = w := Any.strings_HasPrefix (L := { Try.lays105 with }) s p w
end Go.Proofs
namespace Go.Proofs.Ytcmceabkadgfiaa
open Go.RowKit
set_option linter.unusedVariables false
set_option linter.unusedSimpArgs false

theorem numsL_repeat : ∀ n : Nat, numsL (Lib.repeatL [91] n) = List.replicate n 91
  | 0 => rfl
  | n + 1 => by
    show numsL ([91] ++ Lib.repeatL [91] n) = _
    rw [List.replicate_succ, ← numsL_repeat n]
    rfl
theorem repeat_pre (n : Nat) : (⟨(Lib.repeatL [91] n).toArray⟩ : ByteArray) = preB n ⟨#[]⟩ := by
  apply nums_inj
  rw [nums_preB, nums_nil, List.append_nil, ← numsL_repeat n]
  rfl
/-- So many brackets. -/
theorem repeatBr (n : Nat) (w : World) (hn : n ≤ 4) : Calls Try.prog 38 #[.string ⟨#[91]⟩, .int .i64 n] w fun e w' => e = .returned (.string (preB n ⟨#[]⟩)) ∧ Only (fun _ => False) w w' := by
  refine (Try.strings_Repeat ⟨#[91]⟩ n w (by omega) (by rw [show (⟨#[91]⟩ : ByteArray).size = 1 from rfl]; omega)).mono ?_
  rintro e w' ⟨rfl, hb⟩
  exact ⟨by rw [← repeat_pre], Only.of_below hb _⟩
/-- Does a text begin with this byte. -/
def headIs (c : Int) (zs : List Int) : Bool := decide (zs.head? = some c)
theorem prefix_one (s : ByteArray) (c : UInt8) : Lib.hasPrefix s.data.toList [c] = headIs c.toNat (nums s) := by
  unfold Lib.hasPrefix headIs nums numsL
  cases s.data.toList with
  | nil => rfl
  | cons x r =>
    simp only [List.map_cons, List.head?_cons, Option.some.injEq]
    rw [Bool.eq_iff_iff]
    simp only [List.isPrefixOf, Bool.and_true, beq_iff_eq, decide_eq_true_eq]
    constructor
    · rintro rfl; rfl
    · intro h
      exact UInt8.toNat_inj.1 (by omega)
theorem hasHead (s : ByteArray) (c : UInt8) (w : World) : Calls Try.prog 37 #[.string s, .string ⟨#[c]⟩] w fun e w' => e = .returned (.bool (headIs c.toNat (nums s))) ∧ w = w' := by
  refine (Try.strings_HasPrefix s ⟨#[c]⟩ w).mono ?_
  rintro e w' ⟨rfl, hw⟩
  exact ⟨by rw [← prefix_one], hw.symm⟩

theorem index_semi : ∀ l : List UInt8, Lib.indexByte l 59 = if semiZ (numsL l) = l.length then -1 else (semiZ (numsL l) : Int)
  | [] => rfl
  | b :: l => by
    have h := index_semi l
    have hle := semiZ_le (numsL l)
    have hln : (numsL l).length = l.length := by simp [numsL]
    unfold Lib.indexByte
    rw [show numsL (b :: l) = ((b.toNat : Nat) : Int) :: numsL l from rfl, List.length_cons]
    by_cases hb : b = 59
    · subst hb
      have hz : semiZ ((((59 : UInt8).toNat : Nat) : Int) :: numsL l) = 0 := by rw [semiZ]; exact if_pos rfl
      have h1 : ¬ 0 = l.length + 1 := by omega
      rw [hz, if_neg h1]
      rfl
    · have hb1 : (b == 59) = false := by rw [beq_eq_false_iff_ne]; exact hb
      have hb2 : ((b.toNat : Nat) : Int) ≠ 59 := fun e => hb (UInt8.toNat_inj.1 (by rw [show (59 : UInt8).toNat = 59 from rfl]; omega))
      have hz : semiZ (((b.toNat : Nat) : Int) :: numsL l) = semiZ (numsL l) + 1 := by rw [semiZ]; exact if_neg hb2
      rw [hz, hb1, h]
      by_cases hq : semiZ (numsL l) = l.length
      · have hq1 : semiZ (numsL l) + 1 = l.length + 1 := by omega
        rw [if_pos hq, if_pos hq1]
        rfl
      · have hq1 : ¬ semiZ (numsL l) + 1 = l.length + 1 := by omega
        have hx : ((semiZ (numsL l) : Int) == -1) = false := by rw [beq_eq_false_iff_ne]; omega
        rw [if_neg hq, if_neg hq1, hx]
        rfl
theorem index_semi_s (s : ByteArray) : Lib.indexByte s.data.toList 59 = if semiZ (nums s) = s.size then -1 else (semiZ (nums s) : Int) := by
  rw [index_semi, ← Lib.size_eq]
  rfl
set_option maxHeartbeats 1000000 in
set_option maxRecDepth 100000 in
theorem libIndexByte (s : ByteArray) (c : Int) (w : World) :
    Calls Try.prog 63 #[.string s, .int .u8 c] w fun e w' => e = .returned (.int .i64 (Lib.indexByte s.data.toList c.toNat.toUInt8)) ∧ w = w' := by
  go_enter Try.func63, Try.ntmps63
  go_wp2
  rw [run_callFunc_extern Try.func67 (by kernel_rfl) (by kernel_rfl) (by kernel_rfl) (e := Extern.BytealgIndexByte.indexByte) (by kernel_rfl), Lib.run_indexByteString]
  simp only [Result.andThen]
  rw [Oper.upon_value]
  go_wp2
  go_ret
  exact ⟨rfl, rfl⟩
set_option maxHeartbeats 2000000 in
set_option maxRecDepth 100000 in
theorem libIndexOne (s : ByteArray) (w : World) :
    Calls Try.prog 60 #[.string s, .string ⟨#[59]⟩] w fun e w' => e = .returned (.int .i64 (Lib.indexByte s.data.toList 59)) ∧ w = w' := by
  go_enter Try.func60, Try.ntmps60
  go_wp2_with (go_at_call 63; refine (libIndexByte _ _ _).mono ?_; rintro e w' ⟨rfl, rfl⟩)
  · have h : ([59] == s.toList) = true := by assumption
    go_ret
    refine ⟨?_, rfl⟩
    have e : s.data.toList = [59] := by rw [← Lib.toList_data]; exact (beq_iff_eq.1 h).symm
    rw [e]
    rfl
  · go_ret
    exact ⟨rfl, rfl⟩
theorem libIndexSemi (s : ByteArray) (w : World) :
    Calls Try.prog 60 #[.string s, .string ⟨#[59]⟩] w fun e w' => e = .returned (.int .i64 (if semiZ (nums s) = s.size then -1 else (semiZ (nums s) : Int))) ∧ w = w' := by
  rw [← index_semi_s]
  exact libIndexOne s w
/-- What 'strings.Cut(s, ";")' finds. -/
def cutV (s : ByteArray) (k : Nat) : Value := if k = s.size then .tuple #[.string s, .string ⟨#[]⟩, .bool false] else .tuple #[.string (s.extract 0 k), .string (s.extract (k + 1) s.size), .bool true]
def cutTo (s : ByteArray) (w : World) (e : Ending) (w' : World) : Prop := e = .returned (cutV s (semiZ (nums s))) ∧ Drawn w w'
set_option maxHeartbeats 2000000 in
set_option maxRecDepth 100000 in
theorem libCutIn (s : ByteArray) (w : World) (hs : s.size ≤ 281474976710656) :
    Calls Try.prog 54 #[.string s, .string ⟨#[59]⟩] w (cutTo s w) := by
  have c1 := libIndexSemi s w
  have hle := semiZ_le (nums s)
  rw [nums_len] at hle
  unfold cutTo
  obtain ⟨k, hk⟩ : ∃ k, semiZ (nums s) = k := ⟨_, rfl⟩
  rw [hk] at c1 hle ⊢
  clear hk
  by_cases h : k = s.size
  · rw [if_pos h] at c1
    rw [show cutV s k = _ from if_pos h]
    have C1 := Lib.hid c1
    clear c1 h hle
    go_enter Try.func54, Try.ntmps54
    go_wp2_with (fail)
    refine C1.out.mono ?_
    rintro e w' ⟨rfl, rfl⟩
    go_wp2
    go_ret3
    exact ⟨rfl, Drawn.refl _⟩
  · rw [if_neg h] at c1
    rw [show cutV s k = _ from if_neg h]
    have C1 := Lib.hid c1
    have hk1 : k + 1 ≤ s.size := by omega
    have c0 : (0 : Int) ≤ (k : Int) := by omega
    have c2 : (k : Int) ≤ (s.size : Int) := by omega
    have c3 : (0 : Int) ≤ (k : Int) + 1 := by omega
    have c4 : (k : Int) + 1 ≤ (s.size : Int) := by omega
    have c5 : ((k : Int) + 1).toNat = k + 1 := by omega
    clear c1 h hle
    go_enter Try.func54, Try.ntmps54
    go_wp2_with (fail)
    refine C1.out.mono ?_
    rintro e w' ⟨rfl, rfl⟩
    go_wp2
    go_quiet (fail)
    go_wp2
    go_ret3
    exact ⟨rfl, _, rfl⟩
theorem libCut (s : ByteArray) (w : World) (hs : s.size ≤ 281474976710656) :
    Calls Try.prog 41 #[.string s, .string ⟨#[59]⟩] w (cutTo s w) := by
  have c1 := libCutIn s w hs
  unfold cutTo at c1 ⊢
  by_cases h : semiZ (nums s) = s.size
  · rw [show cutV s (semiZ (nums s)) = _ from if_pos h] at c1 ⊢
    go_enter Try.func41, Try.ntmps41
    go_wp2_with (fail)
    refine c1.mono ?_
    rintro e w' ⟨rfl, hd⟩
    go_wp2
    go_ret3
    exact ⟨rfl, hd⟩
  · rw [show cutV s (semiZ (nums s)) = _ from if_neg h] at c1 ⊢
    go_enter Try.func41, Try.ntmps41
    go_wp2_with (fail)
    refine c1.mono ?_
    rintro e w' ⟨rfl, hd⟩
    go_wp2
    go_ret3
    exact ⟨rfl, hd⟩
end Go.Proofs.Ytcmceabkadgfiaa
