import Derived.Test.YtgdgffnaknkbcaaGreatDoorMjLpLKndD
import Derived.Shelf.Strings.Prefix
import Derived.Lib.Bytealg
import Derived.BigQuiet
import Derived.Deep.QuietTactic
namespace Go.Proofs.YtgdgffnaknkbcaaGreatDoor
open Go.RowKit
set_option linter.unusedVariables false
set_option linter.unusedSimpArgs false
theorem nums_cat (s t : ByteArray) : nums (s ++ t) = nums s ++ nums t := by simp [nums, numsL]
theorem nums_preB : ∀ (n : Nat) (s : ByteArray), nums (preB n s) = List.replicate n 91 ++ nums s
  | 0, s => rfl
  | n + 1, s => by rw [preB, nums_cat, nums_preB n s]; rfl
theorem nums_refB (nm : ByteArray) : nums (refB nm) = 76 :: (nums nm ++ [59]) := by
  rw [refB, nums_cat, nums_cat]
  rfl
theorem dims_split : ∀ zs : List Int, zs = List.replicate (dimsZ zs) 91 ++ zs.drop (dimsZ zs)
  | [] => rfl
  | c :: r => by
    by_cases h : c = 91
    · rw [dimsZ, if_pos h, List.replicate_succ, List.drop_succ_cons, List.cons_append, ← dims_split r, h]
    · rw [dimsZ, if_neg h]; rfl
theorem dims_head : ∀ (zs : List Int) {c : Int} {r : List Int}, zs.drop (dimsZ zs) = c :: r → c ≠ 91
  | [], c, r, h => by cases h
  | x :: q, c, r, h => by
    by_cases hx : x = 91
    · rw [dimsZ, if_pos hx, List.drop_succ_cons] at h
      exact dims_head q h
    · rw [dimsZ, if_neg hx, List.drop_zero] at h
      cases h
      exact hx
theorem dims_of : ∀ (n : Nat) {c : Int} {r : List Int}, c ≠ 91 → dimsZ (List.replicate n 91 ++ c :: r) = n
  | 0, c, r, h => by
    show dimsZ (c :: r) = 0
    rw [dimsZ, if_neg h]
  | n + 1, c, r, h => by rw [List.replicate_succ, List.cons_append, dimsZ, if_pos rfl, dims_of n h]
theorem semi_split : ∀ r : List Int, semiZ r ≠ r.length → r = r.take (semiZ r) ++ 59 :: r.drop (semiZ r + 1)
  | [], h => absurd rfl h
  | c :: r, h => by
    by_cases hc : c = 59
    · rw [semiZ, if_pos hc, hc]; rfl
    · rw [semiZ, if_neg hc] at h ⊢
      rw [List.take_succ_cons, List.drop_succ_cons, List.cons_append, ← semi_split r (by simpa using h)]
theorem semi_of : ∀ (x : List Int) {r : List Int}, (∀ z ∈ x, z ≠ 59) → semiZ (x ++ 59 :: r) = x.length
  | [], r, _ => by
    show semiZ (59 :: r) = 0
    rw [semiZ, if_pos rfl]
  | c :: q, r, h => by
    rw [List.cons_append, semiZ, if_neg (h c (by simp)), semi_of q (fun z hz => h z (by simp [hz]))]
    rfl
theorem plain_semi {x : List Int} (h : plainN x = true) : ∀ z ∈ x, z ≠ 59 := by
  intro z hz e
  subst e
  unfold plainN at h
  rw [Bool.and_eq_true, List.all_eq_true] at h
  have := h.2 59 hz
  revert this
  decide
def BaseOk (k : Int) (nm : ByteArray) : Prop := (k = 1 ∧ nm = ⟨#[]⟩) ∨ (k = 2 ∧ nm = ⟨#[]⟩) ∨ (k = 4 ∧ plainN (nums nm) = true)
def baseL (k : Int) (nm : ByteArray) : List Int := if k = 1 then [73] else if k = 2 then [74] else 76 :: (nums nm ++ [59])
theorem BaseOk.text {k : Int} {nm : ByteArray} (h : BaseOk k nm) : nums (baseText ⟨k, nm, 0, 0, 0⟩) = baseL k nm := by
  rcases h with ⟨rfl, rfl⟩ | ⟨rfl, rfl⟩ | ⟨rfl, hp⟩
  · rfl
  · rfl
  · show nums (if plainN (nums nm) && eqT ⟨4, nm, 0, 0, 0⟩ ⟨4, nm, 0, 0, 0⟩ then refB nm else ⟨#[]⟩) = _
    rw [hp, eqT_self, Bool.and_self, if_pos rfl, nums_refB]
    rfl
theorem BaseOk.ne {k : Int} {nm : ByteArray} (h : BaseOk k nm) : ∃ c r, baseL k nm = c :: r ∧ c ≠ 91 := by
  rcases h with ⟨rfl, rfl⟩ | ⟨rfl, rfl⟩ | ⟨rfl, hp⟩
  · exact ⟨73, [], rfl, by decide⟩
  · exact ⟨74, [], rfl, by decide⟩
  · exact ⟨76, _, rfl, by decide⟩
theorem BaseOk.some {k : Int} {nm : ByteArray} (h : BaseOk k nm) : baseText ⟨k, nm, 0, 0, 0⟩ ≠ ⟨#[]⟩ := fun e => by
  have h1 := h.text
  obtain ⟨c, r, h2, -⟩ := h.ne
  rw [e, h2] at h1
  cases h1
theorem BaseOk.read {k : Int} {nm : ByteArray} (h : BaseOk k nm) {d : Nat} (hd : d ≤ 4) (r : List Int) : baseZ d (baseL k nm ++ r) = Option.some (arrT d k nm, r) := by
  have hd' : ¬ 4 < d := by omega
  rcases h with ⟨rfl, rfl⟩ | ⟨rfl, rfl⟩ | ⟨rfl, hp⟩
  · show baseZ d (73 :: r) = _
    unfold baseZ
    simp only
    rw [if_neg hd', if_pos trivial]
  · show baseZ d (74 :: r) = _
    unfold baseZ
    simp only
    rw [if_neg hd', if_neg (by decide), if_pos trivial]
  · show baseZ d (76 :: (nums nm ++ [59] ++ r)) = _
    have e : nums nm ++ [59] ++ r = nums nm ++ 59 :: r := by simp
    have hs := semi_of (nums nm) (r := r) (plain_semi hp)
    rw [e]
    unfold baseZ
    simp only
    rw [if_neg hd', if_neg (by decide), if_neg (by decide), if_pos trivial, hs, if_neg (by simp), List.take_left', List.drop_append]
    · simp [hp, str_nums, List.drop_eq_nil_of_le]
    · rfl
end Go.Proofs.YtgdgffnaknkbcaaGreatDoor
namespace Go.Proofs
open Go.Shelf
def Tryz.lays99_ren : Go.Shelf.Ren := ⟨fun | 99 => 171 | 206 => 185 | n => n, fun | 3 => 3 | 4 => 4 | 9 => 9 | n => n, fun | n => n⟩
set_option maxRecDepth 100000 in
theorem Tryz.lays99 : Go.Proofs.Lays.n99 Tryz.prog Tryz.lays99_ren := {
  mixed := by kernel_rfl
  f99 := Tryz.func171.trans (congrArg some (by kernel_rfl))
  f206 := Tryz.func185.trans (congrArg some (by kernel_rfl))
  t3 := Tryz.underlying3
  a3 := Tryz.isAgg3
  z3 := Tryz.sizeOf3
  v3 := Tryz.zeroValue3
  t4 := Tryz.underlying4
  a4 := Tryz.isAgg4
  z4 := Tryz.sizeOf4
  v4 := Tryz.zeroValue4
  t9 := Tryz.underlying9
  a9 := Tryz.isAgg9
  z9 := Tryz.sizeOf9
  v9 := Tryz.zeroValue9 }
theorem Tryz.strings_HasPrefix (s p : ByteArray) (w : World) :
    Calls Tryz.prog 171 #[.string s, .string p] w fun e w' => e = .returned (.bool (Lib.hasPrefix s.data.toList p.data.toList)) ∧ w' = w := Any.strings_HasPrefix Tryz.lays99 s p w
end Go.Proofs
namespace Go.Proofs.YtgdgffnaknkbcaaGreatDoor
open Go.RowKit
set_option linter.unusedVariables false
set_option linter.unusedSimpArgs false
def headIs (c : Int) (zs : List Int) : Bool := decide (zs.head? = some c)
theorem prefix_one (s : ByteArray) (c : UInt8) : Lib.hasPrefix s.data.toList [c] = headIs c.toNat (nums s) := by
  unfold Lib.hasPrefix headIs nums numsL
  cases s.data.toList with
  | nil => rfl
  | cons x r =>
    simp only [List.map_cons, List.head?_cons, Option.some.injEq]
    rw [Bool.eq_iff_iff]
    simp only [List.isPrefixOf, Bool.and_true, beq_iff_eq, decide_eq_true_eq]
    constructor
    · rintro rfl; rfl
    · intro h
      exact UInt8.toNat_inj.1 (by omega)
theorem hasHead (s : ByteArray) (c : UInt8) (w : World) : Calls Tryz.prog 171 #[.string s, .string ⟨#[c]⟩] w fun e w' => e = .returned (.bool (headIs c.toNat (nums s))) ∧ w = w' := by
  refine (Tryz.strings_HasPrefix s ⟨#[c]⟩ w).mono ?_
  rintro e w' ⟨rfl, hw⟩
  exact ⟨by rw [← prefix_one], hw.symm⟩
theorem index_semi : ∀ l : List UInt8, Lib.indexByte l 59 = if semiZ (numsL l) = l.length then -1 else (semiZ (numsL l) : Int)
  | [] => rfl
  | b :: l => by
    have h := index_semi l
    have hle := semiZ_le (numsL l)
    have hln : (numsL l).length = l.length := by simp [numsL]
    unfold Lib.indexByte
    rw [show numsL (b :: l) = ((b.toNat : Nat) : Int) :: numsL l from rfl, List.length_cons]
    by_cases hb : b = 59
    · subst hb
      have hz : semiZ ((((59 : UInt8).toNat : Nat) : Int) :: numsL l) = 0 := by rw [semiZ]; exact if_pos rfl
      have h1 : ¬ 0 = l.length + 1 := by omega
      rw [hz, if_neg h1]
      rfl
    · have hb1 : (b == 59) = false := by rw [beq_eq_false_iff_ne]; exact hb
      have hb2 : ((b.toNat : Nat) : Int) ≠ 59 := fun e => hb (UInt8.toNat_inj.1 (by rw [show (59 : UInt8).toNat = 59 from rfl]; omega))
      have hz : semiZ (((b.toNat : Nat) : Int) :: numsL l) = semiZ (numsL l) + 1 := by rw [semiZ]; exact if_neg hb2
      rw [hz, hb1, h]
      by_cases hq : semiZ (numsL l) = l.length
      · have hq1 : semiZ (numsL l) + 1 = l.length + 1 := by omega
        rw [if_pos hq, if_pos hq1]
        rfl
      · have hq1 : ¬ semiZ (numsL l) + 1 = l.length + 1 := by omega
        have hx : ((semiZ (numsL l) : Int) == -1) = false := by rw [beq_eq_false_iff_ne]; omega
        rw [if_neg hq, if_neg hq1, hx]
        rfl
theorem index_semi_s (s : ByteArray) : Lib.indexByte s.data.toList 59 = if semiZ (nums s) = s.size then -1 else (semiZ (nums s) : Int) := by
  rw [index_semi, ← Lib.size_eq]
  rfl
set_option maxHeartbeats 1000000 in
set_option maxRecDepth 100000 in
theorem libIndexByte (s : ByteArray) (c : Int) (w : World) :
    Calls Tryz.prog 172 #[.string s, .int .u8 c] w fun e w' => e = .returned (.int .i64 (Lib.indexByte s.data.toList c.toNat.toUInt8)) ∧ w = w' := by
  go_enter Tryz.func172, Tryz.ntmps172
  go_wp2
  rw [run_callFunc_extern Tryz.func186 (by kernel_rfl) (by kernel_rfl) (by kernel_rfl) (e := Extern.BytealgIndexByte.indexByte) (by kernel_rfl), Lib.run_indexByteString]
  simp only [Result.andThen]
  rw [Oper.upon_value]
  go_wp2
  go_ret
  exact ⟨rfl, rfl⟩
set_option maxHeartbeats 2000000 in
set_option maxRecDepth 100000 in
theorem libIndexOne (s : ByteArray) (w : World) :
    Calls Tryz.prog 161 #[.string s, .string ⟨#[59]⟩] w fun e w' => e = .returned (.int .i64 (Lib.indexByte s.data.toList 59)) ∧ w = w' := by
  go_enter Tryz.func161, Tryz.ntmps161
  go_wp2_with (go_at_call 172; refine (libIndexByte _ _ _).mono ?_; rintro e w' ⟨rfl, rfl⟩)
  · have h : ([59] == s.toList) = true := by assumption
    go_ret
    refine ⟨?_, rfl⟩
    have e : s.data.toList = [59] := by rw [← Lib.toList_data]; exact (beq_iff_eq.1 h).symm
    rw [e]
    rfl
  · go_ret
    exact ⟨rfl, rfl⟩
theorem libIndexSemi (s : ByteArray) (w : World) :
    Calls Tryz.prog 161 #[.string s, .string ⟨#[59]⟩] w fun e w' => e = .returned (.int .i64 (if semiZ (nums s) = s.size then -1 else (semiZ (nums s) : Int))) ∧ w = w' := by
  rw [← index_semi_s]
  exact libIndexOne s w
def cutV (s : ByteArray) (k : Nat) : Value := if k = s.size then .tuple #[.string s, .string ⟨#[]⟩, .bool false] else .tuple #[.string (s.extract 0 k), .string (s.extract (k + 1) s.size), .bool true]
def cutTo (s : ByteArray) (w : World) (e : Ending) (w' : World) : Prop := e = .returned (cutV s (semiZ (nums s))) ∧ Drawn w w'
set_option maxHeartbeats 2000000 in
set_option maxRecDepth 100000 in
theorem libCutIn (s : ByteArray) (w : World) (hs : s.size ≤ 281474976710656) :
    Calls Tryz.prog 150 #[.string s, .string ⟨#[59]⟩] w (cutTo s w) := by
  have c1 := libIndexSemi s w
  have hle := semiZ_le (nums s)
  rw [nums_len] at hle
  unfold cutTo
  obtain ⟨k, hk⟩ : ∃ k, semiZ (nums s) = k := ⟨_, rfl⟩
  rw [hk] at c1 hle ⊢
  clear hk
  by_cases h : k = s.size
  · rw [if_pos h] at c1
    rw [show cutV s k = _ from if_pos h]
    have C1 := Lib.hid c1
    clear c1 h hle
    go_enter Tryz.func150, Tryz.ntmps150
    go_wp2_with (fail)
    refine C1.out.mono ?_
    rintro e w' ⟨rfl, rfl⟩
    go_wp2
    go_ret3
    exact ⟨rfl, Drawn.refl _⟩
  · rw [if_neg h] at c1
    rw [show cutV s k = _ from if_neg h]
    have C1 := Lib.hid c1
    have hk1 : k + 1 ≤ s.size := by omega
    have c0 : (0 : Int) ≤ (k : Int) := by omega
    have c2 : (k : Int) ≤ (s.size : Int) := by omega
    have c3 : (0 : Int) ≤ (k : Int) + 1 := by omega
    have c4 : (k : Int) + 1 ≤ (s.size : Int) := by omega
    have c5 : ((k : Int) + 1).toNat = k + 1 := by omega
    clear c1 h hle
    go_enter Tryz.func150, Tryz.ntmps150
    go_wp2_with (fail)
    refine C1.out.mono ?_
    rintro e w' ⟨rfl, rfl⟩
    go_wp2
    go_quiet (fail)
    go_wp2
    go_ret3
    exact ⟨rfl, _, rfl⟩
theorem libCut (s : ByteArray) (w : World) (hs : s.size ≤ 281474976710656) :
    Calls Tryz.prog 130 #[.string s, .string ⟨#[59]⟩] w (cutTo s w) := by
  have c1 := libCutIn s w hs
  unfold cutTo at c1 ⊢
  by_cases h : semiZ (nums s) = s.size
  · rw [show cutV s (semiZ (nums s)) = _ from if_pos h] at c1 ⊢
    go_enter Tryz.func130, Tryz.ntmps130
    go_wp2_with (fail)
    refine c1.mono ?_
    rintro e w' ⟨rfl, hd⟩
    go_wp2
    go_ret3
    exact ⟨rfl, hd⟩
  · rw [show cutV s (semiZ (nums s)) = _ from if_neg h] at c1 ⊢
    go_enter Tryz.func130, Tryz.ntmps130
    go_wp2_with (fail)
    refine c1.mono ?_
    rintro e w' ⟨rfl, hd⟩
    go_wp2
    go_ret3
    exact ⟨rfl, hd⟩
end Go.Proofs.YtgdgffnaknkbcaaGreatDoor
namespace Go.Proofs.YtgdgffnaknkbcaaGreatDoor
open Go.RowKit
set_option linter.unusedVariables false
set_option linter.unusedSimpArgs false
set_option maxHeartbeats 2000000 in
set_option maxRecDepth 100000 in
theorem progIsName (s : ByteArray) (w : World) (hs : s.size ≤ 281474976710656) :
    Calls Tryz.prog 131 #[.string s] w fun e w' => e = .returned (.bool (plainN (nums s))) ∧ w = w' := by
  have hl := nums_len s
  by_cases h1 : s = ⟨#[]⟩
  · subst h1
    have hte := toList_empty
    go_enter Tryz.func131, Tryz.ntmps131
    go_wp2
    go_ret
    exact ⟨rfl, rfl⟩
  obtain ⟨t1, t2⟩ := toList_ne h1
  have hte := toList_empty
  have h1s : 0 < s.size := by
    rcases Nat.eq_zero_or_pos s.size with h | h
    · exact absurd (nums_inj (List.eq_nil_of_length_eq_zero (by rw [nums_len]; exact h))) h1
    · exact h
  by_cases h2 : 256 < s.size
  · have HP := Lib.hid (show plainN (nums s) = false by unfold plainN; rw [hl]; simp; omega)
    have h2z : 256 < (s.size : Int) := by omega
    clear hl h1
    go_enter Tryz.func131, Tryz.ntmps131
    go_wp2
    go_ret
    rw [HP.out]
    exact ⟨rfl, rfl⟩
  have h2z : ¬ 256 < (s.size : Int) := by omega
  have HL := Lib.hid hl
  clear hl h1
  go_enter Tryz.func131, Tryz.ntmps131
  go_wp2
  go_loop [13] (fun i => ∃ j : Nat, i = .int .i64 j ∧ j ≤ s.size ∧ ∀ n, n < j → badC ((nums s).getD n 0) = false) (fun i => s.size - (intOf i).toNat)
  case atStart => exact ⟨0, rfl, Nat.zero_le _, fun n hn => by omega⟩
  case round =>
    obtain ⟨j, rfl, hj, hbef⟩ := hrel
    have HBEF := Lib.hid hbef
    clear hbef
    by_cases hlt : j < s.size
    · have hjz : (j : Int) < (s.size : Int) := by omega
      have hg := nums_at hlt
      cases hbc : badC ((nums s).getD j 0)
      · have HNX : Hid (∀ n, n < j + 1 → badC ((nums s).getD n 0) = false) := by
          refine Lib.hid ?_
          intro n hnj
          by_cases hkj : n < j
          · exact HBEF.out n hkj
          · rw [show n = j by omega]; exact hbc
        rw [hg] at hbc
        obtain ⟨b1, b2, b3, b4, b5, b6⟩ := badC_no hbc
        clear hbc hg
        go_wp2
        go_round
        case rel => exact ⟨j + 1, by go_num, by omega, HNX.out⟩
        case measure => simp [intOf]; omega
      · have HP := Lib.hid (plainN_no (by rw [HL.out]; exact hlt) hbc)
        rw [hg] at hbc
        clear hg
        rcases badC_yes hbc with h | h | h | h | h | h
        all_goals
          clear hbc
          go_wp2
          go_ret
          rw [HP.out]
          exact ⟨rfl, rfl⟩
    · have HP := Lib.hid (plainN_yes (by rw [HL.out]; omega) (by rw [HL.out]; omega) (fun n hn => HBEF.out n (by rw [HL.out] at hn; omega)))
      obtain rfl : j = s.size := by omega
      clear hlt hj
      go_wp2
      go_ret
      rw [HP.out]
      exact ⟨rfl, rfl⟩
def sizeF (n : Nat) (r : Option (TypeV × List Int)) : Nat := match r with | some q => n - q.2.length | none => 0
def FlatTo (w : World) (n : Nat) (r : Option (TypeV × List Int)) (e : Ending) (w' : World) : Prop := e = .returned (.tuple #[valT (typF r), .int .i64 (sizeF n r)]) ∧ Only (fun _ => False) w w'
theorem FlatTo.no {w w' : World} {n : Nat} {r : Option (TypeV × List Int)} (h : r = none) (ho : Only (fun _ => False) w w') : FlatTo w n r (.returned (.tuple #[valT zeroT, .int .i64 0])) w' := by subst h; exact ⟨rfl, ho⟩
theorem FlatTo.yes {w w' : World} {n : Nat} {r : Option (TypeV × List Int)} {t : TypeV} {zs : List Int} {k : Int} (h : r = some (t, zs)) (hk : k = ((n - zs.length : Nat) : Int)) (ho : Only (fun _ => False) w w') : FlatTo w n r (.returned (.tuple #[valT t, .int .i64 k])) w' := by subst h; subst hk; exact ⟨rfl, ho⟩
theorem base_head {d : Nat} {zs : List Int} {c : Int} (h : zs = c :: zs.drop 1) (hd : ¬ 4 < d) : baseZ d zs = if c = 73 then some (arrT d 1 ⟨#[]⟩, zs.drop 1) else if c = 74 then some (arrT d 2 ⟨#[]⟩, zs.drop 1) else if c = 76 then (if semiZ (zs.drop 1) = (zs.drop 1).length then none else if plainN ((zs.drop 1).take (semiZ (zs.drop 1))) then some (arrT d 4 (strOfNums ((zs.drop 1).take (semiZ (zs.drop 1)))), (zs.drop 1).drop (semiZ (zs.drop 1) + 1)) else none) else none := by
  rw [h]
  show (if 4 < d then none else _) = _
  rw [if_neg hd]
  rfl
theorem nums_cons0 {t : ByteArray} (h0 : 0 < t.size) : nums t = ((t[0].toNat : Nat) : Int) :: (nums t).drop 1 := by
  have hlt : 0 < (nums t).length := by rw [nums_len]; exact h0
  have e := List.drop_eq_getElem_cons hlt
  rw [List.drop_zero] at e
  rw [← nums_at h0]
  simpa [List.getD, hlt] using e
set_option maxHeartbeats 8000000 in
set_option maxRecDepth 100000 in
theorem progFlat (t : ByteArray) (w : World) (hs : t.size ≤ 281474976710656) (h0 : 0 < t.size) :
    Calls Tryz.prog 94 #[.string t] w (FlatTo w t.size (baseZ 0 (nums t))) := by
  have hb := base_head (d := 0) (nums_cons0 h0) (by omega)
  have h0z : (0 : Int) < (t.size : Int) := by omega
  obtain ⟨r, hr⟩ : ∃ r, r = baseZ 0 (nums t) := ⟨_, rfl⟩
  rw [← hr] at hb ⊢
  obtain ⟨u, hu⟩ : ∃ u, u = (nums t).drop 1 := ⟨_, rfl⟩
  have hul : u.length + 1 = t.size := by rw [hu, List.length_drop, nums_len]; omega
  rw [← hu] at hb
  obtain ⟨c, hcc⟩ : ∃ c : Int, ((t[0].toNat : Nat) : Int) = c := ⟨_, rfl⟩
  rw [hcc] at hb
  have HBZ := Lib.hid hb
  have HU := Lib.hid hu
  have HUL := Lib.hid hul
  clear hr hu hul hb
  by_cases c1 : c = 73
  · subst c1
    have HB := Lib.hid (show r = some (⟨1, ⟨#[]⟩, 0, 0, 0⟩, u) by rw [HBZ.out, if_pos rfl]; rfl)
    go_enter Tryz.func94, Tryz.ntmps94
    go_wp2
    refine bodyPost_ret (type_result2 (t := ⟨1, ⟨#[]⟩, 0, 0, 0⟩) (b := w.heap.size) Tryz.results94 (heap_alloc_new w _) rfl rfl) rfl (FlatTo.yes HB.out (by have := HUL.out; omega) ((Only.refl _ w).alloc _))
  by_cases c2 : c = 74
  · subst c2
    have HB := Lib.hid (show r = some (⟨2, ⟨#[]⟩, 0, 0, 0⟩, u) by rw [HBZ.out, if_neg (by decide), if_pos rfl]; rfl)
    go_enter Tryz.func94, Tryz.ntmps94
    go_wp2
    refine bodyPost_ret (type_result2 (t := ⟨2, ⟨#[]⟩, 0, 0, 0⟩) (b := w.heap.size) Tryz.results94 (heap_alloc_new w _) rfl rfl) rfl (FlatTo.yes HB.out (by have := HUL.out; omega) ((Only.refl _ w).alloc _))
  have b1 : (c == 73) = false := by rw [beq_eq_false_iff_ne]; exact c1
  have b2 : (c == 74) = false := by rw [beq_eq_false_iff_ne]; exact c2
  by_cases c3 : c = 76
  · subst c3
    obtain ⟨x, hx⟩ : ∃ x, x = t.extract 1 t.size := ⟨_, rfl⟩
    have hxs : x.size + 1 = t.size := by rw [hx]; simp; omega
    have hxu : nums x = u := by rw [hx, nums_rest, HU.out]
    have HL : Hid (r = if semiZ u = u.length then none else if plainN (u.take (semiZ u)) then some (⟨4, strOfNums (u.take (semiZ u)), 0, 0, 0⟩, u.drop (semiZ u + 1)) else none) := Lib.hid (by rw [HBZ.out, if_neg (by decide), if_neg (by decide), if_pos rfl]; rfl)
    have cc := fun w => libCut x w (by omega)
    unfold cutTo cutV at cc
    rw [hxu] at cc
    have hsz := semiZ_le u
    have hz := heap_alloc_new w (.cells #[.int .i64 0, .string ⟨#[]⟩, .int .i64 0, .int .i64 0, .int .i64 0] 63)
    have ho0 := (Only.refl (fun _ => False) w).alloc (.cells #[.int .i64 0, .string ⟨#[]⟩, .int .i64 0, .int .i64 0, .int .i64 0] 63)
    have HZ := Lib.hid hz
    have HO := Lib.hid ho0
    obtain ⟨k, hk⟩ : ∃ k, semiZ u = k := ⟨_, rfl⟩
    rw [hk] at cc hsz
    have hlx : u.length = x.size := by have := HUL.out; omega
    have HLX := Lib.hid hlx
    clear hz ho0 c1 c2
    by_cases hend : k = x.size
    · rw [if_pos hend] at cc
      have HB : Hid (r = none) := Lib.hid (by rw [HL.out, if_pos (by rw [hk, hend, HLX.out])])
      have CC := Lib.hid cc
      clear cc hend hk hsz hlx HL hxu hxs
      go_enter Tryz.func94, Tryz.ntmps94
      go_wp2_with (fail)
      rw [← hx]
      refine (CC.out _).mono ?_
      rintro e w1 ⟨rfl, hd1⟩
      have hz1 := (hd1.only (S := fun _ => False)).heap HZ.out (fun h => h)
      obtain ⟨f0, f1, f2, f3, f4⟩ := marks5T hz1
      obtain ⟨q0, q1, q2, q3, q4⟩ := cells5T hz1
      have HZ1 := Lib.hid hz1
      have HO1 := Lib.hid (HO.out.trans (hd1.only (S := fun _ => False)) (fun _ h _ => h))
      clear hd1 hz1
      go_wp2
      exact bodyPost_ret (type_result2 (t := zeroT) (b := w.heap.size) Tryz.results94 (store5T HZ1.out) rfl rfl) rfl (FlatTo.no HB.out (only5T HO1.out (fun hl => absurd hl (Nat.lt_irrefl _))))
    · rw [if_neg hend] at cc
      have hkx : k + 1 ≤ x.size := by omega
      have hnm : nums (x.extract 0 k) = u.take k := by rw [nums_extract, hxu]; simp
      have hns : (x.extract 0 k).size = k := by simp; omega
      have HL2 : Hid (r = if plainN (u.take k) then some (⟨4, x.extract 0 k, 0, 0, 0⟩, u.drop (k + 1)) else none) := Lib.hid (by rw [HL.out, hk, if_neg (by rw [HLX.out]; exact hend), ← hnm, str_nums])
      have cp := fun w => progIsName (x.extract 0 k) w (by omega)
      rw [hnm] at cp
      have CC := Lib.hid cc
      have hdl : (k : Int) + 2 = ((t.size - (u.drop (k + 1)).length : Nat) : Int) := by rw [List.length_drop]; have := HUL.out; omega
      have HDL := Lib.hid hdl
      have hnl : ((x.extract 0 k).size : Int) = (k : Int) := by omega
      have hkb : (k : Int) ≤ 281474976710656 := by omega
      generalize x.extract 0 k = nm at *
      cases hpl : plainN (u.take k)
      · have HB := Lib.hid (show r = none by rw [HL2.out, hpl]; rfl)
        rw [hpl] at cp
        have CP := Lib.hid cp
        clear cc cp hend hk hsz hlx HL HL2 hxu hxs hpl hnm hns hdl hkx hnl hkb
        go_enter Tryz.func94, Tryz.ntmps94
        go_wp2_with (fail)
        rw [← hx]
        refine (CC.out _).mono ?_
        rintro e w1 ⟨rfl, hd1⟩
        have hz1 := (hd1.only (S := fun _ => False)).heap HZ.out (fun h => h)
        obtain ⟨f0, f1, f2, f3, f4⟩ := marks5T hz1
        obtain ⟨q0, q1, q2, q3, q4⟩ := cells5T hz1
        have HZ1 := Lib.hid hz1
        have HO1 := Lib.hid (HO.out.trans (hd1.only (S := fun _ => False)) (fun _ h _ => h))
        clear hd1 hz1
        go_wp2_with (fail)
        refine (CP.out _).mono ?_
        rintro e w2 ⟨rfl, rfl⟩
        go_wp2
        exact bodyPost_ret (type_result2 (t := zeroT) (b := w.heap.size) Tryz.results94 (store5T HZ1.out) rfl rfl) rfl (FlatTo.no HB.out (only5T HO1.out (fun hl => absurd hl (Nat.lt_irrefl _))))
      · have HB := Lib.hid (show r = some (⟨4, nm, 0, 0, 0⟩, u.drop (k + 1)) by rw [HL2.out, hpl]; rfl)
        rw [hpl] at cp
        have CP := Lib.hid cp
        clear cc cp hend hk hsz hlx HL HL2 hxu hxs hpl hnm hns hdl hkx
        go_enter Tryz.func94, Tryz.ntmps94
        go_wp2_with (fail)
        rw [← hx]
        refine (CC.out _).mono ?_
        rintro e w1 ⟨rfl, hd1⟩
        have hz1 := (hd1.only (S := fun _ => False)).heap HZ.out (fun h => h)
        obtain ⟨f0, f1, f2, f3, f4⟩ := marks5T hz1
        obtain ⟨q0, q1, q2, q3, q4⟩ := cells5T hz1
        have HZ1 := Lib.hid hz1
        have HO1 := Lib.hid (HO.out.trans (hd1.only (S := fun _ => False)) (fun _ h _ => h))
        clear hd1 hz1
        go_wp2_with (fail)
        refine (CP.out _).mono ?_
        rintro e w2 ⟨rfl, rfl⟩
        go_wp2
        exact bodyPost_ret (type_result2 (t := ⟨4, nm, 0, 0, 0⟩) (b := w.heap.size) Tryz.results94 (store5T HZ1.out) rfl rfl) rfl (FlatTo.yes HB.out (by rw [← HDL.out]; omega) (only5T HO1.out (fun hl => absurd hl (Nat.lt_irrefl _))))
  · have b3 : (c == 76) = false := by rw [beq_eq_false_iff_ne]; exact c3
    have HB := Lib.hid (show r = none by rw [HBZ.out, if_neg c1, if_neg c2, if_neg c3])
    clear c1 c2 c3 HBZ
    go_enter Tryz.func94, Tryz.ntmps94
    go_wp2
    refine bodyPost_ret (type_result2 (t := zeroT) (b := w.heap.size) Tryz.results94 (heap_alloc_new w _) rfl rfl) rfl (FlatTo.no HB.out ((Only.refl _ w).alloc _))
end Go.Proofs.YtgdgffnaknkbcaaGreatDoor
