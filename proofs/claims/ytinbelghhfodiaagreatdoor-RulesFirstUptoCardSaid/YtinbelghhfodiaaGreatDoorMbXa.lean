import Derived.Test.YtinbelghhfodiaaGreatDoorMaClsAKndL
import Derived.Test.YtinbelghhfodiaaGreatDoorMaClsCClsE
import Derived.Test.YtinbelghhfodiaaGreatDoorMaClsGLpE
import Derived.Test.YtinbelghhfodiaaGreatDoorMaClsILnkWa
import Derived.Test.YtinbelghhfodiaaGreatDoorMaIxALpRa
import Derived.Test.YtinbelghhfodiaaGreatDoorMaKndBRulN
import Derived.Test.YtinbelghhfodiaaGreatDoorMaKndOLpO
import Derived.Test.YtinbelghhfodiaaGreatDoorMaKndPRulA
import Derived.Test.YtinbelghhfodiaaGreatDoorMaKndTLnkD
import Derived.Test.YtinbelghhfodiaaGreatDoorMaLnkELnkG
import Derived.Test.YtinbelghhfodiaaGreatDoorMaLnkHLnkN
import Derived.Test.YtinbelghhfodiaaGreatDoorMaLnkOPolD
import Derived.Test.YtinbelghhfodiaaGreatDoorMaLnkVLnkW
import Derived.Test.YtinbelghhfodiaaGreatDoorMaLpFLpG
import Derived.Test.YtinbelghhfodiaaGreatDoorMaLpHLpI
import Derived.Test.YtinbelghhfodiaaGreatDoorMaLpJKndSh
import Derived.Test.YtinbelghhfodiaaGreatDoorMaLpMeLpTb
import Derived.Test.YtinbelghhfodiaaGreatDoorMaLpQLpY
import Derived.Test.YtinbelghhfodiaaGreatDoorMaLpRcLpRb
import Derived.Test.YtinbelghhfodiaaGreatDoorMaLpRf
import Derived.Test.YtinbelghhfodiaaGreatDoorMaLpRg
import Derived.Test.YtinbelghhfodiaaGreatDoorMaLpRhLpRi
import Derived.Test.YtinbelghhfodiaaGreatDoorMaLpSLpU
import Derived.Test.YtinbelghhfodiaaGreatDoorMaLpTLpR
import Derived.Test.YtinbelghhfodiaaGreatDoorMaLpVClsH
import Derived.Test.YtinbelghhfodiaaGreatDoorMaPolLKndW
import Derived.Test.YtinbelghhfodiaaGreatDoorMaPolMPolV
import Derived.Test.YtinbelghhfodiaaGreatDoorMaPolW
import Derived.Test.YtinbelghhfodiaaGreatDoorMaPrsBig
import Derived.Test.YtinbelghhfodiaaGreatDoorMaRulDLpP
import Derived.Test.YtinbelghhfodiaaGreatDoorMaRulGRuwD
import Derived.Test.YtinbelghhfodiaaGreatDoorMaRulTRulB
import Derived.Test.YtinbelghhfodiaaGreatDoorMaRuwARulE
import Derived.Test.YtinbelghhfodiaaGreatDoorMaSepPolT
import Derived.Test.YtinbelghhfodiaaGreatDoorMaTillPolI
import Derived.Test.YtinbelghhfodiaaGreatDoorMaTkH
import Derived.Test.YtinbelghhfodiaaGreatDoorMaTlk
import Derived.Test.YtinbelghhfodiaaGreatDoorMaTxtATxtE
import Derived.Test.YtinbelghhfodiaaGreatDoorMaTxtFArg
import Derived.Test.YtinbelghhfodiaaGreatDoorMaWireAPolG
import Derived.ArgAppend
import Derived.BigQuiet
import Derived.Deep.QuietTactic
import Derived.Deep.RegionHeld3
import Derived.Defers
import Derived.Laws.CopyRow
import Derived.OwnWalk
import Derived.ProofKit
import Derived.Recover
import Derived.WalkLawsBesides

namespace Go.Proofs.YtinbelghhfodiaaGreatDoor
set_option maxHeartbeats 8000000
open Lib (hid)
open Go.RowKit
set_option linter.unusedVariables false
set_option linter.unusedSimpArgs false
theorem nums_ne {s : ByteArray} (h : s ≠ ⟨#[]⟩) : ∃ c r, nums s = c :: r := by
  cases hq : nums s with
  | nil => exact absurd (nums_inj (hq.trans nums_nil.symm)) h
  | cons c r => exact ⟨c, r, rfl⟩
instance : Inhabited PairV := ⟨⟨⟨#[]⟩, ⟨#[]⟩⟩⟩
instance : Inhabited MethN := ⟨⟨⟨#[]⟩, ⟨#[]⟩, 0⟩⟩
instance : Inhabited KindV := ⟨⟨⟨#[]⟩, ⟨#[]⟩, [], [], 0⟩⟩
instance : Inhabited ClassV := ⟨⟨[], 0, 0, [], []⟩⟩
end Go.Proofs.YtinbelghhfodiaaGreatDoor
namespace Go.Proofs.YtinbelghhfodiaaGreatDoor
set_option maxHeartbeats 8000000
open Lib (hid)
open Go.ChangeShapes Go.WideShapes Go.ChangeAt Go.RowKit Go.Deep
set_option linter.unusedVariables false
set_option linter.unusedSimpArgs false
end Go.Proofs.YtinbelghhfodiaaGreatDoor
namespace Go.Proofs.YtinbelghhfodiaaGreatDoor
set_option maxHeartbeats 8000000
open Lib (hid)
open Go.RowKit Go.Maps
set_option linter.unusedVariables false
set_option linter.unusedSimpArgs false
attribute [local go_sem] Oper.semAt_some
end Go.Proofs.YtinbelghhfodiaaGreatDoor
namespace Go.Proofs.YtinbelghhfodiaaGreatDoor
set_option maxHeartbeats 8000000
open Lib (hid)
open Go.RowKit
set_option linter.unusedVariables false
set_option linter.unusedSimpArgs false
end Go.Proofs.YtinbelghhfodiaaGreatDoor

namespace Go.Proofs.YtinbelghhfodiaaGreatDoor
set_option maxHeartbeats 4000000
open Lib (hid)
open Go.RowKit
set_option linter.unusedVariables false
set_option linter.unusedSimpArgs false
theorem typeN_none : typeN noT = none := rfl
theorem typeN_arr {s : ByteArray} (h : headIs1 (nums s) = true) : typeN s = oneZ8 (nums s) := by
 unfold headIs1 at h
 unfold typeN
 cases hq : nums s with
 | nil => rw [hq] at h; cases h
 | cons c r =>
  rw [hq] at h
  simp only [List.head?_cons, Option.some.injEq, decide_eq_true_eq] at h
  simp only [h, if_true]
theorem typeN_name {s : ByteArray} (h : headIs1 (nums s) = false) : typeN s = if plainN (nums s) then some ⟨4, s, 0, 0, 0⟩ else none := by
 unfold headIs1 at h
 unfold typeN
 cases hq : nums s with
 | nil => rfl
 | cons c r =>
  rw [hq] at h
  simp only [List.head?_cons, Option.some.injEq, decide_eq_false_iff_not] at h
  simp only [if_neg h]
theorem desc_name (s : ByteArray) : oneZ8 (nums (refB s)) = if plainN (nums s) then some ⟨4, s, 0, 0, 0⟩ else none := by
 rw [nums_refB]
 have hd : dimsZ (76 :: (nums s ++ [59])) = 0 := by rw [dimsZ, if_neg (by decide)]
 unfold oneZ8 fieldZ
 rw [hd, List.drop_zero]
 unfold baseZ
 simp only [show ¬ ((4 : Nat) < 0) by decide, show ¬ ((76 : Int) = 73) by decide, show ¬ ((76 : Int) = 74) by decide, if_false, if_true]
 by_cases hs : ∀ z ∈ nums s, z ≠ 59
 ·have h1 : semiZ (nums s ++ [59]) = (nums s).length := semi_of (nums s) hs
  rw [h1]
  have h2 : ¬ (nums s).length = (nums s ++ [59]).length := by simp
  rw [if_neg h2, List.take_left, show List.drop ((nums s).length + 1) (nums s ++ [59]) = [] by simp, str_nums]
  by_cases hp : plainN (nums s) = true
  ·rw [if_pos hp, if_pos hp]; rfl
  ·rw [if_neg hp, if_neg hp]
 ·have hno : plainN (nums s) = false := by
   cases hp : plainN (nums s) with
   | false => rfl
   | true => exact absurd (plain_semi hp) hs
  rw [hno]
  have hlt : semiZ (nums s ++ [59]) < (nums s).length := by
   have : ∀ x : List Int, (¬ ∀ z ∈ x, z ≠ 59) → semiZ (x ++ [59]) < x.length := by
    intro x
    induction x with
    | nil => intro h; exact absurd (fun z hz => by cases hz) h
    | cons c q ih =>
     intro h
     rw [List.cons_append, semiZ]
     split
     ·simp
     ·rename_i hc
      have := ih (fun h' => h (fun z hz => by
       rcases List.mem_cons.1 hz with rfl | hz
       ·exact hc
       ·exact h' z hz))
      simp; omega
   exact this _ hs
  rw [if_neg (by simp; omega)]
  have hne : List.drop (semiZ (nums s ++ [59]) + 1) (nums s ++ [59]) ≠ [] := by
   intro e
   have := congrArg List.length e
   simp at this
   omega
  simp only [Bool.false_eq_true, if_false]
  split
  ·rename_i heq
   split at heq
   ·injection heq with heq
    injection heq with _ heq
    exact absurd heq hne
   ·cases heq
  ·rfl
instance : Inhabited MapV := ⟨⟨0, [], [], false⟩⟩
instance : Inhabited MapX := ⟨(default, .slice none 0 0, .slice none 0 0)⟩
theorem errO_eq (o : Option TypeV) : (errO o == 0) = o.isSome := by cases o <;> rfl
theorem at0_toNat {s : ByteArray} {c : Int} {r : List Int} (h : nums s = c :: r) (h0 : 0 < s.size) : ((s[0].toNat : Nat) : Int) = c := by
 have := nums_at h0
 rw [h] at this
 simpa using this.symm
set_option maxRecDepth 100000 in
theorem refMType (s : ByteArray) (w : World) (hs : s.size ≤ 140737488351232) : Calls Tryz.prog 25 #[.string s] w (TypeTo w s) := by
 have hr0 := heap_alloc_new w (.cells #[.int .i64 0, .string ⟨#[]⟩, .int .i64 0, .int .i64 0, .int .i64 0] 33)
 have ho0 := (Only.refl (fun _ => False) w).alloc (.cells #[.int .i64 0, .string ⟨#[]⟩, .int .i64 0, .int .i64 0, .int .i64 0] 33)
 have HR0 := hid hr0
 have HO0 := hid ho0
 clear hr0 ho0
 by_cases h0 : s = ⟨#[]⟩
 ·subst h0
  have HQ := hid (show TypeTo w ⟨#[]⟩ = fun e w' => e = .returned (.tuple #[valT zeroT, .bool false]) ∧ Only (fun _ => False) w w' from rfl)
  have cP := fun w => refPlainN ⟨#[]⟩ w (by omega)
  rw [show plainN (nums ⟨#[]⟩) = false from rfl] at cP
  have CP := hid cP
  have hte := toList_empty
  clear cP
  go_enter Tryz.func25, Tryz.ntmps25
  rw [HQ.out]
  go_wp2_with (fail)
  refine (CP.out _).mono ?_
  rintro e w1 ⟨rfl, rfl⟩
  obtain ⟨f0, f1, f2, f3, f4⟩ := marks5T HR0.out
  obtain ⟨q0, q1, q2, q3, q4⟩ := cells5T HR0.out
  go_wp2
  exact bodyPost_ret (type_result2 (t := zeroT) (b := w.heap.size) Tryz.results25 (heap_alloc_new w _) rfl rfl) rfl ⟨rfl, (Only.refl _ w).alloc _⟩
 ·obtain ⟨v1, v2⟩ := toList_ne h0
  obtain ⟨c, r, hn⟩ := nums_ne h0
  have h0s : 0 < s.size := by rw [← nums_len, hn]; simp
  have h0z : (0 : Int) < (s.size : Int) := by omega
  have hc := at0_toNat hn h0s
  by_cases h9 : c = 91
  ·have he : typeN s = oneZ8 (nums s) := typeN_arr (by unfold headIs1; rw [hn, h9]; rfl)
   rw [h9] at hc
   obtain ⟨o, ho⟩ : ∃ o, oneZ8 (nums s) = o := ⟨_, rfl⟩
   have cF := fun w => refField s w (by omega)
   rw [ho] at he
   unfold valT at cF
   simp only [ho] at cF
   obtain ⟨t, ht⟩ : ∃ t, typO o = t := ⟨_, rfl⟩
   obtain ⟨er, her⟩ : ∃ er, errO o = er := ⟨_, rfl⟩
   rw [ht, her] at cF
   have HQ := hid (show TypeTo w s = fun e w' => e = .returned (.tuple #[valT t, .bool (er == 0)]) ∧ Only (fun _ => False) w w' by unfold TypeTo; rw [he, ht, ← errO_eq, her])
   have CF := hid cF
   clear cF he ho ht her hn h9 h0
   go_enter Tryz.func25, Tryz.ntmps25
   rw [HQ.out]
   go_wp2_with (fail)
   refine (CF.out _).mono ?_
   rintro e w1 ⟨rfl, ho1⟩
   have hal := (Only.refl (fun _ => False) w1).alloc (.cells #[.int .i64 t.k, .string t.name, .int .i64 t.dims, .int .i64 t.elem, .int .i64 t.at_] 33)
   have hr1 := hal.heap (ho1.heap HR0.out (fun h => h)) (fun h => h)
   have HON1 := hid ((HO0.out.trans ho1 (fun _ h _ => h)).trans hal (fun _ h _ => h))
   obtain ⟨f0, f1, f2, f3, f4⟩ := marks5T hr1
   obtain ⟨q0, q1, q2, q3, q4⟩ := cells5T hr1
   have HR1 := hid hr1
   clear hr1 ho1 CF hal
   go_wp2
   exact bodyPost_ret (type_result2 (t := t) (b := w.heap.size) Tryz.results25 (store5T HR1.out) rfl rfl) rfl ⟨rfl, only5T HON1.out (fun hl => absurd hl (Nat.lt_irrefl _))⟩
  ·have he : typeN s = if plainN (nums s) then some ⟨4, s, 0, 0, 0⟩ else none := typeN_name (by unfold headIs1; rw [hn]; simp [h9])
   have hcb : (((s[0].toNat : Nat) : Int) == 91) = false := by rw [hc]; simpa using h9
   have hcn : ¬ ((s[0].toNat : Nat) : Int) = 91 := by rw [hc]; exact h9
   have cP := fun w => refPlainN s w (by omega)
   obtain ⟨f0, f1, f2, f3, f4⟩ := marks5T HR0.out
   obtain ⟨q0, q1, q2, q3, q4⟩ := cells5T HR0.out
   cases hp : plainN (nums s) with
   | false =>
    rw [hp] at he
    simp only [hp] at cP
    have HQ := hid (show TypeTo w s = fun e w' => e = .returned (.tuple #[valT zeroT, .bool false]) ∧ Only (fun _ => False) w w' by unfold TypeTo; rw [he]; rfl)
    have CP := hid cP
    clear cP he hn h9 hp h0 hc
    go_enter Tryz.func25, Tryz.ntmps25
    rw [HQ.out]
    go_wp2_with (fail)
    refine (CP.out _).mono ?_
    rintro e w1 ⟨rfl, rfl⟩
    go_wp2
    exact bodyPost_ret (type_result2 (t := zeroT) (b := w.heap.size) Tryz.results25 (heap_alloc_new w _) rfl rfl) rfl ⟨rfl, (Only.refl _ w).alloc _⟩
   | true =>
    rw [hp] at he
    simp only [hp] at cP
    have HQ := hid (show TypeTo w s = fun e w' => e = .returned (.tuple #[valT ⟨4, s, 0, 0, 0⟩, .bool true]) ∧ Only (fun _ => False) w w' by unfold TypeTo; rw [he]; rfl)
    have CP := hid cP
    clear cP he hn h9 hp h0 hc
    go_enter Tryz.func25, Tryz.ntmps25
    rw [HQ.out]
    go_wp2_with (fail)
    refine (CP.out _).mono ?_
    rintro e w1 ⟨rfl, rfl⟩
    go_wp2
    exact bodyPost_ret (type_result2 (t := ⟨4, s, 0, 0, 0⟩) (b := w.heap.size) Tryz.results25 (heap_alloc_new w _) rfl rfl) rfl ⟨rfl, (Only.refl _ w).alloc _⟩
theorem strOf_size (l : List Int) : (strOfNums l).size = l.length := by simp [strOfNums, ByteArray.size]
theorem plain_pos {l : List Int} (h : plainN l = true) : 0 < l.length := by
 cases l with
 | nil => simp [plainN] at h
 | cons a r => simp
theorem names_arr (d : Nat) (k : Int) (nm : ByteArray) (hk : k ≠ 5) (hn : (k = 4) ↔ nm ≠ ⟨#[]⟩) : namesT (arrT d k nm) = decide ((arrT d k nm).name ≠ ⟨#[]⟩) := by
 unfold arrT namesT
 by_cases hd : 0 < d
 ·rw [if_pos hd]
  by_cases h4 : k = 4
  ·have := hn.1 h4
   subst h4
   simp [this]
  ·have h5 : nm = ⟨#[]⟩ := by
    by_cases e : nm = ⟨#[]⟩
    ·exact e
    ·exact absurd (hn.2 e) h4
   subst h5
   simp [h4]
 ·rw [if_neg hd]
  by_cases h4 : k = 4
  ·have := hn.1 h4
   subst h4
   simp [this]
  ·have h5 : nm = ⟨#[]⟩ := by
    by_cases e : nm = ⟨#[]⟩
    ·exact e
    ·exact absurd (hn.2 e) h4
   subst h5
   simp [h4, hk]
theorem arr_name (d : Nat) (k : Int) (nm : ByteArray) : (arrT d k nm).name = nm := by unfold arrT; split <;> rfl
theorem base_names {d : Nat} {zs r : List Int} {t : TypeV} (h : baseZ d zs = some (t, r)) : namesT t = decide (t.name ≠ ⟨#[]⟩) ∧ t.name.size ≤ zs.length := by
 unfold baseZ at h
 cases zs with
 | nil => cases h
 | cons c q =>
  simp only at h
  split at h
  ·cases h
  split at h
  ·simp only [Option.some.injEq, Prod.mk.injEq] at h
   rw [← h.1]
   exact ⟨names_arr d 1 _ (by decide) ⟨fun e => (by cases e), fun e => absurd rfl e⟩, by rw [arr_name]; exact Nat.zero_le _⟩
  split at h
  ·simp only [Option.some.injEq, Prod.mk.injEq] at h
   rw [← h.1]
   exact ⟨names_arr d 2 _ (by decide) ⟨fun e => (by cases e), fun e => absurd rfl e⟩, by rw [arr_name]; exact Nat.zero_le _⟩
  split at h
  ·split at h
   ·cases h
   split at h
   ·rename_i hp
    simp only [Option.some.injEq, Prod.mk.injEq] at h
    have hpos := plain_pos hp
    have hs := strOf_size (q.take (semiZ q))
    rw [← h.1]
    refine ⟨names_arr d 4 _ (by decide) ⟨fun _ e => ?_, fun _ => rfl⟩, ?_⟩
    ·have h0 : (strOfNums (q.take (semiZ q))).size = 0 := by rw [e]; rfl
     omega
    ·rw [arr_name, hs, List.length_take, List.length_cons]; omega
   ·cases h
  ·cases h
theorem typeN_names {s : ByteArray} {t : TypeV} (h : typeN s = some t) : namesT t = decide (t.name ≠ ⟨#[]⟩) ∧ t.name.size ≤ s.size := by
 have hl := nums_len s
 unfold typeN at h
 cases hq : nums s with
 | nil => rw [hq] at h; cases h
 | cons c r =>
  rw [hq] at h hl
  simp only at h
  split at h
  ·unfold oneZ8 fieldZ at h
   cases hb : baseZ (dimsZ (c :: r)) ((c :: r).drop (dimsZ (c :: r))) with
   | none => rw [hb] at h; cases h
   | some p =>
    obtain ⟨t', r'⟩ := p
    rw [hb] at h
    cases r' with
    | nil =>
     simp only [Option.some.injEq] at h
     subst h
     obtain ⟨h1, h2⟩ := base_names hb
     refine ⟨h1, Nat.le_trans h2 ?_⟩
     rw [List.length_drop]; omega
    | cons a b => cases h
  ·split at h
   ·simp only [Option.some.injEq] at h
    subst h
    refine ⟨?_, Nat.le_refl _⟩
    have hne : s ≠ ⟨#[]⟩ := fun e => by rw [e] at hq; cases hq
    simp [namesT, hne]
   ·cases h
theorem typeAt_none {ks : List KindV} {cs : List ConstV} {n : Int} (h : typeN (classZ cs n).1 = none) : typeAtZ ks cs n = none := by unfold typeAtZ; rw [h]
theorem typeAt_some {ks : List KindV} {cs : List ConstV} {n : Int} {t : TypeV} (h : typeN (classZ cs n).1 = some t) : typeAtZ ks cs n = if namesT t = true ∧ findZ ks t.name < 0 then none else some t := by unfold typeAtZ; rw [h]
end Go.Proofs.YtinbelghhfodiaaGreatDoor

namespace Go.Proofs.YtinbelghhfodiaaGreatDoor
set_option maxHeartbeats 8000000
open Lib (hid)
open Go.RowKit Go.Maps
set_option linter.unusedVariables false
set_option linter.unusedSimpArgs false
set_option maxRecDepth 100000 in
theorem copyCType (v : Value) (n : Nat) (cells : Nat → List Value) (w : World) (h : Sl v n (CellsAt w 5 cells)) (hsz : ∀ i, (cells i).length = 5) (h1 : ∀ i, ∀ u ∈ cells i, u.oneCell' = true) (hn : n * 48 ≤ 140737488355327) :
    Calls Tryz.prog 60 #[v] w (CopyTo w 33 5 n cells) := by
  have hnil := fun (w : World) (a : Option Addr) (n c : Nat) => Lib.run_eql_slice_nil (P := Tryz.prog) w 23 33 a n c 0 0 Tryz.underlying23
  obtain ⟨i0, hi, hz0, hz1, hz2⟩ := info_parts info_type
  have hsrc := Src.of_sl h hsz h1 (by decide)
  obtain ⟨ao, cap, rfl, p1, p2, p3, -⟩ := h
  cases ao with
  | none =>
    obtain rfl : cap = 0 := p3 rfl
    obtain rfl : n = 0 := by omega
    clear hsrc
    go_enter Tryz.func60, Tryz.ntmps60
    go_wp2
    go_ret
    exact ⟨_, rfl, Sl.nil _, fun k hk => (by cases hk), Only.refl _ _, World.ownsRow_nil _ _ _ _⟩
  | some x =>
    have ho1 := (Only.refl (fun _ => False) w).alloc (.cells #[] 33)
    have hown0 : (w.alloc (.cells #[] 33)).ownsRow w.heap.size 33 5 (.slice (some ⟨w.heap.size, 0, none⟩) 0 0) 0 [] := World.ownsRow_made _ #[] 0 (Nat.le_refl _) (Nat.zero_le _) rfl
    have HSRC := hid (hsrc.alloc (.cells #[] 33))
    have HOWN := hid hown0
    have HO := hid ho1
    have HSZ := hid hsz
    clear hsrc hown0 ho1 p3 hsz h1
    go_enter Tryz.func60, Tryz.ntmps60
    go_wp2_with (at_builtin; go_loud (refine wpList_append_src rfl (.tmp 5) (.tmp 6) 23 rfl 33 i0 (.agg #[.int .i64 0, .string ⟨#[]⟩, .int .i64 0, .int .i64 0, .int .i64 0]) 5 48 Tryz.underlying23 hi hz0 hz1 hz2 rfl (by decide) w.heap.size (.slice (some ⟨w.heap.size, 0, none⟩) 0 0) 0 [] rfl (by exact HOWN.out) (by exact HO.out.size) (.slice (some x) n cap) n ((List.range n).flatMap cells) rfl (by exact HSRC.out) (by unfold maxLen; omega) (by omega) ?_); intro v' w5 hown hgrow hnew; have hos := only_grownT hgrow; have hon6 := HO.out.trans hos (fun j hj hl => by have e : w.heap.size = j := Option.some.inj hj; omega); have HO6 := hid hon6; have HOWN6 := hid (show w5.ownsRow w.heap.size 33 5 v' n ((List.range n).flatMap cells) by have := hown; rw [Nat.zero_add, List.nil_append] at this; exact this); clear hown hgrow hnew hos hon6)
    go_ret
    exact ⟨_, rfl, owns_sl HOWN6.out HSZ.out, fun k hk => World.ownsRow.lt HOWN6.out k hk, HO6.out, HOWN6.out⟩
theorem range_flat {α : Type} [Inhabited α] (f : α → List Value) : ∀ l : List α, (List.range l.length).flatMap (fun i => f (l.getD i default)) = l.flatMap f := fun l => by
  have h : (List.range l.length).map (fun i => l.getD i default) = l := by
    apply List.ext_getElem
    · simp
    · intro i h1 h2
      simp at h1
      simp [List.getD, h1]
  rw [← List.flatMap_map (f := fun i => l.getD i default) (g := f), h]
theorem copyTypes (v : Value) (ts : List TypeV) (w : World) (h : Types w v ts) (hl : ts.length * 48 ≤ 140737488355327) :
    Calls Tryz.prog 60 #[v] w fun e w' => ∃ v', e = .returned v' ∧ TRow w' w.heap.size v' ts ∧ Only (fun _ => False) w w' := by
  refine (copyCType v ts.length (fun i => cellsTy (ts.getD i default)) w (h.imp (fun _ _ _ _ _ k => k.cells rfl)) (fun _ => rfl) (fun i u hu => ?_) hl).mono ?_
  · simp only [cellsTy, List.mem_cons, List.mem_nil_iff, or_false] at hu
    rcases hu with rfl | rfl | rfl | rfl | rfl <;> rfl
  · rintro e w' ⟨v', rfl, -, -, k3, k4⟩
    rw [range_flat] at k4
    exact ⟨v', rfl, k4, k3⟩
set_option maxRecDepth 100000 in
theorem pFrClone (vl vs : Value) (ls ss : List TypeV) (fr : Bool) (w : World) (hl : Types w vl ls) (hs : Types w vs ss) (hnl : ls.length * 48 ≤ 140737488355327) (hns : ss.length * 48 ≤ 140737488355327) :
    Calls Tryz.prog 28 #[.agg #[vl, vs, .bool fr]] w (FrTo w ls ss fr) := by
  have ho0 := ((Only.refl (fun _ => False) w).alloc (.cells #[vl, vs, .bool fr] 25)).alloc (.cells #[.slice none 0 0, .slice none 0 0, .bool false] 25)
  have hx0 : ((w.alloc (.cells #[vl, vs, .bool fr] 25)).alloc (.cells #[.slice none 0 0, .slice none 0 0, .bool false] 25)).heap[w.heap.size]? = some (.cells #[vl, vs, .bool fr] 25 (0, 0)) := ((Only.refl (fun _ => False) _).alloc _).heap (heap_alloc_new w _) (fun h => h)
  have hr0 : ((w.alloc (.cells #[vl, vs, .bool fr] 25)).alloc (.cells #[.slice none 0 0, .slice none 0 0, .bool false] 25)).heap[w.heap.size + 1]? = some (.cells #[.slice none 0 0, .slice none 0 0, .bool false] 25 (0, 0)) := by
    have := heap_alloc_new (w.alloc (.cells #[vl, vs, .bool fr] 25)) (.cells #[.slice none 0 0, .slice none 0 0, .bool false] 25)
    rwa [World.size_alloc] at this
  have hs0 : ((w.alloc (.cells #[vl, vs, .bool fr] 25)).alloc (.cells #[.slice none 0 0, .slice none 0 0, .bool false] 25)).heap.size = w.heap.size + 2 := by simp
  obtain ⟨W0, hW0⟩ : ∃ W0, (w.alloc (.cells #[vl, vs, .bool fr] 25)).alloc (.cells #[.slice none 0 0, .slice none 0 0, .bool false] 25) = W0 := ⟨_, rfl⟩
  rw [hW0] at ho0 hx0 hr0 hs0
  have CL := hid (fun W (hW : Only (fun _ => False) W0 W) => copyTypes vl ls W (hl.only (ho0.trans hW (fun _ h _ => h))) hnl)
  have CS := hid (fun W (hW : Only (fun _ => False) W0 W) => copyTypes vs ss W (hs.only (ho0.trans hW (fun _ h _ => h))) hns)
  obtain ⟨c0, c1, c2⟩ := cells3 hx0
  have HO0 := hid ho0
  have HR0 := hid hr0
  have HS0 := hid hs0
  have HW0 := hid hW0
  have hSd : W0.drew.cell? ⟨w.heap.size, 0, none⟩ = some vl ∧ W0.drew.cell? ⟨w.heap.size, 1, none⟩ = some vs := ⟨(Only.refl (fun _ => False) W0).drew.cell c0 (fun h => h), (Only.refl (fun _ => False) W0).drew.cell c1 (fun h => h)⟩
  clear ho0 hr0 hs0 hW0 hl hs hnl hns
  go_enter Tryz.func28, Tryz.ntmps28
  go_wp2_with (fail)
  rw [HW0.out]
  refine wp_till 7 (fun wc => wc.cell? ⟨w.heap.size, 0, none⟩ = some vl ∧ wc.cell? ⟨w.heap.size, 1, none⟩ = some vs) (by kernel_rfl) ?_
  refine Till.take (i := 0) (v := ?_) (by simp only [List.getElem?_toArray, List.getElem?_cons_succ, List.getElem?_cons_zero]; rfl) (by kernel_rfl) (by kernel_rfl) (by kernel_rfl) (by kernel_rfl) (by kernel_rfl) (by exact fun _ _ _ h => h) (Or.inl ⟨by rfl, ?_⟩) (by assumption) ?_
  rotate_left 1
  · (intro w h; (try dsimp only at h); go_simp; try with_reducible rfl)
  try simp only [Act.put, sIB, sC0, sCS]
  refine Till.take (i := 1) (v := ?_) (by simp only [List.getElem?_toArray, List.getElem?_cons_succ, List.getElem?_cons_zero]; rfl) (by kernel_rfl) (by kernel_rfl) (by kernel_rfl) (by kernel_rfl) (by kernel_rfl) (by exact fun _ _ _ h => h) (Or.inl ⟨by rfl, ?_⟩) (by assumption) ?_
  rotate_left 1
  · (intro w h; (try dsimp only at h); go_simp; try with_reducible rfl)
  try simp only [Act.put, sIB, sC0, sCS]
  refine Till.take (i := 3) (v := ?_) (by simp only [List.getElem?_toArray, List.getElem?_cons_succ, List.getElem?_cons_zero]; rfl) (by kernel_rfl) (by kernel_rfl) (by kernel_rfl) (by kernel_rfl) (by kernel_rfl) (by exact fun _ _ _ h => h) (Or.inl ⟨by rfl, ?_⟩) (by assumption) ?_
  rotate_left 1
  · (intro w h; (try dsimp only at h); go_simp; try with_reducible rfl)
  try simp only [Act.put, sIB, sC0, sCS]
  refine Till.take (i := 4) (v := ?_) (by simp only [List.getElem?_toArray, List.getElem?_cons_succ, List.getElem?_cons_zero]; rfl) (by kernel_rfl) (by kernel_rfl) (by kernel_rfl) (by kernel_rfl) (by kernel_rfl) (by exact fun _ _ _ h => h) (Or.inl ⟨by rfl, ?_⟩) (by assumption) ?_
  rotate_left 1
  · (intro w h; (try dsimp only at h); go_simp; try with_reducible rfl)
  try simp only [Act.put, sIB, sC0, sCS]
  refine Till.ts 2 (h := fun K hK => ?_)
  go_simp
  (refine (CL.out _ (Only.refl (fun _ => False) W0).drew).mono ?_; rintro e1 w1 ⟨lv, rfl, hr1, ho1⟩; obtain ⟨al, cl, rfl, -⟩ := slice_of_owns hr1; have HO1 := hid ((Only.refl (fun _ => False) W0).drew.trans ho1 (fun _ h _ => h)); have HR1 := hid hr1; have hSd1 : w1.cell? ⟨w.heap.size, 0, none⟩ = some vl ∧ w1.cell? ⟨w.heap.size, 1, none⟩ = some vs := ⟨HO1.out.cell c0 (fun h => h), HO1.out.cell c1 (fun h => h)⟩; clear hr1 ho1)
  go_wp2_with fail
  refine hK.out _ _ ?_ ?_
  · exact fun _ => ⟨HO1.out.cell c0 (fun h => h), HO1.out.cell c1 (fun h => h)⟩
  clear hK K
  try simp only [Act.put, sIB, sC0, sCS]
  refine Till.take (i := 6) (v := ?_) (by simp only [List.getElem?_toArray, List.getElem?_cons_succ, List.getElem?_cons_zero]; rfl) (by kernel_rfl) (by kernel_rfl) (by kernel_rfl) (by kernel_rfl) (by kernel_rfl) (by exact fun _ _ _ h => h) (Or.inl ⟨by rfl, ?_⟩) (by assumption) ?_
  rotate_left 1
  · (intro w h; (try dsimp only at h); go_simp; try with_reducible rfl)
  try simp only [Act.put, sIB, sC0, sCS]
  refine Till.ts 5 (h := fun K hK => ?_)
  go_simp
  (refine (CS.out _ HO1.out).mono ?_; rintro e2 w2 ⟨sv, rfl, hr2, ho2⟩; obtain ⟨ax, cx, rfl, -⟩ := slice_of_owns hr2; have HO2 := hid (HO1.out.trans ho2 (fun _ h _ => h)); have HI2 := hid ho2; have HR2 := hid hr2; have hx2 := HO2.out.heap hx0 (fun h => h); have f0 := frozen_blk hx2 0; have f1 := frozen_blk hx2 1; have HX2 := hid hx2; obtain ⟨y0, y1, y2⟩ := cells3 hx2; clear hr2 ho2 hx2)
  go_wp2_with fail
  refine hK.out _ _ ?_ ?_
  · exact fun _ => ⟨HO2.out.cell c0 (fun h => h), HO2.out.cell c1 (fun h => h)⟩
  clear hK K
  try simp only [Act.put, sIB, sC0, sCS]
  refine Till.ts 7 (h := fun K hK => ?_)
  go_simp
  refine hK.out _ _ ?_ ?_
  · exact fun h => by cases h
  clear hK K
  try simp only [Act.put, sIB, sC0, sCS]
  refine Till.ts 8 (h := fun K hK => ?_)
  go_simp
  refine hK.out _ _ ?_ ?_
  · exact fun h => by cases h
  clear hK K
  try simp only [Act.put, sIB, sC0, sCS]
  refine Till.ts 9 (h := fun K hK => ?_)
  go_simp
  refine hK.out _ _ ?_ ?_
  · exact fun h => by cases h
  clear hK K
  try simp only [Act.put, sIB, sC0, sCS]
  refine Till.done (by kernel_rfl) ?_ _
  have hx4 := heap_setCell_at (i := 1) (u := .slice ax ss.length cx) (heap_setCell_at (i := 0) (u := .slice al ls.length cl) HX2.out)
  simp only [List.setIfInBounds_toArray, List.set_cons_zero, List.set_cons_succ] at hx4
  have ho4 := ((Only.refl (fun k => k = w.heap.size) w2).setCell (p := ⟨w.heap.size, 0, none⟩) (fun _ => rfl) (.slice al ls.length cl)).setCell (p := ⟨w.heap.size, 1, none⟩) (fun _ => rfl) (.slice ax ss.length cx)
  obtain ⟨W4, hW4⟩ : ∃ W4, (w2.setCell ⟨w.heap.size, 0, none⟩ (.slice al ls.length cl)).setCell ⟨w.heap.size, 1, none⟩ (.slice ax ss.length cx) = W4 := ⟨_, rfl⟩
  rw [hW4] at hx4 ho4 ⊢
  clear f0 f1 y0 y1 y2 c0 c1 c2 hSd hSd1
  obtain ⟨y0, y1, y2⟩ := cells3 hx4
  have hr4 := ho4.heap (HO2.out.heap HR0.out (fun h => h)) (by omega)
  obtain ⟨z0, z1, z2⟩ := cells3 hr4
  obtain ⟨f0, f1, f2⟩ := marks3 hr4
  have HR4 := hid hr4
  have HO4 := hid ho4
  clear hx4 hr4 ho4 hW4 hx0
  go_wp2
  have hd : W0.heap.size ≤ W0.drew.heap.size := (Only.refl (fun _ => False) W0).drew.size
  have HS := HS0.out
  have hos : Only (fun k => k < W0.heap.size) w2 ((((W4).setCell ⟨w.heap.size + 1, 0, none⟩ (.slice al ls.length cl)).setCell ⟨w.heap.size + 1, 1, none⟩ (.slice ax ss.length cx)).setCell ⟨w.heap.size + 1, 2, none⟩ (.bool fr)) := only3 (HO4.out.mono (T := fun k => k < W0.heap.size) (fun k hk _ => by omega)) (fun _ => by omega)
  refine bodyPost_ret (frame_alone (b := w.heap.size + 1) Tryz.results28 (store3 HR4.out) rfl) rfl ⟨_, _, w1.heap.size, rfl, ?_, ?_, ?_, ?_, ?_⟩
  · have h1 := (HR1.out.only HI2.out (fun _ _ h => h)).only hos (fun k hk hG => by have := (HR1.out.ge k hk).1; omega)
    exact World.ownsRow.mono h1 (by omega)
  · exact HR2.out.only hos (fun k hk hG => by have := (HR2.out.ge k hk).1; have := HO1.out.size; omega)
  · have := HO1.out.size; omega
  · exact fun k hk => (HR1.out.ge k hk).2
  · refine only3 (Only.trans (HO0.out.trans HO2.out (fun _ h _ => h)) HO4.out ?_) (fun hl => absurd hl (by omega))
    rintro i rfl hl
    omega
end Go.Proofs.YtinbelghhfodiaaGreatDoor
namespace Go.Proofs.YtinbelghhfodiaaGreatDoor
set_option maxHeartbeats 8000000
open Lib (hid)
open Go.RowKit
set_option linter.unusedVariables false
set_option linter.unusedSimpArgs false
end Go.Proofs.YtinbelghhfodiaaGreatDoor

namespace Go.Proofs.YtinbelghhfodiaaGreatDoor
set_option maxHeartbeats 4000000
open Lib (hid)
open Go.RowKit
set_option linter.unusedVariables false
set_option linter.unusedSimpArgs false
set_option maxRecDepth 100000 in
theorem progMType (s : ByteArray) (w : World) (hs : s.size ≤ 140737488351232) : Calls Tryz.prog 54 #[.string s] w (TypeTo w s) := by
 have hr0 := heap_alloc_new w (.cells #[.int .i64 0, .string ⟨#[]⟩, .int .i64 0, .int .i64 0, .int .i64 0] 33)
 have ho0 := (Only.refl (fun _ => False) w).alloc (.cells #[.int .i64 0, .string ⟨#[]⟩, .int .i64 0, .int .i64 0, .int .i64 0] 33)
 have cH := hasHead s 91 (w.alloc (.cells #[.int .i64 0, .string ⟨#[]⟩, .int .i64 0, .int .i64 0, .int .i64 0] 33))
 have hH : headIs (91 : UInt8).toNat (nums s) = headIs1 (nums s) := rfl
 rw [hH] at cH
 have hrs : (refB s).size = s.size + 2 := by unfold refB; simp only [ByteArray.size_append]; show 1 + s.size + 1 = _; omega
 cases hh : headIs1 (nums s) with
 | true =>
  rw [hh] at cH
  have he := typeN_arr hh
  obtain ⟨o, ho⟩ : ∃ o, oneZ8 (nums s) = o := ⟨_, rfl⟩
  have cF := fun w => progField s w (by omega)
  rw [ho] at he
  unfold OneTo valT at cF
  simp only [ho] at cF
  obtain ⟨t, ht⟩ : ∃ t, typO o = t := ⟨_, rfl⟩
  obtain ⟨er, her⟩ : ∃ er, errO o = er := ⟨_, rfl⟩
  rw [ht, her] at cF
  have HQ := hid (show TypeTo w s = fun e w' => e = .returned (.tuple #[valT t, .bool (er == 0)]) ∧ Only (fun _ => False) w w' by unfold TypeTo; rw [he, ht, ← errO_eq, her])
  have CF := hid cF
  have CH := hid cH
  have HR0 := hid hr0
  have HO0 := hid ho0
  clear cF cH he ho ht her hr0 ho0 hh hH hrs
  go_enter Tryz.func54, Tryz.ntmps54
  rw [HQ.out]
  go_wp2_with (fail)
  refine CH.out.mono ?_
  rintro e w1 ⟨rfl, rfl⟩
  go_wp2_with (fail)
  refine (CF.out _).mono ?_
  rintro e w1 ⟨rfl, ho1⟩
  have hal := (Only.refl (fun _ => False) w1).alloc (.cells #[.int .i64 t.k, .string t.name, .int .i64 t.dims, .int .i64 t.elem, .int .i64 t.at_] 33)
  have hr1 := hal.heap (ho1.heap HR0.out (fun h => h)) (fun h => h)
  have HON1 := hid ((HO0.out.trans ho1 (fun _ h _ => h)).trans hal (fun _ h _ => h))
  obtain ⟨f0, f1, f2, f3, f4⟩ := marks5T hr1
  obtain ⟨q0, q1, q2, q3, q4⟩ := cells5T hr1
  have HR1 := hid hr1
  clear hr1 ho1 hal CF CH
  go_wp2
  exact bodyPost_ret (type_result2 (t := t) (b := w.heap.size) Tryz.results54 (store5T HR1.out) rfl rfl) rfl ⟨rfl, only5T HON1.out (fun hl => absurd hl (Nat.lt_irrefl _))⟩
 | false =>
  rw [hh] at cH
  have he := typeN_name hh
  rw [← desc_name] at he
  obtain ⟨o, ho⟩ : ∃ o, oneZ8 (nums (refB s)) = o := ⟨_, rfl⟩
  have cF := fun w => progField (refB s) w (by omega)
  rw [ho] at he
  unfold OneTo valT at cF
  simp only [ho] at cF
  obtain ⟨t, ht⟩ : ∃ t, typO o = t := ⟨_, rfl⟩
  obtain ⟨er, her⟩ : ∃ er, errO o = er := ⟨_, rfl⟩
  rw [ht, her] at cF
  unfold refB at cF
  have HQ := hid (show TypeTo w s = fun e w' => e = .returned (.tuple #[valT t, .bool (er == 0)]) ∧ Only (fun _ => False) w w' by unfold TypeTo; rw [he, ht, ← errO_eq, her])
  have CF := hid cF
  have CH := hid cH
  have HR0 := hid hr0
  have HO0 := hid ho0
  clear cF cH he ho ht her hr0 ho0 hh hH hrs
  go_enter Tryz.func54, Tryz.ntmps54
  rw [HQ.out]
  go_wp2_with (fail)
  refine CH.out.mono ?_
  rintro e w1 ⟨rfl, rfl⟩
  go_wp2_with (fail)
  refine (CF.out _).mono ?_
  rintro e w1 ⟨rfl, ho1⟩
  have hal := (Only.refl (fun _ => False) w1).alloc (.cells #[.int .i64 t.k, .string t.name, .int .i64 t.dims, .int .i64 t.elem, .int .i64 t.at_] 33)
  have hr1 := hal.heap (ho1.heap HR0.out (fun h => h)) (fun h => h)
  have HON1 := hid ((HO0.out.trans ho1 (fun _ h _ => h)).trans hal (fun _ h _ => h))
  obtain ⟨f0, f1, f2, f3, f4⟩ := marks5T hr1
  obtain ⟨q0, q1, q2, q3, q4⟩ := cells5T hr1
  have HR1 := hid hr1
  clear hr1 ho1 hal CF CH
  go_wp2
  exact bodyPost_ret (type_result2 (t := t) (b := w.heap.size) Tryz.results54 (store5T HR1.out) rfl rfl) rfl ⟨rfl, only5T HON1.out (fun hl => absurd hl (Nat.lt_irrefl _))⟩
section
variable {w : World} {xb pb : Nat} {ks : List KindV} {p : PlcV} (h : PlaceP w xb pb ks p)
include h
set_option maxRecDepth 100000 in
theorem pFirst11 : Calls Tryz.prog 11 #[.pointer (some ⟨xb, 0, none⟩)] w (FrTo w p.locals [] p.fresh) := by
 have ho := (Only.refl (fun _ => False) w).alloc (.cells #[.slice none 0 0, .slice none 0 0, .bool false] 25)
 have hr := heap_alloc_new w (.cells #[.slice none 0 0, .slice none 0 0, .bool false] 25)
 obtain ⟨W0, hW0⟩ : ∃ W0, w.alloc (.cells #[.slice none 0 0, .slice none 0 0, .bool false] 25) = W0 := ⟨_, rfl⟩
 have hs0 : W0.heap.size = w.heap.size + 1 := by rw [← hW0]; simp
 rw [hW0] at ho hr
 have h0 := h.only ho
 have C1 := hid (pMadeR h0)
 obtain ⟨tv, pv, cv, lv, sv, h1, -, -, -, h5, h5s, h6, -⟩ := h0
 have c11 := cell_blk h1 11
 have c12 := cell_blk h1 12
 have c13 := cell_blk h1 13
 simp only [List.getElem?_toArray, List.getElem?_cons_zero, List.getElem?_cons_succ] at c11 c12 c13
 have C2 := hid (pFrClone lv sv p.locals [] p.fresh W0 h5 h5s (by omega) (by simp))
 have HR := hid hr
 have HO := hid ho
 have HW0 := hid hW0
 have HS := hid hs0
 clear h h1 h5 h5s h6 hr ho hW0 hs0
 go_enter Tryz.func11, Tryz.ntmps11
 go_wp2_with (fail)
 rw [HW0.out]
 refine C1.out.mono ?_
 rintro e w1 ⟨rfl, hww⟩
 subst hww
 go_wp2_with (fail)
 refine C2.out.mono ?_
 rintro e w2 ⟨lv', sv', m, rfl, h7, h8, h9, h10, ho2⟩
 obtain ⟨al, cl, rfl, -⟩ := slice_of_owns h7
 obtain ⟨ax, cx, rfl, -⟩ := slice_of_owns h8
 have hr2 := ho2.heap HR.out (fun h => h)
 obtain ⟨y0, y1, y2⟩ := cells3 hr2
 obtain ⟨m0, m1, m2⟩ := marks3 hr2
 have HR2 := hid hr2
 have H7 := hid h7
 have H8 := hid h8
 have H9 := hid h9
 have H10 := hid h10
 have HO2 := hid ho2
 clear hr2 h7 h8 h9 h10 ho2 c11 c12 c13
 unfold valFr
 go_wp2
 have hs := HS.out
 have hos : Only (fun k => k < W0.heap.size) w2 (((w2.setCell ⟨w.heap.size, 0, none⟩ (.slice al p.locals.length cl)).setCell ⟨w.heap.size, 1, none⟩ (.slice ax 0 cx)).setCell ⟨w.heap.size, 2, none⟩ (.bool p.fresh)) := only3 (Only.refl _ _) (fun _ => by omega)
 refine bodyPost_ret (frame_alone (b := w.heap.size) Tryz.results11 (store3 HR2.out) rfl) rfl ⟨_, _, m, rfl, ?_, ?_, by have := H9.out; omega, H10.out, ?_⟩
 ·exact World.ownsRow.mono (H7.out.only hos (fun k hk hG => by have := (H7.out.ge k hk).1; omega)) (by omega)
 ·exact H8.out.only hos (fun k hk hG => by have := (H8.out.ge k hk).1; have := H9.out; omega)
 ·exact only3 (HO.out.trans HO2.out (fun _ h _ => h)) (fun hl => absurd hl (by omega))
end
end Go.Proofs.YtinbelghhfodiaaGreatDoor

namespace Go.Proofs.YtinbelghhfodiaaGreatDoor
set_option maxHeartbeats 16000000
open Lib (hid)
open Go.RowKit
set_option linter.unusedVariables false
set_option linter.unusedSimpArgs false
theorem pNamesT (t : TypeV) (w : World) : Calls Tryz.prog 55 #[valT t] w fun e w' => e = .returned (.bool (namesT t)) ∧ Only (fun _ => False) w w' := by
 obtain ⟨k, nm, d, el, a⟩ := t
 have ho := (Only.refl (fun _ => False) w).alloc (.cells #[.int .i64 k, .string nm, .int .i64 d, .int .i64 el, .int .i64 a] 33)
 have HO := hid ho
 have h45 : ((4 : Int) == 5) = false := rfl
 clear ho
 by_cases h4 : k = 4
 ·have hz : namesT ⟨k, nm, d, el, a⟩ = true := by simp [namesT, h4]
  rw [hz]
  subst h4
  show Calls Tryz.prog 55 #[.agg #[.int .i64 4, .string nm, .int .i64 d, .int .i64 el, .int .i64 a]] w _
  go_enter Tryz.func55, Tryz.ntmps55
  go_wp2
  go_ret
  exact ⟨rfl, HO.out⟩
 ·by_cases h5 : k = 5
  ·have hz : namesT ⟨k, nm, d, el, a⟩ = (el == 4) := by simp [namesT, h5]
   rw [hz]
   subst h5
   show Calls Tryz.prog 55 #[.agg #[.int .i64 5, .string nm, .int .i64 d, .int .i64 el, .int .i64 a]] w _
   go_enter Tryz.func55, Tryz.ntmps55
   go_wp2
   go_ret
   exact ⟨rfl, HO.out⟩
  ·have hz : namesT ⟨k, nm, d, el, a⟩ = false := by simp [namesT, h4, h5]
   rw [hz]
   have e4 : (k == 4) = false := by simpa using h4
   have e5 : (k == 5) = false := by simpa using h5
   clear h4 h5
   show Calls Tryz.prog 55 #[.agg #[.int .i64 k, .string nm, .int .i64 d, .int .i64 el, .int .i64 a]] w _
   go_enter Tryz.func55, Tryz.ntmps55
   go_wp2
   go_ret
   exact ⟨rfl, HO.out⟩
theorem keepS6 {w0 W : World} {b xb : Nat} {v0 v1 v2 v3 v4 u0 : Value} (c0 : w0.cell? ⟨b, 0, none⟩ = some v0) (c1 : w0.cell? ⟨b, 1, none⟩ = some v1) (c2 : w0.cell? ⟨b, 2, none⟩ = some v2) (c3 : w0.cell? ⟨b, 3, none⟩ = some v3) (c4 : w0.cell? ⟨b, 4, none⟩ = some v4) (d0 : w0.cell? ⟨xb, 0, none⟩ = some u0) (h : Only (fun _ => False) w0 W) :
  W.cell? ⟨b, 0, none⟩ = some v0 ∧ W.cell? ⟨b, 1, none⟩ = some v1 ∧ W.cell? ⟨b, 2, none⟩ = some v2 ∧ W.cell? ⟨b, 3, none⟩ = some v3 ∧ W.cell? ⟨b, 4, none⟩ = some v4 ∧ W.cell? ⟨xb, 0, none⟩ = some u0 ∧ Only (fun _ => False) w0 W :=
 ⟨h.cell c0 (fun h => h), h.cell c1 (fun h => h), h.cell c2 (fun h => h), h.cell c3 (fun h => h), h.cell c4 (fun h => h), h.cell d0 (fun h => h), h⟩
section
variable {w : World} {xb pb : Nat} {ks : List KindV} {p : PlcV} (h : PlaceP w xb pb ks p) {G : Nat → Prop} {fv : Nat → Value} {cl : Nat → ClassV} {sl : Nat → Nat → Int} (hp : ProgG G fv w pb ks cl sl) (hn : 0 < ks.length) (n : Int)
include h hp hn
set_option maxRecDepth 100000 in
theorem pTypeAt : Calls Tryz.prog 23 #[.pointer (some ⟨xb, 0, none⟩), .int .i64 n] w fun e w' => e = .returned (.tuple #[valT (typO (typeAtZ ks p.pool n)), .bool (typeAtZ ks p.pool n).isSome]) ∧ Only (fun _ => False) w w' := by
 have ho := (Only.refl (fun _ => False) w).alloc (.cells #[.int .i64 0, .string ⟨#[]⟩, .int .i64 0, .int .i64 0, .int .i64 0] 33)
 have hr := heap_alloc_new w (.cells #[.int .i64 0, .string ⟨#[]⟩, .int .i64 0, .int .i64 0, .int .i64 0] 33)
 obtain ⟨W0, hW0⟩ : ∃ W0, w.alloc (.cells #[.int .i64 0, .string ⟨#[]⟩, .int .i64 0, .int .i64 0, .int .i64 0] 33) = W0 := ⟨_, rfl⟩
 have hs0 : W0.heap.size = w.heap.size + 1 := by rw [← hW0]; simp
 rw [hW0] at ho hr
 obtain ⟨tv, pv, cv, lv, sv, h1, -, h3, -, -, -, -, h8⟩ := h.only ho
 have z0 := cell_blk h1 0
 have z3 := cell_blk h1 3
 simp only [List.getElem?_toArray, List.getElem?_cons_zero, List.getElem?_cons_succ] at z0 z3
 have C1 := hid (progClass pv p.pool n W0 h3)
 obtain ⟨ap, cp, rfl, -⟩ := id h3
 have hcs := class256 h8 n
 have C2 := hid (fun W => progMType (classZ p.pool n).1 W (by omega))
 have HC := hid hcs
 have HP := hid (hp.only ho)
 have HZ0 := hid z0
 have HR0 := hid hr
 have HO0 := hid ho
 rw [← hW0] at z3
 have HW0 := hid hW0
 have HS := hid hs0
 have HTY := hid (show typeAtZ ks p.pool n = typeAtZ ks p.pool n from rfl)
 clear h hp h1 h3 h8 hr ho hW0 hs0 hcs z0
 go_enter Tryz.func23, Tryz.ntmps23
 go_wp2_with (fail)
 rw [HW0.out]
 refine C1.out.mono ?_
 rintro e w1 ⟨rfl, ho1⟩
 have HO1 := hid ho1
 clear ho1 z3
 cases hty : typeN (classZ p.pool n).1 with
 | none =>
  have HZ := hid (typeAt_none (ks := ks) hty)
  have C2w := hid (C2.out w1)
  unfold TypeTo at C2w
  rw [hty] at C2w
  clear hty C2
  go_wp2_with (fail)
  refine C2w.out.mono ?_
  rintro e w2 ⟨rfl, ho2⟩
  obtain ⟨k, nm, d, el, a, hk⟩ : ∃ k nm d el a, typO none = ⟨k, nm, d, el, a⟩ := ⟨_, _, _, _, _, rfl⟩
  rw [hk]
  unfold valT
  simp only [Option.isSome_none]
  clear hk
  obtain ⟨b8, hb8⟩ : ∃ x, w2.heap.size = x := ⟨_, rfl⟩
  have hrt := heap_alloc_new w2 (.cells #[.int .i64 k, .string nm, .int .i64 d, .int .i64 el, .int .i64 a] 33)
  have hob := HO1.out.trans (ho2.alloc (.cells #[.int .i64 k, .string nm, .int .i64 d, .int .i64 el, .int .i64 a] 33)) (fun _ h _ => h)
  go_upto_region 3 with fail
  obtain ⟨wb, hwb⟩ : ∃ x, w2.alloc (.cells #[.int .i64 k, .string nm, .int .i64 d, .int .i64 el, .int .i64 a] 33) = x := ⟨_, rfl⟩
  rw [hwb] at hrt hob ⊢
  rw [hb8] at hrt
  clear hwb hb8 ho2
  obtain ⟨y0, y1, y2, y3, y4⟩ := cells5T hrt
  have z0 := hob.cell HZ0.out (fun h => h)
  have HT := hid hrt
  have HOB := hid (HO0.out.trans hob (fun _ h _ => h))
  have HR := hid (hob.heap HR0.out (fun h => h))
  have HPB := hid (HP.out.only hob)
  clear hrt hob
  refine wp_region_held_drew (S := fun W => W.cell? ⟨b8, 0, none⟩ = some (.int .i64 k) ∧ W.cell? ⟨b8, 1, none⟩ = some (.string nm) ∧ W.cell? ⟨b8, 2, none⟩ = some (.int .i64 d) ∧ W.cell? ⟨b8, 3, none⟩ = some (.int .i64 el) ∧ W.cell? ⟨b8, 4, none⟩ = some (.int .i64 a) ∧ W.cell? ⟨xb, 0, none⟩ = some (.pointer (some ⟨pb, 0, none⟩)) ∧ Only (fun _ => False) wb W) (by kernel_rfl) (keepS6 y0 y1 y2 y3 y4 z0 (Only.refl _ wb).drew) (fun hHeld => ?_)
  refine tk2 0 (h := ?_)
  refine tk2 1 (h := ?_)
  refine tk2 2 (h := ?_)
  refine tk3 3 (h := ?_)
  refine tk3 4 (h := ?_)
  refine tk3 5 (h := ?_)
  refine tk3 6 (h := ?_)
  refine tk3 7 (h := ?_)
  refine tk3 8 (h := ?_)
  refine tk3 9 (h := ?_)
  refine tk3 10 (h := ?_)
  refine tk3 11 (h := ?_)
  refine tk3 12 (h := ?_)
  refine tk3 13 (h := ?_)
  refine tk3 14 (h := ?_)
  refine tk2 15 (h := ?_)
  refine wpAnyH_done (by kernel_rfl) ?_ _
  obtain ⟨wz, hwz⟩ : ∃ x, wb.drew = x := ⟨_, rfl⟩
  rw [hwz] at hHeld ⊢
  clear hwz
  have hr5 := (hHeld.2.2.2.2.2.2).heap HR.out (fun h => h)
  obtain ⟨q0, q1, q2, q3, q4⟩ := cells5T hr5
  obtain ⟨m0, m1, m2, m3, m4⟩ := marks5T hr5
  obtain ⟨x0, x1, x2, x3, x4⟩ := cells5T ((hHeld.2.2.2.2.2.2).heap HT.out (fun h => h))
  have HR5 := hid hr5
  have HO5 := hid (HOB.out.trans (hHeld.2.2.2.2.2.2) (fun _ h _ => h))
  clear hr5 hHeld y0 y1 y2 y3 y4 z0
  go_wp2
  refine bodyPost_ret (type_result2 (t := zeroT) (b := w.heap.size) Tryz.results23 (store5T HR5.out) rfl rfl) rfl ⟨by rw [HZ.out]; rfl, only5T HO5.out (fun hl => absurd hl (Nat.lt_irrefl _))⟩
 | some t =>
  obtain ⟨k, nm, d, el, a⟩ := t
  have HZT := hid (typeAt_some (ks := ks) hty)
  have hnm := (typeN_names hty).2
  simp only at hnm
  have C2w := hid (C2.out w1)
  unfold TypeTo at C2w
  rw [hty] at C2w
  clear hty C2
  go_wp2_with (fail)
  refine C2w.out.mono ?_
  rintro e w2 ⟨rfl, ho2⟩
  unfold typO valT
  simp only [Option.isSome_some]
  obtain ⟨b8, hb8⟩ : ∃ x, w2.heap.size = x := ⟨_, rfl⟩
  have hrt := heap_alloc_new w2 (.cells #[.int .i64 k, .string nm, .int .i64 d, .int .i64 el, .int .i64 a] 33)
  have hob := HO1.out.trans (ho2.alloc (.cells #[.int .i64 k, .string nm, .int .i64 d, .int .i64 el, .int .i64 a] 33)) (fun _ h _ => h)
  go_upto_region 3 with fail
  obtain ⟨wb, hwb⟩ : ∃ x, w2.alloc (.cells #[.int .i64 k, .string nm, .int .i64 d, .int .i64 el, .int .i64 a] 33) = x := ⟨_, rfl⟩
  rw [hwb] at hrt hob ⊢
  rw [hb8] at hrt
  clear hwb hb8 ho2
  obtain ⟨y0, y1, y2, y3, y4⟩ := cells5T hrt
  have z0 := hob.cell HZ0.out (fun h => h)
  have HT := hid hrt
  have HOB := hid (HO0.out.trans hob (fun _ h _ => h))
  have HR := hid (hob.heap HR0.out (fun h => h))
  have HPB := hid (HP.out.only hob)
  clear hrt hob
  have CN := hid (fun W => pNamesT ⟨k, nm, d, el, a⟩ W)
  have CF := hid (fun W (hW : Only (fun _ => False) wb W) => pFind (HPB.out.only hW) hn nm (by have := HC.out; unfold maxLen; omega))
  unfold valT at CN
  simp only at CN
  obtain ⟨bn, hbn⟩ : ∃ x, namesT ⟨k, nm, d, el, a⟩ = x := ⟨_, rfl⟩
  have HNM := hid hbn
  rw [hbn] at HZT CN
  clear hbn hnm
  cases bn
  ·have HZ := hid (show typeAtZ ks p.pool n = some ⟨k, nm, d, el, a⟩ by rw [HZT.out, if_neg (by simp)])
   refine wp_region_held_drew (S := fun W => W.cell? ⟨b8, 0, none⟩ = some (.int .i64 k) ∧ W.cell? ⟨b8, 1, none⟩ = some (.string nm) ∧ W.cell? ⟨b8, 2, none⟩ = some (.int .i64 d) ∧ W.cell? ⟨b8, 3, none⟩ = some (.int .i64 el) ∧ W.cell? ⟨b8, 4, none⟩ = some (.int .i64 a) ∧ W.cell? ⟨xb, 0, none⟩ = some (.pointer (some ⟨pb, 0, none⟩)) ∧ Only (fun _ => False) wb W) (by kernel_rfl) (keepS6 y0 y1 y2 y3 y4 z0 (Only.refl _ wb).drew) (fun hHeld => ?_)
   refine tk2 0 (h := ?_)
   refine tk2 1 (h := ?_)
   refine tk2 2 (h := ?_)
   refine tk2 3 (h := ?_)
   refine tkR 4 (h := fun K hK => ?_)
   go_simp
   (refine (CN.out _).mono ?_; rintro e3 w3 ⟨rfl, ho3⟩; have HA := hid ((Only.refl (fun _ => False) wb).drew.trans ho3 (fun _ h _ => h)); clear ho3)
   go_wp2_with fail
   refine hK.out _ _ ?_ (fun hHeld2 => ?_)
   ·exact keepS6 y0 y1 y2 y3 y4 z0 HA.out
   clear hK K
   try simp only [Act.put, sIB, sC0, sCS]
   clear hHeld
   have hHeld := hHeld2
   clear hHeld2
   refine tk2 5 (h := ?_)
   refine tk3 6 (h := ?_)
   refine tk3 7 (h := ?_)
   refine tk3 8 (h := ?_)
   refine tk3 9 (h := ?_)
   refine tk3 10 (h := ?_)
   refine tk3 11 (h := ?_)
   refine tk3 12 (h := ?_)
   refine tk3 13 (h := ?_)
   refine tk2 14 (h := ?_)
   refine tk2 15 (h := ?_)
   refine wpAnyH_done (by kernel_rfl) ?_ _
   have hr5 := (hHeld.2.2.2.2.2.2).heap HR.out (fun h => h)
   obtain ⟨q0, q1, q2, q3, q4⟩ := cells5T hr5
   obtain ⟨m0, m1, m2, m3, m4⟩ := marks5T hr5
   obtain ⟨x0, x1, x2, x3, x4⟩ := cells5T ((hHeld.2.2.2.2.2.2).heap HT.out (fun h => h))
   have HR5 := hid hr5
   have HO5 := hid (HOB.out.trans (hHeld.2.2.2.2.2.2) (fun _ h _ => h))
   clear hr5 hHeld y0 y1 y2 y3 y4 z0
   go_wp2
   refine bodyPost_ret (type_result2 (t := ⟨k, nm, d, el, a⟩) (b := w.heap.size) Tryz.results23 (store5T HR5.out) rfl rfl) rfl ⟨by rw [HZ.out]; rfl, only5T HO5.out (fun hl => absurd hl (Nat.lt_irrefl _))⟩
  ·by_cases hf : findZ ks nm < 0
   ·have HZ := hid (show typeAtZ ks p.pool n = none by rw [HZT.out, if_pos ⟨rfl, hf⟩])
    have hfd : decide (findZ ks nm < 0) = true := decide_eq_true hf
    refine wp_region_held_drew (S := fun W => W.cell? ⟨b8, 0, none⟩ = some (.int .i64 k) ∧ W.cell? ⟨b8, 1, none⟩ = some (.string nm) ∧ W.cell? ⟨b8, 2, none⟩ = some (.int .i64 d) ∧ W.cell? ⟨b8, 3, none⟩ = some (.int .i64 el) ∧ W.cell? ⟨b8, 4, none⟩ = some (.int .i64 a) ∧ W.cell? ⟨xb, 0, none⟩ = some (.pointer (some ⟨pb, 0, none⟩)) ∧ Only (fun _ => False) wb W) (by kernel_rfl) (keepS6 y0 y1 y2 y3 y4 z0 (Only.refl _ wb).drew) (fun hHeld => ?_)
    refine tk2 0 (h := ?_)
    refine tk2 1 (h := ?_)
    refine tk2 2 (h := ?_)
    refine tk2 3 (h := ?_)
    refine tkR 4 (h := fun K hK => ?_)
    go_simp
    (refine (CN.out _).mono ?_; rintro e3 w3 ⟨rfl, ho3⟩; have HA := hid ((Only.refl (fun _ => False) wb).drew.trans ho3 (fun _ h _ => h)); clear ho3)
    go_wp2_with fail
    refine hK.out _ _ ?_ (fun hHeld2 => ?_)
    ·exact keepS6 y0 y1 y2 y3 y4 z0 HA.out
    clear hK K
    try simp only [Act.put, sIB, sC0, sCS]
    clear hHeld
    have hHeld := hHeld2
    clear hHeld2
    refine tk2 5 (h := ?_)
    refine tk2 6 (h := ?_)
    refine tk2 7 (h := ?_)
    refine tk2 8 (h := ?_)
    refine tk2 9 (h := ?_)
    refine tk2 10 (h := ?_)
    refine tk2 11 (h := ?_)
    refine tkR 12 (h := fun K hK => ?_)
    go_simp
    (refine (CF.out _ HA.out).mono ?_; rintro e4 w4 ⟨rfl, hww⟩; subst hww; have HB := hid HA.out)
    go_wp2_with fail
    refine hK.out _ _ ?_ (fun hHeld2 => ?_)
    ·exact keepS6 y0 y1 y2 y3 y4 z0 HB.out
    clear hK K
    try simp only [Act.put, sIB, sC0, sCS]
    clear hHeld
    have hHeld := hHeld2
    clear hHeld2
    refine tk2 13 (h := ?_)
    refine tk2 14 (h := ?_)
    refine tk2 15 (h := ?_)
    refine wpAnyH_done (by kernel_rfl) ?_ _
    have hr5 := (hHeld.2.2.2.2.2.2).heap HR.out (fun h => h)
    obtain ⟨q0, q1, q2, q3, q4⟩ := cells5T hr5
    obtain ⟨m0, m1, m2, m3, m4⟩ := marks5T hr5
    obtain ⟨x0, x1, x2, x3, x4⟩ := cells5T ((hHeld.2.2.2.2.2.2).heap HT.out (fun h => h))
    have HR5 := hid hr5
    have HO5 := hid (HOB.out.trans (hHeld.2.2.2.2.2.2) (fun _ h _ => h))
    clear hr5 hHeld y0 y1 y2 y3 y4 z0
    go_wp2
    refine bodyPost_ret (type_result2 (t := zeroT) (b := w.heap.size) Tryz.results23 (store5T HR5.out) rfl rfl) rfl ⟨by rw [HZ.out]; rfl, only5T HO5.out (fun hl => absurd hl (Nat.lt_irrefl _))⟩
   ·have HZ := hid (show typeAtZ ks p.pool n = some ⟨k, nm, d, el, a⟩ by rw [HZT.out, if_neg (fun h => hf h.2)])
    have hfd : decide (findZ ks nm < 0) = false := decide_eq_false hf
    refine wp_region_held_drew (S := fun W => W.cell? ⟨b8, 0, none⟩ = some (.int .i64 k) ∧ W.cell? ⟨b8, 1, none⟩ = some (.string nm) ∧ W.cell? ⟨b8, 2, none⟩ = some (.int .i64 d) ∧ W.cell? ⟨b8, 3, none⟩ = some (.int .i64 el) ∧ W.cell? ⟨b8, 4, none⟩ = some (.int .i64 a) ∧ W.cell? ⟨xb, 0, none⟩ = some (.pointer (some ⟨pb, 0, none⟩)) ∧ Only (fun _ => False) wb W) (by kernel_rfl) (keepS6 y0 y1 y2 y3 y4 z0 (Only.refl _ wb).drew) (fun hHeld => ?_)
    refine tk2 0 (h := ?_)
    refine tk2 1 (h := ?_)
    refine tk2 2 (h := ?_)
    refine tk2 3 (h := ?_)
    refine tkR 4 (h := fun K hK => ?_)
    go_simp
    (refine (CN.out _).mono ?_; rintro e3 w3 ⟨rfl, ho3⟩; have HA := hid ((Only.refl (fun _ => False) wb).drew.trans ho3 (fun _ h _ => h)); clear ho3)
    go_wp2_with fail
    refine hK.out _ _ ?_ (fun hHeld2 => ?_)
    ·exact keepS6 y0 y1 y2 y3 y4 z0 HA.out
    clear hK K
    try simp only [Act.put, sIB, sC0, sCS]
    clear hHeld
    have hHeld := hHeld2
    clear hHeld2
    refine tk2 5 (h := ?_)
    refine tk2 6 (h := ?_)
    refine tk2 7 (h := ?_)
    refine tk2 8 (h := ?_)
    refine tk2 9 (h := ?_)
    refine tk2 10 (h := ?_)
    refine tk2 11 (h := ?_)
    refine tkR 12 (h := fun K hK => ?_)
    go_simp
    (refine (CF.out _ HA.out).mono ?_; rintro e4 w4 ⟨rfl, hww⟩; subst hww; have HB := hid HA.out)
    go_wp2_with fail
    refine hK.out _ _ ?_ (fun hHeld2 => ?_)
    ·exact keepS6 y0 y1 y2 y3 y4 z0 HB.out
    clear hK K
    try simp only [Act.put, sIB, sC0, sCS]
    clear hHeld
    have hHeld := hHeld2
    clear hHeld2
    refine tk2 13 (h := ?_)
    refine tk2 14 (h := ?_)
    refine tk2 15 (h := ?_)
    refine wpAnyH_done (by kernel_rfl) ?_ _
    have hr5 := (hHeld.2.2.2.2.2.2).heap HR.out (fun h => h)
    obtain ⟨q0, q1, q2, q3, q4⟩ := cells5T hr5
    obtain ⟨m0, m1, m2, m3, m4⟩ := marks5T hr5
    obtain ⟨x0, x1, x2, x3, x4⟩ := cells5T ((hHeld.2.2.2.2.2.2).heap HT.out (fun h => h))
    have HR5 := hid hr5
    have HO5 := hid (HOB.out.trans (hHeld.2.2.2.2.2.2) (fun _ h _ => h))
    clear hr5 hHeld y0 y1 y2 y3 y4 z0
    go_wp2
    refine bodyPost_ret (type_result2 (t := ⟨k, nm, d, el, a⟩) (b := w.heap.size) Tryz.results23 (store5T HR5.out) rfl rfl) rfl ⟨by rw [HZ.out]; rfl, only5T HO5.out (fun hl => absurd hl (Nat.lt_irrefl _))⟩
end
end Go.Proofs.YtinbelghhfodiaaGreatDoor

namespace Go.Proofs.YtinbelghhfodiaaGreatDoor
set_option maxHeartbeats 8000000
open Lib (hid)
open Go.RowKit
set_option linter.unusedVariables false
set_option linter.unusedSimpArgs false
section
variable {w : World} {xb pb : Nat} {ks : List KindV} {p : PlcV} (h : PlaceP w xb pb ks p) {G : Nat → Prop} {fv : Nat → Value} {cl : Nat → ClassV} {sl : Nat → Nat → Int} (hp : ProgG G fv w pb ks cl sl) (hn : 0 < ks.length) (n : Int)
include h hp hn
set_option maxRecDepth 100000 in
theorem pType11 : Calls Tryz.prog 8 #[.pointer (some ⟨xb, 0, none⟩), .int .i64 n] w fun e w' => e = .returned (.tuple #[valT (typO (typeAtZ ks p.pool n)), .int .i64 (if (typeAtZ ks p.pool n).isSome then 0 else 91)]) ∧ Only (fun _ => False) w w' := by
 have ho := (Only.refl (fun _ => False) w).alloc (.cells #[.int .i64 0, .string ⟨#[]⟩, .int .i64 0, .int .i64 0, .int .i64 0] 33)
 have hr := heap_alloc_new w (.cells #[.int .i64 0, .string ⟨#[]⟩, .int .i64 0, .int .i64 0, .int .i64 0] 33)
 obtain ⟨W0, hW0⟩ : ∃ W0, w.alloc (.cells #[.int .i64 0, .string ⟨#[]⟩, .int .i64 0, .int .i64 0, .int .i64 0] 33) = W0 := ⟨_, rfl⟩
 rw [hW0] at ho hr
 have C1 := hid (pMadeR (h.only ho))
 have C2 := hid (pTypeAt (h.only ho) (hp.only ho) hn n)
 have HR := hid hr
 have HO := hid ho
 have HW0 := hid hW0
 clear h hp hr ho hW0
 cases hty : typeAtZ ks p.pool n with
 | none =>
  rw [hty] at C2
  go_enter Tryz.func8, Tryz.ntmps8
  go_wp2_with (fail)
  rw [HW0.out]
  refine C1.out.mono ?_
  rintro e w1 ⟨rfl, hww⟩
  subst hww
  go_wp2_with (fail)
  refine C2.out.mono ?_
  rintro e w2 ⟨rfl, ho2⟩
  unfold typO valT zeroT
  simp only [Option.isSome_none]
  have hr2 := (ho2.alloc (.cells #[.int .i64 0, .string ⟨#[]⟩, .int .i64 0, .int .i64 0, .int .i64 0] 33)).heap HR.out (fun h => h)
  obtain ⟨y0, y1, y2, y3, y4⟩ := cells5T hr2
  obtain ⟨m0, m1, m2, m3, m4⟩ := marks5T hr2
  have HR2 := hid hr2
  have HO2 := hid (HO.out.trans (ho2.alloc (.cells #[.int .i64 0, .string ⟨#[]⟩, .int .i64 0, .int .i64 0, .int .i64 0] 33)) (fun _ h _ => h))
  go_upto_region 4 with fail
  obtain ⟨wb, hwb⟩ : ∃ x, w2.alloc (.cells #[.int .i64 0, .string ⟨#[]⟩, .int .i64 0, .int .i64 0, .int .i64 0] 33) = x := ⟨_, rfl⟩
  rw [hwb] at y0 y1 y2 y3 y4 m0 m1 m2 m3 m4 HR2 HO2 ⊢
  clear hr2 ho2 hwb
  go_wp2
  refine bodyPost_ret (type_result2 (t := zeroT) (b := w.heap.size) Tryz.results8 (store5T HR2.out) rfl rfl) rfl ⟨rfl, only5T HO2.out (fun hl => absurd hl (Nat.lt_irrefl _))⟩
 | some t =>
  obtain ⟨k, nm, d, el, a⟩ := t
  rw [hty] at C2
  go_enter Tryz.func8, Tryz.ntmps8
  go_wp2_with (fail)
  rw [HW0.out]
  refine C1.out.mono ?_
  rintro e w1 ⟨rfl, hww⟩
  subst hww
  go_wp2_with (fail)
  refine C2.out.mono ?_
  rintro e w2 ⟨rfl, ho2⟩
  unfold typO valT
  simp only [Option.isSome_some]
  have hrt := heap_alloc_new w2 (.cells #[.int .i64 k, .string nm, .int .i64 d, .int .i64 el, .int .i64 a] 33)
  have hr2 := (ho2.alloc (.cells #[.int .i64 k, .string nm, .int .i64 d, .int .i64 el, .int .i64 a] 33)).heap HR.out (fun h => h)
  obtain ⟨y0, y1, y2, y3, y4⟩ := cells5T hr2
  obtain ⟨m0, m1, m2, m3, m4⟩ := marks5T hr2
  obtain ⟨x0, x1, x2, x3, x4⟩ := cells5T hrt
  have HR2 := hid hr2
  have HO2 := hid (HO.out.trans (ho2.alloc (.cells #[.int .i64 k, .string nm, .int .i64 d, .int .i64 el, .int .i64 a] 33)) (fun _ h _ => h))
  go_upto_region 4 with fail
  obtain ⟨wb, hwb⟩ : ∃ x, w2.alloc (.cells #[.int .i64 k, .string nm, .int .i64 d, .int .i64 el, .int .i64 a] 33) = x := ⟨_, rfl⟩
  rw [hwb] at x0 x1 x2 x3 x4 y0 y1 y2 y3 y4 m0 m1 m2 m3 m4 HR2 HO2 ⊢
  clear hr2 ho2 hwb hrt
  go_wp2
  refine bodyPost_ret (type_result2 (t := ⟨k, nm, d, el, a⟩) (b := w.heap.size) Tryz.results8 (store5T HR2.out) rfl rfl) rfl ⟨rfl, only5T HO2.out (fun hl => absurd hl (Nat.lt_irrefl _))⟩
end
end Go.Proofs.YtinbelghhfodiaaGreatDoor

namespace Go.Proofs.YtinbelghhfodiaaGreatDoor
set_option maxHeartbeats 16000000
open Lib (hid)
open Go.RowKit
set_option linter.unusedVariables false
set_option linter.unusedSimpArgs false
theorem nil_bytes : (⟨#[]⟩ : ByteArray).toList = [] := by rw [ByteArray.toList_eq]
theorem classZ_no {cs : List ConstV} {n : Int} (h : (classZ cs n).2 = false) : (classZ cs n).1 = noT := by
 rw [classZ_at] at h ⊢
 split at h
 ·rename_i h7
  rw [if_pos h7, textZ_at] at *
  split at h
  ·cases h
  ·rename_i h1; rw [if_neg h1]
 ·rename_i h7; rw [if_neg h7]
theorem typeAt_not {ks : List KindV} {cs : List ConstV} {n : Int} (h : (classZ cs n).2 = false) : typeAtZ ks cs n = none := typeAt_none (by rw [classZ_no h]; exact typeN_none)
section
variable {w : World} {yb qb : Nat} {ks : List KindV} {cs : List ClassV} {p : RPlcV} (h : RPlaceP w yb qb ks p) (hd : DocP w qb ks cs) (hn : ks.length ≤ 64) (n : Int)
include h hd hn
set_option maxRecDepth 100000 in
theorem rType11 : Calls Tryz.prog 9 #[.pointer (some ⟨yb, 0, none⟩), .int .i64 n] w fun e w' => e = .returned (.tuple #[valT (typO (typeAtZ ks p.pool n)), .int .i64 (if (typeAtZ ks p.pool n).isSome then 0 else 91)]) ∧ Only (fun _ => False) w w' := by
 obtain ⟨er, her⟩ : ∃ x : Int, (if (typeAtZ ks p.pool n).isSome = true then (0 : Int) else 91) = x := ⟨_, rfl⟩
 rw [her]
 have HER := hid her
 clear her
 have ho := (Only.refl (fun _ => False) w).alloc (.cells #[.int .i64 0, .string ⟨#[]⟩, .int .i64 0, .int .i64 0, .int .i64 0] 33)
 have hr := heap_alloc_new w (.cells #[.int .i64 0, .string ⟨#[]⟩, .int .i64 0, .int .i64 0, .int .i64 0] 33)
 obtain ⟨W0, hW0⟩ : ∃ W0, w.alloc (.cells #[.int .i64 0, .string ⟨#[]⟩, .int .i64 0, .int .i64 0, .int .i64 0] 33) = W0 := ⟨_, rfl⟩
 rw [hW0] at ho hr
 obtain ⟨vc, vt, vm, pv, tv, sv, h1, h3, -, -, -, -, -, h8, -⟩ := h.only ho
 have z0 := cell_blk h1 0
 have z11 := cell_blk h1 11
 simp only [List.getElem?_toArray, List.getElem?_cons_zero, List.getElem?_cons_succ] at z0 z11
 have C1 := hid (refClass pv p.pool n W0 h3)
 obtain ⟨ap, cp, rfl, -⟩ := id h3
 have hcs := class256 h8 n
 have C2 := hid (fun W => refMType (classZ p.pool n).1 W (by omega))
 have HP := hid (hd.only ho)
 have HZ0 := hid z0
 have HR0 := hid hr
 have HO0 := hid ho
 rw [← hW0] at z11
 have HW0 := hid hW0
 clear h hd h1 h3 h8 hr ho hW0 hcs z0
 obtain ⟨ok, hok⟩ : ∃ x, (classZ p.pool n).2 = x := ⟨_, rfl⟩
 rw [hok] at C1
 cases ok
 ·have HZ := hid (typeAt_not (ks := ks) hok)
  obtain ⟨q0, q1, q2, q3, q4⟩ := cells5T HR0.out
  obtain ⟨m0, m1, m2, m3, m4⟩ := marks5T HR0.out
  clear hok C2
  go_enter Tryz.func9, Tryz.ntmps9
  go_wp2_with (fail)
  rw [HW0.out]
  refine C1.out.mono ?_
  rintro e w1 ⟨rfl, hww⟩
  subst hww
  clear z11
  go_wp2
  refine bodyPost_ret (type_result2 (t := zeroT) (b := w.heap.size) Tryz.results9 (store5T HR0.out) rfl rfl) rfl ⟨by rw [← HER.out, HZ.out]; rfl, only5T HO0.out (fun hl => absurd hl (Nat.lt_irrefl _))⟩
 ·clear hok
  go_enter Tryz.func9, Tryz.ntmps9
  go_wp2_with (fail)
  rw [HW0.out]
  refine C1.out.mono ?_
  rintro e w1 ⟨rfl, hww⟩
  subst hww
  clear z11
  cases hty : typeN (classZ p.pool n).1 with
  | none =>
   have HZ := hid (typeAt_none (ks := ks) hty)
   have C2w := hid (C2.out W0)
   unfold TypeTo at C2w
   rw [hty] at C2w
   clear hty C2
   go_wp2_with (fail)
   refine C2w.out.mono ?_
   rintro e w2 ⟨rfl, ho2⟩
   obtain ⟨k, nm, d, el, a, hk⟩ : ∃ k nm d el a, typO none = ⟨k, nm, d, el, a⟩ := ⟨_, _, _, _, _, rfl⟩
   rw [hk]
   unfold valT
   simp only [Option.isSome_none]
   clear hk
   obtain ⟨b8, hb8⟩ : ∃ x, w2.heap.size = x := ⟨_, rfl⟩
   have hrt := heap_alloc_new w2 (.cells #[.int .i64 k, .string nm, .int .i64 d, .int .i64 el, .int .i64 a] 33)
   have hob := ho2.alloc (.cells #[.int .i64 k, .string nm, .int .i64 d, .int .i64 el, .int .i64 a] 33)
   go_upto_region 5 with fail
   obtain ⟨wb, hwb⟩ : ∃ x, w2.alloc (.cells #[.int .i64 k, .string nm, .int .i64 d, .int .i64 el, .int .i64 a] 33) = x := ⟨_, rfl⟩
   rw [hwb] at hrt hob ⊢
   rw [hb8] at hrt
   clear hwb hb8 ho2
   obtain ⟨y0, y1, y2, y3, y4⟩ := cells5T hrt
   have z0 := hob.cell HZ0.out (fun h => h)
   have HT := hid hrt
   have HOB := hid (HO0.out.trans hob (fun _ h _ => h))
   have HR := hid (hob.heap HR0.out (fun h => h))
   have HPB := hid (HP.out.only hob)
   clear hrt hob
   refine wp_region_held_drew (S := fun W => W.cell? ⟨b8, 0, none⟩ = some (.int .i64 k) ∧ W.cell? ⟨b8, 1, none⟩ = some (.string nm) ∧ W.cell? ⟨b8, 2, none⟩ = some (.int .i64 d) ∧ W.cell? ⟨b8, 3, none⟩ = some (.int .i64 el) ∧ W.cell? ⟨b8, 4, none⟩ = some (.int .i64 a) ∧ W.cell? ⟨yb, 0, none⟩ = some (.pointer (some ⟨qb, 0, none⟩)) ∧ Only (fun _ => False) wb W) (by kernel_rfl) (keepS6 y0 y1 y2 y3 y4 z0 (Only.refl _ wb).drew) (fun hHeld => ?_)
   refine tk2 0 (h := ?_)
   refine tk2 1 (h := ?_)
   refine tk2 2 (h := ?_)
   refine tk3 3 (h := ?_)
   refine tk3 4 (h := ?_)
   refine tk3 5 (h := ?_)
   refine tk3 6 (h := ?_)
   refine tk3 7 (h := ?_)
   refine tk3 8 (h := ?_)
   refine tk3 9 (h := ?_)
   refine tk3 10 (h := ?_)
   refine tk3 11 (h := ?_)
   refine tk3 12 (h := ?_)
   refine tk3 13 (h := ?_)
   refine tk3 14 (h := ?_)
   refine tk3 15 (h := ?_)
   refine tk2 16 (h := ?_)
   refine wpAnyH_done (by kernel_rfl) ?_ _
   obtain ⟨wz, hwz⟩ : ∃ x, wb.drew = x := ⟨_, rfl⟩
   rw [hwz] at hHeld ⊢
   clear hwz
   have hr5 := (hHeld.2.2.2.2.2.2).heap HR.out (fun h => h)
   obtain ⟨q0, q1, q2, q3, q4⟩ := cells5T hr5
   obtain ⟨m0, m1, m2, m3, m4⟩ := marks5T hr5
   obtain ⟨x0, x1, x2, x3, x4⟩ := cells5T ((hHeld.2.2.2.2.2.2).heap HT.out (fun h => h))
   have HR5 := hid hr5
   have HO5 := hid (HOB.out.trans (hHeld.2.2.2.2.2.2) (fun _ h _ => h))
   clear hr5 hHeld y0 y1 y2 y3 y4 z0
   go_wp2
   refine bodyPost_ret (type_result2 (t := zeroT) (b := w.heap.size) Tryz.results9 (store5T HR5.out) rfl rfl) rfl ⟨by rw [← HER.out, HZ.out]; rfl, only5T HO5.out (fun hl => absurd hl (Nat.lt_irrefl _))⟩
  | some t =>
   obtain ⟨k, nm, d, el, a⟩ := t
   have HZT := hid (typeAt_some (ks := ks) hty)
   have hnm := (typeN_names hty).1
   simp only at hnm
   have C2w := hid (C2.out W0)
   unfold TypeTo at C2w
   rw [hty] at C2w
   clear hty C2
   go_wp2_with (fail)
   refine C2w.out.mono ?_
   rintro e w2 ⟨rfl, ho2⟩
   unfold typO valT
   simp only [Option.isSome_some]
   obtain ⟨b8, hb8⟩ : ∃ x, w2.heap.size = x := ⟨_, rfl⟩
   have hrt := heap_alloc_new w2 (.cells #[.int .i64 k, .string nm, .int .i64 d, .int .i64 el, .int .i64 a] 33)
   have hob := ho2.alloc (.cells #[.int .i64 k, .string nm, .int .i64 d, .int .i64 el, .int .i64 a] 33)
   go_upto_region 5 with fail
   obtain ⟨wb, hwb⟩ : ∃ x, w2.alloc (.cells #[.int .i64 k, .string nm, .int .i64 d, .int .i64 el, .int .i64 a] 33) = x := ⟨_, rfl⟩
   rw [hwb] at hrt hob ⊢
   rw [hb8] at hrt
   clear hwb hb8 ho2
   obtain ⟨y0, y1, y2, y3, y4⟩ := cells5T hrt
   have z0 := hob.cell HZ0.out (fun h => h)
   have HT := hid hrt
   have HOB := hid (HO0.out.trans hob (fun _ h _ => h))
   have HR := hid (hob.heap HR0.out (fun h => h))
   have HPB := hid (HP.out.only hob)
   clear hrt hob
   have CF := hid (fun W (hW : Only (fun _ => False) wb W) => refFind qb ks cs nm W (HPB.out.only hW) (by omega))
   rw [hnm] at HZT
   by_cases he : nm = ⟨#[]⟩
   ·have HZ := hid (show typeAtZ ks p.pool n = some ⟨k, nm, d, el, a⟩ by rw [HZT.out, if_neg (by simp [he])])
    have hne : (nm.toList != []) = false := by rw [he, ByteArray.toList_eq]; rfl
    have hne2 : (nm.toList == []) = true := by rw [he, ByteArray.toList_eq]; rfl
    clear hnm he
    refine wp_region_held_drew (S := fun W => W.cell? ⟨b8, 0, none⟩ = some (.int .i64 k) ∧ W.cell? ⟨b8, 1, none⟩ = some (.string nm) ∧ W.cell? ⟨b8, 2, none⟩ = some (.int .i64 d) ∧ W.cell? ⟨b8, 3, none⟩ = some (.int .i64 el) ∧ W.cell? ⟨b8, 4, none⟩ = some (.int .i64 a) ∧ W.cell? ⟨yb, 0, none⟩ = some (.pointer (some ⟨qb, 0, none⟩)) ∧ Only (fun _ => False) wb W) (by kernel_rfl) (keepS6 y0 y1 y2 y3 y4 z0 (Only.refl _ wb).drew) (fun hHeld => ?_)
    refine tk2 0 (h := ?_)
    refine tk2 1 (h := ?_)
    refine tk2 2 (h := ?_)
    refine tk2 3 (h := ?_)
    refine tk2 4 (h := ?_)
    refine tk2 5 (h := ?_)
    refine tk2 6 (h := ?_)
    refine tk3 7 (h := ?_)
    refine tk3 8 (h := ?_)
    refine tk3 9 (h := ?_)
    refine tk3 10 (h := ?_)
    refine tk3 11 (h := ?_)
    refine tk3 12 (h := ?_)
    refine tk3 13 (h := ?_)
    refine tk3 14 (h := ?_)
    refine tk2 15 (h := ?_)
    refine tk2 16 (h := ?_)
    refine wpAnyH_done (by kernel_rfl) ?_ _
    obtain ⟨wz, hwz⟩ : ∃ x, wb.drew = x := ⟨_, rfl⟩
    rw [hwz] at hHeld ⊢
    clear hwz
    have hr5 := (hHeld.2.2.2.2.2.2).heap HR.out (fun h => h)
    obtain ⟨q0, q1, q2, q3, q4⟩ := cells5T hr5
    obtain ⟨m0, m1, m2, m3, m4⟩ := marks5T hr5
    obtain ⟨x0, x1, x2, x3, x4⟩ := cells5T ((hHeld.2.2.2.2.2.2).heap HT.out (fun h => h))
    have HR5 := hid hr5
    have HO5 := hid (HOB.out.trans (hHeld.2.2.2.2.2.2) (fun _ h _ => h))
    clear hr5 hHeld y0 y1 y2 y3 y4 z0
    go_wp2
    refine bodyPost_ret (type_result2 (t := ⟨k, nm, d, el, a⟩) (b := w.heap.size) Tryz.results9 (store5T HR5.out) rfl rfl) rfl ⟨by rw [← HER.out, HZ.out]; rfl, only5T HO5.out (fun hl => absurd hl (Nat.lt_irrefl _))⟩
   ·by_cases hf : findZ ks nm < 0
    ·have HZ := hid (show typeAtZ ks p.pool n = none by rw [HZT.out, if_pos ⟨by simp [he], hf⟩])
     have hfd : decide (findZ ks nm < 0) = true := decide_eq_true hf
     have hne2 : (nm.toList == []) = false := by rw [← nil_bytes]; rw [beq_bytes nm ⟨#[]⟩]; exact decide_eq_false he
     clear hnm he
     refine wp_region_held_drew (S := fun W => W.cell? ⟨b8, 0, none⟩ = some (.int .i64 k) ∧ W.cell? ⟨b8, 1, none⟩ = some (.string nm) ∧ W.cell? ⟨b8, 2, none⟩ = some (.int .i64 d) ∧ W.cell? ⟨b8, 3, none⟩ = some (.int .i64 el) ∧ W.cell? ⟨b8, 4, none⟩ = some (.int .i64 a) ∧ W.cell? ⟨yb, 0, none⟩ = some (.pointer (some ⟨qb, 0, none⟩)) ∧ Only (fun _ => False) wb W) (by kernel_rfl) (keepS6 y0 y1 y2 y3 y4 z0 (Only.refl _ wb).drew) (fun hHeld => ?_)
     refine tk2 0 (h := ?_)
     refine tk2 1 (h := ?_)
     refine tk2 2 (h := ?_)
     refine tk2 3 (h := ?_)
     refine tk2 4 (h := ?_)
     refine tk2 5 (h := ?_)
     refine tk2 6 (h := ?_)
     refine tk2 7 (h := ?_)
     refine tk2 8 (h := ?_)
     refine tk2 9 (h := ?_)
     refine tk2 10 (h := ?_)
     refine tk2 11 (h := ?_)
     refine tk2 12 (h := ?_)
     refine tkR 13 (h := fun K hK => ?_)
     go_simp
     (refine (CF.out _ (Only.refl (fun _ => False) wb).drew).mono ?_; rintro e4 w4 ⟨rfl, hww⟩; subst hww)
     go_wp2_with fail
     refine hK.out _ _ ?_ (fun hHeld2 => ?_)
     ·exact keepS6 y0 y1 y2 y3 y4 z0 (Only.refl _ wb).drew
     clear hK K
     try simp only [Act.put, sIB, sC0, sCS]
     clear hHeld
     have hHeld := hHeld2
     clear hHeld2
     refine tk2 14 (h := ?_)
     refine tk2 15 (h := ?_)
     refine tk2 16 (h := ?_)
     refine wpAnyH_done (by kernel_rfl) ?_ _
     obtain ⟨wz, hwz⟩ : ∃ x, wb.drew = x := ⟨_, rfl⟩
     rw [hwz] at hHeld ⊢
     clear hwz
     have hr5 := (hHeld.2.2.2.2.2.2).heap HR.out (fun h => h)
     obtain ⟨q0, q1, q2, q3, q4⟩ := cells5T hr5
     obtain ⟨m0, m1, m2, m3, m4⟩ := marks5T hr5
     obtain ⟨x0, x1, x2, x3, x4⟩ := cells5T ((hHeld.2.2.2.2.2.2).heap HT.out (fun h => h))
     have HR5 := hid hr5
     have HO5 := hid (HOB.out.trans (hHeld.2.2.2.2.2.2) (fun _ h _ => h))
     clear hr5 hHeld y0 y1 y2 y3 y4 z0
     go_wp2
     refine bodyPost_ret (type_result2 (t := zeroT) (b := w.heap.size) Tryz.results9 (store5T HR5.out) rfl rfl) rfl ⟨by rw [← HER.out, HZ.out]; rfl, only5T HO5.out (fun hl => absurd hl (Nat.lt_irrefl _))⟩
    ·have HZ := hid (show typeAtZ ks p.pool n = some ⟨k, nm, d, el, a⟩ by rw [HZT.out, if_neg (fun h => hf h.2)])
     have hfd : decide (findZ ks nm < 0) = false := decide_eq_false hf
     have hne2 : (nm.toList == []) = false := by rw [← nil_bytes]; rw [beq_bytes nm ⟨#[]⟩]; exact decide_eq_false he
     clear hnm he
     refine wp_region_held_drew (S := fun W => W.cell? ⟨b8, 0, none⟩ = some (.int .i64 k) ∧ W.cell? ⟨b8, 1, none⟩ = some (.string nm) ∧ W.cell? ⟨b8, 2, none⟩ = some (.int .i64 d) ∧ W.cell? ⟨b8, 3, none⟩ = some (.int .i64 el) ∧ W.cell? ⟨b8, 4, none⟩ = some (.int .i64 a) ∧ W.cell? ⟨yb, 0, none⟩ = some (.pointer (some ⟨qb, 0, none⟩)) ∧ Only (fun _ => False) wb W) (by kernel_rfl) (keepS6 y0 y1 y2 y3 y4 z0 (Only.refl _ wb).drew) (fun hHeld => ?_)
     refine tk2 0 (h := ?_)
     refine tk2 1 (h := ?_)
     refine tk2 2 (h := ?_)
     refine tk2 3 (h := ?_)
     refine tk2 4 (h := ?_)
     refine tk2 5 (h := ?_)
     refine tk2 6 (h := ?_)
     refine tk2 7 (h := ?_)
     refine tk2 8 (h := ?_)
     refine tk2 9 (h := ?_)
     refine tk2 10 (h := ?_)
     refine tk2 11 (h := ?_)
     refine tk2 12 (h := ?_)
     refine tkR 13 (h := fun K hK => ?_)
     go_simp
     (refine (CF.out _ (Only.refl (fun _ => False) wb).drew).mono ?_; rintro e4 w4 ⟨rfl, hww⟩; subst hww)
     go_wp2_with fail
     refine hK.out _ _ ?_ (fun hHeld2 => ?_)
     ·exact keepS6 y0 y1 y2 y3 y4 z0 (Only.refl _ wb).drew
     clear hK K
     try simp only [Act.put, sIB, sC0, sCS]
     clear hHeld
     have hHeld := hHeld2
     clear hHeld2
     refine tk2 14 (h := ?_)
     refine tk2 15 (h := ?_)
     refine tk2 16 (h := ?_)
     refine wpAnyH_done (by kernel_rfl) ?_ _
     obtain ⟨wz, hwz⟩ : ∃ x, wb.drew = x := ⟨_, rfl⟩
     rw [hwz] at hHeld ⊢
     clear hwz
     have hr5 := (hHeld.2.2.2.2.2.2).heap HR.out (fun h => h)
     obtain ⟨q0, q1, q2, q3, q4⟩ := cells5T hr5
     obtain ⟨m0, m1, m2, m3, m4⟩ := marks5T hr5
     obtain ⟨x0, x1, x2, x3, x4⟩ := cells5T ((hHeld.2.2.2.2.2.2).heap HT.out (fun h => h))
     have HR5 := hid hr5
     have HO5 := hid (HOB.out.trans (hHeld.2.2.2.2.2.2) (fun _ h _ => h))
     clear hr5 hHeld y0 y1 y2 y3 y4 z0
     go_wp2
     refine bodyPost_ret (type_result2 (t := ⟨k, nm, d, el, a⟩) (b := w.heap.size) Tryz.results9 (store5T HR5.out) rfl rfl) rfl ⟨by rw [← HER.out, HZ.out]; rfl, only5T HO5.out (fun hl => absurd hl (Nat.lt_irrefl _))⟩
end
end Go.Proofs.YtinbelghhfodiaaGreatDoor

