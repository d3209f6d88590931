import Derived.Test.YtinbelghhfodiaaGreatDoorMaLpJKndSh
import Derived.Test.YtinbelghhfodiaaGreatDoorMaLnkELnkG
import Derived.Test.YtinbelghhfodiaaGreatDoorMaKndTLnkD
import Derived.Test.YtinbelghhfodiaaGreatDoorMaTillPolI
import Derived.Test.YtinbelghhfodiaaGreatDoorMaClsGLpE
import Derived.Test.YtinbelghhfodiaaGreatDoorMaPolMPolV
import Derived.Test.YtinbelghhfodiaaGreatDoorMaClsAKndL
namespace Go.Proofs.YtinbelghhfodiaaGreatDoor
set_option maxHeartbeats 8000000
open Lib (hid)
open Go.RowKit
set_option linter.unusedVariables false
set_option linter.unusedSimpArgs false
set_option maxRecDepth 100000 in
theorem progIsName (s : ByteArray) (w : World) (hs : s.size ≤ 281474976710656) :
  Calls Tryz.prog 167 #[.string s] w fun e w' => e = .returned (.bool (plainN (nums s))) ∧ w = w' := by
 have hl := nums_len s
 by_cases h1 : s = ⟨#[]⟩
 ·subst h1
  have hte := toList_empty
  go_enter Tryz.func167, Tryz.ntmps167
  go_wp2
  go_ret
  exact ⟨rfl, rfl⟩
 obtain ⟨t1, t2⟩ := toList_ne h1
 have hte := toList_empty
 have h1s : 0 < s.size := by
  rcases Nat.eq_zero_or_pos s.size with h | h
  ·exact absurd (nums_inj (List.eq_nil_of_length_eq_zero (by rw [nums_len]; exact h))) h1
  ·exact h
 by_cases h2 : 256 < s.size
 ·have HP := hid (show plainN (nums s) = false by unfold plainN; rw [hl]; simp; omega)
  have h2z : 256 < (s.size : Int) := by omega
  clear hl h1
  go_enter Tryz.func167, Tryz.ntmps167
  go_wp2
  go_ret
  rw [HP.out]
  exact ⟨rfl, rfl⟩
 have h2z : ¬ 256 < (s.size : Int) := by omega
 have HL := hid hl
 clear hl h1
 go_enter Tryz.func167, Tryz.ntmps167
 go_wp2
 go_loop [13] (fun i => ∃ j : Nat, i = .int .i64 j ∧ j ≤ s.size ∧ ∀ n, n < j → badC ((nums s).getD n 0) = false) (fun i => s.size - (intOf i).toNat)
 case atStart => exact ⟨0, rfl, Nat.zero_le _, fun n hn => by omega⟩
 case round =>
  obtain ⟨j, rfl, hj, hbef⟩ := hrel
  have HBEF := hid hbef
  clear hbef
  by_cases hlt : j < s.size
  ·have hjz : (j : Int) < (s.size : Int) := by omega
   have hg := nums_at hlt
   cases hbc : badC ((nums s).getD j 0)
   ·have HNX : Hid (∀ n, n < j + 1 → badC ((nums s).getD n 0) = false) := by
     refine hid ?_
     intro n hnj
     by_cases hkj : n < j
     ·exact HBEF.out n hkj
     ·rw [show n = j by omega]; exact hbc
    rw [hg] at hbc
    obtain ⟨b1, b2, b3, b4, b5, b6⟩ := badC_no hbc
    clear hbc hg
    go_wp2
    go_round
    case rel => exact ⟨j + 1, by go_num, by omega, HNX.out⟩
    case measure => simp [intOf]; omega
   ·have HP := hid (plainN_no (by rw [HL.out]; exact hlt) hbc)
    rw [hg] at hbc
    clear hg
    rcases badC_yes hbc with h | h | h | h | h | h
    all_goals
     clear hbc
     go_wp2
     go_ret
     rw [HP.out]
     exact ⟨rfl, rfl⟩
  ·have HP := hid (plainN_yes (by rw [HL.out]; omega) (by rw [HL.out]; omega) (fun n hn => HBEF.out n (by rw [HL.out] at hn; omega)))
   obtain rfl : j = s.size := by omega
   clear hlt hj
   go_wp2
   go_ret
   rw [HP.out]
   exact ⟨rfl, rfl⟩
def sizeF (n : Nat) (r : Option (TypeV × List Int)) : Nat := match r with | some q => n - q.2.length | none => 0
def FlatTo (w : World) (n : Nat) (r : Option (TypeV × List Int)) (e : Ending) (w' : World) : Prop := e = .returned (.tuple #[valT (typF r), .int .i64 (sizeF n r)]) ∧ Only (fun _ => False) w w'
theorem FlatTo.no {w w' : World} {n : Nat} {r : Option (TypeV × List Int)} (h : r = none) (ho : Only (fun _ => False) w w') : FlatTo w n r (.returned (.tuple #[valT zeroT, .int .i64 0])) w' := by subst h; exact ⟨rfl, ho⟩
theorem FlatTo.yes {w w' : World} {n : Nat} {r : Option (TypeV × List Int)} {t : TypeV} {zs : List Int} {k : Int} (h : r = some (t, zs)) (hk : k = ((n - zs.length : Nat) : Int)) (ho : Only (fun _ => False) w w') : FlatTo w n r (.returned (.tuple #[valT t, .int .i64 k])) w' := by subst h; subst hk; exact ⟨rfl, ho⟩
theorem base_head {d : Nat} {zs : List Int} {c : Int} (h : zs = c :: zs.drop 1) (hd : ¬ 4 < d) : baseZ d zs = if c = 73 then some (arrT d 1 ⟨#[]⟩, zs.drop 1) else if c = 74 then some (arrT d 2 ⟨#[]⟩, zs.drop 1) else if c = 76 then (if semiZ (zs.drop 1) = (zs.drop 1).length then none else if plainN ((zs.drop 1).take (semiZ (zs.drop 1))) then some (arrT d 4 (strOfNums ((zs.drop 1).take (semiZ (zs.drop 1)))), (zs.drop 1).drop (semiZ (zs.drop 1) + 1)) else none) else none := by
 rw [h]
 show (if 4 < d then none else _) = _
 rw [if_neg hd]
 rfl
theorem nums_cons0 {t : ByteArray} (h0 : 0 < t.size) : nums t = ((t[0].toNat : Nat) : Int) :: (nums t).drop 1 := by
 have hlt : 0 < (nums t).length := by rw [nums_len]; exact h0
 have e := List.drop_eq_getElem_cons hlt
 rw [List.drop_zero] at e
 rw [← nums_at h0]
 simpa [List.getD, hlt] using e
set_option maxRecDepth 100000 in
theorem progFlat (t : ByteArray) (w : World) (hs : t.size ≤ 281474976710656) (h0 : 0 < t.size) :
  Calls Tryz.prog 145 #[.string t] w (FlatTo w t.size (baseZ 0 (nums t))) := by
 have hb := base_head (d := 0) (nums_cons0 h0) (by omega)
 have h0z : (0 : Int) < (t.size : Int) := by omega
 obtain ⟨r, hr⟩ : ∃ r, r = baseZ 0 (nums t) := ⟨_, rfl⟩
 rw [← hr] at hb ⊢
 obtain ⟨u, hu⟩ : ∃ u, u = (nums t).drop 1 := ⟨_, rfl⟩
 have hul : u.length + 1 = t.size := by rw [hu, List.length_drop, nums_len]; omega
 rw [← hu] at hb
 obtain ⟨c, hcc⟩ : ∃ c : Int, ((t[0].toNat : Nat) : Int) = c := ⟨_, rfl⟩
 rw [hcc] at hb
 have HBZ := hid hb
 have HU := hid hu
 have HUL := hid hul
 clear hr hu hul hb
 by_cases c1 : c = 73
 ·subst c1
  have HB := hid (show r = some (⟨1, ⟨#[]⟩, 0, 0, 0⟩, u) by rw [HBZ.out, if_pos rfl]; rfl)
  go_enter Tryz.func145, Tryz.ntmps145
  go_wp2
  refine bodyPost_ret (type_result2 (t := ⟨1, ⟨#[]⟩, 0, 0, 0⟩) (b := w.heap.size) Tryz.results145 (heap_alloc_new w _) rfl rfl) rfl (FlatTo.yes HB.out (by have := HUL.out; omega) ((Only.refl _ w).alloc _))
 by_cases c2 : c = 74
 ·subst c2
  have HB := hid (show r = some (⟨2, ⟨#[]⟩, 0, 0, 0⟩, u) by rw [HBZ.out, if_neg (by decide), if_pos rfl]; rfl)
  go_enter Tryz.func145, Tryz.ntmps145
  go_wp2
  refine bodyPost_ret (type_result2 (t := ⟨2, ⟨#[]⟩, 0, 0, 0⟩) (b := w.heap.size) Tryz.results145 (heap_alloc_new w _) rfl rfl) rfl (FlatTo.yes HB.out (by have := HUL.out; omega) ((Only.refl _ w).alloc _))
 have b1 : (c == 73) = false := by rw [beq_eq_false_iff_ne]; exact c1
 have b2 : (c == 74) = false := by rw [beq_eq_false_iff_ne]; exact c2
 by_cases c3 : c = 76
 ·subst c3
  obtain ⟨x, hx⟩ : ∃ x, x = t.extract 1 t.size := ⟨_, rfl⟩
  have hxs : x.size + 1 = t.size := by rw [hx]; simp; omega
  have hxu : nums x = u := by rw [hx, nums_rest, HU.out]
  have HL : Hid (r = if semiZ u = u.length then none else if plainN (u.take (semiZ u)) then some (⟨4, strOfNums (u.take (semiZ u)), 0, 0, 0⟩, u.drop (semiZ u + 1)) else none) := hid (by rw [HBZ.out, if_neg (by decide), if_neg (by decide), if_pos rfl]; rfl)
  have cc := fun w => libCut x w (by omega)
  unfold cutTo cutV at cc
  rw [hxu] at cc
  have hsz := semiZ_le u
  have hz := heap_alloc_new w (.cells #[.int .i64 0, .string ⟨#[]⟩, .int .i64 0, .int .i64 0, .int .i64 0] 33)
  have ho0 := (Only.refl (fun _ => False) w).alloc (.cells #[.int .i64 0, .string ⟨#[]⟩, .int .i64 0, .int .i64 0, .int .i64 0] 33)
  have HZ := hid hz
  have HO := hid ho0
  obtain ⟨k, hk⟩ : ∃ k, semiZ u = k := ⟨_, rfl⟩
  rw [hk] at cc hsz
  have hlx : u.length = x.size := by have := HUL.out; omega
  have HLX := hid hlx
  clear hz ho0 c1 c2
  by_cases hend : k = x.size
  ·rw [if_pos hend] at cc
   have HB : Hid (r = none) := hid (by rw [HL.out, if_pos (by rw [hk, hend, HLX.out])])
   have CC := hid cc
   clear cc hend hk hsz hlx HL hxu hxs
   go_enter Tryz.func145, Tryz.ntmps145
   go_wp2_with (fail)
   rw [← hx]
   refine (CC.out _).mono ?_
   rintro e w1 ⟨rfl, hd1⟩
   have hz1 := (hd1.only (S := fun _ => False)).heap HZ.out (fun h => h)
   obtain ⟨f0, f1, f2, f3, f4⟩ := marks5T hz1
   obtain ⟨q0, q1, q2, q3, q4⟩ := cells5T hz1
   have HZ1 := hid hz1
   have HO1 := hid (HO.out.trans (hd1.only (S := fun _ => False)) (fun _ h _ => h))
   clear hd1 hz1
   go_wp2
   exact bodyPost_ret (type_result2 (t := zeroT) (b := w.heap.size) Tryz.results145 (store5T HZ1.out) rfl rfl) rfl (FlatTo.no HB.out (only5T HO1.out (fun hl => absurd hl (Nat.lt_irrefl _))))
  ·rw [if_neg hend] at cc
   have hkx : k + 1 ≤ x.size := by omega
   have hnm : nums (x.extract 0 k) = u.take k := by rw [nums_extract, hxu]; simp
   have hns : (x.extract 0 k).size = k := by simp; omega
   have HL2 : Hid (r = if plainN (u.take k) then some (⟨4, x.extract 0 k, 0, 0, 0⟩, u.drop (k + 1)) else none) := hid (by rw [HL.out, hk, if_neg (by rw [HLX.out]; exact hend), ← hnm, str_nums])
   have cp := fun w => progIsName (x.extract 0 k) w (by omega)
   rw [hnm] at cp
   have CC := hid cc
   have hdl : (k : Int) + 2 = ((t.size - (u.drop (k + 1)).length : Nat) : Int) := by rw [List.length_drop]; have := HUL.out; omega
   have HDL := hid hdl
   have hnl : ((x.extract 0 k).size : Int) = (k : Int) := by omega
   have hkb : (k : Int) ≤ 281474976710656 := by omega
   generalize x.extract 0 k = nm at *
   cases hpl : plainN (u.take k)
   ·have HB := hid (show r = none by rw [HL2.out, hpl]; rfl)
    rw [hpl] at cp
    have CP := hid cp
    clear cc cp hend hk hsz hlx HL HL2 hxu hxs hpl hnm hns hdl hkx hnl hkb
    go_enter Tryz.func145, Tryz.ntmps145
    go_wp2_with (fail)
    rw [← hx]
    refine (CC.out _).mono ?_
    rintro e w1 ⟨rfl, hd1⟩
    have hz1 := (hd1.only (S := fun _ => False)).heap HZ.out (fun h => h)
    obtain ⟨f0, f1, f2, f3, f4⟩ := marks5T hz1
    obtain ⟨q0, q1, q2, q3, q4⟩ := cells5T hz1
    have HZ1 := hid hz1
    have HO1 := hid (HO.out.trans (hd1.only (S := fun _ => False)) (fun _ h _ => h))
    clear hd1 hz1
    go_wp2_with (fail)
    refine (CP.out _).mono ?_
    rintro e w2 ⟨rfl, rfl⟩
    go_wp2
    exact bodyPost_ret (type_result2 (t := zeroT) (b := w.heap.size) Tryz.results145 (store5T HZ1.out) rfl rfl) rfl (FlatTo.no HB.out (only5T HO1.out (fun hl => absurd hl (Nat.lt_irrefl _))))
   ·have HB := hid (show r = some (⟨4, nm, 0, 0, 0⟩, u.drop (k + 1)) by rw [HL2.out, hpl]; rfl)
    rw [hpl] at cp
    have CP := hid cp
    clear cc cp hend hk hsz hlx HL HL2 hxu hxs hpl hnm hns hdl hkx
    go_enter Tryz.func145, Tryz.ntmps145
    go_wp2_with (fail)
    rw [← hx]
    refine (CC.out _).mono ?_
    rintro e w1 ⟨rfl, hd1⟩
    have hz1 := (hd1.only (S := fun _ => False)).heap HZ.out (fun h => h)
    obtain ⟨f0, f1, f2, f3, f4⟩ := marks5T hz1
    obtain ⟨q0, q1, q2, q3, q4⟩ := cells5T hz1
    have HZ1 := hid hz1
    have HO1 := hid (HO.out.trans (hd1.only (S := fun _ => False)) (fun _ h _ => h))
    clear hd1 hz1
    go_wp2_with (fail)
    refine (CP.out _).mono ?_
    rintro e w2 ⟨rfl, rfl⟩
    go_wp2
    exact bodyPost_ret (type_result2 (t := ⟨4, nm, 0, 0, 0⟩) (b := w.heap.size) Tryz.results145 (store5T HZ1.out) rfl rfl) rfl (FlatTo.yes HB.out (by rw [← HDL.out]; omega) (only5T HO1.out (fun hl => absurd hl (Nat.lt_irrefl _))))
 ·have b3 : (c == 76) = false := by rw [beq_eq_false_iff_ne]; exact c3
  have HB := hid (show r = none by rw [HBZ.out, if_neg c1, if_neg c2, if_neg c3])
  clear c1 c2 c3 HBZ
  go_enter Tryz.func145, Tryz.ntmps145
  go_wp2
  refine bodyPost_ret (type_result2 (t := zeroT) (b := w.heap.size) Tryz.results145 (heap_alloc_new w _) rfl rfl) rfl (FlatTo.no HB.out ((Only.refl _ w).alloc _))
theorem type_alone {fn : Func} {p : Tmp} (hr : fn.results = #[.cell p 33]) {w : World} {b : Nat} {i : TypeV} {tmps : Array Value} (h : w.heap[b]? = some (.cells #[.int .i64 i.k, .string i.name, .int .i64 i.dims, .int .i64 i.elem, .int .i64 i.at_] 33 (0, 0))) (ht : tmps.getD p undef = .pointer (some ⟨b, 0, none⟩)) :
  (results fn tmps).run Tryz.prog w = .ok (valT i) w :=
 results_cell_row hr tmps w b 33 _ (0, 0) _ ht h Tryz.underlying33 rfl info5_type
def dimT (t : TypeV) (d : Nat) : TypeV := if d = 0 then t else ⟨5, t.name, d, t.k, 0⟩
theorem arr_dim (d : Nat) (k : Int) (nm : ByteArray) : arrT d k nm = dimT (arrT 0 k nm) d := by
 unfold arrT dimT
 by_cases h : d = 0
 ·subst h; rfl
 ·rw [if_pos (by omega), if_neg h]
  rfl
theorem base_lift {d : Nat} (hd : ¬ 4 < d) (zs : List Int) : baseZ d zs = (baseZ 0 zs).map (fun q => (dimT q.1 d, q.2)) := by
 cases zs with
 | nil => rfl
 | cons c r =>
  unfold baseZ
  simp only
  rw [if_neg hd, if_neg (by omega : ¬ 4 < 0)]
  by_cases h1 : c = 73
  ·rw [if_pos h1, if_pos h1, arr_dim]; rfl
  rw [if_neg h1, if_neg h1]
  by_cases h2 : c = 74
  ·rw [if_pos h2, if_pos h2, arr_dim]; rfl
  rw [if_neg h2, if_neg h2]
  by_cases h3 : c = 76
  ·rw [if_pos h3, if_pos h3]
   by_cases h4 : semiZ r = r.length
   ·rw [if_pos h4, if_pos h4]; rfl
   rw [if_neg h4, if_neg h4]
   cases plainN (r.take (semiZ r))
   ·rfl
   ·simp only [if_pos]
    rw [arr_dim]; rfl
  ·rw [if_neg h3, if_neg h3]; rfl
set_option maxRecDepth 100000 in
theorem progDims (t : TypeV) (d : Nat) (w : World) :
  Calls Tryz.prog 146 #[valT t, .int .i64 d] w fun e w' => e = .returned (valT (dimT t d)) ∧ Only (fun _ => False) w w' := by
 obtain ⟨k, nm, dd, el, at_⟩ := t
 unfold valT
 simp only
 by_cases h : d = 0
 ·subst h
  have e : dimT ⟨k, nm, dd, el, at_⟩ 0 = ⟨k, nm, dd, el, at_⟩ := rfl
  rw [e]
  go_enter Tryz.func146, Tryz.ntmps146
  go_wp2
  exact bodyPost_ret (type_alone (i := ⟨k, nm, dd, el, at_⟩) (b := w.heap.size + 1) Tryz.results146 box2T rfl) rfl ⟨rfl, ((Only.refl _ w).alloc _).alloc _⟩
 ·have hd : ((d : Int) == 0) = false := by rw [beq_eq_false_iff_ne]; omega
  have e : dimT ⟨k, nm, dd, el, at_⟩ d = ⟨5, nm, d, k, 0⟩ := by unfold dimT; rw [if_neg h]
  rw [e]
  clear h e
  go_enter Tryz.func146, Tryz.ntmps146
  go_wp2
  exact bodyPost_ret (type_alone (i := ⟨5, nm, d, k, 0⟩) (b := w.heap.size + 1) Tryz.results146 box2T rfl) rfl ⟨rfl, ((Only.refl _ w).alloc _).alloc _⟩
set_option maxRecDepth 100000 in
theorem progFirst (s : ByteArray) (w : World) (hs : s.size ≤ 281474976710656) :
  Calls Tryz.prog 120 #[.string s] w (FlatTo w s.size (fieldZ (nums s))) := by
 obtain ⟨r, hr⟩ : ∃ r, r = fieldZ (nums s) := ⟨_, rfl⟩
 rw [← hr]
 have HR := hid hr
 have hz := heap_alloc_new w (.cells #[.int .i64 0, .string ⟨#[]⟩, .int .i64 0, .int .i64 0, .int .i64 0] 33)
 have ho0 := (Only.refl (fun _ => False) w).alloc (.cells #[.int .i64 0, .string ⟨#[]⟩, .int .i64 0, .int .i64 0, .int .i64 0] 33)
 have HZ := hid hz
 have HO := hid ho0
 obtain ⟨m, hm⟩ : ∃ m : Nat, m = min s.size 5 := ⟨_, rfl⟩
 have hmz : min (s.size : Int) 5 = (m : Int) := by omega
 have hms : m ≤ s.size := by omega
 have hm5 : m ≤ 5 := by omega
 have HM := hid hm
 clear hr hz ho0 hm
 go_enter Tryz.func120, Tryz.ntmps120
 go_wp2
 go_loop [10] (fun d => ∃ (j : Nat), d = .int .i64 j ∧ j ≤ m ∧ dimsZ (nums s) = j + dimsZ ((nums s).drop j)) (fun d => m - (intOf d).toNat)
 case atStart => exact ⟨0, rfl, Nat.zero_le _, by simp⟩
 case round =>
  obtain ⟨j, rfl, hj, hdm⟩ := hrel
  have HDM := hid hdm
  clear hdm
  by_cases hlt : j < m
  ·have hjz : (j : Int) < (m : Int) := by omega
   have hjs : j < s.size := by omega
   have hjsz : (j : Int) < (s.size : Int) := by omega
   have hg := nums_at hjs
   by_cases hc : ((s[j].toNat : Nat) : Int) = 91
   ·have HN : Hid (dimsZ (nums s) = (j + 1) + dimsZ ((nums s).drop (j + 1))) := hid (dims_step (by rw [nums_len]; omega) HDM.out (by rw [hg]; exact hc))
    clear hg
    go_wp2
    go_round
    case rel => exact ⟨j + 1, by go_num, by omega, HN.out⟩
    case measure => simp [intOf]; omega
   ·have hcb : (((s[j].toNat : Nat) : Int) == 91) = false := by rw [beq_eq_false_iff_ne]; exact hc
    have hdz := dims_stop (by rw [nums_len]; omega) HDM.out (.inr (by rw [hg]; exact hc))
    have hrb : r = (baseZ 0 ((nums s).drop j)).map (fun q => (dimT q.1 j, q.2)) := by rw [HR.out, fieldZ, hdz, base_lift (by omega)]
    obtain ⟨x, hx⟩ : ∃ x, x = s.extract j s.size := ⟨_, rfl⟩
    have hxs : x.size + j = s.size := by rw [hx]; simp; omega
    have hxn : nums x = (nums s).drop j := by rw [hx, nums_rest]
    have cf := fun w => progFlat x w (by omega) (by omega)
    rw [hxn] at cf
    have HXS := hid hxs
    cases hb : baseZ 0 ((nums s).drop j) with
    | none =>
     rw [hb] at cf hrb
     have HB := hid (show r = none by rw [hrb]; rfl)
     unfold FlatTo typF sizeF zeroT valT at cf
     simp only at cf
     have CF := hid cf
     clear cf hrb hb hxn hxs hdz hg hc HR
     go_wp2_with (fail)
     rw [← hx]
     refine (CF.out _).mono ?_
     rintro e w1 ⟨rfl, ho1⟩
     have hal := (Only.refl (fun _ => False) w1).alloc (.cells #[.int .i64 0, .string ⟨#[]⟩, .int .i64 0, .int .i64 0, .int .i64 0] 33)
     have hz1 := hal.heap (ho1.heap HZ.out (fun h => h)) (fun h => h)
     obtain ⟨f0, f1, f2, f3, f4⟩ := marks5T hz1
     obtain ⟨q0, q1, q2, q3, q4⟩ := cells5T hz1
     have HZ1 := hid hz1
     have HO1 := hid ((HO.out.trans ho1 (fun _ h _ => h)).trans hal (fun _ h _ => h))
     clear ho1 hz1 hal CF
     go_wp2
     exact bodyPost_ret (type_result2 (t := zeroT) (b := w.heap.size) Tryz.results120 (store5T HZ1.out) rfl rfl) rfl (FlatTo.no HB.out (only5T HO1.out (fun hl => absurd hl (Nat.lt_irrefl _))))
    | some q =>
     obtain ⟨t, rest⟩ := q
     obtain ⟨n, hn1, hn2⟩ := base_rest hb
     rw [List.length_drop, nums_len] at hn2
     rw [hb] at cf hrb
     have HB := hid (show r = some (dimT t j, rest) by rw [hrb]; rfl)
     unfold FlatTo typF sizeF at cf
     simp only at cf
     obtain ⟨z, hzz⟩ : ∃ z : Nat, z = x.size - rest.length := ⟨_, rfl⟩
     rw [← hzz] at cf
     have hz0 : ((z : Int) == 0) = false := by rw [beq_eq_false_iff_ne]; omega
     have hzle : z ≤ s.size := by omega
     have hjzz : (j : Int) + (z : Int) = ((s.size - rest.length : Nat) : Int) := by omega
     have HJZ := hid hjzz
     have hjle : (j : Int) ≤ 5 := by omega
     have hzz2 : (z : Int) ≤ 281474976710656 := by omega
     have cd := fun w => progDims t j w
     obtain ⟨y, hy⟩ : ∃ y, y = dimT t j := ⟨_, rfl⟩
     rw [← hy] at HB cd
     unfold valT at cf cd
     have CF := hid cf
     have CD := hid cd
     clear cf cd hrb hb hxn hxs hdz hg hc HR hn1 hn2 hzz hjzz hy
     go_wp2_with (fail)
     rw [← hx]
     refine (CF.out _).mono ?_
     rintro e w1 ⟨rfl, ho1⟩
     have hal := (Only.refl (fun _ => False) w1).alloc (.cells #[.int .i64 t.k, .string t.name, .int .i64 t.dims, .int .i64 t.elem, .int .i64 t.at_] 33)
     have hz1 := hal.heap (ho1.heap HZ.out (fun h => h)) (fun h => h)
     have HZ1 := hid hz1
     have HO1 := hid ((HO.out.trans ho1 (fun _ h _ => h)).trans hal (fun _ h _ => h))
     clear ho1 hz1 hal CF
     go_wp2_with (fail)
     refine (CD.out _).mono ?_
     rintro e w2 ⟨rfl, ho2⟩
     have hz2 := ho2.heap HZ1.out (fun h => h)
     obtain ⟨f0, f1, f2, f3, f4⟩ := marks5T hz2
     obtain ⟨q0, q1, q2, q3, q4⟩ := cells5T hz2
     have HZ2 := hid hz2
     have HO2 := hid (HO1.out.trans ho2 (fun _ h _ => h))
     clear ho2 hz2 CD
     go_wp2
     exact bodyPost_ret (type_result2 (t := y) (b := w.heap.size) Tryz.results120 (store5T HZ2.out) rfl rfl) rfl (FlatTo.yes HB.out (by rw [← HJZ.out]) (only5T HO2.out (fun hl => absurd hl (Nat.lt_irrefl _))))
  ·obtain rfl : j = m := by omega
   have HB : Hid (r = none) := by
    refine hid ?_
    rw [HR.out]
    unfold fieldZ
    by_cases h5 : s.size < 5
    ·have hjs : j = (nums s).length := by rw [nums_len]; have := HM.out; omega
     rw [dims_stop (j := j) (by omega) HDM.out (.inl hjs), hjs, List.drop_length]
     rfl
    ·exact base_deep _ (by have := HDM.out; have := HM.out; omega)
   have q := cells5T HZ.out
   have f := marks5T HZ.out
   obtain ⟨f0, f1, f2, f3, f4⟩ := f
   obtain ⟨q0, q1, q2, q3, q4⟩ := q
   clear hlt hj
   go_wp2
   exact bodyPost_ret (type_result2 (t := zeroT) (b := w.heap.size) Tryz.results120 (heap_alloc_new w _) rfl rfl) rfl (FlatTo.no HB.out HO.out)
def OneTo (w : World) (o : Option TypeV) (e : Ending) (w' : World) : Prop := e = .returned (.tuple #[valT (typO o), .int .i64 (errO o)]) ∧ Only (fun _ => False) w w'
theorem OneTo.no {w w' : World} {o : Option TypeV} (h : o = none) (ho : Only (fun _ => False) w w') : OneTo w o (.returned (.tuple #[valT zeroT, .int .i64 80])) w' := by subst h; exact ⟨rfl, ho⟩
theorem OneTo.yes {w w' : World} {o : Option TypeV} {t : TypeV} (h : o = some t) (ho : Only (fun _ => False) w w') : OneTo w o (.returned (.tuple #[valT t, .int .i64 0])) w' := by subst h; exact ⟨rfl, ho⟩
set_option maxRecDepth 100000 in
theorem progField (s : ByteArray) (w : World) (hs : s.size ≤ 281474976710656) :
  Calls Tryz.prog 91 #[.string s] w (OneTo w (oneZ8 (nums s))) := by
 have hr0 := heap_alloc_new w (.cells #[.int .i64 0, .string ⟨#[]⟩, .int .i64 0, .int .i64 0, .int .i64 0] 33)
 have ho0 := (Only.refl (fun _ => False) w).alloc (.cells #[.int .i64 0, .string ⟨#[]⟩, .int .i64 0, .int .i64 0, .int .i64 0] 33)
 have c1 := progFirst s (w.alloc (.cells #[.int .i64 0, .string ⟨#[]⟩, .int .i64 0, .int .i64 0, .int .i64 0] 33)) hs
 obtain ⟨o, ho⟩ : ∃ o, o = oneZ8 (nums s) := ⟨_, rfl⟩
 rw [← ho]
 unfold oneZ8 at ho
 have HR0 := hid hr0
 have HO0 := hid ho0
 clear hr0 ho0
 cases hf : fieldZ (nums s) with
 | none =>
  rw [hf] at c1 ho
  simp only at ho
  have HOO := hid ho
  unfold FlatTo typF sizeF zeroT valT at c1
  simp only at c1
  have C1 := hid c1
  clear c1 hf ho
  go_enter Tryz.func91, Tryz.ntmps91
  go_wp2_with (fail)
  refine C1.out.mono ?_
  rintro e w1 ⟨rfl, ho1⟩
  have hal := (Only.refl (fun _ => False) w1).alloc (.cells #[.int .i64 0, .string ⟨#[]⟩, .int .i64 0, .int .i64 0, .int .i64 0] 33)
  have hr1 := hal.heap (ho1.heap HR0.out (fun h => h)) (fun h => h)
  have HON1 := hid ((HO0.out.trans ho1 (fun _ h _ => h)).trans hal (fun _ h _ => h))
  obtain ⟨f0, f1, f2, f3, f4⟩ := marks5T hr1
  obtain ⟨q0, q1, q2, q3, q4⟩ := cells5T hr1
  have HR1 := hid hr1
  clear hal hr1 ho1 C1
  go_wp2
  exact bodyPost_ret (type_result2 (t := zeroT) (b := w.heap.size) Tryz.results91 (store5T HR1.out) rfl rfl) rfl (OneTo.no HOO.out (only5T HON1.out (fun hl => absurd hl (Nat.lt_irrefl _))))
 | some q =>
  obtain ⟨t, r⟩ := q
  rw [hf] at c1 ho
  obtain ⟨n, hn, hlt⟩ := field_rest hf
  rw [nums_len] at hlt
  unfold FlatTo typF sizeF valT at c1
  simp only at c1 ho
  obtain ⟨z, hz⟩ : ∃ z : Nat, z = s.size - r.length := ⟨_, rfl⟩
  rw [← hz] at c1
  have hz0 : ((z : Int) == 0) = false := by rw [beq_eq_false_iff_ne]; omega
  by_cases hr : r = []
  ·subst hr
   simp only at ho
   have HOO := hid ho
   have hzs : ¬ (z : Int) < (s.size : Int) := by rw [hz, List.length_nil]; omega
   have C1 := hid c1
   clear c1 hf hn ho hz hlt
   go_enter Tryz.func91, Tryz.ntmps91
   go_wp2_with (fail)
   refine C1.out.mono ?_
   rintro e w1 ⟨rfl, ho1⟩
   have hal := (Only.refl (fun _ => False) w1).alloc (.cells #[.int .i64 t.k, .string t.name, .int .i64 t.dims, .int .i64 t.elem, .int .i64 t.at_] 33)
   have hr1 := hal.heap (ho1.heap HR0.out (fun h => h)) (fun h => h)
   have HON1 := hid ((HO0.out.trans ho1 (fun _ h _ => h)).trans hal (fun _ h _ => h))
   obtain ⟨f0, f1, f2, f3, f4⟩ := marks5T hr1
   obtain ⟨q0, q1, q2, q3, q4⟩ := cells5T hr1
   have HR1 := hid hr1
   clear hal hr1 ho1 C1
   go_wp2
   exact bodyPost_ret (type_result2 (t := t) (b := w.heap.size) Tryz.results91 (store5T HR1.out) rfl rfl) rfl (OneTo.yes HOO.out (only5T HON1.out (fun hl => absurd hl (Nat.lt_irrefl _))))
  ·have ho' : o = none := by
    rw [ho]
    cases r with
    | nil => exact absurd rfl hr
    | cons _ _ => rfl
   have HOO := hid ho'
   have hrl : 0 < r.length := List.length_pos_iff.2 hr
   have hzs : (z : Int) < (s.size : Int) := by omega
   have C1 := hid c1
   clear c1 hf hn hr ho hz hlt ho'
   go_enter Tryz.func91, Tryz.ntmps91
   go_wp2_with (fail)
   refine C1.out.mono ?_
   rintro e w1 ⟨rfl, ho1⟩
   have hal := (Only.refl (fun _ => False) w1).alloc (.cells #[.int .i64 t.k, .string t.name, .int .i64 t.dims, .int .i64 t.elem, .int .i64 t.at_] 33)
   have hr1 := hal.heap (ho1.heap HR0.out (fun h => h)) (fun h => h)
   have HON1 := hid ((HO0.out.trans ho1 (fun _ h _ => h)).trans hal (fun _ h _ => h))
   obtain ⟨f0, f1, f2, f3, f4⟩ := marks5T hr1
   obtain ⟨q0, q1, q2, q3, q4⟩ := cells5T hr1
   have HR1 := hid hr1
   clear hal hr1 ho1 C1
   go_wp2
   exact bodyPost_ret (type_result2 (t := zeroT) (b := w.heap.size) Tryz.results91 (store5T HR1.out) rfl rfl) rfl (OneTo.no HOO.out (only5T HON1.out (fun hl => absurd hl (Nat.lt_irrefl _))))
def retZ (zs : List Int) : Option TypeV := if zs = [86] then some voidT else oneZ8 zs
theorem lit_V : (⟨#[86]⟩ : ByteArray).toList = [86] := by rw [ByteArray.toList_eq]
theorem nums_V : nums ⟨#[86]⟩ = [86] := rfl
set_option maxRecDepth 100000 in
theorem progResult (s : ByteArray) (w : World) (hs : s.size ≤ 281474976710656) :
  Calls Tryz.prog 84 #[.string s] w (OneTo w (retZ (nums s))) := by
 have hr0 := heap_alloc_new w (.cells #[.int .i64 0, .string ⟨#[]⟩, .int .i64 0, .int .i64 0, .int .i64 0] 33)
 have ho0 := (Only.refl (fun _ => False) w).alloc (.cells #[.int .i64 0, .string ⟨#[]⟩, .int .i64 0, .int .i64 0, .int .i64 0] 33)
 have HR0 := hid hr0
 have HO0 := hid ho0
 clear hr0 ho0
 by_cases hv : nums s = [86]
 ·obtain rfl : s = ⟨#[86]⟩ := nums_inj (hv.trans nums_V.symm)
  have HB := hid (show retZ (nums ⟨#[86]⟩) = some voidT from if_pos rfl)
  have hlv := lit_V
  clear hv
  go_enter Tryz.func84, Tryz.ntmps84
  go_wp2
  exact bodyPost_ret (type_result2 (t := voidT) (b := w.heap.size) Tryz.results84 (heap_alloc_new w _) rfl rfl) rfl (OneTo.yes HB.out ((Only.refl _ w).alloc _))
 ·have hrz : retZ (nums s) = oneZ8 (nums s) := if_neg hv
  obtain ⟨v1, v2⟩ := toList_ne_of (s := s) (t := ⟨#[86]⟩) (by rw [nums_V]; exact hv)
  rw [lit_V] at v1 v2
  have c1 := progField s (w.alloc (.cells #[.int .i64 0, .string ⟨#[]⟩, .int .i64 0, .int .i64 0, .int .i64 0] 33)) hs
  rw [hrz]
  unfold OneTo at c1 ⊢
  generalize oneZ8 (nums s) = o at *
  generalize typO o = t at *
  generalize errO o = er at *
  unfold valT at c1
  have C1 := hid c1
  clear c1 hv hrz
  go_enter Tryz.func84, Tryz.ntmps84
  go_wp2_with (fail)
  refine C1.out.mono ?_
  rintro e w1 ⟨rfl, ho1⟩
  have hr1 := ho1.heap HR0.out (fun h => h)
  have HON1 := hid (HO0.out.trans ho1 (fun _ h _ => h))
  obtain ⟨f0, f1, f2, f3, f4⟩ := marks5T hr1
  obtain ⟨q0, q1, q2, q3, q4⟩ := cells5T hr1
  have HR1 := hid hr1
  clear hr1 ho1 C1
  go_wp2
  exact bodyPost_ret (type_result2 (t := t) (b := w.heap.size) Tryz.results84 (store5T HR1.out) rfl rfl) rfl ⟨rfl, only5T HON1.out (fun hl => absurd hl (Nat.lt_irrefl _))⟩
structure PlcV where
 cls : Int
 pool : List ConstV
 code : List Int
 stack : Int
 ans : TypeV
 locals : List TypeV
 fresh : Bool
abbrev placeO (pb : Nat) (p : PlcV) (tv pv cv lv sv : Value) : Obj := .cells #[.pointer (some ⟨pb, 0, none⟩), tv, .int .i64 p.cls, pv, cv, .int .i64 p.stack, .int .i64 p.ans.k, .string p.ans.name, .int .i64 p.ans.dims, .int .i64 p.ans.elem, .int .i64 p.ans.at_, lv, sv, .bool p.fresh] 57 (0, 0)
def PlaceP (w : World) (xb pb : Nat) (ks : List KindV) (p : PlcV) : Prop :=
 ∃ tv pv cv lv sv, w.heap[xb]? = some (placeO pb p tv pv cv lv sv) ∧ Pairs w tv (treeZ ks) ∧ Pool w pv p.pool ∧ Bytes w cv p.code ∧ Types w lv p.locals ∧ Types w sv [] ∧ p.locals.length ≤ 64 ∧ checkZ p.pool = 0
theorem PlaceP.only {w w' : World} {xb pb : Nat} {ks : List KindV} {p : PlcV} (h : PlaceP w xb pb ks p) (ho : Only (fun _ => False) w w') : PlaceP w' xb pb ks p := by
 obtain ⟨tv, pv, cv, lv, sv, h1, h2, h3, h4, h5, h6, h7⟩ := h
 exact ⟨tv, pv, cv, lv, sv, ho.heap h1 (fun h => h), h2.only ho, h3.only ho (fun _ _ h => h), h4.only ho (fun _ _ _ h => h), h5.only ho, h6.only ho, h7⟩
section
variable {w : World} {xb pb : Nat} {ks : List KindV} {p : PlcV} (h : PlaceP w xb pb ks p)
include h
theorem pMadeR : Calls Tryz.prog 18 #[.pointer (some ⟨xb, 0, none⟩)] w fun e w' => e = .returned (.bool true) ∧ w = w' := by
 obtain ⟨tv, pv, cv, lv, sv, h1, -⟩ := h
 have c0 := cell_blk h1 0
 simp only [List.getElem?_toArray, List.getElem?_cons_zero] at c0
 clear h1
 go_enter Tryz.func18, Tryz.ntmps18
 go_wp2
 go_ret
 exact ⟨rfl, rfl⟩
end
end Go.Proofs.YtinbelghhfodiaaGreatDoor
