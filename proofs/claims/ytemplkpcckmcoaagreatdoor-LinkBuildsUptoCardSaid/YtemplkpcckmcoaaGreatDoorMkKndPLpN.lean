import Derived.Test.YtemplkpcckmcoaaGreatDoorMkKndDKndSh
import Derived.Test.YtemplkpcckmcoaaGreatDoorMkBigLnkH
import Derived.Test.YtemplkpcckmcoaaGreatDoorMkLpJLpL
namespace Go.Proofs.YtemplkpcckmcoaaGreatDoor
set_option maxHeartbeats 16000000
open Lib (hid)
open Go.RowKit
set_option linter.unusedVariables false
set_option linter.unusedSimpArgs false
set_option maxRecDepth 100000 in
theorem progIsName (s : ByteArray) (w : World) (hs : s.size ≤ 281474976710656) :
  Calls Tryz.prog 151 #[.string s] w fun e w' => e = .returned (.bool (plainN (nums s))) ∧ w = w' := by
 have hl := nums_len s
 by_cases h1 : s = ⟨#[]⟩
 ·subst h1
  have hte := toList_empty
  go_enter Tryz.func151, Tryz.ntmps151
  go_wp2
  go_ret
  exact ⟨rfl, rfl⟩
 obtain ⟨t1, t2⟩ := toList_ne h1
 have hte := toList_empty
 have h1s : 0 < s.size := by
  rcases Nat.eq_zero_or_pos s.size with h | h
  ·exact absurd (nums_inj (List.eq_nil_of_length_eq_zero (by rw [nums_len]; exact h))) h1
  ·exact h
 by_cases h2 : 256 < s.size
 ·have HP := hid (show plainN (nums s) = false by unfold plainN; rw [hl]; simp; omega)
  have h2z : 256 < (s.size : Int) := by omega
  clear hl h1
  go_enter Tryz.func151, Tryz.ntmps151
  go_wp2
  go_ret
  rw [HP.out]
  exact ⟨rfl, rfl⟩
 have h2z : ¬ 256 < (s.size : Int) := by omega
 have HL := hid hl
 clear hl h1
 go_enter Tryz.func151, Tryz.ntmps151
 go_wp2
 go_loop [13] (fun i => ∃ j : Nat, i = .int .i64 j ∧ j ≤ s.size ∧ ∀ n, n < j → badC ((nums s).getD n 0) = false) (fun i => s.size - (intOf i).toNat)
 case atStart => exact ⟨0, rfl, Nat.zero_le _, fun n hn => by omega⟩
 case round =>
  obtain ⟨j, rfl, hj, hbef⟩ := hrel
  have HBEF := hid hbef
  clear hbef
  by_cases hlt : j < s.size
  ·have hjz : (j : Int) < (s.size : Int) := by omega
   have hg := nums_at hlt
   cases hbc : badC ((nums s).getD j 0)
   ·have HNX : Hid (∀ n, n < j + 1 → badC ((nums s).getD n 0) = false) := by
     refine hid ?_
     intro n hnj
     by_cases hkj : n < j
     ·exact HBEF.out n hkj
     ·rw [show n = j by omega]; exact hbc
    rw [hg] at hbc
    obtain ⟨b1, b2, b3, b4, b5, b6⟩ := badC_no hbc
    clear hbc hg
    go_wp2
    go_round
    case rel => exact ⟨j + 1, by go_num, by omega, HNX.out⟩
    case measure => simp [intOf]; omega
   ·have HP := hid (plainN_no (by rw [HL.out]; exact hlt) hbc)
    rw [hg] at hbc
    clear hg
    rcases badC_yes hbc with h | h | h | h | h | h
    all_goals
     clear hbc
     go_wp2
     go_ret
     rw [HP.out]
     exact ⟨rfl, rfl⟩
  ·have HP := hid (plainN_yes (by rw [HL.out]; omega) (by rw [HL.out]; omega) (fun n hn => HBEF.out n (by rw [HL.out] at hn; omega)))
   obtain rfl : j = s.size := by omega
   clear hlt hj
   go_wp2
   go_ret
   rw [HP.out]
   exact ⟨rfl, rfl⟩
def sizeF (n : Nat) (r : Option (TypeV × List Int)) : Nat := match r with | some q => n - q.2.length | none => 0
def FlatTo (w : World) (n : Nat) (r : Option (TypeV × List Int)) (e : Ending) (w' : World) : Prop := e = .returned (.tuple #[valT (typF r), .int .i64 (sizeF n r)]) ∧ Only (fun _ => False) w w'
theorem FlatTo.no {w w' : World} {n : Nat} {r : Option (TypeV × List Int)} (h : r = none) (ho : Only (fun _ => False) w w') : FlatTo w n r (.returned (.tuple #[valT zeroT, .int .i64 0])) w' := by subst h; exact ⟨rfl, ho⟩
theorem FlatTo.yes {w w' : World} {n : Nat} {r : Option (TypeV × List Int)} {t : TypeV} {zs : List Int} {k : Int} (h : r = some (t, zs)) (hk : k = ((n - zs.length : Nat) : Int)) (ho : Only (fun _ => False) w w') : FlatTo w n r (.returned (.tuple #[valT t, .int .i64 k])) w' := by subst h; subst hk; exact ⟨rfl, ho⟩
theorem base_head {d : Nat} {zs : List Int} {c : Int} (h : zs = c :: zs.drop 1) (hd : ¬ 4 < d) : baseZ d zs = if c = 73 then some (arrT d 1 ⟨#[]⟩, zs.drop 1) else if c = 74 then some (arrT d 2 ⟨#[]⟩, zs.drop 1) else if c = 76 then (if semiZ (zs.drop 1) = (zs.drop 1).length then none else if plainN ((zs.drop 1).take (semiZ (zs.drop 1))) then some (arrT d 4 (strOfNums ((zs.drop 1).take (semiZ (zs.drop 1)))), (zs.drop 1).drop (semiZ (zs.drop 1) + 1)) else none) else none := by
 rw [h]
 show (if 4 < d then none else _) = _
 rw [if_neg hd]
 rfl
theorem nums_cons0 {t : ByteArray} (h0 : 0 < t.size) : nums t = ((t[0].toNat : Nat) : Int) :: (nums t).drop 1 := by
 have hlt : 0 < (nums t).length := by rw [nums_len]; exact h0
 have e := List.drop_eq_getElem_cons hlt
 rw [List.drop_zero] at e
 rw [← nums_at h0]
 simpa [List.getD, hlt] using e
set_option maxRecDepth 100000 in
theorem progFlat (t : ByteArray) (w : World) (hs : t.size ≤ 281474976710656) (h0 : 0 < t.size) :
  Calls Tryz.prog 135 #[.string t] w (FlatTo w t.size (baseZ 0 (nums t))) := by
 have hb := base_head (d := 0) (nums_cons0 h0) (by omega)
 have h0z : (0 : Int) < (t.size : Int) := by omega
 obtain ⟨r, hr⟩ : ∃ r, r = baseZ 0 (nums t) := ⟨_, rfl⟩
 rw [← hr] at hb ⊢
 obtain ⟨u, hu⟩ : ∃ u, u = (nums t).drop 1 := ⟨_, rfl⟩
 have hul : u.length + 1 = t.size := by rw [hu, List.length_drop, nums_len]; omega
 rw [← hu] at hb
 obtain ⟨c, hcc⟩ : ∃ c : Int, ((t[0].toNat : Nat) : Int) = c := ⟨_, rfl⟩
 rw [hcc] at hb
 have HBZ := hid hb
 have HU := hid hu
 have HUL := hid hul
 clear hr hu hul hb
 by_cases c1 : c = 73
 ·subst c1
  have HB := hid (show r = some (⟨1, ⟨#[]⟩, 0, 0, 0⟩, u) by rw [HBZ.out, if_pos rfl]; rfl)
  go_enter Tryz.func135, Tryz.ntmps135
  go_wp2
  refine bodyPost_ret (type_result2 (t := ⟨1, ⟨#[]⟩, 0, 0, 0⟩) (b := w.heap.size) Tryz.results135 (heap_alloc_new w _) rfl rfl) rfl (FlatTo.yes HB.out (by have := HUL.out; omega) ((Only.refl _ w).alloc _))
 by_cases c2 : c = 74
 ·subst c2
  have HB := hid (show r = some (⟨2, ⟨#[]⟩, 0, 0, 0⟩, u) by rw [HBZ.out, if_neg (by decide), if_pos rfl]; rfl)
  go_enter Tryz.func135, Tryz.ntmps135
  go_wp2
  refine bodyPost_ret (type_result2 (t := ⟨2, ⟨#[]⟩, 0, 0, 0⟩) (b := w.heap.size) Tryz.results135 (heap_alloc_new w _) rfl rfl) rfl (FlatTo.yes HB.out (by have := HUL.out; omega) ((Only.refl _ w).alloc _))
 have b1 : (c == 73) = false := by rw [beq_eq_false_iff_ne]; exact c1
 have b2 : (c == 74) = false := by rw [beq_eq_false_iff_ne]; exact c2
 by_cases c3 : c = 76
 ·subst c3
  obtain ⟨x, hx⟩ : ∃ x, x = t.extract 1 t.size := ⟨_, rfl⟩
  have hxs : x.size + 1 = t.size := by rw [hx]; simp; omega
  have hxu : nums x = u := by rw [hx, nums_rest, HU.out]
  have HL : Hid (r = if semiZ u = u.length then none else if plainN (u.take (semiZ u)) then some (⟨4, strOfNums (u.take (semiZ u)), 0, 0, 0⟩, u.drop (semiZ u + 1)) else none) := hid (by rw [HBZ.out, if_neg (by decide), if_neg (by decide), if_pos rfl]; rfl)
  have cc := fun w => libCut x w (by omega)
  unfold cutTo cutV at cc
  rw [hxu] at cc
  have hsz := semiZ_le u
  have hz := heap_alloc_new w (.cells #[.int .i64 0, .string ⟨#[]⟩, .int .i64 0, .int .i64 0, .int .i64 0] 117)
  have ho0 := (Only.refl (fun _ => False) w).alloc (.cells #[.int .i64 0, .string ⟨#[]⟩, .int .i64 0, .int .i64 0, .int .i64 0] 117)
  have HZ := hid hz
  have HO := hid ho0
  obtain ⟨k, hk⟩ : ∃ k, semiZ u = k := ⟨_, rfl⟩
  rw [hk] at cc hsz
  have hlx : u.length = x.size := by have := HUL.out; omega
  have HLX := hid hlx
  clear hz ho0 c1 c2
  by_cases hend : k = x.size
  ·rw [if_pos hend] at cc
   have HB : Hid (r = none) := hid (by rw [HL.out, if_pos (by rw [hk, hend, HLX.out])])
   have CC := hid cc
   clear cc hend hk hsz hlx HL hxu hxs
   go_enter Tryz.func135, Tryz.ntmps135
   go_wp2_with (fail)
   rw [← hx]
   refine (CC.out _).mono ?_
   rintro e w1 ⟨rfl, hd1⟩
   have hz1 := (hd1.only (S := fun _ => False)).heap HZ.out (fun h => h)
   obtain ⟨f0, f1, f2, f3, f4⟩ := marks5T hz1
   obtain ⟨q0, q1, q2, q3, q4⟩ := cells5T hz1
   have HZ1 := hid hz1
   have HO1 := hid (HO.out.trans (hd1.only (S := fun _ => False)) (fun _ h _ => h))
   clear hd1 hz1
   go_wp2
   exact bodyPost_ret (type_result2 (t := zeroT) (b := w.heap.size) Tryz.results135 (store5T HZ1.out) rfl rfl) rfl (FlatTo.no HB.out (only5T HO1.out (fun hl => absurd hl (Nat.lt_irrefl _))))
  ·rw [if_neg hend] at cc
   have hkx : k + 1 ≤ x.size := by omega
   have hnm : nums (x.extract 0 k) = u.take k := by rw [nums_extract, hxu]; simp
   have hns : (x.extract 0 k).size = k := by simp; omega
   have HL2 : Hid (r = if plainN (u.take k) then some (⟨4, x.extract 0 k, 0, 0, 0⟩, u.drop (k + 1)) else none) := hid (by rw [HL.out, hk, if_neg (by rw [HLX.out]; exact hend), ← hnm, str_nums])
   have cp := fun w => progIsName (x.extract 0 k) w (by omega)
   rw [hnm] at cp
   have CC := hid cc
   have hdl : (k : Int) + 2 = ((t.size - (u.drop (k + 1)).length : Nat) : Int) := by rw [List.length_drop]; have := HUL.out; omega
   have HDL := hid hdl
   have hnl : ((x.extract 0 k).size : Int) = (k : Int) := by omega
   have hkb : (k : Int) ≤ 281474976710656 := by omega
   generalize x.extract 0 k = nm at *
   cases hpl : plainN (u.take k)
   ·have HB := hid (show r = none by rw [HL2.out, hpl]; rfl)
    rw [hpl] at cp
    have CP := hid cp
    clear cc cp hend hk hsz hlx HL HL2 hxu hxs hpl hnm hns hdl hkx hnl hkb
    go_enter Tryz.func135, Tryz.ntmps135
    go_wp2_with (fail)
    rw [← hx]
    refine (CC.out _).mono ?_
    rintro e w1 ⟨rfl, hd1⟩
    have hz1 := (hd1.only (S := fun _ => False)).heap HZ.out (fun h => h)
    obtain ⟨f0, f1, f2, f3, f4⟩ := marks5T hz1
    obtain ⟨q0, q1, q2, q3, q4⟩ := cells5T hz1
    have HZ1 := hid hz1
    have HO1 := hid (HO.out.trans (hd1.only (S := fun _ => False)) (fun _ h _ => h))
    clear hd1 hz1
    go_wp2_with (fail)
    refine (CP.out _).mono ?_
    rintro e w2 ⟨rfl, rfl⟩
    go_wp2
    exact bodyPost_ret (type_result2 (t := zeroT) (b := w.heap.size) Tryz.results135 (store5T HZ1.out) rfl rfl) rfl (FlatTo.no HB.out (only5T HO1.out (fun hl => absurd hl (Nat.lt_irrefl _))))
   ·have HB := hid (show r = some (⟨4, nm, 0, 0, 0⟩, u.drop (k + 1)) by rw [HL2.out, hpl]; rfl)
    rw [hpl] at cp
    have CP := hid cp
    clear cc cp hend hk hsz hlx HL HL2 hxu hxs hpl hnm hns hdl hkx
    go_enter Tryz.func135, Tryz.ntmps135
    go_wp2_with (fail)
    rw [← hx]
    refine (CC.out _).mono ?_
    rintro e w1 ⟨rfl, hd1⟩
    have hz1 := (hd1.only (S := fun _ => False)).heap HZ.out (fun h => h)
    obtain ⟨f0, f1, f2, f3, f4⟩ := marks5T hz1
    obtain ⟨q0, q1, q2, q3, q4⟩ := cells5T hz1
    have HZ1 := hid hz1
    have HO1 := hid (HO.out.trans (hd1.only (S := fun _ => False)) (fun _ h _ => h))
    clear hd1 hz1
    go_wp2_with (fail)
    refine (CP.out _).mono ?_
    rintro e w2 ⟨rfl, rfl⟩
    go_wp2
    exact bodyPost_ret (type_result2 (t := ⟨4, nm, 0, 0, 0⟩) (b := w.heap.size) Tryz.results135 (store5T HZ1.out) rfl rfl) rfl (FlatTo.yes HB.out (by rw [← HDL.out]; omega) (only5T HO1.out (fun hl => absurd hl (Nat.lt_irrefl _))))
 ·have b3 : (c == 76) = false := by rw [beq_eq_false_iff_ne]; exact c3
  have HB := hid (show r = none by rw [HBZ.out, if_neg c1, if_neg c2, if_neg c3])
  clear c1 c2 c3 HBZ
  go_enter Tryz.func135, Tryz.ntmps135
  go_wp2
  refine bodyPost_ret (type_result2 (t := zeroT) (b := w.heap.size) Tryz.results135 (heap_alloc_new w _) rfl rfl) rfl (FlatTo.no HB.out ((Only.refl _ w).alloc _))
theorem type_alone {fn : Func} {p : Tmp} (hr : fn.results = #[.cell p 117]) {w : World} {b : Nat} {i : TypeV} {tmps : Array Value} (h : w.heap[b]? = some (.cells #[.int .i64 i.k, .string i.name, .int .i64 i.dims, .int .i64 i.elem, .int .i64 i.at_] 117 (0, 0))) (ht : tmps.getD p undef = .pointer (some ⟨b, 0, none⟩)) :
  (results fn tmps).run Tryz.prog w = .ok (valT i) w :=
 results_cell_row hr tmps w b 117 _ (0, 0) _ ht h Tryz.underlying117 rfl info5_type
def dimT (t : TypeV) (d : Nat) : TypeV := if d = 0 then t else ⟨5, t.name, d, t.k, 0⟩
theorem arr_dim (d : Nat) (k : Int) (nm : ByteArray) : arrT d k nm = dimT (arrT 0 k nm) d := by
 unfold arrT dimT
 by_cases h : d = 0
 ·subst h; rfl
 ·rw [if_pos (by omega), if_neg h]
  rfl
theorem base_lift {d : Nat} (hd : ¬ 4 < d) (zs : List Int) : baseZ d zs = (baseZ 0 zs).map (fun q => (dimT q.1 d, q.2)) := by
 cases zs with
 | nil => rfl
 | cons c r =>
  unfold baseZ
  simp only
  rw [if_neg hd, if_neg (by omega : ¬ 4 < 0)]
  by_cases h1 : c = 73
  ·rw [if_pos h1, if_pos h1, arr_dim]; rfl
  rw [if_neg h1, if_neg h1]
  by_cases h2 : c = 74
  ·rw [if_pos h2, if_pos h2, arr_dim]; rfl
  rw [if_neg h2, if_neg h2]
  by_cases h3 : c = 76
  ·rw [if_pos h3, if_pos h3]
   by_cases h4 : semiZ r = r.length
   ·rw [if_pos h4, if_pos h4]; rfl
   rw [if_neg h4, if_neg h4]
   cases plainN (r.take (semiZ r))
   ·rfl
   ·simp only [if_pos]
    rw [arr_dim]; rfl
  ·rw [if_neg h3, if_neg h3]; rfl
set_option maxRecDepth 100000 in
theorem progDims (t : TypeV) (d : Nat) (w : World) :
  Calls Tryz.prog 136 #[valT t, .int .i64 d] w fun e w' => e = .returned (valT (dimT t d)) ∧ Only (fun _ => False) w w' := by
 obtain ⟨k, nm, dd, el, at_⟩ := t
 unfold valT
 simp only
 by_cases h : d = 0
 ·subst h
  have e : dimT ⟨k, nm, dd, el, at_⟩ 0 = ⟨k, nm, dd, el, at_⟩ := rfl
  rw [e]
  go_enter Tryz.func136, Tryz.ntmps136
  go_wp2
  exact bodyPost_ret (type_alone (i := ⟨k, nm, dd, el, at_⟩) (b := w.heap.size + 1) Tryz.results136 box2T rfl) rfl ⟨rfl, ((Only.refl _ w).alloc _).alloc _⟩
 ·have hd : ((d : Int) == 0) = false := by rw [beq_eq_false_iff_ne]; omega
  have e : dimT ⟨k, nm, dd, el, at_⟩ d = ⟨5, nm, d, k, 0⟩ := by unfold dimT; rw [if_neg h]
  rw [e]
  clear h e
  go_enter Tryz.func136, Tryz.ntmps136
  go_wp2
  exact bodyPost_ret (type_alone (i := ⟨5, nm, d, k, 0⟩) (b := w.heap.size + 1) Tryz.results136 box2T rfl) rfl ⟨rfl, ((Only.refl _ w).alloc _).alloc _⟩
set_option maxRecDepth 100000 in
theorem progFirst (s : ByteArray) (w : World) (hs : s.size ≤ 281474976710656) :
  Calls Tryz.prog 116 #[.string s] w (FlatTo w s.size (fieldZ (nums s))) := by
 obtain ⟨r, hr⟩ : ∃ r, r = fieldZ (nums s) := ⟨_, rfl⟩
 rw [← hr]
 have HR := hid hr
 have hz := heap_alloc_new w (.cells #[.int .i64 0, .string ⟨#[]⟩, .int .i64 0, .int .i64 0, .int .i64 0] 117)
 have ho0 := (Only.refl (fun _ => False) w).alloc (.cells #[.int .i64 0, .string ⟨#[]⟩, .int .i64 0, .int .i64 0, .int .i64 0] 117)
 have HZ := hid hz
 have HO := hid ho0
 obtain ⟨m, hm⟩ : ∃ m : Nat, m = min s.size 5 := ⟨_, rfl⟩
 have hmz : min (s.size : Int) 5 = (m : Int) := by omega
 have hms : m ≤ s.size := by omega
 have hm5 : m ≤ 5 := by omega
 have HM := hid hm
 clear hr hz ho0 hm
 go_enter Tryz.func116, Tryz.ntmps116
 go_wp2
 go_loop [10] (fun d => ∃ (j : Nat), d = .int .i64 j ∧ j ≤ m ∧ dimsZ (nums s) = j + dimsZ ((nums s).drop j)) (fun d => m - (intOf d).toNat)
 case atStart => exact ⟨0, rfl, Nat.zero_le _, by simp⟩
 case round =>
  obtain ⟨j, rfl, hj, hdm⟩ := hrel
  have HDM := hid hdm
  clear hdm
  by_cases hlt : j < m
  ·have hjz : (j : Int) < (m : Int) := by omega
   have hjs : j < s.size := by omega
   have hjsz : (j : Int) < (s.size : Int) := by omega
   have hg := nums_at hjs
   by_cases hc : ((s[j].toNat : Nat) : Int) = 91
   ·have HN : Hid (dimsZ (nums s) = (j + 1) + dimsZ ((nums s).drop (j + 1))) := hid (dims_step (by rw [nums_len]; omega) HDM.out (by rw [hg]; exact hc))
    clear hg
    go_wp2
    go_round
    case rel => exact ⟨j + 1, by go_num, by omega, HN.out⟩
    case measure => simp [intOf]; omega
   ·have hcb : (((s[j].toNat : Nat) : Int) == 91) = false := by rw [beq_eq_false_iff_ne]; exact hc
    have hdz := dims_stop (by rw [nums_len]; omega) HDM.out (.inr (by rw [hg]; exact hc))
    have hrb : r = (baseZ 0 ((nums s).drop j)).map (fun q => (dimT q.1 j, q.2)) := by rw [HR.out, fieldZ, hdz, base_lift (by omega)]
    obtain ⟨x, hx⟩ : ∃ x, x = s.extract j s.size := ⟨_, rfl⟩
    have hxs : x.size + j = s.size := by rw [hx]; simp; omega
    have hxn : nums x = (nums s).drop j := by rw [hx, nums_rest]
    have cf := fun w => progFlat x w (by omega) (by omega)
    rw [hxn] at cf
    have HXS := hid hxs
    cases hb : baseZ 0 ((nums s).drop j) with
    | none =>
     rw [hb] at cf hrb
     have HB := hid (show r = none by rw [hrb]; rfl)
     unfold FlatTo typF sizeF zeroT valT at cf
     simp only at cf
     have CF := hid cf
     clear cf hrb hb hxn hxs hdz hg hc HR
     go_wp2_with (fail)
     rw [← hx]
     refine (CF.out _).mono ?_
     rintro e w1 ⟨rfl, ho1⟩
     have hal := (Only.refl (fun _ => False) w1).alloc (.cells #[.int .i64 0, .string ⟨#[]⟩, .int .i64 0, .int .i64 0, .int .i64 0] 117)
     have hz1 := hal.heap (ho1.heap HZ.out (fun h => h)) (fun h => h)
     obtain ⟨f0, f1, f2, f3, f4⟩ := marks5T hz1
     obtain ⟨q0, q1, q2, q3, q4⟩ := cells5T hz1
     have HZ1 := hid hz1
     have HO1 := hid ((HO.out.trans ho1 (fun _ h _ => h)).trans hal (fun _ h _ => h))
     clear ho1 hz1 hal CF
     go_wp2
     exact bodyPost_ret (type_result2 (t := zeroT) (b := w.heap.size) Tryz.results116 (store5T HZ1.out) rfl rfl) rfl (FlatTo.no HB.out (only5T HO1.out (fun hl => absurd hl (Nat.lt_irrefl _))))
    | some q =>
     obtain ⟨t, rest⟩ := q
     obtain ⟨n, hn1, hn2⟩ := base_rest hb
     rw [List.length_drop, nums_len] at hn2
     rw [hb] at cf hrb
     have HB := hid (show r = some (dimT t j, rest) by rw [hrb]; rfl)
     unfold FlatTo typF sizeF at cf
     simp only at cf
     obtain ⟨z, hzz⟩ : ∃ z : Nat, z = x.size - rest.length := ⟨_, rfl⟩
     rw [← hzz] at cf
     have hz0 : ((z : Int) == 0) = false := by rw [beq_eq_false_iff_ne]; omega
     have hzle : z ≤ s.size := by omega
     have hjzz : (j : Int) + (z : Int) = ((s.size - rest.length : Nat) : Int) := by omega
     have HJZ := hid hjzz
     have hjle : (j : Int) ≤ 5 := by omega
     have hzz2 : (z : Int) ≤ 281474976710656 := by omega
     have cd := fun w => progDims t j w
     obtain ⟨y, hy⟩ : ∃ y, y = dimT t j := ⟨_, rfl⟩
     rw [← hy] at HB cd
     unfold valT at cf cd
     have CF := hid cf
     have CD := hid cd
     clear cf cd hrb hb hxn hxs hdz hg hc HR hn1 hn2 hzz hjzz hy
     go_wp2_with (fail)
     rw [← hx]
     refine (CF.out _).mono ?_
     rintro e w1 ⟨rfl, ho1⟩
     have hal := (Only.refl (fun _ => False) w1).alloc (.cells #[.int .i64 t.k, .string t.name, .int .i64 t.dims, .int .i64 t.elem, .int .i64 t.at_] 117)
     have hz1 := hal.heap (ho1.heap HZ.out (fun h => h)) (fun h => h)
     have HZ1 := hid hz1
     have HO1 := hid ((HO.out.trans ho1 (fun _ h _ => h)).trans hal (fun _ h _ => h))
     clear ho1 hz1 hal CF
     go_wp2_with (fail)
     refine (CD.out _).mono ?_
     rintro e w2 ⟨rfl, ho2⟩
     have hz2 := ho2.heap HZ1.out (fun h => h)
     obtain ⟨f0, f1, f2, f3, f4⟩ := marks5T hz2
     obtain ⟨q0, q1, q2, q3, q4⟩ := cells5T hz2
     have HZ2 := hid hz2
     have HO2 := hid (HO1.out.trans ho2 (fun _ h _ => h))
     clear ho2 hz2 CD
     go_wp2
     exact bodyPost_ret (type_result2 (t := y) (b := w.heap.size) Tryz.results116 (store5T HZ2.out) rfl rfl) rfl (FlatTo.yes HB.out (by rw [← HJZ.out]) (only5T HO2.out (fun hl => absurd hl (Nat.lt_irrefl _))))
  ·obtain rfl : j = m := by omega
   have HB : Hid (r = none) := by
    refine hid ?_
    rw [HR.out]
    unfold fieldZ
    by_cases h5 : s.size < 5
    ·have hjs : j = (nums s).length := by rw [nums_len]; have := HM.out; omega
     rw [dims_stop (j := j) (by omega) HDM.out (.inl hjs), hjs, List.drop_length]
     rfl
    ·exact base_deep _ (by have := HDM.out; have := HM.out; omega)
   have q := cells5T HZ.out
   have f := marks5T HZ.out
   obtain ⟨f0, f1, f2, f3, f4⟩ := f
   obtain ⟨q0, q1, q2, q3, q4⟩ := q
   clear hlt hj
   go_wp2
   exact bodyPost_ret (type_result2 (t := zeroT) (b := w.heap.size) Tryz.results116 (heap_alloc_new w _) rfl rfl) rfl (FlatTo.no HB.out HO.out)
def OneTo (w : World) (o : Option TypeV) (e : Ending) (w' : World) : Prop := e = .returned (.tuple #[valT (typO o), .int .i64 (errO o)]) ∧ Only (fun _ => False) w w'
theorem OneTo.no {w w' : World} {o : Option TypeV} (h : o = none) (ho : Only (fun _ => False) w w') : OneTo w o (.returned (.tuple #[valT zeroT, .int .i64 80])) w' := by subst h; exact ⟨rfl, ho⟩
theorem OneTo.yes {w w' : World} {o : Option TypeV} {t : TypeV} (h : o = some t) (ho : Only (fun _ => False) w w') : OneTo w o (.returned (.tuple #[valT t, .int .i64 0])) w' := by subst h; exact ⟨rfl, ho⟩
set_option maxRecDepth 100000 in
theorem progField (s : ByteArray) (w : World) (hs : s.size ≤ 281474976710656) :
  Calls Tryz.prog 89 #[.string s] w (OneTo w (oneZ8 (nums s))) := by
 have hr0 := heap_alloc_new w (.cells #[.int .i64 0, .string ⟨#[]⟩, .int .i64 0, .int .i64 0, .int .i64 0] 117)
 have ho0 := (Only.refl (fun _ => False) w).alloc (.cells #[.int .i64 0, .string ⟨#[]⟩, .int .i64 0, .int .i64 0, .int .i64 0] 117)
 have c1 := progFirst s (w.alloc (.cells #[.int .i64 0, .string ⟨#[]⟩, .int .i64 0, .int .i64 0, .int .i64 0] 117)) hs
 obtain ⟨o, ho⟩ : ∃ o, o = oneZ8 (nums s) := ⟨_, rfl⟩
 rw [← ho]
 unfold oneZ8 at ho
 have HR0 := hid hr0
 have HO0 := hid ho0
 clear hr0 ho0
 cases hf : fieldZ (nums s) with
 | none =>
  rw [hf] at c1 ho
  simp only at ho
  have HOO := hid ho
  unfold FlatTo typF sizeF zeroT valT at c1
  simp only at c1
  have C1 := hid c1
  clear c1 hf ho
  go_enter Tryz.func89, Tryz.ntmps89
  go_wp2_with (fail)
  refine C1.out.mono ?_
  rintro e w1 ⟨rfl, ho1⟩
  have hal := (Only.refl (fun _ => False) w1).alloc (.cells #[.int .i64 0, .string ⟨#[]⟩, .int .i64 0, .int .i64 0, .int .i64 0] 117)
  have hr1 := hal.heap (ho1.heap HR0.out (fun h => h)) (fun h => h)
  have HON1 := hid ((HO0.out.trans ho1 (fun _ h _ => h)).trans hal (fun _ h _ => h))
  obtain ⟨f0, f1, f2, f3, f4⟩ := marks5T hr1
  obtain ⟨q0, q1, q2, q3, q4⟩ := cells5T hr1
  have HR1 := hid hr1
  clear hal hr1 ho1 C1
  go_wp2
  exact bodyPost_ret (type_result2 (t := zeroT) (b := w.heap.size) Tryz.results89 (store5T HR1.out) rfl rfl) rfl (OneTo.no HOO.out (only5T HON1.out (fun hl => absurd hl (Nat.lt_irrefl _))))
 | some q =>
  obtain ⟨t, r⟩ := q
  rw [hf] at c1 ho
  obtain ⟨n, hn, hlt⟩ := field_rest hf
  rw [nums_len] at hlt
  unfold FlatTo typF sizeF valT at c1
  simp only at c1 ho
  obtain ⟨z, hz⟩ : ∃ z : Nat, z = s.size - r.length := ⟨_, rfl⟩
  rw [← hz] at c1
  have hz0 : ((z : Int) == 0) = false := by rw [beq_eq_false_iff_ne]; omega
  by_cases hr : r = []
  ·subst hr
   simp only at ho
   have HOO := hid ho
   have hzs : ¬ (z : Int) < (s.size : Int) := by rw [hz, List.length_nil]; omega
   have C1 := hid c1
   clear c1 hf hn ho hz hlt
   go_enter Tryz.func89, Tryz.ntmps89
   go_wp2_with (fail)
   refine C1.out.mono ?_
   rintro e w1 ⟨rfl, ho1⟩
   have hal := (Only.refl (fun _ => False) w1).alloc (.cells #[.int .i64 t.k, .string t.name, .int .i64 t.dims, .int .i64 t.elem, .int .i64 t.at_] 117)
   have hr1 := hal.heap (ho1.heap HR0.out (fun h => h)) (fun h => h)
   have HON1 := hid ((HO0.out.trans ho1 (fun _ h _ => h)).trans hal (fun _ h _ => h))
   obtain ⟨f0, f1, f2, f3, f4⟩ := marks5T hr1
   obtain ⟨q0, q1, q2, q3, q4⟩ := cells5T hr1
   have HR1 := hid hr1
   clear hal hr1 ho1 C1
   go_wp2
   exact bodyPost_ret (type_result2 (t := t) (b := w.heap.size) Tryz.results89 (store5T HR1.out) rfl rfl) rfl (OneTo.yes HOO.out (only5T HON1.out (fun hl => absurd hl (Nat.lt_irrefl _))))
  ·have ho' : o = none := by
    rw [ho]
    cases r with
    | nil => exact absurd rfl hr
    | cons _ _ => rfl
   have HOO := hid ho'
   have hrl : 0 < r.length := List.length_pos_iff.2 hr
   have hzs : (z : Int) < (s.size : Int) := by omega
   have C1 := hid c1
   clear c1 hf hn hr ho hz hlt ho'
   go_enter Tryz.func89, Tryz.ntmps89
   go_wp2_with (fail)
   refine C1.out.mono ?_
   rintro e w1 ⟨rfl, ho1⟩
   have hal := (Only.refl (fun _ => False) w1).alloc (.cells #[.int .i64 t.k, .string t.name, .int .i64 t.dims, .int .i64 t.elem, .int .i64 t.at_] 117)
   have hr1 := hal.heap (ho1.heap HR0.out (fun h => h)) (fun h => h)
   have HON1 := hid ((HO0.out.trans ho1 (fun _ h _ => h)).trans hal (fun _ h _ => h))
   obtain ⟨f0, f1, f2, f3, f4⟩ := marks5T hr1
   obtain ⟨q0, q1, q2, q3, q4⟩ := cells5T hr1
   have HR1 := hid hr1
   clear hal hr1 ho1 C1
   go_wp2
   exact bodyPost_ret (type_result2 (t := zeroT) (b := w.heap.size) Tryz.results89 (store5T HR1.out) rfl rfl) rfl (OneTo.no HOO.out (only5T HON1.out (fun hl => absurd hl (Nat.lt_irrefl _))))
def retZ (zs : List Int) : Option TypeV := if zs = [86] then some voidT else oneZ8 zs
theorem lit_V : (⟨#[86]⟩ : ByteArray).toList = [86] := by rw [ByteArray.toList_eq]
theorem nums_V : nums ⟨#[86]⟩ = [86] := rfl
set_option maxRecDepth 100000 in
theorem progResult (s : ByteArray) (w : World) (hs : s.size ≤ 281474976710656) :
  Calls Tryz.prog 130 #[.string s] w (OneTo w (retZ (nums s))) := by
 have hr0 := heap_alloc_new w (.cells #[.int .i64 0, .string ⟨#[]⟩, .int .i64 0, .int .i64 0, .int .i64 0] 117)
 have ho0 := (Only.refl (fun _ => False) w).alloc (.cells #[.int .i64 0, .string ⟨#[]⟩, .int .i64 0, .int .i64 0, .int .i64 0] 117)
 have HR0 := hid hr0
 have HO0 := hid ho0
 clear hr0 ho0
 by_cases hv : nums s = [86]
 ·obtain rfl : s = ⟨#[86]⟩ := nums_inj (hv.trans nums_V.symm)
  have HB := hid (show retZ (nums ⟨#[86]⟩) = some voidT from if_pos rfl)
  have hlv := lit_V
  clear hv
  go_enter Tryz.func130, Tryz.ntmps130
  go_wp2
  exact bodyPost_ret (type_result2 (t := voidT) (b := w.heap.size) Tryz.results130 (heap_alloc_new w _) rfl rfl) rfl (OneTo.yes HB.out ((Only.refl _ w).alloc _))
 ·have hrz : retZ (nums s) = oneZ8 (nums s) := if_neg hv
  obtain ⟨v1, v2⟩ := toList_ne_of (s := s) (t := ⟨#[86]⟩) (by rw [nums_V]; exact hv)
  rw [lit_V] at v1 v2
  have c1 := progField s (w.alloc (.cells #[.int .i64 0, .string ⟨#[]⟩, .int .i64 0, .int .i64 0, .int .i64 0] 117)) hs
  rw [hrz]
  unfold OneTo at c1 ⊢
  generalize oneZ8 (nums s) = o at *
  generalize typO o = t at *
  generalize errO o = er at *
  unfold valT at c1
  have C1 := hid c1
  clear c1 hv hrz
  go_enter Tryz.func130, Tryz.ntmps130
  go_wp2_with (fail)
  refine C1.out.mono ?_
  rintro e w1 ⟨rfl, ho1⟩
  have hr1 := ho1.heap HR0.out (fun h => h)
  have HON1 := hid (HO0.out.trans ho1 (fun _ h _ => h))
  obtain ⟨f0, f1, f2, f3, f4⟩ := marks5T hr1
  obtain ⟨q0, q1, q2, q3, q4⟩ := cells5T hr1
  have HR1 := hid hr1
  clear hr1 ho1 C1
  go_wp2
  exact bodyPost_ret (type_result2 (t := t) (b := w.heap.size) Tryz.results130 (store5T HR1.out) rfl rfl) rfl ⟨rfl, only5T HON1.out (fun hl => absurd hl (Nat.lt_irrefl _))⟩
end Go.Proofs.YtemplkpcckmcoaaGreatDoor
namespace Go.Proofs.YtemplkpcckmcoaaGreatDoor
set_option maxHeartbeats 16000000
open Lib (hid)
open Go.RowKit Go.Maps
set_option linter.unusedVariables false
set_option linter.unusedSimpArgs false
def typesP (st : Bool) (l : List MethN) : List TypeV := (l.filter (fun m => (m.flags == 8) == st)).map typeZ
theorem typesP_take {st : Bool} {l : List MethN} {j : Nat} (h : j < l.length) : typesP st (l.take (j + 1)) = typesP st (l.take j) ++ if ((l.getD j default).flags == 8) == st then [typeZ (l.getD j default)] else [] := by
 rw [List.take_succ_eq_append_getElem h, typesP, List.filter_append, List.map_append]
 rw [show l.getD j default = l[j] by simp [List.getD, h]]
 by_cases hf : ((l[j].flags == 8) == st) = true
 ·rw [if_pos hf]; simp only [List.filter_cons, List.filter_nil]; rw [if_pos hf]; rfl
 ·rw [if_neg hf]; simp only [List.filter_cons, List.filter_nil]; rw [if_neg hf]; rfl
theorem typesP_le (st : Bool) (l : List MethN) : (typesP st l).length ≤ l.length := by rw [typesP, List.length_map]; exact List.length_filter_le _ _
theorem typesP_flag {st : Bool} {l : List MethN} (h : FlagsL l) : typesP st l = typesZ (if st then 8 else 0) l := by
 unfold typesP typesZ
 congr 1
 apply List.filter_congr
 intro m hm
 rcases h m hm with e | e <;> rw [e] <;> cases st <;> rfl
set_option maxRecDepth 100000 in
theorem pTypesOf (v : Value) (l : List MethN) (s : Nat → Int) (st : Bool) (w : World) (hl : MemS w v l s) (hn : l.length ≤ 1048576) (hd : Descs l) :
  Calls Tryz.prog 59 #[v, .bool st] w (TypesTo w (typesP st l)) := by
 obtain ⟨i0, hi, hz0, hz1, hz2⟩ := info_parts info_type
 obtain ⟨ao, cap, rfl, p1, p2, p3, -⟩ := id hl
 have HL := hid hl
 have HD := hid hd
 clear hl hd p3
 go_enter Tryz.func59, Tryz.ntmps59
 go_wp2
 go_loopw [12, 5] (fun iv lv wr => ∃ j : Nat, iv = .int .i64 j ∧ j ≤ l.length ∧ Hid (TRow wr w.heap.size lv (typesP st (l.take j))) ∧ Hid (Only (fun _ => False) w wr)) (fun iv _ _ => l.length - (intOf iv).toNat)
 case atStart => exact ⟨0, rfl, Nat.zero_le _, hid (TRow.nil _ _), hid (Only.refl _ _)⟩
 case round =>
  obtain ⟨j, rfl, hj, HROW, HON⟩ := hrel
  obtain ⟨al, cl, rfl, l1, l2, -, -⟩ := id HROW.out.types
  by_cases hlt : j < l.length
  ·have hjz : (j : Int) < (l.length : Int) := by omega
   have hj0 : (0 : Int) ≤ (j : Int) := by omega
   obtain ⟨b, o, rfl, y⟩ := Sl.at (MemS.only HL.out HON.out) hlt
   obtain ⟨y0, y1, y2, y3⟩ := y
   have hstep := typesP_take (st := st) hlt
   have hds := HD.out _ (getD_memM hlt)
   have hln := typesP_le st (l.take j)
   rw [List.length_take] at hln
   obtain ⟨u, hu⟩ : ∃ u, typeZ (l.getD j default) = u := ⟨_, rfl⟩
   rw [hu] at hstep
   have hu0 : typO (oneZ8 (nums (l.getD j default).desc)) = u := by rw [← hu]; rfl
   generalize typesP st (l.take j) = ts at *
   generalize l.getD j default = p at *
   generalize s j = sx at *
   have ho1 := (Only.refl (fun _ => False) wr).alloc (.cells #[.string p.name, .string p.desc, .int .i64 p.flags, .int .i64 sx] 107)
   have hb1 := heap_alloc_new wr (.cells #[.string p.name, .string p.desc, .int .i64 p.flags, .int .i64 sx] 107)
   have CS := hid (pStatic p sx (wr.alloc (.cells #[.string p.name, .string p.desc, .int .i64 p.flags, .int .i64 sx] 107)))
   have HB1 := hid hb1
   have HO1 := hid ho1
   have HST0 := hid hstep
   clear ho1 hb1 hstep hu
   by_cases hf : ((p.flags == 8) == st) = true
   ·have HST := hid (by have h := HST0.out; rw [if_pos hf] at h; exact h)
    have cf := fun w' => progField p.desc w' (by omega)
    unfold OneTo at cf
    rw [hu0] at cf
    obtain ⟨er, her⟩ : ∃ er, errO (oneZ8 (nums p.desc)) = er := ⟨_, rfl⟩
    rw [her] at cf
    unfold valT at cf
    have CF := hid cf
    have hfe : (p.flags == 8) = st := by simpa using hf
    rw [hfe] at CS
    clear cf hu0 her hf hfe hds HST0
    go_wp2_with (fail)
    refine CS.out.mono ?_
    rintro e w2 ⟨rfl, ho2⟩
    have hb2 := ho2.heap HB1.out (fun h => h)
    obtain ⟨r0, r1, r2, r3⟩ := cells4L hb2
    have HO2 := hid (HO1.out.trans ho2 (fun _ h _ => h))
    clear ho2 hb2 CS
    have hss : (st == st) = true := by simp
    go_wp2_with (fail)
    refine (CF.out _).mono ?_
    rintro e w3 ⟨rfl, ho3⟩
    have hal := (Only.refl (fun _ => False) w3).alloc (.cells #[.int .i64 u.k, .string u.name, .int .i64 u.dims, .int .i64 u.elem, .int .i64 u.at_] 117)
    have hal2 := hal.alloc (.cells #[.int .i64 u.k, .string u.name, .int .i64 u.dims, .int .i64 u.elem, .int .i64 u.at_] 117)
    have h23 := (HO2.out.trans ho3 (fun _ h _ => h)).trans hal2 (fun _ h _ => h)
    have HON4 := hid (HON.out.trans h23 (fun _ h _ => h))
    have HROW5 := hid (HROW.out.only h23 (fun _ _ h => h))
    have HSRC := hid (Src.type (w := w3.alloc (.cells #[.int .i64 u.k, .string u.name, .int .i64 u.dims, .int .i64 u.elem, .int .i64 u.at_] 117)) (m := w3.heap.size + 1) u (by simp))
    have HBASE := hid (HON4.out.size)
    clear ho3 hal hal2 h23 CF r0 r1 r2 r3
    go_wp2_with (at_builtin; go_loud (refine wpList_append_src rfl (.tmp 26) (.tmp 28) 62 rfl 117 i0 (.agg #[.int .i64 0, .string ⟨#[]⟩, .int .i64 0, .int .i64 0, .int .i64 0]) 5 48 Tryz.underlying62 hi hz0 hz1 hz2 rfl (by decide) w.heap.size (.slice al ts.length cl) ts.length (ts.flatMap cellsTy) rfl (by exact HROW5.out) (by exact HBASE.out) (.slice (some ⟨w3.heap.size + 1, 0, none⟩) 1 1) 1 (cellsTy u) rfl (by exact HSRC.out) (by unfold maxLen; omega) (by omega) ?_); intro v' w5 hown hgrow hnew; have hos := only_grownT hgrow; have hrow6 := TRow.more hown; have hon6 := HON4.out.trans hos (fun j hj hl => by have := (HROW5.out.ge _ hj).1; omega); clear hown hgrow hnew hos; have HROW6 := hid hrow6; have HON6 := hid hon6; clear hrow6 hon6)
    go_roundw
    case rel => exact ⟨j + 1, rfl, by omega, hid (by rw [HST.out]; exact HROW6.out), HON6⟩
    case measure => show _ - _ < _ - _; simp only [intOf]; omega
   ·have HST := hid (by have h := HST0.out; rw [if_neg hf, List.append_nil] at h; exact h)
    obtain ⟨fb, hfb⟩ : ∃ fb, (p.flags == 8) = fb := ⟨_, rfl⟩
    rw [hfb] at CS hf
    have hss : (fb == st) = false := by simpa using hf
    clear hu0 hf hfb hds HST0
    go_wp2_with (fail)
    refine CS.out.mono ?_
    rintro e w2 ⟨rfl, ho2⟩
    have HO2 := hid (HO1.out.trans ho2 (fun _ h _ => h))
    have HROW5 := hid (HROW.out.only HO2.out (fun _ _ h => h))
    have HON4 := hid (HON.out.trans HO2.out (fun _ h _ => h))
    clear ho2 CS
    go_wp2
    go_roundw
    case rel => exact ⟨j + 1, rfl, by omega, hid (by rw [HST.out]; exact HROW5.out), HON4⟩
    case measure => show _ - _ < _ - _; simp only [intOf]; omega
  ·have hje : j = l.length := by omega
   subst hje
   go_wp2
   go_ret
   refine ⟨_, rfl, ?_, HON.out⟩
   rw [show typesP st l = typesP st (l.take l.length) by rw [List.take_length]]
   exact HROW.out
theorem GoodK.descs {ks : List KindV} (hg : GoodK ks) : DescsAll ks := fun k hk m hm => by have := ((hg.fine k hk).fnm m hm).2; omega
set_option maxRecDepth 100000 in
theorem pSlotsAny {G : Nat → Prop} {fv : Nat → Value} {pb : Nat} {ks : List KindV} {cl : Nat → ClassV} {sl : Nat → Nat → Int} (hg : GoodK ks) : ∀ (m : Nat) (x : Int), (seqX ks x).length = m → ∀ w : World, ProgG G fv w pb ks cl sl →
  Calls Tryz.prog 31 #[.pointer (some ⟨pb, 0, none⟩), .int .i64 x] w (TypesTo w (slotsAny ks x)) := by
 obtain ⟨i0, hi, hz0, hz1, hz2⟩ := info_parts info_type
 have hp0 := hg.pos
 intro m
 induction m with
 | zero =>
  intro x hm w h
  have hx : ¬ (0 ≤ x ∧ x < (ks.length : Int)) := fun hx => by
   obtain ⟨j, rfl⟩ := Int.eq_ofNat_of_zero_le hx.1
   rw [seqX_step hg.ends (by omega)] at hm
   cases hm
  have hs : slotsAny ks x = [] := by
   unfold slotsAny
   split
   ·rfl
   ·exact slotsZ_end (by omega)
  have c1 := pHas h (by omega) x
  rw [show (decide (0 ≤ x) && decide (x < (ks.length : Int))) = false by simp; omega] at c1
  have C1 := hid c1
  rw [hs]
  clear h hm hx hs c1
  go_enter Tryz.func31, Tryz.ntmps31
  go_wp2_with (fail)
  refine C1.out.mono ?_
  rintro e w1 ⟨rfl, hww⟩
  subst hww
  go_wp2
  go_ret
  exact ⟨_, rfl, TRow.nil _ _, Only.refl _ _⟩
 | succ m ih =>
  intro x hm w h
  have hx : 0 ≤ x ∧ x < (ks.length : Int) := Classical.byContradiction (fun hx => by
   have : seqX ks x = [] := by
    by_cases h0 : x < 0
    ·exact seqX_neg h0
    ·exact seqX_out (by omega)
   rw [this] at hm
   cases hm)
  obtain ⟨j, rfl⟩ := Int.eq_ofNat_of_zero_le hx.1
  have hj : j < ks.length := by omega
  rw [seqX_step hg.ends hj, List.length_cons] at hm
  have hk0 := getD_mem hj
  have hst : slotsAny ks (j : Int) = slotsAny ks (superZ ks j) ++ typesP false (ks.getD j default).fields := by
   have h1 := superZ_lt ks j
   unfold slotsAny
   rw [if_neg (by omega), if_neg (by omega), slotsZ_step hg.ends hj, typesP_flag (hg.fine _ hk0).ff]
   rfl
  have hle : (slotsAny ks (superZ ks j)).length ≤ 4160 := by
   have h1 := superZ_lt ks j
   unfold slotsAny
   rw [if_neg (by omega), slotsZ_len]
   exact slotsN_small hg.small hg.ends h1
  have hfl := (hg.fine _ hk0).fields
  have hul := typesP_le false (ks.getD j default).fields
  have c1 := pHas h (by omega) (j : Int)
  rw [show (decide (0 ≤ (j : Int)) && decide ((j : Int) < (ks.length : Int))) = true by simp; omega] at c1
  have C1 := hid c1
  have CS := hid (pSuper h (by omega) hg.root hg.fine (j : Int))
  have IH := hid (fun W (hW : Only (fun _ => False) w W) => ih (superZ ks j) (by omega) W (h.only hW))
  have CT := hid (fun W (hW : Only (fun _ => False) w W) => pTypesOf (fv j) (ks.getD j default).fields (sl j) false W ((h.fields j hj).mem.only hW) (by omega) (hg.descs _ hk0))
  obtain ⟨b, o, cap, mb, q0, -, e1, e2, -, hk⟩ := h.open (by omega)
  obtain ⟨iv, qi, hkn⟩ := hk j hj
  obtain ⟨T, v, vom, rfl, -, -, ⟨nn, hq, hen, hcalls⟩, -, -⟩ := hkn.told
  have CF := hid hcalls
  have hjz : (j : Int) < (ks.length : Int) := by omega
  have hj0 : (0 : Int) ≤ (j : Int) := by omega
  have Q0 := hid q0
  have QI := hid qi
  have HST := hid hst
  generalize superZ ks (j : Int) = sj at *
  generalize typesP false (ks.getD j default).fields = us at *
  obtain ⟨ts, hts⟩ : ∃ ts, slotsAny ks sj = ts := ⟨_, rfl⟩
  rw [hts] at hle HST IH
  generalize fv j = fj at *
  clear h hm hx c1 ih hk hkn hcalls hst q0 qi hts hk0
  go_enter Tryz.func31, Tryz.ntmps31
  go_wp2_with (fail)
  refine C1.out.mono ?_
  rintro e w1 ⟨rfl, hww⟩
  subst hww
  go_wp2_with (fail)
  refine CS.out.mono ?_
  rintro e w2 ⟨rfl, ho2⟩
  have HO2 := hid ho2
  clear ho2
  go_wp2_with (fail)
  refine (IH.out _ HO2.out).mono ?_
  rintro e w3 ⟨r3, rfl, hr3, ho3⟩
  obtain ⟨a3, c3, rfl, t1, t2, -, -⟩ := id hr3.types
  have HO3 := hid (HO2.out.trans ho3 (fun _ h _ => h))
  have HR3 := hid (World.ownsRow.mono hr3 HO2.out.size)
  have q0 := HO3.out.cell Q0.out (fun h => h)
  have qi := HO3.out.cell QI.out (fun h => h)
  clear hr3 ho3
  go_wp2_with (fail)
  refine (CF.out _ HO3.out).mono ?_
  rintro e w4 ⟨rfl, ho4⟩
  have HO4 := hid (HO3.out.trans ho4 (fun _ h _ => h))
  have HO4r := hid ho4
  clear ho4 q0 qi
  go_wp2_with (fail)
  refine (CT.out _ HO4.out).mono ?_
  rintro e w5 ⟨r5, rfl, hr5, ho5⟩
  obtain ⟨a5, c5, rfl, s1, s2, -, -⟩ := id hr5.types
  have h35 := HO4r.out.trans ho5 (fun _ h _ => h)
  have HO5 := hid (HO3.out.trans h35 (fun _ h _ => h))
  have HROW5 := hid (TRow.only HR3.out h35 (fun _ _ h => h))
  have HSRC := hid (Src.of_types hr5.types)
  have HBASE := hid HO5.out.size
  clear hr5 ho5 h35
  go_wp2_with (at_builtin; go_loud (refine wpList_append_src rfl (.tmp 15) (.tmp 24) 62 rfl 117 i0 (.agg #[.int .i64 0, .string ⟨#[]⟩, .int .i64 0, .int .i64 0, .int .i64 0]) 5 48 Tryz.underlying62 hi hz0 hz1 hz2 rfl (by decide) w.heap.size (.slice a3 ts.length c3) ts.length (ts.flatMap cellsTy) rfl (by exact HROW5.out) (by exact HBASE.out) (.slice a5 us.length c5) us.length (us.flatMap cellsTy) rfl (by exact HSRC.out) (by unfold maxLen; omega) (by omega) ?_); intro v' w6 hown hgrow hnew; have hos := only_grownT hgrow; have hrow6 := TRow.join hown; have hon6 := HO5.out.trans hos (fun j hj hl => by have := (TRow.ge HROW5.out _ hj).1; omega); clear hown hgrow hnew hos; have HROW6 := hid hrow6; have HON6 := hid hon6; clear hrow6 hon6)
  go_ret
  rw [HST.out]
  exact ⟨_, rfl, HROW6.out, HON6.out⟩
theorem statics_step {ks : List KindV} (hg : GoodK ks) {n : Nat} (h : n < ks.length) : staticsZ ks (n + 1) = staticsZ ks n ++ typesP true (ks.getD n default).fields := by
 rw [staticsZ_step h, typesP_flag (hg.fine _ (getD_mem h)).ff]
 rfl
set_option maxRecDepth 100000 in
theorem pStatics {G : Nat → Prop} {fv : Nat → Value} {pb : Nat} {ks : List KindV} {cl : Nat → ClassV} {sl : Nat → Nat → Int} {w : World} (h : ProgG G fv w pb ks cl sl) (hg : GoodK ks) :
  Calls Tryz.prog 25 #[.pointer (some ⟨pb, 0, none⟩)] w (TypesTo w (staticsZ ks ks.length)) := by
 obtain ⟨i0, hi, hz0, hz1, hz2⟩ := info_parts info_type
 have hp0 := hg.pos
 have hkl := hg.small.1
 have C1 := hid (pLen h (by omega))
 have H := hid h
 have HG := hid hg
 obtain ⟨b, o, cap, mb, g0, -, e1, e2, -, hk⟩ := h.open (by omega)
 have HK := hid hk
 clear h hg hk
 go_enter Tryz.func25, Tryz.ntmps25
 go_wp2_with (fail)
 refine C1.out.mono ?_
 rintro e w1 ⟨rfl, hww⟩
 subst hww
 go_wp2
 go_loopw [7, 3] (fun iv lv wr => ∃ j : Nat, iv = .int .i64 j ∧ j ≤ ks.length ∧ Hid (TRow wr w.heap.size lv (staticsZ ks j)) ∧ Hid (Only (fun _ => False) w wr)) (fun iv _ _ => ks.length - (intOf iv).toNat)
 case atStart => exact ⟨0, rfl, Nat.zero_le _, hid (TRow.nil _ _), hid (Only.refl _ _)⟩
 case round =>
  obtain ⟨j, rfl, hj, HROW, HON⟩ := hrel
  obtain ⟨al, cl', rfl, l1, l2, -, -⟩ := id HROW.out.types
  by_cases hlt : j < ks.length
  ·have hjz : (j : Int) < (ks.length : Int) := by omega
   have hj0 : (0 : Int) ≤ (j : Int) := by omega
   obtain ⟨iv, qi0, hkn⟩ := HK.out j hlt
   obtain ⟨T, v, vom, rfl, -, -, ⟨nn, hq, hen, hcalls⟩, -, -⟩ := hkn.told
   have CF := hid (hcalls wr HON.out)
   have q0 := HON.out.cell g0 (fun h => h)
   have qi := HON.out.cell qi0 (fun h => h)
   have hfl := (HG.out.fine _ (getD_mem hlt)).fields
   have hul := typesP_le true (ks.getD j default).fields
   have hln : (staticsZ ks j).length ≤ 64 * j := by rw [staticsZ_len (Nat.le_of_lt hlt)]; exact staticsN_le HG.out.small (Nat.le_of_lt hlt)
   have HST := hid (statics_step HG.out hlt)
   have CT := hid (fun W (hW : Only (fun _ => False) w W) => pTypesOf (fv j) (ks.getD j default).fields (sl j) true W ((H.out.fields j hlt).mem.only hW) (by omega) (HG.out.descs _ (getD_mem hlt)))
   generalize typesP true (ks.getD j default).fields = us at *
   generalize staticsZ ks j = ts at *
   generalize fv j = fj at *
   clear hkn hcalls qi0
   go_wp2_with (fail)
   refine CF.out.mono ?_
   rintro e w4 ⟨rfl, ho4⟩
   have HO4 := hid (HON.out.trans ho4 (fun _ h _ => h))
   have HO4r := hid ho4
   clear ho4 q0 qi
   go_wp2_with (fail)
   refine (CT.out _ HO4.out).mono ?_
   rintro e w5 ⟨r5, rfl, hr5, ho5⟩
   obtain ⟨a5, c5, rfl, s1, s2, -, -⟩ := id hr5.types
   have h35 := HO4r.out.trans ho5 (fun _ h _ => h)
   have HO5 := hid (HON.out.trans h35 (fun _ h _ => h))
   have HROW5 := hid (TRow.only HROW.out h35 (fun _ _ h => h))
   have HSRC := hid (Src.of_types hr5.types)
   have HBASE := hid HO5.out.size
   clear hr5 ho5 h35
   go_wp2_with (at_builtin; go_loud (refine wpList_append_src rfl (.tmp 10) (.tmp 19) 62 rfl 117 i0 (.agg #[.int .i64 0, .string ⟨#[]⟩, .int .i64 0, .int .i64 0, .int .i64 0]) 5 48 Tryz.underlying62 hi hz0 hz1 hz2 rfl (by decide) w.heap.size (.slice al ts.length cl') ts.length (ts.flatMap cellsTy) rfl (by exact HROW5.out) (by exact HBASE.out) (.slice a5 us.length c5) us.length (us.flatMap cellsTy) rfl (by exact HSRC.out) (by unfold maxLen; omega) (by omega) ?_); intro v' w6 hown hgrow hnew; have hos := only_grownT hgrow; have hrow6 := TRow.join hown; have hon6 := HO5.out.trans hos (fun j hj hl => by have := (TRow.ge HROW5.out _ hj).1; omega); clear hown hgrow hnew hos; have HROW6 := hid hrow6; have HON6 := hid hon6; clear hrow6 hon6)
   go_roundw
   case rel => exact ⟨j + 1, rfl, by omega, hid (by rw [HST.out]; exact HROW6.out), HON6⟩
   case measure => show _ - _ < _ - _; simp only [intOf]; omega
  ·have hje : j = ks.length := by omega
   subst hje
   go_wp2
   go_ret
   exact ⟨_, rfl, HROW.out, HON.out⟩
end Go.Proofs.YtemplkpcckmcoaaGreatDoor
