/- The program's reading of a field's descriptor at the beginning of a text. No condition but a length that a text can have. -/
import Derived.Test.YtadgbkjjeigpjaaDoorKndSh
namespace Go.Proofs.YtadgbkjjeigpjaaDoor
open Go.RowKit
set_option linter.unusedVariables false
set_option linter.unusedSimpArgs false

set_option maxHeartbeats 2000000 in
set_option maxRecDepth 100000 in
theorem progIsName (s : ByteArray) (w : World) (hs : s.size ≤ 281474976710656) :
    Calls Tryd.prog 79 #[.string s] w fun e w' => e = .returned (.bool (plainN (nums s))) ∧ w = w' := by
  have hl := nums_len s
  by_cases h1 : s = ⟨#[]⟩
  · subst h1
    have hte := toList_empty
    go_enter Tryd.func79, Tryd.ntmps79
    go_wp2
    go_ret
    exact ⟨rfl, rfl⟩
  obtain ⟨t1, t2⟩ := toList_ne h1
  have hte := toList_empty
  have h1s : 0 < s.size := by
    rcases Nat.eq_zero_or_pos s.size with h | h
    · exact absurd (nums_inj (List.eq_nil_of_length_eq_zero (by rw [nums_len]; exact h))) h1
    · exact h
  by_cases h2 : 256 < s.size
  · have HP := Lib.hid (show plainN (nums s) = false by unfold plainN; rw [hl]; simp; omega)
    have h2z : 256 < (s.size : Int) := by omega
    clear hl h1
    go_enter Tryd.func79, Tryd.ntmps79
    go_wp2
    go_ret
    rw [HP.out]
    exact ⟨rfl, rfl⟩
  have h2z : ¬ 256 < (s.size : Int) := by omega
  have HL := Lib.hid hl
  clear hl h1
  go_enter Tryd.func79, Tryd.ntmps79
  go_wp2
  go_loop [13] (fun i => ∃ j : Nat, i = .int .i64 j ∧ j ≤ s.size ∧ ∀ n, n < j → badC ((nums s).getD n 0) = false) (fun i => s.size - (intOf i).toNat)
  case atStart => exact ⟨0, rfl, Nat.zero_le _, fun n hn => by omega⟩
  case round =>
    obtain ⟨j, rfl, hj, hbef⟩ := hrel
    have HBEF := Lib.hid hbef
    clear hbef
    by_cases hlt : j < s.size
    · have hjz : (j : Int) < (s.size : Int) := by omega
      have hg := nums_at hlt
      cases hbc : badC ((nums s).getD j 0)
      · have HNX : Hid (∀ n, n < j + 1 → badC ((nums s).getD n 0) = false) := by
          refine Lib.hid ?_
          intro n hnj
          by_cases hkj : n < j
          · exact HBEF.out n hkj
          · rw [show n = j by omega]; exact hbc
        rw [hg] at hbc
        obtain ⟨b1, b2, b3, b4, b5, b6⟩ := badC_no hbc
        clear hbc hg
        go_wp2
        go_round
        case rel => exact ⟨j + 1, by go_num, by omega, HNX.out⟩
        case measure => simp [intOf]; omega
      · have HP := Lib.hid (plainN_no (by rw [HL.out]; exact hlt) hbc)
        rw [hg] at hbc
        clear hg
        rcases badC_yes hbc with h | h | h | h | h | h
        all_goals
          clear hbc
          go_wp2
          go_ret
          rw [HP.out]
          exact ⟨rfl, rfl⟩
    · have HP := Lib.hid (plainN_yes (by rw [HL.out]; omega) (by rw [HL.out]; omega) (fun n hn => HBEF.out n (by rw [HL.out] at hn; omega)))
      obtain rfl : j = s.size := by omega
      clear hlt hj
      go_wp2
      go_ret
      rw [HP.out]
      exact ⟨rfl, rfl⟩

def sizeF (n : Nat) (r : Option (TypeV × List Int)) : Nat := match r with | some q => n - q.2.length | none => 0
def FlatTo (w : World) (n : Nat) (r : Option (TypeV × List Int)) (e : Ending) (w' : World) : Prop := e = .returned (.tuple #[valT (typF r), .int .i64 (sizeF n r)]) ∧ Only (fun _ => False) w w'
theorem FlatTo.no {w w' : World} {n : Nat} {r : Option (TypeV × List Int)} (h : r = none) (ho : Only (fun _ => False) w w') : FlatTo w n r (.returned (.tuple #[valT zeroT, .int .i64 0])) w' := by subst h; exact ⟨rfl, ho⟩
theorem FlatTo.yes {w w' : World} {n : Nat} {r : Option (TypeV × List Int)} {t : TypeV} {zs : List Int} {k : Int} (h : r = some (t, zs)) (hk : k = ((n - zs.length : Nat) : Int)) (ho : Only (fun _ => False) w w') : FlatTo w n r (.returned (.tuple #[valT t, .int .i64 k])) w' := by subst h; subst hk; exact ⟨rfl, ho⟩
theorem base_head {d : Nat} {zs : List Int} {c : Int} (h : zs = c :: zs.drop 1) (hd : ¬ 4 < d) : baseZ d zs = if c = 73 then some (arrT d 1 ⟨#[]⟩, zs.drop 1) else if c = 74 then some (arrT d 2 ⟨#[]⟩, zs.drop 1) else if c = 76 then (if semiZ (zs.drop 1) = (zs.drop 1).length then none else if plainN ((zs.drop 1).take (semiZ (zs.drop 1))) then some (arrT d 4 (strOfNums ((zs.drop 1).take (semiZ (zs.drop 1)))), (zs.drop 1).drop (semiZ (zs.drop 1) + 1)) else none) else none := by
  rw [h]
  show (if 4 < d then none else _) = _
  rw [if_neg hd]
  rfl
theorem nums_cons0 {t : ByteArray} (h0 : 0 < t.size) : nums t = ((t[0].toNat : Nat) : Int) :: (nums t).drop 1 := by
  have hlt : 0 < (nums t).length := by rw [nums_len]; exact h0
  have e := List.drop_eq_getElem_cons hlt
  rw [List.drop_zero] at e
  rw [← nums_at h0]
  simpa [List.getD, hlt] using e
set_option maxHeartbeats 8000000 in
set_option maxRecDepth 100000 in
theorem progFlat (t : ByteArray) (w : World) (hs : t.size ≤ 281474976710656) (h0 : 0 < t.size) :
    Calls Tryd.prog 67 #[.string t] w (FlatTo w t.size (baseZ 0 (nums t))) := by
  have hb := base_head (d := 0) (nums_cons0 h0) (by omega)
  have h0z : (0 : Int) < (t.size : Int) := by omega
  obtain ⟨r, hr⟩ : ∃ r, r = baseZ 0 (nums t) := ⟨_, rfl⟩
  rw [← hr] at hb ⊢
  obtain ⟨u, hu⟩ : ∃ u, u = (nums t).drop 1 := ⟨_, rfl⟩
  have hul : u.length + 1 = t.size := by rw [hu, List.length_drop, nums_len]; omega
  rw [← hu] at hb
  obtain ⟨c, hcc⟩ : ∃ c : Int, ((t[0].toNat : Nat) : Int) = c := ⟨_, rfl⟩
  rw [hcc] at hb
  have HBZ := Lib.hid hb
  have HU := Lib.hid hu
  have HUL := Lib.hid hul
  clear hr hu hul hb
  by_cases c1 : c = 73
  · subst c1
    have HB := Lib.hid (show r = some (⟨1, ⟨#[]⟩, 0, 0, 0⟩, u) by rw [HBZ.out, if_pos rfl]; rfl)
    go_enter Tryd.func67, Tryd.ntmps67
    go_wp2
    refine bodyPost_ret (type_result2 (t := ⟨1, ⟨#[]⟩, 0, 0, 0⟩) (b := w.heap.size) Tryd.results67 (heap_alloc_new w _) rfl rfl) rfl (FlatTo.yes HB.out (by have := HUL.out; omega) ((Only.refl _ w).alloc _))
  by_cases c2 : c = 74
  · subst c2
    have HB := Lib.hid (show r = some (⟨2, ⟨#[]⟩, 0, 0, 0⟩, u) by rw [HBZ.out, if_neg (by decide), if_pos rfl]; rfl)
    go_enter Tryd.func67, Tryd.ntmps67
    go_wp2
    refine bodyPost_ret (type_result2 (t := ⟨2, ⟨#[]⟩, 0, 0, 0⟩) (b := w.heap.size) Tryd.results67 (heap_alloc_new w _) rfl rfl) rfl (FlatTo.yes HB.out (by have := HUL.out; omega) ((Only.refl _ w).alloc _))
  have b1 : (c == 73) = false := by rw [beq_eq_false_iff_ne]; exact c1
  have b2 : (c == 74) = false := by rw [beq_eq_false_iff_ne]; exact c2
  by_cases c3 : c = 76
  · subst c3
    obtain ⟨x, hx⟩ : ∃ x, x = t.extract 1 t.size := ⟨_, rfl⟩
    have hxs : x.size + 1 = t.size := by rw [hx]; simp; omega
    have hxu : nums x = u := by rw [hx, nums_rest, HU.out]
    have HL : Hid (r = if semiZ u = u.length then none else if plainN (u.take (semiZ u)) then some (⟨4, strOfNums (u.take (semiZ u)), 0, 0, 0⟩, u.drop (semiZ u + 1)) else none) := Lib.hid (by rw [HBZ.out, if_neg (by decide), if_neg (by decide), if_pos rfl]; rfl)
    have cc := fun w => libCut x w (by omega)
    unfold cutTo cutV at cc
    rw [hxu] at cc
    have hsz := semiZ_le u
    have hz := heap_alloc_new w (.cells #[.int .i64 0, .string ⟨#[]⟩, .int .i64 0, .int .i64 0, .int .i64 0] 39)
    have ho0 := (Only.refl (fun _ => False) w).alloc (.cells #[.int .i64 0, .string ⟨#[]⟩, .int .i64 0, .int .i64 0, .int .i64 0] 39)
    have HZ := Lib.hid hz
    have HO := Lib.hid ho0
    obtain ⟨k, hk⟩ : ∃ k, semiZ u = k := ⟨_, rfl⟩
    rw [hk] at cc hsz
    have hlx : u.length = x.size := by have := HUL.out; omega
    have HLX := Lib.hid hlx
    clear hz ho0 c1 c2
    by_cases hend : k = x.size
    · rw [if_pos hend] at cc
      have HB : Hid (r = none) := Lib.hid (by rw [HL.out, if_pos (by rw [hk, hend, HLX.out])])
      have CC := Lib.hid cc
      clear cc hend hk hsz hlx HL hxu hxs
      go_enter Tryd.func67, Tryd.ntmps67
      go_wp2_with (fail)
      rw [← hx]
      refine (CC.out _).mono ?_
      rintro e w1 ⟨rfl, hd1⟩
      have hz1 := (hd1.only (S := fun _ => False)).heap HZ.out (fun h => h)
      obtain ⟨f0, f1, f2, f3, f4⟩ := marks5T hz1
      obtain ⟨q0, q1, q2, q3, q4⟩ := cells5T hz1
      have HZ1 := Lib.hid hz1
      have HO1 := Lib.hid (HO.out.trans (hd1.only (S := fun _ => False)) (fun _ h _ => h))
      clear hd1 hz1
      go_wp2
      exact bodyPost_ret (type_result2 (t := zeroT) (b := w.heap.size) Tryd.results67 (store5T HZ1.out) rfl rfl) rfl (FlatTo.no HB.out (only5T HO1.out (fun hl => absurd hl (Nat.lt_irrefl _))))
    · rw [if_neg hend] at cc
      have hkx : k + 1 ≤ x.size := by omega
      have hnm : nums (x.extract 0 k) = u.take k := by rw [nums_extract, hxu]; simp
      have hns : (x.extract 0 k).size = k := by simp; omega
      have HL2 : Hid (r = if plainN (u.take k) then some (⟨4, x.extract 0 k, 0, 0, 0⟩, u.drop (k + 1)) else none) := Lib.hid (by rw [HL.out, hk, if_neg (by rw [HLX.out]; exact hend), ← hnm, str_nums])
      have cp := fun w => progIsName (x.extract 0 k) w (by omega)
      rw [hnm] at cp
      have CC := Lib.hid cc
      have hdl : (k : Int) + 2 = ((t.size - (u.drop (k + 1)).length : Nat) : Int) := by rw [List.length_drop]; have := HUL.out; omega
      have HDL := Lib.hid hdl
      have hnl : ((x.extract 0 k).size : Int) = (k : Int) := by omega
      have hkb : (k : Int) ≤ 281474976710656 := by omega
      generalize x.extract 0 k = nm at *
      cases hpl : plainN (u.take k)
      · have HB := Lib.hid (show r = none by rw [HL2.out, hpl]; rfl)
        rw [hpl] at cp
        have CP := Lib.hid cp
        clear cc cp hend hk hsz hlx HL HL2 hxu hxs hpl hnm hns hdl hkx hnl hkb
        go_enter Tryd.func67, Tryd.ntmps67
        go_wp2_with (fail)
        rw [← hx]
        refine (CC.out _).mono ?_
        rintro e w1 ⟨rfl, hd1⟩
        have hz1 := (hd1.only (S := fun _ => False)).heap HZ.out (fun h => h)
        obtain ⟨f0, f1, f2, f3, f4⟩ := marks5T hz1
        obtain ⟨q0, q1, q2, q3, q4⟩ := cells5T hz1
        have HZ1 := Lib.hid hz1
        have HO1 := Lib.hid (HO.out.trans (hd1.only (S := fun _ => False)) (fun _ h _ => h))
        clear hd1 hz1
        go_wp2_with (fail)
        refine (CP.out _).mono ?_
        rintro e w2 ⟨rfl, rfl⟩
        go_wp2
        exact bodyPost_ret (type_result2 (t := zeroT) (b := w.heap.size) Tryd.results67 (store5T HZ1.out) rfl rfl) rfl (FlatTo.no HB.out (only5T HO1.out (fun hl => absurd hl (Nat.lt_irrefl _))))
      · have HB := Lib.hid (show r = some (⟨4, nm, 0, 0, 0⟩, u.drop (k + 1)) by rw [HL2.out, hpl]; rfl)
        rw [hpl] at cp
        have CP := Lib.hid cp
        clear cc cp hend hk hsz hlx HL HL2 hxu hxs hpl hnm hns hdl hkx
        go_enter Tryd.func67, Tryd.ntmps67
        go_wp2_with (fail)
        rw [← hx]
        refine (CC.out _).mono ?_
        rintro e w1 ⟨rfl, hd1⟩
        have hz1 := (hd1.only (S := fun _ => False)).heap HZ.out (fun h => h)
        obtain ⟨f0, f1, f2, f3, f4⟩ := marks5T hz1
        obtain ⟨q0, q1, q2, q3, q4⟩ := cells5T hz1
        have HZ1 := Lib.hid hz1
        have HO1 := Lib.hid (HO.out.trans (hd1.only (S := fun _ => False)) (fun _ h _ => h))
        clear hd1 hz1
        go_wp2_with (fail)
        refine (CP.out _).mono ?_
        rintro e w2 ⟨rfl, rfl⟩
        go_wp2
        exact bodyPost_ret (type_result2 (t := ⟨4, nm, 0, 0, 0⟩) (b := w.heap.size) Tryd.results67 (store5T HZ1.out) rfl rfl) rfl (FlatTo.yes HB.out (by rw [← HDL.out]; omega) (only5T HO1.out (fun hl => absurd hl (Nat.lt_irrefl _))))
  · have b3 : (c == 76) = false := by rw [beq_eq_false_iff_ne]; exact c3
    have HB := Lib.hid (show r = none by rw [HBZ.out, if_neg c1, if_neg c2, if_neg c3])
    clear c1 c2 c3 HBZ
    go_enter Tryd.func67, Tryd.ntmps67
    go_wp2
    refine bodyPost_ret (type_result2 (t := zeroT) (b := w.heap.size) Tryd.results67 (heap_alloc_new w _) rfl rfl) rfl (FlatTo.no HB.out ((Only.refl _ w).alloc _))
end Go.Proofs.YtadgbkjjeigpjaaDoor
