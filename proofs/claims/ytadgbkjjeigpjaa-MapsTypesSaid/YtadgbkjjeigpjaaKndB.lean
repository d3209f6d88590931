/- The document's own reading of a field's descriptor at the beginning of a text. No condition but a length that a text can have. -/
import Derived.Test.YtadgbkjjeigpjaaKndW
namespace Go.Proofs.Ytadgbkjjeigpjaa
open Go.RowKit
set_option linter.unusedVariables false
set_option linter.unusedSimpArgs false

theorem info5_type : (Try.prog.info? 59).map (·.size) = some 5 := by kernel_rfl
theorem type_result3 {fn : Func} {p q q2 : Tmp} (hr : fn.results = #[.cell p 59, .tmp q, .tmp q2]) {w : World} {b : Nat} {t : TypeV} {x y : Value} {tmps : Array Value} (h : w.heap[b]? = some (.cells #[.int .i64 t.k, .string t.name, .int .i64 t.dims, .int .i64 t.elem, .int .i64 t.at_] 59 (0, 0))) (ht : tmps.getD p undef = .pointer (some ⟨b, 0, none⟩)) (hx : tmps.getD q undef = x) (hy : tmps.getD q2 undef = y) :
    (results fn tmps).run Try.prog w = .ok (.tuple #[valT t, x, y]) w := by
  have hp' : tmps[p]?.getD undef = .pointer (some ⟨b, 0, none⟩) := by simpa using ht
  have hx' : tmps[q]?.getD undef = x := by simpa using hx
  have hy' : tmps[q2]?.getD undef = y := by simpa using hy
  have hL := run_loadVar_row w b 59 59 _ (0, 0) _ h Try.underlying59 rfl info5_type
  simp only [results, hr]
  simp [Sem.run_bind, Result.andThen, hp', hx', hy', asAddr, hL, valT]
theorem heap2 {w : World} {c d : Array Value} {s t : TypeId} : ((w.alloc (.cells c s)).alloc (.cells d t)).heap[w.heap.size]? = some (.cells c s (0, 0)) :=
  ((Only.refl (fun _ => False) (w.alloc (.cells c s))).alloc (.cells d t)).heap (heap_alloc_new w (.cells c s)) (fun h => h)
def FieldTo (w : World) (r : Option (TypeV × List Int)) (e : Ending) (w' : World) : Prop := e = .returned (.tuple #[valT (typF r), .string (restF r), .bool (okF r)]) ∧ Only (fun _ => False) w w'
theorem FieldTo.no {w w' : World} {r : Option (TypeV × List Int)} (h : r = none) (ho : Only (fun _ => False) w w') : FieldTo w r (.returned (.tuple #[valT zeroT, .string ⟨#[]⟩, .bool false])) w' := by subst h; exact ⟨rfl, ho⟩
theorem FieldTo.yes {w w' : World} {r : Option (TypeV × List Int)} {t : TypeV} {zs : List Int} {u : ByteArray} (h : r = some (t, zs)) (hu : nums u = zs) (ho : Only (fun _ => False) w w') : FieldTo w r (.returned (.tuple #[valT t, .string u, .bool true])) w' := by
  subst h
  refine ⟨?_, ho⟩
  rw [str_of hu]
  rfl
theorem base_nil (d : Nat) : baseZ d [] = none := rfl
theorem base_deep {d : Nat} (zs : List Int) (h : 4 < d) : baseZ d zs = none := by
  cases zs with
  | nil => rfl
  | cons c r => show (if 4 < d then none else _) = none; rw [if_pos h]
set_option maxHeartbeats 8000000 in
set_option maxRecDepth 100000 in
theorem refField0 (s : ByteArray) (w : World) (hs : s.size ≤ 281474976710656) :
    Calls Try.prog 53 #[.string s] w (FieldTo w (fieldZ (nums s))) := by
  obtain ⟨r, hr⟩ : ∃ r, r = fieldZ (nums s) := ⟨_, rfl⟩
  rw [← hr]
  have HR := Lib.hid hr
  clear hr
  go_enter Try.func53, Try.ntmps53
  go_wp2
  go_loop [0, 5] (fun v d => ∃ (j : Nat) (t : ByteArray), v = .string t ∧ d = .int .i64 j ∧ j ≤ s.size ∧ nums t = (nums s).drop j ∧ t.size + j = s.size ∧ dimsZ (nums s) = j + dimsZ ((nums s).drop j)) (fun _ d => s.size - (intOf d).toNat)
  case atStart => exact ⟨0, s, rfl, rfl, Nat.zero_le _, rfl, rfl, by simp⟩
  case round =>
    obtain ⟨j, t, rfl, rfl, hj, hnt, hsz, hdm⟩ := hrel
    have HNT := Lib.hid hnt
    have HDM := Lib.hid hdm
    have hts : t.size ≤ s.size := by omega
    have hjs : j ≤ s.size := hj
    have HSZ := Lib.hid hsz
    clear hnt hdm hsz hj
    by_cases h0 : 0 < t.size
    · have h0z : (0 : Int) < (t.size : Int) := by omega
      by_cases hc : ((t[0].toNat : Nat) : Int) = 91
      · have HN : Hid (dimsZ (nums s) = (j + 1) + dimsZ ((nums s).drop (j + 1))) := by
          refine Lib.hid (dims_step (by rw [nums_len]; have := HSZ.out; omega) HDM.out ?_)
          have := nums_at h0
          rw [HNT.out] at this
          rw [← hc, ← this]
          simp [List.getD]
        have HN2 : Hid (nums (t.extract 1 t.size) = (nums s).drop (j + 1)) := Lib.hid (by rw [nums_rest, HNT.out, List.drop_drop])
        have HN3 : Hid ((t.extract 1 t.size).size + (j + 1) = s.size) := Lib.hid (by have := HSZ.out; simp; omega)
        go_wp2
        go_round
        case rel => exact ⟨j + 1, _, rfl, by go_num, by have := HSZ.out; omega, HN2.out, HN3.out, HN.out⟩
        case measure => have := HSZ.out; simp [intOf]; omega
      · have HRB : Hid (r = baseZ j (nums t)) := by
          refine Lib.hid ?_
          rw [HR.out]
          unfold fieldZ
          rw [dims_stop (j := j) (by rw [nums_len]; omega) HDM.out (by
            by_cases e : j = (nums s).length
            · exact .inl e
            · refine .inr ?_
              have hn := nums_at h0
              rw [HNT.out] at hn
              have hn2 : (nums s).getD j 0 = ((t[0].toNat : Nat) : Int) := by rw [← hn]; simp [List.getD]
              rw [hn2]; exact hc), ← HNT.out]
        have hne : t.toList.isEmpty = false := by
          rw [ByteArray.toList_eq]
          cases hq : t.data.toList with
          | nil => have : t.size = 0 := by simp [ByteArray.size, ← Array.length_toList, hq]
                   omega
          | cons _ _ => rfl
        have hne2 : ¬ t.toList = [] := fun h => by rw [h] at hne; cases hne
        by_cases hd4 : 4 < j
        · have HB := Lib.hid (show r = none by rw [HRB.out, base_deep _ hd4])
          have hd4z : (4 : Int) < (j : Int) := by omega
          go_wp2
          refine bodyPost_ret (type_result3 (t := zeroT) (b := w.heap.size) Try.results53 (heap_alloc_new w _) rfl rfl rfl) rfl (FieldTo.no HB.out ((Only.refl _ w).alloc _))
        have hd4z : ¬ (4 : Int) < (j : Int) := by omega
        have hcb : (((t[0].toNat : Nat) : Int) == 91) = false := by rw [beq_eq_false_iff_ne]; exact hc
        obtain ⟨c, hcc⟩ : ∃ c : Int, ((t[0].toNat : Nat) : Int) = c := ⟨_, rfl⟩
        have HC : Hid (nums t = c :: (nums t).drop 1) := by
          refine Lib.hid ?_
          have hlt : 0 < (nums t).length := by rw [nums_len]; exact h0
          have e := List.drop_eq_getElem_cons hlt
          rw [List.drop_zero] at e
          rw [← hcc, ← nums_at h0]
          simpa [List.getD, hlt] using e
        have HBZ : Hid (r = if c = 73 then some (arrT j 1 ⟨#[]⟩, (nums t).drop 1) else if c = 74 then some (arrT j 2 ⟨#[]⟩, (nums t).drop 1) else if c = 76 then (if semiZ ((nums t).drop 1) = ((nums t).drop 1).length then none else if plainN (((nums t).drop 1).take (semiZ ((nums t).drop 1))) then some (arrT j 4 (strOfNums (((nums t).drop 1).take (semiZ ((nums t).drop 1)))), ((nums t).drop 1).drop (semiZ ((nums t).drop 1) + 1)) else none) else none) := by
          refine Lib.hid ?_
          rw [HRB.out, HC.out]
          show (if 4 < j then none else _) = _
          rw [if_neg hd4]
          rfl
        rw [hcc] at hcb
        clear hc HR HDM HNT hd4 HRB HC
        by_cases c1 : c = 73
        · subst c1
          have HBB := Lib.hid (show r = some (arrT j 1 ⟨#[]⟩, (nums t).drop 1) by rw [HBZ.out, if_pos rfl])
          by_cases hd0 : 0 < j
          · have HB := Lib.hid (show r = some (⟨5, ⟨#[]⟩, (j : Int), 1, 0⟩, _) by rw [HBB.out]; unfold arrT; rw [if_pos hd0])
            have hd0z : (0 : Int) < (j : Int) := by omega
            clear HBB
            go_wp2
            refine bodyPost_ret (type_result3 (t := ⟨5, ⟨#[]⟩, (j : Int), 1, 0⟩) (b := w.heap.size) Try.results53 heap2 rfl rfl rfl) rfl (FieldTo.yes HB.out (nums_rest t 1) (((Only.refl _ w).alloc _).alloc _))
          · have HB := Lib.hid (show r = some (⟨1, ⟨#[]⟩, 0, 0, 0⟩, _) by rw [HBB.out]; unfold arrT; rw [if_neg hd0])
            obtain rfl : j = 0 := by omega
            clear HBB
            go_wp2
            refine bodyPost_ret (type_result3 (t := ⟨1, ⟨#[]⟩, 0, 0, 0⟩) (b := w.heap.size) Try.results53 heap2 rfl rfl rfl) rfl (FieldTo.yes HB.out (nums_rest t 1) (((Only.refl _ w).alloc _).alloc _))
        by_cases c2 : c = 74
        · subst c2
          have HBB := Lib.hid (show r = some (arrT j 2 ⟨#[]⟩, (nums t).drop 1) by rw [HBZ.out, if_neg (by decide), if_pos rfl])
          by_cases hd0 : 0 < j
          · have HB := Lib.hid (show r = some (⟨5, ⟨#[]⟩, (j : Int), 2, 0⟩, _) by rw [HBB.out]; unfold arrT; rw [if_pos hd0])
            have hd0z : (0 : Int) < (j : Int) := by omega
            clear HBB
            go_wp2
            refine bodyPost_ret (type_result3 (t := ⟨5, ⟨#[]⟩, (j : Int), 2, 0⟩) (b := w.heap.size) Try.results53 heap2 rfl rfl rfl) rfl (FieldTo.yes HB.out (nums_rest t 1) (((Only.refl _ w).alloc _).alloc _))
          · have HB := Lib.hid (show r = some (⟨2, ⟨#[]⟩, 0, 0, 0⟩, _) by rw [HBB.out]; unfold arrT; rw [if_neg hd0])
            obtain rfl : j = 0 := by omega
            clear HBB
            go_wp2
            refine bodyPost_ret (type_result3 (t := ⟨2, ⟨#[]⟩, 0, 0, 0⟩) (b := w.heap.size) Try.results53 heap2 rfl rfl rfl) rfl (FieldTo.yes HB.out (nums_rest t 1) (((Only.refl _ w).alloc _).alloc _))
        have b1 : (c == 73) = false := by rw [beq_eq_false_iff_ne]; exact c1
        have b2 : (c == 74) = false := by rw [beq_eq_false_iff_ne]; exact c2
        by_cases c3 : c = 76
        · subst c3
          obtain ⟨u, hu⟩ : ∃ u, u = (nums t).drop 1 := ⟨_, rfl⟩
          have hul : u.length + 1 = t.size := by rw [hu, List.length_drop, nums_len]; omega
          have HL : Hid (r = if semiZ u = u.length then none else if plainN (u.take (semiZ u)) then some (arrT j 4 (strOfNums (u.take (semiZ u))), u.drop (semiZ u + 1)) else none) := Lib.hid (by rw [HBZ.out, if_neg (by decide), if_neg (by decide), if_pos rfl, ← hu])
          have HU := Lib.hid hu
          have HUL := Lib.hid hul
          clear HBZ hu hul c1 c2
          go_wp2
          go_loop [7] (fun v => ∃ a : Nat, v = .int .i64 a ∧ 1 ≤ a ∧ a ≤ t.size ∧ semiZ u = (a - 1) + semiZ (u.drop (a - 1))) (fun v => t.size - (intOf v).toNat)
          case atStart => exact ⟨1, rfl, by omega, by omega, by simp⟩
          case round =>
            obtain ⟨a, rfl, ha1, ha2, hsm⟩ := hrel
            have HSM := Lib.hid hsm
            have ha1z : (1 : Int) ≤ (a : Int) := by omega
            clear hsm
            by_cases hat : a < t.size
            · have hatz : (a : Int) < (t.size : Int) := by omega
              have HG : Hid (u.getD (a - 1) 0 = ((t[a].toNat : Nat) : Int)) := by
                refine Lib.hid ?_
                rw [HU.out, ← nums_at hat]
                simp only [List.getD, List.getElem?_drop]
                rw [show 1 + (a - 1) = a by omega]
              by_cases hs : ((t[a].toNat : Nat) : Int) = 59
              · have hsb : (((t[a].toNat : Nat) : Int) != 59) = false := by rw [bne, hs]; rfl
                have hatb : ((a : Int) == (t.size : Int)) = false := by rw [beq_eq_false_iff_ne]; omega
                have HM : Hid (semiZ u = a - 1) := Lib.hid (semi_stop (by have := HUL.out; omega) HSM.out (.inr (by rw [HG.out]; exact hs)))
                have HNN : Hid (nums (t.extract 1 a) = u.take (a - 1)) := Lib.hid (by rw [nums_extract, HU.out])
                have HRS : Hid (nums (t.extract (a + 1) t.size) = u.drop (a - 1 + 1)) := Lib.hid (by rw [nums_rest, HU.out, List.drop_drop]; congr 1; omega)
                have HL2 : Hid (r = if plainN (u.take (a - 1)) then some (arrT j 4 (strOfNums (u.take (a - 1))), u.drop (a - 1 + 1)) else none) := by
                  refine Lib.hid ?_
                  rw [HL.out, HM.out, if_neg (by have := HUL.out; omega)]
                have cp := fun w => refPlainN (t.extract 1 a) w (by simp; omega)
                rw [HNN.out] at cp
                cases hpl : plainN (u.take (a - 1))
                · have HB := Lib.hid (show r = none by rw [HL2.out, hpl]; rfl)
                  rw [hpl] at cp
                  have CP := Lib.hid cp
                  clear cp hpl hs HL2 HL HM HNN HRS
                  go_wp2_with (fail)
                  refine (CP.out _).mono ?_
                  rintro e w2 ⟨rfl, rfl⟩
                  go_wp2
                  refine bodyPost_ret (type_result3 (t := zeroT) (b := w.heap.size) Try.results53 heap2 rfl rfl rfl) rfl (FieldTo.no HB.out (((Only.refl _ w).alloc _).alloc _))
                · have HBB := Lib.hid (show r = some (arrT j 4 (t.extract 1 a), u.drop (a - 1 + 1)) by rw [HL2.out, hpl, str_of HNN.out]; rfl)
                  rw [hpl] at cp
                  have CP := Lib.hid cp
                  clear cp hpl hs HL2 HL HM HNN
                  go_wp2_with (fail)
                  refine (CP.out _).mono ?_
                  rintro e w2 ⟨rfl, rfl⟩
                  by_cases hd0 : 0 < j
                  · have HB := Lib.hid (show r = some (⟨5, t.extract 1 a, (j : Int), 4, 0⟩, _) by rw [HBB.out]; unfold arrT; rw [if_pos hd0])
                    have hd0z : (0 : Int) < (j : Int) := by omega
                    clear HBB
                    go_wp2
                    refine bodyPost_ret (type_result3 (t := ⟨5, t.extract 1 a, (j : Int), 4, 0⟩) (b := w.heap.size) Try.results53 heap2 rfl rfl rfl) rfl (FieldTo.yes HB.out HRS.out (((Only.refl _ w).alloc _).alloc _))
                  · have HB := Lib.hid (show r = some (⟨4, t.extract 1 a, 0, 0, 0⟩, _) by rw [HBB.out]; unfold arrT; rw [if_neg hd0])
                    obtain rfl : j = 0 := by omega
                    clear HBB
                    go_wp2
                    refine bodyPost_ret (type_result3 (t := ⟨4, t.extract 1 a, 0, 0, 0⟩) (b := w.heap.size) Try.results53 heap2 rfl rfl rfl) rfl (FieldTo.yes HB.out HRS.out (((Only.refl _ w).alloc _).alloc _))
              · have hsb : (((t[a].toNat : Nat) : Int) != 59) = true := by rw [bne_iff_ne]; exact hs
                have HN := Lib.hid (semi_step (by have := HUL.out; omega) HSM.out (by rw [HG.out]; exact hs))
                clear hs
                go_wp2
                go_round
                case rel => exact ⟨a + 1, by go_num, by omega, by omega, by have := HN.out; rw [show a + 1 - 1 = a - 1 + 1 by omega]; exact this⟩
                case measure => simp [intOf]; omega
            · obtain rfl : a = t.size := by omega
              have HM : Hid (semiZ u = t.size - 1) := Lib.hid (semi_stop (by have := HUL.out; omega) HSM.out (.inl (by have := HUL.out; omega)))
              have HB : Hid (r = none) := Lib.hid (by rw [HL.out, if_pos (by rw [HM.out]; have := HUL.out; omega)])
              clear hat
              go_wp2
              refine bodyPost_ret (type_result3 (t := zeroT) (b := w.heap.size) Try.results53 heap2 rfl rfl rfl) rfl (FieldTo.no HB.out (((Only.refl _ w).alloc _).alloc _))

        · have b3 : (c == 76) = false := by rw [beq_eq_false_iff_ne]; exact c3
          have HB := Lib.hid (show r = none by rw [HBZ.out, if_neg c1, if_neg c2, if_neg c3])
          clear c1 c2 c3 HBZ
          go_wp2
          refine bodyPost_ret (type_result3 (t := zeroT) (b := w.heap.size) Try.results53 heap2 rfl rfl rfl) rfl (FieldTo.no HB.out (((Only.refl _ w).alloc _).alloc _))
    · have ht0 : t = ⟨#[]⟩ := nums_inj (List.eq_nil_of_length_eq_zero (by rw [nums_len]; omega))
      have HB : Hid (r = none) := by
        refine Lib.hid ?_
        rw [HR.out]
        unfold fieldZ
        rw [dims_stop (j := j) (by rw [nums_len]; omega) HDM.out (.inl (by rw [nums_len]; have := HSZ.out; omega)), ← HNT.out, ht0]
        rfl
      subst ht0
      clear HNT HDM h0
      go_wp2
      refine bodyPost_ret (type_result3 (t := zeroT) (b := w.heap.size) Try.results53 (heap_alloc_new w _) rfl rfl rfl) rfl (FieldTo.no HB.out ((Only.refl _ w).alloc _))
end Go.Proofs.Ytadgbkjjeigpjaa
