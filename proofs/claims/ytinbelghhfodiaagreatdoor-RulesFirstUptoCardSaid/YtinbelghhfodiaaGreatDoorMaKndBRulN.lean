import Derived.Test.YtinbelghhfodiaaGreatDoorMaPolLKndW
import Derived.Test.YtinbelghhfodiaaGreatDoorMaSepPolT
import Derived.ProofKit
namespace Go.Proofs.YtinbelghhfodiaaGreatDoor
set_option maxHeartbeats 8000000
open Lib (hid)
open Go.RowKit
set_option linter.unusedVariables false
set_option linter.unusedSimpArgs false
theorem info5_type : (Tryz.prog.info? 33).map (·.size) = some 5 := by kernel_rfl
theorem type_result3 {fn : Func} {p q q2 : Tmp} (hr : fn.results = #[.cell p 33, .tmp q, .tmp q2]) {w : World} {b : Nat} {t : TypeV} {x y : Value} {tmps : Array Value} (h : w.heap[b]? = some (.cells #[.int .i64 t.k, .string t.name, .int .i64 t.dims, .int .i64 t.elem, .int .i64 t.at_] 33 (0, 0))) (ht : tmps.getD p undef = .pointer (some ⟨b, 0, none⟩)) (hx : tmps.getD q undef = x) (hy : tmps.getD q2 undef = y) :
    (results fn tmps).run Tryz.prog w = .ok (.tuple #[valT t, x, y]) w := by
  have hp' : tmps[p]?.getD undef = .pointer (some ⟨b, 0, none⟩) := by simpa using ht
  have hx' : tmps[q]?.getD undef = x := by simpa using hx
  have hy' : tmps[q2]?.getD undef = y := by simpa using hy
  have hL := run_loadVar_row w b 33 33 _ (0, 0) _ h Tryz.underlying33 rfl info5_type
  simp only [results, hr]
  simp [Sem.run_bind, Result.andThen, hp', hx', hy', asAddr, hL, valT]
theorem heap2 {w : World} {c d : Array Value} {s t : TypeId} : ((w.alloc (.cells c s)).alloc (.cells d t)).heap[w.heap.size]? = some (.cells c s (0, 0)) :=
  ((Only.refl (fun _ => False) (w.alloc (.cells c s))).alloc (.cells d t)).heap (heap_alloc_new w (.cells c s)) (fun h => h)
def FieldTo (w : World) (r : Option (TypeV × List Int)) (e : Ending) (w' : World) : Prop := e = .returned (.tuple #[valT (typF r), .string (restF r), .bool (okF r)]) ∧ Only (fun _ => False) w w'
theorem FieldTo.no {w w' : World} {r : Option (TypeV × List Int)} (h : r = none) (ho : Only (fun _ => False) w w') : FieldTo w r (.returned (.tuple #[valT zeroT, .string ⟨#[]⟩, .bool false])) w' := by subst h; exact ⟨rfl, ho⟩
theorem FieldTo.yes {w w' : World} {r : Option (TypeV × List Int)} {t : TypeV} {zs : List Int} {u : ByteArray} (h : r = some (t, zs)) (hu : nums u = zs) (ho : Only (fun _ => False) w w') : FieldTo w r (.returned (.tuple #[valT t, .string u, .bool true])) w' := by
  subst h
  refine ⟨?_, ho⟩
  rw [str_of hu]
  rfl
theorem base_deep {d : Nat} (zs : List Int) (h : 4 < d) : baseZ d zs = none := by
  cases zs with
  | nil => rfl
  | cons c r => show (if 4 < d then none else _) = none; rw [if_pos h]
set_option maxRecDepth 100000 in
theorem refField0 (s : ByteArray) (w : World) (hs : s.size ≤ 281474976710656) :
    Calls Tryz.prog 86 #[.string s] w (FieldTo w (fieldZ (nums s))) := by
  obtain ⟨r, hr⟩ : ∃ r, r = fieldZ (nums s) := ⟨_, rfl⟩
  rw [← hr]
  have HR := hid hr
  clear hr
  go_enter Tryz.func86, Tryz.ntmps86
  go_wp2
  go_loop [0, 5] (fun v d => ∃ (j : Nat) (t : ByteArray), v = .string t ∧ d = .int .i64 j ∧ j ≤ s.size ∧ nums t = (nums s).drop j ∧ t.size + j = s.size ∧ dimsZ (nums s) = j + dimsZ ((nums s).drop j)) (fun _ d => s.size - (intOf d).toNat)
  case atStart => exact ⟨0, s, rfl, rfl, Nat.zero_le _, rfl, rfl, by simp⟩
  case round =>
    obtain ⟨j, t, rfl, rfl, hj, hnt, hsz, hdm⟩ := hrel
    have HNT := hid hnt
    have HDM := hid hdm
    have hts : t.size ≤ s.size := by omega
    have hjs : j ≤ s.size := hj
    have HSZ := hid hsz
    clear hnt hdm hsz hj
    by_cases h0 : 0 < t.size
    · have h0z : (0 : Int) < (t.size : Int) := by omega
      by_cases hc : ((t[0].toNat : Nat) : Int) = 91
      · have HN : Hid (dimsZ (nums s) = (j + 1) + dimsZ ((nums s).drop (j + 1))) := by
          refine hid (dims_step (by rw [nums_len]; have := HSZ.out; omega) HDM.out ?_)
          have := nums_at h0
          rw [HNT.out] at this
          rw [← hc, ← this]
          simp [List.getD]
        have HN2 : Hid (nums (t.extract 1 t.size) = (nums s).drop (j + 1)) := hid (by rw [nums_rest, HNT.out, List.drop_drop])
        have HN3 : Hid ((t.extract 1 t.size).size + (j + 1) = s.size) := hid (by have := HSZ.out; simp; omega)
        go_wp2
        go_round
        case rel => exact ⟨j + 1, _, rfl, by go_num, by have := HSZ.out; omega, HN2.out, HN3.out, HN.out⟩
        case measure => have := HSZ.out; simp [intOf]; omega
      · have HRB : Hid (r = baseZ j (nums t)) := by
          refine hid ?_
          rw [HR.out]
          unfold fieldZ
          rw [dims_stop (j := j) (by rw [nums_len]; omega) HDM.out (by
            by_cases e : j = (nums s).length
            · exact .inl e
            · refine .inr ?_
              have hn := nums_at h0
              rw [HNT.out] at hn
              have hn2 : (nums s).getD j 0 = ((t[0].toNat : Nat) : Int) := by rw [← hn]; simp [List.getD]
              rw [hn2]; exact hc), ← HNT.out]
        have hne : t.toList.isEmpty = false := by
          rw [ByteArray.toList_eq]
          cases hq : t.data.toList with
          | nil => have : t.size = 0 := by simp [ByteArray.size, ← Array.length_toList, hq]
                   omega
          | cons _ _ => rfl
        have hne2 : ¬ t.toList = [] := fun h => by rw [h] at hne; cases hne
        by_cases hd4 : 4 < j
        · have HB := hid (show r = none by rw [HRB.out, base_deep _ hd4])
          have hd4z : (4 : Int) < (j : Int) := by omega
          go_wp2
          refine bodyPost_ret (type_result3 (t := zeroT) (b := w.heap.size) Tryz.results86 (heap_alloc_new w _) rfl rfl rfl) rfl (FieldTo.no HB.out ((Only.refl _ w).alloc _))
        have hd4z : ¬ (4 : Int) < (j : Int) := by omega
        have hcb : (((t[0].toNat : Nat) : Int) == 91) = false := by rw [beq_eq_false_iff_ne]; exact hc
        obtain ⟨c, hcc⟩ : ∃ c : Int, ((t[0].toNat : Nat) : Int) = c := ⟨_, rfl⟩
        have HC : Hid (nums t = c :: (nums t).drop 1) := by
          refine hid ?_
          have hlt : 0 < (nums t).length := by rw [nums_len]; exact h0
          have e := List.drop_eq_getElem_cons hlt
          rw [List.drop_zero] at e
          rw [← hcc, ← nums_at h0]
          simpa [List.getD, hlt] using e
        have HBZ : Hid (r = if c = 73 then some (arrT j 1 ⟨#[]⟩, (nums t).drop 1) else if c = 74 then some (arrT j 2 ⟨#[]⟩, (nums t).drop 1) else if c = 76 then (if semiZ ((nums t).drop 1) = ((nums t).drop 1).length then none else if plainN (((nums t).drop 1).take (semiZ ((nums t).drop 1))) then some (arrT j 4 (strOfNums (((nums t).drop 1).take (semiZ ((nums t).drop 1)))), ((nums t).drop 1).drop (semiZ ((nums t).drop 1) + 1)) else none) else none) := by
          refine hid ?_
          rw [HRB.out, HC.out]
          show (if 4 < j then none else _) = _
          rw [if_neg hd4]
          rfl
        rw [hcc] at hcb
        clear hc HR HDM HNT hd4 HRB HC
        by_cases c1 : c = 73
        · subst c1
          have HBB := hid (show r = some (arrT j 1 ⟨#[]⟩, (nums t).drop 1) by rw [HBZ.out, if_pos rfl])
          by_cases hd0 : 0 < j
          · have HB := hid (show r = some (⟨5, ⟨#[]⟩, (j : Int), 1, 0⟩, _) by rw [HBB.out]; unfold arrT; rw [if_pos hd0])
            have hd0z : (0 : Int) < (j : Int) := by omega
            clear HBB
            go_wp2
            refine bodyPost_ret (type_result3 (t := ⟨5, ⟨#[]⟩, (j : Int), 1, 0⟩) (b := w.heap.size) Tryz.results86 heap2 rfl rfl rfl) rfl (FieldTo.yes HB.out (nums_rest t 1) (((Only.refl _ w).alloc _).alloc _))
          · have HB := hid (show r = some (⟨1, ⟨#[]⟩, 0, 0, 0⟩, _) by rw [HBB.out]; unfold arrT; rw [if_neg hd0])
            obtain rfl : j = 0 := by omega
            clear HBB
            go_wp2
            refine bodyPost_ret (type_result3 (t := ⟨1, ⟨#[]⟩, 0, 0, 0⟩) (b := w.heap.size) Tryz.results86 heap2 rfl rfl rfl) rfl (FieldTo.yes HB.out (nums_rest t 1) (((Only.refl _ w).alloc _).alloc _))
        by_cases c2 : c = 74
        · subst c2
          have HBB := hid (show r = some (arrT j 2 ⟨#[]⟩, (nums t).drop 1) by rw [HBZ.out, if_neg (by decide), if_pos rfl])
          by_cases hd0 : 0 < j
          · have HB := hid (show r = some (⟨5, ⟨#[]⟩, (j : Int), 2, 0⟩, _) by rw [HBB.out]; unfold arrT; rw [if_pos hd0])
            have hd0z : (0 : Int) < (j : Int) := by omega
            clear HBB
            go_wp2
            refine bodyPost_ret (type_result3 (t := ⟨5, ⟨#[]⟩, (j : Int), 2, 0⟩) (b := w.heap.size) Tryz.results86 heap2 rfl rfl rfl) rfl (FieldTo.yes HB.out (nums_rest t 1) (((Only.refl _ w).alloc _).alloc _))
          · have HB := hid (show r = some (⟨2, ⟨#[]⟩, 0, 0, 0⟩, _) by rw [HBB.out]; unfold arrT; rw [if_neg hd0])
            obtain rfl : j = 0 := by omega
            clear HBB
            go_wp2
            refine bodyPost_ret (type_result3 (t := ⟨2, ⟨#[]⟩, 0, 0, 0⟩) (b := w.heap.size) Tryz.results86 heap2 rfl rfl rfl) rfl (FieldTo.yes HB.out (nums_rest t 1) (((Only.refl _ w).alloc _).alloc _))
        have b1 : (c == 73) = false := by rw [beq_eq_false_iff_ne]; exact c1
        have b2 : (c == 74) = false := by rw [beq_eq_false_iff_ne]; exact c2
        by_cases c3 : c = 76
        · subst c3
          obtain ⟨u, hu⟩ : ∃ u, u = (nums t).drop 1 := ⟨_, rfl⟩
          have hul : u.length + 1 = t.size := by rw [hu, List.length_drop, nums_len]; omega
          have HL : Hid (r = if semiZ u = u.length then none else if plainN (u.take (semiZ u)) then some (arrT j 4 (strOfNums (u.take (semiZ u))), u.drop (semiZ u + 1)) else none) := hid (by rw [HBZ.out, if_neg (by decide), if_neg (by decide), if_pos rfl, ← hu])
          have HU := hid hu
          have HUL := hid hul
          clear HBZ hu hul c1 c2
          go_wp2
          go_loop [7] (fun v => ∃ a : Nat, v = .int .i64 a ∧ 1 ≤ a ∧ a ≤ t.size ∧ semiZ u = (a - 1) + semiZ (u.drop (a - 1))) (fun v => t.size - (intOf v).toNat)
          case atStart => exact ⟨1, rfl, by omega, by omega, by simp⟩
          case round =>
            obtain ⟨a, rfl, ha1, ha2, hsm⟩ := hrel
            have HSM := hid hsm
            have ha1z : (1 : Int) ≤ (a : Int) := by omega
            clear hsm
            by_cases hat : a < t.size
            · have hatz : (a : Int) < (t.size : Int) := by omega
              have HG : Hid (u.getD (a - 1) 0 = ((t[a].toNat : Nat) : Int)) := by
                refine hid ?_
                rw [HU.out, ← nums_at hat]
                simp only [List.getD, List.getElem?_drop]
                rw [show 1 + (a - 1) = a by omega]
              by_cases hs : ((t[a].toNat : Nat) : Int) = 59
              · have hsb : (((t[a].toNat : Nat) : Int) != 59) = false := by rw [bne, hs]; rfl
                have hatb : ((a : Int) == (t.size : Int)) = false := by rw [beq_eq_false_iff_ne]; omega
                have HM : Hid (semiZ u = a - 1) := hid (semi_stop (by have := HUL.out; omega) HSM.out (.inr (by rw [HG.out]; exact hs)))
                have HNN : Hid (nums (t.extract 1 a) = u.take (a - 1)) := hid (by rw [nums_extract, HU.out])
                have HRS : Hid (nums (t.extract (a + 1) t.size) = u.drop (a - 1 + 1)) := hid (by rw [nums_rest, HU.out, List.drop_drop]; congr 1; omega)
                have HL2 : Hid (r = if plainN (u.take (a - 1)) then some (arrT j 4 (strOfNums (u.take (a - 1))), u.drop (a - 1 + 1)) else none) := by
                  refine hid ?_
                  rw [HL.out, HM.out, if_neg (by have := HUL.out; omega)]
                have cp := fun w => refPlainN (t.extract 1 a) w (by simp; omega)
                rw [HNN.out] at cp
                cases hpl : plainN (u.take (a - 1))
                · have HB := hid (show r = none by rw [HL2.out, hpl]; rfl)
                  rw [hpl] at cp
                  have CP := hid cp
                  clear cp hpl hs HL2 HL HM HNN HRS
                  go_wp2_with (fail)
                  refine (CP.out _).mono ?_
                  rintro e w2 ⟨rfl, rfl⟩
                  go_wp2
                  refine bodyPost_ret (type_result3 (t := zeroT) (b := w.heap.size) Tryz.results86 heap2 rfl rfl rfl) rfl (FieldTo.no HB.out (((Only.refl _ w).alloc _).alloc _))
                · have HBB := hid (show r = some (arrT j 4 (t.extract 1 a), u.drop (a - 1 + 1)) by rw [HL2.out, hpl, str_of HNN.out]; rfl)
                  rw [hpl] at cp
                  have CP := hid cp
                  clear cp hpl hs HL2 HL HM HNN
                  go_wp2_with (fail)
                  refine (CP.out _).mono ?_
                  rintro e w2 ⟨rfl, rfl⟩
                  by_cases hd0 : 0 < j
                  · have HB := hid (show r = some (⟨5, t.extract 1 a, (j : Int), 4, 0⟩, _) by rw [HBB.out]; unfold arrT; rw [if_pos hd0])
                    have hd0z : (0 : Int) < (j : Int) := by omega
                    clear HBB
                    go_wp2
                    refine bodyPost_ret (type_result3 (t := ⟨5, t.extract 1 a, (j : Int), 4, 0⟩) (b := w.heap.size) Tryz.results86 heap2 rfl rfl rfl) rfl (FieldTo.yes HB.out HRS.out (((Only.refl _ w).alloc _).alloc _))
                  · have HB := hid (show r = some (⟨4, t.extract 1 a, 0, 0, 0⟩, _) by rw [HBB.out]; unfold arrT; rw [if_neg hd0])
                    obtain rfl : j = 0 := by omega
                    clear HBB
                    go_wp2
                    refine bodyPost_ret (type_result3 (t := ⟨4, t.extract 1 a, 0, 0, 0⟩) (b := w.heap.size) Tryz.results86 heap2 rfl rfl rfl) rfl (FieldTo.yes HB.out HRS.out (((Only.refl _ w).alloc _).alloc _))
              · have hsb : (((t[a].toNat : Nat) : Int) != 59) = true := by rw [bne_iff_ne]; exact hs
                have HN := hid (semi_step (by have := HUL.out; omega) HSM.out (by rw [HG.out]; exact hs))
                clear hs
                go_wp2
                go_round
                case rel => exact ⟨a + 1, by go_num, by omega, by omega, by have := HN.out; rw [show a + 1 - 1 = a - 1 + 1 by omega]; exact this⟩
                case measure => simp [intOf]; omega
            · obtain rfl : a = t.size := by omega
              have HM : Hid (semiZ u = t.size - 1) := hid (semi_stop (by have := HUL.out; omega) HSM.out (.inl (by have := HUL.out; omega)))
              have HB : Hid (r = none) := hid (by rw [HL.out, if_pos (by rw [HM.out]; have := HUL.out; omega)])
              clear hat
              go_wp2
              refine bodyPost_ret (type_result3 (t := zeroT) (b := w.heap.size) Tryz.results86 heap2 rfl rfl rfl) rfl (FieldTo.no HB.out (((Only.refl _ w).alloc _).alloc _))
        · have b3 : (c == 76) = false := by rw [beq_eq_false_iff_ne]; exact c3
          have HB := hid (show r = none by rw [HBZ.out, if_neg c1, if_neg c2, if_neg c3])
          clear c1 c2 c3 HBZ
          go_wp2
          refine bodyPost_ret (type_result3 (t := zeroT) (b := w.heap.size) Tryz.results86 heap2 rfl rfl rfl) rfl (FieldTo.no HB.out (((Only.refl _ w).alloc _).alloc _))
    · have ht0 : t = ⟨#[]⟩ := nums_inj (List.eq_nil_of_length_eq_zero (by rw [nums_len]; omega))
      have HB : Hid (r = none) := by
        refine hid ?_
        rw [HR.out]
        unfold fieldZ
        rw [dims_stop (j := j) (by rw [nums_len]; omega) HDM.out (.inl (by rw [nums_len]; have := HSZ.out; omega)), ← HNT.out, ht0]
        rfl
      subst ht0
      clear HNT HDM h0
      go_wp2
      refine bodyPost_ret (type_result3 (t := zeroT) (b := w.heap.size) Tryz.results86 (heap_alloc_new w _) rfl rfl rfl) rfl (FieldTo.no HB.out ((Only.refl _ w).alloc _))
def oneZ8 (zs : List Int) : Option TypeV := match fieldZ zs with | some (t, []) => some t | _ => none
def typO (r : Option TypeV) : TypeV := match r with | some t => t | none => zeroT
def errO (r : Option TypeV) : Int := match r with | some _ => 0 | none => 80
theorem cells5T {w : World} {b : Nat} {c0 c1 c2 c3 c4 : Value} {t : TypeId} {f : Nat × Nat} (h : w.heap[b]? = some (.cells #[c0, c1, c2, c3, c4] t f)) :
    w.cell? ⟨b, 0, none⟩ = some c0 ∧ w.cell? ⟨b, 1, none⟩ = some c1 ∧ w.cell? ⟨b, 2, none⟩ = some c2 ∧ w.cell? ⟨b, 3, none⟩ = some c3 ∧ w.cell? ⟨b, 4, none⟩ = some c4 :=
  ⟨cell_blk h 0, cell_blk h 1, cell_blk h 2, cell_blk h 3, cell_blk h 4⟩
theorem marks5T {w : World} {b : Nat} {c : Array Value} {t : TypeId} (h : w.heap[b]? = some (.cells c t (0, 0))) :
    w.frozen? ⟨b, 0, none⟩ = false ∧ w.frozen? ⟨b, 1, none⟩ = false ∧ w.frozen? ⟨b, 2, none⟩ = false ∧ w.frozen? ⟨b, 3, none⟩ = false ∧ w.frozen? ⟨b, 4, none⟩ = false :=
  ⟨frozen_blk h 0, frozen_blk h 1, frozen_blk h 2, frozen_blk h 3, frozen_blk h 4⟩
theorem store5T {w : World} {b : Nat} {T : TypeId} {f : Nat × Nat} {o0 o1 o2 o3 o4 a0 a1 a2 a3 a4 : Value} (h : w.heap[b]? = some (.cells #[o0, o1, o2, o3, o4] T f)) :
    (((((w.setCell ⟨b, 0, none⟩ a0).setCell ⟨b, 1, none⟩ a1).setCell ⟨b, 2, none⟩ a2).setCell ⟨b, 3, none⟩ a3).setCell ⟨b, 4, none⟩ a4).heap[b]? = some (.cells #[a0, a1, a2, a3, a4] T f) := by
  have h0 := heap_setCell_at (i := 0) (u := a0) h
  simp only [List.setIfInBounds_toArray, List.set_cons_zero, List.set_cons_succ] at h0
  have h1 := heap_setCell_at (i := 1) (u := a1) h0
  simp only [List.setIfInBounds_toArray, List.set_cons_zero, List.set_cons_succ] at h1
  have h2 := heap_setCell_at (i := 2) (u := a2) h1
  simp only [List.setIfInBounds_toArray, List.set_cons_zero, List.set_cons_succ] at h2
  have h3 := heap_setCell_at (i := 3) (u := a3) h2
  simp only [List.setIfInBounds_toArray, List.set_cons_zero, List.set_cons_succ] at h3
  have h4 := heap_setCell_at (i := 4) (u := a4) h3
  simp only [List.setIfInBounds_toArray, List.set_cons_zero, List.set_cons_succ] at h4
  exact h4
theorem only5T {S : Nat → Prop} {w w' : World} {b : Nat} {a0 a1 a2 a3 a4 : Value} (h : Only S w w') (hb : b < w.heap.size → S b) :
    Only S w (((((w'.setCell ⟨b, 0, none⟩ a0).setCell ⟨b, 1, none⟩ a1).setCell ⟨b, 2, none⟩ a2).setCell ⟨b, 3, none⟩ a3).setCell ⟨b, 4, none⟩ a4) := by
  iterate 5 (refine Only.setCell (S := S) ?_ hb _)
  exact h
theorem type_result2 {fn : Func} {p q : Tmp} (hr : fn.results = #[.cell p 33, .tmp q]) {w : World} {b : Nat} {t : TypeV} {x : Value} {tmps : Array Value} (h : w.heap[b]? = some (.cells #[.int .i64 t.k, .string t.name, .int .i64 t.dims, .int .i64 t.elem, .int .i64 t.at_] 33 (0, 0))) (ht : tmps.getD p undef = .pointer (some ⟨b, 0, none⟩)) (hx : tmps.getD q undef = x) :
    (results fn tmps).run Tryz.prog w = .ok (.tuple #[valT t, x]) w := by
  rw [results_cell_tmp hr, ht, hx, show (asAddr (.pointer (some ⟨b, 0, none⟩))).run Tryz.prog w = .ok ⟨b, 0, none⟩ w from rfl]
  simp only [Result.andThen]
  rw [run_loadVar_row w b 33 33 _ (0, 0) _ h Tryz.underlying33 rfl info5_type]
  rfl
theorem toList_empty : (⟨#[]⟩ : ByteArray).toList = [] := by rw [ByteArray.toList_eq]
theorem toList_ne {s : ByteArray} (h : s ≠ ⟨#[]⟩) : s.toList.isEmpty = false ∧ ¬ s.toList = [] := by
  have h2 : ¬ s.toList = [] := fun e => h (toList_inj' (by rw [e, toList_empty]))
  refine ⟨?_, h2⟩
  cases hq : s.toList with
  | nil => exact absurd hq h2
  | cons _ _ => rfl
theorem nums_nil : nums ⟨#[]⟩ = [] := rfl
theorem strOf_ne {c : Int} {r : List Int} {s : ByteArray} (h : nums s = c :: r) : s ≠ ⟨#[]⟩ := fun e => by rw [e, nums_nil] at h; cases h
theorem base_rest {d : Nat} {zs r : List Int} {t : TypeV} (h : baseZ d zs = some (t, r)) : ∃ n, r = zs.drop n ∧ r.length < zs.length := by
  cases zs with
  | nil => cases h
  | cons c q =>
    unfold baseZ at h
    simp only at h
    split at h
    · cases h
    split at h
    · simp only [Option.some.injEq, Prod.mk.injEq] at h
      exact ⟨1, h.2.symm, by rw [← h.2]; simp⟩
    split at h
    · simp only [Option.some.injEq, Prod.mk.injEq] at h
      exact ⟨1, h.2.symm, by rw [← h.2]; simp⟩
    split at h
    · split at h
      · cases h
      split at h
      · simp only [Option.some.injEq, Prod.mk.injEq] at h
        exact ⟨semiZ q + 1 + 1, h.2.symm, by rw [← h.2]; simp; omega⟩
      · cases h
    · cases h
theorem field_rest {zs r : List Int} {t : TypeV} (h : fieldZ zs = some (t, r)) : ∃ n, r = zs.drop n ∧ r.length < zs.length := by
  obtain ⟨n, h1, h2⟩ := base_rest h
  rw [List.length_drop] at h2
  exact ⟨dimsZ zs + n, by rw [h1, List.drop_drop], by omega⟩
theorem nums_strOf_drop (s : ByteArray) (n : Nat) : nums (strOfNums ((nums s).drop n)) = (nums s).drop n := by
  rw [← nums_rest s n, str_nums]
set_option maxRecDepth 100000 in
theorem refField (s : ByteArray) (w : World) (hs : s.size ≤ 281474976710656) :
    Calls Tryz.prog 59 #[.string s] w fun e w' => e = .returned (.tuple #[valT (typO (oneZ8 (nums s))), .int .i64 (errO (oneZ8 (nums s)))]) ∧ Only (fun _ => False) w w' := by
  have hr0 := heap_alloc_new w (.cells #[.int .i64 0, .string ⟨#[]⟩, .int .i64 0, .int .i64 0, .int .i64 0] 33)
  have ho0 := (Only.refl (fun _ => False) w).alloc (.cells #[.int .i64 0, .string ⟨#[]⟩, .int .i64 0, .int .i64 0, .int .i64 0] 33)
  have c1 := refField0 s (w.alloc (.cells #[.int .i64 0, .string ⟨#[]⟩, .int .i64 0, .int .i64 0, .int .i64 0] 33)) hs
  obtain ⟨o, ho⟩ : ∃ o, o = oneZ8 (nums s) := ⟨_, rfl⟩
  rw [← ho]
  unfold oneZ8 at ho
  have HR0 := hid hr0
  have HO0 := hid ho0
  cases hf : fieldZ (nums s) with
  | none =>
    rw [hf] at c1 ho
    simp only at ho
    subst ho
    unfold FieldTo typF restF okF zeroT valT at c1
    simp only [Option.isSome] at c1
    have C1 := hid c1
    clear c1 hf hr0 ho0
    go_enter Tryz.func59, Tryz.ntmps59
    go_wp2_with (fail)
    refine C1.out.mono ?_
    rintro e w1 ⟨rfl, ho1⟩
    have hal := (Only.refl (fun _ => False) w1).alloc (.cells #[.int .i64 0, .string ⟨#[]⟩, .int .i64 0, .int .i64 0, .int .i64 0] 33)
    have hr1 := hal.heap (ho1.heap HR0.out (fun h => h)) (fun h => h)
    have HON1 := hid ((HO0.out.trans ho1 (fun _ h _ => h)).trans hal (fun _ h _ => h))
    obtain ⟨f0, f1, f2, f3, f4⟩ := marks5T hr1
    obtain ⟨q0, q1, q2, q3, q4⟩ := cells5T hr1
    have HR1 := hid hr1
    clear hal hr1 ho1 C1
    go_wp2
    exact bodyPost_ret (type_result2 (t := zeroT) (b := w.heap.size) Tryz.results59 (store5T HR1.out) rfl rfl) rfl ⟨rfl, only5T HON1.out (fun hl => absurd hl (Nat.lt_irrefl _))⟩
  | some q =>
    obtain ⟨t, r⟩ := q
    rw [hf] at c1 ho
    obtain ⟨n, hn, _⟩ := field_rest hf
    unfold FieldTo typF restF okF valT at c1
    simp only [Option.isSome] at c1
    by_cases hr : r = []
    · subst hr
      simp only at ho
      subst ho
      rw [show strOfNums [] = ⟨#[]⟩ from rfl] at c1
      have C1 := hid c1
      clear c1 hf hr0 ho0 hn
      go_enter Tryz.func59, Tryz.ntmps59
      go_wp2_with (fail)
      refine C1.out.mono ?_
      rintro e w1 ⟨rfl, ho1⟩
      have hal := (Only.refl (fun _ => False) w1).alloc (.cells #[.int .i64 t.k, .string t.name, .int .i64 t.dims, .int .i64 t.elem, .int .i64 t.at_] 33)
      have hr1 := hal.heap (ho1.heap HR0.out (fun h => h)) (fun h => h)
      have HON1 := hid ((HO0.out.trans ho1 (fun _ h _ => h)).trans hal (fun _ h _ => h))
      obtain ⟨f0, f1, f2, f3, f4⟩ := marks5T hr1
      obtain ⟨q0, q1, q2, q3, q4⟩ := cells5T hr1
      have HR1 := hid hr1
      clear hal hr1 ho1 C1
      go_wp2
      exact bodyPost_ret (type_result2 (t := t) (b := w.heap.size) Tryz.results59 (store5T HR1.out) rfl rfl) rfl ⟨rfl, only5T HON1.out (fun hl => absurd hl (Nat.lt_irrefl _))⟩
    · have ho' : o = none := by
        rw [ho]
        cases r with
        | nil => exact absurd rfl hr
        | cons _ _ => rfl
      subst ho'
      have hsne : strOfNums r ≠ ⟨#[]⟩ := fun e => by
        have := nums_strOf_drop s n
        rw [← hn, e, nums_nil] at this
        exact hr this.symm
      obtain ⟨e1, e2⟩ := toList_ne hsne
      generalize strOfNums r = u at *
      have C1 := hid c1
      clear c1 hf hr0 ho0 hn hr ho hsne
      go_enter Tryz.func59, Tryz.ntmps59
      go_wp2_with (fail)
      refine C1.out.mono ?_
      rintro e w1 ⟨rfl, ho1⟩
      have hal := (Only.refl (fun _ => False) w1).alloc (.cells #[.int .i64 t.k, .string t.name, .int .i64 t.dims, .int .i64 t.elem, .int .i64 t.at_] 33)
      have hr1 := hal.heap (ho1.heap HR0.out (fun h => h)) (fun h => h)
      have HON1 := hid ((HO0.out.trans ho1 (fun _ h _ => h)).trans hal (fun _ h _ => h))
      obtain ⟨f0, f1, f2, f3, f4⟩ := marks5T hr1
      obtain ⟨q0, q1, q2, q3, q4⟩ := cells5T hr1
      have HR1 := hid hr1
      clear hal hr1 ho1 C1
      go_wp2
      exact bodyPost_ret (type_result2 (t := zeroT) (b := w.heap.size) Tryz.results59 (store5T HR1.out) rfl rfl) rfl ⟨rfl, only5T HON1.out (fun hl => absurd hl (Nat.lt_irrefl _))⟩
structure PairV where
  name : ByteArray
  super : ByteArray
instance : Inhabited PairV := ⟨⟨⟨#[]⟩, ⟨#[]⟩⟩⟩
structure PairAt (w : World) (b o i : Nat) (p : PairV) : Prop where
  c0 : w.cell? ⟨b, o + i * 2, none⟩ = some (.string p.name)
  c1 : w.cell? ⟨b, o + i * 2 + 1, none⟩ = some (.string p.super)
def Pairs (w : World) (v : Value) (l : List PairV) : Prop := Sl v l.length (fun b o i => PairAt w b o i (l.getD i default))
theorem Pairs.only {w w' : World} {v : Value} {l : List PairV} (h : Pairs w v l) (ho : Only (fun _ => False) w w') : Pairs w' v l := h.imp (fun _ _ _ _ _ h => ⟨ho.cell h.c0 (fun h => h), ho.cell h.c1 (fun h => h)⟩)
def pairFrom (x : ByteArray) : Nat → List PairV → Int
  | _, [] => -1
  | i, p :: r => if p.name = x then i else pairFrom x (i + 1) r
theorem pairFrom_at {x : ByteArray} {l : List PairV} {j : Nat} (h : j < l.length) : pairFrom x j (l.drop j) = if (l.getD j default).name = x then (j : Int) else pairFrom x (j + 1) (l.drop (j + 1)) := by
  rw [List.drop_eq_getElem_cons h]
  show (if (l[j]).name = x then _ else _) = _
  rw [show l.getD j default = l[j] by simp [List.getD, h]]
theorem pairFrom_range {x : ByteArray} : ∀ (l : List PairV) (i : Nat), pairFrom x i l = -1 ∨ ∃ j : Nat, j < l.length ∧ pairFrom x i l = ((i + j : Nat) : Int)
  | [], i => .inl rfl
  | p :: r, i => by
    by_cases h : p.name = x
    · exact .inr ⟨0, by simp, by rw [pairFrom, if_pos h]; rfl⟩
    · rw [pairFrom, if_neg h]
      rcases pairFrom_range r (i + 1) with h1 | ⟨j, h1, h2⟩
      · exact .inl h1
      · exact .inr ⟨j + 1, by simpa using h1, by rw [h2]; congr 1; omega⟩
def pairOf (l : List PairV) (x : ByteArray) : Int := pairFrom x 0 l
theorem pairOf_cases (l : List PairV) (x : ByteArray) : pairOf l x = -1 ∨ ∃ j : Nat, j < l.length ∧ pairOf l x = (j : Int) := by
  rcases pairFrom_range (x := x) l 0 with h | ⟨j, h1, h2⟩
  · exact .inl h
  · exact .inr ⟨j, h1, by rw [pairOf, h2, Nat.zero_add]⟩
def belowN (l : List PairV) (b : ByteArray) : Nat → ByteArray → Bool
  | 0, a => decide (a = b)
  | n + 1, a => decide (a = b) || (if pairOf l a < 0 then false else belowN l b n (l.getD (pairOf l a).toNat default).super)
def belowZ (l : List PairV) (a b : ByteArray) : Bool := belowN l b l.length a
theorem belowN_same (l : List PairV) (b : ByteArray) (n : Nat) : belowN l b n b = true := by cases n <;> simp [belowN]
theorem belowN_none {l : List PairV} {a b : ByteArray} {n : Nat} (h : a ≠ b) (hp : pairOf l a = -1) : belowN l b n a = false := by
  cases n with
  | zero => simp [belowN, h]
  | succ n => rw [belowN, hp]; simp [h]
theorem belowN_step {l : List PairV} {a b : ByteArray} {n j : Nat} (h : a ≠ b) (hp : pairOf l a = (j : Int)) : belowN l b (n + 1) a = belowN l b n (l.getD j default).super := by
  rw [belowN, hp, if_neg (by omega), Int.toNat_natCast]
  simp [h]
theorem belowN_last {l : List PairV} {a b : ByteArray} (h : a ≠ b) : belowN l b 0 a = false := by simp [belowN, h]
theorem toList_beq {a b : ByteArray} (h : a ≠ b) : (a.toList == b.toList) = false ∧ ¬ a.toList = b.toList := by
  have h2 : ¬ a.toList = b.toList := fun e => h (toList_inj' e)
  exact ⟨by rw [beq_eq_false_iff_ne]; exact h2, h2⟩
set_option maxRecDepth 100000 in
theorem refBelow (v : Value) (l : List PairV) (a b : ByteArray) (w : World) (hl : Pairs w v l) (hn : l.length ≤ 4611686018427387904) :
    Calls Tryz.prog 52 #[v, .string a, .string b] w fun e w' => e = .returned (.bool (belowZ l a b)) ∧ w = w' := by
  obtain ⟨ao, cap, rfl, p1, p2, p3, -⟩ := id hl
  have HL := hid hl
  clear hl p3
  go_enter Tryz.func52, Tryz.ntmps52
  go_wp2
  go_loop [1, 7] (fun x n => ∃ (c : ByteArray) (k : Nat), x = .string c ∧ n = .int .i64 k ∧ k ≤ l.length + 1 ∧ (k ≤ l.length → belowZ l a b = belowN l b (l.length - k) c) ∧ (k = l.length + 1 → belowZ l a b = false)) (fun _ n => l.length + 1 - (intOf n).toNat)
  case atStart => exact ⟨a, 0, rfl, rfl, by omega, fun _ => rfl, fun h => by omega⟩
  case round =>
    obtain ⟨c, k, rfl, rfl, hk, hb1, hb2⟩ := hrel
    have HB1 := hid hb1
    have HB2 := hid hb2
    clear hb1 hb2
    by_cases hlt : k ≤ l.length
    · have hkz : (k : Int) ≤ (l.length : Int) := by omega
      by_cases hcb : c = b
      · subst hcb
        have HR := hid (show belowZ l a c = true by rw [HB1.out hlt, belowN_same])
        go_wp2
        go_ret
        rw [HR.out]
        exact ⟨rfl, rfl⟩
      · obtain ⟨e1, e2⟩ := toList_beq hcb
        have HCB := hid hcb
        clear hcb
        go_wp2
        go_loop [8, 9] (fun at_ i => ∃ j : Nat, i = .int .i64 ((j : Int) - 1) ∧ j ≤ l.length ∧ at_ = .int .i64 (pairFrom c j (l.drop j))) (fun _ i => ((intOf i) + 1).toNat)
        case atStart => exact ⟨l.length, rfl, Nat.le_refl _, by rw [List.drop_length]; rfl⟩
        case round =>
          obtain ⟨j, rfl, hj, rfl⟩ := hrel
          by_cases h0 : 0 < j
          · obtain ⟨m, rfl⟩ : ∃ m, j = m + 1 := ⟨j - 1, by omega⟩
            have hm : m < l.length := by omega
            have hmz : ((m + 1 : Nat) : Int) - 1 = (m : Int) := by omega
            rw [hmz]
            obtain ⟨g, o, rfl, y⟩ := Sl.at HL.out hm
            have HP := hid (pairFrom_at (x := c) hm)
            obtain ⟨y0, y1⟩ := y
            generalize pairFrom c (m + 1) (l.drop (m + 1)) = pv at *
            have hm0 : (0 : Int) ≤ (m : Int) := by omega
            have hmlz : (m : Int) < (l.length : Int) := by omega
            generalize l.getD m default = p at *
            by_cases hpn : p.name = c
            · have HN := hid (show pairFrom c m (l.drop m) = (m : Int) by rw [HP.out, if_pos hpn])
              rw [hpn] at y0
              clear hpn hmz
              go_wp2
              go_round
              case rel => exact ⟨m, rfl, by omega, by rw [HN.out]⟩
              case measure => simp [intOf]
            · have HN := hid (show pairFrom c m (l.drop m) = pv by rw [HP.out, if_neg hpn])
              obtain ⟨n1, n2⟩ := toList_beq hpn
              clear hpn hmz
              go_wp2
              go_round
              case rel => exact ⟨m, rfl, by omega, by rw [HN.out]⟩
              case measure => simp [intOf]
          · obtain rfl : j = 0 := by omega
            rw [List.drop_zero, show pairFrom c 0 l = pairOf l c from rfl]
            rcases pairOf_cases l c with hp | ⟨q, hq, hp⟩
            · have HR := hid (show belowZ l a b = false by rw [HB1.out hlt, belowN_none HCB.out hp])
              rw [hp]
              clear hp
              go_wp2
              go_ret
              rw [HR.out]
              exact ⟨rfl, rfl⟩
            · obtain ⟨g, o, rfl, y⟩ := Sl.at HL.out hq
              obtain ⟨y0, y1⟩ := y
              have hqz : (q : Int) < (l.length : Int) := by omega
              have hq0 : ¬ (q : Int) < 0 := by omega
              have HX1 : Hid (k + 1 ≤ l.length → belowZ l a b = belowN l b (l.length - (k + 1)) (l.getD q default).super) := by
                refine hid fun hk1 => ?_
                rw [HB1.out hlt, show l.length - k = (l.length - (k + 1)) + 1 by omega, belowN_step HCB.out hp]
              have HX2 : Hid (k + 1 = l.length + 1 → belowZ l a b = false) := by
                refine hid fun hk1 => ?_
                rw [HB1.out hlt, show l.length - k = 0 by omega, belowN_last HCB.out]
              rw [hp]
              generalize l.getD q default = p at *
              clear hp
              go_wp2
              go_round
              case rel => exact ⟨p.super, k + 1, rfl, by go_num, by omega, HX1.out, HX2.out⟩
              case measure => simp [intOf]; omega
    · obtain rfl : k = l.length + 1 := by omega
      have HR := hid (HB2.out rfl)
      have hkz : ¬ ((l.length + 1 : Nat) : Int) ≤ (l.length : Int) := by omega
      clear hlt hk
      go_wp2
      go_ret
      rw [HR.out]
      exact ⟨rfl, rfl⟩
structure MethN where
  name : ByteArray
  desc : ByteArray
  flags : Int
instance : Inhabited MethN := ⟨⟨⟨#[]⟩, ⟨#[]⟩, 0⟩⟩
structure KindV where
  name : ByteArray
  super : ByteArray
  fields : List MethN
  meths : List MethN
  place : Int
instance : Inhabited KindV := ⟨⟨⟨#[]⟩, ⟨#[]⟩, [], [], 0⟩⟩
structure MethNAt (w : World) (b o i : Nat) (m : MethN) : Prop where
  c0 : w.cell? ⟨b, o + i * 3, none⟩ = some (.string m.name)
  c1 : w.cell? ⟨b, o + i * 3 + 1, none⟩ = some (.string m.desc)
  c2 : w.cell? ⟨b, o + i * 3 + 2, none⟩ = some (.int .i64 m.flags)
def MethNs (w : World) (v : Value) (ms : List MethN) : Prop := Sl v ms.length (fun b o i => MethNAt w b o i (ms.getD i default))
structure KindAt (w : World) (b o i : Nat) (k : KindV) (vf vm : Value) : Prop where
  c0 : w.cell? ⟨b, o + i * 5, none⟩ = some (.string k.name)
  c1 : w.cell? ⟨b, o + i * 5 + 1, none⟩ = some (.string k.super)
  c2 : w.cell? ⟨b, o + i * 5 + 2, none⟩ = some vf
  c3 : w.cell? ⟨b, o + i * 5 + 3, none⟩ = some vm
  c4 : w.cell? ⟨b, o + i * 5 + 4, none⟩ = some (.int .i64 k.place)
def Kinds (w : World) (v : Value) (ks : List KindV) : Prop :=
  ∃ f : Nat → Value × Value, Sl v ks.length (fun b o i => KindAt w b o i (ks.getD i default) (f i).1 (f i).2) ∧ ∀ i, i < ks.length → MethNs w (f i).1 (ks.getD i default).fields ∧ MethNs w (f i).2 (ks.getD i default).meths
structure ClassAt (w : World) (b o i : Nat) (c : ClassV) (vp vf vm : Value) : Prop where
  c0 : w.cell? ⟨b, o + i * 5, none⟩ = some vp
  c1 : w.cell? ⟨b, o + i * 5 + 1, none⟩ = some (.int .i64 c.this)
  c2 : w.cell? ⟨b, o + i * 5 + 2, none⟩ = some (.int .i64 c.super)
  c3 : w.cell? ⟨b, o + i * 5 + 3, none⟩ = some vf
  c4 : w.cell? ⟨b, o + i * 5 + 4, none⟩ = some vm
instance : Inhabited ClassV := ⟨⟨[], 0, 0, [], []⟩⟩
def Classes (w : World) (v : Value) (cs : List ClassV) : Prop :=
  ∃ f : Nat → Value × Value × Value, Sl v cs.length (fun b o i => ClassAt w b o i (cs.getD i default) (f i).1 (f i).2.1 (f i).2.2) ∧ ∀ i, i < cs.length → ClassM w (f i).1 (f i).2.1 (f i).2.2 (cs.getD i default)
def DocP (w : World) (b : Nat) (ks : List KindV) (cs : List ClassV) : Prop :=
  ∃ vl vi, w.cell? ⟨b, 0, none⟩ = some vl ∧ w.cell? ⟨b, 1, none⟩ = some vi ∧ Kinds w vl ks ∧ Classes w vi cs
section
variable {w w' : World} (ho : Only (fun _ => False) w w')
include ho
theorem MethNs.only {v : Value} {ms : List MethN} (h : MethNs w v ms) : MethNs w' v ms := h.imp (fun _ _ _ _ _ h => ⟨ho.cell h.c0 (fun h => h), ho.cell h.c1 (fun h => h), ho.cell h.c2 (fun h => h)⟩)
theorem KindAt.only {b o i : Nat} {k : KindV} {vf vm : Value} (h : KindAt w b o i k vf vm) : KindAt w' b o i k vf vm := ⟨ho.cell h.c0 (fun h => h), ho.cell h.c1 (fun h => h), ho.cell h.c2 (fun h => h), ho.cell h.c3 (fun h => h), ho.cell h.c4 (fun h => h)⟩
theorem Kinds.only {v : Value} {ks : List KindV} (h : Kinds w v ks) : Kinds w' v ks := by
  obtain ⟨f, h1, h2⟩ := h
  exact ⟨f, h1.imp (fun _ _ _ _ _ h => h.only ho), fun i hi => ⟨(h2 i hi).1.only ho, (h2 i hi).2.only ho⟩⟩
theorem Classes.only {v : Value} {cs : List ClassV} (h : Classes w v cs) : Classes w' v cs := by
  obtain ⟨f, h1, h2⟩ := h
  exact ⟨f, h1.imp (fun _ _ _ _ _ h => ⟨ho.cell h.c0 (fun h => h), ho.cell h.c1 (fun h => h), ho.cell h.c2 (fun h => h), ho.cell h.c3 (fun h => h), ho.cell h.c4 (fun h => h)⟩), fun i hi => (h2 i hi).only ho⟩
theorem DocP.only {b : Nat} {ks : List KindV} {cs : List ClassV} (h : DocP w b ks cs) : DocP w' b ks cs := by
  obtain ⟨vl, vi, h1, h2, h3, h4⟩ := h
  exact ⟨vl, vi, ho.cell h1 (fun h => h), ho.cell h2 (fun h => h), h3.only ho, h4.only ho⟩
end
theorem Kinds.len {w : World} {v : Value} {ks : List KindV} (h : Kinds w v ks) : ∃ ao cap, v = .slice ao ks.length cap ∧ ks.length ≤ cap ∧ cap ≤ 9223372036854775807 := by
  obtain ⟨f, h1, _⟩ := h
  exact h1.slice
theorem Kinds.at {w : World} {ao : Option Addr} {cap : Nat} {ks : List KindV} (h : Kinds w (.slice ao ks.length cap) ks) {i : Nat} (hi : i < ks.length) : ∃ b o vf vm, ao = some ⟨b, o, none⟩ ∧ KindAt w b o i (ks.getD i default) vf vm ∧ MethNs w vf (ks.getD i default).fields ∧ MethNs w vm (ks.getD i default).meths := by
  obtain ⟨f, h1, h2⟩ := h
  obtain ⟨b, o, e, hc⟩ := Sl.at h1 hi
  exact ⟨b, o, _, _, e, hc, (h2 i hi).1, (h2 i hi).2⟩
def hasFrom (n d : ByteArray) : Nat → List MethN → Int
  | _, [] => -1
  | i, m :: r => if m.name = n ∧ m.desc = d then i else hasFrom n d (i + 1) r
theorem hasFrom_at {n d : ByteArray} {l : List MethN} {j : Nat} (h : j < l.length) : hasFrom n d j (l.drop j) = if (l.getD j default).name = n ∧ (l.getD j default).desc = d then (j : Int) else hasFrom n d (j + 1) (l.drop (j + 1)) := by
  rw [List.drop_eq_getElem_cons h]
  show (if (l[j]).name = n ∧ (l[j]).desc = d then _ else _) = _
  rw [show l.getD j default = l[j] by simp [List.getD, h]]
def hasZ (l : List MethN) (n d : ByteArray) : Int := hasFrom n d 0 l
theorem hasFrom_range {n d : ByteArray} : ∀ (l : List MethN) (i : Nat), hasFrom n d i l = -1 ∨ ∃ j : Nat, j < l.length ∧ hasFrom n d i l = ((i + j : Nat) : Int)
  | [], i => .inl rfl
  | p :: r, i => by
    by_cases h : p.name = n ∧ p.desc = d
    · exact .inr ⟨0, by simp, by rw [hasFrom, if_pos h]; rfl⟩
    · rw [hasFrom, if_neg h]
      rcases hasFrom_range r (i + 1) with h1 | ⟨j, h1, h2⟩
      · exact .inl h1
      · exact .inr ⟨j + 1, by simpa using h1, by rw [h2]; congr 1; omega⟩
theorem hasZ_cases (l : List MethN) (n d : ByteArray) : hasZ l n d = -1 ∨ ∃ j : Nat, j < l.length ∧ hasZ l n d = (j : Int) := by
  rcases hasFrom_range (n := n) (d := d) l 0 with h | ⟨j, h1, h2⟩
  · exact .inl h
  · exact .inr ⟨j, h1, by rw [hasZ, h2, Nat.zero_add]⟩
def countL (f : Int) (l : List MethN) : Nat := l.countP (fun m => m.flags == f)
theorem countL_take {f : Int} {l : List MethN} {j : Nat} (h : j < l.length) : countL f (l.take (j + 1)) = countL f (l.take j) + if (l.getD j default).flags = f then 1 else 0 := by
  rw [List.take_succ_eq_append_getElem h, countL, List.countP_append, List.countP_singleton]
  rw [show l.getD j default = l[j] by simp [List.getD, h]]
  simp [countL]
theorem countL_le (f : Int) (l : List MethN) : countL f l ≤ l.length := List.countP_le_length
set_option maxRecDepth 100000 in
theorem refHas (v : Value) (l : List MethN) (n d : ByteArray) (w : World) (hl : MethNs w v l) (hn : l.length ≤ 4611686018427387904) :
    Calls Tryz.prog 40 #[v, .string n, .string d] w fun e w' => e = .returned (.int .i64 (hasZ l n d)) ∧ w = w' := by
  obtain ⟨ao, cap, rfl, p1, p2, p3, -⟩ := id hl
  have HL := hid hl
  clear hl p3
  go_enter Tryz.func40, Tryz.ntmps40
  go_wp2
  go_loop [7] (fun iv => ∃ j : Nat, iv = .int .i64 j ∧ j ≤ l.length ∧ Hid (hasZ l n d = hasFrom n d j (l.drop j))) (fun iv => l.length - (intOf iv).toNat)
  case atStart => exact ⟨0, rfl, Nat.zero_le _, hid rfl⟩
  case round =>
    obtain ⟨j, rfl, hj, HH⟩ := hrel
    by_cases hlt : j < l.length
    · have hjz : (j : Int) < (l.length : Int) := by omega
      have hj0 : (0 : Int) ≤ (j : Int) := by omega
      obtain ⟨b, o, rfl, y⟩ := Sl.at HL.out hlt
      obtain ⟨y0, y1, y2⟩ := y
      have HP := hid (hasFrom_at (n := n) (d := d) hlt)
      generalize l.getD j default = p at *
      by_cases h1 : p.name = n
      · by_cases h2 : p.desc = d
        · have HR := hid (show hasZ l n d = (j : Int) by rw [HH.out, HP.out, if_pos ⟨h1, h2⟩])
          rw [h1] at y0
          rw [h2] at y1
          clear h1 h2
          go_wp2
          go_ret
          rw [HR.out]
          exact ⟨rfl, rfl⟩
        · have HR := hid (show hasZ l n d = hasFrom n d (j + 1) (l.drop (j + 1)) by rw [HH.out, HP.out, if_neg (fun h => h2 h.2)])
          rw [h1] at y0
          obtain ⟨n1, n2⟩ := toList_beq h2
          clear h1 h2
          go_wp2
          go_round
          case rel => exact ⟨j + 1, by go_num, by omega, HR⟩
          case measure => simp [intOf]; omega
      · have HR := hid (show hasZ l n d = hasFrom n d (j + 1) (l.drop (j + 1)) by rw [HH.out, HP.out, if_neg (fun h => h1 h.1)])
        obtain ⟨n1, n2⟩ := toList_beq h1
        clear h1
        go_wp2
        go_round
        case rel => exact ⟨j + 1, by go_num, by omega, HR⟩
        case measure => simp [intOf]; omega
    · have HR := hid (show hasZ l n d = -1 by rw [HH.out, List.drop_of_length_le (by omega)]; rfl)
      obtain rfl : j = l.length := by omega
      clear hlt hj
      go_wp2
      go_ret
      rw [HR.out]
      exact ⟨rfl, rfl⟩
end Go.Proofs.YtinbelghhfodiaaGreatDoor
namespace Go.Proofs.YtinbelghhfodiaaGreatDoor
set_option maxHeartbeats 8000000
open Lib (hid)
open Go.ChangeShapes Go.WideShapes Go.ChangeAt Go.RowKit Go.Deep
set_option linter.unusedVariables false
set_option linter.unusedSimpArgs false
theorem cells_class : Tryz.prog.cellsOf 84 = 5 := by kernel_rfl
section
variable {H : Type} {enc : TypeId × Value → H} {w : World} {held : Bool}
theorem open_slB (N : Nat) {β : Type} [Inhabited β] {t e : TypeId} {k : Nat} (ht : Tryz.prog.underlying t = some (.slice e)) (hk : Tryz.prog.cellsOf e = k) (hk0 : 0 < k) (R : β → List Value → Prop) (hne : ∀ z cs, R z cs → cs.length = k)
    (hopen : ∀ {fuel : Nat} {cs : List Value} {x : DataW H × List MemPlace}, DataW.trod enc Tryz.prog w 0 (fun _ => true) held fuel e cs = some x → cs.length = k → Light Tryz.prog e x.1 → Rows.uptoBulk x.1 ≤ N → ∃ z, R z cs)
    {fuel : Nat} {cs : List Value} {x : DataW H × List MemPlace} (h : DataW.trod enc Tryz.prog w 0 (fun _ => true) held fuel t cs = some x) (hL : Light Tryz.prog t x.1) (hN : Rows.uptoBulk x.1 ≤ N) :
    ∃ (v : Value) (zs : List β), cs = [v] ∧ Sl v zs.length (fun b o i => ∃ es, R (zs.getD i default) es ∧ ∀ d u, es[d]? = some u → w.cell? ⟨b, o + i * k + d, none⟩ = some u) ∧ (∀ z ∈ zs, ∃ es, R z es) := by
  rcases Go.Deep.open_slice ht h with ⟨rfl, _⟩ | ⟨a, len, cap, m, n, D, Pl, rfl, _, hl, hm, hmm, rfl, hi⟩
  · exact ⟨_, [], rfl, Sl.nil _, fun z hz => by cases hz⟩
  · simp only [if_true] at hmm
    subst hmm
    have hall : ∀ i, i < len → ∃ z : β, ∃ es, R z es ∧ w.cells? 0 (a.add (i * k)) k = some es := by
      intro i hil
      obtain ⟨es, hcs', htr⟩ := hi i (by omega)
      rw [hk] at hcs'
      obtain ⟨_, hlen, _⟩ := World.cells?_some hcs'
      have hLi : Light Tryz.prog e (D i) := light_elem ht hL (List.mem_map.2 ⟨i, List.mem_range.2 hil, rfl⟩)
      obtain ⟨z, hz⟩ := hopen htr hlen hLi (by
        have h2 := bulk_mem (l := (List.range len).map D) (d := D i) (List.mem_map.2 ⟨i, List.mem_range.2 hil, rfl⟩)
        simp only [Rows.uptoBulk] at hN
        show Rows.uptoBulk (D i) ≤ N
        omega)
      exact ⟨z, es, hz, hcs'⟩
    obtain ⟨f, hf⟩ := choose_lt hall
    have hget : ∀ i, i < len → ((List.range len).map f).getD i default = f i := fun i hi => by simp [List.getD, hi]
    refine ⟨_, (List.range len).map f, rfl, ⟨some a, _, by rw [List.length_map, List.length_range], by rw [List.length_map, List.length_range]; exact hl, by unfold maxLen at hm; omega, (fun e => by cases e), fun x hx h0 => ?_⟩, ?_⟩
    · cases hx
      rw [List.length_map, List.length_range] at h0
      have hcell : ∀ i, i < len → ∃ es, R (f i) es ∧ ∀ d u, es[d]? = some u → w.cell? (a.add (i * k + d)) = some u := by
        intro i hi
        obtain ⟨es, hz, hcs'⟩ := hf i hi
        refine ⟨es, hz, fun d u hu => ?_⟩
        obtain ⟨_, hlen, hat⟩ := World.cells?_some hcs'
        have hd : d < k := by
          have := (List.getElem?_eq_some_iff.1 hu).1
          omega
        have := hat d hd
        rw [Go.Deep.add_add] at this
        rw [this, hu]
      obtain ⟨es0, hz0, hc0⟩ := hcell 0 h0
      have hp := plain_of_cell (x := a) (u := es0[0]'(by rw [hne _ _ hz0]; exact hk0)) (by have := hc0 0 _ (List.getElem?_eq_getElem (by rw [hne _ _ hz0]; exact hk0)); simpa using this)
      refine ⟨a.block, a.off, hp, fun i hi => ?_⟩
      rw [List.length_map, List.length_range] at hi
      rw [hget i hi]
      obtain ⟨es, hz, hc⟩ := hcell i hi
      refine ⟨es, hz, fun d u hu => ?_⟩
      have := hc d u hu
      rw [hp, add_lit] at this
      rw [Nat.add_assoc]
      exact this
    · intro z hz
      obtain ⟨i, hi2, rfl⟩ := List.mem_map.1 hz
      obtain ⟨es, h1, _⟩ := hf i (List.mem_range.1 hi2)
      exact ⟨es, h1⟩
theorem open_classes {fuel : Nat} {cs : List Value} {x : DataW H × List MemPlace} (h : DataW.trod enc Tryz.prog w 0 (fun _ => true) held fuel 22 cs = some x) (hL : Light Tryz.prog 22 x.1) :
    ∃ v l, cs = [v] ∧ Classes w v l ∧ (∀ c ∈ l, ∀ k ∈ c.pool, k.text.size ≤ Rows.uptoBulk x.1) := by
  obtain ⟨v, zs, rfl, hs, hr⟩ := open_slB (β := ClassV × Value × Value × Value) (Rows.uptoBulk x.1) Tryz.underlying22 cells_class (by decide)
    (fun q cs => cs = [q.2.1, .int .i64 q.1.this, .int .i64 q.1.super, q.2.2.1, q.2.2.2] ∧ ClassM w q.2.1 q.2.2.1 q.2.2.2 q.1 ∧ ∀ k ∈ q.1.pool, k.text.size ≤ Rows.uptoBulk x.1) (fun z cs h => by rw [h.1]; rfl)
    (fun h hcs hL hN => by
      obtain ⟨vp, vf, vm, c, e, hm, _, hb⟩ := open_class h hcs hL
      exact ⟨⟨c, vp, vf, vm⟩, e, hm, fun k hk => Nat.le_trans (hb k hk) hN⟩) h hL (Nat.le_refl _)
  have hget : ∀ i, i < zs.length → (zs.map (·.1)).getD i default = (zs.getD i default).1 := fun i hi => by simp [List.getD, hi]
  refine ⟨v, zs.map (·.1), rfl, ⟨fun i => (zs.getD i default).2, ?_, ?_⟩, ?_⟩
  · rw [List.length_map]
    refine hs.imp (fun b o i _ hi ⟨es, ⟨he, _⟩, hc⟩ => ?_)
    subst he
    rw [hget i hi]
    exact ⟨hc 0 _ rfl, hc 1 _ rfl, hc 2 _ rfl, hc 3 _ rfl, hc 4 _ rfl⟩
  · intro i hi
    rw [List.length_map] at hi
    rw [hget i hi]
    obtain ⟨es, _, h2, _⟩ := hr _ (getD_mem hi)
    exact h2
  · intro c hc k hk
    obtain ⟨q, hq, rfl⟩ := List.mem_map.1 hc
    obtain ⟨es, _, _, h3⟩ := hr q hq
    exact h3 k hk
end
set_option maxRecDepth 100000 in
theorem arg_classes {H : Type} {enc : TypeId × Value → H} {W : World} {base : Nat} {v : Value} {d : DataW H} {p : List MemPlace} (hv : Value.okWide Tryz.prog W .any base 22 v) (h : DataW.Trod enc Tryz.prog W 0 (fun _ => true) true 22 v d p)
    (hL : Light Tryz.prog 22 d) : ∃ l, Classes W v l ∧ (∀ c ∈ l, ∀ k ∈ c.pool, k.text.size ≤ Rows.uptoBulk d) := by
  obtain ⟨a, n, c, rfl⟩ := okWide_slice Tryz.underlying22 hv
  obtain ⟨fuel, hf⟩ := h
  obtain ⟨v', ks, e, hs, hb⟩ := open_classes hf hL
  simp [Value.cells] at e
  subst e
  exact ⟨ks, hs, hb⟩
end Go.Proofs.YtinbelghhfodiaaGreatDoor
namespace Go.Proofs.YtinbelghhfodiaaGreatDoor
set_option maxHeartbeats 8000000
open Lib (hid)
open Go.RowKit Go.Maps
set_option linter.unusedVariables false
set_option linter.unusedSimpArgs false
attribute [local go_sem] Oper.semAt_some
def Unmade (po : Option Addr) (w : World) : Prop := ∀ W, Only (fun _ => False) w W → Calls Tryz.prog 80 #[.pointer po] W fun e w' => e = .returned (.bool false) ∧ W = w'
theorem Unmade.only {po : Option Addr} {w w' : World} (h : Unmade po w) (ho : Only (fun _ => False) w w') : Unmade po w' := fun W hW => h W (ho.trans hW (fun _ h _ => h))
theorem unmade_nil (w : World) : Unmade none w := by
  intro W _
  go_enter Tryz.func80, Tryz.ntmps80
  go_wp2
  go_ret
  exact ⟨rfl, rfl⟩
section
variable {po : Option Addr} {w : World} (h : Unmade po w)
include h
theorem zLen : Calls Tryz.prog 41 #[.pointer po] w fun e w' => e = .returned (.int .i64 0) ∧ w = w' := by
  have C1 := hid (h w (Only.refl _ _))
  clear h
  go_enter Tryz.func41, Tryz.ntmps41
  go_wp2_with (fail)
  refine C1.out.mono ?_
  rintro e w1 ⟨rfl, rfl⟩
  go_wp2
  go_ret
  exact ⟨rfl, rfl⟩
end
end Go.Proofs.YtinbelghhfodiaaGreatDoor
namespace Go.Proofs.YtinbelghhfodiaaGreatDoor
set_option maxHeartbeats 8000000
open Lib (hid)
open Go.RowKit
set_option linter.unusedVariables false
set_option linter.unusedSimpArgs false
section
variable {po : Option Addr} {w : World} (h : Unmade po w)
include h
theorem zAt (n m : Int) : Calls Tryz.prog 16 #[.pointer po, .int .i64 n, .int .i64 m] w fun e w' => e = .returned (.tuple #[.pointer none, .int .i64 7]) ∧ Only (fun _ => False) w w' := by
  have C1 := hid (fun W (hW : Only (fun _ => False) w W) => zLen (h.only hW))
  clear h
  go_enter Tryz.func16, Tryz.ntmps16
  go_wp2_with (fail)
  refine (C1.out _ (by repeat (first | exact Only.refl _ _ | refine Only.alloc ?_ _))).mono ?_
  rintro e w1 ⟨rfl, hww⟩
  subst hww
  go_wp2
  go_ret2
  exact ⟨rfl, by repeat (first | exact Only.refl _ _ | refine Only.alloc ?_ _)⟩
end
end Go.Proofs.YtinbelghhfodiaaGreatDoor
