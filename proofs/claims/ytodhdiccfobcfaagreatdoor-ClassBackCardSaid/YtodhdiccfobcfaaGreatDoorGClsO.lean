/- The program writes the methods of a class. Room for all that is written. The program's Encode of a class: the document's own bytes. No condition but the form's own reach. The program's Encode of a class: the document's own bytes. No condition but the form's own reach. -/
import Derived.Test.YtodhdiccfobcfaaGreatDoorGClsK
import Derived.Test.YtodhdiccfobcfaaGreatDoorGClsG
import Derived.Test.YtodhdiccfobcfaaGreatDoorGPolE
import Derived.Test.YtodhdiccfobcfaaGreatDoorPolCe
namespace Go.Proofs.YtodhdiccfobcfaaGreatDoor
open Go.RowKit
set_option linter.unusedVariables false
set_option linter.unusedSimpArgs false

theorem all5 {a b c d e : Int} (ha : InU16 a) (hb : InU16 b) (hc : InU16 c) (hd : InU16 d) (he : InU16 e) : ∀ n ∈ [a, b, c, d, e], 0 ≤ n ∧ n ≤ 65535 := by
  intro n hn
  simp only [List.mem_cons, List.mem_nil_iff, or_false] at hn
  rcases hn with rfl | rfl | rfl | rfl | rfl <;> assumption
theorem five_be2 (a b c d e : Int) : [a, b, c, d, e].flatMap be2 = be2 a ++ (be2 b ++ (be2 c ++ (be2 d ++ be2 e))) := by simp [List.flatMap]
theorem methodB_len (cs : List ConstV) (m : MethodV) : (methodB cs m).length = 14 + (codeB cs m).length := by
  unfold methodB
  have e2 : ∀ x, (be2 x).length = 2 := fun _ => rfl
  have e4 : ∀ x, (be4 x).length = 4 := fun _ => rfl
  simp only [List.length_append, e2, e4]
  omega
theorem flatMap_take_le {α : Type} (f : α → List Int) (l : List α) (j : Nat) : ((l.take j).flatMap f).length ≤ (l.flatMap f).length := by
  conv => rhs; rw [← List.take_append_drop j l, List.flatMap_append, List.length_append]
  omega

set_option maxHeartbeats 16000000 in
set_option maxRecDepth 100000 in
theorem writeMethods (w0 w : World) (wb : Nat) (sv : Value) (bs : List Int) (ap : Option Addr) (cp : Nat) (cs : List ConstV) (vm : Value) (ms : List MethodV) (h : WB w0 w wb sv bs) (hp : Pool w0 (.slice ap cs.length cp) cs) (hbare : Bare cs) (hl : cs.length ≤ 1024)
    (hm : Methods w0 vm ms) (hr : ∀ m ∈ ms, MethodP cs m ∧ m.traps.length ≤ 64) (hml : ms.length ≤ 65535) (hroom : bs.length + (2 + (ms.flatMap (methodB cs)).length) ≤ 1048576) :
    Calls Tryz.prog 18 #[.agg #[.pointer (some ⟨wb, 0, none⟩), .slice ap cs.length cp], vm] w fun e w' =>
      e = .returned (.tuple #[]) ∧ WrTo w wb sv 1048576 (bs ++ (be2 ms.length ++ ms.flatMap (methodB cs))) w' := by
  obtain ⟨fm, hm1, hm2, hm3⟩ := id hm
  obtain ⟨am0, cm0, rfl, hm4, hm5⟩ := hm1.slice
  obtain ⟨np, hnp⟩ : ∃ np, cs.length = np := ⟨_, rfl⟩
  have cPL := fun w' (ho : Only (fun _ => False) w0 w') => progPlace _ cs codeT w' (hp.only ho (fun _ _ h => h)) hbare
  have cWC := fun w6 wx wb2 m vc vt vm' (h : WB w6 wx wb2 (.slice none 0 0) []) (ho : Only (fun _ => False) w0 w6) (hi : Inside w6 m vc vt vm') (hmp : MethodP cs m) (ht : m.traps.length ≤ 64) (hr : (codeB cs m).length ≤ 1048576) =>
    writeCode w6 wx wb2 _ [] ap cp cs m vc vt vm' h (hp.only ho (fun _ _ h => h)) hbare hl hi hmp ht (by simpa using hr)
  rw [hnp] at cPL cWC ⊢
  have ho2 := (Only.refl (fun _ => False) w).alloc (.cells #[.pointer (some ⟨wb, 0, none⟩), .slice ap np cp] 47)
  have hb2 := heap_alloc_new w (.cells #[.pointer (some ⟨wb, 0, none⟩), .slice ap np cp] 47)
  have hw2 := h.only ho2
  have cS := shortsP w0 _ wb sv bs ap np cp [(ms.length : Int)] hw2 (all1 ⟨by omega, by omega⟩) (by simp only [List.length_cons, List.length_nil]; omega) 1 rfl #[.int .i64 ms.length] rfl (w.heap.size + 1) (by simp)
  have CS := Lib.hid cS
  have HW := Lib.hid hw2
  have HO2 := Lib.hid ho2
  have HB2 := Lib.hid hb2
  have HM1 := Lib.hid hm1
  have HM2 := Lib.hid hm2
  have HR := Lib.hid hr
  have HPL0 := Lib.hid (fun (m : MethodV) (hm : MethodP cs m) => show InU16 (placeOf cs codeT) ∧ idxZ cs codeT = placeOf cs codeT ∧ InU16 m.flags ∧ InU16 m.name ∧ InU16 m.desc ∧ (m.traps.length ≤ 64 → (codeB cs m).length ≤ 8800) from by
    obtain ⟨⟨g0, g1, g2, _⟩, ⟨_, g8, g9, h10, _⟩, _⟩ := hm
    have := textZ_lt (by rw [placeOf_found h10]) hl
    have b1 := textZ_lt g1 hl
    have b2 := textZ_lt g2 hl
    unfold FlagsP at g0
    have hcl := codeB_len cs m
    exact ⟨⟨by omega, by omega⟩, by unfold idxZ; rw [if_neg h10], ⟨by omega, by omega⟩, ⟨by omega, by omega⟩, ⟨by omega, by omega⟩, fun ht => by omega⟩)
  have CPL0 := Lib.hid cPL
  have CWC := Lib.hid cWC
  have NB := Lib.hid (h.below (k := w.heap.size) (Nat.le_refl _))
  clear h ho2 hb2 hw2 cS hm hm1 hm2 hm3 hr cPL cWC hp hbare hnp
  go_enter Tryz.func18, Tryz.ntmps18
  go_wp2_with (fail)
  refine CS.out.mono ?_
  rintro e w1 ⟨rfl, hto⟩
  have HT1 := Lib.hid (show WrTo (w.alloc (.cells #[.pointer (some ⟨wb, 0, none⟩), .slice ap np cp] 47)) wb sv 1048576 (bs ++ be2 ms.length) w1 from WrTo.from ((Only.refl _ _).alloc _) (by rw [one_be2] at hto; exact hto))
  clear hto CS
  go_wp2
  go_loopw [14] (fun i wr => ∃ j : Nat, j ≤ ms.length ∧ i = .int .i64 j ∧ WrTo (w.alloc (.cells #[.pointer (some ⟨wb, 0, none⟩), .slice ap np cp] 47)) wb sv 1048576 (bs ++ (be2 ms.length ++ (ms.take j).flatMap (methodB cs))) wr) (fun i _ => ms.length - (intOf i).toNat)
  case atStart => exact ⟨0, Nat.zero_le _, rfl, by simpa using HT1.out⟩
  case round =>
    obtain ⟨j, hj, rfl, hto⟩ := hrel
    obtain ⟨svc, hwb, hon, hsv⟩ := HW.out.to hto
    have HON := Lib.hid hon
    have HSV := Lib.hid hsv
    by_cases hlt : j < ms.length
    rotate_left
    · have hjn : j = ms.length := by omega
      have hjz : (ms.length : Int) ≤ (j : Int) := by omega
      have HE := Lib.hid (show WrTo w wb sv 1048576 (bs ++ (be2 ms.length ++ ms.flatMap (methodB cs))) wr from WrTo.from HO2.out (by rw [hjn, List.take_of_length_le (Nat.le_refl _)] at hto; exact hto))
      clear hwb hon hsv hto hlt hjn
      go_wp2
      go_end0
      exact ⟨rfl, HE.out⟩
    have hjz : (j : Int) < (ms.length : Int) := by omega
    obtain ⟨b, o, e2, hat⟩ := HM1.out.at hlt
    subst e2
    obtain ⟨k0, k1, k2, k3, k4, k5, k6, k7⟩ := hat.only hwb.on
    have hin := HM2.out j hlt
    have hmr := HR.out _ (getD_mem hlt)
    have htk := take_snoc hlt
    have hle := flatMap_take_le (methodB cs) ms (j + 1)
    obtain ⟨m, hme⟩ : ∃ m, ms.getD j default = m := ⟨_, rfl⟩
    rw [hme] at hin hmr htk k0 k1 k2 k3 k4
    rw [htk, List.flatMap_append, List.length_append] at hle
    have hle2 : ([m].flatMap (methodB cs)).length = 14 + (codeB cs m).length := by rw [← methodB_len]; simp [List.flatMap]
    rw [hle2] at hle
    obtain ⟨ac, cc, e5, _⟩ := hin.1
    obtain ⟨at_, ct, e6, _, _⟩ := hin.2.1.1.slice
    obtain ⟨am, cm, e7, _⟩ := hin.2.2
    rw [e5, e6, e7] at hin
    rw [e5] at k5
    rw [e6] at k6
    rw [e7] at k7
    obtain ⟨hu, hix, u1, u2, u3, hcl⟩ := HPL0.out m hmr.1
    have hcl2 := hcl hmr.2
    rw [hix] at CPL0
    have CPL := Lib.hid CPL0.out
    obtain ⟨pz, hpz⟩ : ∃ pz, placeOf cs codeT = pz := ⟨_, rfl⟩
    rw [hpz] at CPL hu
    have HTK := Lib.hid htk
    have HIN := Lib.hid hin
    have HMR := Lib.hid hmr
    have HCL := Lib.hid hcl2
    obtain ⟨fl, nm, ds, st, lo, code, traps, maps⟩ := m
    simp only at k0 k1 k2 k3 k4 k5 k6 k7 u1 u2 u3
    have hMB : methodB cs ⟨fl, nm, ds, st, lo, code, traps, maps⟩ = be2 fl ++ (be2 nm ++ (be2 ds ++ (be2 1 ++ (be2 pz ++ (be4 (codeB cs ⟨fl, nm, ds, st, lo, code, traps, maps⟩).length ++ codeB cs ⟨fl, nm, ds, st, lo, code, traps, maps⟩))))) := by rw [← hpz]; rfl
    have HMB := Lib.hid hMB
    have U5 := Lib.hid (all5 u1 u2 u3 u16_1 hu)
    have hbl : (bs ++ (be2 ms.length ++ (ms.take j).flatMap (methodB cs))).length = bs.length + (2 + ((ms.take j).flatMap (methodB cs)).length) := by
      rw [List.length_append, List.length_append]; rfl
    have ROOM := Lib.hid (show (bs ++ (be2 ms.length ++ (ms.take j).flatMap (methodB cs))).length + 2 * [fl, nm, ds, 1, pz].length ≤ 1048576 by rw [hbl]; simp only [List.length_cons, List.length_nil]; omega)
    have ROOM2 := Lib.hid (show (bs ++ (be2 ms.length ++ (ms.take j).flatMap (methodB cs)) ++ [fl, nm, ds, 1, pz].flatMap be2).length + (4 + (codeB cs ⟨fl, nm, ds, st, lo, code, traps, maps⟩).length) ≤ 1048576 by
      rw [List.length_append, hbl, five_be2]
      have e2 : ∀ x, (be2 x).length = 2 := fun _ => rfl
      simp only [List.length_append, e2]
      omega)
    have hoa := (Only.refl (fun _ => False) wr).alloc (.cells #[.int .i64 fl, .int .i64 nm, .int .i64 ds, .int .i64 st, .int .i64 lo, .slice ac code.length cc, .slice at_ traps.length ct, .slice am maps.length cm] 62)
    have hmb := heap_alloc_new wr (.cells #[.int .i64 fl, .int .i64 nm, .int .i64 ds, .int .i64 st, .int .i64 lo, .slice ac code.length cc, .slice at_ traps.length ct, .slice am maps.length cm] 62)
    have q2 := hoa.heap (hon.heap HB2.out NB.out) (fun h => h)
    have NS1 := Lib.hid (show ¬ WrS wb svc w.heap.size from fun hW => by
      rcases hW with e | e
      · exact NB.out (.inl e)
      · rcases hsv _ e with e | e
        · exact NB.out (.inr e)
        · simp at e; omega)
    have NS5 := Lib.hid (hwb.below (k := wr.heap.size) (Nat.le_refl _))
    have HWA := Lib.hid (hwb.only hoa)
    have HB5 := Lib.hid hmb
    have HBW := Lib.hid q2
    have HOA := Lib.hid hoa
    have q0 := cell_blk q2 0
    have q1 := cell_blk q2 1
    simp at q0 q1
    clear hat hin hmr htk hle hle2 hcl hcl2 e5 e6 e7 hix hpz hMB hbl hme hoa hwb hon hsv hto u1 u2 u3 hu CPL0
    have d0 := cell_blk hmb 0
    have d1 := cell_blk hmb 1
    have d2 := cell_blk hmb 2
    go_wp2_with (fail)
    clear k0 k1 k2 k3 k4 k5 k6 k7 hmb q2
    have k0 : (wr.alloc (.cells #[.int .i64 fl, .int .i64 nm, .int .i64 ds, .int .i64 st, .int .i64 lo, .slice ac code.length cc, .slice at_ traps.length ct, .slice am maps.length cm] 62)).cell? ⟨wr.heap.size, 0, none⟩ = some (.int .i64 fl) := by rw [cell_blk HB5.out]; rfl
    have k1 : (wr.alloc (.cells #[.int .i64 fl, .int .i64 nm, .int .i64 ds, .int .i64 st, .int .i64 lo, .slice ac code.length cc, .slice at_ traps.length ct, .slice am maps.length cm] 62)).cell? ⟨wr.heap.size, 1, none⟩ = some (.int .i64 nm) := by rw [cell_blk HB5.out]; rfl
    have k2 : (wr.alloc (.cells #[.int .i64 fl, .int .i64 nm, .int .i64 ds, .int .i64 st, .int .i64 lo, .slice ac code.length cc, .slice at_ traps.length ct, .slice am maps.length cm] 62)).cell? ⟨wr.heap.size, 2, none⟩ = some (.int .i64 ds) := by rw [cell_blk HB5.out]; rfl
    clear d0 d1 d2
    refine wp_region_held_drew (S := fun wc => (wc.cell? ⟨w.heap.size, 0, none⟩ = some (.pointer (some ⟨wb, 0, none⟩)) ∧ wc.cell? ⟨w.heap.size, 1, none⟩ = some (.slice ap np cp)) ∧ wc.cell? ⟨wr.heap.size, 0, none⟩ = some (.int .i64 fl) ∧ wc.cell? ⟨wr.heap.size, 1, none⟩ = some (.int .i64 nm) ∧ wc.cell? ⟨wr.heap.size, 2, none⟩ = some (.int .i64 ds)) (by kernel_rfl) ⟨⟨q0, q1⟩, k0, k1, k2⟩ (fun hHeld => ?_)
    refine wpAnyH_take (i := 0) (v := ?_) (by simp only [List.getElem?_toArray, List.getElem?_cons_succ, List.getElem?_cons_zero]; rfl) (by kernel_rfl) (by kernel_rfl) (by kernel_rfl) (by exact fun _ _ _ h => h) (Or.inl ⟨by rfl, ?_⟩) (by assumption) ?_
    rotate_left 1
    · (intro w hSw; (try dsimp only at hSw); go_simp; try with_reducible rfl)
    try simp only [Act.put, List.setIfInBounds_toArray, List.set_cons_zero, List.set_cons_succ]
    refine wpAnyH_take (i := 1) (v := ?_) (by simp only [List.getElem?_toArray, List.getElem?_cons_succ, List.getElem?_cons_zero]; rfl) (by kernel_rfl) (by kernel_rfl) (by kernel_rfl) (by exact fun _ _ _ h => h) (Or.inl ⟨by rfl, ?_⟩) (by assumption) ?_
    rotate_left 1
    · (intro w hSw; (try dsimp only at hSw); go_simp; try with_reducible rfl)
    try simp only [Act.put, List.setIfInBounds_toArray, List.set_cons_zero, List.set_cons_succ]
    refine wpAnyH_take (i := 2) (v := ?_) (by simp only [List.getElem?_toArray, List.getElem?_cons_succ, List.getElem?_cons_zero]; rfl) (by kernel_rfl) (by kernel_rfl) (by kernel_rfl) (by exact fun _ _ _ h => h) (Or.inl ⟨by rfl, ?_⟩) (by assumption) ?_
    rotate_left 1
    · (intro w hSw; (try dsimp only at hSw); go_simp; try with_reducible rfl)
    try simp only [Act.put, List.setIfInBounds_toArray, List.set_cons_zero, List.set_cons_succ]
    refine wpAnyH_take (i := 3) (v := ?_) (by simp only [List.getElem?_toArray, List.getElem?_cons_succ, List.getElem?_cons_zero]; rfl) (by kernel_rfl) (by kernel_rfl) (by kernel_rfl) (by exact fun _ _ _ h => h) (Or.inl ⟨by rfl, ?_⟩) (by assumption) ?_
    rotate_left 1
    · (intro w hSw; (try dsimp only at hSw); go_simp; try with_reducible rfl)
    try simp only [Act.put, List.setIfInBounds_toArray, List.set_cons_zero, List.set_cons_succ]
    refine wpAnyH_take (i := 4) (v := ?_) (by simp only [List.getElem?_toArray, List.getElem?_cons_succ, List.getElem?_cons_zero]; rfl) (by kernel_rfl) (by kernel_rfl) (by kernel_rfl) (by exact fun _ _ _ h => h) (Or.inl ⟨by rfl, ?_⟩) (by assumption) ?_
    rotate_left 1
    · (intro w hSw; (try dsimp only at hSw); go_simp; try with_reducible rfl)
    try simp only [Act.put, List.setIfInBounds_toArray, List.set_cons_zero, List.set_cons_succ]
    refine wpAnyH_take (i := 5) (v := ?_) (by simp only [List.getElem?_toArray, List.getElem?_cons_succ, List.getElem?_cons_zero]; rfl) (by kernel_rfl) (by kernel_rfl) (by kernel_rfl) (by exact fun _ _ _ h => h) (Or.inl ⟨by rfl, ?_⟩) (by assumption) ?_
    rotate_left 1
    · (intro w hSw; (try dsimp only at hSw); go_simp; try with_reducible rfl)
    try simp only [Act.put, List.setIfInBounds_toArray, List.set_cons_zero, List.set_cons_succ]
    refine wpAnyH_take (i := 6) (v := ?_) (by simp only [List.getElem?_toArray, List.getElem?_cons_succ, List.getElem?_cons_zero]; rfl) (by kernel_rfl) (by kernel_rfl) (by kernel_rfl) (by exact fun _ _ _ h => h) (Or.inl ⟨by rfl, ?_⟩) (by assumption) ?_
    rotate_left 1
    · (intro w hSw; (try dsimp only at hSw); go_simp; try with_reducible rfl)
    try simp only [Act.put, List.setIfInBounds_toArray, List.set_cons_zero, List.set_cons_succ]
    refine wpAnyH_take (i := 7) (v := ?_) (by simp only [List.getElem?_toArray, List.getElem?_cons_succ, List.getElem?_cons_zero]; rfl) (by kernel_rfl) (by kernel_rfl) (by kernel_rfl) (by exact fun _ _ _ h => h) (Or.inl ⟨by rfl, ?_⟩) (by assumption) ?_
    rotate_left 1
    · (intro w hSw; (try dsimp only at hSw); go_simp; try with_reducible rfl)
    try simp only [Act.put, List.setIfInBounds_toArray, List.set_cons_zero, List.set_cons_succ]
    refine wpAnyH_take (i := 8) (v := ?_) (by simp only [List.getElem?_toArray, List.getElem?_cons_succ, List.getElem?_cons_zero]; rfl) (by kernel_rfl) (by kernel_rfl) (by kernel_rfl) (by exact fun _ _ _ h => h) (Or.inl ⟨by rfl, ?_⟩) (by assumption) ?_
    rotate_left 1
    · (intro w hSw; (try dsimp only at hSw); go_simp; try with_reducible rfl)
    try simp only [Act.put, List.setIfInBounds_toArray, List.set_cons_zero, List.set_cons_succ]
    refine wpAnyH_ready (rs := [9]) (by kernel_rfl) (by simp) ?_
    refine AllReadyH.cons (by simp only [List.getElem?_toArray, List.getElem?_cons_succ, List.getElem?_cons_zero]; rfl) (fun K hK => ?_) AllReadyH.nil
    go_simp
    refine (CPL.out _ HWA.out.on.drew).mono ?_; rintro e w5 ⟨rfl, ho5⟩; have HQ := Lib.hid (And.intro (And.intro (ho5.cell hHeld.1.1 (fun h => h)) (ho5.cell hHeld.1.2 (fun h => h))) (And.intro (ho5.cell hHeld.2.1 (fun h => h)) (And.intro (ho5.cell hHeld.2.2.1 (fun h => h)) (ho5.cell hHeld.2.2.2 (fun h => h))))); have HO5 := Lib.hid ((Only.refl (fun _ => False) (wr.alloc (.cells #[.int .i64 fl, .int .i64 nm, .int .i64 ds, .int .i64 st, .int .i64 lo, .slice ac code.length cc, .slice at_ traps.length ct, .slice am maps.length cm] 62))).drew.trans ho5 (fun _ h => h.elim)); have HW5 := Lib.hid (HWA.out.only HO5.out); clear ho5
    go_wp2_with fail
    refine hK.out _ _ ?_ (fun hHeld2 => ?_)
    · exact HQ.out
    clear hK K
    try simp only [Act.put, List.setIfInBounds_toArray, List.set_cons_zero, List.set_cons_succ]
    clear hHeld
    have hHeld := hHeld2
    clear hHeld2
    refine wpAnyH_ready (rs := [10]) (by kernel_rfl) (by simp) ?_
    refine AllReadyH.cons (by simp only [List.getElem?_toArray, List.getElem?_cons_succ, List.getElem?_cons_zero]; rfl) (fun K hK => ?_) AllReadyH.nil
    go_simp
    refine hK.out _ _ ?_ (fun hHeld2 => ?_)
    · exact (have hx := (Only.refl (fun _ => False) w5).alloc _; have hHeld := HQ.out; And.intro (And.intro (hx.cell hHeld.1.1 (fun h => h)) (hx.cell hHeld.1.2 (fun h => h))) (And.intro (hx.cell hHeld.2.1 (fun h => h)) (And.intro (hx.cell hHeld.2.2.1 (fun h => h)) (hx.cell hHeld.2.2.2 (fun h => h)))))
    clear hK K
    try simp only [Act.put, List.setIfInBounds_toArray, List.set_cons_zero, List.set_cons_succ]
    clear hHeld
    have hHeld := hHeld2
    clear hHeld2
    refine wpAnyH_ready (rs := [11]) (by kernel_rfl) (by simp) ?_
    refine AllReadyH.cons (by simp only [List.getElem?_toArray, List.getElem?_cons_succ, List.getElem?_cons_zero]; rfl) (fun K hK => ?_) AllReadyH.nil
    go_simp
    refine (shortsP w0 w5 wb svc _ ap np cp [fl, nm, ds, 1, pz] HW5.out U5.out ROOM.out 5 rfl #[.int .i64 fl, .int .i64 nm, .int .i64 ds, .int .i64 1, .int .i64 pz] rfl w5.heap.size rfl).mono ?_; rintro e w6 ⟨rfl, hto6⟩; obtain ⟨svd, hwd, hod, hsd⟩ := (HW5.out.only ((Only.refl (fun _ => False) w5).alloc _)).to hto6; have HWD := Lib.hid hwd; have HOD := Lib.hid hod; have HT6 := Lib.hid hto6; have HSD := Lib.hid hsd; clear hwd hod hsd hto6
    go_wp2_with fail
    refine hK.out _ _ ?_ (fun hHeld2 => ?_)
    · exact ⟨⟨HOD.out.cell hHeld.1.1 NS1.out, HOD.out.cell hHeld.1.2 NS1.out⟩, HOD.out.cell hHeld.2.1 NS5.out, HOD.out.cell hHeld.2.2.1 NS5.out, HOD.out.cell hHeld.2.2.2 NS5.out⟩
    clear hK K
    try simp only [Act.put, List.setIfInBounds_toArray, List.set_cons_zero, List.set_cons_succ]
    clear hHeld
    have hHeld := hHeld2
    clear hHeld2
    refine wpAnyH_done (by kernel_rfl) ?_ _
    have p5 := HOD.out.heap (((Only.refl (fun _ => False) w5).alloc _).heap (HO5.out.heap HB5.out (fun h => h)) (fun h => h)) NS5.out
    have pw := HOD.out.heap (((Only.refl (fun _ => False) w5).alloc _).heap (HO5.out.heap HBW.out (fun h => h)) (fun h => h)) NS1.out
    obtain ⟨⟨q0, q1⟩, _⟩ := hHeld
    have HP5 := Lib.hid p5
    have HPW := Lib.hid pw
    have cN := newWriterC ap np cp w6
    have CN := Lib.hid cN
    clear p5 pw cN k0 k1 k2
    go_wp2_with (fail)
    refine CN.out.mono ?_
    rintro e w7 ⟨rfl, hn7⟩
    have hox := hn7.on.alloc (.cells #[.pointer (some ⟨w6.heap.size + 1, 0, none⟩), .slice ap np cp] 47)
    have hw8 := hn7.only ((Only.refl (fun _ => False) w7).alloc (.cells #[.pointer (some ⟨w6.heap.size + 1, 0, none⟩), .slice ap np cp] 47))
    have p5 := hox.heap HP5.out (fun h => h)
    have hb6 := heap_alloc_new w7 (.cells #[.pointer (some ⟨w6.heap.size + 1, 0, none⟩), .slice ap np cp] 47)
    have hb66 := hb6
    have cC := CWC.out w6 _ _ ⟨fl, nm, ds, st, lo, code, traps, maps⟩ _ _ _ hw8 HWD.out.on (HIN.out.only HWD.out.on) HMR.out.1 HMR.out.2 (by have := HCL.out; omega)
    have r0 := cell_blk hb6 0
    have r1 := cell_blk hb6 1
    have m0 := cell_blk p5 0
    have m1 := cell_blk p5 1
    have m2 := cell_blk p5 2
    have m3 := cell_blk p5 3
    have m4 := cell_blk p5 4
    have m5 := cell_blk p5 5
    have m6 := cell_blk p5 6
    have m7 := cell_blk p5 7
    simp at m0 m1 m2 m3 m4 m5 m6 m7
    have HW8a := Lib.hid hw8
    have HB6 := Lib.hid hb66
    have CC := Lib.hid cC
    have H7S := Lib.hid hn7.on.size
    have NB6 := Lib.hid (hn7.below (k := w7.heap.size) (Nat.le_refl _))
    clear hn7 hox hw8 p5 hb6 hb66 cC CN q0 q1 r0 r1
    go_wp2_with (fail)
    refine CC.out.mono ?_
    rintro e w8 ⟨rfl, hto8⟩
    obtain ⟨sv2, hw8, ho8, hs8⟩ := HW8a.out.to hto8
    have HW8 := Lib.hid hw8
    have HWO := Lib.hid (HWD.out.only hw8.on)
    have NS8 := Lib.hid (show ¬ WrS wb svd w.heap.size from fun hW => by
      rcases hW with e | e
      · exact NS1.out (.inl e)
      · rcases HSD.out _ e with e | e
        · exact NS1.out (.inr e)
        · have := heap_lt HBW.out
          have := HO5.out.size
          simp at e
          omega)
    obtain ⟨b6, hb6⟩ : ∃ b6, w7.heap.size = b6 := ⟨_, rfl⟩
    have NS86 := Lib.hid (HWD.out.below (k := b6) (by rw [← hb6]; exact H7S.out))
    have pw := hw8.on.heap HPW.out (fun h => h)
    have q0 := cell_blk pw 0
    have q1 := cell_blk pw 1
    simp at q0 q1
    have hb8 := ho8.heap HB6.out NB6.out
    rw [hb6] at hb8
    have r60 := cell_blk hb8 0
    simp at r60
    clear hto8 hw8 ho8 hs8 pw m0 m1 m2 m3 m4 m5 m6 m7 hb8 CC
    rw [hb6]
    go_wp2_with (fail)
    refine wp_region_held_drew (S := fun wc => (wc.cell? ⟨w.heap.size, 0, none⟩ = some (.pointer (some ⟨wb, 0, none⟩)) ∧ wc.cell? ⟨w.heap.size, 1, none⟩ = some (.slice ap np cp)) ∧ wc.cell? ⟨b6, 0, none⟩ = some (.pointer (some ⟨w6.heap.size + 1, 0, none⟩))) (by kernel_rfl) ⟨⟨q0, q1⟩, r60⟩ (fun hHeld => ?_)
    refine wpAnyH_take (i := 0) (v := ?_) (by simp only [List.getElem?_toArray, List.getElem?_cons_succ, List.getElem?_cons_zero]; rfl) (by kernel_rfl) (by kernel_rfl) (by kernel_rfl) (by exact fun _ _ _ h => h) (Or.inl ⟨by rfl, ?_⟩) (by assumption) ?_
    rotate_left 1
    · (intro w hSw; (try dsimp only at hSw); go_simp; try with_reducible rfl)
    try simp only [Act.put, List.setIfInBounds_toArray, List.set_cons_zero, List.set_cons_succ]
    refine wpAnyH_take (i := 1) (v := ?_) (by simp only [List.getElem?_toArray, List.getElem?_cons_succ, List.getElem?_cons_zero]; rfl) (by kernel_rfl) (by kernel_rfl) (by kernel_rfl) (by exact fun _ _ _ h => h) (Or.inl ⟨by rfl, ?_⟩) (by assumption) ?_
    rotate_left 1
    · (intro w hSw; (try dsimp only at hSw); go_simp; try with_reducible rfl)
    try simp only [Act.put, List.setIfInBounds_toArray, List.set_cons_zero, List.set_cons_succ]
    refine wpAnyH_take (i := 2) (v := ?_) (by simp only [List.getElem?_toArray, List.getElem?_cons_succ, List.getElem?_cons_zero]; rfl) (by kernel_rfl) (by kernel_rfl) (by kernel_rfl) (by exact fun _ _ _ h => h) (Or.inl ⟨by rfl, ?_⟩) (by assumption) ?_
    rotate_left 1
    · (intro w hSw; (try dsimp only at hSw); go_simp; try with_reducible rfl)
    try simp only [Act.put, List.setIfInBounds_toArray, List.set_cons_zero, List.set_cons_succ]
    refine wpAnyH_ready (rs := [3]) (by kernel_rfl) (by simp) ?_
    refine AllReadyH.cons (by simp only [List.getElem?_toArray, List.getElem?_cons_succ, List.getElem?_cons_zero]; rfl) (fun K hK => ?_) AllReadyH.nil
    go_simp
    refine (wrOut _ sv2 1048576 _ _ (HW8.out.wr.only (Only.refl (fun _ => False) w8).drew (fun h => h) (fun _ _ h => h))).mono ?_; rintro e w9 ⟨vo, rfl, hown, hbel⟩; have ho9 := Only.of_below hbel (fun _ => False); have HQ := Lib.hid (And.intro (And.intro (ho9.cell hHeld.1.1 (fun h => h)) (ho9.cell hHeld.1.2 (fun h => h))) (ho9.cell hHeld.2 (fun h => h))); have HO9 := Lib.hid ((Only.refl (fun _ => False) w8).drew.trans ho9 (fun _ h => h.elim)); have HOWN := Lib.hid hown; clear hown hbel ho9
    go_wp2_with fail
    refine hK.out _ _ ?_ (fun hHeld2 => ?_)
    · exact HQ.out
    clear hK K
    try simp only [Act.put, List.setIfInBounds_toArray, List.set_cons_zero, List.set_cons_succ]
    clear hHeld
    have hHeld := hHeld2
    clear hHeld2
    refine wpAnyH_ready (rs := [4]) (by kernel_rfl) (by simp) ?_
    refine AllReadyH.cons (by simp only [List.getElem?_toArray, List.getElem?_cons_succ, List.getElem?_cons_zero]; rfl) (fun K hK => ?_) AllReadyH.nil
    go_simp
    refine (writeList w0 w9 wb svd _ ap np cp vo (codeB cs ⟨fl, nm, ds, st, lo, code, traps, maps⟩) (HWO.out.only HO9.out) (Bytes.of_owns HOWN.out HW8.out.wr.byt) (fun k hk _ => HWO.out.below (show w8.heap.size ≤ k from (World.ownsRow.lt HOWN.out k hk).1)) ROOM2.out).mono ?_; rintro e w10 ⟨rfl, hto10⟩; obtain ⟨sve, hwe, hoe, hse⟩ := (HWO.out.only HO9.out).to hto10; have HT10 := Lib.hid hto10; have HOE := Lib.hid hoe; clear hwe hoe hse hto10
    go_wp2_with fail
    refine hK.out _ _ ?_ (fun hHeld2 => ?_)
    · exact ⟨⟨HOE.out.cell hHeld.1.1 NS8.out, HOE.out.cell hHeld.1.2 NS8.out⟩, HOE.out.cell hHeld.2 NS86.out⟩
    clear hK K
    try simp only [Act.put, List.setIfInBounds_toArray, List.set_cons_zero, List.set_cons_succ]
    clear hHeld
    have hHeld := hHeld2
    clear hHeld2
    refine wpAnyH_done (by kernel_rfl) ?_ _
    have HF := Lib.hid (WrTo.next HON.out HSV.out ((HOA.out.trans HO5.out (fun _ h => h.elim)).alloc _) (WrTo.next HOD.out HSD.out (HW8.out.on.trans HO9.out (fun _ h => h.elim)) HT10.out))
    clear hHeld
    go_wp2
    go_roundw
    case rel => exact ⟨j + 1, by omega, by go_num, by
      have := HF.out
      rw [five_be2] at this
      rw [HTK.out, List.flatMap_append, show [(⟨fl, nm, ds, st, lo, code, traps, maps⟩ : MethodV)].flatMap (methodB cs) = methodB cs ⟨fl, nm, ds, st, lo, code, traps, maps⟩ by simp [List.flatMap], HMB.out]
      simpa [List.append_assoc] using this⟩
    case measure => simp [intOf]; omega
end Go.Proofs.YtodhdiccfobcfaaGreatDoor
namespace Go.Proofs.YtodhdiccfobcfaaGreatDoor
open Go.RowKit
set_option linter.unusedVariables false
set_option linter.unusedSimpArgs false

/-- What Encode leaves. -/
def EncCTo (w : World) (c : ClassV) (e : Ending) (w' : World) : Prop :=
  ∃ v' k, e = .returned (.tuple #[v', .int .i64 k]) ∧ Only (fun _ => False) w w' ∧
    ((clsZ c = 0 ∧ k = 0 ∧ ∃ bs, ConstsB (c.pool.drop 1) bs ∧ Row w' w.heap.size v' (fileB c bs) ∧ Bytish (fileB c bs)) ∨ (clsZ c ≠ 0 ∧ k = clsZ c ∧ v' = .slice none 0 0))

set_option maxHeartbeats 8000000 in
set_option maxRecDepth 100000 in
theorem writeHead (w0 w : World) (wb : Nat) (sv : Value) (ap : Option Addr) (cp : Nat) (c : ClassV) (vf vm : Value) (bs : List Int) (h : WB w0 w wb sv []) (hc : ClassM w0 (.slice ap c.pool.length cp) vf vm c) (hz : clsZ c = 0) (hb : ConstsB (c.pool.drop 1) bs) (hT : Tabs w0) (hg : ErrV w0) :
    Calls Tryz.prog 16 #[.agg #[.pointer (some ⟨wb, 0, none⟩), .slice ap c.pool.length cp], .agg #[.slice ap c.pool.length cp, .int .i64 c.this, .int .i64 c.super, vf, vm]] w fun e w' =>
      e = .returned (.tuple #[]) ∧ WrTo w wb sv 1048576 (headB ++ ((be2 c.pool.length ++ bs) ++ (be2 0 ++ (be2 c.this ++ (be2 c.super ++ be2 0))))) w' := by
  have hlen := (fileB_len hz hb).2.1
  obtain ⟨hz0, _, hr1, hr2, _⟩ := clsZ_zero hz
  have hcl := (checkZ_zero hz0).1
  have b1 := classZ_lt hr1 hcl
  have b2 := classZ_lt hr2 hcl
  have cE := fun w' (ho : Only (fun _ => False) w0 w') => progEncode _ c.pool w' (hc.1.only ho (fun _ _ h => h)) (hT.only ho (fun h => h) (fun h => h)) (hg.only ho (fun h => h))
  obtain ⟨pool, this, super, fields, methods⟩ := c
  simp only at *
  obtain ⟨np, hnp⟩ : ∃ np, pool.length = np := ⟨_, rfl⟩
  obtain ⟨hp, hf, hm, r1, r2⟩ := id hc
  simp only at hf hm
  obtain ⟨af, cf, rfl, hf1, hf2⟩ := hf.1.slice
  obtain ⟨fm, hm1, hm2, hm3⟩ := id hm
  obtain ⟨am, cm, rfl, hm4, hm5⟩ := hm1.slice
  have HU := Lib.hid (fun bs' (hb' : ConstsB (pool.drop 1) bs') => ConstsB.unique rfl hb' hb)
  have HZ := Lib.hid hz0
  have HBY := Lib.hid (show Bytish (be2 (pool.length : Int) ++ bs) from (be2_byte _).append (consts_byte hb))
  have ho2 := ((Only.refl (fun _ => False) w).alloc (.cells #[.pointer (some ⟨wb, 0, none⟩), .slice ap np cp] 47)).alloc (.cells #[.slice ap np cp, .int .i64 this, .int .i64 super, .slice af fields.length cf, .slice am methods.length cm] 26)
  have hb1 := ((Only.refl (fun _ => False) _).alloc (.cells #[.slice ap np cp, .int .i64 this, .int .i64 super, .slice af fields.length cf, .slice am methods.length cm] 26)).heap (heap_alloc_new w (.cells #[.pointer (some ⟨wb, 0, none⟩), .slice ap np cp] 47)) (fun h => h)
  have hb2 := heap_alloc_new (w.alloc (.cells #[.pointer (some ⟨wb, 0, none⟩), .slice ap np cp] 47)) (.cells #[.slice ap np cp, .int .i64 this, .int .i64 super, .slice af fields.length cf, .slice am methods.length cm] 26)
  have hs1 : (w.alloc (.cells #[.pointer (some ⟨wb, 0, none⟩), .slice ap np cp] 47)).heap.size = w.heap.size + 1 := by simp
  rw [hs1] at hb2
  have hw2 := h.only ho2
  have NB1 := Lib.hid (h.below (k := w.heap.size) (Nat.le_refl _))
  have NB2 := Lib.hid (h.below (k := w.heap.size + 1) (by omega))
  rw [hnp] at cE hlen ⊢
  rw [hnp] at HBY
  have cU := uint4 wb sv [] 3405691582 _ hw2.wr (by decide) (by decide) (by simp)
  have CU := Lib.hid cU
  have HW := Lib.hid hw2
  have HO2 := Lib.hid ho2
  have HB1 := Lib.hid hb1
  have HB2 := Lib.hid hb2
  have CE := Lib.hid cE
  clear h ho2 hb1 hb2 hw2 cU cE hc hp hf hm hm1 hm2 hm3 hT hg hb hz hz0 hr1 hr2 hs1
  generalize hWW : (w.alloc (.cells #[.pointer (some ⟨wb, 0, none⟩), .slice ap np cp] 47)).alloc (.cells #[.slice ap np cp, .int .i64 this, .int .i64 super, .slice af fields.length cf, .slice am methods.length cm] 26) = W at *
  go_enter Tryz.func16, Tryz.ntmps16
  have q0 := cell_blk HB1.out 0
  simp at q0
  go_wp2_with (fail)
  clear hWW
  refine CU.out.mono ?_
  rintro e w1 ⟨rfl, hto⟩
  have HT := Lib.hid hto
  obtain ⟨svc, hwb, hon, hsv⟩ := HW.out.to hto
  clear q0
  have q0 := cell_blk (hon.heap HB1.out NB1.out) 0
  simp at q0
  have cU := uint4 wb svc _ 61 _ hwb.wr (by decide) (by decide) (by simp [be4])
  have CU2 := Lib.hid cU
  have HON := Lib.hid hon
  have HSV := Lib.hid hsv
  clear hto hwb hon hsv cU CU
  go_wp2_with (fail)
  refine CU2.out.mono ?_
  rintro e w2 ⟨rfl, hto⟩
  have hT2 : WrTo W wb sv 1048576 headB w2 := WrTo.next HON.out HSV.out (Only.refl _ _) (by simpa [headB] using hto)
  clear HON HSV HT CU2 hto q0
  obtain ⟨svc, hwb, hon, hsv⟩ := HW.out.to hT2
  have p1 := hon.heap HB1.out NB1.out
  have p2 := hon.heap HB2.out NB2.out
  have q0 := cell_blk p2 0
  simp at q0
  have HP1 := Lib.hid p1
  have HP2 := Lib.hid p2
  have HON := Lib.hid hon
  have HSV := Lib.hid hsv
  have HWB := Lib.hid hwb
  clear hT2 hwb hon hsv p1 p2
  go_wp2_with (fail)
  refine (CE.out _ HWB.out.on).mono ?_
  rintro e w3 ⟨vb, k, rfl, ho3, hres⟩
  rcases hres with ⟨_, rfl, bs', hbs', hrow⟩ | ⟨hne, _⟩
  rotate_left
  · exact absurd HZ.out hne
  obtain rfl := HU.out bs' hbs'
  rw [hnp] at hrow
  obtain ⟨pb, hpb⟩ : ∃ pb, be2 (np : Int) ++ bs' = pb := ⟨_, rfl⟩
  have HPB := Lib.hid hpb
  rw [hpb] at hrow HBY hlen
  clear hpb
  clear q0
  have q0 := cell_blk (ho3.heap HP1.out (fun h => h)) 0
  simp at q0
  have cB := bytesW wb svc _ vb _ w3 (HWB.out.only ho3).wr (hrow.bytes HBY.out) (by
    have : headB.length = 8 := rfl
    omega)
  obtain ⟨ab, cb, rfl, _, _⟩ := slice_of_owns hrow
  have CB := Lib.hid cB
  have HP31 := Lib.hid (ho3.heap HP1.out (fun h => h))
  have HP32 := Lib.hid (ho3.heap HP2.out (fun h => h))
  have HW3 := Lib.hid (HWB.out.only ho3)
  have HO3 := Lib.hid ho3
  have NC1 := Lib.hid (show ¬ WrS wb svc w.heap.size from fun hW => by
    rcases hW with e | e
    · exact NB1.out (.inl e)
    · rcases HSV.out _ e with e | e
      · exact NB1.out (.inr e)
      · have := heap_lt HB1.out; omega)
  have NC2 := Lib.hid (show ¬ WrS wb svc (w.heap.size + 1) from fun hW => by
    rcases hW with e | e
    · exact NB2.out (.inl e)
    · rcases HSV.out _ e with e | e
      · exact NB2.out (.inr e)
      · have := heap_lt HB2.out; omega)
  clear ho3 hrow hbs' cB CE
  go_wp2_with (fail)
  refine CB.out.mono ?_
  rintro e w4 ⟨rfl, hto⟩
  obtain ⟨svd, hwd, hod, hsd⟩ := HW3.out.to hto
  have p1 := hod.heap HP31.out NC1.out
  have p2 := hod.heap HP32.out NC2.out
  clear q0
  have q0 := cell_blk p1 0
  have q1 := cell_blk p1 1
  have r1 := cell_blk p2 1
  have r2 := cell_blk p2 2
  simp at q0 q1 r1 r2
  have cS := shortsP w0 _ wb svd _ ap np cp [0, this, super, 0] hwd (all4 u16_0 ⟨by omega, by omega⟩ ⟨by omega, by omega⟩ u16_0) (by
    have h8 : headB.length = 8 := rfl
    rw [List.length_append, h8]
    simp only [List.length_cons, List.length_nil]
    omega) 4 rfl #[.int .i64 0, .int .i64 this, .int .i64 super, .int .i64 0] rfl w4.heap.size rfl
  have CS := Lib.hid cS
  have HOD := Lib.hid hod
  have HSD := Lib.hid hsd
  clear hto hwd hod hsd p1 p2 cS CB
  go_wp2_with (fail)
  refine CS.out.mono ?_
  rintro e w5 ⟨rfl, hto⟩
  have HF := Lib.hid (WrTo.from HO2.out (WrTo.next HON.out HSV.out HO3.out (WrTo.next HOD.out HSD.out ((Only.refl _ _).alloc _) hto)))
  clear hto CS
  go_wp2
  go_end0
  refine ⟨rfl, ?_⟩
  have := HF.out
  have hpb := HPB.out
  subst hpb
  rw [four_be2] at this
  simpa [List.append_assoc] using this
end Go.Proofs.YtodhdiccfobcfaaGreatDoor
namespace Go.Proofs.YtodhdiccfobcfaaGreatDoor
open Go.RowKit
set_option linter.unusedVariables false
set_option linter.unusedSimpArgs false

theorem fileB_len' (c : ClassV) (bs : List Int) : (fileB c bs).length = 8 + (be2 c.pool.length ++ bs).length + 8 + (2 + 8 * c.fields.length) + (2 + (c.methods.flatMap (methodB c.pool)).length) + 2 := by
  unfold fileB bodyB
  have e2 : ∀ x, (be2 x).length = 2 := fun _ => rfl
  have h8 : headB.length = 8 := rfl
  simp only [List.length_append, fieldB_len, e2, h8]
  omega
theorem consts_some' {all : List ConstV} (hl : all.length ≤ 1024) : ∀ (n : Nat) (ds : List ConstV), ds.length = n → (∀ c ∈ ds, oneZ all c = 0) → ∃ bs, ConstsB ds bs
  | 0, ds, hn, _ => by
    have : ds = [] := List.eq_nil_of_length_eq_zero hn
    subst this
    exact ⟨[], .nil⟩
  | n + 1, ds, hn, h => by
    have hne : ds ≠ [] := by intro e; subst e; simp at hn
    have e := (List.dropLast_concat_getLast hne).symm
    generalize ds.dropLast = xs at e
    generalize ds.getLast hne = x at e
    subst e
    obtain ⟨bs, hb⟩ := consts_some' hl n xs (by simpa using hn) (fun c hc => h c (by simp [hc]))
    have hx := oneZ_zero hl (h x (by simp))
    have : ∃ b, ConstB x b := by
      rcases hx with ⟨ht, hb⟩ | ⟨ht, _⟩ | ht | ⟨ht, _⟩ | ⟨ht, _⟩
      · obtain ⟨ys, he, hys⟩ := not_bad hb
        exact ⟨_, .inl ⟨ht, ys, he, hys, rfl⟩⟩
      · exact ⟨_, .inr (.inl ⟨ht, rfl⟩)⟩
      · exact ⟨_, .inr (.inr (.inl ⟨ht, rfl⟩))⟩
      · exact ⟨_, .inr (.inr (.inr (.inl ⟨ht, rfl⟩)))⟩
      · exact ⟨_, .inr (.inr (.inr (.inr ⟨ht, rfl⟩)))⟩
    obtain ⟨b, hb2⟩ := this
    exact ⟨_, .snoc hb hb2⟩
theorem consts_some {cs : List ConstV} (h : checkZ cs = 0) : ∃ bs, ConstsB (cs.drop 1) bs := by
  obtain ⟨h1, h2, h3, h4⟩ := checkZ_zero h
  refine consts_some' h1 _ _ rfl (fun c hc => ?_)
  obtain ⟨i, hi, rfl⟩ := List.mem_iff_getElem.1 hc
  rw [List.length_drop] at hi
  have := h4 (i + 1) (by omega) (by omega)
  rw [List.getElem_drop]
  simpa [List.getD, show i + 1 < cs.length by omega, Nat.add_comm] using this
theorem FieldP.small {cs : List ConstV} {f : FieldV} (h : FieldP cs f) (hl : cs.length ≤ 1024) : FieldS f := by
  obtain ⟨h0, h1, h2⟩ := h
  have := textZ_lt h1 hl
  have := textZ_lt h2 hl
  unfold FlagsP at h0
  exact ⟨⟨by omega, by omega⟩, ⟨by omega, by omega⟩, ⟨by omega, by omega⟩⟩

set_option maxHeartbeats 8000000 in
set_option maxRecDepth 100000 in
theorem progClsEncode (vp vf vm : Value) (c : ClassV) (w : World) (hc : ClassM w vp vf vm c) (hT : Tabs w) (hg : ErrV w) :
    Calls Tryz.prog 8 #[.agg #[vp, .int .i64 c.this, .int .i64 c.super, vf, vm]] w (EncCTo w c) := by
  have ho0 := (Only.refl (fun _ => False) w).alloc (.cells #[vp, .int .i64 c.this, .int .i64 c.super, vf, vm] 26)
  have hbx := heap_alloc_new w (.cells #[vp, .int .i64 c.this, .int .i64 c.super, vf, vm] 26)
  have cK := progClsCheck vp vf vm c _ (hc.only ho0) (hT.only ho0 (fun h => h) (fun h => h)) (hg.only ho0 (fun h => h))
  obtain ⟨pool, this, super, fields, methods⟩ := c
  obtain ⟨hp, hf, hm, r1, r2⟩ := id hc
  simp only at *
  obtain ⟨ap, cp, rfl, _, _, _, hpr, _⟩ := id hp
  obtain ⟨af, cf, rfl, hf1, hf2⟩ := hf.1.slice
  obtain ⟨fm, hm1, hm2, hm3⟩ := id hm
  obtain ⟨am, cm, rfl, hm4, hm5⟩ := hm1.slice
  have HC := Lib.hid hc
  have HT := Lib.hid hT
  have HG := Lib.hid hg
  obtain ⟨np, hnp⟩ : ∃ np, pool.length = np := ⟨_, rfl⟩
  obtain ⟨nf, hnf⟩ : ∃ nf, fields.length = nf := ⟨_, rfl⟩
  obtain ⟨nm, hnm⟩ : ∃ nm, methods.length = nm := ⟨_, rfl⟩
  rw [hnp, hnf, hnm] at ho0 hbx cK ⊢
  have HO := Lib.hid ho0
  have HBX := Lib.hid hbx
  have HNP := Lib.hid hnp
  have HNF := Lib.hid hnf
  have HNM := Lib.hid hnm
  have CK := Lib.hid cK
  clear hc hp hf hm hm1 hm2 hm3 hT hg ho0 hbx cK hpr hnp hnf hnm
  obtain ⟨z, hz⟩ : ∃ z, clsZ ⟨pool, this, super, fields, methods⟩ = z := ⟨_, rfl⟩
  rw [hz] at CK
  have HZ := Lib.hid hz
  clear hz
  go_enter Tryz.func8, Tryz.ntmps8
  go_wp2_with (fail)
  refine CK.out.mono ?_
  rintro e w1 ⟨rfl, ho1⟩
  have HO1 := Lib.hid (HO.out.trans ho1 (fun _ h => h.elim))
  have hb1 := ho1.heap HBX.out (fun h => h)
  have HB1 := Lib.hid hb1
  clear ho1 CK
  by_cases hz : z = 0
  rotate_left
  · have hzb : (z != 0) = true := by simpa using hz
    have HZN := Lib.hid hz
    clear hz hb1
    go_wp2
    go_ret2
    exact ⟨_, z, rfl, HO1.out, .inr ⟨by rw [HZ.out]; exact HZN.out, HZ.out.symm, rfl⟩⟩
  subst hz
  have q0 := cell_blk hb1 0
  have q1 := cell_blk hb1 1
  have q2 := cell_blk hb1 2
  have q3 := cell_blk hb1 3
  have q4 := cell_blk hb1 4
  simp at q0 q1 q2 q3 q4
  have hz0 := (clsZ_zero HZ.out).1
  have hcl := (checkZ_zero hz0).1
  obtain ⟨bs, hbs⟩ : ∃ bs, ConstsB (pool.drop 1) bs := consts_some hz0
  have hlen := (fileB_len HZ.out hbs).1
  rw [fileB_len' ⟨pool, this, super, fields, methods⟩ bs] at hlen
  simp only [HNF.out, HNM.out] at hlen
  have HBS := Lib.hid hbs
  have hfs : ∀ f ∈ fields, FieldS f := fun f hf => ((clsZ_zero HZ.out).2.2.2.2.1 f hf).small hcl
  have hms : ∀ m ∈ methods, MethodP pool m ∧ m.traps.length ≤ 64 := fun m hm => ⟨(clsZ_zero HZ.out).2.2.2.2.2 m hm, Nat.le_of_not_lt fun e => (clsZ_zero HZ.out).2.1 (.inr (.inr ⟨m, hm, e⟩))⟩
  have hc1 := HC.out.only HO1.out
  have hT1 := HT.out.only HO1.out (fun h => h) (fun h => h)
  have hg1 := HG.out.only HO1.out (fun h => h)
  have HBR := Lib.hid (bare_of_right hz0)
  have HC1 := Lib.hid hc1
  have HT1 := Lib.hid hT1
  have HG1 := Lib.hid hg1
  have HFS := Lib.hid hfs
  have HMS := Lib.hid hms
  have HCL := Lib.hid hcl
  have cN := newWriterC ap np cp w1
  have CN := Lib.hid cN
  have HLEN := Lib.hid hlen
  clear hb1 hz0 hcl hbs hlen hfs hms hc1 hT1 hg1 cN
  go_wp2_with (fail)
  refine CN.out.mono ?_
  rintro e w2 ⟨rfl, hn⟩
  obtain ⟨wb, hwbe⟩ : ∃ wb, w1.heap.size + 1 = wb := ⟨_, rfl⟩
  rw [hwbe] at hn ⊢
  have hox := (Only.refl (fun _ => False) w2).alloc (.cells #[.pointer (some ⟨wb, 0, none⟩), .slice ap np cp] 47)
  have hbw := heap_alloc_new w2 (.cells #[.pointer (some ⟨wb, 0, none⟩), .slice ap np cp] 47)
  have hw := hn.only hox
  have hb2 := hox.heap (hn.on.heap HB1.out (fun h => h)) (fun h => h)
  have hW0 : Only (fun _ => False) w1 (w2.alloc (.cells #[.pointer (some ⟨wb, 0, none⟩), .slice ap np cp] 47)) := hw.on
  have NBw := Lib.hid (hn.below (k := w2.heap.size) (Nat.le_refl _))
  have NBc := Lib.hid (show ¬ WrS wb (.slice none 0 0) w.heap.size from by
    rintro (e | e)
    · have := heap_lt HB1.out; omega
    · simp [Value.ownBlock] at e)
  have cH := writeHead w1 _ wb _ ap cp ⟨pool, this, super, fields, methods⟩ _ _ bs hw HC1.out HZ.out HBS.out HT1.out HG1.out
  simp only [HNP.out] at cH
  rw [HNF.out, HNM.out] at cH
  have CH := Lib.hid cH
  have HW := Lib.hid hw
  have HBW := Lib.hid hbw
  have HB2 := Lib.hid hb2
  clear hn hox hbw hw hb2 cH hW0 CN q0 q1 q2 q3 q4
  generalize hWW : w2.alloc (.cells #[.pointer (some ⟨wb, 0, none⟩), .slice ap np cp] 47) = W at *
  have q0 := cell_blk HB2.out 0
  have q1 := cell_blk HB2.out 1
  have q2 := cell_blk HB2.out 2
  have q3 := cell_blk HB2.out 3
  have q4 := cell_blk HB2.out 4
  have x0 := cell_blk HBW.out 0
  have x1 := cell_blk HBW.out 1
  simp at q0 q1 q2 q3 q4 x0 x1
  go_wp2_with (fail)
  clear hWW x0 x1
  refine CH.out.mono ?_
  rintro e w3 ⟨rfl, hto⟩
  have HT3 := Lib.hid hto
  obtain ⟨svc, hwb, hon, hsv⟩ := HW.out.to hto
  have p1 := hon.heap HBW.out NBw.out
  have p2 := hon.heap HB2.out NBc.out
  clear q0 q1 q2 q3 q4
  have q0 := cell_blk p1 0
  have q1 := cell_blk p1 1
  have r3 := cell_blk p2 3
  simp at q0 q1 r3
  have hbl : (headB ++ ((be2 (np : Int) ++ bs) ++ (be2 0 ++ (be2 this ++ (be2 super ++ be2 0))))).length = 8 + (be2 (np : Int) ++ bs).length + 8 := by
    have h8 : headB.length = 8 := rfl
    have e2 : ∀ x, (be2 x).length = 2 := fun _ => rfl
    simp only [List.length_append, h8, e2]
    omega
  have cF := writeFields w1 w3 wb svc _ ap np cp _ fields hwb (HC1.out.2.1) (by have h9 := ((LessP.iff ⟨pool, this, super, fields, methods⟩).2 (clsZ_zero HZ.out).2.1).1; simp only [HNF.out] at h9; rw [HNF.out]; omega) HFS.out (by have := HLEN.out; rw [hbl, HNF.out]; simp only [HNP.out] at this; omega)
  rw [HNF.out] at cF
  have CF := Lib.hid cF
  have HON := Lib.hid hon
  have HSV := Lib.hid hsv
  clear hto hwb hon hsv p1 p2 cF CH hbl
  go_wp2_with (fail)
  refine CF.out.mono ?_
  rintro e w4 ⟨rfl, hto⟩
  have hT4 : WrTo W wb (.slice none 0 0) 1048576 (headB ++ ((be2 (np : Int) ++ bs) ++ (be2 0 ++ (be2 this ++ (be2 super ++ (be2 0 ++ (be2 nf ++ fields.flatMap fieldB))))))) w4 := by
    have := WrTo.next HON.out HSV.out (Only.refl _ _) hto
    simpa [List.append_assoc] using this
  clear HON HSV HT3 CF hto q0 q1 r3
  obtain ⟨svc, hwb, hon, hsv⟩ := HW.out.to hT4
  have p1 := hon.heap HBW.out NBw.out
  have p2 := hon.heap HB2.out NBc.out
  have q0 := cell_blk p1 0
  have q1 := cell_blk p1 1
  have r4 := cell_blk p2 4
  simp at q0 q1 r4
  have hbl : (headB ++ ((be2 (np : Int) ++ bs) ++ (be2 0 ++ (be2 this ++ (be2 super ++ (be2 0 ++ (be2 nf ++ fields.flatMap fieldB))))))).length = 8 + (be2 (np : Int) ++ bs).length + 8 + (2 + 8 * nf) := by
    have h8 : headB.length = 8 := rfl
    have e2 : ∀ x, (be2 x).length = 2 := fun _ => rfl
    simp only [List.length_append, h8, e2, fieldB_len, HNF.out]
    omega
  have cM := writeMethods w1 w4 wb svc _ ap cp pool _ methods hwb HC1.out.1 HBR.out HCL.out HC1.out.2.2.1 HMS.out (by have h9 := ((LessP.iff ⟨pool, this, super, fields, methods⟩).2 (clsZ_zero HZ.out).2.1).2.1; simp only [HNM.out] at h9; rw [HNM.out]; omega) (by have := HLEN.out; rw [hbl]; simp only [HNP.out] at this; omega)
  rw [HNM.out, HNP.out] at cM
  have CM := Lib.hid cM
  have HON := Lib.hid hon
  have HSV := Lib.hid hsv
  clear hT4 hwb hon hsv p1 p2 cM hbl
  go_wp2_with (fail)
  refine CM.out.mono ?_
  rintro e w5 ⟨rfl, hto⟩
  have hT5 : WrTo W wb (.slice none 0 0) 1048576 (headB ++ ((be2 (np : Int) ++ bs) ++ (be2 0 ++ (be2 this ++ (be2 super ++ (be2 0 ++ (be2 nf ++ (fields.flatMap fieldB ++ (be2 nm ++ methods.flatMap (methodB pool)))))))))) w5 := by
    have := WrTo.next HON.out HSV.out (Only.refl _ _) hto
    simpa [List.append_assoc] using this
  clear HON HSV CM hto q0 q1 r4
  obtain ⟨svc, hwb, hon, hsv⟩ := HW.out.to hT5
  have p1 := hon.heap HBW.out NBw.out
  have q0 := cell_blk p1 0
  have q1 := cell_blk p1 1
  simp at q0 q1
  have HP1 := Lib.hid p1
  have cS := shortsP w1 _ wb svc _ ap np cp [0] hwb (all1 u16_0) (by
    have := HLEN.out
    have h8 : headB.length = 8 := rfl
    have e2 : ∀ x, (be2 x).length = 2 := fun _ => rfl
    simp only [List.length_append, h8, e2, fieldB_len, HNF.out, HNP.out, List.length_cons, List.length_nil] at this ⊢
    omega) 1 rfl #[.int .i64 0] rfl w5.heap.size rfl
  have CS := Lib.hid cS
  have HON := Lib.hid hon
  have HSV := Lib.hid hsv
  have NBw5 := Lib.hid (show ¬ WrS wb svc w2.heap.size from fun hW => by
    rcases hW with e | e
    · exact NBw.out (.inl e)
    · rcases hsv _ e with e | e
      · exact NBw.out (.inr e)
      · have := heap_lt HBW.out; omega)
  have HWB5 := Lib.hid hwb
  clear hT5 hwb hon hsv p1 cS
  go_wp2_with (fail)
  refine CS.out.mono ?_
  rintro e w6 ⟨rfl, hto⟩
  obtain ⟨svd, hwd, hod, hsd⟩ := (HWB5.out.only ((Only.refl (fun _ => False) w5).alloc _)).to hto
  clear q0 q1
  have q0 := cell_blk (hod.heap (((Only.refl (fun _ => False) w5).alloc _).heap HP1.out (fun h => h)) NBw5.out) 0
  simp at q0
  have cO := wrOut wb svd 1048576 _ w6 hwd.wr
  have CO := Lib.hid cO
  have HWD := Lib.hid hwd
  clear hto hwd hod hsd cO CS
  go_wp2_with (fail)
  refine CO.out.mono ?_
  rintro e w7 ⟨vo, rfl, hown, hbel⟩
  have HOF := Lib.hid ((HO1.out.trans HWD.out.on (fun _ h => h.elim)).trans (Only.of_below hbel (fun _ => False)) (fun _ h => h.elim))
  have HS6 := Lib.hid (Nat.le_trans HO1.out.size HWD.out.on.size)
  have HOWN := Lib.hid hown
  clear hown hbel
  go_wp2
  go_ret2
  have eF : headB ++ ((be2 (np : Int) ++ bs) ++ (be2 0 ++ (be2 this ++ (be2 super ++ (be2 0 ++ (be2 nf ++ (fields.flatMap fieldB ++ (be2 nm ++ methods.flatMap (methodB pool))))))))) ++ [0].flatMap be2 = fileB ⟨pool, this, super, fields, methods⟩ bs := by
    rw [one_be2]
    unfold fileB bodyB
    simp only [HNP.out, HNF.out, HNM.out, List.append_assoc]
  rw [eF] at HOWN HWD
  refine ⟨_, 0, rfl, HOF.out, .inl ⟨HZ.out, rfl, bs, HBS.out, ?_, HWD.out.wr.byt⟩⟩
  exact owns_base HOWN.out (fun k hk => Nat.le_trans HS6.out (World.ownsRow.lt HOWN.out k hk).1)
end Go.Proofs.YtodhdiccfobcfaaGreatDoor
