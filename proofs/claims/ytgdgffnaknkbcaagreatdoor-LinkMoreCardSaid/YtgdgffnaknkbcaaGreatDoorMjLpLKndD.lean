import Derived.Laws.MakeOwn
import Derived.Deep.RegionHeld3
import Derived.Test.YtgdgffnaknkbcaaGreatDoorMjLpHLpI
import Derived.Test.YtgdgffnaknkbcaaGreatDoorMjLpJ
import Derived.Test.YtgdgffnaknkbcaaGreatDoorMjKndAKndC
namespace Go.Proofs.YtgdgffnaknkbcaaGreatDoor
open Go.RowKit Go.Maps
set_option linter.unusedVariables false
set_option linter.unusedSimpArgs false
theorem info_kpair : (Tryz.prog.info? 95).map (fun i => (i.zero, i.size, i.bytes)) = some (some (.agg #[.string ⟨#[]⟩, .string ⟨#[]⟩]), 2, 32) := by kernel_rfl
theorem run_mkP (n : Nat) (hn : n ≤ 4096) (w : World) : (Instr.makeSlice 42 (.int .i64 (n : Int)) (.int .i64 (n : Int))).run Tryz.prog w = .ok (.slice (some ⟨w.heap.size, 0, none⟩) n n) (w.alloc (.cells (madeCells #[.string ⟨#[]⟩, .string ⟨#[]⟩] (n * 2)) 95)) := by
  obtain ⟨i0, hi, hz0, hz1, hz2⟩ := info_parts info_kpair
  have := run_make (P := Tryz.prog) w 42 95 i0 _ Tryz.underlying42 hi hz0 .i64 .i64 (n : Int) (n : Int) (by omega) (Int.le_refl _) (by rw [hz2]; omega) (by omega)
  simp only [Int.toNat_natCast, hz1] at this
  exact this
def LaidP (cur : Array Value) (n : Nat) (l : List PairV) (j : Nat) : Prop := cur.size = n * 2 ∧ ∀ i, i < j → cur[i * 2]? = some (.string (l.getD i default).name) ∧ cur[i * 2 + 1]? = some (.string (l.getD i default).super)
theorem LaidP.step {cur : Array Value} {n : Nat} {l : List PairV} {j : Nat} {x y : ByteArray} (h : LaidP cur n l j) (hj : j < n) (hx : x = (l.getD j default).name) (hy : y = (l.getD j default).super) : LaidP ((cur.setIfInBounds (j * 2) (.string x)).setIfInBounds (j * 2 + 1) (.string y)) n l (j + 1) := by
  obtain ⟨h1, h2⟩ := h
  refine ⟨by simpa using h1, fun i hi => ?_⟩
  by_cases hij : i = j
  · subst hij
    subst hx
    subst hy
    constructor
    · rw [Array.getElem?_setIfInBounds_ne (by omega), Array.getElem?_setIfInBounds_self_of_lt (by omega)]
    · rw [Array.getElem?_setIfInBounds_self_of_lt (by rw [Array.size_setIfInBounds]; omega)]
  · obtain ⟨a, b⟩ := h2 i (by omega)
    constructor
    · rw [Array.getElem?_setIfInBounds_ne (by omega), Array.getElem?_setIfInBounds_ne (by omega)]; exact a
    · rw [Array.getElem?_setIfInBounds_ne (by omega), Array.getElem?_setIfInBounds_ne (by omega)]; exact b
section
variable {G : Nat → Prop} {fv : Nat → Value} {w : World} {pb : Nat} {ks : List KindV} {cl : Nat → ClassV} {sl : Nat → Nat → Int} (h : ProgG G fv w pb ks cl sl) (hpos : 0 < ks.length) (hsm : ks.length ≤ 64)
include h hpos hsm
set_option maxHeartbeats 8000000 in
set_option maxRecDepth 100000 in
theorem pTree : Calls Tryz.prog 23 #[.pointer (some ⟨pb, 0, none⟩)] w fun e w' => ∃ r, e = .returned r ∧ Pairs w' r (treeZ ks) ∧ Only (fun _ => False) w w' := by
  have C1 := Lib.hid (pLen h hpos)
  obtain ⟨n, hn⟩ : ∃ n, ks.length = n := ⟨_, rfl⟩
  have hmk := run_mkP n (by omega)
  have hb0 := heap_alloc_new w (.cells (madeCells #[.string ⟨#[]⟩, .string ⟨#[]⟩] (n * 2)) 95)
  have hlp : LaidP (madeCells #[.string ⟨#[]⟩, .string ⟨#[]⟩] (n * 2)) n (treeZ ks) 0 := ⟨size_madeCells _ _, fun i hi => by omega⟩
  have ho0 := (Only.refl (fun _ => False) w).alloc (.cells (madeCells #[.string ⟨#[]⟩, .string ⟨#[]⟩] (n * 2)) 95)
  generalize madeCells #[.string ⟨#[]⟩, .string ⟨#[]⟩] (n * 2) = mc at *
  have HB0 := Lib.hid hb0
  have HLP := Lib.hid hlp
  have HO0 := Lib.hid ho0
  obtain ⟨b, o, cap, mb, g0, -, e1, e2, -, hk⟩ := h.open hpos
  have HK := Lib.hid hk
  have HN := Lib.hid hn
  rw [hn] at C1 g0 e1
  have hn64 : n ≤ 64 := by omega
  clear hb0 hlp ho0 hk h hn
  go_enter Tryz.func23, Tryz.ntmps23
  go_wp2_with (fail)
  refine C1.out.mono ?_
  rintro e w1 ⟨rfl, hww⟩
  subst hww
  go_wp2
  go_loopw [10] (fun iv wr => ∃ (j : Nat) (cur : Array Value), iv = .int .i64 j ∧ j ≤ n ∧ Hid (wr.heap[w.heap.size]? = some (.cells cur 95 (0, 0))) ∧ Hid (LaidP cur n (treeZ ks) j) ∧ Hid (Only (fun _ => False) w wr)) (fun iv _ => n - (intOf iv).toNat)
  case atStart => exact ⟨0, mc, rfl, Nat.zero_le _, HB0, HLP, HO0⟩
  case round =>
    obtain ⟨j, cur, rfl, hj, HB, HL, HO⟩ := hrel
    by_cases hlt : j < n
    · have hjz : (j : Int) < (n : Int) := by omega
      have hj0 : (0 : Int) ≤ (j : Int) := by omega
      have hjk : j < ks.length := by rw [HN.out]; exact hlt
      obtain ⟨iv, gi, hkn⟩ := HK.out j hjk
      obtain ⟨T, v, vom, rfl, ⟨na, hqa, hena, hca⟩, ⟨ns, hqs, hens, hcs⟩, -, -, -⟩ := hkn.told
      have q0 := HO.out.cell g0 (fun h => h)
      have qi := HO.out.cell gi (fun h => h)
      have HT := Lib.hid (treeZ_at hjk)
      have CN := Lib.hid hca
      have CSU := Lib.hid hcs
      obtain ⟨u0, hu0⟩ : ∃ u0, cur[j * 2]? = some u0 := ⟨cur[j * 2]'(by have := HL.out.1; omega), by rw [Array.getElem?_eq_getElem]⟩
      obtain ⟨u1, hu1⟩ : ∃ u1, cur[j * 2 + 1]? = some u1 := ⟨cur[j * 2 + 1]'(by have := HL.out.1; omega), by rw [Array.getElem?_eq_getElem]⟩
      have HU0 := Lib.hid hu0
      have HU1 := Lib.hid hu1
      generalize (ks.getD j default).name = x at *
      generalize (ks.getD j default).super = y at *
      have TO : Hid (∀ W, Only (fun _ => False) w W → Only (fun _ => False) w ((W.setCell ⟨w.heap.size, j * 2, none⟩ (.string x)).setCell ⟨w.heap.size, j * 2 + 1, none⟩ (.string y))) := Lib.hid (fun W hW => (hW.setCell (fun hl => absurd hl (Nat.lt_irrefl _)) _).setCell (fun hl => absurd hl (Nat.lt_irrefl _)) _)
      clear hkn hca hcs hu0 hu1
      go_wp2
      refine wp_region_held_drew (S := fun wc => wc.cell? ⟨pb, 0, none⟩ = some (.slice (some ⟨b, o, none⟩) n cap) ∧ wc.cell? ⟨b, o + j, none⟩ = some (.iface T v)) (by kernel_rfl) ⟨q0, qi⟩ (fun hHeld => ?_)
      refine wpAnyH_take (i := 0) (v := ?_) (by simp only [List.getElem?_toArray, List.getElem?_cons_succ, List.getElem?_cons_zero]; rfl) (by kernel_rfl) (by kernel_rfl) (by kernel_rfl) (by exact fun _ _ _ h => h) (Or.inl ⟨by rfl, ?_⟩) (by assumption) ?_
      rotate_left 1
      · (intro w hSw; (try dsimp only at hSw); go_simp; try with_reducible rfl)
      try simp only [Act.put, List.setIfInBounds_toArray, List.set_cons_zero, List.set_cons_succ]
      refine wpAnyH_take (i := 1) (v := ?_) (by simp only [List.getElem?_toArray, List.getElem?_cons_succ, List.getElem?_cons_zero]; rfl) (by kernel_rfl) (by kernel_rfl) (by kernel_rfl) (by exact fun _ _ _ h => h) (Or.inl ⟨by rfl, ?_⟩) (by assumption) ?_
      rotate_left 1
      · (intro w hSw; (try dsimp only at hSw); go_simp; try with_reducible rfl)
      try simp only [Act.put, List.setIfInBounds_toArray, List.set_cons_zero, List.set_cons_succ]
      refine wpAnyH_take (i := 2) (v := ?_) (by simp only [List.getElem?_toArray, List.getElem?_cons_succ, List.getElem?_cons_zero]; rfl) (by kernel_rfl) (by kernel_rfl) (by kernel_rfl) (by exact fun _ _ _ h => h) (Or.inl ⟨by rfl, ?_⟩) (by assumption) ?_
      rotate_left 1
      · (intro w hSw; (try dsimp only at hSw); go_simp; try with_reducible rfl)
      try simp only [Act.put, List.setIfInBounds_toArray, List.set_cons_zero, List.set_cons_succ]
      refine wpAnyH_take (i := 3) (v := ?_) (by simp only [List.getElem?_toArray, List.getElem?_cons_succ, List.getElem?_cons_zero]; rfl) (by kernel_rfl) (by kernel_rfl) (by kernel_rfl) (by exact fun _ _ _ h => h) (Or.inl ⟨by rfl, ?_⟩) (by assumption) ?_
      rotate_left 1
      · (intro w hSw; (try dsimp only at hSw); go_simp; try with_reducible rfl)
      try simp only [Act.put, List.setIfInBounds_toArray, List.set_cons_zero, List.set_cons_succ]
      refine wpAnyH_take (i := 4) (v := ?_) (by simp only [List.getElem?_toArray, List.getElem?_cons_succ, List.getElem?_cons_zero]; rfl) (by kernel_rfl) (by kernel_rfl) (by kernel_rfl) (by exact fun _ _ _ h => h) (Or.inl ⟨by rfl, ?_⟩) (by assumption) ?_
      rotate_left 1
      · (intro w hSw; (try dsimp only at hSw); go_simp; try with_reducible rfl)
      try simp only [Act.put, List.setIfInBounds_toArray, List.set_cons_zero, List.set_cons_succ]
      refine wpAnyH_take (i := 5) (v := ?_) (by simp only [List.getElem?_toArray, List.getElem?_cons_succ, List.getElem?_cons_zero]; rfl) (by kernel_rfl) (by kernel_rfl) (by kernel_rfl) (by exact fun _ _ _ h => h) (Or.inl ⟨by rfl, ?_⟩) (by assumption) ?_
      rotate_left 1
      · (intro w hSw; (try dsimp only at hSw); go_simp; try with_reducible rfl)
      try simp only [Act.put, List.setIfInBounds_toArray, List.set_cons_zero, List.set_cons_succ]
      refine wpAnyH_take (i := 6) (v := ?_) (by simp only [List.getElem?_toArray, List.getElem?_cons_succ, List.getElem?_cons_zero]; rfl) (by kernel_rfl) (by kernel_rfl) (by kernel_rfl) (by exact fun _ _ _ h => h) (Or.inl ⟨by rfl, ?_⟩) (by assumption) ?_
      rotate_left 1
      · (intro w hSw; (try dsimp only at hSw); go_simp; try with_reducible rfl)
      try simp only [Act.put, List.setIfInBounds_toArray, List.set_cons_zero, List.set_cons_succ]
      refine wpAnyH_take (i := 7) (v := ?_) (by simp only [List.getElem?_toArray, List.getElem?_cons_succ, List.getElem?_cons_zero]; rfl) (by kernel_rfl) (by kernel_rfl) (by kernel_rfl) (by exact fun _ _ _ h => h) (Or.inl ⟨by rfl, ?_⟩) (by assumption) ?_
      rotate_left 1
      · (intro w hSw; (try dsimp only at hSw); go_simp; try with_reducible rfl)
      try simp only [Act.put, List.setIfInBounds_toArray, List.set_cons_zero, List.set_cons_succ]
      refine wpAnyH_take (i := 8) (v := ?_) (by simp only [List.getElem?_toArray, List.getElem?_cons_succ, List.getElem?_cons_zero]; rfl) (by kernel_rfl) (by kernel_rfl) (by kernel_rfl) (by exact fun _ _ _ h => h) (Or.inl ⟨by rfl, ?_⟩) (by assumption) ?_
      rotate_left 1
      · (intro w hSw; (try dsimp only at hSw); go_simp; try with_reducible rfl)
      try simp only [Act.put, List.setIfInBounds_toArray, List.set_cons_zero, List.set_cons_succ]
      refine wpAnyH_take (i := 10) (v := ?_) (by simp only [List.getElem?_toArray, List.getElem?_cons_succ, List.getElem?_cons_zero]; rfl) (by kernel_rfl) (by kernel_rfl) (by kernel_rfl) (by exact fun _ _ _ h => h) (Or.inl ⟨by rfl, ?_⟩) (by assumption) ?_
      rotate_left 1
      · (intro w hSw; (try dsimp only at hSw); go_simp; try with_reducible rfl)
      try simp only [Act.put, List.setIfInBounds_toArray, List.set_cons_zero, List.set_cons_succ]
      refine wpAnyH_take (i := 11) (v := ?_) (by simp only [List.getElem?_toArray, List.getElem?_cons_succ, List.getElem?_cons_zero]; rfl) (by kernel_rfl) (by kernel_rfl) (by kernel_rfl) (by exact fun _ _ _ h => h) (Or.inl ⟨by rfl, ?_⟩) (by assumption) ?_
      rotate_left 1
      · (intro w hSw; (try dsimp only at hSw); go_simp; try with_reducible rfl)
      try simp only [Act.put, List.setIfInBounds_toArray, List.set_cons_zero, List.set_cons_succ]
      refine wpAnyH_take (i := 12) (v := ?_) (by simp only [List.getElem?_toArray, List.getElem?_cons_succ, List.getElem?_cons_zero]; rfl) (by kernel_rfl) (by kernel_rfl) (by kernel_rfl) (by exact fun _ _ _ h => h) (Or.inl ⟨by rfl, ?_⟩) (by assumption) ?_
      rotate_left 1
      · (intro w hSw; (try dsimp only at hSw); go_simp; try with_reducible rfl)
      try simp only [Act.put, List.setIfInBounds_toArray, List.set_cons_zero, List.set_cons_succ]
      refine wpAnyH_take (i := 13) (v := ?_) (by simp only [List.getElem?_toArray, List.getElem?_cons_succ, List.getElem?_cons_zero]; rfl) (by kernel_rfl) (by kernel_rfl) (by kernel_rfl) (by exact fun _ _ _ h => h) (Or.inl ⟨by rfl, ?_⟩) (by assumption) ?_
      rotate_left 1
      · (intro w hSw; (try dsimp only at hSw); go_simp; try with_reducible rfl)
      try simp only [Act.put, List.setIfInBounds_toArray, List.set_cons_zero, List.set_cons_succ]
      refine wpAnyH_take (i := 14) (v := ?_) (by simp only [List.getElem?_toArray, List.getElem?_cons_succ, List.getElem?_cons_zero]; rfl) (by kernel_rfl) (by kernel_rfl) (by kernel_rfl) (by exact fun _ _ _ h => h) (Or.inl ⟨by rfl, ?_⟩) (by assumption) ?_
      rotate_left 1
      · (intro w hSw; (try dsimp only at hSw); go_simp; try with_reducible rfl)
      try simp only [Act.put, List.setIfInBounds_toArray, List.set_cons_zero, List.set_cons_succ]
      refine wpAnyH_take (i := 15) (v := ?_) (by simp only [List.getElem?_toArray, List.getElem?_cons_succ, List.getElem?_cons_zero]; rfl) (by kernel_rfl) (by kernel_rfl) (by kernel_rfl) (by exact fun _ _ _ h => h) (Or.inl ⟨by rfl, ?_⟩) (by assumption) ?_
      rotate_left 1
      · (intro w hSw; (try dsimp only at hSw); go_simp; try with_reducible rfl)
      try simp only [Act.put, List.setIfInBounds_toArray, List.set_cons_zero, List.set_cons_succ]
      refine wpAnyH_take (i := 16) (v := ?_) (by simp only [List.getElem?_toArray, List.getElem?_cons_succ, List.getElem?_cons_zero]; rfl) (by kernel_rfl) (by kernel_rfl) (by kernel_rfl) (by exact fun _ _ _ h => h) (Or.inl ⟨by rfl, ?_⟩) (by assumption) ?_
      rotate_left 1
      · (intro w hSw; (try dsimp only at hSw); go_simp; try with_reducible rfl)
      try simp only [Act.put, List.setIfInBounds_toArray, List.set_cons_zero, List.set_cons_succ]
      refine wpAnyH_ready (rs := [9]) (by kernel_rfl) (by simp) ?_
      refine AllReadyH.cons (by simp only [List.getElem?_toArray, List.getElem?_cons_succ, List.getElem?_cons_zero]; rfl) (fun K hK => ?_) AllReadyH.nil
      go_simp
      (refine (CN.out _ HO.out.drew).mono ?_; rintro e1 w1 ⟨rfl, ho1⟩; have HO1 := Lib.hid (HO.out.drew.trans ho1 (fun _ h _ => h)))
      go_wp2_with fail
      refine hK.out _ _ ?_ (fun hHeld2 => ?_)
      · exact ⟨HO1.out.cell g0 (fun h => h), HO1.out.cell gi (fun h => h)⟩
      clear hK K
      try simp only [Act.put, List.setIfInBounds_toArray, List.set_cons_zero, List.set_cons_succ]
      clear hHeld
      have hHeld := hHeld2
      clear hHeld2
      refine wpAnyH_ready (rs := [17]) (by kernel_rfl) (by simp) ?_
      refine AllReadyH.cons (by simp only [List.getElem?_toArray, List.getElem?_cons_succ, List.getElem?_cons_zero]; rfl) (fun K hK => ?_) AllReadyH.nil
      go_simp
      (refine (CSU.out _ HO1.out).mono ?_; rintro e2 w2 ⟨rfl, ho2⟩; have HO2 := Lib.hid (HO1.out.trans ho2 (fun _ h _ => h)); have hb2 := ho2.heap (ho1.heap HB.out (fun h => h)) (fun h => h); have x0 : w2.cell? ⟨w.heap.size, j * 2, none⟩ = some u0 := (cell_blk hb2 _).trans HU0.out; have x1 : w2.cell? ⟨w.heap.size, j * 2 + 1, none⟩ = some u1 := (cell_blk hb2 _).trans HU1.out; have f0 := frozen_blk hb2 (j * 2); have f1 := frozen_blk hb2 (j * 2 + 1); have HB2 := Lib.hid hb2; clear hb2)
      go_wp2_with fail
      refine hK.out _ _ ?_ (fun hHeld2 => ?_)
      · exact ⟨HO2.out.cell g0 (fun h => h), HO2.out.cell gi (fun h => h)⟩
      clear hK K
      try simp only [Act.put, List.setIfInBounds_toArray, List.set_cons_zero, List.set_cons_succ]
      clear hHeld
      have hHeld := hHeld2
      clear hHeld2
      refine wpAnyH_take (i := 18) (v := ?_) (by simp only [List.getElem?_toArray, List.getElem?_cons_succ, List.getElem?_cons_zero]; rfl) (by kernel_rfl) (by kernel_rfl) (by kernel_rfl) (by exact fun _ _ _ h => h) (Or.inl ⟨by rfl, ?_⟩) (by assumption) ?_
      rotate_left 1
      · (intro w hSw; (try dsimp only at hSw); go_simp; try with_reducible rfl)
      try simp only [Act.put, List.setIfInBounds_toArray, List.set_cons_zero, List.set_cons_succ]
      refine wpAnyH_take (i := 19) (v := ?_) (by simp only [List.getElem?_toArray, List.getElem?_cons_succ, List.getElem?_cons_zero]; rfl) (by kernel_rfl) (by kernel_rfl) (by kernel_rfl) (by exact fun _ _ _ h => h) (Or.inl ⟨by rfl, ?_⟩) (by assumption) ?_
      rotate_left 1
      · (intro w hSw; (try dsimp only at hSw); go_simp; try with_reducible rfl)
      try simp only [Act.put, List.setIfInBounds_toArray, List.set_cons_zero, List.set_cons_succ]
      refine wpAnyH_ready (rs := [20]) (by kernel_rfl) (by simp) ?_
      refine AllReadyH.cons (by simp only [List.getElem?_toArray, List.getElem?_cons_succ, List.getElem?_cons_zero]; rfl) (fun K hK => ?_) AllReadyH.nil
      go_simp
      refine hK.out _ _ ?_ (fun hHeld2 => ?_)
      · exact ⟨(TO.out _ HO2.out).cell g0 (fun h => h), (TO.out _ HO2.out).cell gi (fun h => h)⟩
      clear hK K
      try simp only [Act.put, List.setIfInBounds_toArray, List.set_cons_zero, List.set_cons_succ]
      clear hHeld
      have hHeld := hHeld2
      clear hHeld2
      refine wpAnyH_done (by kernel_rfl) ?_ _
      have hb3 := heap_setCell_at (i := j * 2 + 1) (u := .string y) (heap_setCell_at (i := j * 2) (u := .string x) HB2.out)
      have HB3 := Lib.hid hb3
      have HL3 := Lib.hid (HL.out.step (x := x) (y := y) hlt (by rw [HT.out]) (by rw [HT.out]))
      have HO3 := Lib.hid (TO.out _ HO2.out)
      clear hb3 x0 x1 f0 f1 hHeld ho1 ho2
      go_wp2
      go_roundw
      case rel => exact ⟨j + 1, _, by go_num, by omega, HB3, HL3, HO3⟩
      case measure => simp [intOf]; omega
    · have hje : j = n := by omega
      subst hje
      have HR : Hid (Pairs wr (.slice (some ⟨w.heap.size, 0, none⟩) j j) (treeZ ks)) := Lib.hid (by
        have hl : (treeZ ks).length = j := by rw [treeZ_len, HN.out]
        unfold Pairs
        rw [hl]
        refine ⟨_, _, rfl, Nat.le_refl _, by omega, (fun e => by cases e), fun z hz h0 => ?_⟩
        cases hz
        refine ⟨_, 0, rfl, fun i hi => ?_⟩
        obtain ⟨a, c⟩ := HL.out.2 i hi
        exact ⟨by rw [Nat.zero_add, cell_blk HB.out]; exact a, by rw [Nat.zero_add, cell_blk HB.out]; exact c⟩)
      clear hlt hj
      go_wp2
      go_ret
      exact ⟨_, rfl, HR.out, HO.out⟩
end
section
variable {G : Nat → Prop} {fv : Nat → Value} {w : World} {pb : Nat} {ks : List KindV} {cl : Nat → ClassV} {sl : Nat → Nat → Int} (h : ProgG G fv w pb ks cl sl) (hg : GoodK ks)
include h hg
omit h in
theorem name_small (n : Int) : (nameZ ks n).size ≤ 256 := by
  unfold nameZ
  split
  · decide
  · by_cases hn : n.toNat < ks.length
    · exact (hg.fine _ (getD_mem hn)).name
    · have : (ks.getD n.toNat default) = default := by simp [List.getD, List.getElem?_eq_none (show ks.length ≤ n.toNat by omega)]
      rw [this]
      decide
set_option maxHeartbeats 4000000 in
set_option maxRecDepth 100000 in
theorem pMain : Calls Tryz.prog 36 #[.pointer (some ⟨pb, 0, none⟩)] w fun e w' => e = .returned (valM (mainZ ks)) ∧ Only (fun _ => False) w w' := by
  have hp0 := hg.pos
  have ho0 := (Only.refl (fun _ => False) w).alloc (.cells #[.int .i64 0, .int .i64 0, .string ⟨#[]⟩, .bool false, .int .i64 0] 34)
  have hr0 := heap_alloc_new w (.cells #[.int .i64 0, .int .i64 0, .string ⟨#[]⟩, .bool false, .int .i64 0] 34)
  obtain ⟨W0, hW0⟩ : ∃ W0, w.alloc (.cells #[.int .i64 0, .int .i64 0, .string ⟨#[]⟩, .bool false, .int .i64 0] 34) = W0 := ⟨_, rfl⟩
  rw [hW0] at ho0 hr0
  have C1 := Lib.hid (pBuilt W0)
  have C2 := Lib.hid (fun W (hW : Only (fun _ => False) w W) => pName (h.only hW) (by omega) 13)
  have C3 := Lib.hid (fun W (hW : Only (fun _ => False) w W) => pOwn (h.only hW) hg (nameZ ks 13) mainB voidB (by have := name_small hg 13; unfold maxLen; omega))
  obtain ⟨m, hm⟩ : ∃ m, m = mainZ ks := ⟨_, rfl⟩
  have HM : Hid (memO (ownZ ks (nameZ ks 13) mainB voidB) = m) := Lib.hid (by rw [hm]; rfl)
  rw [← hm]
  unfold mainB voidB at C3 HM
  generalize ownZ ks (nameZ ks 13) ⟨#[109, 97, 105, 110]⟩ ⟨#[40, 41, 86]⟩ = oz at *
  generalize nameZ ks 13 = nm at *
  obtain ⟨er, her⟩ : ∃ er, errM oz = er := ⟨_, rfl⟩
  have HER := Lib.hid her
  have HO := Lib.hid ho0
  have HR := Lib.hid hr0
  have HW0 := Lib.hid hW0
  clear h hg ho0 hr0 hm hW0 her
  go_enter Tryz.func36, Tryz.ntmps36
  go_wp2_with (fail)
  rw [HW0.out]
  refine C1.out.mono ?_
  rintro e w1 ⟨rfl, ho1⟩
  have HO1 := Lib.hid (HO.out.trans ho1 (fun _ h _ => h))
  go_wp2_with (fail)
  refine (C2.out _ HO1.out).mono ?_
  rintro e w2 ⟨rfl, ho2⟩
  have HO2 := Lib.hid (HO1.out.trans ho2 (fun _ h _ => h))
  go_wp2_with (fail)
  refine (C3.out _ HO2.out).mono ?_
  rintro e w3 ⟨rfl, ho3⟩
  rw [HM.out, HER.out]
  unfold valM
  have hal := (Only.refl (fun _ => False) w3).alloc (.cells #[.int .i64 m.cls, .int .i64 m.place, .string m.desc, .bool m.static, .int .i64 m.slot] 34)
  have hx := heap_alloc_new w3 (.cells #[.int .i64 m.cls, .int .i64 m.place, .string m.desc, .bool m.static, .int .i64 m.slot] 34)
  have hr3 := hal.heap (ho3.heap (ho2.heap (ho1.heap HR.out (fun h => h)) (fun h => h)) (fun h => h)) (fun h => h)
  have HO3 := Lib.hid ((HO2.out.trans ho3 (fun _ h _ => h)).trans hal (fun _ h _ => h))
  obtain ⟨f0, f1, f2, f3, f4⟩ := marks5T hr3
  obtain ⟨r0, r1, r2, r3, r4⟩ := cells5T hr3
  obtain ⟨x0, x1, x2, x3, x4⟩ := cells5T hx
  have HR3 := Lib.hid hr3
  clear hal hr3 ho3 ho2 ho1 C1 hx HM
  go_wp2
  exact bodyPost_ret (mem_alone (i := m) (b := w.heap.size) Tryz.results36 (store5T HR3.out) rfl) rfl ⟨rfl, only5T HO3.out (fun hl => absurd hl (Nat.lt_irrefl _))⟩
end
end Go.Proofs.YtgdgffnaknkbcaaGreatDoor
namespace Go.Proofs.YtgdgffnaknkbcaaGreatDoor
open Go.RowKit
set_option linter.unusedVariables false
set_option linter.unusedSimpArgs false
def TypeR (t : TypeV) : Prop := (-9223372036854775808 ≤ t.k ∧ t.k ≤ 9223372036854775807) ∧ (-9223372036854775808 ≤ t.dims ∧ t.dims ≤ 9223372036854775807) ∧ (-9223372036854775808 ≤ t.elem ∧ t.elem ≤ 9223372036854775807) ∧ (-9223372036854775808 ≤ t.at_ ∧ t.at_ ≤ 9223372036854775807) ∧ t.name.size ≤ 140737488351232
def refB (nm : ByteArray) : ByteArray := ⟨#[76]⟩ ++ nm ++ ⟨#[59]⟩
def baseText (t : TypeV) : ByteArray :=
  if t.k = 1 then (if eqT t ⟨1, ⟨#[]⟩, 0, 0, 0⟩ then ⟨#[73]⟩ else ⟨#[]⟩)
  else if t.k = 2 then (if eqT t ⟨2, ⟨#[]⟩, 0, 0, 0⟩ then ⟨#[74]⟩ else ⟨#[]⟩)
  else if t.k = 8 then (if eqT t ⟨8, ⟨#[]⟩, 0, 0, 0⟩ then ⟨#[86]⟩ else ⟨#[]⟩)
  else if t.k = 4 then (if plainN (nums t.name) && eqT t ⟨4, t.name, 0, 0, 0⟩ then refB t.name else ⟨#[]⟩)
  else ⟨#[]⟩
def preB : Nat → ByteArray → ByteArray
  | 0, s => s
  | n + 1, s => ⟨#[91]⟩ ++ preB n s
def badArr (t : TypeV) : Bool := (decide (t.dims < 1) || decide (4 < t.dims)) || (t.at_ != 0 || (t.elem != 1 && (t.elem != 2 && t.elem != 4)))
def textZ8 (t : TypeV) : ByteArray :=
  if t.k = 5 then (if badArr t then ⟨#[]⟩ else let s := baseText ⟨t.elem, t.name, 0, 0, 0⟩; if s = ⟨#[]⟩ then ⟨#[]⟩ else preB t.dims.toNat s) else baseText t
theorem preB_size : ∀ (n : Nat) (s : ByteArray), (preB n s).size = n + s.size
  | 0, s => by simp [preB]
  | n + 1, s => by
    rw [preB, ByteArray.size_append, preB_size n s]
    have : (⟨#[91]⟩ : ByteArray).size = 1 := rfl
    omega
def holdsZ8 (t : TypeV) : TypeV × Bool := if t.k = 5 then (if 1 < t.dims then (⟨5, t.name, t.dims - 1, t.elem, t.at_⟩, true) else (⟨t.elem, t.name, 0, 0, 0⟩, true)) else (zeroT, false)
theorem box2T {w : World} {c d : Array Value} {s t : TypeId} : ((w.alloc (.cells c s)).alloc (.cells d t)).heap[w.heap.size + 1]? = some (.cells d t (0, 0)) := by
  have h2 := heap_alloc_new (w.alloc (.cells c s)) (.cells d t)
  simpa using h2
end Go.Proofs.YtgdgffnaknkbcaaGreatDoor
