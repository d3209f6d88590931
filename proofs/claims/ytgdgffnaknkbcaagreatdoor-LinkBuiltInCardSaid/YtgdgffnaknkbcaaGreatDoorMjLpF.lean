import Derived.Test.YtgdgffnaknkbcaaGreatDoorMjLpBLpE
namespace Go.Proofs.YtgdgffnaknkbcaaGreatDoor
open Go.RowKit Go.Maps
set_option linter.unusedVariables false
set_option linter.unusedSimpArgs false
attribute [local go_sem] Oper.semAt_some
structure GoodK (ks : List KindV) : Prop where
  pos : 13 ≤ ks.length
  small : SmallK ks
  root : findZ ks (ks.getD 0 default).super = -1
  fine : ∀ k ∈ ks, FineK k
  ends : EndsAll ks
  once : NamesOnce ks
def seqX (ks : List KindV) (x : Int) : List Nat := if x < 0 then [] else if (ks.length : Int) ≤ x then [] else upZ ks x
theorem seqX_neg {ks : List KindV} {x : Int} (h : x < 0) : seqX ks x = [] := if_pos h
theorem seqX_out {ks : List KindV} {x : Int} (h : (ks.length : Int) ≤ x) : seqX ks x = [] := by unfold seqX; split <;> rfl
theorem seqX_in {ks : List KindV} {x : Int} (h : x < ks.length) : seqX ks x = upZ ks x := by
  unfold seqX
  split
  · rw [upZ_end (by assumption)]
  · rw [if_neg (by omega)]
theorem seqX_step {ks : List KindV} (he : EndsAll ks) {j : Nat} (h : j < ks.length) : seqX ks (j : Int) = j :: seqX ks (superZ ks j) := by
  rw [seqX_in (by omega), seqX_in (superZ_lt ks j), upZ_step he h]
theorem seqX_len {ks : List KindV} (x : Int) : (seqX ks x).length ≤ ks.length + 1 := by
  unfold seqX
  split
  · exact Nat.zero_le _
  · split
    · exact Nat.zero_le _
    · exact chain_len _ _
theorem seqX_lt {ks : List KindV} (he : EndsAll ks) : ∀ (m : Nat) (x : Int), (seqX ks x).length = m → ∀ j ∈ seqX ks x, j < ks.length
  | m, x, hm, j, hj => by
    by_cases h0 : x < 0
    · rw [seqX_neg h0] at hj; cases hj
    by_cases h1 : (ks.length : Int) ≤ x
    · rw [seqX_out h1] at hj; cases hj
    obtain ⟨i, rfl⟩ := Int.eq_ofNat_of_zero_le (show 0 ≤ x by omega)
    have hi : i < ks.length := by omega
    rw [seqX_step he hi] at hj hm
    rcases List.mem_cons.1 hj with rfl | hj
    · exact hi
    · cases m with
      | zero => cases hm
      | succ m => exact seqX_lt he m _ (by simpa using hm) j hj
abbrev encJ (ks : List KindV) (x : Fin ks.length) : Array Value := #[.int .i64 (x.val : Int)]
theorem only_grown9 {W W' : World} (ho : Only (fun _ => False) W W') : W.grownBy W' none := ⟨ho.os, ho.tape, ho.output, ho.size, fun k hk _ => ho.block k hk (fun h => h)⟩
theorem below_cell {B : Nat} {w W : World} (h : Below B w W) {a : Addr} {v : Value} (hc : w.cell? a = some v) (hB : w.heap.size ≤ B) : W.cell? a = some v :=
  (Only.of_below (h.mono hB) (fun _ => False)).cell hc (fun h => h)
set_option maxHeartbeats 4000000 in
set_option maxRecDepth 100000 in
theorem up_in (n : Nat) (hn : 1 ≤ n) {G : Nat → Prop} {fv : Nat → Value} {w : World} {pb : Nat} {ks : List KindV} {cl : Nat → ClassV} {sl : Nat → Nat → Int} (h : ProgG G fv w pb ks cl sl) (hg : GoodK ks) (x : Int) (Bn Bp : Nat)
    (hBn : w.cell? ⟨Bn, 0, none⟩ = some (.int .i64 x)) (hBp : w.cell? ⟨Bp, 0, none⟩ = some (.pointer (some ⟨pb, 0, none⟩))) :
    SeqStopsK Fence.wide n Tryz.prog 90 #[.pointer (some ⟨Bn, 0, none⟩), .pointer (some ⟨Bp, 0, none⟩)] (encJ ks) (Below w.heap.size) (fun xs => vals xs = seqX ks x) (fun pre => vals pre <+: seqX ks x) (ks.length + 2) w := by
  intro lp J Jx W hb hJ hJx hY h0
  have HY := Lib.hid hY
  have HJ := Lib.hid hJ
  have H := Lib.hid h
  have HG := Lib.hid hg
  have HBP := Lib.hid hBp
  have HB := Lib.hid hb
  have hp0 := hg.pos
  have hcn := below_cell hb hBn (Nat.le_refl _)
  have HSX := Lib.hid (show seqX ks x = vals ([] : List (Fin ks.length)) ++ seqX ks x from rfl)
  clear hY hJ hJx h hg hBp hBn hb
  refine callsIn_of_wp Tryz.func90 rfl trivial ?_ rfl
  simp only [Tryz.ntmps90, List.size_toArray, List.length_cons, List.length_nil, Nat.reduceAdd, Nat.reduceSub, Array.replicate_succ, Array.replicate_zero, List.push_toArray, List.append_toArray, List.nil_append, List.cons_append]
  gi_wp2
  clear hcn
  gi_loopw [4] (fun av wr => ∃ (y : Int) (pre : List (Fin ks.length)), av = .int .i64 y ∧ Hid (seqX ks x = vals pre ++ seqX ks y) ∧ Hid (Below w.heap.size w wr) ∧ Hid (J pre wr)) (fun av _ => (seqX ks (intOf av)).length)
  case atStart => exact ⟨x, [], rfl, HSX, HB, Lib.hid h0⟩
  case round =>
    obtain ⟨y, pre, rfl, HS, HBW, HJR⟩ := hrel
    have hcp := below_cell HBW.out HBP.out (Nat.le_refl _)
    have hpw := H.out.only (Only.of_below HBW.out _)
    have c1 := pHas hpw (by omega) y
    by_cases hy : 0 ≤ y ∧ y < (ks.length : Int)
    · obtain ⟨j, rfl⟩ := Int.eq_ofNat_of_zero_le hy.1
      have hj : j < ks.length := by omega
      rw [show (decide (0 ≤ (j : Int)) && decide ((j : Int) < (ks.length : Int))) = true by simp; omega] at c1
      have C1 := Lib.hid c1
      have HST := Lib.hid (seqX_step HG.out.ends hj)
      have HPRE : Hid (vals (pre ++ [(⟨j, hj⟩ : Fin ks.length)]) <+: seqX ks x) := Lib.hid (by rw [vals_snoc, HS.out, HST.out]; exact ⟨seqX ks (superZ ks j), by simp⟩)
      have hpl : pre.length < ks.length + 2 := by
        have h1 := seqX_len (ks := ks) x
        have h2 := congrArg List.length HS.out
        rw [List.length_append, vals_len] at h2
        omega
      have HS2 : Hid (seqX ks x = vals (pre ++ [(⟨j, hj⟩ : Fin ks.length)]) ++ seqX ks (superZ ks j)) := Lib.hid (by rw [vals_snoc, HS.out, HST.out]; simp)
      have HM : Hid ((seqX ks (superZ ks j)).length < (seqX ks (j : Int)).length) := Lib.hid (by rw [HST.out, List.length_cons]; omega)
      have CS := Lib.hid (fun W1 (hW : ProgG G fv W1 pb ks cl sl) => pSuper hW (by omega) HG.out.root HG.out.fine (j : Int))
      obtain ⟨fn, tmps, assign, body, hy', hR⟩ := HY.out pre ⟨j, hj⟩ wr HJR.out hpl
      unfold encJ at hy'
      try dsimp only at hy'
      have HR3 := Lib.hid hR
      have HPW := Lib.hid hpw
      generalize superZ ks (j : Int) = sj at *
      clear hR hpl c1 hpw hy HST
      gi_wp2_with (fail)
      refine ⟨trivial, (callsIn_wide.2 C1.out).mono ?_⟩
      rintro e' w3 ⟨rfl, hww⟩
      subst hww
      gi_wp2_with (fail)
      refine HR3.out.mono ?_
      rintro e9 W3 (⟨rfl, hJ3, hk3⟩ | ⟨rfl, hJx3⟩)
      · have HJ3 := Lib.hid hJ3
        have hb3 := HBW.out.trans hk3
        have HB3 := Lib.hid hb3
        have hcp3 := below_cell hb3 HBP.out (Nat.le_refl _)
        have HP3 := Lib.hid (H.out.only (Only.of_below hb3 (fun _ => False)))
        clear hJ3 hk3 hy' hcp hb3 HR3
        gi_wp2_with (fail)
        refine ⟨trivial, (callsIn_wide.2 (CS.out _ HP3.out)).mono ?_⟩
        rintro e4 w4 ⟨rfl, ho4⟩
        have HJ4 := Lib.hid (HJ.out _ _ _ none HJ3.out (only_grown9 ho4) (fun r e => by cases e))
        have HB4 := Lib.hid (HB3.out.trans ((Only.none ho4).mono HB3.out.size))
        clear ho4 hcp3
        gi_wp2
        go_roundw
        case rel => exact ⟨sj, _, rfl, HS2, HB4, HJ4⟩
        case measure => exact HM.out
      · have HJ3 := Lib.hid hJx3
        clear hJx3 hy' hcp
        gi_wp2
        go_end0
        exact ⟨⟨_, rfl⟩, .inr ⟨_, HPRE.out, HJ3.out⟩⟩
    · rw [show (decide (0 ≤ y) && decide (y < (ks.length : Int))) = false by simp; omega] at c1
      have C1 := Lib.hid c1
      have HE : Hid (vals pre = seqX ks x) := Lib.hid (by
        rw [HS.out]
        by_cases h1 : y < 0
        · rw [seqX_neg h1, List.append_nil]
        · rw [seqX_out (by omega), List.append_nil])
      clear c1 hpw hy
      gi_wp2_with (fail)
      refine ⟨trivial, (callsIn_wide.2 C1.out).mono ?_⟩
      rintro e' w3 ⟨rfl, hww⟩
      subst hww
      gi_wp2_with (fail)
      refine ⟨fun _ h => (by cases h), ?_⟩
      gi_wp2
      go_end0
      exact ⟨⟨_, rfl⟩, .inl ⟨_, HE.out, HJR.out⟩⟩
def oneX (ks : List KindV) (x : Int) : List Nat := if x < 0 then [] else if (ks.length : Int) ≤ x then [] else [x.toNat]
set_option maxHeartbeats 4000000 in
set_option maxRecDepth 100000 in
theorem alone_in (n : Nat) (hn : 1 ≤ n) {G : Nat → Prop} {fv : Nat → Value} {w : World} {pb : Nat} {ks : List KindV} {cl : Nat → ClassV} {sl : Nat → Nat → Int} (h : ProgG G fv w pb ks cl sl) (hp0 : 0 < ks.length) (x : Int) (Bn Bp : Nat)
    (hBn : w.cell? ⟨Bn, 0, none⟩ = some (.int .i64 x)) (hBp : w.cell? ⟨Bp, 0, none⟩ = some (.pointer (some ⟨pb, 0, none⟩))) :
    SeqStopsK Fence.wide n Tryz.prog 91 #[.pointer (some ⟨Bp, 0, none⟩), .pointer (some ⟨Bn, 0, none⟩)] (encJ ks) (Below w.heap.size) (fun xs => vals xs = oneX ks x) (fun pre => vals pre <+: oneX ks x) (ks.length + 2) w := by
  intro lp J Jx W hb hJ hJx hY h0
  have hcn := below_cell hb hBn (Nat.le_refl _)
  have hcp := below_cell hb hBp (Nat.le_refl _)
  have c1 := pHas (h.only (Only.of_below hb _)) hp0 x
  by_cases hy : 0 ≤ x ∧ x < (ks.length : Int)
  · obtain ⟨j, rfl⟩ := Int.eq_ofNat_of_zero_le hy.1
    have hj : j < ks.length := by omega
    rw [show (decide (0 ≤ (j : Int)) && decide ((j : Int) < (ks.length : Int))) = true by simp; omega] at c1
    have HE := Lib.hid (show oneX ks (j : Int) = [j] by unfold oneX; rw [if_neg (by omega), if_neg (by omega)]; rfl)
    have C1 := Lib.hid c1
    obtain ⟨fn, tmps, assign, body, hy', hR⟩ := hY [] ⟨j, hj⟩ W h0 (by simp)
    unfold encJ at hy'
    try dsimp only at hy'
    have HR3 := Lib.hid hR
    clear hR c1 hy h hb hJ hJx hY hBn hBp
    refine callsIn_of_wp Tryz.func91 rfl trivial ?_ rfl
    simp only [Tryz.ntmps91, List.size_toArray, List.length_cons, List.length_nil, Nat.reduceAdd, Nat.reduceSub, Array.replicate_succ, Array.replicate_zero, List.push_toArray, List.append_toArray, List.nil_append, List.cons_append]
    gi_wp2_with (fail)
    refine ⟨trivial, (callsIn_wide.2 C1.out).mono ?_⟩
    rintro e' w3 ⟨rfl, hww⟩
    subst hww
    gi_wp2_with (fail)
    refine HR3.out.mono ?_
    rintro e9 W3 (⟨rfl, hJ3, hk3⟩ | ⟨rfl, hJx3⟩)
    · have HJ3 := Lib.hid hJ3
      clear hJ3 hk3 hy' hcp hcn
      gi_wp2
      go_end0
      exact ⟨⟨_, rfl⟩, .inl ⟨[⟨j, hj⟩], HE.out.symm, HJ3.out⟩⟩
    · have HJ3 := Lib.hid hJx3
      clear hJx3 hy' hcp hcn
      gi_wp2
      go_end0
      exact ⟨⟨_, rfl⟩, .inr ⟨[⟨j, hj⟩], by rw [HE.out]; exact List.prefix_rfl, HJ3.out⟩⟩
  · rw [show (decide (0 ≤ x) && decide (x < (ks.length : Int))) = false by simp; omega] at c1
    have HE := Lib.hid (show oneX ks x = [] by unfold oneX; split; rfl; rw [if_pos (by omega)])
    have C1 := Lib.hid c1
    clear c1 hy h hb hJ hJx hY hBn hBp
    refine callsIn_of_wp Tryz.func91 rfl trivial ?_ rfl
    simp only [Tryz.ntmps91, List.size_toArray, List.length_cons, List.length_nil, Nat.reduceAdd, Nat.reduceSub, Array.replicate_succ, Array.replicate_zero, List.push_toArray, List.append_toArray, List.nil_append, List.cons_append]
    gi_wp2_with (fail)
    refine ⟨trivial, (callsIn_wide.2 C1.out).mono ?_⟩
    rintro e' w3 ⟨rfl, hww⟩
    subst hww
    gi_wp2
    go_end0
    exact ⟨⟨_, rfl⟩, .inl ⟨[], HE.out.symm, h0⟩⟩
set_option maxHeartbeats 4000000 in
set_option maxRecDepth 100000 in
theorem none_in (n N : Nat) (ks : List KindV) (w : World) : SeqStopsK Fence.wide n Tryz.prog 60 #[] (encJ ks) (Below w.heap.size) (fun xs => vals xs = []) (fun pre => vals pre <+: []) N w := by
  intro lp J Jx W hb hJ hJx hY h0
  clear hb hJ hJx hY
  refine callsIn_of_wp Tryz.func60 rfl trivial ?_ rfl
  simp only [Tryz.ntmps60, List.size_toArray, List.length_cons, List.length_nil, Nat.reduceAdd, Nat.reduceSub, Array.replicate_succ, Array.replicate_zero, List.push_toArray, List.append_toArray, List.nil_append, List.cons_append]
  gi_wp2
  go_end0
  exact ⟨⟨_, rfl⟩, .inl ⟨[], rfl, h0⟩⟩
theorem pUp (pb : Nat) (x : Int) (w : World) : Calls Tryz.prog 56 #[.pointer (some ⟨pb, 0, none⟩), .int .i64 x] w fun e w' => e = .returned (.func (.func 90) #[] #[.pointer (some ⟨w.heap.size + 1, 0, none⟩), .pointer (some ⟨w.heap.size, 0, none⟩)]) ∧ w' = (w.alloc (.cells #[.pointer (some ⟨pb, 0, none⟩)] 23)).alloc (.cells #[.int .i64 x] 3) := by
  go_enter Tryz.func56, Tryz.ntmps56
  go_wp2
  go_ret
  exact ⟨rfl, rfl⟩
theorem pAlone (pb : Nat) (x : Int) (w : World) : Calls Tryz.prog 62 #[.pointer (some ⟨pb, 0, none⟩), .int .i64 x] w fun e w' => e = .returned (.func (.func 91) #[] #[.pointer (some ⟨w.heap.size, 0, none⟩), .pointer (some ⟨w.heap.size + 1, 0, none⟩)]) ∧ w' = (w.alloc (.cells #[.pointer (some ⟨pb, 0, none⟩)] 23)).alloc (.cells #[.int .i64 x] 3) := by
  go_enter Tryz.func62, Tryz.ntmps62
  go_wp2
  go_ret
  exact ⟨rfl, rfl⟩
end Go.Proofs.YtgdgffnaknkbcaaGreatDoor
