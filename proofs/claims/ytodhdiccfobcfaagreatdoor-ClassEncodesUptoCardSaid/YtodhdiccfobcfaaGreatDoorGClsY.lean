/- The document's own bytes of a class: numbers in two bytes and in four. No condition but the form's own reach. The document's own bytes of a method's code. No condition but the form's own reach. The document's own bytes of a class. For every class whose texts the reference can encode. -/
import Derived.Test.YtodhdiccfobcfaaGreatDoorGClsP
import Derived.Test.YtodhdiccfobcfaaGreatDoorPolE
import Derived.Deep.RegionHeld3
import Derived.Test.YtodhdiccfobcfaaGreatDoorGClsR
import Derived.Test.YtodhdiccfobcfaaGreatDoorGClsK
import Derived.Deep.Onto
import Derived.Test.YtodhdiccfobcfaaGreatDoorClsE
import Derived.Test.YtodhdiccfobcfaaGreatDoorGClsO
import Derived.Test.YtodhdiccfobcfaaGreatDoorPolF
import Derived.Test.YtodhdiccfobcfaaGreatDoorPolCe
namespace Go.Proofs.YtodhdiccfobcfaaGreatDoor
open Go.RowKit
set_option linter.unusedVariables false
set_option linter.unusedSimpArgs false

theorem RowTo.trans {w w1 w2 : World} {B : Nat} {v v1 v2 : Value} {ys zs : List Int} (h : RowTo w B v ys v1 w1) (h2 : RowTo w1 B v1 zs v2 w2) : RowTo w B v zs v2 w2 :=
  ⟨h2.1, h.2.1.trans h2.2.1 (fun i hi hl => (h.2.2 i hi).resolve_right (by omega)), fun k hk => by
    rcases h2.2.2 k hk with e | e
    · exact h.2.2 k e
    · exact .inr (Nat.le_trans h.2.1.size e)⟩
theorem RowTo.then {w w1 w2 w3 : World} {B : Nat} {v v1 v2 : Value} {ys zs : List Int} (h : RowTo w B v ys v1 w1) (hd : Only (fun _ => False) w1 w2) (h2 : RowTo w2 B v1 zs v2 w3) : RowTo w B v zs v2 w3 :=
  h.trans ⟨h2.1, (hd.mono (fun _ h _ => h.elim)).trans h2.2.1 (fun i hi _ => hi), fun k hk => (h2.2.2 k hk).imp id (Nat.le_trans hd.size)⟩
theorem RowTo.refl {w : World} {B : Nat} {v : Value} {ys : List Int} (h : Row w B v ys) : RowTo w B v ys v w := ⟨h, Only.refl _ _, fun k hk => .inl hk⟩
theorem flat2_len (l : List Int) : (l.flatMap be2).length = 2 * l.length := by
  induction l with
  | nil => rfl
  | cons a r ih => rw [List.flatMap_cons, List.length_append, ih]; simp [be2]; omega

set_option maxHeartbeats 4000000 in
set_option maxRecDepth 100000 in
theorem refPut (w : World) (B : Nat) (vb : Value) (ys ns : List Int) (hrow : Row w B vb ys) (hB : B ≤ w.heap.size) (hl : ys.length + 2 * ns.length ≤ 16777216) (hr : ∀ n ∈ ns, 0 ≤ n ∧ n ≤ 65535)
    (N : Nat) (hN : ns.length = N) (cells : Array Value) (hc : cells = (ns.map (Value.int .i64)).toArray) (L : Nat) (hL : L = w.heap.size) :
    Calls Tryz.prog 23 #[vb, .slice (some ⟨L, 0, none⟩) N N] (w.alloc (.cells cells 3)) fun e w' => ∃ v', e = .returned v' ∧ RowTo (w.alloc (.cells cells 3)) B vb (ys ++ ns.flatMap be2) v' w' := by
  obtain ⟨i0, hi, hz0, hz1, hz2⟩ := info_parts info_u8
  subst hN hc hL
  have ho1 := (Only.refl (fun _ => False) w).alloc (.cells (ns.map (Value.int .i64)).toArray 3)
  have hb1 := heap_alloc_new w (.cells (ns.map (Value.int .i64)).toArray 3)
  have hrow1 : Row (w.alloc (.cells (ns.map (Value.int .i64)).toArray 3)) B vb ys := Row.only hrow ho1 (fun _ _ h => h)
  have hge := hrow.ge
  have hs1 : (w.alloc (.cells (ns.map (Value.int .i64)).toArray 3)).heap.size = w.heap.size + 1 := by simp
  generalize w.alloc (.cells (ns.map (Value.int .i64)).toArray 3) = W at *
  obtain ⟨ab0, cb0, rfl, _, _⟩ := slice_of_owns hrow1
  have NL0 := Lib.hid (show ¬ (Value.slice ab0 ys.length cb0).ownBlock = some w.heap.size from fun e => by have := hge _ e; omega)
  have HB1 := Lib.hid hb1
  have HR := Lib.hid hr
  have HR1 := Lib.hid (RowTo.refl hrow1)
  have HBS0 := Lib.hid hB
  have hnl : ns.length ≤ 16777216 := by omega
  clear hrow hrow1 hb1 ho1 hr hge hB
  go_enter Tryz.func23, Tryz.ntmps23
  go_wp2
  go_loopw [0, 5] (fun b i wr => ∃ j : Nat, j ≤ ns.length ∧ i = .int .i64 j ∧ RowTo W B (.slice ab0 ys.length cb0) (ys ++ (ns.take j).flatMap be2) b wr) (fun _ i _ => ns.length - (intOf i).toNat)
  case atStart => exact ⟨0, Nat.zero_le _, rfl, by simpa using HR1.out⟩
  case round =>
    obtain ⟨j, hj, rfl, hto⟩ := hrel
    have HTO := Lib.hid hto
    by_cases hlt : j < ns.length
    rotate_left
    · have hjn : j = ns.length := by omega
      have hjz : (ns.length : Int) ≤ (j : Int) := by omega
      rw [hjn, List.take_of_length_le (Nat.le_refl _)] at hto
      have HE := Lib.hid hto
      obtain ⟨_, _, rfl, _, _⟩ := slice_of_owns hto.1
      clear hto hlt hjn
      go_wp2
      go_ret
      exact ⟨_, rfl, HE.out⟩
    have hjz : (j : Int) < (ns.length : Int) := by omega
    have k1 := hto.2.1.heap HB1.out NL0.out
    have hq : wr.cell? ⟨w.heap.size, j, none⟩ = some (.int .i64 (ns.getD j 0)) := by rw [cell_blk k1 j]; simp [List.getD, hlt]
    have hm : ns.getD j 0 ∈ ns := by simp [List.getD, hlt]
    obtain ⟨r0, r1⟩ := HR.out _ hm
    have htk : ns.take (j + 1) = ns.take j ++ [ns.getD j 0] := by rw [List.take_succ_eq_append_getElem hlt]; simp [List.getD, hlt]
    have HTK := Lib.hid htk
    have hbx : be2 (ns.getD j 0) = [ns.getD j 0 / 256, ns.getD j 0 % 256] := by unfold be2; rw [show ns.getD j 0 / 256 % 256 = ns.getD j 0 / 256 by omega]
    have HBXX := Lib.hid hbx
    generalize ns.getD j 0 = x at *
    have hul : (ys ++ (ns.take j).flatMap be2).length ≤ ys.length + 2 * j := by rw [List.length_append, flat2_len, List.length_take, Nat.min_eq_left hj]; exact Nat.le_refl _
    obtain ⟨us, hus⟩ : ∃ us, ys ++ (ns.take j).flatMap be2 = us := ⟨_, rfl⟩
    rw [hus] at hto hul
    have HUS := Lib.hid hus
    have NL := Lib.hid (show ¬ (Value.ownBlock u0 = some w.heap.size) from fun e => by
      rcases hto.2.2 _ e with e | e
      · exact NL0.out e
      · omega)
    have HROW := Lib.hid hto.1
    have HBS := Lib.hid (Nat.le_trans HBS0.out (Nat.le_trans (show w.heap.size ≤ W.heap.size by omega) hto.2.1.size))
    obtain ⟨ab, cb, hu0, _, _⟩ := slice_of_owns hto.1
    subst hu0
    clear hto k1 hm htk hus hbx
    have hw1 : IntKind.u8.wrap (x / 256) = x / 256 := by rw [IntKind.wrap_u8]; omega
    have hw2 : IntKind.u8.wrap x = x % 256 := by rw [IntKind.wrap_u8]
    go_wp2
    refine wp_region_held_drew (S := fun wc => wc.cell? ⟨w.heap.size, j, none⟩ = some (.int .i64 x)) (by kernel_rfl) hq (fun hHeld => ?_)
    refine wpAnyH_take (i := 0) (v := ?_) (by simp only [List.getElem?_toArray, List.getElem?_cons_succ, List.getElem?_cons_zero]; rfl) (by kernel_rfl) (by kernel_rfl) (by kernel_rfl) (by exact fun _ _ _ h => h) (Or.inl ⟨by rfl, ?_⟩) (by assumption) ?_
    rotate_left 1
    · (intro w hSw; (try dsimp only at hSw); go_simp; try with_reducible rfl)
    try simp only [Act.put, List.setIfInBounds_toArray, List.set_cons_zero, List.set_cons_succ]
    refine wpAnyH_take (i := 1) (v := ?_) (by simp only [List.getElem?_toArray, List.getElem?_cons_succ, List.getElem?_cons_zero]; rfl) (by kernel_rfl) (by kernel_rfl) (by kernel_rfl) (by exact fun _ _ _ h => h) (Or.inl ⟨by rfl, ?_⟩) (by assumption) ?_
    rotate_left 1
    · (intro w hSw; (try dsimp only at hSw); go_simp; try with_reducible rfl)
    try simp only [Act.put, List.setIfInBounds_toArray, List.set_cons_zero, List.set_cons_succ]
    refine wpAnyH_take (i := 2) (v := ?_) (by simp only [List.getElem?_toArray, List.getElem?_cons_succ, List.getElem?_cons_zero]; rfl) (by kernel_rfl) (by kernel_rfl) (by kernel_rfl) (by exact fun _ _ _ h => h) (Or.inl ⟨by rfl, ?_⟩) (by assumption) ?_
    rotate_left 1
    · (intro w hSw; (try dsimp only at hSw); go_simp; try with_reducible rfl)
    try simp only [Act.put, List.setIfInBounds_toArray, List.set_cons_zero, List.set_cons_succ]
    refine wpAnyH_take (i := 7) (v := ?_) (by simp only [List.getElem?_toArray, List.getElem?_cons_succ, List.getElem?_cons_zero]; rfl) (by kernel_rfl) (by kernel_rfl) (by kernel_rfl) (by exact fun _ _ _ h => h) (Or.inl ⟨by rfl, ?_⟩) (by assumption) ?_
    rotate_left 1
    · (intro w hSw; (try dsimp only at hSw); go_simp; try with_reducible rfl)
    try simp only [Act.put, List.setIfInBounds_toArray, List.set_cons_zero, List.set_cons_succ]
    refine wpAnyH_take (i := 8) (v := ?_) (by simp only [List.getElem?_toArray, List.getElem?_cons_succ, List.getElem?_cons_zero]; rfl) (by kernel_rfl) (by kernel_rfl) (by kernel_rfl) (by exact fun _ _ _ h => h) (Or.inl ⟨by rfl, ?_⟩) (by assumption) ?_
    rotate_left 1
    · (intro w hSw; (try dsimp only at hSw); go_simp; try with_reducible rfl)
    try simp only [Act.put, List.setIfInBounds_toArray, List.set_cons_zero, List.set_cons_succ]
    refine wpAnyH_take (i := 3) (v := ?_) (by simp only [List.getElem?_toArray, List.getElem?_cons_succ, List.getElem?_cons_zero]; rfl) (by kernel_rfl) (by kernel_rfl) (by kernel_rfl) (by exact fun _ _ _ h => h) (Or.inl ⟨by rfl, ?_⟩) (by assumption) ?_
    rotate_left 1
    · (intro w hSw; (try dsimp only at hSw); go_simp; try with_reducible rfl)
    try simp only [Act.put, List.setIfInBounds_toArray, List.set_cons_zero, List.set_cons_succ]
    refine wpAnyH_take (i := 9) (v := ?_) (by simp only [List.getElem?_toArray, List.getElem?_cons_succ, List.getElem?_cons_zero]; rfl) (by kernel_rfl) (by kernel_rfl) (by kernel_rfl) (by exact fun _ _ _ h => h) (Or.inl ⟨by rfl, ?_⟩) (by assumption) ?_
    rotate_left 1
    · (intro w hSw; (try dsimp only at hSw); go_simp; try with_reducible rfl)
    try simp only [Act.put, List.setIfInBounds_toArray, List.set_cons_zero, List.set_cons_succ]
    refine wpAnyH_take (i := 4) (v := ?_) (by simp only [List.getElem?_toArray, List.getElem?_cons_succ, List.getElem?_cons_zero]; rfl) (by kernel_rfl) (by kernel_rfl) (by kernel_rfl) (by exact fun _ _ _ h => h) (Or.inl ⟨by rfl, ?_⟩) (by assumption) ?_
    rotate_left 1
    · (intro w hSw; (try dsimp only at hSw); go_simp; try with_reducible rfl)
    try simp only [Act.put, List.setIfInBounds_toArray, List.set_cons_zero, List.set_cons_succ]
    refine wpAnyH_take (i := 10) (v := ?_) (by simp only [List.getElem?_toArray, List.getElem?_cons_succ, List.getElem?_cons_zero]; rfl) (by kernel_rfl) (by kernel_rfl) (by kernel_rfl) (by exact fun _ _ _ h => h) (Or.inl ⟨by rfl, ?_⟩) (by assumption) ?_
    rotate_left 1
    · (intro w hSw; (try dsimp only at hSw); go_simp; try with_reducible rfl)
    try simp only [Act.put, List.setIfInBounds_toArray, List.set_cons_zero, List.set_cons_succ]
    refine wpAnyH_take (i := 5) (v := ?_) (by simp only [List.getElem?_toArray, List.getElem?_cons_succ, List.getElem?_cons_zero]; rfl) (by kernel_rfl) (by kernel_rfl) (by kernel_rfl) (by exact fun _ _ _ h => h) (Or.inl ⟨by rfl, ?_⟩) (by assumption) ?_
    rotate_left 1
    · (intro w hSw; (try dsimp only at hSw); go_simp; try with_reducible rfl)
    try simp only [Act.put, List.setIfInBounds_toArray, List.set_cons_zero, List.set_cons_succ]
    refine wpAnyH_take (i := 6) (v := ?_) (by simp only [List.getElem?_toArray, List.getElem?_cons_succ, List.getElem?_cons_zero]; rfl) (by kernel_rfl) (by kernel_rfl) (by kernel_rfl) (by exact fun _ _ _ h => h) (Or.inl ⟨by rfl, ?_⟩) (by assumption) ?_
    rotate_left 1
    · (intro w hSw; (try dsimp only at hSw); go_simp; try with_reducible rfl)
    try simp only [Act.put, List.setIfInBounds_toArray, List.set_cons_zero, List.set_cons_succ]
    refine wpAnyH_take (i := 11) (v := ?_) (by simp only [List.getElem?_toArray, List.getElem?_cons_succ, List.getElem?_cons_zero]; rfl) (by kernel_rfl) (by kernel_rfl) (by kernel_rfl) (by exact fun _ _ _ h => h) (Or.inl ⟨by rfl, ?_⟩) (by assumption) ?_
    rotate_left 1
    · (intro w hSw; (try dsimp only at hSw); go_simp; try with_reducible rfl)
    try simp only [Act.put, List.setIfInBounds_toArray, List.set_cons_zero, List.set_cons_succ]
    refine wpAnyH_ready (rs := [12]) (by kernel_rfl) (by simp) ?_
    refine AllReadyH.cons (by simp only [List.getElem?_toArray, List.getElem?_cons_succ, List.getElem?_cons_zero]; rfl) (fun K hK => ?_) AllReadyH.nil
    go_simp
    refine hK.out _ _ ?_ (fun hHeld2 => ?_)
    · exact ((Only.refl (fun _ => False) wr).drew.alloc _).cell hq (fun h => h)
    clear hK K
    try simp only [Act.put, List.setIfInBounds_toArray, List.set_cons_zero, List.set_cons_succ]
    clear hHeld
    have hHeld := hHeld2
    clear hHeld2
    refine wpAnyH_ready (rs := [13]) (by kernel_rfl) (by simp) ?_
    refine AllReadyH.cons (by simp only [List.getElem?_toArray, List.getElem?_cons_succ, List.getElem?_cons_zero]; rfl) (fun K hK => ?_) AllReadyH.nil
    (refine step_append_src rfl (.tmp 12) (.tmp 24) 27 rfl 5 i0 (.int .u8 0) 1 1 Tryz.underlying27 hi hz0 hz1 hz2 rfl (by decide) B (.slice ab us.length cb) us.length (us.map (Value.int .u8)) rfl (by exact HROW.out.only ((Only.refl (fun _ => False) wr).drew.alloc _) (fun _ _ h => h)) (by have := HBS.out; simp; omega) (.slice (some ⟨wr.heap.size, 0, none⟩) 2 2) 2 ([x / 256, x % 256].map (Value.int .u8)) rfl (by exact Src.few (w := wr) (t := 5) (xs := [x / 256, x % 256].map (Value.int .u8)) (by intro u hu; simp at hu; rcases hu with rfl | rfl <;> rfl)) (by unfold maxLen; omega) (by omega) ?_; intro v' w1 hown hgrow hnew; have hto1 := RowTo.of (zs := [x / 256, x % 256]) ((Only.refl (fun _ => False) wr).drew.alloc _) hown hgrow hnew; have HT1 := Lib.hid hto1; have hq1 : w1.cell? ⟨w.heap.size, j, none⟩ = some (.int .i64 x) := hto1.2.1.cell hq (NL.out); clear hown hgrow hnew hto1)
    refine hK.out _ _ ?_ (fun hHeld2 => ?_)
    · exact hq1
    clear hK K
    try simp only [Act.put, List.setIfInBounds_toArray, List.set_cons_zero, List.set_cons_succ]
    clear hHeld
    have hHeld := hHeld2
    clear hHeld2
    refine wpAnyH_take (i := 14) (v := ?_) (by simp only [List.getElem?_toArray, List.getElem?_cons_succ, List.getElem?_cons_zero]; rfl) (by kernel_rfl) (by kernel_rfl) (by kernel_rfl) (by exact fun _ _ _ h => h) (Or.inl ⟨by rfl, ?_⟩) (by assumption) ?_
    rotate_left 1
    · (intro w hSw; (try dsimp only at hSw); go_simp; try with_reducible rfl)
    try simp only [Act.put, List.setIfInBounds_toArray, List.set_cons_zero, List.set_cons_succ]
    refine wpAnyH_done (by kernel_rfl) ?_ _
    clear hHeld hq hq1
    have HT2 := Lib.hid (show RowTo W B (.slice ab0 ys.length cb0) (ys ++ (ns.take (j + 1)).flatMap be2) v' w1 from by
      have h2 := HTO.out
      have h3 := HT1.out
      rw [HUS.out] at h2
      rw [HTK.out, List.flatMap_append, ← List.append_assoc, HUS.out, show [x].flatMap be2 = be2 x by simp [List.flatMap], HBXX.out]
      exact h2.trans h3)
    go_wp2
    go_roundw
    case rel => exact ⟨j + 1, by omega, by go_num, HT2.out⟩
    case measure => simp [intOf]; omega
end Go.Proofs.YtodhdiccfobcfaaGreatDoor
namespace Go.Proofs.YtodhdiccfobcfaaGreatDoor
open Go.RowKit
set_option linter.unusedVariables false
set_option linter.unusedSimpArgs false

set_option maxHeartbeats 4000000 in
set_option maxRecDepth 100000 in
theorem refFour (w : World) (B : Nat) (vb : Value) (ys : List Int) (n : Int) (hrow : Row w B vb ys) (hB : B ≤ w.heap.size) (hl : ys.length + 4 ≤ 16777216) (h0 : 0 ≤ n) (h1 : n ≤ 2147483647) :
    Calls Tryz.prog 26 #[vb, .int .i64 n] w fun e w' => ∃ v', e = .returned v' ∧ RowTo w B vb (ys ++ be4 n) v' w' := by
  obtain ⟨i0, hi, hz0, hz1, hz2⟩ := info_parts info_u8
  have hge := hrow.ge
  obtain ⟨ab, cb, rfl, _, _⟩ := slice_of_owns hrow
  have HROW := Lib.hid hrow
  clear hrow hge
  have hw1 : IntKind.u8.wrap (n / 16777216) = n / 16777216 % 256 := by rw [IntKind.wrap_u8]
  have hw2 : IntKind.u8.wrap (n / 65536) = n / 65536 % 256 := by rw [IntKind.wrap_u8]
  have hw3 : IntKind.u8.wrap (n / 256) = n / 256 % 256 := by rw [IntKind.wrap_u8]
  have hw4 : IntKind.u8.wrap n = n % 256 := by rw [IntKind.wrap_u8]
  go_enter Tryz.func26, Tryz.ntmps26
  go_wp2_with (at_builtin; go_loud (refine wpList_append_src rfl (.tmp 5) (.tmp 17) 27 rfl 5 i0 (.int .u8 0) 1 1 Tryz.underlying27 hi hz0 hz1 hz2 rfl (by decide) B (.slice ab ys.length cb) ys.length (ys.map (Value.int .u8)) rfl (by exact HROW.out.only ((Only.refl (fun _ => False) w).alloc _) (fun _ _ h => h)) (by simp; omega) (.slice (some ⟨w.heap.size, 0, none⟩) 4 4) 4 ((be4 n).map (Value.int .u8)) rfl (by exact Src.few (w := w) (t := 5) (xs := (be4 n).map (Value.int .u8)) (by intro u hu; simp [be4] at hu; rcases hu with rfl | rfl | rfl | rfl <;> rfl)) (by unfold maxLen; omega) (by omega) ?_); intro v' w1 hown hgrow hnew; have hto1 := RowTo.of (zs := be4 n) ((Only.refl (fun _ => False) w).alloc _) hown hgrow hnew; obtain ⟨_, _, rfl, _, _⟩ := slice_of_owns hto1.1; have HT1 := Lib.hid hto1; clear hown hgrow hnew hto1)
  go_ret
  have hto := HT1.out
  rw [List.length_append] at hto
  exact ⟨_, rfl, hto⟩

/-- An owned row that has grown since w0, where it was not there. -/
structure Nl (w0 : World) (ys : List Int) (v : Value) (w : World) : Prop where
  row : Row w w0.heap.size v ys
  only : Only (fun _ => False) w0 w
theorem Nl.nil (w : World) : Nl w [] (.slice none 0 0) w := ⟨World.ownsRow_nil _ _ _ _, Only.refl _ _⟩
theorem Nl.to {w0 w w' : World} {ys zs : List Int} {v v' : Value} (h : Nl w0 ys v w) (ht : RowTo w w0.heap.size v zs v' w') : Nl w0 zs v' w' :=
  ⟨ht.1, h.only.trans ht.2.1 (fun i hi hl => by have := h.row.ge _ hi; omega)⟩
theorem Nl.idle {w0 w w' : World} {ys : List Int} {v : Value} (h : Nl w0 ys v w) (ho : Only (fun _ => False) w w') : Nl w0 ys v w' :=
  ⟨h.row.only ho (fun _ _ h => h), h.only.trans ho (fun _ h _ => h)⟩
theorem Nl.put {w0 w : World} {ys : List Int} {v : Value} (h : Nl w0 ys v w) (ns : List Int) (hl : ys.length + 2 * ns.length ≤ 16777216) (hr : ∀ n ∈ ns, 0 ≤ n ∧ n ≤ 65535)
    {N : Nat} (hN : ns.length = N) {cells : Array Value} (hc : cells = (ns.map (Value.int .i64)).toArray) {L : Nat} (hL : L = w.heap.size) :
    Calls Tryz.prog 23 #[v, .slice (some ⟨L, 0, none⟩) N N] (w.alloc (.cells cells 3)) fun e w' => ∃ v', e = .returned v' ∧ Nl w0 (ys ++ ns.flatMap be2) v' w' :=
  (refPut w w0.heap.size v ys ns h.row h.only.size hl hr N hN cells hc L hL).mono (fun e w' ⟨v', he, ht⟩ => ⟨v', he, (h.idle ((Only.refl _ _).alloc _)).to ht⟩)
theorem Nl.four {w0 w : World} {ys : List Int} {v : Value} (h : Nl w0 ys v w) (n : Int) (hl : ys.length + 4 ≤ 16777216) (h0 : 0 ≤ n) (h1 : n ≤ 2147483647) :
    Calls Tryz.prog 26 #[v, .int .i64 n] w fun e w' => ∃ v', e = .returned v' ∧ Nl w0 (ys ++ be4 n) v' w' :=
  (refFour w w0.heap.size v ys n h.row h.only.size hl h0 h1).mono (fun e w' ⟨v', he, ht⟩ => ⟨v', he, h.to ht⟩)
set_option maxHeartbeats 16000000 in
set_option maxRecDepth 100000 in
theorem refCode (v : Value) (cs : List ConstV) (m : MethodV) (vc vt vm : Value) (w : World) (hp : Pool w v cs) (hl : cs.length ≤ 1024) (hi : Inside w m vc vt vm) (hm : MethodP cs m) (htl : m.traps.length ≤ 64) :
    Calls Tryz.prog 24 #[v, .agg #[.int .i64 m.flags, .int .i64 m.name, .int .i64 m.desc, .int .i64 m.stack, .int .i64 m.locals, vc, vt, vm]] w fun e w' => ∃ v', e = .returned v' ∧ Row w' w.heap.size v' (codeB cs m) ∧ Only (fun _ => False) w w' := by
  obtain ⟨i0, hi0, hz0, hz1, hz2⟩ := info_parts info_u8
  obtain ⟨ao, cap, rfl, _, _, _, _, _⟩ := id hp
  obtain ⟨hc, ht, hmp⟩ := hi
  have hi := hi0
  clear hi0
  obtain ⟨ac, cc, rfl, hc1, hc2, _, _, _⟩ := id hc
  obtain ⟨am, cm, rfl, hm1, hm2, _, _, _⟩ := id hmp
  obtain ⟨at_, ct, rfl, ht1, ht2⟩ := ht.1.slice
  obtain ⟨fl, nm, ds, st, lo, code, traps, maps⟩ := m
  obtain ⟨⟨_, _, _, h3, h4, h5, h6⟩, ⟨h7, h8, h9, h10, h11⟩, h12⟩ := hm
  simp only at *
  unfold maxLen at hc2 hm2
  obtain ⟨B, hBe⟩ : ∃ B, w.heap.size = B := ⟨_, rfl⟩
  have ho := (Only.refl (fun _ => False) w).alloc (.cells #[.int .i64 fl, .int .i64 nm, .int .i64 ds, .int .i64 st, .int .i64 lo, .slice ac code.length cc, .slice at_ traps.length ct, .slice am maps.length cm] 62)
  have hb := heap_alloc_new w (.cells #[.int .i64 fl, .int .i64 nm, .int .i64 ds, .int .i64 st, .int .i64 lo, .slice ac code.length cc, .slice at_ traps.length ct, .slice am maps.length cm] 62)
  rw [hBe] at hb ⊢
  have hs : (w.alloc (.cells #[.int .i64 fl, .int .i64 nm, .int .i64 ds, .int .i64 st, .int .i64 lo, .slice ac code.length cc, .slice at_ traps.length ct, .slice am maps.length cm] 62)).heap.size = B + 1 := by simp; omega
  have cP := fun s w' (ho : Only (fun _ => False) w w') => refPlace _ cs s w' (hp.only ho (fun _ _ h => h))
  have hpl : maps ≠ [] → InU16 (placeOf cs mapsT) := fun hne => by
    have h0 := h11 (List.length_pos_iff.2 hne)
    have := textZ_lt (by rw [placeOf_found h0]) hl
    exact ⟨by omega, by omega⟩
  have HR := Lib.hid (fun t hm => TrapP.small (h12 t hm) hl h8)
  have HC := Lib.hid hc
  have HT := Lib.hid ht
  have HM := Lib.hid hmp
  have HPL := Lib.hid hpl
  have CP := Lib.hid cP
  have HO := Lib.hid ho
  have HB := Lib.hid hb
  clear hc ht hmp h12 hpl cP hp ho hb h10 h11
  have HS := Lib.hid hs
  have N0 := Lib.hid (Nl.nil (w.alloc (.cells #[.int .i64 fl, .int .i64 nm, .int .i64 ds, .int .i64 st, .int .i64 lo, .slice ac code.length cc, .slice at_ traps.length ct, .slice am maps.length cm] 62)))
  generalize hWW : (w.alloc (.cells #[.int .i64 fl, .int .i64 nm, .int .i64 ds, .int .i64 st, .int .i64 lo, .slice ac code.length cc, .slice at_ traps.length ct, .slice am maps.length cm] 62)) = W at *
  clear hs
  have q3 := cell_blk HB.out 3
  have q4 := cell_blk HB.out 4
  simp at q3 q4
  have H2 := Lib.hid (all2 (a := st) (b := lo) ⟨h3, by omega⟩ ⟨h5, by omega⟩)
  clear h3 h4 h5 h6
  go_enter Tryz.func24, Tryz.ntmps24
  go_wp2_with (fail)
  clear hWW
  refine (N0.out.put [st, lo] (by simp) H2.out rfl rfl rfl).mono ?_
  rintro e w1 ⟨v1, rfl, h1⟩
  have hl1 : ([] ++ [st, lo].flatMap be2).length ≤ 4 := by rw [List.nil_append, flat2_len]; simp
  obtain ⟨y1, hy1⟩ : ∃ y, [] ++ [st, lo].flatMap be2 = y := ⟨_, rfl⟩
  rw [hy1] at h1 hl1
  have HY1 := Lib.hid hy1
  have H1 := Lib.hid h1
  have q5 : w1.cell? ⟨B, 5, none⟩ = some (.slice ac code.length cc) := by rw [cell_blk (h1.only.heap HB.out (fun h => h)) 5]; rfl
  clear h1 hy1 q3 q4
  go_wp2_with (fail)
  refine (H1.out.four code.length (by omega) (by omega) (by omega)).mono ?_
  rintro e w2 ⟨v2, rfl, h2⟩
  have hl2 : (y1 ++ be4 code.length).length ≤ 8 := by rw [List.length_append]; simp [be4]; omega
  obtain ⟨y2, hy2⟩ : ∃ y, y1 ++ be4 code.length = y := ⟨_, rfl⟩
  rw [hy2] at h2 hl2
  have HY2 := Lib.hid hy2
  have H2 := Lib.hid h2
  have q5b : w2.cell? ⟨B, 5, none⟩ = some (.slice ac code.length cc) := by rw [cell_blk (h2.only.heap HB.out (fun h => h)) 5]; rfl
  have hsz2 := h2.only.size
  obtain ⟨a2, c2, rfl, _, _⟩ := slice_of_owns h2.row
  clear h2 hy2 q5
  go_wp2_with (at_builtin; go_loud (refine wpList_append_src rfl (.tmp 19) (.tmp 21) 27 rfl 5 i0 (.int .u8 0) 1 1 Tryz.underlying27 hi hz0 hz1 hz2 rfl (by decide) W.heap.size (.slice a2 y2.length c2) y2.length (y2.map (Value.int .u8)) rfl (by exact H2.out.row) (by omega) (.slice ac code.length cc) code.length (code.map (Value.int .u8)) rfl (by exact Src.of_bytes (HC.out.only (HO.out.trans H2.out.only (fun _ h _ => h)) (fun _ _ _ h => h))) (by unfold maxLen; omega) (by omega) ?_); intro v3 w3 hown hgrow hnew; have hto1 := H2.out.to (RowTo.of (zs := code) (Only.refl (fun _ => False) w2) hown hgrow hnew); have H3 := Lib.hid hto1; have q6 : w3.cell? ⟨B, 6, none⟩ = some (.slice at_ traps.length ct) := (by rw [cell_blk (hto1.only.heap HB.out (fun h => h)) 6]; rfl); clear hown hgrow hnew hto1 q5b)
  have hl3 : (y2 ++ code).length ≤ 5000 := by rw [List.length_append]; omega
  obtain ⟨y3, hy3⟩ : ∃ y, y2 ++ code = y := ⟨_, rfl⟩
  rw [hy3] at H3 hl3
  have HY3 := Lib.hid hy3
  clear hy3
  refine (H3.out.put [(traps.length : Int)] (by simp; omega) (all1 ⟨by omega, by omega⟩) rfl rfl rfl).mono ?_
  rintro e w4 ⟨v4, rfl, h4⟩
  have hl4 : (y3 ++ [(traps.length : Int)].flatMap be2).length ≤ 5010 := by rw [List.length_append, flat2_len]; simp; omega
  obtain ⟨y4, hy4⟩ : ∃ y, y3 ++ [(traps.length : Int)].flatMap be2 = y := ⟨_, rfl⟩
  rw [hy4] at h4 hl4
  have HY4 := Lib.hid hy4
  have H4 := Lib.hid h4
  clear h4 hy4 q6
  go_wp2_with (fail)
  go_loopw [5, 6] (fun b i wr => ∃ j : Nat, j ≤ traps.length ∧ i = .int .i64 j ∧ Nl W (y4 ++ (traps.take j).flatMap trapB) b wr) (fun _ i _ => traps.length - (intOf i).toNat)
  case atStart => exact ⟨0, Nat.zero_le _, rfl, by simpa using H4.out⟩
  case round =>
    obtain ⟨j, hj, rfl, hto⟩ := hrel
    have q6 : wr.cell? ⟨B, 6, none⟩ = some (.slice at_ traps.length ct) := by rw [cell_blk (hto.only.heap HB.out (fun h => h)) 6]; rfl
    by_cases hlt : j < traps.length
    · have hjz : (j : Int) < (traps.length : Int) := by omega
      obtain ⟨b, o, e2, hc⟩ := (Traps.only (HO.out.trans hto.only (fun _ h _ => h)) HT.out).1.at hlt
      subst e2
      have htk : traps.take (j + 1) = traps.take j ++ [traps.getD j default] := by
        rw [List.take_succ_eq_append_getElem hlt]; simp [List.getD, hlt]
      have hsm := HR.out _ (getD_mem hlt)
      have HTK := Lib.hid htk
      have hyl : (y4 ++ (traps.take j).flatMap trapB).length ≤ 6000 := by rw [List.length_append, trapB_len, List.length_take]; omega
      have HTO := Lib.hid hto
      obtain ⟨k0, k1, k2, k3⟩ := hc
      generalize traps.getD j default = t at *
      obtain ⟨tf, tt, th, ty⟩ := t
      simp only at k0 k1 k2 k3
      have HSM := Lib.hid hsm
      obtain ⟨yj, hyj⟩ : ∃ y, y4 ++ (traps.take j).flatMap trapB = y := ⟨_, rfl⟩
      rw [hyj] at HTO hyl
      have HYJ := Lib.hid hyj
      clear hto htk hsm hyj
      go_wp2_with (fail)
      refine (((HTO.out.idle ((Only.refl _ _).alloc _)).put [tf, tt, th, ty] (by simp; omega) (all4 HSM.out.1 HSM.out.2.1 HSM.out.2.2.1 HSM.out.2.2.2) rfl rfl (by simp))).mono ?_
      rintro e w5 ⟨v5, rfl, h5⟩
      have hto5 : Nl W (y4 ++ (traps.take (j + 1)).flatMap trapB) v5 w5 := by
        rw [HTK.out, List.flatMap_append, ← List.append_assoc, HYJ.out]
        simpa [trapB] using h5
      have H5 := Lib.hid hto5
      clear h5 hto5
      go_wp2_with (fail)
      go_roundw
      case rel =>
        first
          | exact ⟨j + 1, by omega, by go_num, H5.out⟩
          | (repeat apply Exists.intro
             refine ⟨?_, rfl⟩
             exact ⟨j + 1, by omega, by go_num, H5.out⟩)
      case measure => simp [intOf]; omega
    · have hjn : j = traps.length := by omega
      have hjz : (traps.length : Int) ≤ (j : Int) := by omega
      rw [hjn, List.take_of_length_le (Nat.le_refl _)] at hto
      have q7 : wr.cell? ⟨B, 7, none⟩ = some (.slice am maps.length cm) := by rw [cell_blk (hto.only.heap HB.out (fun h => h)) 7]; rfl
      have hyl : (y4 ++ traps.flatMap trapB).length ≤ 6000 := by rw [List.length_append, trapB_len]; omega
      obtain ⟨y5, hy5⟩ : ∃ y, y4 ++ traps.flatMap trapB = y := ⟨_, rfl⟩
      rw [hy5] at hto hyl
      have HTO := Lib.hid hto
      have HY5 := Lib.hid hy5
      clear hto hy5 hlt hjn
      by_cases hm0 : maps = []
      · go_wp2_with (fail)
        refine (HTO.out.put [0] (by simp; omega) (all1 u16_0) rfl rfl rfl).mono ?_
        rintro e w6 ⟨v6, rfl, h6⟩
        have H6 := Lib.hid h6
        clear h6
        go_wp2_with (fail)
        go_ret
        refine ⟨_, rfl, ?_, HO.out.trans H6.out.only (fun _ h _ => h)⟩
        have h6 : Row w6 B v6 (y5 ++ [0].flatMap be2) := H6.out.row.mono (base' := B) (by rw [HS.out]; omega)
        rw [← HY5.out, ← HY4.out, ← HY3.out, ← HY2.out, ← HY1.out] at h6
        subst hm0
        refine Eq.mp (congrArg (Row w6 B v6) ?_) h6
        simp [codeB, mapsB, List.append_assoc]
      · have hz : ((maps.length : Int) == 0) = false := by simpa using hm0
        have hpl := HPL.out hm0
        have HPL2 := Lib.hid hpl
        clear hpl
        go_wp2_with (fail)
        refine (CP.out _ _ (HO.out.trans HTO.out.only (fun _ h _ => h))).mono ?_
        rintro e w6 ⟨rfl, rfl⟩
        go_wp2_with (fail)
        refine (HTO.out.put [1, placeOf cs mapsT] (by simp; omega) (all2 ⟨by decide, by decide⟩ HPL2.out) rfl rfl rfl).mono ?_
        rintro e w7 ⟨v7, rfl, h7⟩
        have hl7 : (y5 ++ [1, placeOf cs mapsT].flatMap be2).length ≤ 6010 := by rw [List.length_append, flat2_len]; simp; omega
        obtain ⟨y7, hy7⟩ : ∃ y, y5 ++ [1, placeOf cs mapsT].flatMap be2 = y := ⟨_, rfl⟩
        rw [hy7] at h7 hl7
        have HY7 := Lib.hid hy7
        have H7 := Lib.hid h7
        have q7b : w7.cell? ⟨B, 7, none⟩ = some (.slice am maps.length cm) := by rw [cell_blk (h7.only.heap HB.out (fun h => h)) 7]; rfl
        clear h7 hy7 q7
        go_wp2_with (fail)
        refine (H7.out.four maps.length (by omega) (by omega) (by omega)).mono ?_
        rintro e w8 ⟨v8, rfl, h8⟩
        have hl8 : (y7 ++ be4 maps.length).length ≤ 6020 := by rw [List.length_append]; simp [be4]; omega
        obtain ⟨y8, hy8⟩ : ∃ y, y7 ++ be4 maps.length = y := ⟨_, rfl⟩
        rw [hy8] at h8 hl8
        have HY8 := Lib.hid hy8
        have H8 := Lib.hid h8
        have q7c : w8.cell? ⟨B, 7, none⟩ = some (.slice am maps.length cm) := by rw [cell_blk (h8.only.heap HB.out (fun h => h)) 7]; rfl
        have hsz8 := h8.only.size
        obtain ⟨a8, c8, rfl, _, _⟩ := slice_of_owns h8.row
        clear h8 hy8 q7b
        go_wp2_with (at_builtin; go_loud (refine wpList_append_src rfl (.tmp 69) (.tmp 71) 27 rfl 5 i0 (.int .u8 0) 1 1 Tryz.underlying27 hi hz0 hz1 hz2 rfl (by decide) W.heap.size (.slice a8 y8.length c8) y8.length (y8.map (Value.int .u8)) rfl (by exact H8.out.row) (by omega) (.slice am maps.length cm) maps.length (maps.map (Value.int .u8)) rfl (by exact Src.of_bytes (HM.out.only (HO.out.trans H8.out.only (fun _ h _ => h)) (fun _ _ _ h => h))) (by unfold maxLen; omega) (by omega) ?_); intro v9 w9 hown hgrow hnew; have hto1 := H8.out.to (RowTo.of (zs := maps) (Only.refl (fun _ => False) w8) hown hgrow hnew); have H9 := Lib.hid hto1; clear hown hgrow hnew hto1 q7c)
        go_ret
        refine ⟨_, rfl, ?_, HO.out.trans H9.out.only (fun _ h _ => h)⟩
        have h9 : Row w9 B v9 (y8 ++ maps) := H9.out.row.mono (base' := B) (by rw [HS.out]; omega)
        rw [← HY8.out, ← HY7.out, ← HY5.out, ← HY4.out, ← HY3.out, ← HY2.out, ← HY1.out] at h9
        refine Eq.mp (congrArg (Row w9 B v9) ?_) h9
        simp [codeB, mapsB, hm0, List.append_assoc]
end Go.Proofs.YtodhdiccfobcfaaGreatDoor
namespace Go.Proofs.YtodhdiccfobcfaaGreatDoor
open Go.RowKit
set_option linter.unusedVariables false
set_option linter.unusedSimpArgs false

/-- What the document's Encode of a class leaves. -/
def EncRTo (w : World) (c : ClassV) (e : Ending) (w' : World) : Prop :=
  ∃ v' k, e = .returned (.tuple #[v', .int .i64 k]) ∧ Only (fun _ => False) w w' ∧
    ((clsZ c = 0 ∧ k = 0 ∧ ∃ bs, ConstsB (c.pool.drop 1) bs ∧ Row w' w.heap.size v' (fileB c bs)) ∨ (clsZ c ≠ 0 ∧ k = clsZ c ∧ v' = .slice none 0 0))
theorem Nl.head (w : World) : Nl w headB (.slice (some ⟨w.heap.size, 0, none⟩) 8 8) (w.alloc (.cells #[.int .u8 202, .int .u8 254, .int .u8 186, .int .u8 190, .int .u8 0, .int .u8 0, .int .u8 0, .int .u8 61] 5)) :=
  ⟨Row.new (w := w) (xs := headB) (by decide), (Only.refl _ _).alloc _⟩

theorem be4_byteC (n : Int) : Bytish (be4 n) := by
  intro z hz
  simp only [be4, List.mem_cons, List.mem_nil_iff, or_false] at hz
  rcases hz with rfl | rfl | rfl | rfl <;> exact ⟨by omega, by omega⟩
theorem trapB_byte (l : List TrapV) : Bytish (l.flatMap trapB) := by
  intro z hz
  obtain ⟨t, _, h⟩ := List.mem_flatMap.1 hz
  exact (((be2_byte _).append ((be2_byte _).append ((be2_byte _).append (be2_byte _)))) : Bytish (trapB t)) z h
theorem codeB_byte {cs : List ConstV} {m : MethodV} (h : Bytish m.code) (h2 : Bytish m.maps) : Bytish (codeB cs m) := by
  refine (be2_byte _).append ((be2_byte _).append ((be4_byteC _).append (h.append ((be2_byte _).append ((trapB_byte _).append ?_)))))
  unfold mapsB
  split
  · exact be2_byte _
  · exact (be2_byte _).append ((be2_byte _).append ((be4_byteC _).append h2))

set_option maxHeartbeats 16000000 in
set_option maxRecDepth 100000 in
theorem refClsEncode (vp vf vm : Value) (c : ClassV) (w : World) (hc : ClassM w vp vf vm c) (ht : Texts c.pool) :
    Calls Tryz.prog 9 #[.agg #[vp, .int .i64 c.this, .int .i64 c.super, vf, vm]] w (EncRTo w c) := by
  obtain ⟨i0, hi, hz0, hz1, hz2⟩ := info_parts info_u8
  have ho0 := (Only.refl (fun _ => False) w).alloc (.cells #[vp, .int .i64 c.this, .int .i64 c.super, vf, vm] 26)
  have hbx := heap_alloc_new w (.cells #[vp, .int .i64 c.this, .int .i64 c.super, vf, vm] 26)
  have cK := refClsCheck vp vf vm c _ (hc.only ho0) ht
  obtain ⟨pool, this, super, fields, methods⟩ := c
  obtain ⟨hp, hf, hm, r1, r2⟩ := id hc
  simp only at *
  obtain ⟨ap, cp, rfl, _, _, _, hpr, _⟩ := id hp
  obtain ⟨af, cf, rfl, hf1, hf2⟩ := hf.1.slice
  obtain ⟨fm, hm1, hm2, hm3⟩ := id hm
  obtain ⟨am, cm, rfl, hm4, hm5⟩ := hm1.slice
  have HM2 := Lib.hid hm2
  have HM1 := Lib.hid hm1
  have HC := Lib.hid hc
  have HTX := Lib.hid ht
  obtain ⟨np, hnp⟩ : ∃ np, pool.length = np := ⟨_, rfl⟩
  obtain ⟨nf, hnf⟩ : ∃ nf, fields.length = nf := ⟨_, rfl⟩
  obtain ⟨nm, hnm⟩ : ∃ nm, methods.length = nm := ⟨_, rfl⟩
  rw [hnp, hnf, hnm] at ho0 hbx cK ⊢
  have HO := Lib.hid ho0
  have HBX := Lib.hid hbx
  have HNP := Lib.hid hnp
  have HNF := Lib.hid hnf
  have HNM := Lib.hid hnm
  have CK := Lib.hid cK
  clear hc hp hf hm hm1 hm2 hm3 ht ho0 hbx cK hpr hnp hnf hnm
  obtain ⟨z, hz⟩ : ∃ z, clsZ ⟨pool, this, super, fields, methods⟩ = z := ⟨_, rfl⟩
  rw [hz] at CK
  have HZ := Lib.hid hz
  clear hz
  go_enter Tryz.func9, Tryz.ntmps9
  go_wp2_with (fail)
  refine CK.out.mono ?_
  rintro e w1 ⟨rfl, ho1⟩
  have HO1 := Lib.hid (HO.out.trans ho1 (fun _ h => h.elim))
  have hb1 := ho1.heap HBX.out (fun h => h)
  have HB1 := Lib.hid hb1
  clear ho1 CK
  by_cases hz : z = 0
  rotate_left
  · have hzb : (z != 0) = true := by simpa using hz
    have HZN := Lib.hid hz
    clear hz hb1
    go_wp2
    go_ret2
    exact ⟨_, z, rfl, HO1.out, .inr ⟨by rw [HZ.out]; exact HZN.out, HZ.out.symm, rfl⟩⟩
  subst hz
  have hz0 := (clsZ_zero HZ.out).1
  have hcl := (checkZ_zero hz0).1
  have hfs : ∀ f ∈ fields, FieldS f := fun f hf => ((clsZ_zero HZ.out).2.2.2.2.1 f hf).small hcl
  have hms : ∀ m ∈ methods, MethodP pool m ∧ m.traps.length ≤ 64 := fun m hm => ⟨(clsZ_zero HZ.out).2.2.2.2.2 m hm, Nat.le_of_not_lt fun e => (clsZ_zero HZ.out).2.1 (.inr (.inr ⟨m, hm, e⟩))⟩
  have hnf : nf ≤ 64 := by rw [← HNF.out]; exact Nat.le_of_not_lt fun e => (clsZ_zero HZ.out).2.1 (.inl e)
  have hnm : nm ≤ 64 := by rw [← HNM.out]; exact Nat.le_of_not_lt fun e => (clsZ_zero HZ.out).2.1 (.inr (.inl e))
  have hth : InU16 this := by have hx := classZ_lt (clsZ_zero HZ.out).2.2.1 hcl; simp only at hx; exact ⟨by omega, by omega⟩
  have hsu : InU16 super := by have hx := classZ_lt (clsZ_zero HZ.out).2.2.2.1 hcl; simp only at hx; exact ⟨by omega, by omega⟩
  have N0 := Lib.hid (Nl.head w1)
  have ho2 := (Only.refl (fun _ => False) w1).alloc (.cells #[.int .u8 202, .int .u8 254, .int .u8 186, .int .u8 190, .int .u8 0, .int .u8 0, .int .u8 0, .int .u8 61] 5)
  have q0 : (w1.alloc (.cells #[.int .u8 202, .int .u8 254, .int .u8 186, .int .u8 190, .int .u8 0, .int .u8 0, .int .u8 0, .int .u8 61] 5)).cell? ⟨w.heap.size, 0, none⟩ = some (.slice ap np cp) := by
    rw [cell_blk (ho2.heap HB1.out (fun h => h)) 0]; rfl
  have cE := refPoolEnc _ pool _ (HC.out.1.only (HO1.out.trans ho2 (fun _ h _ => h)) (fun _ _ h => h)) HTX.out
  rw [HNP.out] at cE
  have CE := Lib.hid cE
  have HFS := Lib.hid hfs
  have HMS := Lib.hid hms
  have HCL := Lib.hid hcl
  have HTH := Lib.hid hth
  have HSU := Lib.hid hsu
  have HZ0 := Lib.hid hz0
  have c24 := (fun m vc vt vm' w' (ho : Only (fun _ => False) w w') (h : Inside w' m vc vt vm') (h1 : MethodP pool m) (h2 : m.traps.length ≤ 64) => refCode _ pool m vc vt vm' w' (HC.out.1.only ho (fun _ _ h => h)) HCL.out h h1 h2)
  have c25 := (fun w' (ho : Only (fun _ => False) w w') => refPlace _ pool codeT w' (HC.out.1.only ho (fun _ _ h => h)))
  rw [HNP.out] at c24 c25
  have C24 := Lib.hid c24
  have C25 := Lib.hid c25
  clear c24 c25
  clear hz0 hcl hfs hms hth hsu ho2 cE hb1
  go_wp2_with (fail)
  refine CE.out.mono ?_
  rintro e w3 ⟨vb, k, rfl, ho3, hres⟩
  obtain ⟨rfl, bs, hbs, hrow⟩ : k = 0 ∧ ∃ bs, ConstsB (pool.drop 1) bs ∧ Row w3 _ vb (be2 np ++ bs) := by
    rcases hres with ⟨_, h, bs, h2, h3⟩ | ⟨h, _⟩
    · exact ⟨h, bs, h2, h3⟩
    · exact absurd HZ0.out h
  have hlen := fileB_len HZ.out hbs
  have hlen1 := hlen.1
  have hlen2 := hlen.2.1
  rw [fileB_len' ⟨pool, this, super, fields, methods⟩ bs] at hlen1
  simp only [HNF.out, HNM.out, HNP.out] at hlen1 hlen2
  have hby : Bytish (be2 np ++ bs) := (be2_byte _).append (consts_byte hbs)
  have HBY := Lib.hid (hrow.bytes hby)
  have HBS := Lib.hid hbs
  have h3 := N0.out.idle ho3
  have H3 := Lib.hid h3
  have hh8 : headB.length = 8 := rfl
  obtain ⟨pb, hpb⟩ : ∃ pb, be2 np ++ bs = pb := ⟨_, rfl⟩
  rw [hpb] at HBY hlen1 hlen2
  obtain ⟨a3, c3, rfl, _, _⟩ := slice_of_owns hrow
  rw [hpb] at HBY
  have HPB := Lib.hid hpb
  obtain ⟨hd, hhd⟩ : ∃ hd, headB = hd := ⟨_, rfl⟩
  rw [hhd] at H3 hh8
  have HHD := Lib.hid hhd
  have hsz3 := h3.only.size
  clear hres hrow hbs hlen hby h3 N0 CE q0 ho3 hhd
  go_wp2_with (at_builtin; go_loud (refine wpList_append_src rfl (.tmp 25) (.tmp 26) 27 rfl 5 i0 (.int .u8 0) 1 1 Tryz.underlying27 hi hz0 hz1 hz2 rfl (by decide) w1.heap.size (.slice (some ⟨w1.heap.size, 0, none⟩) 8 8) hd.length (hd.map (Value.int .u8)) rfl (by exact H3.out.row) (by omega) (.slice a3 pb.length c3) pb.length (pb.map (Value.int .u8)) rfl (by exact Src.of_bytes HBY.out) (by unfold maxLen; omega) (by omega) ?_); intro v4 w4 hown hgrow hnew; have hto1 := H3.out.to (RowTo.of (zs := pb) (Only.refl (fun _ => False) w3) hown hgrow hnew); have H4 := Lib.hid hto1; have hb4 := hto1.only.heap HB1.out (fun h => h); have q1 : w4.cell? ⟨w.heap.size, 1, none⟩ = some (.int .i64 this) := (by rw [cell_blk hb4 1]; rfl); have q2 : w4.cell? ⟨w.heap.size, 2, none⟩ = some (.int .i64 super) := (by rw [cell_blk hb4 2]; rfl); have q3 : w4.cell? ⟨w.heap.size, 3, none⟩ = some (.slice af nf cf) := (by rw [cell_blk hb4 3]; rfl); clear hb4 hown hgrow hnew hto1)
  have hl4 : (hd ++ pb).length ≤ 264967 := by rw [List.length_append]; omega
  obtain ⟨y4, hy4⟩ : ∃ y, hd ++ pb = y := ⟨_, rfl⟩
  rw [hy4] at H4 hl4
  have HY4 := Lib.hid hy4
  clear hy4
  refine (H4.out.put [0, this, super, 0, (nf : Int)] (by simp; omega) (all5 u16_0 HTH.out HSU.out u16_0 ⟨by omega, by omega⟩) rfl rfl rfl).mono ?_
  rintro e w5 ⟨v5, rfl, h5⟩
  have hl5 : (y4 ++ [0, this, super, 0, (nf : Int)].flatMap be2).length ≤ 264977 := by rw [List.length_append, flat2_len]; simp; omega
  obtain ⟨y5, hy5⟩ : ∃ y, y4 ++ [0, this, super, 0, (nf : Int)].flatMap be2 = y := ⟨_, rfl⟩
  rw [hy5] at h5 hl5
  have HY5 := Lib.hid hy5
  have H5 := Lib.hid h5
  clear h5 hy5 q1 q2 q3
  go_wp2_with (fail)
  go_loopw [5, 8] (fun b i wr => ∃ j : Nat, j ≤ nf ∧ i = .int .i64 j ∧ Nl w1 (y5 ++ (fields.take j).flatMap fieldB) b wr) (fun _ i _ => nf - (intOf i).toNat)
  case atStart => exact ⟨0, Nat.zero_le _, rfl, by simpa using H5.out⟩
  case round =>
    obtain ⟨j, hj, rfl, hto⟩ := hrel
    have hbr := hto.only.heap HB1.out (fun h => h)
    have q3 : wr.cell? ⟨w.heap.size, 3, none⟩ = some (.slice af nf cf) := by rw [cell_blk hbr 3]; rfl
    by_cases hlt : j < nf
    · have hjz : (j : Int) < (nf : Int) := by omega
      have hlt2 : j < fields.length := by rw [HNF.out]; exact hlt
      have hsl := (HC.out.2.1.only (HO1.out.trans hto.only (fun _ h _ => h))).1
      rw [HNF.out] at hsl
      obtain ⟨b, o, e2, hc⟩ := hsl.at hlt
      subst e2
      have htk : fields.take (j + 1) = fields.take j ++ [fields.getD j default] := take_snoc hlt2
      have hsm := HFS.out _ (getD_mem hlt2)
      have HTK := Lib.hid htk
      have hyl : (y5 ++ (fields.take j).flatMap fieldB).length ≤ 266000 := by rw [List.length_append, fieldB_len, List.length_take]; omega
      have HTO := Lib.hid hto
      obtain ⟨k0, k1, k2⟩ := hc
      generalize fields.getD j default = t at *
      obtain ⟨tf, tn, td⟩ := t
      simp only at k0 k1 k2
      have HSM := Lib.hid hsm
      obtain ⟨yj, hyj⟩ : ∃ y, y5 ++ (fields.take j).flatMap fieldB = y := ⟨_, rfl⟩
      rw [hyj] at HTO hyl
      have HYJ := Lib.hid hyj
      clear hto htk hsm hyj hsl hbr hlt2
      go_wp2_with (fail)
      refine (((HTO.out.idle ((Only.refl _ _).alloc _)).put [tf, tn, td, 0] (by simp; omega) (all4 HSM.out.1 HSM.out.2.1 HSM.out.2.2 u16_0) rfl rfl (by simp))).mono ?_
      rintro e w6 ⟨v6, rfl, h6⟩
      have hto6 : Nl w1 (y5 ++ (fields.take (j + 1)).flatMap fieldB) v6 w6 := by
        rw [HTK.out, List.flatMap_append, ← List.append_assoc, HYJ.out]
        simpa [fieldB] using h6
      have H6 := Lib.hid hto6
      clear h6 hto6
      go_wp2_with (fail)
      go_roundw
      case rel =>
        first
          | exact ⟨j + 1, by omega, by go_num, H6.out⟩
          | (repeat apply Exists.intro
             refine ⟨?_, rfl⟩
             exact ⟨j + 1, by omega, by go_num, H6.out⟩)
      case measure => simp [intOf]; omega
    · have hjn : j = fields.length := by rw [HNF.out]; omega
      have hjz : (nf : Int) ≤ (j : Int) := by omega
      have q4 : wr.cell? ⟨w.heap.size, 4, none⟩ = some (.slice am nm cm) := by rw [cell_blk hbr 4]; rfl
      rw [hjn, List.take_of_length_le (Nat.le_refl _)] at hto
      have hyl : (y5 ++ fields.flatMap fieldB).length ≤ 266000 := by rw [List.length_append, fieldB_len, HNF.out]; omega
      obtain ⟨y6, hy6⟩ : ∃ y, y5 ++ fields.flatMap fieldB = y := ⟨_, rfl⟩
      rw [hy6] at hto hyl
      have HTO := Lib.hid hto
      have HY6 := Lib.hid hy6
      clear hto hy6 hjn hbr
      go_wp2_with (fail)
      refine (HTO.out.put [(nm : Int)] (by simp; omega) (all1 ⟨by omega, by omega⟩) rfl rfl rfl).mono ?_
      rintro e w7 ⟨v7, rfl, h7⟩
      have hl7 : (y6 ++ [(nm : Int)].flatMap be2).length ≤ 266002 := by rw [List.length_append, flat2_len]; simp; omega
      obtain ⟨y7, hy7⟩ : ∃ y, y6 ++ [(nm : Int)].flatMap be2 = y := ⟨_, rfl⟩
      rw [hy7] at h7 hl7
      have HY7 := Lib.hid hy7
      have H7 := Lib.hid h7
      clear h7 hy7 q3 q4
      go_wp2_with (fail)
      go_loopw [5, 10] (fun b i wr => ∃ j : Nat, j ≤ nm ∧ i = .int .i64 j ∧ Nl w1 (y7 ++ (methods.take j).flatMap (methodB pool)) b wr) (fun _ i _ => nm - (intOf i).toNat)
      case atStart => exact ⟨0, Nat.zero_le _, rfl, by simpa using H7.out⟩
      case round =>
        obtain ⟨j, hj, rfl, hto⟩ := hrel
        have hbr := hto.only.heap HB1.out (fun h => h)
        have q4 : wr.cell? ⟨w.heap.size, 4, none⟩ = some (.slice am nm cm) := by rw [cell_blk hbr 4]; rfl
        by_cases hlm : j < nm
        · have hjy : (j : Int) < (nm : Int) := by omega
          have hlt2 : j < methods.length := by rw [HNM.out]; exact hlm
          have how := HO1.out.trans hto.only (fun _ h _ => h)
          have hsl := HM1.out.imp (fun _ _ _ _ _ h => h.only how)
          rw [HNM.out] at hsl
          obtain ⟨b, o, e2, hc⟩ := hsl.at hlm
          subst e2
          have hin := (HM2.out j hlt2).only how
          have htk : methods.take (j + 1) = methods.take j ++ [methods.getD j default] := take_snoc hlt2
          have hmp := HMS.out _ (getD_mem hlt2)
          have HTK := Lib.hid htk
          have hyl : (y7 ++ (methods.take j).flatMap (methodB pool)).length ≤ 1100000 := by
            have hx := flatMap_take_le (methodB pool) methods j
            rw [List.length_append]; omega
          have HTO := Lib.hid hto
          obtain ⟨k0, k1, k2, k3, k4, k5, k6, k7⟩ := hc
          have hcl2 := codeB_len pool (methods.getD j default)
          generalize methods.getD j default = t at *
          obtain ⟨⟨vc, vt, vm2⟩, hfm⟩ : ∃ x, fm j = x := ⟨_, rfl⟩
          rw [hfm] at k5 k6 k7 hin
          obtain ⟨fl, mn, ds, st, lo, code, traps, maps⟩ := t
          simp only at k0 k1 k2 k3 k4 k5 k6 k7 hin
          obtain ⟨yj, hyj⟩ : ∃ y, y7 ++ (methods.take j).flatMap (methodB pool) = y := ⟨_, rfl⟩
          rw [hyj] at HTO hyl
          have HYJ := Lib.hid hyj
          have hcb : Bytish (codeB pool ⟨fl, mn, ds, st, lo, code, traps, maps⟩) := codeB_byte (by obtain ⟨⟨_, _, _, _, _, _, h, _⟩, _, _⟩ := hin; exact h) (by obtain ⟨_, _, ⟨_, _, _, _, _, _, h, _⟩⟩ := hin; exact h)
          obtain ⟨ac, cc, rfl, _, _, _, _, _⟩ := id hin.1
          obtain ⟨am2, cm2, rfl, _, _, _, _, _⟩ := id hin.2.2
          obtain ⟨at_, ct, rfl, _, _⟩ := hin.2.1.1.slice
          simp only at k5 k6 k7
          have hox := (Only.refl (fun _ => False) wr).alloc (.cells #[.int .i64 fl, .int .i64 mn, .int .i64 ds, .int .i64 st, .int .i64 lo, .slice ac code.length cc, .slice at_ traps.length ct, .slice am2 maps.length cm2] 62)
          have hbx2 := heap_alloc_new wr (.cells #[.int .i64 fl, .int .i64 mn, .int .i64 ds, .int .i64 st, .int .i64 lo, .slice ac code.length cc, .slice at_ traps.length ct, .slice am2 maps.length cm2] 62)
          have qA : (wr.alloc (.cells #[.int .i64 fl, .int .i64 mn, .int .i64 ds, .int .i64 st, .int .i64 lo, .slice ac code.length cc, .slice at_ traps.length ct, .slice am2 maps.length cm2] 62)).cell? ⟨w.heap.size, 0, none⟩ = some (.slice ap np cp) := by rw [cell_blk (hox.heap hbr (fun h => h)) 0]; rfl
          have cC := C24.out ⟨fl, mn, ds, st, lo, code, traps, maps⟩ _ _ _ _ (how.trans hox (fun _ h _ => h)) (hin.only hox) hmp.1 hmp.2
          have CC := Lib.hid cC
          have HBX2 := Lib.hid hbx2
          have HOX := Lib.hid hox
          have HMP := Lib.hid hmp
          have HBR := Lib.hid hbr
          have hcl3 : (codeB pool ⟨fl, mn, ds, st, lo, code, traps, maps⟩).length ≤ 9000 := by
            obtain ⟨⟨_, ⟨_, h8, h9, _⟩, _⟩, h64⟩ := hmp
            simp only at hcl2 h8 h9 h64
            omega
          have HMI := Lib.hid (show InU16 fl ∧ InU16 mn ∧ InU16 ds ∧ InU16 (placeOf pool codeT) from by
            obtain ⟨⟨⟨g1, g2, g3, _⟩, ⟨_, _, _, g4, _⟩, _⟩, _⟩ := hmp
            have l2 := textZ_lt g2 HCL.out
            have l3 := textZ_lt g3 HCL.out
            have l4 := textZ_lt (by rw [placeOf_found g4]) HCL.out
            simp only at l2 l3 g1
            refine ⟨?_, ⟨by omega, by omega⟩, ⟨by omega, by omega⟩, ⟨by omega, by omega⟩⟩
            rcases g1 with g1 | g1 <;> exact ⟨by omega, by omega⟩)
          clear hto htk hmp hyj hsl hbr hlt2 how hin hcl2 cC hbx2 hox hfm
          go_wp2_with (fail)
          refine CC.out.mono ?_
          rintro e w8 ⟨v8, rfl, hrow8, ho8⟩
          obtain ⟨xb, hxb⟩ : ∃ xb, codeB pool ⟨fl, mn, ds, st, lo, code, traps, maps⟩ = xb := ⟨_, rfl⟩
          rw [hxb] at hrow8 hcl3 hcb
          have HXB := Lib.hid hxb
          obtain ⟨a8, c8, rfl, _, _⟩ := slice_of_owns hrow8
          have hb8 := ho8.heap HBX2.out (fun h => h)
          have r0 : w8.cell? ⟨wr.heap.size, 0, none⟩ = some (.int .i64 fl) := by rw [cell_blk hb8 0]; rfl
          have r1 : w8.cell? ⟨wr.heap.size, 1, none⟩ = some (.int .i64 mn) := by rw [cell_blk hb8 1]; rfl
          have r2 : w8.cell? ⟨wr.heap.size, 2, none⟩ = some (.int .i64 ds) := by rw [cell_blk hb8 2]; rfl
          have r3 : w8.cell? ⟨w.heap.size, 0, none⟩ = some (.slice ap np cp) := by rw [cell_blk (ho8.heap (HOX.out.heap HBR.out (fun h => h)) (fun h => h)) 0]; rfl
          have ho18 := HOX.out.trans ho8 (fun _ h => h.elim)
          have HT8 := Lib.hid (HTO.out.idle ho18)
          have HB8 := Lib.hid (hrow8.bytes hcb)
          have HW8 := Lib.hid ((HO1.out.trans HT8.out.only (fun _ h => h.elim)).drew)
          have NS1 := Lib.hid (show ¬ u5.ownBlock = some wr.heap.size from fun e => by have hx := World.ownsRow.lt HTO.out.row _ e; omega)
          have NS2 := Lib.hid (show ¬ u5.ownBlock = some w.heap.size from fun e => by have hx := HTO.out.row.ge _ e; have hy := HO1.out.size; have hz := (Array.getElem?_eq_some_iff.1 HB1.out).1; omega)
          have HL8 := Lib.hid (show ∀ k, (Value.slice a8 xb.length c8).ownBlock = some k → wr.heap.size < k ∧ k < w8.heap.size from fun k hk => by have hx := World.ownsRow.lt hrow8 k hk; simp at hx; omega)
          have HLU := Lib.hid (show ∀ k, u5.ownBlock = some k → k < wr.heap.size from fun k hk => (World.ownsRow.lt HTO.out.row k hk).2)
          clear k0 k1 k2 k3 k4 k5 k6 k7 hrow8 ho8 ho18 hcb hxb hb8 CC
          go_wp2_with (fail)
          refine wp_region_held_drew (S := fun wc => (wc.cell? ⟨wr.heap.size, 0, none⟩ = some (.int .i64 fl) ∧ wc.cell? ⟨wr.heap.size, 1, none⟩ = some (.int .i64 mn) ∧ wc.cell? ⟨wr.heap.size, 2, none⟩ = some (.int .i64 ds)) ∧ wc.cell? ⟨w.heap.size, 0, none⟩ = some (.slice ap np cp)) (by kernel_rfl) ⟨⟨r0, r1, r2⟩, r3⟩ (fun hHeld => ?_)
          refine wpAnyH_take (i := 0) (v := ?_) (by simp only [List.getElem?_toArray, List.getElem?_cons_succ, List.getElem?_cons_zero]; rfl) (by kernel_rfl) (by kernel_rfl) (by kernel_rfl) (by exact fun _ _ _ h => h) (Or.inl ⟨by rfl, ?_⟩) (by assumption) ?_
          rotate_left 1
          · (intro w hSw; (try dsimp only at hSw); go_simp; try with_reducible rfl)
          try simp only [Act.put, List.setIfInBounds_toArray, List.set_cons_zero, List.set_cons_succ]
          refine wpAnyH_take (i := 1) (v := ?_) (by simp only [List.getElem?_toArray, List.getElem?_cons_succ, List.getElem?_cons_zero]; rfl) (by kernel_rfl) (by kernel_rfl) (by kernel_rfl) (by exact fun _ _ _ h => h) (Or.inl ⟨by rfl, ?_⟩) (by assumption) ?_
          rotate_left 1
          · (intro w hSw; (try dsimp only at hSw); go_simp; try with_reducible rfl)
          try simp only [Act.put, List.setIfInBounds_toArray, List.set_cons_zero, List.set_cons_succ]
          refine wpAnyH_take (i := 2) (v := ?_) (by simp only [List.getElem?_toArray, List.getElem?_cons_succ, List.getElem?_cons_zero]; rfl) (by kernel_rfl) (by kernel_rfl) (by kernel_rfl) (by exact fun _ _ _ h => h) (Or.inl ⟨by rfl, ?_⟩) (by assumption) ?_
          rotate_left 1
          · (intro w hSw; (try dsimp only at hSw); go_simp; try with_reducible rfl)
          try simp only [Act.put, List.setIfInBounds_toArray, List.set_cons_zero, List.set_cons_succ]
          refine wpAnyH_take (i := 3) (v := ?_) (by simp only [List.getElem?_toArray, List.getElem?_cons_succ, List.getElem?_cons_zero]; rfl) (by kernel_rfl) (by kernel_rfl) (by kernel_rfl) (by exact fun _ _ _ h => h) (Or.inl ⟨by rfl, ?_⟩) (by assumption) ?_
          rotate_left 1
          · (intro w hSw; (try dsimp only at hSw); go_simp; try with_reducible rfl)
          try simp only [Act.put, List.setIfInBounds_toArray, List.set_cons_zero, List.set_cons_succ]
          refine wpAnyH_take (i := 4) (v := ?_) (by simp only [List.getElem?_toArray, List.getElem?_cons_succ, List.getElem?_cons_zero]; rfl) (by kernel_rfl) (by kernel_rfl) (by kernel_rfl) (by exact fun _ _ _ h => h) (Or.inl ⟨by rfl, ?_⟩) (by assumption) ?_
          rotate_left 1
          · (intro w hSw; (try dsimp only at hSw); go_simp; try with_reducible rfl)
          try simp only [Act.put, List.setIfInBounds_toArray, List.set_cons_zero, List.set_cons_succ]
          refine wpAnyH_take (i := 5) (v := ?_) (by simp only [List.getElem?_toArray, List.getElem?_cons_succ, List.getElem?_cons_zero]; rfl) (by kernel_rfl) (by kernel_rfl) (by kernel_rfl) (by exact fun _ _ _ h => h) (Or.inl ⟨by rfl, ?_⟩) (by assumption) ?_
          rotate_left 1
          · (intro w hSw; (try dsimp only at hSw); go_simp; try with_reducible rfl)
          try simp only [Act.put, List.setIfInBounds_toArray, List.set_cons_zero, List.set_cons_succ]
          refine wpAnyH_take (i := 6) (v := ?_) (by simp only [List.getElem?_toArray, List.getElem?_cons_succ, List.getElem?_cons_zero]; rfl) (by kernel_rfl) (by kernel_rfl) (by kernel_rfl) (by exact fun _ _ _ h => h) (Or.inl ⟨by rfl, ?_⟩) (by assumption) ?_
          rotate_left 1
          · (intro w hSw; (try dsimp only at hSw); go_simp; try with_reducible rfl)
          try simp only [Act.put, List.setIfInBounds_toArray, List.set_cons_zero, List.set_cons_succ]
          refine wpAnyH_take (i := 7) (v := ?_) (by simp only [List.getElem?_toArray, List.getElem?_cons_succ, List.getElem?_cons_zero]; rfl) (by kernel_rfl) (by kernel_rfl) (by kernel_rfl) (by exact fun _ _ _ h => h) (Or.inl ⟨by rfl, ?_⟩) (by assumption) ?_
          rotate_left 1
          · (intro w hSw; (try dsimp only at hSw); go_simp; try with_reducible rfl)
          try simp only [Act.put, List.setIfInBounds_toArray, List.set_cons_zero, List.set_cons_succ]
          refine wpAnyH_take (i := 8) (v := ?_) (by simp only [List.getElem?_toArray, List.getElem?_cons_succ, List.getElem?_cons_zero]; rfl) (by kernel_rfl) (by kernel_rfl) (by kernel_rfl) (by exact fun _ _ _ h => h) (Or.inl ⟨by rfl, ?_⟩) (by assumption) ?_
          rotate_left 1
          · (intro w hSw; (try dsimp only at hSw); go_simp; try with_reducible rfl)
          try simp only [Act.put, List.setIfInBounds_toArray, List.set_cons_zero, List.set_cons_succ]
          refine wpAnyH_ready (rs := [9]) (by kernel_rfl) (by simp) ?_
          refine AllReadyH.cons (by simp only [List.getElem?_toArray, List.getElem?_cons_succ, List.getElem?_cons_zero]; rfl) (fun K hK => ?_) AllReadyH.nil
          go_simp
          refine (C25.out _ HW8.out).mono ?_; rintro e w9 ⟨rfl, hw9⟩; have hq9 := hHeld; have hn9 := HT8.out.idle ((Only.refl (fun _ => False) w8).drew); have hs9 := (Only.refl (fun _ => False) w8).drew; rw [hw9] at hq9 hn9 hs9; have HQ := Lib.hid hq9; have HN9 := Lib.hid hn9; have HS9 := Lib.hid hs9; clear hq9 hn9 hs9 hw9
          go_wp2_with fail
          refine hK.out _ _ ?_ (fun hHeld2 => ?_)
          · exact HQ.out
          clear hK K
          try simp only [Act.put, List.setIfInBounds_toArray, List.set_cons_zero, List.set_cons_succ]
          clear hHeld
          have hHeld := hHeld2
          clear hHeld2
          refine wpAnyH_ready (rs := [10]) (by kernel_rfl) (by simp) ?_
          refine AllReadyH.cons (by simp only [List.getElem?_toArray, List.getElem?_cons_succ, List.getElem?_cons_zero]; rfl) (fun K hK => ?_) AllReadyH.nil
          go_simp
          refine hK.out _ _ ?_ (fun hHeld2 => ?_)
          · exact (have hx := (Only.refl (fun _ => False) w9).alloc _; have hq := HQ.out; And.intro (And.intro (hx.cell hq.1.1 (fun h => h)) (And.intro (hx.cell hq.1.2.1 (fun h => h)) (hx.cell hq.1.2.2 (fun h => h)))) (hx.cell hq.2 (fun h => h)))
          clear hK K
          try simp only [Act.put, List.setIfInBounds_toArray, List.set_cons_zero, List.set_cons_succ]
          clear hHeld
          have hHeld := hHeld2
          clear hHeld2
          refine wpAnyH_ready (rs := [11]) (by kernel_rfl) (by simp) ?_
          refine AllReadyH.cons (by simp only [List.getElem?_toArray, List.getElem?_cons_succ, List.getElem?_cons_zero]; rfl) (fun K hK => ?_) AllReadyH.nil
          go_simp
          refine (refPut w9 w1.heap.size u5 yj [fl, mn, ds, 1, placeOf pool codeT] HN9.out.row HN9.out.only.size (by simp; omega) (all5 HMI.out.1 HMI.out.2.1 HMI.out.2.2.1 ⟨by decide, by decide⟩ HMI.out.2.2.2) 5 rfl _ rfl _ rfl).mono ?_; rintro e w10 ⟨v10, rfl, ht10⟩; have hx10 := (Only.refl (fun _ => False) w9).alloc (.cells #[.int .i64 fl, .int .i64 mn, .int .i64 ds, .int .i64 1, .int .i64 (placeOf pool codeT)] 3); have hq := HQ.out; have hg := ht10.2.1; have HN10 := Lib.hid ((HN9.out.idle hx10).to ht10); have HG10 := Lib.hid hg; have HX10 := Lib.hid hx10; have HQ10 := Lib.hid (And.intro (And.intro (hg.cell (hx10.cell hq.1.1 (fun h => h)) NS1.out) (And.intro (hg.cell (hx10.cell hq.1.2.1 (fun h => h)) NS1.out) (hg.cell (hx10.cell hq.1.2.2 (fun h => h)) NS1.out))) (hg.cell (hx10.cell hq.2 (fun h => h)) NS2.out)); have HBX10 := Lib.hid (((HB8.out.only HS9.out (fun _ _ _ h => h)).only hx10 (fun _ _ _ h => h)).only ht10.2.1 (fun k hk _ hu => by have hy := HL8.out k hk; have hz := HLU.out k hu; omega)); have HNV := Lib.hid (show ∀ k, (Value.slice a8 xb.length c8).ownBlock = some k → ¬ v10.ownBlock = some k from fun k hk h => by have hy := HL8.out k hk; have hv := HS9.out.size; have hw := hx10.size; exact (ht10.2.2 k h).elim (fun e => by have hz := HLU.out k e; omega) (fun e => by have hz := Nat.le_trans ((Only.refl (fun _ => False) w9).alloc _).size e; omega)); clear ht10 hx10 hq hg
          go_wp2_with fail
          refine hK.out _ _ ?_ (fun hHeld2 => ?_)
          · exact HQ10.out
          clear hK K
          try simp only [Act.put, List.setIfInBounds_toArray, List.set_cons_zero, List.set_cons_succ]
          clear hHeld
          have hHeld := hHeld2
          clear hHeld2
          refine wpAnyH_take (i := 12) (v := ?_) (by simp only [List.getElem?_toArray, List.getElem?_cons_succ, List.getElem?_cons_zero]; rfl) (by kernel_rfl) (by kernel_rfl) (by kernel_rfl) (by exact fun _ _ _ h => h) (Or.inl ⟨by rfl, ?_⟩) (by assumption) ?_
          rotate_left 1
          · (intro w hSw; (try dsimp only at hSw); go_simp; try with_reducible rfl)
          try simp only [Act.put, List.setIfInBounds_toArray, List.set_cons_zero, List.set_cons_succ]
          refine wpAnyH_done (by kernel_rfl) ?_ _
          have hl10 : (yj ++ [fl, mn, ds, 1, placeOf pool codeT].flatMap be2).length ≤ 1100010 := by rw [List.length_append, flat2_len]; simp; omega
          obtain ⟨y10, hy10⟩ : ∃ y, yj ++ [fl, mn, ds, 1, placeOf pool codeT].flatMap be2 = y := ⟨_, rfl⟩
          rw [hy10] at HN10 hl10
          have HY10 := Lib.hid hy10
          clear hy10
          go_wp2_with (fail)
          refine (refFour w10 w1.heap.size v10 y10 xb.length HN10.out.row HN10.out.only.size (by omega) (by omega) (by omega)).mono ?_
          rintro e w11 ⟨v11, rfl, ht11⟩
          have h11 := HN10.out.to ht11
          have hl11 : (y10 ++ be4 xb.length).length ≤ 1100020 := by rw [List.length_append]; simp [be4]; omega
          obtain ⟨y11, hy11⟩ : ∃ y, y10 ++ be4 xb.length = y := ⟨_, rfl⟩
          rw [hy11] at h11 hl11
          have HY11 := Lib.hid hy11
          have H11 := Lib.hid h11
          have hsz11 := h11.only.size
          have HB11 := Lib.hid (show Bytes w11 (.slice a8 xb.length c8) xb from HBX10.out.only ht11.2.1 (fun k hk _ h => HNV.out k hk h))
          obtain ⟨a11, c11, rfl, _, _⟩ := slice_of_owns h11.row
          clear h11 hy11 ht11
          go_wp2_with (at_builtin; go_loud (refine wpList_append_src rfl (.tmp 97) (.tmp 98) 27 rfl 5 i0 (.int .u8 0) 1 1 Tryz.underlying27 hi hz0 hz1 hz2 rfl (by decide) w1.heap.size (.slice a11 y11.length c11) y11.length (y11.map (Value.int .u8)) rfl (by exact H11.out.row) (by omega) (.slice a8 xb.length c8) xb.length (xb.map (Value.int .u8)) rfl (by exact Src.of_bytes HB11.out) (by unfold maxLen; omega) (by omega) ?_); intro v12 w12 hown hgrow hnew; have hto1 := H11.out.to (RowTo.of (zs := xb) (Only.refl (fun _ => False) w11) hown hgrow hnew); have H12 := Lib.hid hto1; clear hown hgrow hnew hto1)
          have hto12 : Nl w1 (y7 ++ (methods.take (j + 1)).flatMap (methodB pool)) v12 w12 := by
            have hh := H12.out
            rw [← HY11.out, ← HY10.out, ← HYJ.out] at hh
            refine Eq.mp (congrArg (fun ys => Nl w1 ys v12 w12) ?_) hh
            rw [HTK.out, List.flatMap_append]
            simp [methodB, HXB.out, List.append_assoc]
          have H13 := Lib.hid hto12
          clear hto12
          go_wp2_with (fail)
          go_roundw
          case rel =>
            first
              | exact ⟨j + 1, by omega, by go_num, H13.out⟩
              | (repeat apply Exists.intro
                 refine ⟨?_, rfl⟩
                 exact ⟨j + 1, by omega, by go_num, H13.out⟩)
          case measure => simp [intOf]; omega
        · have hjn2 : j = methods.length := by rw [HNM.out]; omega
          have hjy : (nm : Int) ≤ (j : Int) := by omega
          rw [hjn2, List.take_of_length_le (Nat.le_refl _)] at hto
          have hyl : (y7 ++ methods.flatMap (methodB pool)).length ≤ 1100000 := by rw [List.length_append]; omega
          obtain ⟨y8, hy8⟩ : ∃ y, y7 ++ methods.flatMap (methodB pool) = y := ⟨_, rfl⟩
          rw [hy8] at hto hyl
          have HTO := Lib.hid hto
          have HY8 := Lib.hid hy8
          clear hto hy8 hjn2 hbr
          go_wp2_with (fail)
          refine (HTO.out.put [0] (by simp; omega) (all1 u16_0) rfl rfl rfl).mono ?_
          rintro e w9 ⟨v9, rfl, h9⟩
          have H9 := Lib.hid h9
          clear h9
          go_wp2_with (fail)
          go_ret2
          refine ⟨_, 0, rfl, HO1.out.trans H9.out.only (fun _ h => h.elim), .inl ⟨HZ.out, rfl, bs, HBS.out, ?_⟩⟩
          have h9 : Row w9 w.heap.size v9 (y8 ++ [0].flatMap be2) := H9.out.row.mono HO1.out.size
          rw [← HY8.out, ← HY7.out, ← HY6.out, ← HY5.out, ← HY4.out, ← HHD.out, ← HPB.out] at h9
          refine Eq.mp (congrArg (Row w9 w.heap.size v9) ?_) h9
          simp [fileB, bodyB, HNP.out, HNF.out, HNM.out, List.append_assoc]
end Go.Proofs.YtodhdiccfobcfaaGreatDoor
