/- The program reads all fields, and all methods, of a class file. No condition beyond a reader that was made. -/
import Derived.Test.YtodhdiccfobcfaaGreatDoorGClsF
namespace Go.Proofs.YtodhdiccfobcfaaGreatDoor
open Go.RowKit
set_option linter.unusedVariables false
set_option linter.unusedSimpArgs false

theorem info_field : (Tryz.prog.info? 59).map (fun i => (i.zero, i.size, i.bytes)) = some (some (.agg #[.int .i64 0, .int .i64 0, .int .i64 0]), 3, 24) := by kernel_rfl
theorem info_method : (Tryz.prog.info? 62).map (fun i => (i.zero, i.size, i.bytes)) = some (some (.agg #[.int .i64 0, .int .i64 0, .int .i64 0, .int .i64 0, .int .i64 0, .slice none 0 0, .slice none 0 0, .slice none 0 0]), 8, 112) := by kernel_rfl

/-- In the loop over the fields. -/
structure FS (w0 w : World) (b rb : Nat) (sv : Value) (zs : List Int) (k : Nat) (wv pv : Value) (cs : List ConstV) (th su : Int) (mv fv : Value) (fs : List FieldV) : Prop where
  ks : KS w0 w b rb sv zs k pv cs #[.pointer (some ⟨rb, 0, none⟩), wv, pv, .int .i64 th, .int .i64 su, fv, mv]
  rg : RowG 59 3 cellsF w w0.heap.size fv fs
section
variable {w0 w w' : World} {b rb : Nat} {sv : Value} {zs : List Int} {k k' : Nat} {wv pv : Value} {cs : List ConstV} {th su : Int} {mv fv : Value} {fs : List FieldV}
theorem FS.read (h : FS w0 w b rb sv zs k wv pv cs th su mv fv fs) (ne : Ap2 b rb sv pv w0.heap.size) (ho : Only (fun j => j = rb) w w') (hr : Rd w' rb sv zs k') : FS w0 w' b rb sv zs k' wv pv cs th su mv fv fs :=
  ⟨h.ks.read ne ho hr, h.rg.keep ho (fun j hj => by subst hj; exact ne.rbn)⟩
theorem FS.idle (h : FS w0 w b rb sv zs k wv pv cs th su mv fv fs) (ho : Only (fun _ => False) w w') : FS w0 w' b rb sv zs k wv pv cs th su mv fv fs :=
  ⟨h.ks.idle ho, RowG.only h.rg ho (fun _ _ h => h)⟩
/-- What a growing list of one's own leaves of the reader. -/
theorem KS.grown {w1 : World} {bc : Array Value} {lv : Value} (h : KS w0 w b rb sv zs k pv cs bc) (ne : Ap2 b rb sv pv w0.heap.size) (hge : ∀ j, lv.ownBlock = some j → w0.heap.size ≤ j) (hg : w.grownBy w1 lv.ownBlock) : KS w0 w1 b rb sv zs k pv cs bc ∧ Only (fun j => lv.ownBlock = some j) w w1 := by
  have ho : Only (fun j => lv.ownBlock = some j) w w1 := (Only.refl _ w).grown hg (fun k hk _ => hk)
  have far : ∀ j, j < w0.heap.size → ¬ lv.ownBlock = some j := fun j hj e => by have := hge j e; omega
  exact ⟨⟨h.rd.only ho (far _ ne.rbn) (fun j hj => far j (ne.sn j hj)), ho.heap h.blk (far _ ne.bn), Pool.only h.pool ho (fun j hj => far j (ne.pn j hj)), h.only.trans ho (fun i hi hl => absurd hl (by have := hge i hi; omega))⟩, ho⟩
theorem FS.push {w1 : World} {v' : Value} {t : FieldV} (h : FS w0 w b rb sv zs k wv pv cs th su mv fv fs) (ne : Ap2 b rb sv pv w0.heap.size)
    (hown : w1.ownsRow w0.heap.size 59 3 v' (fs.length + 1) (fs.flatMap cellsF ++ cellsF t)) (hg : w.grownBy w1 fv.ownBlock) (hn : ∀ k, v'.ownBlock = some k → fv.ownBlock = some k ∨ w.heap.size ≤ k) :
    FS w0 (w1.setCell ⟨b, 5, none⟩ v') b rb sv zs k wv pv cs th su mv v' (fs ++ [t]) ∧ w1.cell? ⟨b, 5, none⟩ = some fv ∧ w1.frozen? ⟨b, 5, none⟩ = false := by
  obtain ⟨hk, ho⟩ := h.ks.grown ne (fun j hj => (RowG.ge h.rg j hj).1) hg
  have ho2 := (Only.refl (fun j => j = b) w1).setCell (p := ⟨b, 5, none⟩) (fun _ => rfl) v'
  exact ⟨⟨hk.store ne 5 v', (RowG.more hown).keep ho2 (fun j hj => by subst hj; exact ne.bn)⟩, by rw [cell_blk hk.blk 5]; rfl, frozen_blk hk.blk 5⟩
end

set_option maxHeartbeats 8000000 in
set_option maxRecDepth 100000 in
theorem readFields (b rb : Nat) (sv : Value) (zs : List Int) (k : Nat) (w : World) (wv pv : Value) (cs : List ConstV) (th su : Int) (mv : Value) (h : KS w w b rb sv zs k pv cs #[.pointer (some ⟨rb, 0, none⟩), wv, pv, .int .i64 th, .int .i64 su, .slice none 0 0, mv]) (ne : Ap2 b rb sv pv w.heap.size) :
    Calls Tryz.prog 60 #[.pointer (some ⟨b, 0, none⟩)] w (KTo w b rb (fun fs k' w' => ∃ fv, FS w w' b rb sv zs k' wv pv cs th su mv fv fs ∧ ∀ f ∈ fs, FieldR f) (fieldsP zs k)) := by
  obtain ⟨i0, hi, hz0, hz1, hz2⟩ := info_parts info_field
  have HZ := Lib.hid h.rd.byt
  have NE := Lib.hid ne
  have H0 := Lib.hid h
  clear h ne
  go_enter Tryz.func60, Tryz.ntmps60
  go_wp2_with (fail)
  refine (readMembers b rb sv zs k w H0.out.rd (cell_blk H0.out.blk 0)).mono ?_
  rintro e w1 ⟨⟨m, k1, hx, rfl, hr⟩ | ⟨x, hx, rfl⟩, ho⟩
  rotate_left
  · exact ⟨rfl, KTo.no (show fieldsP zs k = .error x from bindP_error hx) (H0.out.then ho)⟩
  have HC := Lib.hid (show fieldsP zs k = _ from bindP_ok hx)
  obtain ⟨m0, m1⟩ := countP_val HZ.out hx
  obtain ⟨mm, rfl⟩ : ∃ mm : Nat, m = mm := ⟨m.toNat, by omega⟩
  have H1 := Lib.hid (show FS w w1 b rb sv zs k1 wv pv cs th su mv (.slice none 0 0) [] from ⟨H0.out.read NE.out ho hr, RowG.nil _ _⟩)
  clear hx hr ho H0 m0
  go_wp2
  go_loopw [5] (fun i wr => ∃ (ts : List FieldV) (kk : Nat) (fv : Value), i = .int .i64 ts.length ∧ ts.length ≤ mm ∧ ListTo fieldP mm zs k1 ts kk ∧ FS w wr b rb sv zs kk wv pv cs th su mv fv ts ∧ ∀ t ∈ ts, FieldR t) (fun i _ => mm - (intOf i).toNat)
  case atStart => exact ⟨[], k1, _, rfl, Nat.zero_le _, .start, H1.out, fun t ht => by cases ht⟩
  case round =>
    obtain ⟨ts, kk, fv, rfl, hle, hto, hl, htr⟩ := hrel
    obtain ⟨at_, ct, rfl, _, _⟩ := slice_of_owns hl.rg
    have HTO := Lib.hid hto
    have HTR := Lib.hid htr
    have HL0 := Lib.hid hl
    clear hto htr hl H1
    by_cases hlt : ts.length < mm
    · have hltz : (ts.length : Int) < (mm : Int) := by omega
      go_wp2_with (fail)
      refine (readShort b rb sv zs _ _ HL0.out.ks.rd (cell_blk HL0.out.ks.blk 0)).mono ?_
      rintro e w1 ⟨⟨a, kk1, hx, rfl, hr⟩ | ⟨x, hx, rfl⟩, ho⟩
      rotate_left
      · exact ⟨rfl, KTo.no (HC.out.trans (HTO.out.fail hlt ((bindP_error hx)))) (HL0.out.ks.then ho)⟩
      have T1 := Lib.hid (show fieldP zs kk = _ from (bindP_ok hx))
      have V1 := Lib.hid (numP_val zs _ HZ.out hx)
      have HL1 := Lib.hid (HL0.out.read NE.out ho hr)
      clear hx hr ho
      go_wp2_with (fail)
      refine (readShort b rb sv zs _ _ HL1.out.ks.rd (cell_blk HL1.out.ks.blk 0)).mono ?_
      rintro e w2 ⟨⟨b_, kk2, hx, rfl, hr⟩ | ⟨x, hx, rfl⟩, ho⟩
      rotate_left
      · exact ⟨rfl, KTo.no (HC.out.trans (HTO.out.fail hlt (T1.out.trans (bindP_error hx)))) (HL1.out.ks.then ho)⟩
      have T2 := Lib.hid (T1.out.trans (bindP_ok hx))
      have V2 := Lib.hid (numP_val zs _ HZ.out hx)
      have HL2 := Lib.hid (HL1.out.read NE.out ho hr)
      clear hx hr ho T1
      go_wp2_with (fail)
      refine (readShort b rb sv zs _ _ HL2.out.ks.rd (cell_blk HL2.out.ks.blk 0)).mono ?_
      rintro e w3 ⟨⟨c_, kk3, hx, rfl, hr⟩ | ⟨x, hx, rfl⟩, ho⟩
      rotate_left
      · exact ⟨rfl, KTo.no (HC.out.trans (HTO.out.fail hlt (T2.out.trans (bindP_error hx)))) (HL2.out.ks.then ho)⟩
      have T3 := Lib.hid (T2.out.trans (bindP_ok hx))
      have V3 := Lib.hid (numP_val zs _ HZ.out hx)
      have HL3 := Lib.hid (HL2.out.read NE.out ho hr)
      clear hx hr ho T2
      have ho3 := (Only.refl (fun _ => False) w3).alloc (.cells #[.int .i64 a, .int .i64 b_, .int .i64 c_] 59)
      have hb3 := heap_alloc_new w3 (.cells #[.int .i64 a, .int .i64 b_, .int .i64 c_] 59)
      have HL4 := Lib.hid (HL3.out.idle ho3)
      have HB3 := Lib.hid hb3
      have NLT := Lib.hid (show ¬ w3.heap.size = rb from fun e => by have := HL3.out.ks.rd.lt.1; omega)
      clear ho3 hb3
      go_wp2_with (fail)
      generalize w3.alloc (.cells #[.int .i64 a, .int .i64 b_, .int .i64 c_] 59) = w3a at *
      refine (readFixed b rb sv zs _ _ 2 (by decide) (by decide) 0 HL4.out.ks.rd (cell_blk HL4.out.ks.blk 0)).mono ?_
      rintro e w4 ⟨⟨_, kk4, hx, rfl, hr⟩ | ⟨x, hx, rfl⟩, ho⟩
      rotate_left
      · exact ⟨rfl, KTo.no (HC.out.trans (HTO.out.fail hlt (T3.out.trans (bindP_error hx)))) (HL4.out.ks.then ho)⟩
      have T4 := Lib.hid (show fieldP zs kk = .ok (⟨a, b_, c_⟩, kk4) from T3.out.trans (bindP_ok hx))
      have HL5 := Lib.hid (HL4.out.read NE.out ho hr)
      have hb4 := ho.heap HB3.out NLT.out
      have q0 := cell_blk hb4 0
      have q1 := cell_blk hb4 1
      have q2 := cell_blk hb4 2
      have q5 := cell_blk HL5.out.ks.blk 5
      simp at q0 q1 q2 q5
      clear hx hr ho hb4 HB3 HL3 HL4 T3 NLT
      generalize w3.heap.size = fb at *
      go_wp2_with (fail)
      refine wp_region_held_drew (S := fun _ => True) (by kernel_rfl) trivial (fun hHeld => ?_)
      refine wpAnyH_take (i := 0) (v := ?_) (by simp only [List.getElem?_toArray, List.getElem?_cons_succ, List.getElem?_cons_zero]; rfl) (by kernel_rfl) (by kernel_rfl) (by kernel_rfl) (by exact fun _ _ _ h => h) (Or.inl ⟨by rfl, ?_⟩) (by assumption) ?_
      rotate_left 1
      · (intro w hSw; (try dsimp only at hSw); go_simp; try with_reducible rfl)
      try simp only [Act.put, List.setIfInBounds_toArray, List.set_cons_zero, List.set_cons_succ]
      refine wpAnyH_take (i := 1) (v := ?_) (by simp only [List.getElem?_toArray, List.getElem?_cons_succ, List.getElem?_cons_zero]; rfl) (by kernel_rfl) (by kernel_rfl) (by kernel_rfl) (by exact fun _ _ _ h => h) (Or.inl ⟨by rfl, ?_⟩) (by assumption) ?_
      rotate_left 1
      · (intro w hSw; (try dsimp only at hSw); go_simp; try with_reducible rfl)
      try simp only [Act.put, List.setIfInBounds_toArray, List.set_cons_zero, List.set_cons_succ]
      refine wpAnyH_take (i := 2) (v := ?_) (by simp only [List.getElem?_toArray, List.getElem?_cons_succ, List.getElem?_cons_zero]; rfl) (by kernel_rfl) (by kernel_rfl) (by kernel_rfl) (by exact fun _ _ _ h => h) (Or.inl ⟨by rfl, ?_⟩) (by assumption) ?_
      rotate_left 1
      · (intro w hSw; (try dsimp only at hSw); go_simp; try with_reducible rfl)
      try simp only [Act.put, List.setIfInBounds_toArray, List.set_cons_zero, List.set_cons_succ]
      refine wpAnyH_take (i := 3) (v := ?_) (by simp only [List.getElem?_toArray, List.getElem?_cons_succ, List.getElem?_cons_zero]; rfl) (by kernel_rfl) (by kernel_rfl) (by kernel_rfl) (by exact fun _ _ _ h => h) (Or.inl ⟨by rfl, ?_⟩) (by assumption) ?_
      rotate_left 1
      · (intro w hSw; (try dsimp only at hSw); go_simp; try with_reducible rfl)
      try simp only [Act.put, List.setIfInBounds_toArray, List.set_cons_zero, List.set_cons_succ]
      refine wpAnyH_take (i := 4) (v := ?_) (by simp only [List.getElem?_toArray, List.getElem?_cons_succ, List.getElem?_cons_zero]; rfl) (by kernel_rfl) (by kernel_rfl) (by kernel_rfl) (by exact fun _ _ _ h => h) (Or.inl ⟨by rfl, ?_⟩) (by assumption) ?_
      rotate_left 1
      · (intro w hSw; (try dsimp only at hSw); go_simp; try with_reducible rfl)
      try simp only [Act.put, List.setIfInBounds_toArray, List.set_cons_zero, List.set_cons_succ]
      refine wpAnyH_ready (rs := [5, 6]) (by kernel_rfl) (by simp) ?_
      refine AllReadyH.cons (by simp only [List.getElem?_toArray, List.getElem?_cons_succ, List.getElem?_cons_zero]; rfl) (fun K hK => ?_) ?_
      · go_simp
        refine hK.out _ _ trivial (fun hHeld2 => ?_)
        clear hK K
        try simp only [Act.put, List.setIfInBounds_toArray, List.set_cons_zero, List.set_cons_succ]
        clear hHeld
        have hHeld := hHeld2
        clear hHeld2
        refine wpAnyH_ready (rs := [6]) (by kernel_rfl) (by simp) ?_
        refine AllReadyH.cons (by simp only [List.getElem?_toArray, List.getElem?_cons_succ, List.getElem?_cons_zero]; rfl) (fun K hK => ?_) AllReadyH.nil
        go_simp
        refine hK.out _ _ trivial (fun hHeld2 => ?_)
        clear hK K
        try simp only [Act.put, List.setIfInBounds_toArray, List.set_cons_zero, List.set_cons_succ]
        clear hHeld
        have hHeld := hHeld2
        clear hHeld2
        refine wpAnyH_ready (rs := [7]) (by kernel_rfl) (by simp) ?_
        refine AllReadyH.cons (by simp only [List.getElem?_toArray, List.getElem?_cons_succ, List.getElem?_cons_zero]; rfl) (fun K hK => ?_) AllReadyH.nil
        go_simp
        have HLa := Lib.hid (HL5.out.idle (((Only.refl (fun _ => False) w4).drew).alloc (.cells #[.int .i64 a, .int .i64 b_, .int .i64 c_] 59)))
        have q5 : (w4.alloc (.cells #[.int .i64 a, .int .i64 b_, .int .i64 c_] 59)).cell? ⟨b, 5, none⟩ = some (.slice at_ ts.length ct) := ((Only.refl (fun _ => False) w4).alloc _).cell q5 (fun h => h)
        refine hK.out _ _ trivial (fun hHeld2 => ?_)
        clear hK K
        try simp only [Act.put, List.setIfInBounds_toArray, List.set_cons_zero, List.set_cons_succ]
        clear hHeld
        have hHeld := hHeld2
        clear hHeld2
        refine wpAnyH_ready (rs := [8]) (by kernel_rfl) (by simp) ?_
        refine AllReadyH.cons (by simp only [List.getElem?_toArray, List.getElem?_cons_succ, List.getElem?_cons_zero]; rfl) (fun K hK => ?_) AllReadyH.nil
        (refine step_append_src rfl (.tmp 21) (.tmp 23) 23 rfl 59 i0 (.agg #[.int .i64 0, .int .i64 0, .int .i64 0]) 3 24 Tryz.underlying23 hi hz0 hz1 hz2 rfl (by decide) w.heap.size (.slice at_ ts.length ct) ts.length (ts.flatMap cellsF) rfl (by exact HLa.out.rg) (by exact HLa.out.ks.only.size) (.slice (some ⟨w4.heap.size, 0, none⟩) 1 1) 1 (cellsF ⟨a, b_, c_⟩) rfl (by exact Src.struct (w := w4.drew) (cellsF ⟨a, b_, c_⟩) rfl (by intro u hu; simp [cellsF] at hu; rcases hu with rfl | rfl | rfl <;> rfl) rfl) (by unfold maxLen; omega) (by omega) ?_; intro v' wz hown hgrow hnew; obtain ⟨av', cv', rfl, _, _⟩ := slice_of_owns hown)
        obtain ⟨hp, q5, f5⟩ := HLa.out.push NE.out hown hgrow hnew
        have HP := Lib.hid hp
        clear hown hgrow hnew hp
        refine hK.out _ _ trivial (fun hHeld2 => ?_)
        clear hK K
        try simp only [Act.put, List.setIfInBounds_toArray, List.set_cons_zero, List.set_cons_succ]
        clear hHeld
        have hHeld := hHeld2
        clear hHeld2
        refine wpAnyH_take (i := 9) (v := ?_) (by simp only [List.getElem?_toArray, List.getElem?_cons_succ, List.getElem?_cons_zero]; rfl) (by kernel_rfl) (by kernel_rfl) (by kernel_rfl) (by exact fun _ _ _ h => h) (Or.inl ⟨by rfl, ?_⟩) (by assumption) ?_
        rotate_left 1
        · (intro w hSw; (try dsimp only at hSw); go_simp; try with_reducible rfl)
        try simp only [Act.put, List.setIfInBounds_toArray, List.set_cons_zero, List.set_cons_succ]
        refine wpAnyH_take (i := 10) (v := ?_) (by simp only [List.getElem?_toArray, List.getElem?_cons_succ, List.getElem?_cons_zero]; rfl) (by kernel_rfl) (by kernel_rfl) (by kernel_rfl) (by exact fun _ _ _ h => h) (Or.inl ⟨by rfl, ?_⟩) (by assumption) ?_
        rotate_left 1
        · (intro w hSw; (try dsimp only at hSw); go_simp; try with_reducible rfl)
        try simp only [Act.put, List.setIfInBounds_toArray, List.set_cons_zero, List.set_cons_succ]
        refine wpAnyH_take (i := 11) (v := ?_) (by simp only [List.getElem?_toArray, List.getElem?_cons_succ, List.getElem?_cons_zero]; rfl) (by kernel_rfl) (by kernel_rfl) (by kernel_rfl) (by exact fun _ _ _ h => h) (Or.inl ⟨by rfl, ?_⟩) (by assumption) ?_
        rotate_left 1
        · (intro w hSw; (try dsimp only at hSw); go_simp; try with_reducible rfl)
        try simp only [Act.put, List.setIfInBounds_toArray, List.set_cons_zero, List.set_cons_succ]
        refine wpAnyH_ready (rs := [12]) (by kernel_rfl) (by simp) ?_
        refine AllReadyH.cons (by simp only [List.getElem?_toArray, List.getElem?_cons_succ, List.getElem?_cons_zero]; rfl) (fun K hK => ?_) AllReadyH.nil
        go_simp
        refine hK.out _ _ trivial (fun hHeld2 => ?_)
        clear hK K
        try simp only [Act.put, List.setIfInBounds_toArray, List.set_cons_zero, List.set_cons_succ]
        clear hHeld
        have hHeld := hHeld2
        clear hHeld2
        refine wpAnyH_done (by kernel_rfl) ?_ _
        clear hHeld
        go_wp2
        go_roundw
        case rel =>
          exact ⟨ts ++ [⟨a, b_, c_⟩], kk4, _, by simp, by simp; omega, HTO.out.more hlt T4.out, HP.out, fun t ht => by
            rcases List.mem_append.1 ht with ht | ht
            · exact HTR.out t ht
            · simp only [List.mem_cons, List.mem_nil_iff, or_false] at ht
              subst ht
              exact ⟨i64_short V1.out, i64_short V2.out, i64_short V3.out⟩⟩
        case measure => simp [intOf]; omega
      refine AllReadyH.cons (by simp only [List.getElem?_toArray, List.getElem?_cons_succ, List.getElem?_cons_zero]; rfl) (fun K hK => ?_) AllReadyH.nil
      go_simp
      refine hK.out _ _ trivial (fun hHeld2 => ?_)
      clear hK K
      try simp only [Act.put, List.setIfInBounds_toArray, List.set_cons_zero, List.set_cons_succ]
      clear hHeld
      have hHeld := hHeld2
      clear hHeld2
      refine wpAnyH_ready (rs := [5, 7]) (by kernel_rfl) (by simp) ?_
      refine AllReadyH.cons (by simp only [List.getElem?_toArray, List.getElem?_cons_succ, List.getElem?_cons_zero]; rfl) (fun K hK => ?_) ?_
      · go_simp
        refine hK.out _ _ trivial (fun hHeld2 => ?_)
        clear hK K
        try simp only [Act.put, List.setIfInBounds_toArray, List.set_cons_zero, List.set_cons_succ]
        clear hHeld
        have hHeld := hHeld2
        clear hHeld2
        refine wpAnyH_ready (rs := [7]) (by kernel_rfl) (by simp) ?_
        refine AllReadyH.cons (by simp only [List.getElem?_toArray, List.getElem?_cons_succ, List.getElem?_cons_zero]; rfl) (fun K hK => ?_) AllReadyH.nil
        go_simp
        have HLa := Lib.hid (HL5.out.idle (((Only.refl (fun _ => False) w4).drew).alloc (.cells #[.int .i64 a, .int .i64 b_, .int .i64 c_] 59)))
        have q5 : (w4.alloc (.cells #[.int .i64 a, .int .i64 b_, .int .i64 c_] 59)).cell? ⟨b, 5, none⟩ = some (.slice at_ ts.length ct) := ((Only.refl (fun _ => False) w4).alloc _).cell q5 (fun h => h)
        refine hK.out _ _ trivial (fun hHeld2 => ?_)
        clear hK K
        try simp only [Act.put, List.setIfInBounds_toArray, List.set_cons_zero, List.set_cons_succ]
        clear hHeld
        have hHeld := hHeld2
        clear hHeld2
        refine wpAnyH_ready (rs := [8]) (by kernel_rfl) (by simp) ?_
        refine AllReadyH.cons (by simp only [List.getElem?_toArray, List.getElem?_cons_succ, List.getElem?_cons_zero]; rfl) (fun K hK => ?_) AllReadyH.nil
        (refine step_append_src rfl (.tmp 21) (.tmp 23) 23 rfl 59 i0 (.agg #[.int .i64 0, .int .i64 0, .int .i64 0]) 3 24 Tryz.underlying23 hi hz0 hz1 hz2 rfl (by decide) w.heap.size (.slice at_ ts.length ct) ts.length (ts.flatMap cellsF) rfl (by exact HLa.out.rg) (by exact HLa.out.ks.only.size) (.slice (some ⟨w4.heap.size, 0, none⟩) 1 1) 1 (cellsF ⟨a, b_, c_⟩) rfl (by exact Src.struct (w := w4.drew) (cellsF ⟨a, b_, c_⟩) rfl (by intro u hu; simp [cellsF] at hu; rcases hu with rfl | rfl | rfl <;> rfl) rfl) (by unfold maxLen; omega) (by omega) ?_; intro v' wz hown hgrow hnew; obtain ⟨av', cv', rfl, _, _⟩ := slice_of_owns hown)
        obtain ⟨hp, q5, f5⟩ := HLa.out.push NE.out hown hgrow hnew
        have HP := Lib.hid hp
        clear hown hgrow hnew hp
        refine hK.out _ _ trivial (fun hHeld2 => ?_)
        clear hK K
        try simp only [Act.put, List.setIfInBounds_toArray, List.set_cons_zero, List.set_cons_succ]
        clear hHeld
        have hHeld := hHeld2
        clear hHeld2
        refine wpAnyH_take (i := 9) (v := ?_) (by simp only [List.getElem?_toArray, List.getElem?_cons_succ, List.getElem?_cons_zero]; rfl) (by kernel_rfl) (by kernel_rfl) (by kernel_rfl) (by exact fun _ _ _ h => h) (Or.inl ⟨by rfl, ?_⟩) (by assumption) ?_
        rotate_left 1
        · (intro w hSw; (try dsimp only at hSw); go_simp; try with_reducible rfl)
        try simp only [Act.put, List.setIfInBounds_toArray, List.set_cons_zero, List.set_cons_succ]
        refine wpAnyH_take (i := 10) (v := ?_) (by simp only [List.getElem?_toArray, List.getElem?_cons_succ, List.getElem?_cons_zero]; rfl) (by kernel_rfl) (by kernel_rfl) (by kernel_rfl) (by exact fun _ _ _ h => h) (Or.inl ⟨by rfl, ?_⟩) (by assumption) ?_
        rotate_left 1
        · (intro w hSw; (try dsimp only at hSw); go_simp; try with_reducible rfl)
        try simp only [Act.put, List.setIfInBounds_toArray, List.set_cons_zero, List.set_cons_succ]
        refine wpAnyH_take (i := 11) (v := ?_) (by simp only [List.getElem?_toArray, List.getElem?_cons_succ, List.getElem?_cons_zero]; rfl) (by kernel_rfl) (by kernel_rfl) (by kernel_rfl) (by exact fun _ _ _ h => h) (Or.inl ⟨by rfl, ?_⟩) (by assumption) ?_
        rotate_left 1
        · (intro w hSw; (try dsimp only at hSw); go_simp; try with_reducible rfl)
        try simp only [Act.put, List.setIfInBounds_toArray, List.set_cons_zero, List.set_cons_succ]
        refine wpAnyH_ready (rs := [12]) (by kernel_rfl) (by simp) ?_
        refine AllReadyH.cons (by simp only [List.getElem?_toArray, List.getElem?_cons_succ, List.getElem?_cons_zero]; rfl) (fun K hK => ?_) AllReadyH.nil
        go_simp
        refine hK.out _ _ trivial (fun hHeld2 => ?_)
        clear hK K
        try simp only [Act.put, List.setIfInBounds_toArray, List.set_cons_zero, List.set_cons_succ]
        clear hHeld
        have hHeld := hHeld2
        clear hHeld2
        refine wpAnyH_done (by kernel_rfl) ?_ _
        clear hHeld
        go_wp2
        go_roundw
        case rel =>
          exact ⟨ts ++ [⟨a, b_, c_⟩], kk4, _, by simp, by simp; omega, HTO.out.more hlt T4.out, HP.out, fun t ht => by
            rcases List.mem_append.1 ht with ht | ht
            · exact HTR.out t ht
            · simp only [List.mem_cons, List.mem_nil_iff, or_false] at ht
              subst ht
              exact ⟨i64_short V1.out, i64_short V2.out, i64_short V3.out⟩⟩
        case measure => simp [intOf]; omega
      refine AllReadyH.cons (by simp only [List.getElem?_toArray, List.getElem?_cons_succ, List.getElem?_cons_zero]; rfl) (fun K hK => ?_) AllReadyH.nil
      go_simp
      have HLa := Lib.hid (HL5.out.idle (((Only.refl (fun _ => False) w4).drew).alloc (.cells #[.int .i64 a, .int .i64 b_, .int .i64 c_] 59)))
      have q5 : (w4.alloc (.cells #[.int .i64 a, .int .i64 b_, .int .i64 c_] 59)).cell? ⟨b, 5, none⟩ = some (.slice at_ ts.length ct) := ((Only.refl (fun _ => False) w4).alloc _).cell q5 (fun h => h)
      refine hK.out _ _ trivial (fun hHeld2 => ?_)
      clear hK K
      try simp only [Act.put, List.setIfInBounds_toArray, List.set_cons_zero, List.set_cons_succ]
      clear hHeld
      have hHeld := hHeld2
      clear hHeld2
      refine wpAnyH_ready (rs := [5]) (by kernel_rfl) (by simp) ?_
      refine AllReadyH.cons (by simp only [List.getElem?_toArray, List.getElem?_cons_succ, List.getElem?_cons_zero]; rfl) (fun K hK => ?_) AllReadyH.nil
      go_simp
      refine hK.out _ _ trivial (fun hHeld2 => ?_)
      clear hK K
      try simp only [Act.put, List.setIfInBounds_toArray, List.set_cons_zero, List.set_cons_succ]
      clear hHeld
      have hHeld := hHeld2
      clear hHeld2
      refine wpAnyH_ready (rs := [8]) (by kernel_rfl) (by simp) ?_
      refine AllReadyH.cons (by simp only [List.getElem?_toArray, List.getElem?_cons_succ, List.getElem?_cons_zero]; rfl) (fun K hK => ?_) AllReadyH.nil
      (refine step_append_src rfl (.tmp 21) (.tmp 23) 23 rfl 59 i0 (.agg #[.int .i64 0, .int .i64 0, .int .i64 0]) 3 24 Tryz.underlying23 hi hz0 hz1 hz2 rfl (by decide) w.heap.size (.slice at_ ts.length ct) ts.length (ts.flatMap cellsF) rfl (by exact HLa.out.rg) (by exact HLa.out.ks.only.size) (.slice (some ⟨w4.heap.size, 0, none⟩) 1 1) 1 (cellsF ⟨a, b_, c_⟩) rfl (by exact Src.struct (w := w4.drew) (cellsF ⟨a, b_, c_⟩) rfl (by intro u hu; simp [cellsF] at hu; rcases hu with rfl | rfl | rfl <;> rfl) rfl) (by unfold maxLen; omega) (by omega) ?_; intro v' wz hown hgrow hnew; obtain ⟨av', cv', rfl, _, _⟩ := slice_of_owns hown)
      obtain ⟨hp, q5, f5⟩ := HLa.out.push NE.out hown hgrow hnew
      have HP := Lib.hid hp
      clear hown hgrow hnew hp
      refine hK.out _ _ trivial (fun hHeld2 => ?_)
      clear hK K
      try simp only [Act.put, List.setIfInBounds_toArray, List.set_cons_zero, List.set_cons_succ]
      clear hHeld
      have hHeld := hHeld2
      clear hHeld2
      refine wpAnyH_take (i := 9) (v := ?_) (by simp only [List.getElem?_toArray, List.getElem?_cons_succ, List.getElem?_cons_zero]; rfl) (by kernel_rfl) (by kernel_rfl) (by kernel_rfl) (by exact fun _ _ _ h => h) (Or.inl ⟨by rfl, ?_⟩) (by assumption) ?_
      rotate_left 1
      · (intro w hSw; (try dsimp only at hSw); go_simp; try with_reducible rfl)
      try simp only [Act.put, List.setIfInBounds_toArray, List.set_cons_zero, List.set_cons_succ]
      refine wpAnyH_take (i := 10) (v := ?_) (by simp only [List.getElem?_toArray, List.getElem?_cons_succ, List.getElem?_cons_zero]; rfl) (by kernel_rfl) (by kernel_rfl) (by kernel_rfl) (by exact fun _ _ _ h => h) (Or.inl ⟨by rfl, ?_⟩) (by assumption) ?_
      rotate_left 1
      · (intro w hSw; (try dsimp only at hSw); go_simp; try with_reducible rfl)
      try simp only [Act.put, List.setIfInBounds_toArray, List.set_cons_zero, List.set_cons_succ]
      refine wpAnyH_take (i := 11) (v := ?_) (by simp only [List.getElem?_toArray, List.getElem?_cons_succ, List.getElem?_cons_zero]; rfl) (by kernel_rfl) (by kernel_rfl) (by kernel_rfl) (by exact fun _ _ _ h => h) (Or.inl ⟨by rfl, ?_⟩) (by assumption) ?_
      rotate_left 1
      · (intro w hSw; (try dsimp only at hSw); go_simp; try with_reducible rfl)
      try simp only [Act.put, List.setIfInBounds_toArray, List.set_cons_zero, List.set_cons_succ]
      refine wpAnyH_ready (rs := [12]) (by kernel_rfl) (by simp) ?_
      refine AllReadyH.cons (by simp only [List.getElem?_toArray, List.getElem?_cons_succ, List.getElem?_cons_zero]; rfl) (fun K hK => ?_) AllReadyH.nil
      go_simp
      refine hK.out _ _ trivial (fun hHeld2 => ?_)
      clear hK K
      try simp only [Act.put, List.setIfInBounds_toArray, List.set_cons_zero, List.set_cons_succ]
      clear hHeld
      have hHeld := hHeld2
      clear hHeld2
      refine wpAnyH_done (by kernel_rfl) ?_ _
      clear hHeld
      go_wp2
      go_roundw
      case rel =>
        exact ⟨ts ++ [⟨a, b_, c_⟩], kk4, _, by simp, by simp; omega, HTO.out.more hlt T4.out, HP.out, fun t ht => by
          rcases List.mem_append.1 ht with ht | ht
          · exact HTR.out t ht
          · simp only [List.mem_cons, List.mem_nil_iff, or_false] at ht
            subst ht
            exact ⟨i64_short V1.out, i64_short V2.out, i64_short V3.out⟩⟩
      case measure => simp [intOf]; omega
    · have hnz : (mm : Int) ≤ (ts.length : Int) := by omega
      have C6 := Lib.hid (HC.out.trans (HTO.out.done (by omega)))
      clear HC HTO hi hz0 hz1 hz2
      go_wp2
      go_end0
      exact KTo.ok C6.out ⟨_, HL0.out, HTR.out⟩

/-- A list's block is none of a method's. -/
structure Off (mv vc vt vm : Value) : Prop where
  c : ∀ j, vc.ownBlock = some j → mv.ownBlock ≠ some j
  t : ∀ j, vt.ownBlock = some j → mv.ownBlock ≠ some j
  m : ∀ j, vm.ownBlock = some j → mv.ownBlock ≠ some j
theorem RowG.base {α : Type} {T : TypeId} {n : Nat} {cells : α → List Value} {w : World} {B B' : Nat} {v : Value} {l : List α} (h : RowG T n cells w B v l) (hb : B' ≤ B) : RowG T n cells w B' v l := owns_base h (fun k hk => Nat.le_trans hb (RowG.ge h k hk).1)
theorem MIn.base {w : World} {B B' : Nat} {m : MethodV} {vc vt vm : Value} (h : MIn w B m vc vt vm) (hb : B' ≤ B) : MIn w B' m vc vt vm :=
  ⟨h.code.base hb, h.byt, h.traps.base hb, h.tr, h.maps.base hb, h.byt2, h.r⟩
theorem MIn.only {S : Nat → Prop} {w w' : World} {B : Nat} {m : MethodV} {vc vt vm : Value} (h : MIn w B m vc vt vm) (ho : Only S w w') (hc : ∀ j, vc.ownBlock = some j → ¬ S j) (ht : ∀ j, vt.ownBlock = some j → ¬ S j) (hm : ∀ j, vm.ownBlock = some j → ¬ S j) : MIn w' B m vc vt vm :=
  ⟨h.code.only ho hc, h.byt, RowG.only h.traps ho ht, h.tr, h.maps.only ho hm, h.byt2, h.r⟩
/-- In the loop over the methods. -/
structure MS (w0 w : World) (b rb : Nat) (sv : Value) (zs : List Int) (k : Nat) (wv pv : Value) (cs : List ConstV) (th su : Int) (fv mv : Value) (ms : List (MethodV × Value × Value × Value)) : Prop where
  ks : KS w0 w b rb sv zs k pv cs #[.pointer (some ⟨rb, 0, none⟩), wv, pv, .int .i64 th, .int .i64 su, fv, mv]
  rg : RowG 62 8 cellsM w w0.heap.size mv ms
  ins : ∀ x ∈ ms, MethodR x.1 ∧ MIn w w0.heap.size x.1 x.2.1 x.2.2.1 x.2.2.2 ∧ Off mv x.2.1 x.2.2.1 x.2.2.2
section
variable {w0 w w' : World} {b rb : Nat} {sv : Value} {zs : List Int} {k k' : Nat} {wv pv : Value} {cs : List ConstV} {th su : Int} {mv fv : Value} {ms : List (MethodV × Value × Value × Value)}
theorem MS.read (h : MS w0 w b rb sv zs k wv pv cs th su fv mv ms) (ne : Ap2 b rb sv pv w0.heap.size) (ho : Only (fun j => j = rb) w w') (hr : Rd w' rb sv zs k') : MS w0 w' b rb sv zs k' wv pv cs th su fv mv ms :=
  ⟨h.ks.read ne ho hr, h.rg.keep ho (fun j hj => by subst hj; exact ne.rbn), fun x hx => ⟨(h.ins x hx).1, (h.ins x hx).2.1.keep ho (fun j hj => by subst hj; exact ne.rbn), (h.ins x hx).2.2⟩⟩
theorem MS.idle (h : MS w0 w b rb sv zs k wv pv cs th su fv mv ms) (ho : Only (fun _ => False) w w') : MS w0 w' b rb sv zs k wv pv cs th su fv mv ms :=
  ⟨h.ks.idle ho, RowG.only h.rg ho (fun _ _ h => h), fun x hx => ⟨(h.ins x hx).1, (h.ins x hx).2.1.keep ho (fun j hj => hj.elim), (h.ins x hx).2.2⟩⟩
/-- What a method's own reading leaves of the list so far: mb is new. -/
theorem MS.over {mb : Nat} {mc : Array Value} (h : MS w0 w b rb sv zs k wv pv cs th su fv mv ms) (ne : Ap2 b rb sv pv w0.heap.size) (hmb : w.heap.size = mb) (hr : RS w w' b rb mb sv zs k' pv cs mc) : MS w0 w' b rb sv zs k' wv pv cs th su fv mv ms := by
  have ho := hr.only
  have far : ∀ {u : Value} {j : Nat}, (w0.heap.size ≤ j ∧ j < w.heap.size) → ¬ (j = rb ∨ j = mb) := fun hj e => by
    have := ne.rbn
    rcases e with rfl | rfl <;> omega
  refine ⟨⟨hr.rd, ho.heap h.ks.blk (fun e => ?_), hr.pool, h.ks.only.trans ho (fun i hi hl => ?_)⟩, RowG.only h.rg ho (fun j hj => far (u := mv) (RowG.ge h.rg j hj)), fun x hx => ?_⟩
  · have := ne.bn
    have := h.ks.only.size
    rcases e with e | e
    · exact ne.brb e
    · omega
  · rcases hi with rfl | rfl
    · exact .inl rfl
    · have := h.ks.only.size; omega
  · obtain ⟨h1, h2, h3⟩ := h.ins x hx
    exact ⟨h1, h2.only ho (fun j hj => far (u := mv) (h2.code.ge j hj)) (fun j hj => far (u := mv) (RowG.ge h2.traps j hj)) (fun j hj => far (u := mv) (h2.maps.ge j hj)), h3⟩
theorem MS.push {w1 : World} {v' : Value} {t : MethodV × Value × Value × Value} (h : MS w0 w b rb sv zs k wv pv cs th su fv mv ms) (ne : Ap2 b rb sv pv w0.heap.size) (ht : MethodR t.1 ∧ MIn w w0.heap.size t.1 t.2.1 t.2.2.1 t.2.2.2 ∧ Off mv t.2.1 t.2.2.1 t.2.2.2)
    (hown : w1.ownsRow w0.heap.size 62 8 v' (ms.length + 1) (ms.flatMap cellsM ++ cellsM t)) (hg : w.grownBy w1 mv.ownBlock) (hn : ∀ k, v'.ownBlock = some k → mv.ownBlock = some k ∨ w.heap.size ≤ k) :
    MS w0 (w1.setCell ⟨b, 6, none⟩ v') b rb sv zs k wv pv cs th su fv v' (ms ++ [t]) ∧ w1.cell? ⟨b, 6, none⟩ = some mv ∧ w1.frozen? ⟨b, 6, none⟩ = false := by
  obtain ⟨hk, ho⟩ := h.ks.grown ne (fun j hj => (RowG.ge h.rg j hj).1) hg
  have ho2 := (Only.refl (fun j => j = b) w1).setCell (p := ⟨b, 6, none⟩) (fun _ => rfl) v'
  have hS : ∀ j, (fun j => j = b) j → j < w0.heap.size := fun j hj => by subst hj; exact ne.bn
  refine ⟨⟨hk.store ne 6 v', (RowG.more hown).keep ho2 hS, fun x hx => ?_⟩, by rw [cell_blk hk.blk 6]; rfl, frozen_blk hk.blk 6⟩
  have hx' : MethodR x.1 ∧ MIn w w0.heap.size x.1 x.2.1 x.2.2.1 x.2.2.2 ∧ Off mv x.2.1 x.2.2.1 x.2.2.2 := by
    rcases List.mem_append.1 hx with hx | hx
    · exact h.ins x hx
    · simp only [List.mem_cons, List.mem_nil_iff, or_false] at hx
      subst hx
      exact ht
  obtain ⟨h1, h2, h3⟩ := hx'
  refine ⟨h1, (h2.only ho h3.c h3.t h3.m).keep ho2 hS, ⟨fun j hj e => ?_, fun j hj e => ?_, fun j hj e => ?_⟩⟩
  · rcases hn j e with e1 | e1
    · exact h3.c j hj e1
    · have := (h2.code.ge j hj).2; omega
  · rcases hn j e with e1 | e1
    · exact h3.t j hj e1
    · have := (RowG.ge h2.traps j hj).2; omega
  · rcases hn j e with e1 | e1
    · exact h3.m j hj e1
    · have := (h2.maps.ge j hj).2; omega
end
theorem RS.trans {w0 w w' : World} {b rb mb : Nat} {sv : Value} {zs : List Int} {k k' : Nat} {pv : Value} {cs : List ConstV} {mc mc' : Array Value} (h : RS w0 w b rb mb sv zs k pv cs mc) (h2 : RS w w' b rb mb sv zs k' pv cs mc') : RS w0 w' b rb mb sv zs k' pv cs mc' :=
  ⟨h2.rd, h2.q0, h2.q2, h2.pool, h2.blk, h.only.trans h2.only (fun _ h _ => h)⟩

set_option maxHeartbeats 16000000 in
set_option maxRecDepth 100000 in
theorem readMethods (b rb : Nat) (sv : Value) (zs : List Int) (k : Nat) (w : World) (wv : Value) (ap : Option Addr) (np cp : Nat) (cs : List ConstV) (th su : Int) (fv : Value) (h : KS w w b rb sv zs k (.slice ap np cp) cs #[.pointer (some ⟨rb, 0, none⟩), wv, .slice ap np cp, .int .i64 th, .int .i64 su, fv, .slice none 0 0]) (ne : Ap2 b rb sv (.slice ap np cp) w.heap.size) :
    Calls Tryz.prog 61 #[.pointer (some ⟨b, 0, none⟩)] w (KTo w b rb (fun ms k' w' => ∃ mv xs, ms = xs.map (·.1) ∧ MS w w' b rb sv zs k' wv (.slice ap np cp) cs th su fv mv xs) (methodsP cs zs k)) := by
  obtain ⟨i0, hi, hz0, hz1, hz2⟩ := info_parts info_method
  have HZ := Lib.hid h.rd.byt
  have HLIM := Lib.hid h.rd.lim
  have NE := Lib.hid ne
  have H0 := Lib.hid h
  clear h ne
  go_enter Tryz.func61, Tryz.ntmps61
  go_wp2_with (fail)
  refine (readMembers b rb sv zs k w H0.out.rd (cell_blk H0.out.blk 0)).mono ?_
  rintro e w1 ⟨⟨m, k1, hx, rfl, hr⟩ | ⟨x, hx, rfl⟩, ho⟩
  rotate_left
  · exact ⟨rfl, KTo.no (show methodsP cs zs k = .error x from bindP_error hx) (H0.out.then ho)⟩
  have HC := Lib.hid (show methodsP cs zs k = _ from bindP_ok hx)
  obtain ⟨m0, m1⟩ := countP_val HZ.out hx
  obtain ⟨mm, rfl⟩ : ∃ mm : Nat, m = mm := ⟨m.toNat, by omega⟩
  have H1 := Lib.hid (show MS w w1 b rb sv zs k1 wv (.slice ap np cp) cs th su fv (.slice none 0 0) [] from ⟨H0.out.read NE.out ho hr, RowG.nil _ _, fun x hx => by cases hx⟩)
  clear hx hr ho H0 m0
  go_wp2
  go_loopw [7] (fun i wr => ∃ (ts : List (MethodV × Value × Value × Value)) (kk : Nat) (mv : Value), i = .int .i64 ts.length ∧ ts.length ≤ mm ∧ ListTo (methodP cs) mm zs k1 (ts.map (·.1)) kk ∧ MS w wr b rb sv zs kk wv (.slice ap np cp) cs th su fv mv ts) (fun i _ => mm - (intOf i).toNat)
  case atStart => exact ⟨[], k1, _, rfl, Nat.zero_le _, .start, H1.out⟩
  case round =>
    obtain ⟨ts, kk, mv, rfl, hle, hto, hl⟩ := hrel
    obtain ⟨at_, ct, rfl, _, _⟩ := slice_of_owns hl.rg
    have HTO := Lib.hid hto
    have HL0 := Lib.hid hl
    clear hto hl H1
    by_cases hlt : ts.length < mm
    · have hltz : (ts.length : Int) < (mm : Int) := by omega
      have HLT := Lib.hid (show (ts.map (·.1)).length < mm by rw [List.length_map]; exact hlt)
      go_wp2_with (fail)
      refine (readShort b rb sv zs _ _ HL0.out.ks.rd (cell_blk HL0.out.ks.blk 0)).mono ?_
      rintro e w1 ⟨⟨fl, kk1, hx, rfl, hr⟩ | ⟨x, hx, rfl⟩, ho⟩
      rotate_left
      · exact ⟨rfl, KTo.no (HC.out.trans (HTO.out.fail HLT.out ((bindP_error hx)))) (HL0.out.ks.then ho)⟩
      have T1 := Lib.hid (show methodP cs zs kk = _ from (bindP_ok hx))
      have V1 := Lib.hid (numP_val zs _ HZ.out hx)
      have HL1 := Lib.hid (HL0.out.read NE.out ho hr)
      clear hx hr ho
      go_wp2_with (fail)
      refine (readShort b rb sv zs _ _ HL1.out.ks.rd (cell_blk HL1.out.ks.blk 0)).mono ?_
      rintro e w2 ⟨⟨nm, kk2, hx, rfl, hr⟩ | ⟨x, hx, rfl⟩, ho⟩
      rotate_left
      · exact ⟨rfl, KTo.no (HC.out.trans (HTO.out.fail HLT.out (T1.out.trans (bindP_error hx)))) (HL1.out.ks.then ho)⟩
      have T2 := Lib.hid (T1.out.trans (bindP_ok hx))
      have V2 := Lib.hid (numP_val zs _ HZ.out hx)
      have HL2 := Lib.hid (HL1.out.read NE.out ho hr)
      clear hx hr ho T1
      go_wp2_with (fail)
      refine (readShort b rb sv zs _ _ HL2.out.ks.rd (cell_blk HL2.out.ks.blk 0)).mono ?_
      rintro e w3 ⟨⟨ds, kk3, hx, rfl, hr⟩ | ⟨x, hx, rfl⟩, ho⟩
      rotate_left
      · exact ⟨rfl, KTo.no (HC.out.trans (HTO.out.fail HLT.out (T2.out.trans (bindP_error hx)))) (HL2.out.ks.then ho)⟩
      have T3 := Lib.hid (T2.out.trans (bindP_ok hx))
      have V3 := Lib.hid (numP_val zs _ HZ.out hx)
      have HL3 := Lib.hid (HL2.out.read NE.out ho hr)
      clear hx hr ho T2
      obtain ⟨mb, hmb⟩ : ∃ mb, w3.heap.size = mb := ⟨_, rfl⟩
      have ho3 := (Only.refl (fun j => j = rb ∨ j = mb) w3).alloc (.cells #[.int .i64 fl, .int .i64 nm, .int .i64 ds, .int .i64 0, .int .i64 0, .slice none 0 0, .slice none 0 0, .slice none 0 0] 62)
      have hob := (Only.refl (fun _ => False) w3).alloc (.cells #[.int .i64 fl, .int .i64 nm, .int .i64 ds, .int .i64 0, .int .i64 0, .slice none 0 0, .slice none 0 0, .slice none 0 0] 62)
      have hb3 := heap_alloc_new w3 (.cells #[.int .i64 fl, .int .i64 nm, .int .i64 ds, .int .i64 0, .int .i64 0, .slice none 0 0, .slice none 0 0, .slice none 0 0] 62)
      rw [hmb] at hb3
      have hk3 := HL3.out.ks.idle hob
      have hs3 : mb < (w3.alloc (.cells #[.int .i64 fl, .int .i64 nm, .int .i64 ds, .int .i64 0, .int .i64 0, .slice none 0 0, .slice none 0 0, .slice none 0 0] 62)).heap.size := heap_lt hb3
      have hws : w.heap.size ≤ mb := by rw [← hmb]; exact HL3.out.ks.only.size
      have HR4 := Lib.hid (show RS w3 (w3.alloc (.cells #[.int .i64 fl, .int .i64 nm, .int .i64 ds, .int .i64 0, .int .i64 0, .slice none 0 0, .slice none 0 0, .slice none 0 0] 62)) b rb mb sv zs kk3 (.slice ap np cp) cs #[.int .i64 fl, .int .i64 nm, .int .i64 ds, .int .i64 0, .int .i64 0, .slice none 0 0, .slice none 0 0, .slice none 0 0] from
        ⟨hk3.rd, by rw [cell_blk hk3.blk 0]; rfl, by rw [cell_blk hk3.blk 2]; rfl, hk3.pool, hb3, ho3⟩)
      have NEM := Lib.hid (show ∀ N, mb < N → Aparts b rb mb sv (.slice ap np cp) N from fun N hN =>
        ⟨NE.out.brb, fun e => by have := NE.out.bn; omega, fun e => by have := NE.out.rbn; omega, NE.out.prb, fun j hj e => by have := NE.out.pn j hj; omega, fun j hj e => by have := NE.out.sn j hj; omega, by have := NE.out.rbn; omega, hN⟩)
      have HMB := Lib.hid hmb
      have HS3 := Lib.hid hs3
      have HWS := Lib.hid hws
      clear ho3 hob hb3 hk3 hs3 hws
      go_wp2_with (fail)
      try rw [hmb]
      clear hmb
      generalize w3.alloc (.cells #[.int .i64 fl, .int .i64 nm, .int .i64 ds, .int .i64 0, .int .i64 0, .slice none 0 0, .slice none 0 0, .slice none 0 0] 62) = w4 at *
      have HTH := Lib.hid (show ∀ u : World, Only (fun j => j = rb ∨ j = mb) w3 u → Only (fun j => j = rb ∨ j = b) w u from fun u hu => HL3.out.ks.only.trans hu (fun i hi hl => by
        rcases hi with hi | hi
        · exact .inl hi
        · have := HWS.out; omega))
      refine (readFixed b rb sv zs _ _ 2 (by decide) (by decide) 1 HR4.out.rd HR4.out.q0).mono ?_
      rintro e w5 ⟨⟨_, kk5, hx, rfl, hr⟩ | ⟨x, hx, rfl⟩, ho⟩
      rotate_left
      · exact ⟨rfl, KTo.no (HC.out.trans (HTO.out.fail HLT.out (T3.out.trans (bindP_error hx)))) (HTH.out _ (HR4.out.then ho))⟩
      have T4 := Lib.hid (T3.out.trans (bindP_ok hx))
      have HR5 := Lib.hid (HR4.out.read (NEM.out _ HS3.out) ho hr)
      clear hx hr ho HR4 T3
      go_wp2_with (fail)
      refine (readText5 b rb sv zs _ _ ap np cp cs codeT (by decide) HR5.out.rd HR5.out.q0 HR5.out.q2 HR5.out.pool NE.out.brb NE.out.prb).mono ?_
      rintro e w6 ⟨⟨_, kk6, hx, rfl, hr⟩ | ⟨x, hx, rfl⟩, ho⟩
      rotate_left
      · exact ⟨rfl, KTo.no (HC.out.trans (HTO.out.fail HLT.out (T4.out.trans (bindP_error hx)))) (HTH.out _ (HR5.out.then ho))⟩
      have T5 := Lib.hid (T4.out.trans (bindP_ok hx))
      have HR6 := Lib.hid (HR5.out.read (NEM.out _ HS3.out) ho hr)
      clear hx hr ho HR5 T4
      go_wp2_with (fail)
      refine (readNumber b rb sv zs _ _ 4 (by decide) (by decide) HR6.out.rd HR6.out.q0).mono ?_
      rintro e w7 ⟨⟨size, kk7, hx, rfl, hr⟩ | ⟨x, hx, rfl⟩, ho⟩
      rotate_left
      · exact ⟨rfl, KTo.no (HC.out.trans (HTO.out.fail HLT.out (T5.out.trans (bindP_error hx)))) (HTH.out _ (HR6.out.then ho))⟩
      have T6 := Lib.hid (T5.out.trans (bindP_ok hx))
      have T7 := Lib.hid (T6.out.trans (bindP_ok (show atP zs kk7 = .ok (kk7, kk7) from rfl)))
      have HR7 := Lib.hid (HR6.out.read (NEM.out _ HS3.out) ho hr)
      have q0 := HR7.out.q0
      clear hx hr ho HR6 T5 T6
      go_wp2_with (fail)
      refine (rdAtM rb sv zs kk7 w7 HR7.out.rd).mono ?_
      rintro e w7' ⟨rfl, rfl⟩
      have hs7 : mb < w7.heap.size := heap_lt HR7.out.blk
      have hst : RS w7 w7 b rb mb sv zs kk7 (.slice ap np cp) cs _ := ⟨HR7.out.rd, HR7.out.q0, HR7.out.q2, HR7.out.pool, HR7.out.blk, Only.refl _ _⟩
      have cC := readCode b rb mb sv zs kk7 w7 ap np cp cs fl nm ds hst (NEM.out _ hs7) (fun j hj => by have := NE.out.pn j hj; have := HWS.out; omega) (by have := NE.out.bn; have := HWS.out; omega)
      have CC := Lib.hid cC
      clear cC hst hs7 q0
      go_wp2_with (fail)
      refine CC.out.mono ?_
      rintro e w8 (⟨⟨fl', nm', ds', st, lo, code, traps, maps⟩, kk8, vc, vt, vm, hx, rfl, e1, e2, e3, hrs, hin⟩ | ⟨x, hx, rfl, ho⟩)
      rotate_left
      · exact ⟨rfl, KTo.no (HC.out.trans (HTO.out.fail HLT.out (T7.out.trans (bindP_error hx)))) (HTH.out _ (HR7.out.only.trans ho (fun _ h _ => h)))⟩
      simp only at e1 e2 e3 hrs
      subst e1 e2 e3
      have T8 := Lib.hid (T7.out.trans (bindP_ok hx))
      have T9 := Lib.hid (T8.out.trans (bindP_ok (show atP zs kk8 = .ok (kk8, kk8) from rfl)))
      have hk78 := ((Good.code cs fl' nm' ds').up _ _ _ _ hx).1
      have hk8 := hrs.rd.le
      have HR8 := Lib.hid (HR7.out.trans hrs)
      have HS7 := Lib.hid hrs.only.size
      have HIN := Lib.hid (hin.base (show w.heap.size ≤ w7.heap.size from by have := HWS.out; have := HMB.out; have := HR7.out.only.size; omega))
      obtain ⟨ac, cc, rfl, _, _⟩ := slice_of_owns hin.code
      obtain ⟨at2, ct2, rfl, _, _⟩ := slice_of_owns hin.traps
      obtain ⟨am, cm, rfl, _, _⟩ := slice_of_owns hin.maps
      have OFF := Lib.hid (show Off (.slice at_ ts.length ct) (.slice ac code.length cc) (.slice at2 traps.length ct2) (.slice am maps.length cm) from by
        have hlow : ∀ j, (Value.slice at_ ts.length ct).ownBlock = some j → j < w7.heap.size := fun j hj => by
          have := (RowG.ge HL3.out.rg j hj).2
          have := HR7.out.only.size
          omega
        exact ⟨fun j hj e => by have := (hin.code.ge j hj).1; have := hlow j e; omega, fun j hj e => by have := (RowG.ge hin.traps j hj).1; have := hlow j e; omega, fun j hj e => by have := (hin.maps.ge j hj).1; have := hlow j e; omega⟩)
      have q0 := HR8.out.q0
      have hlim := HLIM.out
      have hw1 : IntKind.i64.wrap ((kk8 : Int) - (kk7 : Int)) = (kk8 : Int) - (kk7 : Int) := IntWalk.i64_in _ (by omega)
      have hw2 : IntKind.u64.wrap ((kk8 : Int) - (kk7 : Int)) = (kk8 : Int) - (kk7 : Int) := by rw [wrapU]; omega
      clear hx hrs hin HR7 T7 T8 CC hk78 hk8 hlim
      go_wp2_with (fail)
      refine (rdAtM rb sv zs kk8 w8 HR8.out.rd).mono ?_
      rintro e w8' ⟨rfl, rfl⟩
      by_cases hsz : (kk8 : Int) - (kk7 : Int) = size
      rotate_left
      · have hszb : ((kk8 : Int) - (kk7 : Int) == size) = false := by simpa using hsz
        have TE := Lib.hid (T9.out.trans (bindP_error (show mustP (decide ((kk8 : Int) - (kk7 : Int) = size)) zs kk8 = .error 50 from by unfold mustP; rw [if_neg (by simpa using hsz)])))
        clear q0
        go_wp2_with (fail)
        refine (mustF _).mono ?_
        rintro e w9 ⟨rfl, rfl⟩
        exact ⟨rfl, KTo.no (HC.out.trans (HTO.out.fail HLT.out TE.out)) (HTH.out _ HR8.out.only)⟩
      · have TO := Lib.hid (T9.out.trans (bindP_ok (show mustP (decide ((kk8 : Int) - (kk7 : Int) = size)) zs kk8 = .ok ((), kk8) from by unfold mustP; rw [if_pos (by simpa using hsz)])))
        subst hsz
        clear q0 T9
        go_wp2_with (fail)
        refine (mustT _).mono ?_
        rintro e w9 ⟨rfl, rfl⟩
        clear hw1 hw2
        have HTO2 := Lib.hid (show ListTo (methodP cs) mm zs k1 ((ts ++ [((⟨fl', nm', ds', st, lo, code, traps, maps⟩, .slice ac code.length cc, .slice at2 traps.length ct2, .slice am maps.length cm) : MethodV × Value × Value × Value)]).map (·.1)) kk8 from by rw [List.map_append]; exact HTO.out.more HLT.out TO.out)
        have HLm := Lib.hid (HL3.out.over NE.out HMB.out HR8.out)
        have HMR := Lib.hid (show MethodR (⟨fl', nm', ds', st, lo, code, traps, maps⟩ : MethodV) ∧ MIn w8 w.heap.size ⟨fl', nm', ds', st, lo, code, traps, maps⟩ (.slice ac code.length cc) (.slice at2 traps.length ct2) (.slice am maps.length cm) ∧ Off (.slice at_ ts.length ct) (.slice ac code.length cc) (.slice at2 traps.length ct2) (.slice am maps.length cm) from
          ⟨⟨i64_short V1.out, i64_short V2.out, i64_short V3.out, HIN.out.r.1, HIN.out.r.2⟩, HIN.out, OFF.out⟩)
        have hb8 := HR8.out.blk
        have q0 := cell_blk hb8 0
        have q1 := cell_blk hb8 1
        have q2 := cell_blk hb8 2
        have q3 := cell_blk hb8 3
        have q4 := cell_blk hb8 4
        have q5 := cell_blk hb8 5
        have q7 := cell_blk hb8 6
        have q8 := cell_blk hb8 7
        have q6 := cell_blk HLm.out.ks.blk 6
        simp at q0 q1 q2 q3 q4 q5 q6 q7 q8
        clear hb8 HR8 TO HTO HL3 HL0 HIN OFF HTH NEM HMB HS3 HS7 HWS HLT HLIM
        go_wp2_with (fail)
        refine wp_region_held_drew (S := fun _ => True) (by kernel_rfl) trivial (fun hHeld => ?_)
        refine wpAnyH_take (i := 0) (v := ?_) (by simp only [List.getElem?_toArray, List.getElem?_cons_succ, List.getElem?_cons_zero]; rfl) (by kernel_rfl) (by kernel_rfl) (by kernel_rfl) (by exact fun _ _ _ h => h) (Or.inl ⟨by rfl, ?_⟩) (by assumption) ?_
        rotate_left 1
        · (intro w hSw; (try dsimp only at hSw); go_simp; try with_reducible rfl)
        try simp only [Act.put, List.setIfInBounds_toArray, List.set_cons_zero, List.set_cons_succ]
        refine wpAnyH_take (i := 1) (v := ?_) (by simp only [List.getElem?_toArray, List.getElem?_cons_succ, List.getElem?_cons_zero]; rfl) (by kernel_rfl) (by kernel_rfl) (by kernel_rfl) (by exact fun _ _ _ h => h) (Or.inl ⟨by rfl, ?_⟩) (by assumption) ?_
        rotate_left 1
        · (intro w hSw; (try dsimp only at hSw); go_simp; try with_reducible rfl)
        try simp only [Act.put, List.setIfInBounds_toArray, List.set_cons_zero, List.set_cons_succ]
        refine wpAnyH_take (i := 2) (v := ?_) (by simp only [List.getElem?_toArray, List.getElem?_cons_succ, List.getElem?_cons_zero]; rfl) (by kernel_rfl) (by kernel_rfl) (by kernel_rfl) (by exact fun _ _ _ h => h) (Or.inl ⟨by rfl, ?_⟩) (by assumption) ?_
        rotate_left 1
        · (intro w hSw; (try dsimp only at hSw); go_simp; try with_reducible rfl)
        try simp only [Act.put, List.setIfInBounds_toArray, List.set_cons_zero, List.set_cons_succ]
        refine wpAnyH_take (i := 3) (v := ?_) (by simp only [List.getElem?_toArray, List.getElem?_cons_succ, List.getElem?_cons_zero]; rfl) (by kernel_rfl) (by kernel_rfl) (by kernel_rfl) (by exact fun _ _ _ h => h) (Or.inl ⟨by rfl, ?_⟩) (by assumption) ?_
        rotate_left 1
        · (intro w hSw; (try dsimp only at hSw); go_simp; try with_reducible rfl)
        try simp only [Act.put, List.setIfInBounds_toArray, List.set_cons_zero, List.set_cons_succ]
        refine wpAnyH_take (i := 4) (v := ?_) (by simp only [List.getElem?_toArray, List.getElem?_cons_succ, List.getElem?_cons_zero]; rfl) (by kernel_rfl) (by kernel_rfl) (by kernel_rfl) (by exact fun _ _ _ h => h) (Or.inl ⟨by rfl, ?_⟩) (by assumption) ?_
        rotate_left 1
        · (intro w hSw; (try dsimp only at hSw); go_simp; try with_reducible rfl)
        try simp only [Act.put, List.setIfInBounds_toArray, List.set_cons_zero, List.set_cons_succ]
        refine wpAnyH_ready (rs := [5, 6]) (by kernel_rfl) (by simp) ?_
        refine AllReadyH.cons (by simp only [List.getElem?_toArray, List.getElem?_cons_succ, List.getElem?_cons_zero]; rfl) (fun K hK => ?_) ?_
        · go_simp
          refine hK.out _ _ trivial (fun hHeld2 => ?_)
          clear hK K
          try simp only [Act.put, List.setIfInBounds_toArray, List.set_cons_zero, List.set_cons_succ]
          clear hHeld
          have hHeld := hHeld2
          clear hHeld2
          refine wpAnyH_ready (rs := [6]) (by kernel_rfl) (by simp) ?_
          refine AllReadyH.cons (by simp only [List.getElem?_toArray, List.getElem?_cons_succ, List.getElem?_cons_zero]; rfl) (fun K hK => ?_) AllReadyH.nil
          go_simp
          refine hK.out _ _ trivial (fun hHeld2 => ?_)
          clear hK K
          try simp only [Act.put, List.setIfInBounds_toArray, List.set_cons_zero, List.set_cons_succ]
          clear hHeld
          have hHeld := hHeld2
          clear hHeld2
          refine wpAnyH_ready (rs := [7]) (by kernel_rfl) (by simp) ?_
          refine AllReadyH.cons (by simp only [List.getElem?_toArray, List.getElem?_cons_succ, List.getElem?_cons_zero]; rfl) (fun K hK => ?_) AllReadyH.nil
          go_simp
          have HLa := Lib.hid (HLm.out.idle (((Only.refl (fun _ => False) w8).drew).alloc (.cells #[.int .i64 fl', .int .i64 nm', .int .i64 ds', .int .i64 st, .int .i64 lo, .slice ac code.length cc, .slice at2 traps.length ct2, .slice am maps.length cm] 62)))
          have HMa := Lib.hid (And.intro HMR.out.1 (And.intro (HMR.out.2.1.keep (((Only.refl (fun _ => False) w8).drew).alloc (.cells #[.int .i64 fl', .int .i64 nm', .int .i64 ds', .int .i64 st, .int .i64 lo, .slice ac code.length cc, .slice at2 traps.length ct2, .slice am maps.length cm] 62)) (fun j hj => hj.elim)) HMR.out.2.2)); have q6 : (w8.alloc (.cells #[.int .i64 fl', .int .i64 nm', .int .i64 ds', .int .i64 st, .int .i64 lo, .slice ac code.length cc, .slice at2 traps.length ct2, .slice am maps.length cm] 62)).cell? ⟨b, 6, none⟩ = some (.slice at_ ts.length ct) := ((Only.refl (fun _ => False) w8).alloc _).cell q6 (fun h => h)
          refine hK.out _ _ trivial (fun hHeld2 => ?_)
          clear hK K
          try simp only [Act.put, List.setIfInBounds_toArray, List.set_cons_zero, List.set_cons_succ]
          clear hHeld
          have hHeld := hHeld2
          clear hHeld2
          refine wpAnyH_ready (rs := [8]) (by kernel_rfl) (by simp) ?_
          refine AllReadyH.cons (by simp only [List.getElem?_toArray, List.getElem?_cons_succ, List.getElem?_cons_zero]; rfl) (fun K hK => ?_) AllReadyH.nil
          (refine step_append_src rfl (.tmp 45) (.tmp 47) 24 rfl 62 i0 (.agg #[.int .i64 0, .int .i64 0, .int .i64 0, .int .i64 0, .int .i64 0, .slice none 0 0, .slice none 0 0, .slice none 0 0]) 8 112 Tryz.underlying24 hi hz0 hz1 hz2 rfl (by decide) w.heap.size (.slice at_ ts.length ct) ts.length (ts.flatMap cellsM) rfl (by exact HLa.out.rg) (by exact HLa.out.ks.only.size) (.slice (some ⟨w8.heap.size, 0, none⟩) 1 1) 1 (cellsM (⟨fl', nm', ds', st, lo, code, traps, maps⟩, .slice ac code.length cc, .slice at2 traps.length ct2, .slice am maps.length cm)) rfl (by exact Src.struct (w := w8.drew) (cellsM (⟨fl', nm', ds', st, lo, code, traps, maps⟩, .slice ac code.length cc, .slice at2 traps.length ct2, .slice am maps.length cm)) rfl (by intro u hu; simp [cellsM] at hu; rcases hu with rfl | rfl | rfl | rfl | rfl | rfl | rfl | rfl <;> rfl) rfl) (by unfold maxLen; omega) (by omega) ?_; intro v' wz hown hgrow hnew; obtain ⟨av', cv', rfl, _, _⟩ := slice_of_owns hown)
          obtain ⟨hp, q6, f6⟩ := HLa.out.push NE.out (HMa.out) hown hgrow hnew
          have HP := Lib.hid hp
          clear hown hgrow hnew hp
          refine hK.out _ _ trivial (fun hHeld2 => ?_)
          clear hK K
          try simp only [Act.put, List.setIfInBounds_toArray, List.set_cons_zero, List.set_cons_succ]
          clear hHeld
          have hHeld := hHeld2
          clear hHeld2
          refine wpAnyH_take (i := 9) (v := ?_) (by simp only [List.getElem?_toArray, List.getElem?_cons_succ, List.getElem?_cons_zero]; rfl) (by kernel_rfl) (by kernel_rfl) (by kernel_rfl) (by exact fun _ _ _ h => h) (Or.inl ⟨by rfl, ?_⟩) (by assumption) ?_
          rotate_left 1
          · (intro w hSw; (try dsimp only at hSw); go_simp; try with_reducible rfl)
          try simp only [Act.put, List.setIfInBounds_toArray, List.set_cons_zero, List.set_cons_succ]
          refine wpAnyH_take (i := 10) (v := ?_) (by simp only [List.getElem?_toArray, List.getElem?_cons_succ, List.getElem?_cons_zero]; rfl) (by kernel_rfl) (by kernel_rfl) (by kernel_rfl) (by exact fun _ _ _ h => h) (Or.inl ⟨by rfl, ?_⟩) (by assumption) ?_
          rotate_left 1
          · (intro w hSw; (try dsimp only at hSw); go_simp; try with_reducible rfl)
          try simp only [Act.put, List.setIfInBounds_toArray, List.set_cons_zero, List.set_cons_succ]
          refine wpAnyH_take (i := 11) (v := ?_) (by simp only [List.getElem?_toArray, List.getElem?_cons_succ, List.getElem?_cons_zero]; rfl) (by kernel_rfl) (by kernel_rfl) (by kernel_rfl) (by exact fun _ _ _ h => h) (Or.inl ⟨by rfl, ?_⟩) (by assumption) ?_
          rotate_left 1
          · (intro w hSw; (try dsimp only at hSw); go_simp; try with_reducible rfl)
          try simp only [Act.put, List.setIfInBounds_toArray, List.set_cons_zero, List.set_cons_succ]
          refine wpAnyH_ready (rs := [12]) (by kernel_rfl) (by simp) ?_
          refine AllReadyH.cons (by simp only [List.getElem?_toArray, List.getElem?_cons_succ, List.getElem?_cons_zero]; rfl) (fun K hK => ?_) AllReadyH.nil
          go_simp
          refine hK.out _ _ trivial (fun hHeld2 => ?_)
          clear hK K
          try simp only [Act.put, List.setIfInBounds_toArray, List.set_cons_zero, List.set_cons_succ]
          clear hHeld
          have hHeld := hHeld2
          clear hHeld2
          refine wpAnyH_done (by kernel_rfl) ?_ _
          clear hHeld
          go_wp2
          go_roundw
          case rel => exact ⟨ts ++ [(⟨fl', nm', ds', st, lo, code, traps, maps⟩, .slice ac code.length cc, .slice at2 traps.length ct2, .slice am maps.length cm)], kk8, _, by simp, by simp; omega, HTO2.out, HP.out⟩
          case measure => simp [intOf]; omega
        refine AllReadyH.cons (by simp only [List.getElem?_toArray, List.getElem?_cons_succ, List.getElem?_cons_zero]; rfl) (fun K hK => ?_) AllReadyH.nil
        go_simp
        refine hK.out _ _ trivial (fun hHeld2 => ?_)
        clear hK K
        try simp only [Act.put, List.setIfInBounds_toArray, List.set_cons_zero, List.set_cons_succ]
        clear hHeld
        have hHeld := hHeld2
        clear hHeld2
        refine wpAnyH_ready (rs := [5, 7]) (by kernel_rfl) (by simp) ?_
        refine AllReadyH.cons (by simp only [List.getElem?_toArray, List.getElem?_cons_succ, List.getElem?_cons_zero]; rfl) (fun K hK => ?_) ?_
        · go_simp
          refine hK.out _ _ trivial (fun hHeld2 => ?_)
          clear hK K
          try simp only [Act.put, List.setIfInBounds_toArray, List.set_cons_zero, List.set_cons_succ]
          clear hHeld
          have hHeld := hHeld2
          clear hHeld2
          refine wpAnyH_ready (rs := [7]) (by kernel_rfl) (by simp) ?_
          refine AllReadyH.cons (by simp only [List.getElem?_toArray, List.getElem?_cons_succ, List.getElem?_cons_zero]; rfl) (fun K hK => ?_) AllReadyH.nil
          go_simp
          have HLa := Lib.hid (HLm.out.idle (((Only.refl (fun _ => False) w8).drew).alloc (.cells #[.int .i64 fl', .int .i64 nm', .int .i64 ds', .int .i64 st, .int .i64 lo, .slice ac code.length cc, .slice at2 traps.length ct2, .slice am maps.length cm] 62)))
          have HMa := Lib.hid (And.intro HMR.out.1 (And.intro (HMR.out.2.1.keep (((Only.refl (fun _ => False) w8).drew).alloc (.cells #[.int .i64 fl', .int .i64 nm', .int .i64 ds', .int .i64 st, .int .i64 lo, .slice ac code.length cc, .slice at2 traps.length ct2, .slice am maps.length cm] 62)) (fun j hj => hj.elim)) HMR.out.2.2)); have q6 : (w8.alloc (.cells #[.int .i64 fl', .int .i64 nm', .int .i64 ds', .int .i64 st, .int .i64 lo, .slice ac code.length cc, .slice at2 traps.length ct2, .slice am maps.length cm] 62)).cell? ⟨b, 6, none⟩ = some (.slice at_ ts.length ct) := ((Only.refl (fun _ => False) w8).alloc _).cell q6 (fun h => h)
          refine hK.out _ _ trivial (fun hHeld2 => ?_)
          clear hK K
          try simp only [Act.put, List.setIfInBounds_toArray, List.set_cons_zero, List.set_cons_succ]
          clear hHeld
          have hHeld := hHeld2
          clear hHeld2
          refine wpAnyH_ready (rs := [8]) (by kernel_rfl) (by simp) ?_
          refine AllReadyH.cons (by simp only [List.getElem?_toArray, List.getElem?_cons_succ, List.getElem?_cons_zero]; rfl) (fun K hK => ?_) AllReadyH.nil
          (refine step_append_src rfl (.tmp 45) (.tmp 47) 24 rfl 62 i0 (.agg #[.int .i64 0, .int .i64 0, .int .i64 0, .int .i64 0, .int .i64 0, .slice none 0 0, .slice none 0 0, .slice none 0 0]) 8 112 Tryz.underlying24 hi hz0 hz1 hz2 rfl (by decide) w.heap.size (.slice at_ ts.length ct) ts.length (ts.flatMap cellsM) rfl (by exact HLa.out.rg) (by exact HLa.out.ks.only.size) (.slice (some ⟨w8.heap.size, 0, none⟩) 1 1) 1 (cellsM (⟨fl', nm', ds', st, lo, code, traps, maps⟩, .slice ac code.length cc, .slice at2 traps.length ct2, .slice am maps.length cm)) rfl (by exact Src.struct (w := w8.drew) (cellsM (⟨fl', nm', ds', st, lo, code, traps, maps⟩, .slice ac code.length cc, .slice at2 traps.length ct2, .slice am maps.length cm)) rfl (by intro u hu; simp [cellsM] at hu; rcases hu with rfl | rfl | rfl | rfl | rfl | rfl | rfl | rfl <;> rfl) rfl) (by unfold maxLen; omega) (by omega) ?_; intro v' wz hown hgrow hnew; obtain ⟨av', cv', rfl, _, _⟩ := slice_of_owns hown)
          obtain ⟨hp, q6, f6⟩ := HLa.out.push NE.out (HMa.out) hown hgrow hnew
          have HP := Lib.hid hp
          clear hown hgrow hnew hp
          refine hK.out _ _ trivial (fun hHeld2 => ?_)
          clear hK K
          try simp only [Act.put, List.setIfInBounds_toArray, List.set_cons_zero, List.set_cons_succ]
          clear hHeld
          have hHeld := hHeld2
          clear hHeld2
          refine wpAnyH_take (i := 9) (v := ?_) (by simp only [List.getElem?_toArray, List.getElem?_cons_succ, List.getElem?_cons_zero]; rfl) (by kernel_rfl) (by kernel_rfl) (by kernel_rfl) (by exact fun _ _ _ h => h) (Or.inl ⟨by rfl, ?_⟩) (by assumption) ?_
          rotate_left 1
          · (intro w hSw; (try dsimp only at hSw); go_simp; try with_reducible rfl)
          try simp only [Act.put, List.setIfInBounds_toArray, List.set_cons_zero, List.set_cons_succ]
          refine wpAnyH_take (i := 10) (v := ?_) (by simp only [List.getElem?_toArray, List.getElem?_cons_succ, List.getElem?_cons_zero]; rfl) (by kernel_rfl) (by kernel_rfl) (by kernel_rfl) (by exact fun _ _ _ h => h) (Or.inl ⟨by rfl, ?_⟩) (by assumption) ?_
          rotate_left 1
          · (intro w hSw; (try dsimp only at hSw); go_simp; try with_reducible rfl)
          try simp only [Act.put, List.setIfInBounds_toArray, List.set_cons_zero, List.set_cons_succ]
          refine wpAnyH_take (i := 11) (v := ?_) (by simp only [List.getElem?_toArray, List.getElem?_cons_succ, List.getElem?_cons_zero]; rfl) (by kernel_rfl) (by kernel_rfl) (by kernel_rfl) (by exact fun _ _ _ h => h) (Or.inl ⟨by rfl, ?_⟩) (by assumption) ?_
          rotate_left 1
          · (intro w hSw; (try dsimp only at hSw); go_simp; try with_reducible rfl)
          try simp only [Act.put, List.setIfInBounds_toArray, List.set_cons_zero, List.set_cons_succ]
          refine wpAnyH_ready (rs := [12]) (by kernel_rfl) (by simp) ?_
          refine AllReadyH.cons (by simp only [List.getElem?_toArray, List.getElem?_cons_succ, List.getElem?_cons_zero]; rfl) (fun K hK => ?_) AllReadyH.nil
          go_simp
          refine hK.out _ _ trivial (fun hHeld2 => ?_)
          clear hK K
          try simp only [Act.put, List.setIfInBounds_toArray, List.set_cons_zero, List.set_cons_succ]
          clear hHeld
          have hHeld := hHeld2
          clear hHeld2
          refine wpAnyH_done (by kernel_rfl) ?_ _
          clear hHeld
          go_wp2
          go_roundw
          case rel => exact ⟨ts ++ [(⟨fl', nm', ds', st, lo, code, traps, maps⟩, .slice ac code.length cc, .slice at2 traps.length ct2, .slice am maps.length cm)], kk8, _, by simp, by simp; omega, HTO2.out, HP.out⟩
          case measure => simp [intOf]; omega
        refine AllReadyH.cons (by simp only [List.getElem?_toArray, List.getElem?_cons_succ, List.getElem?_cons_zero]; rfl) (fun K hK => ?_) AllReadyH.nil
        go_simp
        have HLa := Lib.hid (HLm.out.idle (((Only.refl (fun _ => False) w8).drew).alloc (.cells #[.int .i64 fl', .int .i64 nm', .int .i64 ds', .int .i64 st, .int .i64 lo, .slice ac code.length cc, .slice at2 traps.length ct2, .slice am maps.length cm] 62)))
        have HMa := Lib.hid (And.intro HMR.out.1 (And.intro (HMR.out.2.1.keep (((Only.refl (fun _ => False) w8).drew).alloc (.cells #[.int .i64 fl', .int .i64 nm', .int .i64 ds', .int .i64 st, .int .i64 lo, .slice ac code.length cc, .slice at2 traps.length ct2, .slice am maps.length cm] 62)) (fun j hj => hj.elim)) HMR.out.2.2)); have q6 : (w8.alloc (.cells #[.int .i64 fl', .int .i64 nm', .int .i64 ds', .int .i64 st, .int .i64 lo, .slice ac code.length cc, .slice at2 traps.length ct2, .slice am maps.length cm] 62)).cell? ⟨b, 6, none⟩ = some (.slice at_ ts.length ct) := ((Only.refl (fun _ => False) w8).alloc _).cell q6 (fun h => h)
        refine hK.out _ _ trivial (fun hHeld2 => ?_)
        clear hK K
        try simp only [Act.put, List.setIfInBounds_toArray, List.set_cons_zero, List.set_cons_succ]
        clear hHeld
        have hHeld := hHeld2
        clear hHeld2
        refine wpAnyH_ready (rs := [5]) (by kernel_rfl) (by simp) ?_
        refine AllReadyH.cons (by simp only [List.getElem?_toArray, List.getElem?_cons_succ, List.getElem?_cons_zero]; rfl) (fun K hK => ?_) AllReadyH.nil
        go_simp
        refine hK.out _ _ trivial (fun hHeld2 => ?_)
        clear hK K
        try simp only [Act.put, List.setIfInBounds_toArray, List.set_cons_zero, List.set_cons_succ]
        clear hHeld
        have hHeld := hHeld2
        clear hHeld2
        refine wpAnyH_ready (rs := [8]) (by kernel_rfl) (by simp) ?_
        refine AllReadyH.cons (by simp only [List.getElem?_toArray, List.getElem?_cons_succ, List.getElem?_cons_zero]; rfl) (fun K hK => ?_) AllReadyH.nil
        (refine step_append_src rfl (.tmp 45) (.tmp 47) 24 rfl 62 i0 (.agg #[.int .i64 0, .int .i64 0, .int .i64 0, .int .i64 0, .int .i64 0, .slice none 0 0, .slice none 0 0, .slice none 0 0]) 8 112 Tryz.underlying24 hi hz0 hz1 hz2 rfl (by decide) w.heap.size (.slice at_ ts.length ct) ts.length (ts.flatMap cellsM) rfl (by exact HLa.out.rg) (by exact HLa.out.ks.only.size) (.slice (some ⟨w8.heap.size, 0, none⟩) 1 1) 1 (cellsM (⟨fl', nm', ds', st, lo, code, traps, maps⟩, .slice ac code.length cc, .slice at2 traps.length ct2, .slice am maps.length cm)) rfl (by exact Src.struct (w := w8.drew) (cellsM (⟨fl', nm', ds', st, lo, code, traps, maps⟩, .slice ac code.length cc, .slice at2 traps.length ct2, .slice am maps.length cm)) rfl (by intro u hu; simp [cellsM] at hu; rcases hu with rfl | rfl | rfl | rfl | rfl | rfl | rfl | rfl <;> rfl) rfl) (by unfold maxLen; omega) (by omega) ?_; intro v' wz hown hgrow hnew; obtain ⟨av', cv', rfl, _, _⟩ := slice_of_owns hown)
        obtain ⟨hp, q6, f6⟩ := HLa.out.push NE.out (HMa.out) hown hgrow hnew
        have HP := Lib.hid hp
        clear hown hgrow hnew hp
        refine hK.out _ _ trivial (fun hHeld2 => ?_)
        clear hK K
        try simp only [Act.put, List.setIfInBounds_toArray, List.set_cons_zero, List.set_cons_succ]
        clear hHeld
        have hHeld := hHeld2
        clear hHeld2
        refine wpAnyH_take (i := 9) (v := ?_) (by simp only [List.getElem?_toArray, List.getElem?_cons_succ, List.getElem?_cons_zero]; rfl) (by kernel_rfl) (by kernel_rfl) (by kernel_rfl) (by exact fun _ _ _ h => h) (Or.inl ⟨by rfl, ?_⟩) (by assumption) ?_
        rotate_left 1
        · (intro w hSw; (try dsimp only at hSw); go_simp; try with_reducible rfl)
        try simp only [Act.put, List.setIfInBounds_toArray, List.set_cons_zero, List.set_cons_succ]
        refine wpAnyH_take (i := 10) (v := ?_) (by simp only [List.getElem?_toArray, List.getElem?_cons_succ, List.getElem?_cons_zero]; rfl) (by kernel_rfl) (by kernel_rfl) (by kernel_rfl) (by exact fun _ _ _ h => h) (Or.inl ⟨by rfl, ?_⟩) (by assumption) ?_
        rotate_left 1
        · (intro w hSw; (try dsimp only at hSw); go_simp; try with_reducible rfl)
        try simp only [Act.put, List.setIfInBounds_toArray, List.set_cons_zero, List.set_cons_succ]
        refine wpAnyH_take (i := 11) (v := ?_) (by simp only [List.getElem?_toArray, List.getElem?_cons_succ, List.getElem?_cons_zero]; rfl) (by kernel_rfl) (by kernel_rfl) (by kernel_rfl) (by exact fun _ _ _ h => h) (Or.inl ⟨by rfl, ?_⟩) (by assumption) ?_
        rotate_left 1
        · (intro w hSw; (try dsimp only at hSw); go_simp; try with_reducible rfl)
        try simp only [Act.put, List.setIfInBounds_toArray, List.set_cons_zero, List.set_cons_succ]
        refine wpAnyH_ready (rs := [12]) (by kernel_rfl) (by simp) ?_
        refine AllReadyH.cons (by simp only [List.getElem?_toArray, List.getElem?_cons_succ, List.getElem?_cons_zero]; rfl) (fun K hK => ?_) AllReadyH.nil
        go_simp
        refine hK.out _ _ trivial (fun hHeld2 => ?_)
        clear hK K
        try simp only [Act.put, List.setIfInBounds_toArray, List.set_cons_zero, List.set_cons_succ]
        clear hHeld
        have hHeld := hHeld2
        clear hHeld2
        refine wpAnyH_done (by kernel_rfl) ?_ _
        clear hHeld
        go_wp2
        go_roundw
        case rel => exact ⟨ts ++ [(⟨fl', nm', ds', st, lo, code, traps, maps⟩, .slice ac code.length cc, .slice at2 traps.length ct2, .slice am maps.length cm)], kk8, _, by simp, by simp; omega, HTO2.out, HP.out⟩
        case measure => simp [intOf]; omega
    · have hnz : (mm : Int) ≤ (ts.length : Int) := by omega
      have C6 := Lib.hid (HC.out.trans (HTO.out.done (by rw [List.length_map]; omega)))
      clear HC HTO hi hz0 hz1 hz2
      go_wp2
      go_end0
      exact KTo.ok C6.out ⟨_, ts, rfl, HL0.out⟩
end Go.Proofs.YtodhdiccfobcfaaGreatDoor
