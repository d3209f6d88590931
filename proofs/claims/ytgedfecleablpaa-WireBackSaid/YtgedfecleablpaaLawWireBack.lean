/- PROVED: the law WireBack: what a writer took is read as it was, call by call, and nothing is left; the argument reads as before. For every script. No condition. -/
import Derived.Test.YtgedfecleablpaaBackA
import Derived.ProofKit
import Derived.ShutString
import Derived.ChangeOld
import Derived.Below
import Derived.Deep.CutBlock
import Derived.Deep.DeepCutAuto
namespace Go.Proofs.Ytgedfecleablpaa.wireBack
open Go.ChangeShapes Go.WideShapes Go.ChangeAt Go.RowKit
set_option linter.unusedVariables false
set_option linter.unusedSimpArgs false

/-- The writer and the list of what it took, side by side, each in blocks of its own from B on. -/
structure St (B : Nat) (w0 : World) (wp : Nat) (svp : Value) (bs : List Int) (dv : Value) (L : List OpV) (w : World) : Prop where
  p : Wr w wp svp 1048576 bs
  own : w.ownsRow B 31 5 dv L.length (L.flatMap cells5)
  d1 : dv.ownBlock ≠ some wp
  d2 : ∀ k, svp.ownBlock = some k → dv.ownBlock ≠ some k
  b1 : B ≤ wp
  b3 : ∀ k, svp.ownBlock = some k → B ≤ k
  bel : Below B w0 w

theorem St.size {B : Nat} {w0 w : World} {wp : Nat} {svp : Value} {bs : List Int} {dv : Value} {L : List OpV} (h : St B w0 wp svp bs dv L w) : B ≤ w.heap.size := Nat.le_trans h.b1 (Nat.le_of_lt h.p.lt.1)
theorem St.stepP {B : Nat} {w0 w w' : World} {wp : Nat} {svp : Value} {bs bs' : List Int} {dv : Value} {L : List OpV} (h : St B w0 wp svp bs dv L w) (ht : WrTo w wp svp 1048576 bs' w') : ∃ svp', St B w0 wp svp' bs' dv L w' := by
  obtain ⟨sv', hw, ho, hs⟩ := ht
  have hlp := h.own.lt
  refine ⟨sv', hw, ho.owns h.own ?_, h.d1, ?_, h.b1, ?_, h.bel.trans (ho.below h.size ?_)⟩
  · rintro k hk (e | e)
    · exact h.d1 (by rw [hk, e])
    · exact h.d2 k e hk
  · intro k hk e
    rcases hs k hk with e2 | e2
    · exact h.d2 k e2 e
    · have := (hlp k e).2; omega
  · intro k hk
    rcases hs k hk with e2 | e2
    · exact h.b3 k e2
    · have := h.size; omega
  · rintro i (rfl | e)
    · exact h.b1
    · exact h.b3 i e
theorem St.fresh {B : Nat} {w0 w w' : World} {wp : Nat} {svp : Value} {bs : List Int} {dv : Value} {L : List OpV} (h : St B w0 wp svp bs dv L w) (hb : Below w.heap.size w w') : St B w0 wp svp bs dv L w' :=
  ⟨h.p.only (Only.of_below hb (fun _ => False)) (fun h => h) (fun _ _ h => h), (Only.of_below hb (fun _ => False)).owns h.own (fun _ _ h => h), h.d1, h.d2, h.b1, h.b3, h.bel.trans (hb.mono h.size)⟩
theorem St.push {B : Nat} {w0 w w' : World} {wp : Nat} {svp : Value} {bs : List Int} {dv dv' : Value} {L : List OpV} {o : OpV} (h : St B w0 wp svp bs dv L w)
    (hown : w'.ownsRow B 31 5 dv' (L.length + 1) (L.flatMap cells5 ++ cells5 o)) (hgrow : w.grownBy w' dv.ownBlock) (hnew : ∀ k, dv'.ownBlock = some k → dv.ownBlock = some k ∨ w.heap.size ≤ k) : St B w0 wp svp bs dv' (L ++ [o]) w' := by
  have ho : Only (fun k => dv.ownBlock = some k) w w' := (Only.refl _ w).grown hgrow (fun k hk _ => hk)
  have hlp := h.p.lt
  refine ⟨h.p.only ho h.d1 (fun k hk e => h.d2 k hk e), by simpa using hown, ?_, ?_, h.b1, h.b3, h.bel.trans (ho.below h.size (fun i hi => (h.own.lt i hi).1))⟩
  · intro e
    rcases hnew _ e with e2 | e2
    · exact h.d1 e2
    · omega
  · intro k hk e
    rcases hnew k e with e2 | e2
    · exact h.d2 k hk e2
    · have := hlp.2 k hk; omega
theorem St.new (w : World) : St w.heap.size w w.heap.size (.slice none 0 0) [] (.slice none 0 0) [] (w.alloc (.cells #[.slice none 0 0, .int .i64 (1048576 : Nat), .bool true] 69)) :=
  ⟨Wr.new w 1048576 (Nat.le_refl _), World.ownsRow_nil _ _ _ _, by simp [Value.ownBlock], by simp [Value.ownBlock], Nat.le_refl _, by simp [Value.ownBlock], (Below.refl _ _).alloc (Nat.le_refl _) _⟩

/-- The reader and the list, side by side. -/
structure Bk (B : Nat) (w0 : World) (rb : Nat) (sv : Value) (zs : List Int) (k : Nat) (dv : Value) (L : List OpV) (w : World) : Prop where
  p : Rd w rb sv zs k
  own : w.ownsRow B 31 5 dv L.length (L.flatMap cells5)
  d1 : dv.ownBlock ≠ some rb
  b1 : B ≤ rb
  bel : Below B w0 w
theorem Bk.size {B : Nat} {w0 w : World} {rb : Nat} {sv : Value} {zs : List Int} {k : Nat} {dv : Value} {L : List OpV} (h : Bk B w0 rb sv zs k dv L w) : B ≤ w.heap.size := Nat.le_trans h.b1 (Nat.le_of_lt h.p.lt.1)
theorem Bk.step {B : Nat} {w0 w w' : World} {rb : Nat} {sv : Value} {zs : List Int} {k k' : Nat} {dv : Value} {L : List OpV} (h : Bk B w0 rb sv zs k dv L w) (ht : RdTo w rb sv zs k' w') : Bk B w0 rb sv zs k' dv L w' :=
  ⟨ht.1, ht.2.owns h.own (fun b hb e => h.d1 (by rw [hb, e])), h.d1, h.b1, h.bel.trans (ht.2.below h.size (fun i hi => by subst hi; exact h.b1))⟩
theorem Bk.fresh {B : Nat} {w0 w w' : World} {rb : Nat} {sv : Value} {zs : List Int} {k : Nat} {dv : Value} {L : List OpV} (h : Bk B w0 rb sv zs k dv L w) (hb : Below w.heap.size w w') : Bk B w0 rb sv zs k dv L w' :=
  ⟨h.p.only (Only.of_below hb (fun _ => False)) (fun h => h) (fun _ _ h => h), (Only.of_below hb (fun _ => False)).owns h.own (fun _ _ h => h), h.d1, h.b1, h.bel.trans (hb.mono h.size)⟩
theorem keepsR {w w1 : World} {o : Obj} {rb : Nat} (h : Only (fun b => b = rb) (w.alloc o) w1) (hl : rb < w.heap.size) : w1.heap[w.heap.size]? = some o :=
  h.heap (heap_alloc_new w o) (by omega)
theorem own_head {w : World} {B e size n : Nat} {v : Value} {xs : List Value} (h : w.ownsRow B e size v n xs) (hn : 0 < n) : ∃ g cap, v = .slice (some ⟨g, 0, none⟩) n cap ∧ n ≤ cap := by
  rcases h.2 with ⟨_, h0⟩ | ⟨g, cap, cur, hv, _, _, hc, _⟩
  · omega
  · exact ⟨g, cap, hv, hc⟩

theorem src_block {w : World} {t : TypeId} (arr : Array Value) (h : ∀ u ∈ arr.toList, u.oneCell' = true) (n : Nat) (hn : arr.size = n) : Src (w.alloc (.cells arr t)) n (.slice (some ⟨w.heap.size, 0, none⟩) 1 1) 1 arr.toList := by
  refine ⟨by simp [hn], h, _, 1, rfl, (fun e => by cases e), fun ad hd j u hu => ?_⟩
  cases hd
  rw [add_lit, Nat.zero_add, World.cell?_alloc_new]
  simpa using hu
theorem keepsP {w w1 : World} {o : Obj} {wb : Nat} {sv : Value} {most : Nat} {bs bs0 : List Int} (h : WrTo (w.alloc o) wb sv most bs w1) (hw : Wr w wb sv most bs0) : w1.heap[w.heap.size]? = some o := by
  obtain ⟨_, _, ho, _⟩ := h
  have hl := hw.lt
  refine ho.heap (heap_alloc_new w o) ?_
  rintro (e | e)
  · omega
  · have := hl.2 _ e; omega
theorem info_op : (Try.prog.info? 31).map (fun i => (i.zero, i.size, i.bytes)) = some (some (.agg #[.int .i64 0, .int .i64 0, .int .u64 0, .int .i64 0, .slice none 0 0]), 5, 56) := by kernel_rfl

set_option maxHeartbeats 8000000 in
set_option maxRecDepth 100000 in
theorem walkB (v0 : Value) (len : Nat) (f : Nat → OpV) (w : World) (hsc : Script w v0 len f) :
    Calls Try.prog 5 #[v0] w fun e w' => e = .returned (.bool true) ∧ Below w.heap.size w w' := by
  obtain ⟨i0, hi, hz0, hz1, hz2⟩ := info_parts info_op
  obtain ⟨ao, cap, rfl, hlc, hcap, hnil, hops⟩ := hsc
  go_enter Try.func5, Try.ntmps5
  go_wp2_with (first | (go_at_call 18; refine (newWriterOk 1048576 _ (Nat.le_refl _)).mono ?_; rintro e w' ⟨rfl, rfl⟩))
  have hstart := St.new w
  go_loopw [5, 6] (fun dv i wr => ∃ (j : Nat) (svp : Value) (L : List OpV) (bs : List Int), j ≤ len ∧ i = .int .i64 j ∧ L.length ≤ j ∧ L.length ≤ 200 ∧ (∀ o ∈ L, Good o ∧ Bytes w o.b o.bs ∧ o.bs.length ≤ 140737488351232) ∧ Hid (bs = L.flatMap enc) ∧ St w.heap.size w w.heap.size svp bs dv L wr) (fun _ i _ => len - (intOf i).toNat)
  case atStart => exact ⟨0, _, [], [], Nat.zero_le _, rfl, Nat.le_refl _, Nat.zero_le _, fun o ho => by simp at ho, Lib.hid rfl, hstart⟩
  case round =>
    obtain ⟨j, svp, L, bs, hj, rfl, hLj, hL2, hgood, Hbs, hst⟩ := hrel
    clear hstart
    by_cases hlt : j < len ∧ j < 200
    · obtain ⟨hlt, hj2⟩ := hlt
      obtain ⟨x, rfl⟩ : ∃ x, ao = some x := by cases ao with | none => have := hnil rfl; omega | some x => exact ⟨x, rfl⟩
      have hop := hops x rfl j hlt
      obtain ⟨xb, xo, rfl⟩ : ∃ xb xo, x = ⟨xb, xo, none⟩ := ⟨_, _, plain_of_cell (hops x rfl 0 (by omega)).c0⟩
      have hxb : xb < w.heap.size := by have := World.block_lt_of_cell? w _ hop.c0; rwa [add_block] at this
      have c0 := (hst.bel.cell (by rw [add_block]; exact hxb)).trans hop.c0
      have c1 := (hst.bel.cell (by rw [add_block]; exact hxb)).trans hop.c1
      have c2 := (hst.bel.cell (by rw [add_block]; exact hxb)).trans hop.c2
      have c3 := (hst.bel.cell (by rw [add_block]; exact hxb)).trans hop.c3
      have c4 := (hst.bel.cell (by rw [add_block]; exact hxb)).trans hop.c4
      rw [add_lit] at c0 c1 c2 c3 c4
      simp only [← Nat.add_assoc, Nat.add_zero] at c0 c1 c2 c3 c4
      have H0 := Lib.hid hop.by_
      have hle := hop.le
      have rn := hop.rn
      have rx := hop.rx
      have ry := hop.ry
      clear hop
      generalize f j = o at *
      obtain ⟨what, n, X, Y, b, bz⟩ := o
      simp only at H0 hle rn rx ry
      obtain ⟨bo, bcap, hbv, hb1, _⟩ := id H0.out
      subst hbv
      have hB := hst.size
      have ht1 := fun o => hst.fresh ((Below.refl wr.heap.size wr).alloc (Nat.le_refl _) o)
      have hby1 := fun o => H0.out.below (ht1 o).bel (Nat.le_refl _)
      clear hops hnil
      by_cases hbig : 1000 < bz.length
      · go_wp2_with fail
        go_roundw
        case rel => exact ⟨j + 1, svp, L, bs, by omega, by go_num, by omega, hL2, hgood, Hbs, ht1 _⟩
        case measure => simp [intOf]; omega
      · go_upto_block 2 with fail
        go_cut [8] (fun s8 wx => ∃ (e : Int) (svp1 : Value) (bs1 : List Int), s8 = .int .i64 e ∧ St w.heap.size w w.heap.size svp1 bs1 u5 L wx ∧ wx.heap[wr.heap.size]? = some (Obj.cells #[.int .i64 what, .int .i64 n, .int .u64 X, .int .i64 Y, .slice bo bz.length bcap] 31) ∧ Fin ⟨what, n, X, Y, .slice bo bz.length bcap, bz⟩ bs e bs1)
        case first =>
          go_wp2_with (first | (go_at_call 20; refine (wrUint w.heap.size svp 1048576 bs n X _ (by exact (ht1 _).p)).mono ?_; rintro e w1 ⟨rfl, hto⟩; have hob := keepsP hto hst.p; obtain ⟨svp1, ht2⟩ := (ht1 _).stepP hto; clear hto) | (go_at_call 22; refine (wrInt w.heap.size svp 1048576 bs n Y _ (by exact (ht1 _).p)).mono ?_; rintro e w1 ⟨rfl, hto⟩; have hob := keepsP hto hst.p; obtain ⟨svp1, ht2⟩ := (ht1 _).stepP hto; clear hto) | (go_at_call 24; refine (wrBytes w.heap.size svp 1048576 bs _ bz _ (by exact (ht1 _).p) (by exact hby1 _)).mono ?_; rintro e w1 ⟨rfl, hto⟩; have hob := keepsP hto hst.p; obtain ⟨svp1, ht2⟩ := (ht1 _).stepP hto; clear hto))
          all_goals
            go_meet
            case rel =>
              refine ⟨_, _, _, rfl, ht2, hob, ?_⟩
              first | (refine fin_U ?_ rn rx ry; assumption) | (refine fin_I ?_ rn rx ry; assumption) | (refine fin_B ?_ ?_ rn rx ry <;> assumption)
        case rest =>
          obtain ⟨e, svp1, bs1, rfl, ht, hob, hfin⟩ := hcut
          clear hst ht1 hby1 c0 c1 c2 c3 c4
          have d0 := cell_blk hob 0
          have d1 := cell_blk hob 1
          have d2 := cell_blk hob 2
          have d3 := cell_blk hob 3
          have d4 := cell_blk hob 4
          simp at d0 d1 d2 d3 d4
          by_cases he : e = 0
          · obtain ⟨hg, hbs⟩ := hfin.1 he
            subst he
            clear hfin hob
            have hsrc := src_block (w := wc) (t := 31) #[.int .i64 what, .int .i64 n, .int .u64 X, .int .i64 Y, .slice bo bz.length bcap] (by intro u hu; simp at hu; rcases hu with rfl | rfl | rfl | rfl | rfl <;> rfl) 5 rfl
            have ht3 := fun o => ht.fresh ((Below.refl wc.heap.size wc).alloc (Nat.le_refl _) o)
            go_wp2_with (at_builtin; refine wpList_append_src rfl (.tmp 66) (.tmp 68) 23 rfl 31 i0 _ 5 56 Try.underlying23 hi hz0 hz1 hz2 rfl (by decide) w.heap.size u5 L.length (L.flatMap cells5) rfl (by exact (ht3 _).own) (by exact (ht3 (.cells #[.int .i64 what, .int .i64 n, .int .u64 X, .int .i64 Y, .slice bo bz.length bcap] 31)).size) _ 1 _ rfl (by exact hsrc) (by unfold maxLen; omega) (by omega) ?_; intro dv' w3 hown3 hgrow3 hnew3)
            have ht4 := (ht3 _).push (o := ⟨what, n, X, Y, .slice bo bz.length bcap, bz⟩) hown3 hgrow3 hnew3
            clear hown3 hgrow3 hnew3 hsrc ht3 ht
            go_wp2
            go_roundw
            case rel => exact ⟨j + 1, svp1, L ++ [⟨what, n, X, Y, .slice bo bz.length bcap, bz⟩], bs1, by omega, by go_num, by simp; omega, by simp; omega, by
                intro o ho
                rcases List.mem_append.1 ho with h | h
                · exact hgood o h
                · simp at h
                  subst h
                  exact ⟨hg, H0.out, hle⟩, Lib.hid (by rw [hbs, Hbs.out]; simp), ht4⟩
            case measure => simp [intOf]; omega
          · have hbs := hfin.2 he
            have hbe : (e == 0) = false := by simpa using he
            subst hbs
            clear hfin hob
            go_wp2
            go_roundw
            case rel => exact ⟨j + 1, svp1, L, bs1, by omega, by go_num, by omega, hL2, hgood, Hbs, ht⟩
            case measure => simp [intOf]; omega
    · have hx : ¬ j < len ∨ (j < len ∧ ¬ j < 200) := by omega
      clear hlt hops hnil
      have hlim : bs.length ≤ 140737488355328 := by have := hst.p.fit; omega
      have hbyt := hst.p.byt
      rcases hx with hx | ⟨hx1, hx2⟩
      all_goals
        go_wp2_with (first | (go_at_call 27; refine (wrOut w.heap.size svp 1048576 bs _ hst.p).mono ?_; rintro e w1 ⟨vo, rfl, hown, hbel1⟩) | (go_at_call 8; refine (newReader _ bs _ (Bytes.of_owns hown hbyt) hlim).mono ?_; rintro e w2 ⟨rb, sv, rfl, hrd, hbel2, hge1, hge2⟩))
        have hst1 := (hst.fresh hbel1).fresh hbel2
        have hb0 : Bk w.heap.size w rb sv bs 0 u5 L w2 := ⟨hrd, hst1.own, fun e => by have q1 := ((hst.fresh hbel1).own.lt _ e).2; omega, by have q1 := (hst.fresh hbel1).size; omega, hst1.bel⟩
        clear hown hbel1 hbel2 hge1 hge2 hrd hst hst1
        obtain ⟨da, dc, hdv, hd1, hd2⟩ := slice_of_owns hb0.own
        subst hdv
        go_loopw [10] (fun i wr => ∃ (t k : Nat), t ≤ L.length ∧ i = .int .i64 t ∧ Hid (k = ((L.take t).flatMap enc).length) ∧ Bk w.heap.size w rb sv bs k (.slice da L.length dc) L wr) (fun i _ => L.length - (intOf i).toNat)
        case atStart => exact ⟨0, 0, Nat.zero_le _, rfl, Lib.hid rfl, hb0⟩
        case round =>
          obtain ⟨t, k, ht, rfl, Hk, hbk⟩ := hrel
          clear hb0
          by_cases htl : t < L.length
          · obtain ⟨g, cap2, hdv2, _⟩ := own_head hbk.own (by omega)
            injection hdv2 with hda hlen2 hcap2
            subst hda
            clear hlen2 hcap2
            have hcell := fun (q : Nat) (hq : q < 5) => (hbk.own.cellAt (t * 5 + q) (by omega)).trans (flat_at htl q hq)
            have hgo := hgood L[t] (List.getElem_mem htl)
            have hea := enc_at htl
            have hen := enc_next htl
            have her := enc_room htl
            rw [← Hk.out, ← Hbs.out] at hea her
            rw [← Hk.out] at hen
            generalize L[t] = o at *
            obtain ⟨⟨gU, gI, gx, gy, gn⟩, gb, gl⟩ := hgo
            obtain ⟨what, n, X, Y, b, bz⟩ := o
            simp only at gU gI gx gy gn gb gl
            obtain ⟨bo, bcap, hbv, hb1, _⟩ := id gb
            subst hbv
            have c0 := hcell 0 (by omega)
            have c1 := hcell 1 (by omega)
            have c2 := hcell 2 (by omega)
            have c3 := hcell 3 (by omega)
            have c4 := hcell 4 (by omega)
            simp [cells5] at c0 c1 c2 c3 c4
            have Hgb := Lib.hid gb
            have hbk1 := fun o => hbk.fresh ((Below.refl wr.heap.size wr).alloc (Nat.le_refl _) o)
            have hend : ∀ (wz : World) (k' : Nat), k' = k + (enc ⟨what, n, X, Y, .slice bo bz.length bcap, bz⟩).length → Bk w.heap.size w rb sv bs k' (.slice (some ⟨g, 0, none⟩) L.length dc) L wz →
                ∃ (t' k' : Nat), t' ≤ L.length ∧ Value.int .i64 ((t : Int) + 1) = .int .i64 t' ∧ Hid (k' = ((L.take t').flatMap enc).length) ∧ Bk w.heap.size w rb sv bs k' (.slice (some ⟨g, 0, none⟩) L.length dc) L wz :=
              fun wz k' hk' hz => ⟨t + 1, k', by omega, by go_num, Lib.hid (by rw [hen, hk']), hz⟩
            have Hend := Lib.hid hend
            clear hend hcell gb hen hgood
            by_cases w0 : what = 0
            · subst w0
              have hf := gU rfl
              obtain ⟨q1, q8⟩ := fitU_width hf
              obtain ⟨m, rfl⟩ := Int.eq_ofNat_of_zero_le (show 0 ≤ n by omega)
              have hee : enc ⟨0, m, X, Y, .slice bo bz.length bcap, bz⟩ = digs m X := by simp [enc]
              rw [hee] at hea her Hend
              rw [digs_length] at her Hend
              obtain ⟨r1, r2, r3, r4⟩ := read_U hea (digs_length m X) (by omega) (by omega) her
              rw [back_U m (by omega) (by omega) X gx.1 hf] at r2
              have R1 := Lib.hid r1
              have R2 := Lib.hid r2
              have R4 := Lib.hid r4
              clear r1 r2 r3 r4 hea hee hf gU gI q1 q8
              go_wp2_with (go_at_call 9; refine (rdUint rb sv bs k m _ (by exact (hbk1 _).p) gn.1 gn.2).mono ?_; rintro e w3 ⟨rfl, hto⟩; rw [R1.out, R2.out]; rw [R1.out, R4.out] at hto; have hob := keepsR hto.2 hbk.p.lt.1; have hbk2 := (hbk1 _).step hto; have d2 := cell_blk hob 2; simp at d2; clear hto hob)
              go_roundw
              case rel => first | exact Hend.out _ _ rfl hbk2 | (repeat (apply Exists.intro)); apply And.intro; (case right => rfl); (case left => exact Hend.out _ _ rfl hbk2)
              case measure => simp [intOf]; omega
            · by_cases w1 : what = 1
              · subst w1
                have hf := gI rfl
                obtain ⟨q1, q8⟩ := fitI_width hf
                obtain ⟨m, rfl⟩ := Int.eq_ofNat_of_zero_le (show 0 ≤ n by omega)
                have hee : enc ⟨1, m, X, Y, .slice bo bz.length bcap, bz⟩ = digs m Y := by simp [enc]
                rw [hee] at hea her Hend
                rw [digs_length] at her Hend
                obtain ⟨r1, r2, r3, r4⟩ := read_U hea (digs_length m Y) (by omega) (by omega) her
                rw [back_I m (by omega) (by omega) Y hf] at r3
                have R1 := Lib.hid r1
                have R3 := Lib.hid r3
                have R4 := Lib.hid r4
                clear r1 r2 r3 r4 hea hee hf gU gI q1 q8
                go_wp2_with (go_at_call 11; refine (rdInt rb sv bs k m _ (by exact (hbk1 _).p) gn.1 gn.2).mono ?_; rintro e w3 ⟨rfl, hto⟩; rw [R1.out, R3.out]; rw [R1.out, R4.out] at hto; have hob := keepsR hto.2 hbk.p.lt.1; have hbk2 := (hbk1 _).step hto; have d3 := cell_blk hob 3; simp at d3; clear hto hob)
                go_roundw
                case rel => first | exact Hend.out _ _ rfl hbk2 | (repeat (apply Exists.intro)); apply And.intro; (case right => rfl); (case left => exact Hend.out _ _ rfl hbk2)
                case measure => simp [intOf]; omega
              · have z0 : (what == 0) = false := by simpa using w0
                have z1 : (what == 1) = false := by simpa using w1
                have hee : enc ⟨what, n, X, Y, .slice bo bz.length bcap, bz⟩ = bz := by simp [enc, w0, w1]
                rw [hee] at hea her Hend
                obtain ⟨r1, r2, r3⟩ := read_B hea her
                have R1 := Lib.hid r1
                have R2 := Lib.hid r2
                have R3 := Lib.hid r3
                clear r1 r2 r3 hea hee gU gI w0 w1
                have hbzl : bz.length ≤ 9223372036854775807 := by omega
                go_wp2_with (go_at_call 13; refine (rdBytes rb sv bs k bz.length _ (by exact (hbk1 _).p) (by omega) (by omega)).mono ?_; rintro e w3 ⟨v3, rfl, hto, hown3⟩; rw [R1.out]; rw [R1.out, R3.out] at hto; rw [R1.out, R2.out] at hown3; have hob := keepsR hto.2 hbk.p.lt.1; have hbk2 := (hbk1 _).step hto; have d4 := cell_blk hob 4; simp at d4; have hcp := conv_bytes (P := Try.prog) w3 22 5 9 Try.underlying22 Try.underlying5 Try.underlying9 (Bytes.of_owns hown3 (by obtain ⟨_, _, _, _, _, _, h, _⟩ := Hgb.out; exact h)); have hcr := conv_bytes (P := Try.prog) w3 22 5 9 Try.underlying22 Try.underlying5 Try.underlying9 (Hgb.out.below hbk2.bel (Nat.le_refl _)); clear hto hob hown3)
                go_roundw
                case rel => first | exact Hend.out _ _ rfl hbk2 | (repeat (apply Exists.intro)); apply And.intro; (case right => rfl); (case left => exact Hend.out _ _ rfl hbk2)
                case measure => simp [intOf]; omega
          · have htt : t = L.length := by omega
            subst htt
            have hkk : k = bs.length := by rw [Hk.out, Hbs.out, List.take_length]
            subst hkk
            go_wp2_with (first | (go_at_call 16; refine (rdLeftM rb sv bs _ _ hbk.p).mono ?_; rintro e w3 ⟨rfl, hdr⟩) | (go_at_call 17; refine (awake _).mono ?_; rintro e w4 ⟨rfl, hbel⟩))
            go_ret
            refine ⟨rfl, hbk.bel.trans (Below.trans (b := w3) ?_ (hbel.mono ?_))⟩
            · obtain ⟨q, rfl⟩ := hdr; exact below_drewN (Below.refl _ _) _
            · obtain ⟨q, rfl⟩ := hdr; exact hbk.size

theorem own : ownKnob Try.prog.godebug = none := by kernel_rfl
theorem laidOut : laidOutB Try.prog = true := by kernel_rfl

theorem walk (v0 : Value) (w : World) (w0 : ∃ len f, Script w v0 len f) :
    Calls Try.prog 5 #[v0] w fun e w' => e = .returned (.bool true) ∧ Below w.heap.size w w' := by
  obtain ⟨len, f, hs⟩ := w0
  exact walkB v0 len f w hs

set_option maxRecDepth 100000 in
theorem lifted (os : Os) (started : os.Started) (H : Type) (enc : TypeId × Value → H) :
    ReturnsInHanded {} Try.checked os 5 .any (Rows.wireBackSpec.pre6 enc Try.prog Try.f5 Rows.wireBackRow.domain false) (Rows.wireBackSpec.post enc Try.prog Try.f5 false true false false) := by
  refine returnsInHanded_of_change_sized (C := Try.checked) own started (by kernel_rfl) Try.func5
    (ChangeSpec.witness6 (enc := enc) (C := Try.checked) false ⟨#[], #[.slice none 0 0], []⟩ 8 (by kernel_rfl) (by kernel_rfl) (by kernel_rfl) (by kernel_rfl)) ?_
  intro W base args ds gs before hval0 hW hcnd hsz0 _
  have hsz : (DataW.weightsEach Try.prog (Try.f5.params.toList ++ Rows.wireBackSpec.plain.varTypes Try.prog) (ds ++ gs)).all (· ≤ reachBytes) = true := hsz0
  clear hsz0
  have hval : ∀ (j : Nat) t v, Try.f5.params[j]? = some t → args[j]? = some v → Value.okWide Try.prog W .any base t v := hval0
  have hW' := hW
  obtain ⟨p, q, hA0, hV, rfl, hfz, hnd⟩ := hW
  have hA : DataW.TrodAll enc Try.prog W 0 (fun _ => true) true Try.f5.params.toList args.toList ds p := hA0
  rw [Try.params5] at hA hval hsz
  obtain ⟨v0, vs0, d0, ds0, p0, q0, hargs, rfl, rfl, h0, r0⟩ := trodAll_cons hA
  obtain ⟨rfl, rfl, rfl⟩ := trodAll_nil r0
  obtain rfl : args = #[v0] := by cases args; simp_all
  obtain ⟨rfl, rfl⟩ := trodVars_none hV
  have k0 := h0
  have lt0 : ∀ x ∈ p0, x.block < W.heap.size := by obtain ⟨m, hm⟩ := k0; exact DataW.trod_lt m _ _ _ hm
  have w0 := arg_script (hval 0 23 v0 rfl rfl) h0 (light_arg (j := 0) hsz rfl rfl)
  clear hA0 hval0
  refine (walk v0 W w0).mono fun e W' ⟨he, bel⟩ => ?_
  subst he
  exact ⟨_, rfl, _, _, _, [], _, [], hW', trodAll_mk1 (shut_bool Try.underlying4 _), (trodAll_cons_mk (Below.trod laidOut (by kernel_rfl) (of_decide_eq_true (by kernel_rfl)) k0 bel lt0) trodAll_mk0), rfl, bel.frame _, fun h => by cases h⟩

theorem over : Rows.wireBackRow.holds Try.pinned (OpenSpec.ofChange Rows.wireBackSpec) :=
  OpenClaim.holds_of_wide 5 Try.f5 rfl rfl rfl rfl rfl rfl rfl ⟨rfl, rfl, rfl, rfl, rfl⟩ rfl rfl rfl rfl rfl (by kernel_rfl) Try.func5 (by kernel_rfl)
    (of_decide_eq_true (by kernel_rfl)) (by unfold Func.isWrapper; first | (rw [if_pos (by decide +kernel)]; kernel_rfl) | (rw [if_neg (by decide +kernel)]; exact ⟨rfl, rfl⟩))
    (fun os started H enc _ => lifted os started H enc)

theorem proved : Rows.WireBackSaid := over
#print axioms proved
end Go.Proofs.Ytgedfecleablpaa.wireBack
