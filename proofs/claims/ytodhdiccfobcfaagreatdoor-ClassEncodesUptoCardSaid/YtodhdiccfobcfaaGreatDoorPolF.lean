/- The document's own Encode of a pool. Texts of at most 2^46 bytes. -/
import Derived.Test.YtodhdiccfobcfaaGreatDoorPolE
namespace Go.Proofs.YtodhdiccfobcfaaGreatDoor
open Go.RowKit Go.Shelf
set_option linter.unusedVariables false
set_option linter.unusedSimpArgs false

theorem Row.base {w : World} {B B' : Nat} {v : Value} {ys : List Int} (h : Row w B v ys) (hB : B' ≤ B) : Row w B' v ys := by
  obtain ⟨h1, h2⟩ := h
  refine ⟨h1, ?_⟩
  rcases h2 with h2 | ⟨g, cap, cur, h3, h4, h5⟩
  · exact .inl h2
  · exact .inr ⟨g, cap, cur, h3, Nat.le_trans hB h4, h5⟩
/-- A row that grows, beside one block that stays. -/
structure PEnc (w wk : World) (n : Nat) (X : Array Value) (t : TypeId) (v : Value) (ys : List Int) : Prop where
  row : Row wk w.heap.size v ys
  only : Only (fun _ => False) w wk
  blk : wk.heap[n]? = some (.cells X t (0, 0))
  ne : ∀ k, v.ownBlock = some k → k ≠ n
theorem PEnc.lt {w wk : World} {n : Nat} {X : Array Value} {t : TypeId} {v : Value} {ys : List Int} (h : PEnc w wk n X t v ys) : n < wk.heap.size := by
  have := h.blk
  exact (Array.getElem?_eq_some_iff.1 this).1
theorem PEnc.go {w wk wl : World} {n : Nat} {X : Array Value} {t : TypeId} {v : Value} {ys : List Int} (h : PEnc w wk n X t v ys) (ho : Only (fun _ => False) wk wl) : PEnc w wl n X t v ys :=
  ⟨h.row.only ho (fun _ _ h => h), h.only.trans ho (fun _ h => h.elim), ho.heap h.blk (fun h => h), h.ne⟩
theorem PEnc.push {w w2 w3 : World} {n : Nat} {X : Array Value} {t : TypeId} {v v' : Value} {ys zs : List Int} (h : PEnc w w2 n X t v ys)
    (hown : w3.ownsRow w.heap.size 5 1 v' (ys.length + zs.length) (ys.map (Value.int .u8) ++ zs.map (Value.int .u8))) (hg : w2.grownBy w3 v.ownBlock) (hn : ∀ k, v'.ownBlock = some k → v.ownBlock = some k ∨ w2.heap.size ≤ k) :
    PEnc w w3 n X t v' (ys ++ zs) := by
  have R := RowTo.of (Only.refl _ w2) hown hg hn
  have P := Row.push h.row h.only hown hg hn
  refine ⟨P.1, P.2, R.2.1.heap h.blk (fun hk => h.ne n hk rfl), fun k hk => ?_⟩
  rcases hn k hk with h' | h'
  · exact h.ne k h'
  · have := h.lt; omega
theorem PEnc.beside {w w2 w3 : World} {n B : Nat} {X : Array Value} {t : TypeId} {v v' u : Value} {ys zs us : List Int} (h : PEnc w w2 n X t v ys)
    (hown : w3.ownsRow w.heap.size 5 1 v' (ys.length + zs.length) (ys.map (Value.int .u8) ++ zs.map (Value.int .u8))) (hg : w2.grownBy w3 v.ownBlock) (hn : ∀ k, v'.ownBlock = some k → v.ownBlock = some k ∨ w2.heap.size ≤ k)
    (hu : Row w2 B u us) (hB : ∀ k, v.ownBlock = some k → k < B) : Row w3 B u us := by
  have R := RowTo.of (Only.refl _ w2) hown hg hn
  exact hu.only R.2.1 (fun k hk hv => by have h1 := (hu.ge k hk).1; have h2 := hB k hv; omega)
theorem encByte {zs ys : List Int} {k : Int} (h : Enc zs ys k) : Bytish ys := by
  rcases h with ⟨cs, ht, rfl, _⟩ | ⟨_, rfl, _⟩
  · exact M8s_byte ht.1
  · intro z hz; cases hz
theorem textFine {x : ByteArray} (h : ¬ TextBad x) : ∃ ys, Enc (nums x) ys 0 ∧ ys.length ≤ 256 := by
  apply Classical.byContradiction
  intro hno
  apply h
  intro ys k he
  by_cases hk : k = 0
  · subst hk
    exact .inr (Classical.byContradiction (fun h2 => hno ⟨ys, he, by omega⟩))
  · exact .inl hk
theorem PEnc.of {w wr : World} {v : Value} {ys : List Int} {X : Array Value} {t : TypeId} (h : Row wr w.heap.size v ys) (ho : Only (fun _ => False) w wr) : PEnc w (wr.alloc (.cells X t)) wr.heap.size X t v ys :=
  ⟨h.only ((Only.refl (fun _ => False) _).alloc _) (fun _ _ h => h), ho.trans ((Only.refl (fun _ => False) _).alloc _) (fun _ h => h.elim), heap_alloc_new wr _, fun k hk => by have := (h.ge k hk).2; omega⟩
theorem src1 {w : World} (z : Int) : Src (w.alloc (.cells #[.int .u8 z] 5)) 1 (.slice (some ⟨w.heap.size, 0, none⟩) 1 1) 1 ([z].map (Value.int .u8)) :=
  Src.few (w := w) (t := 5) (xs := [.int .u8 z]) (by intro x hx; simp only [List.mem_cons, List.mem_nil_iff, or_false] at hx; subst hx; rfl)
theorem src1' {w : World} {m : Nat} (z : Int) (h : w.heap.size = m) : Src (w.alloc (.cells #[.int .u8 z] 5)) 1 (.slice (some ⟨m, 0, none⟩) 1 1) 1 ([z].map (Value.int .u8)) := h ▸ src1 z
theorem src4' {w : World} {m : Nat} (a b c d : Int) (h : w.heap.size = m) : Src (w.alloc (.cells #[.int .u8 a, .int .u8 b, .int .u8 c, .int .u8 d] 5)) 1 (.slice (some ⟨m, 0, none⟩) 4 4) 4 ([a, b, c, d].map (Value.int .u8)) := by
  subst h
  exact Src.few (w := w) (t := 5) (xs := [.int .u8 a, .int .u8 b, .int .u8 c, .int .u8 d]) (by intro x hx; simp only [List.mem_cons, List.mem_nil_iff, or_false] at hx; rcases hx with rfl | rfl | rfl | rfl <;> rfl)
theorem src4 {w : World} (a b c d : Int) : Src (w.alloc (.cells #[.int .u8 a, .int .u8 b, .int .u8 c, .int .u8 d] 5)) 1 (.slice (some ⟨w.heap.size, 0, none⟩) 4 4) 4 ([a, b, c, d].map (Value.int .u8)) :=
  Src.few (w := w) (t := 5) (xs := [.int .u8 a, .int .u8 b, .int .u8 c, .int .u8 d]) (by intro x hx; simp only [List.mem_cons, List.mem_nil_iff, or_false] at hx; rcases hx with rfl | rfl | rfl | rfl <;> rfl)
theorem take_snoc1 {cs : List ConstV} {j : Nat} (h1 : 1 ≤ j) (hl : j < cs.length) : (cs.drop 1).take j = (cs.drop 1).take (j - 1) ++ [cs.getD j default] := by
  have h : (cs.drop 1)[j - 1]? = some (cs.getD j default) := by rw [List.getElem?_drop, show 1 + (j - 1) = j by omega]; simp [List.getD, hl]
  obtain ⟨m, rfl⟩ : ∃ m, j = m + 1 := ⟨j - 1, by omega⟩
  rw [List.take_add_one]
  simp only [Nat.add_sub_cancel] at h ⊢
  rw [h]
  rfl

set_option maxHeartbeats 4000000 in
set_option maxRecDepth 100000 in
theorem refPoolEnc (v : Value) (cs : List ConstV) (w : World) (hp : Pool w v cs) (ht : Texts cs) :
    Calls Tryz.prog 22 #[v] w fun e w' => ∃ v' k, e = .returned (.tuple #[v', .int .i64 k]) ∧ Only (fun _ => False) w w' ∧
      ((checkZ cs = 0 ∧ k = 0 ∧ ∃ bs, ConstsB (cs.drop 1) bs ∧ Row w' w.heap.size v' (be2 cs.length ++ bs)) ∨ (checkZ cs ≠ 0 ∧ k = checkZ cs ∧ v' = .slice none 0 0)) := by
  obtain ⟨i0, hi, hz0, hz1, hz2⟩ := info_parts info_u8
  obtain ⟨ao, cap, rfl, h1, h2, h3, h4, h5⟩ := id hp
  have Hp := Lib.hid hp
  have Ht := Lib.hid ht
  clear h3 h4 h5 hp ht
  go_enter Tryz.func22, Tryz.ntmps22
  go_wp2_with (fail)
  refine (refCheck _ cs w Hp.out Ht.out).mono ?_
  rintro e w1 ⟨rfl, ho1⟩
  obtain ⟨q, hq⟩ : ∃ q, checkZ cs = q := ⟨_, rfl⟩
  rw [hq]
  by_cases hq0 : q = 0
  · subst hq0
    obtain ⟨z1, z2, z3, z4⟩ := checkZ_zero hq
    have Hz4 := Lib.hid z4
    have Hq := Lib.hid hq
    have hpw := (Hp.out).only ho1 (fun _ _ h => h)
    have Hp1 := Lib.hid hpw
    have Ho1 := Lib.hid ho1
    clear z3 z4 hq hpw ho1
    go_wp2_with (fail)
    refine (refTwo _ _ (by omega) (by omega)).mono ?_
    rintro e w2 ⟨ao2, rfl, hrow2, ho2⟩
    have hon2 := (Ho1.out).trans ho2 (fun _ h => h.elim)
    have hrow2 := hrow2.base (Ho1.out).size
    have Hrow2 := Lib.hid hrow2
    have Hon2 := Lib.hid hon2
    clear ho2 hrow2 hon2 Hp1 Ho1
    go_wp2
    go_loopw [5, 6] (fun b i wr => ∃ (j : Nat) (bs : List Int), 1 ≤ j ∧ j ≤ cs.length ∧ i = .int .i64 j ∧ ConstsB ((cs.drop 1).take (j - 1)) bs ∧ Row wr w.heap.size b (be2 cs.length ++ bs) ∧ Only (fun _ => False) w wr) (fun _ i _ => cs.length - (intOf i).toNat)
    case atStart => exact ⟨1, [], Nat.le_refl _, z2, rfl, by simpa using ConstsB.nil, by simpa using Hrow2.out, Hon2.out⟩
    case round =>
      obtain ⟨j, bs, hj1, hj, rfl, hbs, hrow, hon⟩ := hrel
      obtain ⟨aob, capb, rfl, hc1, hc2⟩ := slice_of_owns hrow
      have hbl := hbs.len
      have hbl2 : bs.length ≤ 264957 := by
        have := List.length_take_le (j - 1) (cs.drop 1)
        omega
      clear hbl
      by_cases hlt : j < cs.length
      · have htake := take_snoc1 hj1 hlt
        have hpw := (Hp.out).only hon (fun _ _ h => h)
        obtain ⟨b, o, rfl, hc⟩ := Pool.at hpw hlt
        have hone := oneZ_zero z1 (Hz4.out j hj1 hlt)
        have htx := (Ht.out).at hlt
        have hjz : (j : Int) < (cs.length : Int) := by omega
        obtain ⟨g0, g1, g2, g3, g4⟩ := hc
        generalize cs.getD j default = c at *
        have hnext : ∀ zb, ConstB c zb → ConstsB ((cs.drop 1).take (j + 1 - 1)) (bs ++ zb) := fun zb h => by
          rw [Nat.add_sub_cancel, htake]
          exact hbs.snoc h
        obtain ⟨ys, hys⟩ : ∃ ys, be2 cs.length ++ bs = ys := ⟨_, rfl⟩
        have hyl : ys.length ≤ 264959 := by rw [← hys]; simp only [be2, List.length_append, List.length_cons, List.length_nil]; omega
        rw [hys] at hrow hc1 ⊢
        have Hys := Lib.hid hys
        have Hn := Lib.hid hnext
        have Hrow := Lib.hid hrow
        have Hon := Lib.hid hon
        have Hpw := Lib.hid hpw
        clear hys hnext hrow hon hpw htake hbs
        obtain ⟨t, x, n, a, bb⟩ := c
        simp only at *
        rcases hone with ⟨rfl, hx⟩ | ⟨rfl, hn1, hn2⟩ | rfl | ⟨rfl, ha1, ha2⟩ | ⟨htag, ⟨ha1, ha2⟩, hb1, hb2⟩
        · obtain ⟨zs, hz0e, hzl⟩ := textFine hx
          go_wp2_with (at_builtin; go_loud (refine wpList_append_src rfl (.tmp 29) (.tmp 33) 27 rfl 5 i0 (.int .u8 0) 1 1 Tryz.underlying27 hi hz0 hz1 hz2 rfl (by decide) w.heap.size (.slice aob ys.length capb) ys.length (ys.map (Value.int .u8)) rfl (by exact ((PEnc.of Hrow.out Hon.out).go ((Only.refl (fun _ => False) _).alloc _)).row) (by exact ((PEnc.of Hrow.out Hon.out).go ((Only.refl (fun _ => False) _).alloc _)).only.size) (.slice (some ⟨wr.heap.size + 1, 0, none⟩) 1 1) 1 ([(1 : Int)].map (Value.int .u8)) rfl (by exact src1' _ (by simp)) (by unfold maxLen; omega) (by omega) ?_); intro vn1 wn1 hown hgrow hnew; have st1 := PEnc.push ((PEnc.of Hrow.out Hon.out).go ((Only.refl (fun _ => False) _).alloc _)) (zs := [(1 : Int)]) hown hgrow hnew; obtain ⟨ao1, cp1, rfl, hk1, hm1⟩ := slice_of_owns st1.row; obtain ⟨y1, hy1⟩ : ∃ y1, ys ++ [(1 : Int)] = y1 := ⟨_, rfl⟩; have hl1 : y1.length = ys.length + ([(1 : Int)]).length := (by rw [← hy1, List.length_append]); rw [hy1] at st1 hk1 ⊢; have q0 := cell_blk st1.blk 0; have q1 := cell_blk st1.blk 1; have q2 := cell_blk st1.blk 2; have q3 := cell_blk st1.blk 3; have q4 := cell_blk st1.blk 4; simp at q0 q1 q2 q3 q4; have hl1' : y1.length ≤ ys.length + 1 := (by rw [hl1]; simp); have Hy1 := Lib.hid hy1; have St1 := Lib.hid st1; clear hown hgrow hnew st1 hy1 hl1 hm1)
          clear Hrow Hon Hpw g0 g1 g2 g3 g4
          go_wp2_with (fail)
          refine (refEncode x _ htx).mono ?_
          rintro e we ⟨ve, zs', ke, rfl, henc, hrowe, hone⟩
          obtain ⟨rfl, rfl⟩ := Enc.unique henc hz0e
          have hzb := encByte henc
          obtain ⟨aoe, cpe, rfl, hke, hme⟩ := slice_of_owns hrowe
          have hbe : ∀ k, (Value.slice ao1 y1.length cp1).ownBlock = some k → k < wn1.heap.size := fun k hk => ((St1.out).row.ge k hk).2
          have st1 := (St1.out).go hone
          have St1 := Lib.hid st1
          have Hrowe := Lib.hid hrowe
          have Henc := Lib.hid henc
          have q0 := cell_blk st1.blk 0
          have q1 := cell_blk st1.blk 1
          have q2 := cell_blk st1.blk 2
          have q3 := cell_blk st1.blk 3
          have q4 := cell_blk st1.blk 4
          simp at q0 q1 q2 q3 q4
          clear st1 hrowe henc hone hx hz0e
          go_wp2_with (fail)
          refine (refTwo _ _ (by omega) (by omega)).mono ?_
          rintro e wt ⟨at1, rfl, hrt, hot⟩
          have st1 := (St1.out).go hot
          have hrowe := (Hrowe.out).only hot (fun _ _ h => h)
          have Hrowe := Lib.hid hrowe
          have ht1 := Src.of_bytes (hrt.bytes (be2_byte _))
          have St1 := Lib.hid st1
          have Ht1 := Lib.hid ht1
          clear hrt hot st1 ht1 hrowe q0 q1 q2 q3 q4
          go_wp2_with (first | (at_builtin; (refine wpList_append_src rfl (.tmp 55) (.tmp 58) 27 rfl 5 i0 (.int .u8 0) 1 1 Tryz.underlying27 hi hz0 hz1 hz2 rfl (by decide) w.heap.size (.slice ao1 y1.length cp1) y1.length (y1.map (Value.int .u8)) rfl (by exact (St1.out).row) (by exact (St1.out).only.size) (.slice at1 2 2) 2 ((be2 zs'.length).map (Value.int .u8)) rfl (by exact Ht1.out) (by unfold maxLen; omega) (by omega) ?_); intro vn2 wn2 hown hgrow hnew; have Hre := Lib.hid (PEnc.beside St1.out (zs := be2 (zs'.length : Int)) hown hgrow hnew Hrowe.out hbe); have st2 := PEnc.push (St1.out) (zs := be2 zs'.length) hown hgrow hnew; obtain ⟨ao2, cp2, rfl, hk2, hm2⟩ := slice_of_owns st2.row; obtain ⟨y2, hy2⟩ : ∃ y2, y1 ++ be2 zs'.length = y2 := ⟨_, rfl⟩; have hl2 : y2.length = y1.length + (be2 zs'.length).length := (by rw [← hy2, List.length_append]); rw [hy2] at st2 hk2 ⊢; have q0 := cell_blk st2.blk 0; have q1 := cell_blk st2.blk 1; have q2 := cell_blk st2.blk 2; have q3 := cell_blk st2.blk 3; have q4 := cell_blk st2.blk 4; simp at q0 q1 q2 q3 q4; have hl2' : y2.length ≤ y1.length + 2 := (by rw [hl2]; simp [be2]); have Hy2 := Lib.hid hy2; have St2 := Lib.hid st2; clear hown hgrow hnew st2 hy2 hl2 hm2) | (at_builtin; (refine wpList_append_src rfl (.tmp 60) (.tmp 61) 27 rfl 5 i0 (.int .u8 0) 1 1 Tryz.underlying27 hi hz0 hz1 hz2 rfl (by decide) w.heap.size (.slice ao2 y2.length cp2) y2.length (y2.map (Value.int .u8)) rfl (by exact (St2.out).row) (by exact (St2.out).only.size) (.slice aoe zs'.length cpe) zs'.length (zs'.map (Value.int .u8)) rfl (by exact Src.of_bytes ((Hre.out).bytes hzb)) (by unfold maxLen; omega) (by omega) ?_); intro vn3 wn3 hown hgrow hnew; have st3 := PEnc.push (St2.out) (zs := zs') hown hgrow hnew; obtain ⟨ao3, cp3, rfl, hk3, hm3⟩ := slice_of_owns st3.row; obtain ⟨y3, hy3⟩ : ∃ y3, y2 ++ zs' = y3 := ⟨_, rfl⟩; have hl3 : y3.length = y2.length + (zs').length := (by rw [← hy3, List.length_append]); rw [hy3] at st3 hk3 ⊢; have q0 := cell_blk st3.blk 0; have q1 := cell_blk st3.blk 1; have q2 := cell_blk st3.blk 2; have q3 := cell_blk st3.blk 3; have q4 := cell_blk st3.blk 4; simp at q0 q1 q2 q3 q4; have hl3' : y3.length ≤ y2.length + 256 := (by rw [hl3]; omega); have Hy3 := Lib.hid hy3; have St3 := Lib.hid st3; clear hown hgrow hnew st3 hy3 hl3 hm3))
          go_roundw
          case measure => simp [intOf]; omega
          case rel => exact ⟨j + 1, bs ++ (1 :: be2 zs'.length ++ zs'), by omega, by omega, by go_num, Hn.out _ (.inl ⟨rfl, zs', Henc.out, hzl, rfl⟩), by have h := (St3.out).row; have e : y3 = be2 (cs.length : Int) ++ (bs ++ (1 :: be2 zs'.length ++ zs')) := (by rw [← Hy3.out, ← Hy2.out, ← Hy1.out, ← Hys.out]; simp [be2]); rw [← e]; exact h, (St3.out).only⟩
        · go_wp2_with (first | (at_builtin; (refine wpList_append_src rfl (.tmp 29) (.tmp 33) 27 rfl 5 i0 (.int .u8 0) 1 1 Tryz.underlying27 hi hz0 hz1 hz2 rfl (by decide) w.heap.size (.slice aob ys.length capb) ys.length (ys.map (Value.int .u8)) rfl (by exact ((PEnc.of Hrow.out Hon.out).go ((Only.refl (fun _ => False) _).alloc _)).row) (by exact ((PEnc.of Hrow.out Hon.out).go ((Only.refl (fun _ => False) _).alloc _)).only.size) (.slice (some ⟨wr.heap.size + 1, 0, none⟩) 1 1) 1 ([(3 : Int)].map (Value.int .u8)) rfl (by exact src1' _ (by simp)) (by unfold maxLen; omega) (by omega) ?_); intro vn1 wn1 hown hgrow hnew; have st1 := PEnc.push ((PEnc.of Hrow.out Hon.out).go ((Only.refl (fun _ => False) _).alloc _)) (zs := [(3 : Int)]) hown hgrow hnew; obtain ⟨ao1, cp1, rfl, hk1, hm1⟩ := slice_of_owns st1.row; obtain ⟨y1, hy1⟩ : ∃ y1, ys ++ [(3 : Int)] = y1 := ⟨_, rfl⟩; have hl1 : y1.length = ys.length + ([(3 : Int)]).length := (by rw [← hy1, List.length_append]); rw [hy1] at st1 hk1 ⊢; have q0 := cell_blk st1.blk 0; have q1 := cell_blk st1.blk 1; have q2 := cell_blk st1.blk 2; have q3 := cell_blk st1.blk 3; have q4 := cell_blk st1.blk 4; simp at q0 q1 q2 q3 q4; have hl1' : y1.length ≤ ys.length + 1 := (by rw [hl1]; simp); have Hy1 := Lib.hid hy1; have St1 := Lib.hid st1; clear hown hgrow hnew st1 hy1 hl1 hm1) | (at_builtin; (refine wpList_append_src rfl (.tmp 65) (.tmp 81) 27 rfl 5 i0 (.int .u8 0) 1 1 Tryz.underlying27 hi hz0 hz1 hz2 rfl (by decide) w.heap.size (.slice ao1 y1.length cp1) y1.length (y1.map (Value.int .u8)) rfl (by exact ((St1.out).go ((Only.refl (fun _ => False) _).alloc _)).row) (by exact ((St1.out).go ((Only.refl (fun _ => False) _).alloc _)).only.size) (.slice (some ⟨wn1.heap.size, 0, none⟩) 4 4) 4 ([n / 16777216 % 256, n / 65536 % 256, n / 256 % 256, n % 256].map (Value.int .u8)) rfl (by exact src4' _ _ _ _ rfl) (by unfold maxLen; omega) (by omega) ?_); intro vn2 wn2 hown hgrow hnew; have st2 := PEnc.push ((St1.out).go ((Only.refl (fun _ => False) _).alloc _)) (zs := [n / 16777216 % 256, n / 65536 % 256, n / 256 % 256, n % 256]) hown hgrow hnew; obtain ⟨ao2, cp2, rfl, hk2, hm2⟩ := slice_of_owns st2.row; obtain ⟨y2, hy2⟩ : ∃ y2, y1 ++ [n / 16777216 % 256, n / 65536 % 256, n / 256 % 256, n % 256] = y2 := ⟨_, rfl⟩; have hl2 : y2.length = y1.length + ([n / 16777216 % 256, n / 65536 % 256, n / 256 % 256, n % 256]).length := (by rw [← hy2, List.length_append]); rw [hy2] at st2 hk2 ⊢; have q0 := cell_blk st2.blk 0; have q1 := cell_blk st2.blk 1; have q2 := cell_blk st2.blk 2; have q3 := cell_blk st2.blk 3; have q4 := cell_blk st2.blk 4; simp at q0 q1 q2 q3 q4; have hl2' : y2.length ≤ y1.length + 4 := (by rw [hl2]; simp); have Hy2 := Lib.hid hy2; have St2 := Lib.hid st2; clear hown hgrow hnew st2 hy2 hl2 hm2))
          go_roundw
          case measure => simp [intOf]; omega
          case rel => exact ⟨j + 1, bs ++ (3 :: [n / 16777216 % 256, n / 65536 % 256, n / 256 % 256, n % 256]), by omega, by omega, by go_num, Hn.out _ (.inr (.inl ⟨rfl, rfl⟩)), by have h := (St2.out).row; have e : y2 = be2 (cs.length : Int) ++ (bs ++ (3 :: [n / 16777216 % 256, n / 65536 % 256, n / 256 % 256, n % 256])) := (by rw [← Hy2.out, ← Hy1.out, ← Hys.out]; simp [be2]); rw [← e]; exact h, (St2.out).only⟩
        · go_wp2_with (at_builtin; go_loud (refine wpList_append_src rfl (.tmp 29) (.tmp 33) 27 rfl 5 i0 (.int .u8 0) 1 1 Tryz.underlying27 hi hz0 hz1 hz2 rfl (by decide) w.heap.size (.slice aob ys.length capb) ys.length (ys.map (Value.int .u8)) rfl (by exact ((PEnc.of Hrow.out Hon.out).go ((Only.refl (fun _ => False) _).alloc _)).row) (by exact ((PEnc.of Hrow.out Hon.out).go ((Only.refl (fun _ => False) _).alloc _)).only.size) (.slice (some ⟨wr.heap.size + 1, 0, none⟩) 1 1) 1 ([(5 : Int)].map (Value.int .u8)) rfl (by exact src1' _ (by simp)) (by unfold maxLen; omega) (by omega) ?_); intro vn1 wn1 hown hgrow hnew; have st1 := PEnc.push ((PEnc.of Hrow.out Hon.out).go ((Only.refl (fun _ => False) _).alloc _)) (zs := [(5 : Int)]) hown hgrow hnew; obtain ⟨ao1, cp1, rfl, hk1, hm1⟩ := slice_of_owns st1.row; obtain ⟨y1, hy1⟩ : ∃ y1, ys ++ [(5 : Int)] = y1 := ⟨_, rfl⟩; have hl1 : y1.length = ys.length + ([(5 : Int)]).length := (by rw [← hy1, List.length_append]); rw [hy1] at st1 hk1 ⊢; have q0 := cell_blk st1.blk 0; have q1 := cell_blk st1.blk 1; have q2 := cell_blk st1.blk 2; have q3 := cell_blk st1.blk 3; have q4 := cell_blk st1.blk 4; simp at q0 q1 q2 q3 q4; have hl1' : y1.length ≤ ys.length + 1 := (by rw [hl1]; simp); have Hy1 := Lib.hid hy1; have St1 := Lib.hid st1; clear hown hgrow hnew st1 hy1 hl1 hm1)
          clear Hrow Hon Hpw g0 g1 g2 g3 g4
          go_loopw [5, 10] (fun b k wq => ∃ (k' : Int) (pre : List Int), k = .int .i64 k' ∧ ((k' = 56 ∧ pre = []) ∨ (k' = 48 ∧ pre = [n / 72057594037927936 % 256]) ∨ (k' = 40 ∧ pre = [n / 72057594037927936 % 256, n / 281474976710656 % 256]) ∨ (k' = 32 ∧ pre = [n / 72057594037927936 % 256, n / 281474976710656 % 256, n / 1099511627776 % 256]) ∨ (k' = 24 ∧ pre = [n / 72057594037927936 % 256, n / 281474976710656 % 256, n / 1099511627776 % 256, n / 4294967296 % 256]) ∨ (k' = 16 ∧ pre = [n / 72057594037927936 % 256, n / 281474976710656 % 256, n / 1099511627776 % 256, n / 4294967296 % 256, n / 16777216 % 256]) ∨ (k' = 8 ∧ pre = [n / 72057594037927936 % 256, n / 281474976710656 % 256, n / 1099511627776 % 256, n / 4294967296 % 256, n / 16777216 % 256, n / 65536 % 256]) ∨ (k' = 0 ∧ pre = [n / 72057594037927936 % 256, n / 281474976710656 % 256, n / 1099511627776 % 256, n / 4294967296 % 256, n / 16777216 % 256, n / 65536 % 256, n / 256 % 256]) ∨ (k' = -8 ∧ pre = [n / 72057594037927936 % 256, n / 281474976710656 % 256, n / 1099511627776 % 256, n / 4294967296 % 256, n / 16777216 % 256, n / 65536 % 256, n / 256 % 256, n % 256])) ∧ PEnc w wq wr.heap.size #[.int .i64 5, .string x, .int .i64 n, .int .i64 a, .int .i64 bb] 67 b (y1 ++ pre)) (fun _ k _ => (intOf k + 8).toNat)
          case atStart => exact ⟨56, [], rfl, .inl ⟨rfl, rfl⟩, by simpa using St1.out⟩
          case round =>
            obtain ⟨k', pre, rfl, hk, hst⟩ := hrel
            clear q0 q1 q2 q3 q4
            obtain ⟨aoq, cpq, rfl, hkq, hmq⟩ := slice_of_owns hst.row
            rcases hk with ⟨rfl, rfl⟩ | ⟨rfl, rfl⟩ | ⟨rfl, rfl⟩ | ⟨rfl, rfl⟩ | ⟨rfl, rfl⟩ | ⟨rfl, rfl⟩ | ⟨rfl, rfl⟩ | ⟨rfl, rfl⟩ | ⟨rfl, rfl⟩
            · have q2 := cell_blk hst.blk 2
              simp at q2
              obtain ⟨yq, hyq⟩ : ∃ yq, y1 ++ [] = yq := ⟨_, rfl⟩
              rw [hyq] at hst hkq ⊢
              have hlq : yq.length ≤ y1.length + 0 := by rw [← hyq]; simp
              have Hst := Lib.hid hst
              have Hyq := Lib.hid hyq
              clear hst hyq
              go_wp2_with (at_builtin; go_loud (refine wpList_append_src rfl (.tmp 89) (.tmp 95) 27 rfl 5 i0 (.int .u8 0) 1 1 Tryz.underlying27 hi hz0 hz1 hz2 rfl (by decide) w.heap.size (.slice aoq yq.length cpq) yq.length (yq.map (Value.int .u8)) rfl (by exact ((Hst.out).go ((Only.refl (fun _ => False) _).alloc _)).row) (by exact ((Hst.out).go ((Only.refl (fun _ => False) _).alloc _)).only.size) (.slice (some ⟨wr.heap.size, 0, none⟩) 1 1) 1 ([n / 72057594037927936 % 256].map (Value.int .u8)) rfl (by exact src1' _ rfl) (by unfold maxLen; omega) (by omega) ?_); intro vn2 wn2 hown hgrow hnew; have st2 := PEnc.push ((Hst.out).go ((Only.refl (fun _ => False) _).alloc _)) (zs := [n / 72057594037927936 % 256]) hown hgrow hnew; obtain ⟨ao2, cp2, rfl, hk2, hm2⟩ := slice_of_owns st2.row; obtain ⟨y2, hy2⟩ : ∃ y2, yq ++ [n / 72057594037927936 % 256] = y2 := ⟨_, rfl⟩; have hl2 : y2.length = yq.length + ([n / 72057594037927936 % 256]).length := (by rw [← hy2, List.length_append]); rw [hy2] at st2 hk2 ⊢; have hl2' : y2.length ≤ yq.length + 1 := (by rw [hl2]; simp); have Hy2 := Lib.hid hy2; have St2 := Lib.hid st2; clear hown hgrow hnew st2 hy2 hl2 hm2)
              go_roundw
              case measure => simp [intOf]
              case rel => exact ⟨48, [n / 72057594037927936 % 256], rfl, .inr (.inl ⟨rfl, rfl⟩), by have h := St2.out; have e : y2 = y1 ++ [n / 72057594037927936 % 256] := (by rw [← Hy2.out, ← Hyq.out]; simp); rw [← e]; exact h⟩
            · have q2 := cell_blk hst.blk 2
              simp at q2
              obtain ⟨yq, hyq⟩ : ∃ yq, y1 ++ [n / 72057594037927936 % 256] = yq := ⟨_, rfl⟩
              rw [hyq] at hst hkq ⊢
              have hlq : yq.length ≤ y1.length + 1 := by rw [← hyq]; simp
              have Hst := Lib.hid hst
              have Hyq := Lib.hid hyq
              clear hst hyq
              go_wp2_with (at_builtin; go_loud (refine wpList_append_src rfl (.tmp 89) (.tmp 95) 27 rfl 5 i0 (.int .u8 0) 1 1 Tryz.underlying27 hi hz0 hz1 hz2 rfl (by decide) w.heap.size (.slice aoq yq.length cpq) yq.length (yq.map (Value.int .u8)) rfl (by exact ((Hst.out).go ((Only.refl (fun _ => False) _).alloc _)).row) (by exact ((Hst.out).go ((Only.refl (fun _ => False) _).alloc _)).only.size) (.slice (some ⟨wr.heap.size, 0, none⟩) 1 1) 1 ([n / 281474976710656 % 256].map (Value.int .u8)) rfl (by exact src1' _ rfl) (by unfold maxLen; omega) (by omega) ?_); intro vn2 wn2 hown hgrow hnew; have st2 := PEnc.push ((Hst.out).go ((Only.refl (fun _ => False) _).alloc _)) (zs := [n / 281474976710656 % 256]) hown hgrow hnew; obtain ⟨ao2, cp2, rfl, hk2, hm2⟩ := slice_of_owns st2.row; obtain ⟨y2, hy2⟩ : ∃ y2, yq ++ [n / 281474976710656 % 256] = y2 := ⟨_, rfl⟩; have hl2 : y2.length = yq.length + ([n / 281474976710656 % 256]).length := (by rw [← hy2, List.length_append]); rw [hy2] at st2 hk2 ⊢; have hl2' : y2.length ≤ yq.length + 1 := (by rw [hl2]; simp); have Hy2 := Lib.hid hy2; have St2 := Lib.hid st2; clear hown hgrow hnew st2 hy2 hl2 hm2)
              go_roundw
              case measure => simp [intOf]
              case rel => exact ⟨40, [n / 72057594037927936 % 256, n / 281474976710656 % 256], rfl, .inr (.inr (.inl ⟨rfl, rfl⟩)), by have h := St2.out; have e : y2 = y1 ++ [n / 72057594037927936 % 256, n / 281474976710656 % 256] := (by rw [← Hy2.out, ← Hyq.out]; simp); rw [← e]; exact h⟩
            · have q2 := cell_blk hst.blk 2
              simp at q2
              obtain ⟨yq, hyq⟩ : ∃ yq, y1 ++ [n / 72057594037927936 % 256, n / 281474976710656 % 256] = yq := ⟨_, rfl⟩
              rw [hyq] at hst hkq ⊢
              have hlq : yq.length ≤ y1.length + 2 := by rw [← hyq]; simp
              have Hst := Lib.hid hst
              have Hyq := Lib.hid hyq
              clear hst hyq
              go_wp2_with (at_builtin; go_loud (refine wpList_append_src rfl (.tmp 89) (.tmp 95) 27 rfl 5 i0 (.int .u8 0) 1 1 Tryz.underlying27 hi hz0 hz1 hz2 rfl (by decide) w.heap.size (.slice aoq yq.length cpq) yq.length (yq.map (Value.int .u8)) rfl (by exact ((Hst.out).go ((Only.refl (fun _ => False) _).alloc _)).row) (by exact ((Hst.out).go ((Only.refl (fun _ => False) _).alloc _)).only.size) (.slice (some ⟨wr.heap.size, 0, none⟩) 1 1) 1 ([n / 1099511627776 % 256].map (Value.int .u8)) rfl (by exact src1' _ rfl) (by unfold maxLen; omega) (by omega) ?_); intro vn2 wn2 hown hgrow hnew; have st2 := PEnc.push ((Hst.out).go ((Only.refl (fun _ => False) _).alloc _)) (zs := [n / 1099511627776 % 256]) hown hgrow hnew; obtain ⟨ao2, cp2, rfl, hk2, hm2⟩ := slice_of_owns st2.row; obtain ⟨y2, hy2⟩ : ∃ y2, yq ++ [n / 1099511627776 % 256] = y2 := ⟨_, rfl⟩; have hl2 : y2.length = yq.length + ([n / 1099511627776 % 256]).length := (by rw [← hy2, List.length_append]); rw [hy2] at st2 hk2 ⊢; have hl2' : y2.length ≤ yq.length + 1 := (by rw [hl2]; simp); have Hy2 := Lib.hid hy2; have St2 := Lib.hid st2; clear hown hgrow hnew st2 hy2 hl2 hm2)
              go_roundw
              case measure => simp [intOf]
              case rel => exact ⟨32, [n / 72057594037927936 % 256, n / 281474976710656 % 256, n / 1099511627776 % 256], rfl, .inr (.inr (.inr (.inl ⟨rfl, rfl⟩))), by have h := St2.out; have e : y2 = y1 ++ [n / 72057594037927936 % 256, n / 281474976710656 % 256, n / 1099511627776 % 256] := (by rw [← Hy2.out, ← Hyq.out]; simp); rw [← e]; exact h⟩
            · have q2 := cell_blk hst.blk 2
              simp at q2
              obtain ⟨yq, hyq⟩ : ∃ yq, y1 ++ [n / 72057594037927936 % 256, n / 281474976710656 % 256, n / 1099511627776 % 256] = yq := ⟨_, rfl⟩
              rw [hyq] at hst hkq ⊢
              have hlq : yq.length ≤ y1.length + 3 := by rw [← hyq]; simp
              have Hst := Lib.hid hst
              have Hyq := Lib.hid hyq
              clear hst hyq
              go_wp2_with (at_builtin; go_loud (refine wpList_append_src rfl (.tmp 89) (.tmp 95) 27 rfl 5 i0 (.int .u8 0) 1 1 Tryz.underlying27 hi hz0 hz1 hz2 rfl (by decide) w.heap.size (.slice aoq yq.length cpq) yq.length (yq.map (Value.int .u8)) rfl (by exact ((Hst.out).go ((Only.refl (fun _ => False) _).alloc _)).row) (by exact ((Hst.out).go ((Only.refl (fun _ => False) _).alloc _)).only.size) (.slice (some ⟨wr.heap.size, 0, none⟩) 1 1) 1 ([n / 4294967296 % 256].map (Value.int .u8)) rfl (by exact src1' _ rfl) (by unfold maxLen; omega) (by omega) ?_); intro vn2 wn2 hown hgrow hnew; have st2 := PEnc.push ((Hst.out).go ((Only.refl (fun _ => False) _).alloc _)) (zs := [n / 4294967296 % 256]) hown hgrow hnew; obtain ⟨ao2, cp2, rfl, hk2, hm2⟩ := slice_of_owns st2.row; obtain ⟨y2, hy2⟩ : ∃ y2, yq ++ [n / 4294967296 % 256] = y2 := ⟨_, rfl⟩; have hl2 : y2.length = yq.length + ([n / 4294967296 % 256]).length := (by rw [← hy2, List.length_append]); rw [hy2] at st2 hk2 ⊢; have hl2' : y2.length ≤ yq.length + 1 := (by rw [hl2]; simp); have Hy2 := Lib.hid hy2; have St2 := Lib.hid st2; clear hown hgrow hnew st2 hy2 hl2 hm2)
              go_roundw
              case measure => simp [intOf]
              case rel => exact ⟨24, [n / 72057594037927936 % 256, n / 281474976710656 % 256, n / 1099511627776 % 256, n / 4294967296 % 256], rfl, .inr (.inr (.inr (.inr (.inl ⟨rfl, rfl⟩)))), by have h := St2.out; have e : y2 = y1 ++ [n / 72057594037927936 % 256, n / 281474976710656 % 256, n / 1099511627776 % 256, n / 4294967296 % 256] := (by rw [← Hy2.out, ← Hyq.out]; simp); rw [← e]; exact h⟩
            · have q2 := cell_blk hst.blk 2
              simp at q2
              obtain ⟨yq, hyq⟩ : ∃ yq, y1 ++ [n / 72057594037927936 % 256, n / 281474976710656 % 256, n / 1099511627776 % 256, n / 4294967296 % 256] = yq := ⟨_, rfl⟩
              rw [hyq] at hst hkq ⊢
              have hlq : yq.length ≤ y1.length + 4 := by rw [← hyq]; simp
              have Hst := Lib.hid hst
              have Hyq := Lib.hid hyq
              clear hst hyq
              go_wp2_with (at_builtin; go_loud (refine wpList_append_src rfl (.tmp 89) (.tmp 95) 27 rfl 5 i0 (.int .u8 0) 1 1 Tryz.underlying27 hi hz0 hz1 hz2 rfl (by decide) w.heap.size (.slice aoq yq.length cpq) yq.length (yq.map (Value.int .u8)) rfl (by exact ((Hst.out).go ((Only.refl (fun _ => False) _).alloc _)).row) (by exact ((Hst.out).go ((Only.refl (fun _ => False) _).alloc _)).only.size) (.slice (some ⟨wr.heap.size, 0, none⟩) 1 1) 1 ([n / 16777216 % 256].map (Value.int .u8)) rfl (by exact src1' _ rfl) (by unfold maxLen; omega) (by omega) ?_); intro vn2 wn2 hown hgrow hnew; have st2 := PEnc.push ((Hst.out).go ((Only.refl (fun _ => False) _).alloc _)) (zs := [n / 16777216 % 256]) hown hgrow hnew; obtain ⟨ao2, cp2, rfl, hk2, hm2⟩ := slice_of_owns st2.row; obtain ⟨y2, hy2⟩ : ∃ y2, yq ++ [n / 16777216 % 256] = y2 := ⟨_, rfl⟩; have hl2 : y2.length = yq.length + ([n / 16777216 % 256]).length := (by rw [← hy2, List.length_append]); rw [hy2] at st2 hk2 ⊢; have hl2' : y2.length ≤ yq.length + 1 := (by rw [hl2]; simp); have Hy2 := Lib.hid hy2; have St2 := Lib.hid st2; clear hown hgrow hnew st2 hy2 hl2 hm2)
              go_roundw
              case measure => simp [intOf]
              case rel => exact ⟨16, [n / 72057594037927936 % 256, n / 281474976710656 % 256, n / 1099511627776 % 256, n / 4294967296 % 256, n / 16777216 % 256], rfl, .inr (.inr (.inr (.inr (.inr (.inl ⟨rfl, rfl⟩))))), by have h := St2.out; have e : y2 = y1 ++ [n / 72057594037927936 % 256, n / 281474976710656 % 256, n / 1099511627776 % 256, n / 4294967296 % 256, n / 16777216 % 256] := (by rw [← Hy2.out, ← Hyq.out]; simp); rw [← e]; exact h⟩
            · have q2 := cell_blk hst.blk 2
              simp at q2
              obtain ⟨yq, hyq⟩ : ∃ yq, y1 ++ [n / 72057594037927936 % 256, n / 281474976710656 % 256, n / 1099511627776 % 256, n / 4294967296 % 256, n / 16777216 % 256] = yq := ⟨_, rfl⟩
              rw [hyq] at hst hkq ⊢
              have hlq : yq.length ≤ y1.length + 5 := by rw [← hyq]; simp
              have Hst := Lib.hid hst
              have Hyq := Lib.hid hyq
              clear hst hyq
              go_wp2_with (at_builtin; go_loud (refine wpList_append_src rfl (.tmp 89) (.tmp 95) 27 rfl 5 i0 (.int .u8 0) 1 1 Tryz.underlying27 hi hz0 hz1 hz2 rfl (by decide) w.heap.size (.slice aoq yq.length cpq) yq.length (yq.map (Value.int .u8)) rfl (by exact ((Hst.out).go ((Only.refl (fun _ => False) _).alloc _)).row) (by exact ((Hst.out).go ((Only.refl (fun _ => False) _).alloc _)).only.size) (.slice (some ⟨wr.heap.size, 0, none⟩) 1 1) 1 ([n / 65536 % 256].map (Value.int .u8)) rfl (by exact src1' _ rfl) (by unfold maxLen; omega) (by omega) ?_); intro vn2 wn2 hown hgrow hnew; have st2 := PEnc.push ((Hst.out).go ((Only.refl (fun _ => False) _).alloc _)) (zs := [n / 65536 % 256]) hown hgrow hnew; obtain ⟨ao2, cp2, rfl, hk2, hm2⟩ := slice_of_owns st2.row; obtain ⟨y2, hy2⟩ : ∃ y2, yq ++ [n / 65536 % 256] = y2 := ⟨_, rfl⟩; have hl2 : y2.length = yq.length + ([n / 65536 % 256]).length := (by rw [← hy2, List.length_append]); rw [hy2] at st2 hk2 ⊢; have hl2' : y2.length ≤ yq.length + 1 := (by rw [hl2]; simp); have Hy2 := Lib.hid hy2; have St2 := Lib.hid st2; clear hown hgrow hnew st2 hy2 hl2 hm2)
              go_roundw
              case measure => simp [intOf]
              case rel => exact ⟨8, [n / 72057594037927936 % 256, n / 281474976710656 % 256, n / 1099511627776 % 256, n / 4294967296 % 256, n / 16777216 % 256, n / 65536 % 256], rfl, .inr (.inr (.inr (.inr (.inr (.inr (.inl ⟨rfl, rfl⟩)))))), by have h := St2.out; have e : y2 = y1 ++ [n / 72057594037927936 % 256, n / 281474976710656 % 256, n / 1099511627776 % 256, n / 4294967296 % 256, n / 16777216 % 256, n / 65536 % 256] := (by rw [← Hy2.out, ← Hyq.out]; simp); rw [← e]; exact h⟩
            · have q2 := cell_blk hst.blk 2
              simp at q2
              obtain ⟨yq, hyq⟩ : ∃ yq, y1 ++ [n / 72057594037927936 % 256, n / 281474976710656 % 256, n / 1099511627776 % 256, n / 4294967296 % 256, n / 16777216 % 256, n / 65536 % 256] = yq := ⟨_, rfl⟩
              rw [hyq] at hst hkq ⊢
              have hlq : yq.length ≤ y1.length + 6 := by rw [← hyq]; simp
              have Hst := Lib.hid hst
              have Hyq := Lib.hid hyq
              clear hst hyq
              go_wp2_with (at_builtin; go_loud (refine wpList_append_src rfl (.tmp 89) (.tmp 95) 27 rfl 5 i0 (.int .u8 0) 1 1 Tryz.underlying27 hi hz0 hz1 hz2 rfl (by decide) w.heap.size (.slice aoq yq.length cpq) yq.length (yq.map (Value.int .u8)) rfl (by exact ((Hst.out).go ((Only.refl (fun _ => False) _).alloc _)).row) (by exact ((Hst.out).go ((Only.refl (fun _ => False) _).alloc _)).only.size) (.slice (some ⟨wr.heap.size, 0, none⟩) 1 1) 1 ([n / 256 % 256].map (Value.int .u8)) rfl (by exact src1' _ rfl) (by unfold maxLen; omega) (by omega) ?_); intro vn2 wn2 hown hgrow hnew; have st2 := PEnc.push ((Hst.out).go ((Only.refl (fun _ => False) _).alloc _)) (zs := [n / 256 % 256]) hown hgrow hnew; obtain ⟨ao2, cp2, rfl, hk2, hm2⟩ := slice_of_owns st2.row; obtain ⟨y2, hy2⟩ : ∃ y2, yq ++ [n / 256 % 256] = y2 := ⟨_, rfl⟩; have hl2 : y2.length = yq.length + ([n / 256 % 256]).length := (by rw [← hy2, List.length_append]); rw [hy2] at st2 hk2 ⊢; have hl2' : y2.length ≤ yq.length + 1 := (by rw [hl2]; simp); have Hy2 := Lib.hid hy2; have St2 := Lib.hid st2; clear hown hgrow hnew st2 hy2 hl2 hm2)
              go_roundw
              case measure => simp [intOf]
              case rel => exact ⟨0, [n / 72057594037927936 % 256, n / 281474976710656 % 256, n / 1099511627776 % 256, n / 4294967296 % 256, n / 16777216 % 256, n / 65536 % 256, n / 256 % 256], rfl, .inr (.inr (.inr (.inr (.inr (.inr (.inr (.inl ⟨rfl, rfl⟩))))))), by have h := St2.out; have e : y2 = y1 ++ [n / 72057594037927936 % 256, n / 281474976710656 % 256, n / 1099511627776 % 256, n / 4294967296 % 256, n / 16777216 % 256, n / 65536 % 256, n / 256 % 256] := (by rw [← Hy2.out, ← Hyq.out]; simp); rw [← e]; exact h⟩
            · have q2 := cell_blk hst.blk 2
              simp at q2
              obtain ⟨yq, hyq⟩ : ∃ yq, y1 ++ [n / 72057594037927936 % 256, n / 281474976710656 % 256, n / 1099511627776 % 256, n / 4294967296 % 256, n / 16777216 % 256, n / 65536 % 256, n / 256 % 256] = yq := ⟨_, rfl⟩
              rw [hyq] at hst hkq ⊢
              have hlq : yq.length ≤ y1.length + 7 := by rw [← hyq]; simp
              have Hst := Lib.hid hst
              have Hyq := Lib.hid hyq
              clear hst hyq
              go_wp2_with (at_builtin; go_loud (refine wpList_append_src rfl (.tmp 89) (.tmp 95) 27 rfl 5 i0 (.int .u8 0) 1 1 Tryz.underlying27 hi hz0 hz1 hz2 rfl (by decide) w.heap.size (.slice aoq yq.length cpq) yq.length (yq.map (Value.int .u8)) rfl (by exact ((Hst.out).go ((Only.refl (fun _ => False) _).alloc _)).row) (by exact ((Hst.out).go ((Only.refl (fun _ => False) _).alloc _)).only.size) (.slice (some ⟨wr.heap.size, 0, none⟩) 1 1) 1 ([n % 256].map (Value.int .u8)) rfl (by exact src1' _ rfl) (by unfold maxLen; omega) (by omega) ?_); intro vn2 wn2 hown hgrow hnew; have st2 := PEnc.push ((Hst.out).go ((Only.refl (fun _ => False) _).alloc _)) (zs := [n % 256]) hown hgrow hnew; obtain ⟨ao2, cp2, rfl, hk2, hm2⟩ := slice_of_owns st2.row; obtain ⟨y2, hy2⟩ : ∃ y2, yq ++ [n % 256] = y2 := ⟨_, rfl⟩; have hl2 : y2.length = yq.length + ([n % 256]).length := (by rw [← hy2, List.length_append]); rw [hy2] at st2 hk2 ⊢; have hl2' : y2.length ≤ yq.length + 1 := (by rw [hl2]; simp); have Hy2 := Lib.hid hy2; have St2 := Lib.hid st2; clear hown hgrow hnew st2 hy2 hl2 hm2)
              go_roundw
              case measure => simp [intOf]
              case rel => exact ⟨-8, [n / 72057594037927936 % 256, n / 281474976710656 % 256, n / 1099511627776 % 256, n / 4294967296 % 256, n / 16777216 % 256, n / 65536 % 256, n / 256 % 256, n % 256], rfl, .inr (.inr (.inr (.inr (.inr (.inr (.inr (.inr (⟨rfl, rfl⟩)))))))), by have h := St2.out; have e : y2 = y1 ++ [n / 72057594037927936 % 256, n / 281474976710656 % 256, n / 1099511627776 % 256, n / 4294967296 % 256, n / 16777216 % 256, n / 65536 % 256, n / 256 % 256, n % 256] := (by rw [← Hy2.out, ← Hyq.out]; simp); rw [← e]; exact h⟩
            · obtain ⟨y9, hy9⟩ : ∃ y9, y1 ++ [n / 72057594037927936 % 256, n / 281474976710656 % 256, n / 1099511627776 % 256, n / 4294967296 % 256, n / 16777216 % 256, n / 65536 % 256, n / 256 % 256, n % 256] = y9 := ⟨_, rfl⟩
              rw [hy9] at hst hkq ⊢
              have Hst := Lib.hid hst
              have Hy9 := Lib.hid hy9
              clear hst hy9
              go_wp2
              go_roundw
              case measure => simp [intOf]; omega
              case rel => exact ⟨j + 1, bs ++ (5 :: [n / 72057594037927936 % 256, n / 281474976710656 % 256, n / 1099511627776 % 256, n / 4294967296 % 256, n / 16777216 % 256, n / 65536 % 256, n / 256 % 256, n % 256]), by omega, by omega, by go_num, Hn.out _ (.inr (.inr (.inl ⟨rfl, rfl⟩))), by have h := (Hst.out).row; have e : y9 = be2 (cs.length : Int) ++ (bs ++ (5 :: [n / 72057594037927936 % 256, n / 281474976710656 % 256, n / 1099511627776 % 256, n / 4294967296 % 256, n / 16777216 % 256, n / 65536 % 256, n / 256 % 256, n % 256])) := (by rw [← Hy9.out, ← Hy1.out, ← Hys.out]; simp [be2]); rw [← e]; exact h, (Hst.out).only⟩
        · go_wp2_with (at_builtin; go_loud (refine wpList_append_src rfl (.tmp 29) (.tmp 33) 27 rfl 5 i0 (.int .u8 0) 1 1 Tryz.underlying27 hi hz0 hz1 hz2 rfl (by decide) w.heap.size (.slice aob ys.length capb) ys.length (ys.map (Value.int .u8)) rfl (by exact ((PEnc.of Hrow.out Hon.out).go ((Only.refl (fun _ => False) _).alloc _)).row) (by exact ((PEnc.of Hrow.out Hon.out).go ((Only.refl (fun _ => False) _).alloc _)).only.size) (.slice (some ⟨wr.heap.size + 1, 0, none⟩) 1 1) 1 ([(7 : Int)].map (Value.int .u8)) rfl (by exact src1' _ (by simp)) (by unfold maxLen; omega) (by omega) ?_); intro vn1 wn1 hown hgrow hnew; have st1 := PEnc.push ((PEnc.of Hrow.out Hon.out).go ((Only.refl (fun _ => False) _).alloc _)) (zs := [(7 : Int)]) hown hgrow hnew; obtain ⟨ao1, cp1, rfl, hk1, hm1⟩ := slice_of_owns st1.row; obtain ⟨y1, hy1⟩ : ∃ y1, ys ++ [(7 : Int)] = y1 := ⟨_, rfl⟩; have hl1 : y1.length = ys.length + ([(7 : Int)]).length := (by rw [← hy1, List.length_append]); rw [hy1] at st1 hk1 ⊢; have q0 := cell_blk st1.blk 0; have q1 := cell_blk st1.blk 1; have q2 := cell_blk st1.blk 2; have q3 := cell_blk st1.blk 3; have q4 := cell_blk st1.blk 4; simp at q0 q1 q2 q3 q4; have hl1' : y1.length ≤ ys.length + 1 := (by rw [hl1]; simp); have Hy1 := Lib.hid hy1; have St1 := Lib.hid st1; clear hown hgrow hnew st1 hy1 hl1 hm1)
          clear Hrow Hon Hpw g0 g1 g2 g3 g4
          go_wp2_with (fail)
          refine (refTwo _ _ (by omega) (by omega)).mono ?_
          rintro e wt1 ⟨at1, rfl, hrt1, hot1⟩
          have st1 := (St1.out).go hot1
          have ht1 := Src.of_bytes (hrt1.bytes (be2_byte _))
          have St1 := Lib.hid st1
          have Ht1 := Lib.hid ht1
          clear hrt1 hot1 st1 ht1 q0 q1 q2 q3 q4
          go_wp2_with (at_builtin; go_loud (refine wpList_append_src rfl (.tmp 99) (.tmp 102) 27 rfl 5 i0 (.int .u8 0) 1 1 Tryz.underlying27 hi hz0 hz1 hz2 rfl (by decide) w.heap.size (.slice ao1 y1.length cp1) y1.length (y1.map (Value.int .u8)) rfl (by exact (St1.out).row) (by exact (St1.out).only.size) (.slice at1 2 2) 2 ((be2 a).map (Value.int .u8)) rfl (by exact Ht1.out) (by unfold maxLen; omega) (by omega) ?_); intro vn2 wn2 hown hgrow hnew; have st2 := PEnc.push (St1.out) (zs := be2 a) hown hgrow hnew; obtain ⟨ao2, cp2, rfl, hk2, hm2⟩ := slice_of_owns st2.row; obtain ⟨y2, hy2⟩ : ∃ y2, y1 ++ be2 a = y2 := ⟨_, rfl⟩; have hl2 : y2.length = y1.length + (be2 a).length := (by rw [← hy2, List.length_append]); rw [hy2] at st2 hk2 ⊢; have q0 := cell_blk st2.blk 0; have q1 := cell_blk st2.blk 1; have q2 := cell_blk st2.blk 2; have q3 := cell_blk st2.blk 3; have q4 := cell_blk st2.blk 4; simp at q0 q1 q2 q3 q4; have hl2' : y2.length ≤ y1.length + 2 := (by rw [hl2]; simp [be2]); have Hy2 := Lib.hid hy2; have St2 := Lib.hid st2; clear hown hgrow hnew st2 hy2 hl2 hm2)
          go_wp2
          go_roundw
          case measure => simp [intOf]; omega
          case rel => exact ⟨j + 1, bs ++ (7 :: be2 a), by omega, by omega, by go_num, Hn.out _ (.inr (.inr (.inr (.inl ⟨rfl, rfl⟩)))), by have h := (St2.out).row; have e : y2 = be2 (cs.length : Int) ++ (bs ++ (7 :: be2 a)) := (by rw [← Hy2.out, ← Hy1.out, ← Hys.out]; simp [be2]); rw [← e]; exact h, (St2.out).only⟩
        · rcases htag with rfl | rfl | rfl
          · go_wp2_with (at_builtin; go_loud (refine wpList_append_src rfl (.tmp 29) (.tmp 33) 27 rfl 5 i0 (.int .u8 0) 1 1 Tryz.underlying27 hi hz0 hz1 hz2 rfl (by decide) w.heap.size (.slice aob ys.length capb) ys.length (ys.map (Value.int .u8)) rfl (by exact ((PEnc.of Hrow.out Hon.out).go ((Only.refl (fun _ => False) _).alloc _)).row) (by exact ((PEnc.of Hrow.out Hon.out).go ((Only.refl (fun _ => False) _).alloc _)).only.size) (.slice (some ⟨wr.heap.size + 1, 0, none⟩) 1 1) 1 ([(9 : Int)].map (Value.int .u8)) rfl (by exact src1' _ (by simp)) (by unfold maxLen; omega) (by omega) ?_); intro vn1 wn1 hown hgrow hnew; have st1 := PEnc.push ((PEnc.of Hrow.out Hon.out).go ((Only.refl (fun _ => False) _).alloc _)) (zs := [(9 : Int)]) hown hgrow hnew; obtain ⟨ao1, cp1, rfl, hk1, hm1⟩ := slice_of_owns st1.row; obtain ⟨y1, hy1⟩ : ∃ y1, ys ++ [(9 : Int)] = y1 := ⟨_, rfl⟩; have hl1 : y1.length = ys.length + ([(9 : Int)]).length := (by rw [← hy1, List.length_append]); rw [hy1] at st1 hk1 ⊢; have q0 := cell_blk st1.blk 0; have q1 := cell_blk st1.blk 1; have q2 := cell_blk st1.blk 2; have q3 := cell_blk st1.blk 3; have q4 := cell_blk st1.blk 4; simp at q0 q1 q2 q3 q4; have hl1' : y1.length ≤ ys.length + 1 := (by rw [hl1]; simp); have Hy1 := Lib.hid hy1; have St1 := Lib.hid st1; clear hown hgrow hnew st1 hy1 hl1 hm1)
            clear Hrow Hon Hpw g0 g1 g2 g3 g4
            go_wp2_with (fail)
            refine (refTwo _ _ (by omega) (by omega)).mono ?_
            rintro e wt1 ⟨at1, rfl, hrt1, hot1⟩
            have st1 := (St1.out).go hot1
            have ht1 := Src.of_bytes (hrt1.bytes (be2_byte _))
            have St1 := Lib.hid st1
            have Ht1 := Lib.hid ht1
            clear hrt1 hot1 st1 ht1 q0 q1 q2 q3 q4
            go_wp2_with (at_builtin; go_loud (refine wpList_append_src rfl (.tmp 37) (.tmp 40) 27 rfl 5 i0 (.int .u8 0) 1 1 Tryz.underlying27 hi hz0 hz1 hz2 rfl (by decide) w.heap.size (.slice ao1 y1.length cp1) y1.length (y1.map (Value.int .u8)) rfl (by exact (St1.out).row) (by exact (St1.out).only.size) (.slice at1 2 2) 2 ((be2 a).map (Value.int .u8)) rfl (by exact Ht1.out) (by unfold maxLen; omega) (by omega) ?_); intro vn2 wn2 hown hgrow hnew; have st2 := PEnc.push (St1.out) (zs := be2 a) hown hgrow hnew; obtain ⟨ao2, cp2, rfl, hk2, hm2⟩ := slice_of_owns st2.row; obtain ⟨y2, hy2⟩ : ∃ y2, y1 ++ be2 a = y2 := ⟨_, rfl⟩; have hl2 : y2.length = y1.length + (be2 a).length := (by rw [← hy2, List.length_append]); rw [hy2] at st2 hk2 ⊢; have q0 := cell_blk st2.blk 0; have q1 := cell_blk st2.blk 1; have q2 := cell_blk st2.blk 2; have q3 := cell_blk st2.blk 3; have q4 := cell_blk st2.blk 4; simp at q0 q1 q2 q3 q4; have hl2' : y2.length ≤ y1.length + 2 := (by rw [hl2]; simp [be2]); have Hy2 := Lib.hid hy2; have St2 := Lib.hid st2; clear hown hgrow hnew st2 hy2 hl2 hm2)
            go_wp2_with (fail)
            refine (refTwo _ _ (by omega) (by omega)).mono ?_
            rintro e wt2 ⟨at2, rfl, hrt2, hot2⟩
            have st2 := (St2.out).go hot2
            have ht2 := Src.of_bytes (hrt2.bytes (be2_byte _))
            have St2 := Lib.hid st2
            have Ht2 := Lib.hid ht2
            clear hrt2 hot2 st2 ht2 q0 q1 q2 q3 q4
            go_wp2_with (at_builtin; go_loud (refine wpList_append_src rfl (.tmp 42) (.tmp 45) 27 rfl 5 i0 (.int .u8 0) 1 1 Tryz.underlying27 hi hz0 hz1 hz2 rfl (by decide) w.heap.size (.slice ao2 y2.length cp2) y2.length (y2.map (Value.int .u8)) rfl (by exact (St2.out).row) (by exact (St2.out).only.size) (.slice at2 2 2) 2 ((be2 bb).map (Value.int .u8)) rfl (by exact Ht2.out) (by unfold maxLen; omega) (by omega) ?_); intro vn3 wn3 hown hgrow hnew; have st3 := PEnc.push (St2.out) (zs := be2 bb) hown hgrow hnew; obtain ⟨ao3, cp3, rfl, hk3, hm3⟩ := slice_of_owns st3.row; obtain ⟨y3, hy3⟩ : ∃ y3, y2 ++ be2 bb = y3 := ⟨_, rfl⟩; have hl3 : y3.length = y2.length + (be2 bb).length := (by rw [← hy3, List.length_append]); rw [hy3] at st3 hk3 ⊢; have q0 := cell_blk st3.blk 0; have q1 := cell_blk st3.blk 1; have q2 := cell_blk st3.blk 2; have q3 := cell_blk st3.blk 3; have q4 := cell_blk st3.blk 4; simp at q0 q1 q2 q3 q4; have hl3' : y3.length ≤ y2.length + 2 := (by rw [hl3]; simp [be2]); have Hy3 := Lib.hid hy3; have St3 := Lib.hid st3; clear hown hgrow hnew st3 hy3 hl3 hm3)
            go_wp2
            go_roundw
            case measure => simp [intOf]; omega
            case rel => exact ⟨j + 1, bs ++ (9 :: be2 a ++ be2 bb), by omega, by omega, by go_num, Hn.out _ (.inr (.inr (.inr (.inr ⟨.inl rfl, rfl⟩)))), by have h := (St3.out).row; have e : y3 = be2 (cs.length : Int) ++ (bs ++ (9 :: be2 a ++ be2 bb)) := (by rw [← Hy3.out, ← Hy2.out, ← Hy1.out, ← Hys.out]; simp [be2]); rw [← e]; exact h, (St3.out).only⟩
          · go_wp2_with (at_builtin; go_loud (refine wpList_append_src rfl (.tmp 29) (.tmp 33) 27 rfl 5 i0 (.int .u8 0) 1 1 Tryz.underlying27 hi hz0 hz1 hz2 rfl (by decide) w.heap.size (.slice aob ys.length capb) ys.length (ys.map (Value.int .u8)) rfl (by exact ((PEnc.of Hrow.out Hon.out).go ((Only.refl (fun _ => False) _).alloc _)).row) (by exact ((PEnc.of Hrow.out Hon.out).go ((Only.refl (fun _ => False) _).alloc _)).only.size) (.slice (some ⟨wr.heap.size + 1, 0, none⟩) 1 1) 1 ([(10 : Int)].map (Value.int .u8)) rfl (by exact src1' _ (by simp)) (by unfold maxLen; omega) (by omega) ?_); intro vn1 wn1 hown hgrow hnew; have st1 := PEnc.push ((PEnc.of Hrow.out Hon.out).go ((Only.refl (fun _ => False) _).alloc _)) (zs := [(10 : Int)]) hown hgrow hnew; obtain ⟨ao1, cp1, rfl, hk1, hm1⟩ := slice_of_owns st1.row; obtain ⟨y1, hy1⟩ : ∃ y1, ys ++ [(10 : Int)] = y1 := ⟨_, rfl⟩; have hl1 : y1.length = ys.length + ([(10 : Int)]).length := (by rw [← hy1, List.length_append]); rw [hy1] at st1 hk1 ⊢; have q0 := cell_blk st1.blk 0; have q1 := cell_blk st1.blk 1; have q2 := cell_blk st1.blk 2; have q3 := cell_blk st1.blk 3; have q4 := cell_blk st1.blk 4; simp at q0 q1 q2 q3 q4; have hl1' : y1.length ≤ ys.length + 1 := (by rw [hl1]; simp); have Hy1 := Lib.hid hy1; have St1 := Lib.hid st1; clear hown hgrow hnew st1 hy1 hl1 hm1)
            clear Hrow Hon Hpw g0 g1 g2 g3 g4
            go_wp2_with (fail)
            refine (refTwo _ _ (by omega) (by omega)).mono ?_
            rintro e wt1 ⟨at1, rfl, hrt1, hot1⟩
            have st1 := (St1.out).go hot1
            have ht1 := Src.of_bytes (hrt1.bytes (be2_byte _))
            have St1 := Lib.hid st1
            have Ht1 := Lib.hid ht1
            clear hrt1 hot1 st1 ht1 q0 q1 q2 q3 q4
            go_wp2_with (at_builtin; go_loud (refine wpList_append_src rfl (.tmp 37) (.tmp 40) 27 rfl 5 i0 (.int .u8 0) 1 1 Tryz.underlying27 hi hz0 hz1 hz2 rfl (by decide) w.heap.size (.slice ao1 y1.length cp1) y1.length (y1.map (Value.int .u8)) rfl (by exact (St1.out).row) (by exact (St1.out).only.size) (.slice at1 2 2) 2 ((be2 a).map (Value.int .u8)) rfl (by exact Ht1.out) (by unfold maxLen; omega) (by omega) ?_); intro vn2 wn2 hown hgrow hnew; have st2 := PEnc.push (St1.out) (zs := be2 a) hown hgrow hnew; obtain ⟨ao2, cp2, rfl, hk2, hm2⟩ := slice_of_owns st2.row; obtain ⟨y2, hy2⟩ : ∃ y2, y1 ++ be2 a = y2 := ⟨_, rfl⟩; have hl2 : y2.length = y1.length + (be2 a).length := (by rw [← hy2, List.length_append]); rw [hy2] at st2 hk2 ⊢; have q0 := cell_blk st2.blk 0; have q1 := cell_blk st2.blk 1; have q2 := cell_blk st2.blk 2; have q3 := cell_blk st2.blk 3; have q4 := cell_blk st2.blk 4; simp at q0 q1 q2 q3 q4; have hl2' : y2.length ≤ y1.length + 2 := (by rw [hl2]; simp [be2]); have Hy2 := Lib.hid hy2; have St2 := Lib.hid st2; clear hown hgrow hnew st2 hy2 hl2 hm2)
            go_wp2_with (fail)
            refine (refTwo _ _ (by omega) (by omega)).mono ?_
            rintro e wt2 ⟨at2, rfl, hrt2, hot2⟩
            have st2 := (St2.out).go hot2
            have ht2 := Src.of_bytes (hrt2.bytes (be2_byte _))
            have St2 := Lib.hid st2
            have Ht2 := Lib.hid ht2
            clear hrt2 hot2 st2 ht2 q0 q1 q2 q3 q4
            go_wp2_with (at_builtin; go_loud (refine wpList_append_src rfl (.tmp 42) (.tmp 45) 27 rfl 5 i0 (.int .u8 0) 1 1 Tryz.underlying27 hi hz0 hz1 hz2 rfl (by decide) w.heap.size (.slice ao2 y2.length cp2) y2.length (y2.map (Value.int .u8)) rfl (by exact (St2.out).row) (by exact (St2.out).only.size) (.slice at2 2 2) 2 ((be2 bb).map (Value.int .u8)) rfl (by exact Ht2.out) (by unfold maxLen; omega) (by omega) ?_); intro vn3 wn3 hown hgrow hnew; have st3 := PEnc.push (St2.out) (zs := be2 bb) hown hgrow hnew; obtain ⟨ao3, cp3, rfl, hk3, hm3⟩ := slice_of_owns st3.row; obtain ⟨y3, hy3⟩ : ∃ y3, y2 ++ be2 bb = y3 := ⟨_, rfl⟩; have hl3 : y3.length = y2.length + (be2 bb).length := (by rw [← hy3, List.length_append]); rw [hy3] at st3 hk3 ⊢; have q0 := cell_blk st3.blk 0; have q1 := cell_blk st3.blk 1; have q2 := cell_blk st3.blk 2; have q3 := cell_blk st3.blk 3; have q4 := cell_blk st3.blk 4; simp at q0 q1 q2 q3 q4; have hl3' : y3.length ≤ y2.length + 2 := (by rw [hl3]; simp [be2]); have Hy3 := Lib.hid hy3; have St3 := Lib.hid st3; clear hown hgrow hnew st3 hy3 hl3 hm3)
            go_wp2
            go_roundw
            case measure => simp [intOf]; omega
            case rel => exact ⟨j + 1, bs ++ (10 :: be2 a ++ be2 bb), by omega, by omega, by go_num, Hn.out _ (.inr (.inr (.inr (.inr ⟨.inr (.inl rfl), rfl⟩)))), by have h := (St3.out).row; have e : y3 = be2 (cs.length : Int) ++ (bs ++ (10 :: be2 a ++ be2 bb)) := (by rw [← Hy3.out, ← Hy2.out, ← Hy1.out, ← Hys.out]; simp [be2]); rw [← e]; exact h, (St3.out).only⟩
          · go_wp2_with (at_builtin; go_loud (refine wpList_append_src rfl (.tmp 29) (.tmp 33) 27 rfl 5 i0 (.int .u8 0) 1 1 Tryz.underlying27 hi hz0 hz1 hz2 rfl (by decide) w.heap.size (.slice aob ys.length capb) ys.length (ys.map (Value.int .u8)) rfl (by exact ((PEnc.of Hrow.out Hon.out).go ((Only.refl (fun _ => False) _).alloc _)).row) (by exact ((PEnc.of Hrow.out Hon.out).go ((Only.refl (fun _ => False) _).alloc _)).only.size) (.slice (some ⟨wr.heap.size + 1, 0, none⟩) 1 1) 1 ([(12 : Int)].map (Value.int .u8)) rfl (by exact src1' _ (by simp)) (by unfold maxLen; omega) (by omega) ?_); intro vn1 wn1 hown hgrow hnew; have st1 := PEnc.push ((PEnc.of Hrow.out Hon.out).go ((Only.refl (fun _ => False) _).alloc _)) (zs := [(12 : Int)]) hown hgrow hnew; obtain ⟨ao1, cp1, rfl, hk1, hm1⟩ := slice_of_owns st1.row; obtain ⟨y1, hy1⟩ : ∃ y1, ys ++ [(12 : Int)] = y1 := ⟨_, rfl⟩; have hl1 : y1.length = ys.length + ([(12 : Int)]).length := (by rw [← hy1, List.length_append]); rw [hy1] at st1 hk1 ⊢; have q0 := cell_blk st1.blk 0; have q1 := cell_blk st1.blk 1; have q2 := cell_blk st1.blk 2; have q3 := cell_blk st1.blk 3; have q4 := cell_blk st1.blk 4; simp at q0 q1 q2 q3 q4; have hl1' : y1.length ≤ ys.length + 1 := (by rw [hl1]; simp); have Hy1 := Lib.hid hy1; have St1 := Lib.hid st1; clear hown hgrow hnew st1 hy1 hl1 hm1)
            clear Hrow Hon Hpw g0 g1 g2 g3 g4
            go_wp2_with (fail)
            refine (refTwo _ _ (by omega) (by omega)).mono ?_
            rintro e wt1 ⟨at1, rfl, hrt1, hot1⟩
            have st1 := (St1.out).go hot1
            have ht1 := Src.of_bytes (hrt1.bytes (be2_byte _))
            have St1 := Lib.hid st1
            have Ht1 := Lib.hid ht1
            clear hrt1 hot1 st1 ht1 q0 q1 q2 q3 q4
            go_wp2_with (at_builtin; go_loud (refine wpList_append_src rfl (.tmp 37) (.tmp 40) 27 rfl 5 i0 (.int .u8 0) 1 1 Tryz.underlying27 hi hz0 hz1 hz2 rfl (by decide) w.heap.size (.slice ao1 y1.length cp1) y1.length (y1.map (Value.int .u8)) rfl (by exact (St1.out).row) (by exact (St1.out).only.size) (.slice at1 2 2) 2 ((be2 a).map (Value.int .u8)) rfl (by exact Ht1.out) (by unfold maxLen; omega) (by omega) ?_); intro vn2 wn2 hown hgrow hnew; have st2 := PEnc.push (St1.out) (zs := be2 a) hown hgrow hnew; obtain ⟨ao2, cp2, rfl, hk2, hm2⟩ := slice_of_owns st2.row; obtain ⟨y2, hy2⟩ : ∃ y2, y1 ++ be2 a = y2 := ⟨_, rfl⟩; have hl2 : y2.length = y1.length + (be2 a).length := (by rw [← hy2, List.length_append]); rw [hy2] at st2 hk2 ⊢; have q0 := cell_blk st2.blk 0; have q1 := cell_blk st2.blk 1; have q2 := cell_blk st2.blk 2; have q3 := cell_blk st2.blk 3; have q4 := cell_blk st2.blk 4; simp at q0 q1 q2 q3 q4; have hl2' : y2.length ≤ y1.length + 2 := (by rw [hl2]; simp [be2]); have Hy2 := Lib.hid hy2; have St2 := Lib.hid st2; clear hown hgrow hnew st2 hy2 hl2 hm2)
            go_wp2_with (fail)
            refine (refTwo _ _ (by omega) (by omega)).mono ?_
            rintro e wt2 ⟨at2, rfl, hrt2, hot2⟩
            have st2 := (St2.out).go hot2
            have ht2 := Src.of_bytes (hrt2.bytes (be2_byte _))
            have St2 := Lib.hid st2
            have Ht2 := Lib.hid ht2
            clear hrt2 hot2 st2 ht2 q0 q1 q2 q3 q4
            go_wp2_with (at_builtin; go_loud (refine wpList_append_src rfl (.tmp 42) (.tmp 45) 27 rfl 5 i0 (.int .u8 0) 1 1 Tryz.underlying27 hi hz0 hz1 hz2 rfl (by decide) w.heap.size (.slice ao2 y2.length cp2) y2.length (y2.map (Value.int .u8)) rfl (by exact (St2.out).row) (by exact (St2.out).only.size) (.slice at2 2 2) 2 ((be2 bb).map (Value.int .u8)) rfl (by exact Ht2.out) (by unfold maxLen; omega) (by omega) ?_); intro vn3 wn3 hown hgrow hnew; have st3 := PEnc.push (St2.out) (zs := be2 bb) hown hgrow hnew; obtain ⟨ao3, cp3, rfl, hk3, hm3⟩ := slice_of_owns st3.row; obtain ⟨y3, hy3⟩ : ∃ y3, y2 ++ be2 bb = y3 := ⟨_, rfl⟩; have hl3 : y3.length = y2.length + (be2 bb).length := (by rw [← hy3, List.length_append]); rw [hy3] at st3 hk3 ⊢; have q0 := cell_blk st3.blk 0; have q1 := cell_blk st3.blk 1; have q2 := cell_blk st3.blk 2; have q3 := cell_blk st3.blk 3; have q4 := cell_blk st3.blk 4; simp at q0 q1 q2 q3 q4; have hl3' : y3.length ≤ y2.length + 2 := (by rw [hl3]; simp [be2]); have Hy3 := Lib.hid hy3; have St3 := Lib.hid st3; clear hown hgrow hnew st3 hy3 hl3 hm3)
            go_wp2
            go_roundw
            case measure => simp [intOf]; omega
            case rel => exact ⟨j + 1, bs ++ (12 :: be2 a ++ be2 bb), by omega, by omega, by go_num, Hn.out _ (.inr (.inr (.inr (.inr ⟨.inr (.inr rfl), rfl⟩)))), by have h := (St3.out).row; have e : y3 = be2 (cs.length : Int) ++ (bs ++ (12 :: be2 a ++ be2 bb)) := (by rw [← Hy3.out, ← Hy2.out, ← Hy1.out, ← Hys.out]; simp [be2]); rw [← e]; exact h, (St3.out).only⟩
      · have hjn : j = cs.length := by omega
        subst hjn
        go_wp2
        go_ret2
        exact ⟨_, _, rfl, hon, .inl ⟨Hq.out, rfl, bs, by rw [List.take_of_length_le (by simp)] at hbs; exact hbs, hrow⟩⟩
  · go_wp2
    go_ret2
    exact ⟨_, _, rfl, ho1, .inr ⟨by rw [hq]; exact hq0, hq.symm, rfl⟩⟩
end Go.Proofs.YtodhdiccfobcfaaGreatDoor
