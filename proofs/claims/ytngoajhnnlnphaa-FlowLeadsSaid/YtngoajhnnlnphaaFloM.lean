/- The program's List: all instructions of a code. No condition beyond a length that leaves room. -/
import Derived.RangeFuncBox
import Derived.Test.YtngoajhnnlnphaaFloI
namespace Go.Proofs.Ytngoajhnnlnphaa
open Go.RowKit Go.Shelf
set_option linter.unusedVariables false
set_option linter.unusedSimpArgs false
attribute [local go_sem] Oper.semAt_some

/-- An append of what lies in a block, with the word on the new value's block, inside a fence. -/
theorem wpListIn_append_two {F : Fence} {n : Nat} {P : Program} (w : World) {ops : Array Oper} {rest : List Oper} {o : Oper} {a : Act} {Q : Exit → Act → World → Prop} (hgd : o.guard = none) (s x : Operand) (t : TypeId)
    (ho : o.op = .call { callee := .builtin .append, args := #[s, x], argTypes := #[t, t] })
    (e : TypeId) (i : TypeInfo) (z : Value) (size bytes : Nat) (ht : P.underlying t = some (.slice e)) (hi : P.info? e = some i) (hz : i.zero = some z)
    (hsize : i.size = size) (hby : i.bytes = bytes) (hzs : z.cells.size = size) (hsz : 0 < size)
    (base : Nat) (v : Value) (k : Nat) (xs : List Value) (hs : a.eval s = v) (hown : w.ownsRow base e size v k xs) (hbase : base ≤ w.heap.size)
    (ad : Addr) (m c : Nat) (news : List Value) (hx : a.eval x = .slice (some ad) m c) (hl : news.length = m * size) (hnews : ∀ j u, news[j]? = some u → w.cell? (ad.add j) = some u) (h1 : ∀ u ∈ news, u.oneCell' = true)
    (h63 : k + m ≤ maxLen) (hbytes : (k + m) * bytes ≤ 140737488355328)
    (h : ∀ v' w', w'.ownsRow base e size v' (k + m) (xs ++ news) → w.grownBy w' v.ownBlock → (∀ k, v'.ownBlock = some k → v.ownBlock = some k ∨ w.heap.size ≤ k) → wpListIn F n P ops Q rest (a.put o.dst v') w') :
    wpListIn F n P ops Q (o :: rest) a w := by
  refine wpListIn_plain hgd fun K hK => ?_
  obtain ⟨v', w', hr, h2, h3, h4⟩ := run_append_two (P := P) w t o.type e i z size bytes ht hi hz hsize hby hzs hsz base v k xs hown hbase ad m c news hl hnews h1 h63 hbytes
  unfold Oper.wpIn
  refine ⟨?_, ?_⟩
  · simp [Oper.about, ho, resolve, Target.leads, Sem.run_pure]
  · rw [Oper.semAt_plain F _ _ (by rw [ho]; intro c hc; cases hc)]
    simp [execOp, ho, resolve, invoke, builtin, hs, hx, hr, Result.andThen]
    exact hK _ _ (h v' w' h2 h3 h4)

/-- Behind an append into the loop's own variable all else is kept. -/
theorem keepL_append {W w1 : World} {n0 B : Nat} {t e : TypeId} {size : Nat} {v v' : Value} {k m : Nat} {xs ys : List Value} {tmp : Obj} (hv : Boxed W B t v) (hte : t ≠ e) (hrow : W.ownsRow n0 e size v k xs)
    (hown : w1.ownsRow n0 e size v' m ys) (hg : (W.alloc tmp).grownBy w1 v.ownBlock) (hnew : ∀ k, v'.ownBlock = some k → v.ownBlock = some k ∨ (W.alloc tmp).heap.size ≤ k) : KeepL B W (w1.setCell ⟨B, 0, none⟩ v') := by
  intro _
  have hv1 : Boxed w1 B t v := (hv.alloc tmp).kept hg (hv.not_row hte hrow)
  have hv2 := hv1.set v'
  have hsz : W.heap.size < w1.heap.size := by have := hg.size; rw [World.size_alloc] at this; omega
  have hsz2 : (w1.setCell ⟨B, 0, none⟩ v').heap.size = w1.heap.size := by simp [World.setCell]
  refine ⟨by omega, ⟨v', hv2.cell, fun b hb => by rw [hsz2]; exact (hown.lt b hb).2⟩, fun i hi => ?_, fun a u hc hn => ?_⟩
  · rcases hi with rfl | ⟨u, hu, e1⟩
    · exact .inl (.inl rfl)
    · rw [hv2.cell] at hu
      cases hu
      rcases hnew i e1 with h | h
      · exact .inl (.inr ⟨v, hv.cell, h⟩)
      · exact .inr (by rw [World.size_alloc] at h; omega)
  · have hlt := World.block_lt_of_cell? W a hc
    have n1 : a.block ≠ B := fun e => hn (.inl e)
    have n2 : some a.block ≠ v.ownBlock := fun e => hn (.inr ⟨v, hv.cell, e.symm⟩)
    have e1 : (W.alloc tmp).heap[a.block]? = W.heap[a.block]? := Below.heap_alloc _ _ _ hlt
    have e2 : w1.heap[a.block]? = (W.alloc tmp).heap[a.block]? := hg.block _ (by rw [World.size_alloc]; omega) n2
    have e3 : (w1.setCell ⟨B, 0, none⟩ v').heap[a.block]? = w1.heap[a.block]? := Below.heap_setCell _ _ _ _ n1
    exact (World.cell?_of_block (e3.trans (e2.trans e1))).trans hc
/-- Another variable behind the same append. -/
theorem other_box {W w1 : World} {n0 B B' : Nat} {t t' e : TypeId} {size : Nat} {v u u' : Value} {k : Nat} {xs : List Value} {tmp : Obj} (h : Boxed W B t u) (hte : t ≠ e) (hrow : W.ownsRow n0 e size v k xs)
    (hg : (W.alloc tmp).grownBy w1 v.ownBlock) (hne : B ≠ B') (hb : Boxed w1 B' t' u') : ∀ x, Boxed (w1.setCell ⟨B', 0, none⟩ x) B t u :=
  fun x => ((h.alloc tmp).kept hg (h.not_row hte hrow)).other hne x
theorem own_slice {W : World} {base : Nat} {e : TypeId} {size : Nat} {v : Value} {k : Nat} {xs : List Value} (h : W.ownsRow base e size v k xs) : ∃ ao cap, v = .slice ao k cap := by
  rcases h.2 with ⟨rfl, rfl⟩ | ⟨g, cap, _, rfl, _⟩
  · exact ⟨none, 0, rfl⟩
  · exact ⟨_, cap, rfl⟩
theorem heap_kept {X Y : World} {B : Nat} {o : Obj} {row : Option Nat} (h : X.heap[B]? = some o) (hc : o.isCells = true) (hg : X.grownBy Y row) (hr : ∀ r, row = some r → ∃ o : Obj, X.heap[r]? = some o ∧ o.isCells = false) : Y.heap[B]? = some o :=
  (hg.block B (heap_lt h) (fun e => by obtain ⟨o', h1, h2⟩ := hr B e.symm; rw [h] at h1; cases h1; rw [hc] at h2; cases h2)).trans h
theorem boxed_kept {X Y : World} {B : Nat} {t : TypeId} {v : Value} {row : Option Nat} (h : Boxed X B t v) (hg : X.grownBy Y row) (hr : ∀ r, row = some r → ∃ o : Obj, X.heap[r]? = some o ∧ o.isCells = false) : Boxed Y B t v :=
  heap_kept (show X.heap[B]? = _ from h) rfl hg hr
theorem cells5_news (W : World) (c : InstrV) (t : TypeId) : ∀ j u, (cellsI c)[j]? = some u → (W.alloc (.cells #[.int .i64 c.at_, .int .i64 c.op, .int .i64 c.a, .int .i64 c.b, .int .i64 c.size] t)).cell? ((⟨W.heap.size, 0, none⟩ : Addr).add j) = some u := by
  intro j u hj
  rw [add_lit, Nat.zero_add, cell_blk (heap_alloc_new W _)]
  simpa [cellsI] using hj
theorem last_snoc {α : Type} {pre q : List α} {x y : α} (h : pre ++ [x] = q ++ [y]) : y = x := by
  have := congrArg List.getLast? h
  simpa using this.symm
theorem fst_goods (l : List InstrV) : (goods l).map (·.1) = l := by simp [goods, Function.comp_def]

set_option maxHeartbeats 16000000 in
set_option maxRecDepth 100000 in
theorem progList (v : Value) (zs : List Int) (w : World) (hb : Bytes w v zs) (hl : zs.length ≤ 4194304) :
    Calls Try.prog 9 #[v] w (ListTo w zs) := by
  obtain ⟨i0, hi, hz0, hz1, hz2⟩ := info_parts info_instr
  obtain ⟨ao, cap, rfl, p1, p2, p3, -, -⟩ := id hb
  refine (callsIn_wide (n := 9)).1 ?_
  refine callsIn_of_wp_marks Try.func9 rfl trivial ?_ rfl
  simp only [Try.ntmps9, List.size_toArray, List.length_cons, List.length_nil, Nat.reduceAdd, Nat.reduceSub, Array.replicate_succ, Array.replicate_zero, List.push_toArray, List.append_toArray, List.nil_append, List.cons_append]
  gi_wp2_with (fail)
  refine ⟨trivial, (callsIn_wide.2 (instrs_in ao zs.length cap _)).mono ?_⟩
  rintro e w' ⟨rfl, rfl⟩
  gi_wp2
  have b0 := (((Boxed.new w 23 (.slice none 0 0)).alloc (.cells #[.int .i64 0] 24)).alloc (.cells #[.slice none 0 0] 23)).alloc (.cells #[.slice ao zs.length cap] 22)
  have b1 := ((Boxed.new (w.alloc (.cells #[.slice none 0 0] 23)) 24 (.int .i64 0)).alloc (.cells #[.slice none 0 0] 23)).alloc (.cells #[.slice ao zs.length cap] 22)
  have b2 := (Boxed.new ((w.alloc (.cells #[.slice none 0 0] 23)).alloc (.cells #[.int .i64 0] 24)) 23 (.slice none 0 0)).alloc (.cells #[.slice ao zs.length cap] 22)
  have b3 := Boxed.new (((w.alloc (.cells #[.slice none 0 0] 23)).alloc (.cells #[.int .i64 0] 24)).alloc (.cells #[.slice none 0 0] 23)) 22 (.slice ao zs.length cap)
  have ho := ((((Only.refl (fun _ => False) w).alloc (.cells #[.slice none 0 0] 23)).alloc (.cells #[.int .i64 0] 24)).alloc (.cells #[.slice none 0 0] 23)).alloc (.cells #[.slice ao zs.length cap] 22)
  have hsz : ((((w.alloc (.cells #[.slice none 0 0] 23)).alloc (.cells #[.int .i64 0] 24)).alloc (.cells #[.slice none 0 0] 23)).alloc (.cells #[.slice ao zs.length cap] 22)).heap.size = w.heap.size + 4 := by simp
  simp only [World.size_alloc] at b1 b2 b3
  obtain ⟨W0, hW0⟩ : ∃ W0, ((((w.alloc (.cells #[.slice none 0 0] 23)).alloc (.cells #[.int .i64 0] 24)).alloc (.cells #[.slice none 0 0] 23)).alloc (.cells #[.slice ao zs.length cap] 22)) = W0 := ⟨_, rfl⟩
  rw [hW0] at b0 b1 b2 b3 ho hsz ⊢
  clear hW0
  have hb0 := hb.only ho (fun _ _ _ h => h)
  have hbB : ∀ k, Value.ownBlock (.slice ao zs.length cap) = some k → zs ≠ [] → k ≠ w.heap.size + 1 + 1 := by
    intro k hk hz
    obtain ⟨ao', cap', e1, _, _, _, _, hc⟩ := hb
    injection e1 with e1 _ _
    subst e1
    cases ao with
    | none => simp [Value.ownBlock] at hk
    | some x =>
      have hk' : x.block = k := by simpa [Value.ownBlock] using hk
      have hlen : 0 < zs.length := List.length_pos_iff.2 hz
      have := World.block_lt_of_cell? w _ (hc x rfl 0 hlen)
      rw [add_block, hk'] at this
      omega
  have HB := Lib.hid hb
  clear p3 hb
  refine wpIn_rangeFunc_ownH (F := Fence.wide) rfl (by decide) (gf := 28) (lb := #[.pointer (some ⟨w.heap.size + 1 + 1 + 1, 0, none⟩)]) rfl trivial (enters_of Try.func28 (by kernel_rfl) rfl)
    (encs := encI) (Kp := KeepL (w.heap.size + 1 + 1)) (S := SeqFin zs) (Sp := SeqCut zs) (N := zs.length) (w0 := W0)
    (fun l J Jx W hW hJ hJx hY h0 => instr_in 8 (by decide) (.slice ao zs.length cap) zs W0 (w.heap.size + 1 + 1 + 1) (w.heap.size + 1 + 1) hb0 (by omega) b3.cell (by omega) (by omega) hbB l J Jx W
      (fun s X Y h ho => hJ s X Y none h (only_grown0 ho) (fun r e => by cases e)) hY ((SeeL.start b2.cell).only (by omega) (Only.of_below hW _)) h0)
    (fun h k => KeepL.trans h k) (fun W l o o' h1 h2 h3 h4 => keepL_b W l o o' h1 h2 h3 h4) (Below.refl _ _) (fun _ => rfl)
    (fun pre W => ((∃ v, Boxed W (w.heap.size + 1 + 1) 23 v ∧ W.ownsRow w.heap.size 39 5 v pre.length ((pre.map (·.1)).flatMap cellsI) ∧ ∀ x ∈ pre, x.2 = 0) ∧ (Boxed W w.heap.size 23 (.slice none 0 0) ∧ Boxed W (w.heap.size + 1) 24 (.int .i64 0))) ∧ Below w.heap.size w W)
    (fun c pre W => (c = .ret ∧ ∃ e : Int, e ≠ 0 ∧ (∀ q x, pre = q ++ [x] → x.2 = e) ∧ Boxed W w.heap.size 23 (.slice none 0 0) ∧ Boxed W (w.heap.size + 1) 24 (.int .i64 e)) ∧ Below w.heap.size w W)
    (OwnFrom.and (OwnFrom.and (Own.from (holdsRow_own w.heap.size (w.heap.size + 1 + 1) 23 39 5 (fun pre : List (InstrV × Int) => pre.length) (fun pre => (pre.map (·.1)).flatMap cellsI) (fun pre _ => ∀ x ∈ pre, x.2 = 0)) _)
      (OwnFrom.and (Own.from (boxed_own _ _ _) _) (Own.from (boxed_own _ _ _) _))) (ownFrom_below (Nat.le_refl _) (by omega)))
    (fun c => OwnFrom.and (Own.from (fun s X Y row hs hg hr => by
      obtain ⟨hc, e, he, hq, h1, h2⟩ := hs
      exact ⟨hc, e, he, hq, boxed_kept h1 hg hr, boxed_kept h2 hg hr⟩) _) (ownFrom_below (Nat.le_refl _) (by omega)))
    ⟨⟨⟨_, b2, World.ownsRow_nil _ _ _ _, fun x hx => by cases hx⟩, b0, b1⟩, ho.none⟩
    (fun x a' W => ∃ Bx, W.heap[Bx]? = some (.cells #[.int .i64 x.1.at_, .int .i64 x.1.op, .int .i64 x.1.a, .int .i64 x.1.b, .int .i64 x.1.size] 39 (0, 0)) ∧ a' = { tmps := #[.slice ao zs.length cap, undef, .pointer (some ⟨w.heap.size, 0, none⟩), .pointer (some ⟨w.heap.size + 1, 0, none⟩), .pointer (some ⟨w.heap.size + 1 + 1, 0, none⟩), .pointer (some ⟨Bx, 0, none⟩), .int .i64 x.2, .slice ao zs.length cap, .func (.func 28) #[] #[.pointer (some ⟨w.heap.size + 1 + 1 + 1, 0, none⟩)], .agg #[.int .i64 x.1.at_, .int .i64 x.1.op, .int .i64 x.1.a, .int .i64 x.1.b, .int .i64 x.1.size], .int .i64 x.2, undef, undef, undef, undef, undef, undef, undef, undef], defers := [] })
    (fun x a' _ X Y row hs hg hr => by obtain ⟨Bx, h1, h2⟩ := hs; exact ⟨Bx, heap_kept h1 rfl hg (fun r e => (hr r e).2), h2⟩)
    ?assign ?body ?done ?stop
  case assign =>
    rintro l pre x W K ⟨⟨⟨v, bL, hrow, hz⟩, bR, bE⟩, hB⟩ hK
    have hnew := heap_alloc_new W (.cells #[.int .i64 x.1.at_, .int .i64 x.1.op, .int .i64 x.1.a, .int .i64 x.1.b, .int .i64 x.1.size] 39)
    gi_wp2
    exact hK _ _ ((KeepsOthers.alloc _ _).from _) (keepL_only ((Only.refl _ W).alloc _)) ⟨⟨⟨v, bL.alloc _, hrow.alloc _, hz⟩, bR.alloc _, bE.alloc _⟩, hB.alloc hB.size _⟩ ⟨W.heap.size, hnew, rfl⟩
  case body =>
    rintro l pre ⟨k, e⟩ a' W hl2 ⟨r, hr⟩ ⟨⟨⟨v, bL, hrow, hz⟩, bR, bE⟩, hB⟩ ⟨Bx, hx, rfl⟩ hlt
    dsimp only at hx
    have cL := bL.cell
    have cR := bR.cell
    have fR := bR.frozen
    have cE := bE.cell
    have fE := bE.frozen
    have HL := Lib.hid bL
    have HR := Lib.hid bR
    have HE := Lib.hid bE
    have HROW := Lib.hid hrow
    have HB1 := Lib.hid hB
    have hsz1 := hB.size
    have HZ := Lib.hid hz
    obtain ⟨q0, q1, q2, q3, q4⟩ := cells5 hx
    clear bL bR bE hrow hB hz hr hx hl2 hb0 hbB b0 b1 b2 b3 ho
    by_cases he : e = 0
    · subst he
      gi_wp2_with (gi_at_builtin; go_loud (refine wpListIn_append_two _ rfl (.tmp 14) (.tmp 16) 23 rfl 39 i0 (.agg #[.int .i64 0, .int .i64 0, .int .i64 0, .int .i64 0, .int .i64 0]) 5 40 Try.underlying23 hi hz0 hz1 hz2 rfl (by decide) w.heap.size v pre.length ((pre.map (·.1)).flatMap cellsI) rfl (by exact HROW.out.alloc _) (by simp; omega) ⟨W.heap.size, 0, none⟩ 1 1 (cellsI k) rfl rfl (cells5_news W k _) (by simp [cellsI, Value.oneCell']) (by unfold maxLen; omega) (by omega) ?_); intro v' w1 hown hgrow hnew; obtain ⟨g', cap', rfl⟩ := ownsRow_succ hown; have hkp := keepL_append HL.out (by decide) HROW.out hown hgrow hnew; obtain ⟨hv1, hv2, hr2, hk2, hb2⟩ := HL.out.appended (by decide) HROW.out hsz1 (by omega) hown hgrow; have hR2 := other_box HR.out (by decide) HROW.out hgrow (by omega) hv1; have hE2 := other_box HE.out (by decide) HROW.out hgrow (by omega) hv1; have hc1 := hv1.cell; have hf1 := hv1.frozen)
      refine ⟨hk2.from _, hkp, ⟨⟨_, hv2, ?_, ?_⟩, hR2 _, hE2 _⟩, HB1.out.trans hb2⟩
      · rw [List.length_append, List.map_append, List.flatMap_append]
        simpa using hr2
      · intro x hx
        rcases List.mem_append.1 hx with hx | hx
        · exact HZ.out x hx
        · simp at hx
          rw [hx]
    · have he1 : (e != 0) = true := by rw [bne_iff_ne]; exact he
      gi_wp2
      have h1 := (HR.out.set (.slice none 0 0)).other (B' := w.heap.size + 1) (by omega) (.int .i64 e)
      have h2 := (HE.out.other (B' := w.heap.size) (by omega) (.slice none 0 0)).set (.int .i64 e)
      refine ⟨((KeepsOthers.setCell _ _ _).trans (KeepsOthers.setCell _ _ _)).from _, ⟨rfl, e, he, ?_, h1, h2⟩, (HB1.out.setCell (p := ⟨w.heap.size, 0, none⟩) (Nat.le_refl _) _).setCell (p := ⟨w.heap.size + 1, 0, none⟩) (by simp) _⟩
      intro q x hq
      rw [last_snoc hq]
  case done =>
    rintro D xs W hD hS ⟨⟨⟨v, bL, hrow, hz⟩, bR, bE⟩, hB⟩ hK
    obtain ⟨ao2, cap2, rfl⟩ := own_slice hrow
    have cL := bL.cell
    have cR := bR.cell
    have fR := bR.frozen
    have cE := bE.cell
    have fE := bE.frozen
    have hLs : Listed zs (xs.map (·.1)) 0 := by
      rcases hS with ⟨l, rfl, h⟩ | ⟨l, p, e, rfl, he, _⟩
      · rw [fst_goods]
        exact .inl ⟨rfl, h⟩
      · exact absurd (hz (zeroI, e) (by simp)) he
    have g1 := (bR.set (.slice ao2 xs.length cap2)).other (B' := w.heap.size + 1) (by omega) (.int .i64 0)
    have g2 := (bE.other (B' := w.heap.size) (by omega) (.slice ao2 xs.length cap2)).set (.int .i64 0)
    have hr1 := hrow.kept (grownBy_setCell' W w.heap.size (.slice ao2 xs.length cap2)) (.inr (bR.not_row (by decide) hrow).symm)
    have hr2 := hr1.kept (grownBy_setCell' _ (w.heap.size + 1) (.int .i64 0)) (.inr ((bE.other (B' := w.heap.size) (by omega) (.slice ao2 xs.length cap2)).not_row (by decide) hr1).symm)
    have hK2 := ((KeepsOthers.setCell W ⟨w.heap.size, 0, none⟩ (.slice ao2 xs.length cap2)).trans (KeepsOthers.setCell _ ⟨w.heap.size + 1, 0, none⟩ (.int .i64 0))).same D _ hK rfl
    have hB2 := ((hB.setCell (p := ⟨w.heap.size, 0, none⟩) (Nat.le_refl _) (.slice ao2 xs.length cap2)).setCell (p := ⟨w.heap.size + 1, 0, none⟩) (by simp) (.int .i64 0)).trans (belowK_b (w := w) (Nat.le_refl _) _ D _ (.deferred none) (by omega) hK2 rfl rfl)
    have hc1 := cell_putObj (o' := .deferred none) hK2 rfl _ _ g1.cell
    have hc2 := cell_putObj (o' := .deferred none) hK2 rfl _ _ g2.cell
    have hr3 := ownsRow_putObj hr2 (.deferred none) hK2 rfl
    gi_wp2
    refine ⟨by simp, .inl ⟨_, _, rfl, run_takeDeferred hK2, ?_⟩⟩
    refine ⟨.tuple #[.slice ao2 xs.length cap2, .int .i64 0], by simp [results, Try.f9, go_sem, hc1, hc2], _, xs.map (·.1), 0, rfl, hLs, Only.of_below hB2 _, ?_⟩
    unfold IRow
    rw [List.length_map]
    exact hr3
  case stop =>
    rintro D c pre W hD hS ⟨⟨rfl, e, he, hq, bR, bE⟩, hB⟩ hK
    have cR := bR.cell
    have cE := bE.cell
    have hLs : Listed zs [] e := by
      obtain ⟨l, p, x, rfl, hr, hp, hd⟩ := hS
      have hx := hq _ _ rfl
      rcases dec_case (zs.drop p) p with ⟨e', _, _, hne, hd'⟩ | ⟨k, hd'⟩
      · rw [hd'] at hd
        subst hd
        simp only at hx
        subst hx
        exact hr.err hp hd' he
      · rw [hd'] at hd
        subst hd
        exact absurd hx.symm he
    have hB2 := hB.trans (belowK_b (w := w) (Nat.le_refl _) _ D _ (.deferred none) (by omega) hK rfl rfl)
    have hc1 := cell_putObj (o' := .deferred none) hK rfl _ _ bR.cell
    have hc2 := cell_putObj (o' := .deferred none) hK rfl _ _ bE.cell
    gi_wp2
    refine ⟨by simp, .inl ⟨_, _, rfl, run_takeDeferred hK, ?_⟩⟩
    exact ⟨.tuple #[.slice none 0 0, .int .i64 e], by simp [results, Try.f9, go_sem, hc1, hc2], _, [], e, rfl, hLs, Only.of_below hB2 _, IRow.nil _ _⟩
end Go.Proofs.Ytngoajhnnlnphaa
