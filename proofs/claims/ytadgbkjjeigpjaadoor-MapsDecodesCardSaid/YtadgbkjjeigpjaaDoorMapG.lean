/- The program reads the next map. No condition beyond a reader that was made. -/
import Derived.Test.YtadgbkjjeigpjaaDoorMapS
import Derived.Test.YtadgbkjjeigpjaaDoorMapF
namespace Go.Proofs.YtadgbkjjeigpjaaDoor
open Go.RowKit
set_option linter.unusedVariables false
set_option linter.unusedSimpArgs false

theorem listP_len {α : Type} {p : Pr α} : ∀ {n : Nat} {zs : List Int} {k k' : Nat} {l : List α}, listP p n zs k = .ok (l, k') → l.length = n
  | 0, zs, k, k', l, h => by
    unfold listP retP at h
    injection h with h
    injection h with h
    subst h; rfl
  | n + 1, zs, k, k', l, h => by
    obtain ⟨a, k1, h1, h2⟩ := bindP_inv h
    obtain ⟨r, k2, h3, h4⟩ := bindP_inv h2
    unfold retP at h4
    injection h4 with h4
    injection h4 with h4
    subst h4
    simp [listP_len h3]
theorem types_len {cs : List ConstV} {zs : List Int} {k k' : Nat} {l : List TypeV} (hz : Bytish zs) (h : typesM cs zs k = .ok (l, k')) : l.length ≤ 64 := by
  obtain ⟨n, k1, h1, h2⟩ := bindP_inv h
  obtain ⟨u, k2, h3, h4⟩ := bindP_inv h2
  have hv := numP_val zs _ hz h1
  unfold mustM at h3
  split at h3
  · rename_i hd
    have hd := of_decide_eq_true hd
    rw [listP_len h4]
    omega
  · cases h3
theorem cells4P {w : World} {b : Nat} {c0 c1 c2 c3 : Value} {t : TypeId} {f : Nat × Nat} (h : w.heap[b]? = some (.cells #[c0, c1, c2, c3] t f)) :
    w.cell? ⟨b, 0, none⟩ = some c0 ∧ w.cell? ⟨b, 1, none⟩ = some c1 ∧ w.cell? ⟨b, 2, none⟩ = some c2 ∧ w.cell? ⟨b, 3, none⟩ = some c3 := ⟨cell_blk h 0, cell_blk h 1, cell_blk h 2, cell_blk h 3⟩
theorem marks4P {w : World} {b : Nat} {c : Array Value} {t : TypeId} (h : w.heap[b]? = some (.cells c t (0, 0))) :
    w.frozen? ⟨b, 0, none⟩ = false ∧ w.frozen? ⟨b, 1, none⟩ = false ∧ w.frozen? ⟨b, 2, none⟩ = false ∧ w.frozen? ⟨b, 3, none⟩ = false := ⟨frozen_blk h 0, frozen_blk h 1, frozen_blk h 2, frozen_blk h 3⟩
theorem store4P {w : World} {b : Nat} {T : TypeId} {f : Nat × Nat} {o0 o1 o2 o3 a0 a1 a2 a3 : Value} (h : w.heap[b]? = some (.cells #[o0, o1, o2, o3] T f)) :
    ((((w.setCell ⟨b, 0, none⟩ a0).setCell ⟨b, 1, none⟩ a1).setCell ⟨b, 2, none⟩ a2).setCell ⟨b, 3, none⟩ a3).heap[b]? = some (.cells #[a0, a1, a2, a3] T f) := by
  have h0 := heap_setCell_at (i := 0) (u := a0) h
  simp only [List.setIfInBounds_toArray, List.set_cons_zero, List.set_cons_succ] at h0
  have h1 := heap_setCell_at (i := 1) (u := a1) h0
  simp only [List.setIfInBounds_toArray, List.set_cons_zero, List.set_cons_succ] at h1
  have h2 := heap_setCell_at (i := 2) (u := a2) h1
  simp only [List.setIfInBounds_toArray, List.set_cons_zero, List.set_cons_succ] at h2
  have h3 := heap_setCell_at (i := 3) (u := a3) h2
  simp only [List.setIfInBounds_toArray, List.set_cons_zero, List.set_cons_succ] at h3
  exact h3
theorem store1P {w : World} {b : Nat} {T : TypeId} {f : Nat × Nat} {o0 o1 o2 o3 : Value} (i : Nat) (a : Value) (h : w.heap[b]? = some (.cells #[o0, o1, o2, o3] T f)) :
    (w.setCell ⟨b, i, none⟩ a).heap[b]? = some (.cells ((#[o0, o1, o2, o3] : Array Value).setIfInBounds i a) T f) := heap_setCell_at (i := i) (u := a) h
theorem only4P {S : Nat → Prop} {w w' : World} {b : Nat} {a0 a1 a2 a3 : Value} (h : Only S w w') (hb : b < w.heap.size → S b) :
    Only S w ((((w'.setCell ⟨b, 0, none⟩ a0).setCell ⟨b, 1, none⟩ a1).setCell ⟨b, 2, none⟩ a2).setCell ⟨b, 3, none⟩ a3) := by
  iterate 4 (refine Only.setCell (S := S) ?_ hb _)
  exact h
theorem info_map : (Tryd.prog.info? 37).map (fun i => (i.zero, i.size, i.bytes)) = some (some (.agg #[.int .i64 0, .slice none 0 0, .slice none 0 0, .bool false]), 4, 64) := by kernel_rfl
theorem size_map : (Tryd.prog.info? 37).map (·.size) = some 4 := by kernel_rfl
/-- A map as a value. -/
def valMp (m : MapV) (lv sv : Value) : Value := .agg #[.int .i64 m.at_, lv, sv, .bool m.fresh]
theorem map_alone {fn : Func} {p : Tmp} (hr : fn.results = #[.cell p 37]) {w : World} {b : Nat} {m : MapV} {lv sv : Value} {tmps : Array Value} (h : w.heap[b]? = some (.cells #[.int .i64 m.at_, lv, sv, .bool m.fresh] 37 (0, 0))) (ht : tmps.getD p undef = .pointer (some ⟨b, 0, none⟩)) :
    (results fn tmps).run Tryd.prog w = .ok (valMp m lv sv) w :=
  results_cell_row hr tmps w b 37 _ (0, 0) _ ht h Tryd.underlying37 rfl size_map
/-- What reading the next map leaves. -/
def RdN (rb b2 : Nat) (sv : Value) (zs : List Int) (w : World) (r : Except Int (MapV × Nat)) (e : Ending) (w' : World) : Prop :=
  ((∃ m k v1 v2, r = .ok (m, k) ∧ e = .returned (valMp m v1 v2) ∧ Rd w' rb sv zs k ∧ w'.heap[b2]? = some (.cells #[.int .i64 (m.at_ + 1)] 3 (0, 0)) ∧ TRow w' w.heap.size v1 m.locals ∧ TRow w' w.heap.size v2 m.stack ∧ 0 ≤ m.at_ ∧ m.at_ ≤ 4096) ∨ (∃ x, r = .error x ∧ e = pan x)) ∧ Only (fun j => j = rb ∨ j = b2) w w'
section
variable (rb b1 b2 : Nat) (sv : Value) (ap : Option Addr) (np cp : Nat) (cs : List ConstV) (zs : List Int) (k : Nat) (w : World)
set_option maxHeartbeats 8000000 in
set_option maxRecDepth 100000 in
theorem mNext (f : Int) (hf0 : 0 ≤ f) (hf1 : f ≤ 4097) (hT : Tags w) (hg : 0 ≠ rb ∧ 0 < w.heap.size ∧ 0 ≠ b2) (hne : b1 ≠ rb ∧ b2 ≠ rb ∧ b1 ≠ b2) (hsb : ∀ j, sv.ownBlock = some j → j ≠ b2) (hpb : ∀ j, (Value.slice ap np cp).ownBlock = some j → cs ≠ [] → j ≠ b2)
    (h : Rp w rb sv (.slice ap np cp) cs zs k) (h1 : w.heap[b1]? = some (rdA rb (.slice ap np cp))) (h2 : w.heap[b2]? = some (.cells #[.int .i64 f] 3 (0, 0))) :
    Calls Tryd.prog 45 #[.pointer (some ⟨b1, 0, none⟩), .pointer (some ⟨b2, 0, none⟩)] w (RdN rb b2 sv zs w (mapM cs f zs k)) := by
  have hl := h.rd.lt
  have hz := h.rd.byt
  have hb1 := heap_lt h1
  have hb2 := heap_lt h2
  have hpl := Pool.lt h.pool
  have ho1 := (Only.refl (fun _ => False) w).alloc (.cells #[.int .i64 0, .slice none 0 0, .slice none 0 0, .bool false] 37)
  have hr := heap_alloc_new w (.cells #[.int .i64 0, .slice none 0 0, .slice none 0 0, .bool false] 37)
  have h1' := ho1.heap h1 (fun h => h)
  have q0 : _ = some (Value.pointer (some ⟨rb, 0, none⟩)) := cell_blk h1' 0
  have q1 : _ = some (Value.slice ap np cp) := cell_blk h1' 1
  have cN := mNumber rb sv ap np cp cs zs k _ 1 (by decide) (by decide) (h.idle ho1)
  unfold rdV at cN
  have CN := Lib.hid cN
  have HW := Lib.hid (h.idle ho1)
  have HT := Lib.hid (hT.only ho1 (fun h => h))
  have HO := Lib.hid ho1
  have HR := Lib.hid hr
  have H1 := Lib.hid h1'
  have H2 := Lib.hid (ho1.heap h2 (fun h => h))
  have HZ := Lib.hid hz
  have HPL := Lib.hid hpl
  have HL := Lib.hid hl
  have HLB := Lib.hid (And.intro hb1 hb2)
  have HNE := Lib.hid hne
  have HG := Lib.hid hg
  have HSB := Lib.hid hsb
  have HPB := Lib.hid hpb
  clear h ho1 hr hl cN hz hT hpl h1 h2 h1' hb1 hb2 hne hg hsb hpb
  go_enter Tryd.func45, Tryd.ntmps45
  go_wp2_with (fail)
  refine CN.out.mono ?_
  rintro e w1 ⟨⟨x, k1, hx, rfl, hr⟩ | ⟨x, hx, rfl⟩, ho⟩
  rotate_left
  · exact ⟨rfl, .inr ⟨x, bindP_error hx, rfl⟩, (HO.out.rb.rbs ho).mono (fun _ h _ => .inl h)⟩
  have HX := Lib.hid (show mapM cs f zs k = _ from bindP_ok hx)
  have HW1 := Lib.hid (HW.out.read ho hr)
  have HT1 := Lib.hid (HT.out.only ho HG.out.1)
  have HO1 := Lib.hid (HO.out.rb.rbs ho)
  have HR1 := Lib.hid (ho.heap HR.out (show ¬ w.heap.size = rb by have := HL.out.1; omega))
  have h11 := ho.heap H1.out HNE.out.1
  have h21 := ho.heap H2.out HNE.out.2.1
  have q01 : w1.cell? ⟨b1, 0, none⟩ = some (Value.pointer (some ⟨rb, 0, none⟩)) := cell_blk h11 0
  have q11 : w1.cell? ⟨b1, 1, none⟩ = some (Value.slice ap np cp) := cell_blk h11 1
  have q21 : w1.cell? ⟨b2, 0, none⟩ = some (.int .i64 f) := cell_blk h21 0
  have H11 := Lib.hid h11
  have H21 := Lib.hid h21
  clear hx hr ho HW HT HO HR H1 H2 CN q0 q1 h11 h21
  by_cases h255 : x = 255
  rotate_left
  · have hd : (x == 255) = false := by rw [beq_eq_false_iff_ne]; exact h255
    have HE := Lib.hid (HX.out.trans (show bindP (mustM (decide (x = 255))) _ zs k1 = .error 100 by rw [decide_eq_false h255]; rfl))
    clear HX
    go_wp2_with (fail)
    refine (mMustF _).mono ?_
    rintro e w4 ⟨rfl, rfl⟩
    exact ⟨rfl, .inr ⟨_, HE.out, rfl⟩, HO1.out.mono (fun _ h _ => .inl h)⟩
  subst h255
  have HX2 := Lib.hid (HX.out.trans (show bindP (mustM (decide ((255 : Int) = 255))) _ zs k1 = bindP (placeM f) _ zs k1 by rw [decide_eq_true rfl]; rfl))
  clear HX
  go_wp2_with (fail)
  refine (mMustT _).mono ?_
  rintro e w4 ⟨rfl, rfl⟩
  have cP := mPlace rb sv ap np cp cs zs k1 w1 f hf0 hf1 HW1.out
  unfold rdV at cP
  have CP := Lib.hid cP
  clear cP
  go_wp2_with (fail)
  refine CP.out.mono ?_
  rintro e w2 ⟨⟨a, k2, hx, rfl, hr⟩ | ⟨x, hx, rfl⟩, ho⟩
  rotate_left
  · exact ⟨rfl, .inr ⟨x, HX2.out.trans (bindP_error hx), rfl⟩, (HO1.out.rbs ho).mono (fun _ h _ => .inl h)⟩
  have ha : 0 ≤ a ∧ a ≤ 4096 := by
    obtain ⟨n, k', hn, hy⟩ := bindP_inv hx
    obtain ⟨u, k'', hm, hy2⟩ := bindP_inv hy
    have hv := numP_val zs _ HZ.out hn
    unfold mustM at hm
    split at hm
    · rename_i hd
      have hd := of_decide_eq_true hd
      unfold retP at hy2
      injection hy2 with hy2
      injection hy2 with hy2
      omega
    · cases hm
  have HA := Lib.hid ha
  have HE2 := Lib.hid (HX2.out.trans (bindP_ok hx))
  have hwr : IntKind.i64.wrap (a + 1) = a + 1 := IntWalk.i64_in _ (by omega)
  have h12 := ho.heap H11.out HNE.out.1
  have h22 := ho.heap H21.out HNE.out.2.1
  have hr2 := ho.heap HR1.out (show ¬ w.heap.size = rb by have := HL.out.1; omega)
  have hsz := heap_lt hr2
  have f22 := frozen_blk h22 0
  have q22 : w2.cell? ⟨b2, 0, none⟩ = some (.int .i64 f) := cell_blk h22 0
  have hal := (Only.refl (fun _ => False) w2).alloc (.cells #[.int .i64 a, .slice none 0 0, .slice none 0 0, .bool false] 37)
  have hst := (Only.refl (fun j => j = b2) (w2.alloc (.cells #[.int .i64 a, .slice none 0 0, .slice none 0 0, .bool false] 37))).setCell (p := ⟨b2, 0, none⟩) (fun _ => rfl) (.int .i64 (a + 1))
  have htb := heap_alloc_new w2 (.cells #[.int .i64 a, .slice none 0 0, .slice none 0 0, .bool false] 37)
  have f22a := frozen_blk (hal.heap h22 (fun h => h)) 0
  have q22a : (w2.alloc (.cells #[.int .i64 a, .slice none 0 0, .slice none 0 0, .bool false] 37)).cell? ⟨b2, 0, none⟩ = some (.int .i64 f) := cell_blk (hal.heap h22 (fun h => h)) 0
  have hb2n : ¬ w2.heap.size = b2 := by have := HLB.out.2; omega
  have HW3 := Lib.hid (((HW1.out.read ho hr).idle hal).only hst (fun e => HNE.out.2.1 e.symm) (fun j hj e => HSB.out j hj e) (fun j hj hc e => HPB.out j hj hc e))
  have HT3 := Lib.hid (((HT1.out.only ho HG.out.1).only hal (fun h => h)).only hst HG.out.2.2)
  have HO3 := Lib.hid ((((HO1.out.rbs ho).trans hal (fun _ h => h.elim)).mono (T := fun j => j = rb ∨ j = b2) (fun _ h _ => .inl h)).trans hst (fun _ h _ => .inr h))
  have HR3 := Lib.hid (hst.heap (hal.heap hr2 (fun h => h)) (show ¬ w.heap.size = b2 by have := HLB.out.2; omega))
  have HTB3 := Lib.hid (hst.heap htb hb2n)
  have h13 := hst.heap (hal.heap h12 (fun h => h)) HNE.out.2.2
  have h23 := heap_setCell_at (i := 0) (u := .int .i64 (a + 1)) (hal.heap h22 (fun h => h))
  simp only [List.setIfInBounds_toArray, List.set_cons_zero] at h23
  have q03 := cell_blk h13 0
  have q13 := cell_blk h13 1
  have q03 : _ = some (Value.pointer (some ⟨rb, 0, none⟩)) := q03
  have q13 : _ = some (Value.slice ap np cp) := q13
  have HSZ := Lib.hid hsz
  have H13 := Lib.hid h13
  have H23 := Lib.hid h23
  have HSZ3 := Lib.hid (show ((w2.alloc (.cells #[.int .i64 a, .slice none 0 0, .slice none 0 0, .bool false] 37)).setCell ⟨b2, 0, none⟩ (.int .i64 (a + 1))).heap.size = w2.heap.size + 1 by simp)
  clear hx hr ho CP HX2 HW1 HT1 HO1 HR1 H11 H21 q01 q11 q21 h12 h22 hr2 hal hst htb h13 h23 ha hsz hb2n
  have cT := mTypes rb sv ap np cp cs zs k2 _ HT3.out HG.out.1 (by rw [HSZ3.out]; have := HG.out.2.1; have := HSZ.out; omega) HW3.out
  unfold rdV at cT
  have CT := Lib.hid cT
  clear cT
  go_wp2_with (fail)
  refine CT.out.mono ?_
  rintro e w4 ⟨⟨l1, k4, v1, hx, rfl, hr, hrow⟩ | ⟨x, hx, rfl⟩, ho⟩
  rotate_left
  · exact ⟨rfl, .inr ⟨x, HE2.out.trans (bindP_error hx), rfl⟩, HO3.out.trans ho (fun _ h _ => .inl h)⟩
  obtain ⟨x1, n1, c1, rfl⟩ : ∃ x n c, v1 = .slice x n c := by obtain ⟨x, c, e, -⟩ := hrow.types.slice; exact ⟨_, _, _, e⟩
  have HE4 := Lib.hid (HE2.out.trans (bindP_ok hx))
  have HLN := Lib.hid (show l1.length ≤ 9223372036854775806 from by have := types_len HZ.out hx; omega)
  have HW4 := Lib.hid (HW3.out.read ho hr)
  have HT4 := Lib.hid (HT3.out.only ho HG.out.1)
  have HO4 := Lib.hid (HO3.out.trans ho (fun _ h _ => .inl h))
  have nrb : ¬ w.heap.size = rb := by have := HL.out.1; omega
  have ntb : ¬ w2.heap.size = rb := by have := HL.out.1; have := HSZ.out; omega
  have HR4 := Lib.hid (ho.heap HR3.out nrb)
  have htb4 := ho.heap HTB3.out ntb
  have h14 := ho.heap H13.out HNE.out.1
  have H24 := Lib.hid (ho.heap H23.out HNE.out.2.1)
  have q04 : w4.cell? ⟨b1, 0, none⟩ = some (Value.pointer (some ⟨rb, 0, none⟩)) := cell_blk h14 0
  have q14 : w4.cell? ⟨b1, 1, none⟩ = some (Value.slice ap np cp) := cell_blk h14 1
  obtain ⟨d0, d1, d2, d3⟩ := cells4P htb4
  obtain ⟨g0, g1, g2, g3⟩ := marks4P htb4
  rw [HSZ3.out] at hrow
  have HTB4 := Lib.hid htb4
  have H14 := Lib.hid h14
  have HROW4 := Lib.hid hrow
  clear hx hr hrow ho CT HE2 HW3 HT3 HO3 HR3 HTB3 H13 H23 q03 q13 htb4 h14 nrb ntb HSZ3 f22 q22 f22a q22a
  have HFAR := Lib.hid (show w.heap.size < w2.heap.size ∧ b1 < w.heap.size ∧ b2 < w.heap.size ∧ rb < w.heap.size ∧ 0 < w.heap.size from ⟨HSZ.out, HLB.out.1, HLB.out.2, HL.out.1, HG.out.2.1⟩)
  obtain ⟨tb, htb⟩ : ∃ tb, w2.heap.size = tb := ⟨_, rfl⟩
  simp only [htb] at *
  clear htb HSZ
  have hst := (Only.refl (fun j => j = tb) w4).setCell (p := ⟨tb, 1, none⟩) (fun _ => rfl) (.slice x1 n1 c1)
  have HW5 := Lib.hid (HW4.out.only hst (by have := HFAR.out; omega) (fun j hj e => by have := HL.out.2 j hj; have := HFAR.out; omega) (fun j hj hc e => by have := HPL.out j hj hc; have := HFAR.out; omega))
  have HT5 := Lib.hid (HT4.out.only hst (by have := HFAR.out; omega))
  have HO5 := Lib.hid (HO4.out.trans hst (fun i hi hl => absurd hl (by have := HFAR.out; omega)))
  have HR5 := Lib.hid (hst.heap HR4.out (by have := HFAR.out; omega))
  have htb5 := store1P 1 (.slice x1 n1 c1) HTB4.out
  simp only [List.setIfInBounds_toArray, List.set_cons_zero, List.set_cons_succ] at htb5
  have h15 := hst.heap H14.out (by have := HFAR.out; omega)
  have H25 := Lib.hid (hst.heap H24.out (by have := HFAR.out; omega))
  have HROW5 := Lib.hid (HROW4.out.keep hst (fun j hj => by subst hj; exact Nat.lt_succ_self _))
  have q05 := cell_blk h15 0
  have q15 := cell_blk h15 1
  have q05 : _ = some (Value.pointer (some ⟨rb, 0, none⟩)) := q05
  have q15 : _ = some (Value.slice ap np cp) := q15
  have HTB5 := Lib.hid htb5
  have H15 := Lib.hid h15
  have HSZ5 := Lib.hid (show (w4.setCell ⟨tb, 1, none⟩ (.slice x1 n1 c1)).heap.size = w4.heap.size by simp)
  have HTL := Lib.hid (show tb < w4.heap.size from heap_lt HTB4.out)
  clear hst htb5 h15 HW4 HT4 HO4 HR4 H14 H24 HROW4 HTB4
  have cT := mTypes rb sv ap np cp cs zs k4 _ HT5.out HG.out.1 (by rw [HSZ5.out]; have := HFAR.out; have := HTL.out; omega) HW5.out
  unfold rdV at cT
  have CT := Lib.hid cT
  clear cT
  go_wp2_with (fail)
  refine CT.out.mono ?_
  rintro e w6 ⟨⟨l2, k6, v2, hx, rfl, hr, hrow⟩ | ⟨x, hx, rfl⟩, ho⟩
  rotate_left
  · exact ⟨rfl, .inr ⟨x, HE4.out.trans (bindP_error hx), rfl⟩, HO5.out.trans ho (fun _ h _ => .inl h)⟩
  obtain ⟨x2, n2, c2, rfl⟩ : ∃ x n c, v2 = .slice x n c := by obtain ⟨x, c, e, -⟩ := hrow.types.slice; exact ⟨_, _, _, e⟩
  have HE6 := Lib.hid (HE4.out.trans (bindP_ok hx))
  have HRD6 := Lib.hid hr
  have HO6 := Lib.hid (HO5.out.trans ho (fun _ h _ => .inl h))
  have HR6 := Lib.hid (ho.heap HR5.out (by have := HFAR.out; omega))
  have htb6 := ho.heap HTB5.out (by have := HFAR.out; omega)
  have H26 := Lib.hid (ho.heap H25.out HNE.out.2.1)
  have HROW6 := Lib.hid (HROW5.out.keep ho (fun j hj => by have := HFAR.out; omega))
  rw [HSZ5.out] at hrow
  have HROW6b := Lib.hid (hrow.base (show tb + 1 ≤ w4.heap.size from HTL.out))
  obtain ⟨d0, d1, d2, d3⟩ := cells4P htb6
  obtain ⟨g0, g1, g2, g3⟩ := marks4P htb6
  have HTB6 := Lib.hid htb6
  clear hx hr ho hrow htb6 CT HE4 HW5 HT5 HO5 HR5 HTB5 H15 H25 HROW5 q05 q15 q04 q14 HSZ5
  have hst := (Only.refl (fun j => j = tb) w6).setCell (p := ⟨tb, 2, none⟩) (fun _ => rfl) (.slice x2 n2 c2)
  have HRD7 := Lib.hid (HRD6.out.only hst (by have := HFAR.out; omega) (fun j hj e => by have := HL.out.2 j hj; have := HFAR.out; omega))
  have HO7 := Lib.hid (HO6.out.trans hst (fun i hi hl => absurd hl (by have := HFAR.out; omega)))
  have HR7 := Lib.hid (hst.heap HR6.out (by have := HFAR.out; omega))
  have htb7 := store1P 2 (.slice x2 n2 c2) HTB6.out
  simp only [List.setIfInBounds_toArray, List.set_cons_zero, List.set_cons_succ] at htb7
  have H27 := Lib.hid (hst.heap H26.out (by have := HFAR.out; omega))
  have HROW7 := Lib.hid (HROW6.out.keep hst (fun j hj => by subst hj; exact Nat.lt_succ_self _))
  have HROW7b := Lib.hid (HROW6b.out.keep hst (fun j hj => by subst hj; exact Nat.lt_succ_self _))
  have e1 := cell_blk htb7 1
  have e1 : _ = some (Value.slice x1 n1 c1) := e1
  have HTB7 := Lib.hid htb7
  clear hst htb7 HRD6 HO6 HR6 H26 HROW6 HROW6b HTB6
  have hln : l1.length ≤ 9223372036854775806 := HLN.out
  have cF := mIsFresh _ l1 _ HROW7.out.types hln
  have CF := Lib.hid cF
  clear cF hln
  go_wp2_with (fail)
  refine CF.out.mono ?_
  rintro e w8 ⟨rfl, ho⟩
  have HRD8 := Lib.hid (HRD7.out.only ho (fun h => h) (fun _ _ h => h))
  have HO8 := Lib.hid (HO7.out.trans ho (fun _ h _ => h.elim))
  have hr8 := ho.heap HR7.out (fun h => h)
  have htb8 := ho.heap HTB7.out (fun h => h)
  have H28 := Lib.hid (ho.heap H27.out (fun h => h))
  have HROW8 := Lib.hid (HROW7.out.only ho (fun _ _ h => h))
  have HROW8b := Lib.hid (HROW7b.out.only ho (fun _ _ h => h))
  obtain ⟨d0, d1, d2, d3⟩ := cells4P htb8
  obtain ⟨g0, g1, g2, g3⟩ := marks4P htb8
  obtain ⟨k0, k1, k2, k3⟩ := cells4P hr8
  obtain ⟨m0, m1, m2, m3⟩ := marks4P hr8
  have HE8 := Lib.hid (show mapM cs f zs k = .ok (⟨a, l1, l2, freshM l1⟩, k6) from HE6.out)
  have HR8 := Lib.hid hr8
  clear ho hr8 htb8 CF HRD7 HO7 HR7 HTB7 H27 HROW7 HROW7b e1 HE6
  generalize freshM l1 = fr at *
  have hne1 : ¬ (tb = w.heap.size) := by have := HFAR.out; omega
  have hne2 : ¬ (w.heap.size = tb) := by have := HFAR.out; omega
  go_wp2
  have hf1 := (Only.refl (fun j => j = tb) w8).setCell (p := ⟨tb, 3, none⟩) (fun _ => rfl) (.bool fr)
  have hfin := only4P (b := w.heap.size) (a0 := .int .i64 a) (a1 := .slice x1 n1 c1) (a2 := .slice x2 n2 c2) (a3 := .bool fr) (hf1.mono (T := fun j => j = tb ∨ j = w.heap.size) (fun _ h _ => .inl h)) (fun _ => .inr rfl)
  have hn : ∀ j, j < w.heap.size → ¬ (j = tb ∨ j = w.heap.size) := fun j hj => by have := HFAR.out; omega
  refine bodyPost_ret (map_alone (m := ⟨a, l1, l2, fr⟩) (b := w.heap.size) Tryd.results45 (store4P (hf1.heap HR8.out hne2)) rfl) rfl ⟨.inl ⟨⟨a, l1, l2, fr⟩, k6, _, _, HE8.out, rfl, HRD8.out.only hfin (hn _ HFAR.out.2.2.2.1) (fun j hj => hn j (HL.out.2 j hj)), hfin.heap H28.out (hn _ HFAR.out.2.2.1), ?_, ?_, HA.out⟩, HO8.out.trans hfin (fun i hi hl => absurd hl (fun hl => hn i hl hi))⟩
  · exact (HROW8.out.keep hfin (fun j hj => by have := HFAR.out; omega)).base (by have := HFAR.out; omega)
  · exact (HROW8b.out.keep hfin (fun j hj => by have := HFAR.out; omega)).base (by have := HFAR.out; omega)
end
end Go.Proofs.YtadgbkjjeigpjaaDoor
