/- The program reads the next map. No condition beyond a reader that was made. The program's recovery: what answers what is read, or the error with which the reading was left. No condition. The program's Decode of maps: what the document says. No condition but the form's own reach. The program's Decode of maps: what the document says. No condition but the form's own reach. -/
import Derived.Test.YtadgbkjjeigpjaaDoorMapS
import Derived.Test.YtadgbkjjeigpjaaDoorMapF
import Derived.WalkLawsBesides
import Derived.Defers
import Derived.Recover
import Derived.Test.YtadgbkjjeigpjaaDoorMapP
namespace Go.Proofs.YtadgbkjjeigpjaaDoor
open Go.RowKit
set_option linter.unusedVariables false
set_option linter.unusedSimpArgs false

theorem listP_len {α : Type} {p : Pr α} : ∀ {n : Nat} {zs : List Int} {k k' : Nat} {l : List α}, listP p n zs k = .ok (l, k') → l.length = n
  | 0, zs, k, k', l, h => by
    unfold listP retP at h
    injection h with h
    injection h with h
    subst h; rfl
  | n + 1, zs, k, k', l, h => by
    obtain ⟨a, k1, h1, h2⟩ := bindP_inv h
    obtain ⟨r, k2, h3, h4⟩ := bindP_inv h2
    unfold retP at h4
    injection h4 with h4
    injection h4 with h4
    subst h4
    simp [listP_len h3]
theorem types_len {cs : List ConstV} {zs : List Int} {k k' : Nat} {l : List TypeV} (hz : Bytish zs) (h : typesM cs zs k = .ok (l, k')) : l.length ≤ 64 := by
  obtain ⟨n, k1, h1, h2⟩ := bindP_inv h
  obtain ⟨u, k2, h3, h4⟩ := bindP_inv h2
  have hv := numP_val zs _ hz h1
  unfold mustM at h3
  split at h3
  · rename_i hd
    have hd := of_decide_eq_true hd
    rw [listP_len h4]
    omega
  · cases h3
theorem cells4P {w : World} {b : Nat} {c0 c1 c2 c3 : Value} {t : TypeId} {f : Nat × Nat} (h : w.heap[b]? = some (.cells #[c0, c1, c2, c3] t f)) :
    w.cell? ⟨b, 0, none⟩ = some c0 ∧ w.cell? ⟨b, 1, none⟩ = some c1 ∧ w.cell? ⟨b, 2, none⟩ = some c2 ∧ w.cell? ⟨b, 3, none⟩ = some c3 := ⟨cell_blk h 0, cell_blk h 1, cell_blk h 2, cell_blk h 3⟩
theorem marks4P {w : World} {b : Nat} {c : Array Value} {t : TypeId} (h : w.heap[b]? = some (.cells c t (0, 0))) :
    w.frozen? ⟨b, 0, none⟩ = false ∧ w.frozen? ⟨b, 1, none⟩ = false ∧ w.frozen? ⟨b, 2, none⟩ = false ∧ w.frozen? ⟨b, 3, none⟩ = false := ⟨frozen_blk h 0, frozen_blk h 1, frozen_blk h 2, frozen_blk h 3⟩
theorem store4P {w : World} {b : Nat} {T : TypeId} {f : Nat × Nat} {o0 o1 o2 o3 a0 a1 a2 a3 : Value} (h : w.heap[b]? = some (.cells #[o0, o1, o2, o3] T f)) :
    ((((w.setCell ⟨b, 0, none⟩ a0).setCell ⟨b, 1, none⟩ a1).setCell ⟨b, 2, none⟩ a2).setCell ⟨b, 3, none⟩ a3).heap[b]? = some (.cells #[a0, a1, a2, a3] T f) := by
  have h0 := heap_setCell_at (i := 0) (u := a0) h
  simp only [List.setIfInBounds_toArray, List.set_cons_zero, List.set_cons_succ] at h0
  have h1 := heap_setCell_at (i := 1) (u := a1) h0
  simp only [List.setIfInBounds_toArray, List.set_cons_zero, List.set_cons_succ] at h1
  have h2 := heap_setCell_at (i := 2) (u := a2) h1
  simp only [List.setIfInBounds_toArray, List.set_cons_zero, List.set_cons_succ] at h2
  have h3 := heap_setCell_at (i := 3) (u := a3) h2
  simp only [List.setIfInBounds_toArray, List.set_cons_zero, List.set_cons_succ] at h3
  exact h3
theorem store1P {w : World} {b : Nat} {T : TypeId} {f : Nat × Nat} {o0 o1 o2 o3 : Value} (i : Nat) (a : Value) (h : w.heap[b]? = some (.cells #[o0, o1, o2, o3] T f)) :
    (w.setCell ⟨b, i, none⟩ a).heap[b]? = some (.cells ((#[o0, o1, o2, o3] : Array Value).setIfInBounds i a) T f) := heap_setCell_at (i := i) (u := a) h
theorem only4P {S : Nat → Prop} {w w' : World} {b : Nat} {a0 a1 a2 a3 : Value} (h : Only S w w') (hb : b < w.heap.size → S b) :
    Only S w ((((w'.setCell ⟨b, 0, none⟩ a0).setCell ⟨b, 1, none⟩ a1).setCell ⟨b, 2, none⟩ a2).setCell ⟨b, 3, none⟩ a3) := by
  iterate 4 (refine Only.setCell (S := S) ?_ hb _)
  exact h
theorem info_map : (Tryd.prog.info? 37).map (fun i => (i.zero, i.size, i.bytes)) = some (some (.agg #[.int .i64 0, .slice none 0 0, .slice none 0 0, .bool false]), 4, 64) := by kernel_rfl
theorem size_map : (Tryd.prog.info? 37).map (·.size) = some 4 := by kernel_rfl
/-- A map as a value. -/
def valMp (m : MapV) (lv sv : Value) : Value := .agg #[.int .i64 m.at_, lv, sv, .bool m.fresh]
theorem map_alone {fn : Func} {p : Tmp} (hr : fn.results = #[.cell p 37]) {w : World} {b : Nat} {m : MapV} {lv sv : Value} {tmps : Array Value} (h : w.heap[b]? = some (.cells #[.int .i64 m.at_, lv, sv, .bool m.fresh] 37 (0, 0))) (ht : tmps.getD p undef = .pointer (some ⟨b, 0, none⟩)) :
    (results fn tmps).run Tryd.prog w = .ok (valMp m lv sv) w :=
  results_cell_row hr tmps w b 37 _ (0, 0) _ ht h Tryd.underlying37 rfl size_map
/-- What reading the next map leaves. -/
def RdN (rb b2 : Nat) (sv : Value) (zs : List Int) (w : World) (r : Except Int (MapV × Nat)) (e : Ending) (w' : World) : Prop :=
  ((∃ m k v1 v2, r = .ok (m, k) ∧ e = .returned (valMp m v1 v2) ∧ Rd w' rb sv zs k ∧ w'.heap[b2]? = some (.cells #[.int .i64 (m.at_ + 1)] 3 (0, 0)) ∧ TRow w' w.heap.size v1 m.locals ∧ TRow w' w.heap.size v2 m.stack ∧ 0 ≤ m.at_ ∧ m.at_ ≤ 4096) ∨ (∃ x, r = .error x ∧ e = pan x)) ∧ Only (fun j => j = rb ∨ j = b2) w w'
section
variable (rb b1 b2 : Nat) (sv : Value) (ap : Option Addr) (np cp : Nat) (cs : List ConstV) (zs : List Int) (k : Nat) (w : World)
set_option maxHeartbeats 8000000 in
set_option maxRecDepth 100000 in
theorem mNext (f : Int) (hf0 : 0 ≤ f) (hf1 : f ≤ 4097) (hT : Tags w) (hg : 0 ≠ rb ∧ 0 < w.heap.size ∧ 0 ≠ b2) (hne : b1 ≠ rb ∧ b2 ≠ rb ∧ b1 ≠ b2) (hsb : ∀ j, sv.ownBlock = some j → j ≠ b2) (hpb : ∀ j, (Value.slice ap np cp).ownBlock = some j → cs ≠ [] → j ≠ b2)
    (h : Rp w rb sv (.slice ap np cp) cs zs k) (h1 : w.heap[b1]? = some (rdA rb (.slice ap np cp))) (h2 : w.heap[b2]? = some (.cells #[.int .i64 f] 3 (0, 0))) :
    Calls Tryd.prog 45 #[.pointer (some ⟨b1, 0, none⟩), .pointer (some ⟨b2, 0, none⟩)] w (RdN rb b2 sv zs w (mapM cs f zs k)) := by
  have hl := h.rd.lt
  have hz := h.rd.byt
  have hb1 := heap_lt h1
  have hb2 := heap_lt h2
  have hpl := Pool.lt h.pool
  have ho1 := (Only.refl (fun _ => False) w).alloc (.cells #[.int .i64 0, .slice none 0 0, .slice none 0 0, .bool false] 37)
  have hr := heap_alloc_new w (.cells #[.int .i64 0, .slice none 0 0, .slice none 0 0, .bool false] 37)
  have h1' := ho1.heap h1 (fun h => h)
  have q0 : _ = some (Value.pointer (some ⟨rb, 0, none⟩)) := cell_blk h1' 0
  have q1 : _ = some (Value.slice ap np cp) := cell_blk h1' 1
  have cN := mNumber rb sv ap np cp cs zs k _ 1 (by decide) (by decide) (h.idle ho1)
  unfold rdV at cN
  have CN := Lib.hid cN
  have HW := Lib.hid (h.idle ho1)
  have HT := Lib.hid (hT.only ho1 (fun h => h))
  have HO := Lib.hid ho1
  have HR := Lib.hid hr
  have H1 := Lib.hid h1'
  have H2 := Lib.hid (ho1.heap h2 (fun h => h))
  have HZ := Lib.hid hz
  have HPL := Lib.hid hpl
  have HL := Lib.hid hl
  have HLB := Lib.hid (And.intro hb1 hb2)
  have HNE := Lib.hid hne
  have HG := Lib.hid hg
  have HSB := Lib.hid hsb
  have HPB := Lib.hid hpb
  clear h ho1 hr hl cN hz hT hpl h1 h2 h1' hb1 hb2 hne hg hsb hpb
  go_enter Tryd.func45, Tryd.ntmps45
  go_wp2_with (fail)
  refine CN.out.mono ?_
  rintro e w1 ⟨⟨x, k1, hx, rfl, hr⟩ | ⟨x, hx, rfl⟩, ho⟩
  rotate_left
  · exact ⟨rfl, .inr ⟨x, bindP_error hx, rfl⟩, (HO.out.rb.rbs ho).mono (fun _ h _ => .inl h)⟩
  have HX := Lib.hid (show mapM cs f zs k = _ from bindP_ok hx)
  have HW1 := Lib.hid (HW.out.read ho hr)
  have HT1 := Lib.hid (HT.out.only ho HG.out.1)
  have HO1 := Lib.hid (HO.out.rb.rbs ho)
  have HR1 := Lib.hid (ho.heap HR.out (show ¬ w.heap.size = rb by have := HL.out.1; omega))
  have h11 := ho.heap H1.out HNE.out.1
  have h21 := ho.heap H2.out HNE.out.2.1
  have q01 : w1.cell? ⟨b1, 0, none⟩ = some (Value.pointer (some ⟨rb, 0, none⟩)) := cell_blk h11 0
  have q11 : w1.cell? ⟨b1, 1, none⟩ = some (Value.slice ap np cp) := cell_blk h11 1
  have q21 : w1.cell? ⟨b2, 0, none⟩ = some (.int .i64 f) := cell_blk h21 0
  have H11 := Lib.hid h11
  have H21 := Lib.hid h21
  clear hx hr ho HW HT HO HR H1 H2 CN q0 q1 h11 h21
  by_cases h255 : x = 255
  rotate_left
  · have hd : (x == 255) = false := by rw [beq_eq_false_iff_ne]; exact h255
    have HE := Lib.hid (HX.out.trans (show bindP (mustM (decide (x = 255))) _ zs k1 = .error 100 by rw [decide_eq_false h255]; rfl))
    clear HX
    go_wp2_with (fail)
    refine (mMustF _).mono ?_
    rintro e w4 ⟨rfl, rfl⟩
    exact ⟨rfl, .inr ⟨_, HE.out, rfl⟩, HO1.out.mono (fun _ h _ => .inl h)⟩
  subst h255
  have HX2 := Lib.hid (HX.out.trans (show bindP (mustM (decide ((255 : Int) = 255))) _ zs k1 = bindP (placeM f) _ zs k1 by rw [decide_eq_true rfl]; rfl))
  clear HX
  go_wp2_with (fail)
  refine (mMustT _).mono ?_
  rintro e w4 ⟨rfl, rfl⟩
  have cP := mPlace rb sv ap np cp cs zs k1 w1 f hf0 hf1 HW1.out
  unfold rdV at cP
  have CP := Lib.hid cP
  clear cP
  go_wp2_with (fail)
  refine CP.out.mono ?_
  rintro e w2 ⟨⟨a, k2, hx, rfl, hr⟩ | ⟨x, hx, rfl⟩, ho⟩
  rotate_left
  · exact ⟨rfl, .inr ⟨x, HX2.out.trans (bindP_error hx), rfl⟩, (HO1.out.rbs ho).mono (fun _ h _ => .inl h)⟩
  have ha : 0 ≤ a ∧ a ≤ 4096 := by
    obtain ⟨n, k', hn, hy⟩ := bindP_inv hx
    obtain ⟨u, k'', hm, hy2⟩ := bindP_inv hy
    have hv := numP_val zs _ HZ.out hn
    unfold mustM at hm
    split at hm
    · rename_i hd
      have hd := of_decide_eq_true hd
      unfold retP at hy2
      injection hy2 with hy2
      injection hy2 with hy2
      omega
    · cases hm
  have HA := Lib.hid ha
  have HE2 := Lib.hid (HX2.out.trans (bindP_ok hx))
  have hwr : IntKind.i64.wrap (a + 1) = a + 1 := IntWalk.i64_in _ (by omega)
  have h12 := ho.heap H11.out HNE.out.1
  have h22 := ho.heap H21.out HNE.out.2.1
  have hr2 := ho.heap HR1.out (show ¬ w.heap.size = rb by have := HL.out.1; omega)
  have hsz := heap_lt hr2
  have f22 := frozen_blk h22 0
  have q22 : w2.cell? ⟨b2, 0, none⟩ = some (.int .i64 f) := cell_blk h22 0
  have hal := (Only.refl (fun _ => False) w2).alloc (.cells #[.int .i64 a, .slice none 0 0, .slice none 0 0, .bool false] 37)
  have hst := (Only.refl (fun j => j = b2) (w2.alloc (.cells #[.int .i64 a, .slice none 0 0, .slice none 0 0, .bool false] 37))).setCell (p := ⟨b2, 0, none⟩) (fun _ => rfl) (.int .i64 (a + 1))
  have htb := heap_alloc_new w2 (.cells #[.int .i64 a, .slice none 0 0, .slice none 0 0, .bool false] 37)
  have f22a := frozen_blk (hal.heap h22 (fun h => h)) 0
  have q22a : (w2.alloc (.cells #[.int .i64 a, .slice none 0 0, .slice none 0 0, .bool false] 37)).cell? ⟨b2, 0, none⟩ = some (.int .i64 f) := cell_blk (hal.heap h22 (fun h => h)) 0
  have hb2n : ¬ w2.heap.size = b2 := by have := HLB.out.2; omega
  have HW3 := Lib.hid (((HW1.out.read ho hr).idle hal).only hst (fun e => HNE.out.2.1 e.symm) (fun j hj e => HSB.out j hj e) (fun j hj hc e => HPB.out j hj hc e))
  have HT3 := Lib.hid (((HT1.out.only ho HG.out.1).only hal (fun h => h)).only hst HG.out.2.2)
  have HO3 := Lib.hid ((((HO1.out.rbs ho).trans hal (fun _ h => h.elim)).mono (T := fun j => j = rb ∨ j = b2) (fun _ h _ => .inl h)).trans hst (fun _ h _ => .inr h))
  have HR3 := Lib.hid (hst.heap (hal.heap hr2 (fun h => h)) (show ¬ w.heap.size = b2 by have := HLB.out.2; omega))
  have HTB3 := Lib.hid (hst.heap htb hb2n)
  have h13 := hst.heap (hal.heap h12 (fun h => h)) HNE.out.2.2
  have h23 := heap_setCell_at (i := 0) (u := .int .i64 (a + 1)) (hal.heap h22 (fun h => h))
  simp only [List.setIfInBounds_toArray, List.set_cons_zero] at h23
  have q03 := cell_blk h13 0
  have q13 := cell_blk h13 1
  have q03 : _ = some (Value.pointer (some ⟨rb, 0, none⟩)) := q03
  have q13 : _ = some (Value.slice ap np cp) := q13
  have HSZ := Lib.hid hsz
  have H13 := Lib.hid h13
  have H23 := Lib.hid h23
  have HSZ3 := Lib.hid (show ((w2.alloc (.cells #[.int .i64 a, .slice none 0 0, .slice none 0 0, .bool false] 37)).setCell ⟨b2, 0, none⟩ (.int .i64 (a + 1))).heap.size = w2.heap.size + 1 by simp)
  clear hx hr ho CP HX2 HW1 HT1 HO1 HR1 H11 H21 q01 q11 q21 h12 h22 hr2 hal hst htb h13 h23 ha hsz hb2n
  have cT := mTypes rb sv ap np cp cs zs k2 _ HT3.out HG.out.1 (by rw [HSZ3.out]; have := HG.out.2.1; have := HSZ.out; omega) HW3.out
  unfold rdV at cT
  have CT := Lib.hid cT
  clear cT
  go_wp2_with (fail)
  refine CT.out.mono ?_
  rintro e w4 ⟨⟨l1, k4, v1, hx, rfl, hr, hrow⟩ | ⟨x, hx, rfl⟩, ho⟩
  rotate_left
  · exact ⟨rfl, .inr ⟨x, HE2.out.trans (bindP_error hx), rfl⟩, HO3.out.trans ho (fun _ h _ => .inl h)⟩
  obtain ⟨x1, n1, c1, rfl⟩ : ∃ x n c, v1 = .slice x n c := by obtain ⟨x, c, e, -⟩ := hrow.types.slice; exact ⟨_, _, _, e⟩
  have HE4 := Lib.hid (HE2.out.trans (bindP_ok hx))
  have HLN := Lib.hid (show l1.length ≤ 9223372036854775806 from by have := types_len HZ.out hx; omega)
  have HW4 := Lib.hid (HW3.out.read ho hr)
  have HT4 := Lib.hid (HT3.out.only ho HG.out.1)
  have HO4 := Lib.hid (HO3.out.trans ho (fun _ h _ => .inl h))
  have nrb : ¬ w.heap.size = rb := by have := HL.out.1; omega
  have ntb : ¬ w2.heap.size = rb := by have := HL.out.1; have := HSZ.out; omega
  have HR4 := Lib.hid (ho.heap HR3.out nrb)
  have htb4 := ho.heap HTB3.out ntb
  have h14 := ho.heap H13.out HNE.out.1
  have H24 := Lib.hid (ho.heap H23.out HNE.out.2.1)
  have q04 : w4.cell? ⟨b1, 0, none⟩ = some (Value.pointer (some ⟨rb, 0, none⟩)) := cell_blk h14 0
  have q14 : w4.cell? ⟨b1, 1, none⟩ = some (Value.slice ap np cp) := cell_blk h14 1
  obtain ⟨d0, d1, d2, d3⟩ := cells4P htb4
  obtain ⟨g0, g1, g2, g3⟩ := marks4P htb4
  rw [HSZ3.out] at hrow
  have HTB4 := Lib.hid htb4
  have H14 := Lib.hid h14
  have HROW4 := Lib.hid hrow
  clear hx hr hrow ho CT HE2 HW3 HT3 HO3 HR3 HTB3 H13 H23 q03 q13 htb4 h14 nrb ntb HSZ3 f22 q22 f22a q22a
  have HFAR := Lib.hid (show w.heap.size < w2.heap.size ∧ b1 < w.heap.size ∧ b2 < w.heap.size ∧ rb < w.heap.size ∧ 0 < w.heap.size from ⟨HSZ.out, HLB.out.1, HLB.out.2, HL.out.1, HG.out.2.1⟩)
  obtain ⟨tb, htb⟩ : ∃ tb, w2.heap.size = tb := ⟨_, rfl⟩
  simp only [htb] at *
  clear htb HSZ
  have hst := (Only.refl (fun j => j = tb) w4).setCell (p := ⟨tb, 1, none⟩) (fun _ => rfl) (.slice x1 n1 c1)
  have HW5 := Lib.hid (HW4.out.only hst (by have := HFAR.out; omega) (fun j hj e => by have := HL.out.2 j hj; have := HFAR.out; omega) (fun j hj hc e => by have := HPL.out j hj hc; have := HFAR.out; omega))
  have HT5 := Lib.hid (HT4.out.only hst (by have := HFAR.out; omega))
  have HO5 := Lib.hid (HO4.out.trans hst (fun i hi hl => absurd hl (by have := HFAR.out; omega)))
  have HR5 := Lib.hid (hst.heap HR4.out (by have := HFAR.out; omega))
  have htb5 := store1P 1 (.slice x1 n1 c1) HTB4.out
  simp only [List.setIfInBounds_toArray, List.set_cons_zero, List.set_cons_succ] at htb5
  have h15 := hst.heap H14.out (by have := HFAR.out; omega)
  have H25 := Lib.hid (hst.heap H24.out (by have := HFAR.out; omega))
  have HROW5 := Lib.hid (HROW4.out.keep hst (fun j hj => by subst hj; exact Nat.lt_succ_self _))
  have q05 := cell_blk h15 0
  have q15 := cell_blk h15 1
  have q05 : _ = some (Value.pointer (some ⟨rb, 0, none⟩)) := q05
  have q15 : _ = some (Value.slice ap np cp) := q15
  have HTB5 := Lib.hid htb5
  have H15 := Lib.hid h15
  have HSZ5 := Lib.hid (show (w4.setCell ⟨tb, 1, none⟩ (.slice x1 n1 c1)).heap.size = w4.heap.size by simp)
  have HTL := Lib.hid (show tb < w4.heap.size from heap_lt HTB4.out)
  clear hst htb5 h15 HW4 HT4 HO4 HR4 H14 H24 HROW4 HTB4
  have cT := mTypes rb sv ap np cp cs zs k4 _ HT5.out HG.out.1 (by rw [HSZ5.out]; have := HFAR.out; have := HTL.out; omega) HW5.out
  unfold rdV at cT
  have CT := Lib.hid cT
  clear cT
  go_wp2_with (fail)
  refine CT.out.mono ?_
  rintro e w6 ⟨⟨l2, k6, v2, hx, rfl, hr, hrow⟩ | ⟨x, hx, rfl⟩, ho⟩
  rotate_left
  · exact ⟨rfl, .inr ⟨x, HE4.out.trans (bindP_error hx), rfl⟩, HO5.out.trans ho (fun _ h _ => .inl h)⟩
  obtain ⟨x2, n2, c2, rfl⟩ : ∃ x n c, v2 = .slice x n c := by obtain ⟨x, c, e, -⟩ := hrow.types.slice; exact ⟨_, _, _, e⟩
  have HE6 := Lib.hid (HE4.out.trans (bindP_ok hx))
  have HRD6 := Lib.hid hr
  have HO6 := Lib.hid (HO5.out.trans ho (fun _ h _ => .inl h))
  have HR6 := Lib.hid (ho.heap HR5.out (by have := HFAR.out; omega))
  have htb6 := ho.heap HTB5.out (by have := HFAR.out; omega)
  have H26 := Lib.hid (ho.heap H25.out HNE.out.2.1)
  have HROW6 := Lib.hid (HROW5.out.keep ho (fun j hj => by have := HFAR.out; omega))
  rw [HSZ5.out] at hrow
  have HROW6b := Lib.hid (hrow.base (show tb + 1 ≤ w4.heap.size from HTL.out))
  obtain ⟨d0, d1, d2, d3⟩ := cells4P htb6
  obtain ⟨g0, g1, g2, g3⟩ := marks4P htb6
  have HTB6 := Lib.hid htb6
  clear hx hr ho hrow htb6 CT HE4 HW5 HT5 HO5 HR5 HTB5 H15 H25 HROW5 q05 q15 q04 q14 HSZ5
  have hst := (Only.refl (fun j => j = tb) w6).setCell (p := ⟨tb, 2, none⟩) (fun _ => rfl) (.slice x2 n2 c2)
  have HRD7 := Lib.hid (HRD6.out.only hst (by have := HFAR.out; omega) (fun j hj e => by have := HL.out.2 j hj; have := HFAR.out; omega))
  have HO7 := Lib.hid (HO6.out.trans hst (fun i hi hl => absurd hl (by have := HFAR.out; omega)))
  have HR7 := Lib.hid (hst.heap HR6.out (by have := HFAR.out; omega))
  have htb7 := store1P 2 (.slice x2 n2 c2) HTB6.out
  simp only [List.setIfInBounds_toArray, List.set_cons_zero, List.set_cons_succ] at htb7
  have H27 := Lib.hid (hst.heap H26.out (by have := HFAR.out; omega))
  have HROW7 := Lib.hid (HROW6.out.keep hst (fun j hj => by subst hj; exact Nat.lt_succ_self _))
  have HROW7b := Lib.hid (HROW6b.out.keep hst (fun j hj => by subst hj; exact Nat.lt_succ_self _))
  have e1 := cell_blk htb7 1
  have e1 : _ = some (Value.slice x1 n1 c1) := e1
  have HTB7 := Lib.hid htb7
  clear hst htb7 HRD6 HO6 HR6 H26 HROW6 HROW6b HTB6
  have hln : l1.length ≤ 9223372036854775806 := HLN.out
  have cF := mIsFresh _ l1 _ HROW7.out.types hln
  have CF := Lib.hid cF
  clear cF hln
  go_wp2_with (fail)
  refine CF.out.mono ?_
  rintro e w8 ⟨rfl, ho⟩
  have HRD8 := Lib.hid (HRD7.out.only ho (fun h => h) (fun _ _ h => h))
  have HO8 := Lib.hid (HO7.out.trans ho (fun _ h _ => h.elim))
  have hr8 := ho.heap HR7.out (fun h => h)
  have htb8 := ho.heap HTB7.out (fun h => h)
  have H28 := Lib.hid (ho.heap H27.out (fun h => h))
  have HROW8 := Lib.hid (HROW7.out.only ho (fun _ _ h => h))
  have HROW8b := Lib.hid (HROW7b.out.only ho (fun _ _ h => h))
  obtain ⟨d0, d1, d2, d3⟩ := cells4P htb8
  obtain ⟨g0, g1, g2, g3⟩ := marks4P htb8
  obtain ⟨k0, k1, k2, k3⟩ := cells4P hr8
  obtain ⟨m0, m1, m2, m3⟩ := marks4P hr8
  have HE8 := Lib.hid (show mapM cs f zs k = .ok (⟨a, l1, l2, freshM l1⟩, k6) from HE6.out)
  have HR8 := Lib.hid hr8
  clear ho hr8 htb8 CF HRD7 HO7 HR7 HTB7 H27 HROW7 HROW7b e1 HE6
  generalize freshM l1 = fr at *
  have hne1 : ¬ (tb = w.heap.size) := by have := HFAR.out; omega
  have hne2 : ¬ (w.heap.size = tb) := by have := HFAR.out; omega
  go_wp2
  have hf1 := (Only.refl (fun j => j = tb) w8).setCell (p := ⟨tb, 3, none⟩) (fun _ => rfl) (.bool fr)
  have hfin := only4P (b := w.heap.size) (a0 := .int .i64 a) (a1 := .slice x1 n1 c1) (a2 := .slice x2 n2 c2) (a3 := .bool fr) (hf1.mono (T := fun j => j = tb ∨ j = w.heap.size) (fun _ h _ => .inl h)) (fun _ => .inr rfl)
  have hn : ∀ j, j < w.heap.size → ¬ (j = tb ∨ j = w.heap.size) := fun j hj => by have := HFAR.out; omega
  refine bodyPost_ret (map_alone (m := ⟨a, l1, l2, fr⟩) (b := w.heap.size) Tryd.results45 (store4P (hf1.heap HR8.out hne2)) rfl) rfl ⟨.inl ⟨⟨a, l1, l2, fr⟩, k6, _, _, HE8.out, rfl, HRD8.out.only hfin (hn _ HFAR.out.2.2.2.1) (fun j hj => hn j (HL.out.2 j hj)), hfin.heap H28.out (hn _ HFAR.out.2.2.1), ?_, ?_, HA.out⟩, HO8.out.trans hfin (fun i hi hl => absurd hl (fun hl => hn i hl hi))⟩
  · exact (HROW8.out.keep hfin (fun j hj => by have := HFAR.out; omega)).base (by have := HFAR.out; omega)
  · exact (HROW8b.out.keep hfin (fun j hj => by have := HFAR.out; omega)).base (by have := HFAR.out; omega)
end
end Go.Proofs.YtadgbkjjeigpjaaDoor
namespace Go.Proofs.YtadgbkjjeigpjaaDoor
open Go.RowKit
set_option linter.unusedVariables false
set_option linter.unusedSimpArgs false

set_option maxHeartbeats 1000000 in
set_option maxRecDepth 100000 in
theorem mCatchIdle (p : Addr) (w : World) :
    CallsD Tryd.prog 28 #[.pointer (some p)] .returning w fun e u' w' => e = .returned (.tuple #[]) ∧ u' = .returning ∧ w' = w := by
  refine callsD_of_wpS Tryd.func28 rfl fun c₀ cs hu => ?_
  apply wpS_seq
  apply wpS_region
  simp [wpOpsS, go_sem, recoverD, hu, Tryd.ntmps28, Exit.thenS]
  refine wpS_of_wp ?_
  go_wp2
  cases c₀
  simp_all [bodyPostS, results, Tryd.results28]
theorem run_assert_errno1 (xT : TypeId) (z : Int) (w : World) : (Instr.typeAssert (.iface 25 (.int .i64 z)) xT 25 false).run Tryd.prog w = .ok (.int .i64 z) w := by
  simp [Instr.typeAssert, run_underlying Tryd.underlying25, go_sem, Result.andThen]
set_option maxHeartbeats 1000000 in
set_option maxRecDepth 100000 in
theorem mCatchPan (p : Addr) (z : Int) (x : Value) (w : World) (hc : w.cell? p = some x) (hz : w.frozen? p = false) :
    CallsD Tryd.prog 28 #[.pointer (some p)] (.panicking [{ v := .iface 25 (.int .i64 z), recovered := false }]) w fun e u' w' =>
      e = .returned (.tuple #[]) ∧ u' = .panicking [{ v := .iface 25 (.int .i64 z), recovered := true }] ∧ w' = w.setCell p (.int .i64 z) := by
  refine callsD_of_wpS Tryd.func28 rfl fun c₀ cs hu => ?_
  apply wpS_seq
  apply wpS_region
  simp [wpOpsS, go_sem, recoverD, hu, Tryd.ntmps28, Exit.thenS]
  refine wpS_of_wp ?_
  have hta := fun xT w => run_assert_errno1 xT z w
  go_wp2
  cases c₀
  simp_all [bodyPostS, results, Tryd.results28]
set_option maxHeartbeats 1000000 in
set_option maxRecDepth 100000 in
theorem mUnless (n : FuncId) (hn : Enters Tryd.prog n) (first : Array Value) (w : World) (Q : Value → World → Prop) (P : Int → World → Prop)
    (h : Calls Tryd.prog n first (w.alloc (.cells #[.int .i64 0] 25)) fun e w1 => (∃ x m c, e = .returned (.slice x m c) ∧ Q (.slice x m c) w1) ∨ (∃ z, e = pan z ∧ P z w1))
    (hq : ∀ v w1, Q v w1 → w1.heap[w.heap.size]? = some (.cells #[.int .i64 0] 25 (0, 0)))
    (hp : ∀ z w1, P z w1 → w1.heap[w.heap.size]? = some (.cells #[.int .i64 0] 25 (0, 0))) :
    Calls Tryd.prog 11 #[.func (.func n) first #[]] w fun e w' =>
      (∃ v w1, e = .returned (.tuple #[v, .int .i64 0]) ∧ Q v w1 ∧ w' = w1.setCell ⟨w.heap.size, 0, none⟩ (.int .i64 0)) ∨ (∃ z w1, e = .returned (.tuple #[.slice none 0 0, .int .i64 z]) ∧ P z w1 ∧ w' = w1.setCell ⟨w.heap.size, 0, none⟩ (.int .i64 z)) := by
  have hmf : ∀ (fn : Fn) (first cap : Array Value) (w : World), (Instr.makeFunc fn first cap).run Tryd.prog w = .ok (.func fn first cap) w := fun _ _ _ _ => rfl
  have hen : ∀ args w, (callFunc n args).run Tryd.prog w = .ok (.enter n args) w := hn
  have H := Lib.hid h
  have HQ := Lib.hid hq
  have HP := Lib.hid hp
  clear h hq hp
  go_enter_defers Tryd.func11, Tryd.ntmps11
  go_wp2_with (fail)
  refine H.out.mono ?_
  rintro e w1 (⟨x, m, c, rfl, hq⟩ | ⟨z, rfl, hq⟩)
  · have hb := HQ.out _ _ hq
    have q0 := cell_blk hb 0
    have f0 := frozen_blk hb 0
    simp at q0
    go_wp2
    refine leaves_cons (f := 28) (args := #[.pointer (some ⟨w.heap.size, 0, none⟩)]) (by simp) (by simp [go_sem]) ?_
    refine (mCatchIdle ⟨w.heap.size, 0, none⟩ _).mono ?_
    rintro e u' w'' ⟨rfl, rfl, rfl⟩
    show Leaves _ _ _ _ [] .returning _
    refine ⟨.tuple #[.slice x m c, .int .i64 0], ?_, .inl ⟨_, w1, rfl, hq, rfl⟩⟩
    simp [results, Tryd.results11, go_sem, q0, f0]
  · have hb := HP.out _ _ hq
    have q0 := cell_blk hb 0
    have f0 := frozen_blk hb 0
    simp at q0
    show Leaves _ _ _ _ [_] (.panicking _) _
    refine leaves_cons (f := 28) (args := #[.pointer (some ⟨w.heap.size, 0, none⟩)]) (by simp) (by simp [go_sem]) ?_
    refine (mCatchPan ⟨w.heap.size, 0, none⟩ z _ _ q0 f0).mono ?_
    rintro e u' w'' ⟨rfl, rfl, rfl⟩
    show Leaves _ _ _ _ [] .returning _
    refine ⟨.tuple #[.slice none 0 0, .int .i64 z], ?_, .inr ⟨z, w1, rfl, hq, rfl⟩⟩
    simp [results, Tryd.results11, go_sem, q0, f0]
end Go.Proofs.YtadgbkjjeigpjaaDoor
namespace Go.Proofs.YtadgbkjjeigpjaaDoor
open Go.RowKit
set_option linter.unusedVariables false
set_option linter.unusedSimpArgs false

theorem Src.map {w : World} {m : Nat} (x : MapX) (h1 : x.2.1.oneCell' = true) (h2 : x.2.2.oneCell' = true) (h : w.heap.size = m) : Src (w.alloc (.cells #[.int .i64 x.1.at_, x.2.1, x.2.2, .bool x.1.fresh] 37)) 4 (.slice (some ⟨m, 0, none⟩) 1 1) 1 (cellsMp x) :=
  Src.struct (n := 4) (T := 37) (cellsMp x) rfl (fun u hu => by
    simp only [cellsMp, List.mem_cons, List.mem_nil_iff, or_false] at hu
    rcases hu with rfl | rfl | rfl | rfl
    · rfl
    · exact h1
    · exact h2
    · rfl) h
/-- What reading all maps leaves. -/
def RdAll (rb : Nat) (w : World) (zs : List Int) (r : Except Int (List MapV × Nat)) (e : Ending) (w' : World) : Prop :=
  ((∃ xs x m c, r = .ok (xs.map (·.1), zs.length) ∧ e = .returned (.slice x m c) ∧ MapsO w' w.heap.size (.slice x m c) xs ∧ xs.length ≤ 65535) ∨ (∃ x, r = .error x ∧ e = pan x)) ∧ Only (fun j => j = rb) w w'
theorem behind_range {cs : List ConstV} {n : Nat} {zs : List Int} {k k' : Nat} {l : List MapV} (h : ∀ m ∈ l, 0 ≤ m.at_ ∧ m.at_ ≤ 4096) : 0 ≤ behindM l ∧ behindM l ≤ 4097 := by
  unfold behindM
  cases hl : l.getLast? with
  | none => simp
  | some m =>
    have := h m (List.mem_of_getLast? hl)
    simp only
    omega
section
variable (rb : Nat) (sv : Value) (ap : Option Addr) (np cp : Nat) (cs : List ConstV) (zs : List Int) (k : Nat) (w : World)
set_option maxRecDepth 100000 in
theorem mFrames : Calls Tryd.prog 30 #[rdV rb (.slice ap np cp)] w fun e w' => e = .returned (.func (.func 45) #[] #[.pointer (some ⟨w.heap.size, 0, none⟩), .pointer (some ⟨w.heap.size + 1, 0, none⟩)]) ∧
    w'.heap[w.heap.size]? = some (rdA rb (.slice ap np cp)) ∧ w'.heap[w.heap.size + 1]? = some (.cells #[.int .i64 0] 3 (0, 0)) ∧ Only (fun _ => False) w w' ∧ w'.heap.size = w.heap.size + 2 := by
  have hmf : ∀ (fn : Fn) (first cap : Array Value) (w : World), (Instr.makeFunc fn first cap).run Tryd.prog w = .ok (.func fn first cap) w := fun _ _ _ _ => rfl
  have ho1 := ((Only.refl (fun _ => False) w).alloc (rdA rb (.slice ap np cp))).alloc (.cells #[.int .i64 0] 3)
  have h1 := ((Only.refl (fun _ => False) (w.alloc (rdA rb (.slice ap np cp)))).alloc (.cells #[.int .i64 0] 3)).heap (heap_alloc_new w (rdA rb (.slice ap np cp))) (fun h => h)
  have h2 := heap_alloc_new (w.alloc (rdA rb (.slice ap np cp))) (.cells #[.int .i64 0] 3)
  have hs1 : (w.alloc (rdA rb (.slice ap np cp))).heap.size = w.heap.size + 1 := by simp
  rw [hs1] at h2
  have HO := Lib.hid (And.intro h1 (And.intro h2 ho1))
  clear ho1 h1 h2 hs1
  unfold rdV
  go_enter Tryd.func30, Tryd.ntmps30
  go_wp2
  go_ret
  exact ⟨rfl, HO.out.1, HO.out.2.1, HO.out.2.2, by simp⟩
set_option maxHeartbeats 8000000 in
set_option maxRecDepth 100000 in
theorem mAll (hT : Tags w) (hg : 0 ≠ rb ∧ 0 < w.heap.size) (h : Rp w rb sv (.slice ap np cp) cs zs k) :
    Calls Tryd.prog 13 #[rdV rb (.slice ap np cp)] w (RdAll rb w zs (allM cs zs k)) := by
  obtain ⟨i0, hi, hz0, hz1, hz2⟩ := info_parts info_map
  have hen : ∀ args w, (callFunc 45 args).run Tryd.prog w = .ok (.enter 45 args) w := enters_of Tryd.func45 (by kernel_rfl) rfl
  have hl := h.rd.lt
  have hz := h.rd.byt
  have hpl := Pool.lt h.pool
  have ho1 := (Only.refl (fun _ => False) w).alloc (rdA rb (.slice ap np cp))
  have hbx := heap_alloc_new w (rdA rb (.slice ap np cp))
  have q0 : _ = some (Value.pointer (some ⟨rb, 0, none⟩)) := cell_blk hbx 0
  have q1 : _ = some (Value.slice ap np cp) := cell_blk hbx 1
  have cF := mFrames rb ap np cp (w.alloc (rdA rb (.slice ap np cp)))
  have hs1 : (w.alloc (rdA rb (.slice ap np cp))).heap.size = w.heap.size + 1 := by simp
  rw [hs1] at cF
  unfold rdV at cF ⊢
  have CF := Lib.hid cF
  have HW := Lib.hid (h.idle ho1)
  have HT := Lib.hid (hT.only ho1 (fun h => h))
  have HO := Lib.hid ho1
  have HBX := Lib.hid hbx
  have HZ := Lib.hid hz
  have HPL := Lib.hid hpl
  have HL := Lib.hid hl
  have HG := Lib.hid hg
  clear h ho1 hbx hl cF hz hT hpl hg hs1
  go_enter Tryd.func13, Tryd.ntmps13
  go_wp2_with (fail)
  refine CF.out.mono ?_
  rintro e w1 ⟨rfl, h1, h2, ho, hsz⟩
  have HW1 := Lib.hid (HW.out.idle ho)
  have HT1 := Lib.hid (HT.out.only ho (fun h => h))
  have HO1 := Lib.hid (HO.out.trans ho (fun _ h _ => h))
  have hbx1 := ho.heap HBX.out (fun h => h)
  have q01 : w1.cell? ⟨w.heap.size, 0, none⟩ = some (Value.pointer (some ⟨rb, 0, none⟩)) := cell_blk hbx1 0
  have q11 : w1.cell? ⟨w.heap.size, 1, none⟩ = some (Value.slice ap np cp) := cell_blk hbx1 1
  have HBX1 := Lib.hid hbx1
  have H1 := Lib.hid h1
  have H2 := Lib.hid h2
  have HSZ := Lib.hid hsz
  clear h1 h2 ho hsz hbx1 HW HT HO HBX CF q0 q1
  have cS := mShort rb sv ap np cp cs zs k w1 HW1.out
  unfold rdV at cS
  have CS := Lib.hid cS
  clear cS
  go_wp2_with (fail)
  refine CS.out.mono ?_
  rintro e w2 ⟨⟨x, k1, hx, rfl, hr⟩ | ⟨x, hx, rfl⟩, ho⟩
  rotate_left
  · exact ⟨rfl, .inr ⟨x, bindP_error hx, rfl⟩, HO1.out.rb.rbs ho⟩
  have hv := numP_val zs k HZ.out hx
  simp only [Int.reducePow] at hv
  obtain ⟨mm, rfl⟩ : ∃ mm : Nat, x = mm := ⟨x.toNat, by omega⟩
  have HX := Lib.hid (show allM cs zs k = _ from bindP_ok hx)
  have hrb1 := HL.out.1
  have HW2 := Lib.hid (HW1.out.read ho hr)
  have HT2 := Lib.hid (HT1.out.only ho HG.out.1)
  have HO2 := Lib.hid (HO1.out.rb.rbs ho)
  have HBX2 := Lib.hid (ho.heap HBX1.out (by omega))
  have H12 := Lib.hid (ho.heap H1.out (by omega))
  have H22 := Lib.hid (ho.heap H2.out (by omega))
  have HSZ2 := Lib.hid (show w.heap.size + 3 ≤ w2.heap.size from by have := ho.size; have := HSZ.out; omega)
  clear hx hr ho HW1 HT1 HO1 HBX1 H1 H2 HSZ CS q01 q11 hrb1
  go_wp2
  go_loopw [9, 3] (fun iv lv wr => ∃ (xs : List MapX) (kk : Nat), iv = .int .i64 xs.length ∧ xs.length ≤ mm ∧ RunTo cs mm zs k1 (xs.map (·.1)) kk ∧ MapsO wr (w.heap.size + 3) lv xs ∧ Rp wr rb sv (.slice ap np cp) cs zs kk ∧ Tags wr ∧ Only (fun j => j = rb) w wr ∧ w.heap.size + 3 ≤ wr.heap.size ∧
      wr.heap[w.heap.size]? = some (rdA rb (.slice ap np cp)) ∧ wr.heap[w.heap.size + 1]? = some (rdA rb (.slice ap np cp)) ∧ wr.heap[w.heap.size + 1 + 1]? = some (.cells #[.int .i64 (behindM (xs.map (·.1)))] 3 (0, 0)) ∧ ∀ q ∈ xs, 0 ≤ q.1.at_ ∧ q.1.at_ ≤ 4096) (fun iv _ _ => mm - (intOf iv).toNat)
  case atStart => exact ⟨[], k1, rfl, Nat.zero_le _, .start, MapsO.nil _ _, HW2.out, HT2.out, HO2.out, HSZ2.out, HBX2.out, H12.out, H22.out, fun q hq => by cases hq⟩
  case round =>
    obtain ⟨xs, kk, rfl, hle, hto, hm, hrp, htg, hon, hsz, hbx, hb1, hb2, hat⟩ := hrel
    obtain ⟨al, cl, rfl, l1, l2⟩ := slice_of_owns hm.rg
    have q0 : wr.cell? ⟨w.heap.size, 0, none⟩ = some (Value.pointer (some ⟨rb, 0, none⟩)) := cell_blk hbx 0
    have hbr := behind_range (cs := cs) (n := mm) (zs := zs) (k := k) (k' := kk) (l := xs.map (·.1)) (fun m hm => by obtain ⟨q, hq, rfl⟩ := List.mem_map.1 hm; exact hat q hq)
    have HTO := Lib.hid hto
    have HM := Lib.hid hm
    have HRP := Lib.hid hrp
    have HTG := Lib.hid htg
    have HON := Lib.hid hon
    have HBX := Lib.hid hbx
    have HB1 := Lib.hid hb1
    have HAT := Lib.hid hat
    have HSW := Lib.hid hsz
    by_cases hlt : xs.length < mm
    · have hltz : (xs.length : Int) < (mm : Int) := by omega
      have cO := mNext rb (w.heap.size + 1) (w.heap.size + 1 + 1) sv ap np cp cs zs kk wr (behindM (xs.map (·.1))) hbr.1 hbr.2 htg ⟨HG.out.1, by have := HG.out.2; omega, by have := HG.out.2; omega⟩ (by have := HL.out.1; omega) (fun j hj e => by have := HL.out.2 j hj; omega) (fun j hj hc e => by have := HPL.out j hj hc; omega) hrp hb1 hb2
      have CO := Lib.hid cO
      clear cO hto hm hrp htg hon hbx hb1 hb2 hat hbr hsz HW2 HT2 HO2 HBX2 H12 H22 HSZ2
      go_wp2_with (fail)
      refine CO.out.mono ?_
      rintro e w3 ⟨⟨m, k3, v1, v2, hx, rfl, hr, h2, t1, t2, ha0, ha1⟩ | ⟨x, hx, rfl⟩, ho⟩
      rotate_left
      · exact ⟨rfl, .inr ⟨_, HX.out.trans (bindP_error (by rw [Int.toNat_natCast]; exact HTO.out.fail (by rw [List.length_map]; exact hlt) hx)), rfl⟩, HON.out.trans ho (fun i hi hl => hi.resolve_right (by omega))⟩
      obtain ⟨x1, n1, c1, rfl⟩ : ∃ x n c, v1 = .slice x n c := by obtain ⟨x, c, e, -⟩ := t1.types.slice; exact ⟨_, _, _, e⟩
      obtain ⟨x2, n2, c2, rfl⟩ : ∃ x n c, v2 = .slice x n c := by obtain ⟨x, c, e, -⟩ := t2.types.slice; exact ⟨_, _, _, e⟩
      have hlow : ∀ j, (j = rb ∨ j = w.heap.size + 1 + 1) → j < w.heap.size + 3 := fun j hj => by have := HL.out.1; omega
      have HTO3 := Lib.hid (show RunTo cs mm zs k1 ((xs ++ [(m, Value.slice x1 n1 c1, Value.slice x2 n2 c2)]).map (·.1)) k3 from by rw [List.map_append]; exact HTO.out.more (by rw [List.length_map]; exact hlt) hx)
      have hal := (Only.refl (fun _ => False) w3).alloc (.cells #[.int .i64 m.at_, .slice x1 n1 c1, .slice x2 n2 c2, .bool m.fresh] 37)
      have HM3 := Lib.hid ((HM.out.keep ho hlow).idle hal)
      have HRP3 := Lib.hid (Rp.idle (show Rp w3 rb sv (.slice ap np cp) cs zs k3 from ⟨hr, Pool.only2 HRP.out.pool ho (fun j hj hc e => by have := HRP.out.pb j hj hc; have := HPL.out j hj hc; omega), HRP.out.pb⟩) hal)
      have HTG3 := Lib.hid ((HTG.out.only ho (by have := HG.out; omega)).only hal (fun h => h))
      have HON3 := Lib.hid (show Only (fun j => j = rb) w _ from (HON.out.trans ho (fun i hi hl => hi.resolve_right (by omega))).trans hal (fun _ h => h.elim))
      have HBX3 := Lib.hid (hal.heap (ho.heap HBX.out (by have := HL.out.1; omega)) (fun h => h))
      have HB13 := Lib.hid (hal.heap (ho.heap HB1.out (by have := HL.out.1; omega)) (fun h => h))
      have HB23 := Lib.hid (hal.heap h2 (fun h => h))
      have HT1 := Lib.hid ((t1.base (show w.heap.size + 3 ≤ wr.heap.size from HSW.out)).only hal (fun _ _ h => h))
      have HT2 := Lib.hid ((t2.base (show w.heap.size + 3 ≤ wr.heap.size from HSW.out)).only hal (fun _ _ h => h))
      have HN1 := Lib.hid (show ∀ j, (Value.slice x1 n1 c1).ownBlock = some j → (Value.slice al xs.length cl).ownBlock ≠ some j from fun j hj e => by have := (t1.ge j hj).1; have := (HM.out.rg.ge j e).2; omega)
      have HN2 := Lib.hid (show ∀ j, (Value.slice x2 n2 c2).ownBlock = some j → (Value.slice al xs.length cl).ownBlock ≠ some j from fun j hj e => by have := (t2.ge j hj).1; have := (HM.out.rg.ge j e).2; omega)
      have HSW3 := Lib.hid (show w.heap.size + 3 ≤ (w3.alloc (.cells #[.int .i64 m.at_, .slice x1 n1 c1, .slice x2 n2 c2, .bool m.fresh] 37)).heap.size from by have := ho.size; have := HSW.out; simp; omega)
      have HSRC := Lib.hid (Src.map (w := w3) (m := w3.heap.size) (m, Value.slice x1 n1 c1, Value.slice x2 n2 c2) rfl rfl rfl)
      have HA := Lib.hid (And.intro ha0 ha1)
      have HGE := Lib.hid (HM.out.rg.ge)
      clear hx hr h2 t1 t2 ha0 ha1 ho hlow hal CO HM HRP HTG HON HBX HB1 HTO HSW q0
      unfold valMp
      go_wp2_with (at_builtin; go_loud (refine wpList_append_src rfl (.tmp 11) (.tmp 14) 24 rfl 37 i0 (.agg #[.int .i64 0, .slice none 0 0, .slice none 0 0, .bool false]) 4 64 Tryd.underlying24 hi hz0 hz1 hz2 rfl (by decide) (w.heap.size + 3) (.slice al xs.length cl) xs.length (xs.flatMap cellsMp) rfl (by exact HM3.out.rg) (by exact HSW3.out) (.slice (some ⟨w3.heap.size, 0, none⟩) 1 1) 1 (cellsMp (m, Value.slice x1 n1 c1, Value.slice x2 n2 c2)) rfl (by exact HSRC.out) (by unfold maxLen; omega) (by omega) ?_); intro v' w5 hown hgrow hnew; obtain ⟨hm5, hos⟩ := HM3.out.push (x := (m, Value.slice x1 n1 c1, Value.slice x2 n2 c2)) HT1.out HT2.out HN1.out HN2.out hown hgrow hnew; have hfar : ∀ j, (fun k => (Value.slice al xs.length cl).ownBlock = some k) j → w.heap.size + 3 ≤ j := (fun j hj => (HGE.out _ hj).1); have HM5 := Lib.hid hm5; have HRP5 := Lib.hid (HRP3.out.only hos (fun hj => by have := hfar _ hj; have := HL.out.1; omega) (fun j hj hh => by have := hfar _ hh; have := HL.out.2 j hj; omega) (fun j hj hc hh => by have := hfar _ hh; have := HPL.out j hj hc; omega)); have HTG5 := Lib.hid (HTG3.out.only hos (fun hj => by have := hfar _ hj; have := HG.out.2; omega)); have HON5 := Lib.hid (HON3.out.trans hos (fun j hj hl => by have := hfar j hj; omega)); have HBX5 := Lib.hid (hos.heap HBX3.out (fun hj => by have := hfar _ hj; omega)); have HB15 := Lib.hid (hos.heap HB13.out (fun hj => by have := hfar _ hj; omega)); have HB25 := Lib.hid (hos.heap HB23.out (fun hj => by have := hfar _ hj; omega)); have HSW5 := Lib.hid (Nat.le_trans HSW3.out hos.size); clear hm5 hos hfar hown hgrow hnew)
      go_roundw
      case rel => exact ⟨xs ++ [(m, Value.slice x1 n1 c1, Value.slice x2 n2 c2)], k3, by simp, by simp; omega, HTO3.out, HM5.out, HRP5.out, HTG5.out, HON5.out, HSW5.out, HBX5.out, HB15.out, by rw [List.map_append]; rw [show List.map (fun x : MapX => x.1) [(m, Value.slice x1 n1 c1, Value.slice x2 n2 c2)] = [m] from rfl, behindM_snoc]; exact HB25.out, fun q hq => by
        rcases List.mem_append.1 hq with hq | hq
        · exact HAT.out q hq
        · simp only [List.mem_cons, List.mem_nil_iff, or_false] at hq
          subst hq
          exact HA.out⟩
      case measure => simp [intOf]; omega
    · have hnz : (mm : Int) ≤ (xs.length : Int) := by omega
      have HD := Lib.hid (HX.out.trans (bindP_ok (show runM cs (mm : Int).toNat 0 zs k1 = .ok (xs.map (·.1), kk) from by rw [Int.toNat_natCast]; exact HTO.out.done (by rw [List.length_map]; omega))))
      have hxl : xs.length ≤ 65535 := by omega
      have HXL := Lib.hid hxl
      have hkl := hrp.rd.le
      clear hi hz0 hz1 hz2 hto hm hrp htg hon hbx hb1 hb2 hat hbr hsz HTO hlt hxl HW2 HT2 HO2 HBX2 H12 H22 HSZ2
      go_wp2_with (fail)
      refine (rdLeftM rb sv zs kk wr HRP.out.rd).mono ?_
      rintro e w6 ⟨rfl, hdr⟩
      have ho6 := hdr.only (S := fun _ => False)
      have HM6 := Lib.hid ((HM.out.idle ho6).base (show w.heap.size ≤ w.heap.size + 3 by omega))
      have HON6 := Lib.hid (HON.out.trans ho6 (fun _ h => h.elim))
      clear hdr ho6 HM HON
      by_cases hk : kk = zs.length
      · have HE := Lib.hid (HD.out.trans (show _ = Except.ok (xs.map (·.1), zs.length) by simp only [hk, if_true]))
        have hz0 : ((zs.length : Int) - (kk : Int) == 0) = true := by rw [beq_iff_eq]; omega
        clear HD
        go_wp2_with (fail)
        refine (mMustT _).mono ?_
        rintro e w7 ⟨rfl, rfl⟩
        go_wp2
        go_ret
        exact ⟨.inl ⟨xs, _, _, _, HE.out, rfl, HM6.out, HXL.out⟩, HON6.out⟩
      · have HE := Lib.hid (HD.out.trans (show _ = Except.error (100 : Int) by simp only [hk, if_false]))
        have hz0 : ((zs.length : Int) - (kk : Int) == 0) = false := by rw [beq_eq_false_iff_ne]; omega
        clear HD
        go_wp2_with (fail)
        refine (mMustF _).mono ?_
        rintro e w7 ⟨rfl, rfl⟩
        exact ⟨rfl, .inr ⟨_, HE.out, rfl⟩, HON6.out⟩
end
end Go.Proofs.YtadgbkjjeigpjaaDoor
namespace Go.Proofs.YtadgbkjjeigpjaaDoor
open Go.RowKit
set_option linter.unusedVariables false
set_option linter.unusedSimpArgs false

/-- What Decode leaves. -/
def DecMTo (w : World) (cs : List ConstV) (zs : List Int) (e : Ending) (w' : World) : Prop :=
  ((∃ xs v, decM cs zs = .ok (xs.map (·.1)) ∧ e = .returned (.tuple #[v, .int .i64 0]) ∧ MapsO w' w.heap.size v xs ∧ xs.length ≤ 65535) ∨ (∃ x, decM cs zs = .error x ∧ e = .returned (.tuple #[.slice none 0 0, .int .i64 x]))) ∧ Only (fun _ => False) w w'
set_option maxHeartbeats 8000000 in
set_option maxRecDepth 100000 in
theorem progMDecode (vp vb : Value) (cs : List ConstV) (zs : List Int) (w : World) (hT : Tags w) (hg : 0 < w.heap.size) (hp : Pool w vp cs) (hb : Bytes w vb zs) (hl : zs.length ≤ 140737488355328) :
    Calls Tryd.prog 5 #[vp, vb] w (DecMTo w cs zs) := by
  obtain ⟨ap, cp, rfl, -⟩ := id hp
  obtain ⟨ab, cb, rfl, -⟩ := id hb
  by_cases h0 : zs = []
  · subst h0
    go_enter Tryd.func5, Tryd.ntmps5
    go_wp2
    go_ret2
    exact ⟨.inl ⟨[], _, rfl, rfl, MapsO.nil _ _, by simp⟩, Only.refl _ _⟩
  have hlz : 0 < zs.length := List.length_pos_iff.2 h0
  have hlb : (((zs.length : Nat) : Int) == 0) = false := by rw [beq_eq_false_iff_ne]; omega
  have hdec : decM cs zs = (match allM cs zs 0 with | .ok (l, _) => .ok l | .error e => .error e) := if_neg h0
  have cN := newReader _ zs w hb hl
  have CN := Lib.hid cN
  have HP := Lib.hid hp
  have HT := Lib.hid hT
  have HG := Lib.hid hg
  have HD := Lib.hid hdec
  clear cN hp hT hg hb hl h0 hlz hdec
  have hmf : ∀ (fn : Fn) (first cap : Array Value) (w : World), (Instr.makeFunc fn first cap).run Tryd.prog w = .ok (.func fn first cap) w := fun _ _ _ _ => rfl
  go_enter Tryd.func5, Tryd.ntmps5
  go_wp2_with (fail)
  refine CN.out.mono ?_
  rintro e w1 ⟨rb, sv, rfl, hrd, hbel, hrb, hsv⟩
  have ho1 := Only.of_below hbel (fun _ => False)
  have hrp : Rp w1 rb sv (.slice ap cs.length cp) cs zs 0 := ⟨hrd, HP.out.only ho1 (fun _ _ h => h), fun j hj hc e => by have := Pool.lt HP.out j hj hc; omega⟩
  have ho2 := (Only.refl (fun _ => False) w1).alloc (.cells #[.int .i64 0] 25)
  have hrl := hrd.lt.1
  have cA := mAll rb sv ap cs.length cp cs zs 0 _ ((HT.out.only ho1 (fun h => h)).only ho2 (fun h => h)) ⟨by have := HG.out; omega, by have := HG.out; have := ho1.size; have := ho2.size; omega⟩ (hrp.idle ho2)
  have hcell := heap_alloc_new w1 (.cells #[.int .i64 0] 25)
  have cU := mUnless 13 (enters_of Tryd.func13 (by kernel_rfl) rfl) #[rdV rb (.slice ap cs.length cp)] w1
    (fun v w2 => (∃ xs, allM cs zs 0 = .ok (xs.map (·.1), zs.length) ∧ MapsO w2 (w1.heap.size + 1) v xs ∧ xs.length ≤ 65535) ∧ Only (fun j => j = rb) (w1.alloc (.cells #[.int .i64 0] 25)) w2)
    (fun z w2 => allM cs zs 0 = .error z ∧ Only (fun j => j = rb) (w1.alloc (.cells #[.int .i64 0] 25)) w2)
    (cA.mono (fun e w2 h => by
      obtain ⟨h1 | h1, ho⟩ := h
      · obtain ⟨xs, x, m, c, a1, a2, a3, a4⟩ := h1
        exact .inl ⟨x, m, c, a2, ⟨xs, a1, by simpa using a3, a4⟩, ho⟩
      · obtain ⟨x, a1, a2⟩ := h1
        exact .inr ⟨x, a2, a1, ho⟩))
    (fun v w2 h => h.2.heap hcell (by omega)) (fun z w2 h => h.2.heap hcell (by omega))
  unfold rdV at cU
  have CU := Lib.hid cU
  have HO1 := Lib.hid ho1
  have HRB := Lib.hid hrb
  clear cA cU ho2 hcell hrp hrd hbel ho1 CN hrb hsv hrl
  go_wp2_with (fail)
  refine CU.out.mono ?_
  rintro e w3 (⟨v, w2, rfl, ⟨⟨xs, h1, h2, h3⟩, h4⟩, rfl⟩ | ⟨z, w2, rfl, ⟨h1, h4⟩, rfl⟩)
  · obtain ⟨av, cv, rfl, -, -⟩ := slice_of_owns h2.rg
    have hst := (Only.refl (fun j => j = w1.heap.size) w2).setCell (p := ⟨w1.heap.size, 0, none⟩) (fun _ => rfl) (.int .i64 0)
    have HF := Lib.hid (show MapsO (w2.setCell ⟨w1.heap.size, 0, none⟩ (.int .i64 0)) w.heap.size (.slice av xs.length cv) xs from (h2.keep hst (fun j hj => by subst hj; exact Nat.lt_succ_self _)).base (by have := HO1.out.size; omega))
    have HO := Lib.hid (show Only (fun _ => False) w (w2.setCell ⟨w1.heap.size, 0, none⟩ (.int .i64 0)) from (((HO1.out.alloc (.cells #[.int .i64 0] 25)).mono (T := fun j => j = rb ∨ j = w1.heap.size) (fun _ h _ => h.elim)).trans (h4.mono (T := fun j => j = rb ∨ j = w1.heap.size) (fun _ h _ => .inl h)) (fun _ h _ => h)).trans hst (fun _ h _ => .inr h) |>.mono (fun j hj hl => by have := HRB.out; have := HO1.out.size; omega))
    have HE := Lib.hid (HD.out.trans (show _ = Except.ok (xs.map (·.1)) by rw [h1]))
    have HL := Lib.hid h3
    clear h1 h2 h3 h4 hst CU
    generalize (w2.setCell ⟨w1.heap.size, 0, none⟩ (.int .i64 0)) = w4 at *
    go_wp2
    go_ret2
    exact ⟨.inl ⟨xs, _, HE.out, rfl, HF.out, HL.out⟩, HO.out⟩
  · have hst := (Only.refl (fun j => j = w1.heap.size) w2).setCell (p := ⟨w1.heap.size, 0, none⟩) (fun _ => rfl) (.int .i64 z)
    have HO := Lib.hid (show Only (fun _ => False) w (w2.setCell ⟨w1.heap.size, 0, none⟩ (.int .i64 z)) from (((HO1.out.alloc (.cells #[.int .i64 0] 25)).mono (T := fun j => j = rb ∨ j = w1.heap.size) (fun _ h _ => h.elim)).trans (h4.mono (T := fun j => j = rb ∨ j = w1.heap.size) (fun _ h _ => .inl h)) (fun _ h _ => h)).trans hst (fun _ h _ => .inr h) |>.mono (fun j hj hl => by have := HRB.out; have := HO1.out.size; omega))
    have HE := Lib.hid (HD.out.trans (show _ = Except.error z by rw [h1]))
    clear h1 h4 hst CU
    generalize (w2.setCell ⟨w1.heap.size, 0, none⟩ (.int .i64 z)) = w4 at *
    go_wp2
    go_ret2
    exact ⟨.inr ⟨z, HE.out, rfl⟩, HO.out⟩
end Go.Proofs.YtadgbkjjeigpjaaDoor
