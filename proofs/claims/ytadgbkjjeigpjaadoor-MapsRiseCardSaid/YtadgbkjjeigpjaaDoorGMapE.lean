/- The program writes frames that are right: nothing is refused, nothing old is touched. The program's Encode of what was read: it answers no fault. Condition: what was read. -/
import Derived.Deep.RegionHeld3
import Derived.Test.YtadgbkjjeigpjaaDoorMapD
import Derived.Test.YtadgbkjjeigpjaaDoorGWire
namespace Go.Proofs.YtadgbkjjeigpjaaDoor
open Go.RowKit Go.Maps
set_option linter.unusedVariables false
set_option linter.unusedSimpArgs false

/-- A writer none of whose blocks is one of P. -/
def WrX (P : Nat → Prop) (w : World) (wb : Nat) : Prop := ∃ sv bs, Wr w wb sv 1048576 bs ∧ (∀ k, sv.ownBlock = some k → ¬ P k) ∧ ¬ P wb
theorem WrX.to {P : Nat → Prop} {w w' : World} {wb : Nat} {sv : Value} {bs : List Int} (hs : ∀ k, sv.ownBlock = some k → ¬ P k) (hP : ¬ P wb) (hPw : ∀ k, P k → k < w.heap.size) (h : WrTo w wb sv 1048576 bs w') : WrX P w' wb ∧ Only (fun k => ¬ P k) w w' := by
  obtain ⟨sv', h1, h2, h3⟩ := h
  refine ⟨⟨sv', bs, h1, fun k hk => (h3 k hk).elim (hs k) (fun e hp => by have := hPw k hp; omega), hP⟩, h2.mono fun k hk _ => ?_⟩
  rcases hk with rfl | hk
  · exact hP
  · exact hs k hk
theorem WrX.only {S P : Nat → Prop} {w w' : World} {wb : Nat} (h : WrX P w wb) (ho : Only S w w') (hS : ∀ k, S k → P k ∨ w.heap.size ≤ k) : WrX P w' wb := by
  obtain ⟨sv, bs, h1, h2, h3⟩ := h
  exact ⟨sv, bs, h1.only ho (fun hs => (hS _ hs).elim h3 (fun e => by have := h1.lt.1; omega)) (fun k hk hs => (hS _ hs).elim (h2 k hk) (fun e => by have := h1.lt.2 k hk; omega)), h2, h3⟩
theorem WrX.idle {P : Nat → Prop} {w w' : World} {wb : Nat} (h : WrX P w wb) (ho : Only (fun _ => False) w w') : WrX P w' wb := h.only ho (fun _ h => h.elim)
theorem WrX.weak {P P' : Nat → Prop} {w : World} {wb : Nat} (h : WrX P' w wb) (hp : ∀ k, P k → P' k) : WrX P w wb := by
  obtain ⟨sv, bs, h1, h2, h3⟩ := h
  exact ⟨sv, bs, h1, fun k hk e => h2 k hk (hp k e), fun e => h3 (hp _ e)⟩
/-- A block more is none of the writer's. -/
theorem WrX.more {P : Nat → Prop} {w w' : World} {wb : Nat} (h : WrX P w wb) (ho : Only (fun _ => False) w w') (b : Nat) (hb : w.heap.size ≤ b) : WrX (fun k => P k ∨ k = b) w' wb := by
  obtain ⟨sv, bs, h1, h2, h3⟩ := h
  exact ⟨sv, bs, h1.only ho (fun h => h) (fun _ _ h => h), fun k hk e => e.elim (h2 k hk) (fun e => by have := h1.lt.2 k hk; omega), fun e => e.elim h3 (fun e => by have := h1.lt.1; omega)⟩
theorem WrX.new (w : World) : WrX (fun k => k < w.heap.size) (w.alloc (.cells #[.slice none 0 0, .int .i64 1048576, .bool true] 97)) w.heap.size :=
  ⟨_, [], Wr.new w 1048576 (by omega), (fun k hk => by cases hk), Nat.lt_irrefl _⟩
/-- What a call that writes leaves. -/
def WxTo (P : Nat → Prop) (wb : Nat) (w : World) (e : Ending) (w' : World) : Prop := e = .returned (.tuple #[]) ∧ WrX P w' wb ∧ Only (fun k => ¬ P k) w w'
theorem wxUint {P : Nat → Prop} {wb : Nat} (n x : Int) {w : World} (h : WrX P w wb) (hP : ∀ k, P k → k < w.heap.size) :
    Calls Tryd.prog 42 #[.pointer (some ⟨wb, 0, none⟩), .int .i64 n, .int .u64 x] w fun e w' => (∃ z, e = .returned (.int .i64 z)) ∧ WrX P w' wb ∧ Only (fun k => ¬ P k) w w' := by
  obtain ⟨sv, bs, hW, h2, h3⟩ := h
  refine (wrUint wb sv 1048576 bs n x w hW).mono ?_
  rintro e w' ⟨rfl, ht⟩
  exact ⟨⟨_, rfl⟩, WrX.to h2 h3 hP ht⟩
theorem wxOut {P : Nat → Prop} {wb : Nat} {w : World} (h : WrX P w wb) : Calls Tryd.prog 26 #[.pointer (some ⟨wb, 0, none⟩)] w fun e w' => ∃ v' bs, e = .returned v' ∧ Row w' w.heap.size v' bs ∧ Bytish bs ∧ bs.length ≤ 1048576 ∧ Only (fun _ => False) w w' := by
  obtain ⟨sv, bs, hW, h2, h3⟩ := h
  refine (wrOut wb sv 1048576 bs w hW).mono ?_
  rintro e w' ⟨v', rfl, hown, hbel⟩
  exact ⟨v', bs, rfl, by simpa [Row] using hown, hW.byt, hW.fit, Only.of_below hbel _⟩
def wrV (wb mb : Nat) : Value := .agg #[.pointer (some ⟨wb, 0, none⟩), .map (some mb)]
theorem size_writer : (Tryd.prog.info? 70).map (·.size) = some 2 := by kernel_rfl
set_option maxHeartbeats 2000000 in
set_option maxRecDepth 100000 in
theorem mNewWriter (mb : Nat) (w : World) : Calls Tryd.prog 24 #[.map (some mb)] w fun e w' => ∃ wb, e = .returned (wrV wb mb) ∧ WrX (fun k => k < w.heap.size + 1) w' wb ∧ Only (fun _ => False) w w' := by
  have hr0 := heap_alloc_new w (.cells #[.pointer none, .map none] 70)
  have ho0 := (Only.refl (fun _ => False) w).alloc (.cells #[.pointer none, .map none] 70)
  have hs1 : (w.alloc (.cells #[.pointer none, .map none] 70)).heap.size = w.heap.size + 1 := by simp
  have cN := newWriterOk 1048576 (w.alloc (.cells #[.pointer none, .map none] 70)) (by omega)
  rw [hs1] at cN
  have CN := Lib.hid cN
  have HR0 := Lib.hid hr0
  have HO0 := Lib.hid ho0
  clear hr0 ho0 cN hs1
  go_enter Tryd.func24, Tryd.ntmps24
  go_wp2_with (fail)
  refine CN.out.mono ?_
  rintro e w1 ⟨rfl, hw1⟩
  have ho1 : Only (fun _ => False) (w.alloc (.cells #[.pointer none, .map none] 70)) w1 := by rw [hw1]; exact (Only.refl _ _).alloc _
  have hx : WrX (fun k => k < w.heap.size + 1) w1 (w.heap.size + 1) := by
    have h := WrX.new (w.alloc (.cells #[.pointer none, .map none] 70))
    rw [show (w.alloc (.cells #[.pointer none, .map none] 70)).heap.size = w.heap.size + 1 by simp] at h
    rw [hw1]
    exact h
  have hr1 := ho1.heap HR0.out (fun h => h)
  have f0 := frozen_blk hr1 0
  have f1 := frozen_blk hr1 1
  have q0 : w1.cell? ⟨w.heap.size, 0, none⟩ = some (.pointer none) := cell_blk hr1 0
  have q1 : w1.cell? ⟨w.heap.size, 1, none⟩ = some (.map none) := cell_blk hr1 1
  have HX := Lib.hid hx
  have HO1 := Lib.hid (HO0.out.trans ho1 (fun _ h _ => h))
  have HR1 := Lib.hid hr1
  have HS := Lib.hid (show w.heap.size + 1 < w1.heap.size from by obtain ⟨sv, bs, a1, _, _⟩ := hx; exact a1.lt.1)
  clear hw1 ho1 hx hr1 CN HR0 HO0
  go_wp2
  have hset := ((Only.refl (fun j => j = w.heap.size) w1).setCell (p := ⟨w.heap.size, 0, none⟩) (fun _ => rfl) (.pointer (some ⟨w.heap.size + 1, 0, none⟩))).setCell (p := ⟨w.heap.size, 1, none⟩) (fun _ => rfl) (.map (some mb))
  have hfin := HR1.out
  have h0 := heap_setCell_at (i := 0) (u := .pointer (some ⟨w.heap.size + 1, 0, none⟩)) HR1.out
  simp only [List.setIfInBounds_toArray, List.set_cons_zero, List.set_cons_succ] at h0
  have h1 := heap_setCell_at (i := 1) (u := .map (some mb)) h0
  simp only [List.setIfInBounds_toArray, List.set_cons_zero, List.set_cons_succ] at h1
  exact bodyPost_ret (results_cell_row Tryd.results24 _ _ w.heap.size 70 _ (0, 0) _ rfl h1 Tryd.underlying70 rfl size_writer) rfl ⟨w.heap.size + 1, rfl, HX.out.only hset (fun k hk => .inl (by omega)), HO1.out.trans hset (fun i hi hl => by omega)⟩
set_option maxHeartbeats 2000000 in
set_option maxRecDepth 100000 in
theorem mWShort (P : Nat → Prop) (wb mb : Nat) (n : Int) (w : World) (h : WrX P w wb) (hP : ∀ k, P k → k < w.heap.size) : Calls Tryd.prog 25 #[wrV wb mb, .int .i64 n] w (WxTo P wb w) := by
  have ho0 := (Only.refl (fun _ => False) w).alloc (.cells #[.pointer (some ⟨wb, 0, none⟩), .map (some mb)] 70)
  have hb := heap_alloc_new w (.cells #[.pointer (some ⟨wb, 0, none⟩), .map (some mb)] 70)
  have q0 : _ = some (Value.pointer (some ⟨wb, 0, none⟩)) := cell_blk hb 0
  have cU := fun x => wxUint 2 x (h.idle ho0) (fun k hk => Nat.lt_of_lt_of_le (hP k hk) ho0.size)
  have CU := Lib.hid cU
  have HO0 := Lib.hid ho0
  clear ho0 hb cU h
  unfold wrV
  go_enter Tryd.func25, Tryd.ntmps25
  go_wp2_with (fail)
  refine (CU.out _).mono ?_
  rintro e w1 ⟨⟨z, rfl⟩, hx, ho1⟩
  have HX := Lib.hid hx
  have HO1 := Lib.hid (show Only (fun k => ¬ P k) w w1 from (HO0.out.mono (fun _ h _ => h.elim)).trans ho1 (fun _ h _ => h))
  clear hx ho1 CU HO0
  go_wp2
  go_end0
  exact ⟨rfl, HX.out, HO1.out⟩
theorem step_lookN {P : Program} {ops : Array Oper} {o : Oper} {a : Act} {w : World} {K : Act → World → Prop} {Q : Exit → Act → World → Prop} {E : Prop} (hg : o.guard = none) (m x : Operand) (t : TypeId) (hop : o.op = Op.lookup t m x false) (k e : TypeId) (q : IntKind) (KY : Keyed P k) (ht : P.underlying t = some (.map k e)) (he : P.underlying e = some (.int q)) (hz : (zeroValue e).run P w = .ok (.int q 0) w)
    (b n : Nat) (D : DataW Unit) (hm : a.eval m = .map (some b)) (hown : w.ownsMap P k (plainElem P e) b n D) (key : Value) (kl : Lit) (hx : a.eval x = key) (hkey : keyOf P k key = some kl)
    (h : ∀ c : Int, K (a.put o.dst (.int q c)) w) : if Region.wanted o (yielded ops a.tmps) = true then Oper.wp P o a w K Q else E := by
  rw [if_pos (by simp [Region.wanted, hg])]
  obtain ⟨c, hrun, hat, hwc⟩ := hown.lookup_int KY ht he hz hkey
  unfold Oper.wp
  simp [execOp, hop, hm, hx, hrun, Result.andThen, Oper.upon]
  exact h c
theorem ok_kind {cs : List ConstV} {t : TypeV} (h : OkT cs t) : ∃ kn : Nat, t.k = (kn : Int) ∧ kn < 8 := by
  rcases h with ⟨q, hq, rfl⟩ | ⟨a, ha, rfl⟩ | ⟨i, _, ht⟩
  · exact ⟨q.toNat, by simp only; omega, by omega⟩
  · exact ⟨6, rfl, by decide⟩
  · rcases typeN_k ht with e | e
    · exact ⟨4, e, by decide⟩
    · exact ⟨5, e, by decide⟩
theorem tag_some {i : Nat} (h : i < 8) : ∃ x, tagL[i]? = some (.int .u64 x) := by
  rcases (show i = 0 ∨ i = 1 ∨ i = 2 ∨ i = 3 ∨ i = 4 ∨ i = 5 ∨ i = 6 ∨ i = 7 by omega) with rfl | rfl | rfl | rfl | rfl | rfl | rfl | rfl <;> exact ⟨_, rfl⟩
set_option maxHeartbeats 8000000 in
set_option maxRecDepth 100000 in
theorem mWTypes (P : Nat → Prop) (wb mb : Nat) (cs : List ConstV) (v : Value) (l : List TypeV) (w : World) (h : WrX P w wb) (hP : ∀ k, P k → k < w.heap.size) (hT : Tags w) (hg : P 0) (hpl : PlM w mb cs (min cs.length 65536)) (hmb : P mb) (hl : Types w v l) (hlb : ∀ j, v.ownBlock = some j → l ≠ [] → P j) (ht : ∀ t ∈ l, OkT cs t ∧ SmT t) (hn : l.length ≤ 64) :
    Calls Tryd.prog 44 #[wrV wb mb, v] w (WxTo P wb w) := by
  obtain ⟨ao, cp, rfl, l1, l2, l3, -⟩ := id hl
  have ho0 := (Only.refl (fun _ => False) w).alloc (.cells #[.pointer (some ⟨wb, 0, none⟩), .map (some mb)] 70)
  have hb := heap_alloc_new w (.cells #[.pointer (some ⟨wb, 0, none⟩), .map (some mb)] 70)
  have q0 : _ = some (Value.pointer (some ⟨wb, 0, none⟩)) := cell_blk hb 0
  have q1 : _ = some (Value.map (some mb)) := cell_blk hb 1
  have hP1 : ∀ k, (P k ∨ k = w.heap.size) → k < (w.alloc (.cells #[.pointer (some ⟨wb, 0, none⟩), .map (some mb)] 70)).heap.size := fun k hk => by
    have := heap_lt hb
    rcases hk with hk | rfl
    · have := hP k hk; omega
    · exact this
  have cS := fun n => mWShort (fun k => P k ∨ k = w.heap.size) wb mb n _ (h.more ho0 w.heap.size (Nat.le_refl _)) hP1
  unfold wrV at cS ⊢
  have CS := Lib.hid cS
  have HO0 := Lib.hid ho0
  have HB0 := Lib.hid hb
  have HP := Lib.hid hP
  have HP1 := Lib.hid hP1
  have HT := Lib.hid (hT.only ho0 (fun h => h))
  have HG := Lib.hid hg
  have HPL := Lib.hid (hpl.only ho0 (fun h => h))
  have HMB := Lib.hid hmb
  have HL := Lib.hid (hl.only ho0)
  have HLB := Lib.hid hlb
  have HOK := Lib.hid ht
  clear h hP hT hg hpl hmb hl hlb ht ho0 hb hP1 cS l3
  go_enter Tryd.func44, Tryd.ntmps44
  go_wp2_with (fail)
  refine (CS.out _).mono ?_
  rintro e w1 ⟨rfl, hx1, ho1⟩
  have HX1 := Lib.hid hx1
  have HO1 := Lib.hid ho1
  clear hx1 ho1 CS q0 q1
  go_wp2
  go_loopw [12] (fun iv wr => ∃ j : Nat, iv = .int .i64 j ∧ j ≤ l.length ∧ WrX (fun k => P k ∨ k = w.heap.size) wr wb ∧ Only (fun k => ¬ (P k ∨ k = w.heap.size)) (w.alloc (.cells #[.pointer (some ⟨wb, 0, none⟩), .map (some mb)] 70)) wr) (fun iv _ => l.length - (intOf iv).toNat)
  case atStart => exact ⟨0, rfl, Nat.zero_le _, HX1.out, HO1.out⟩
  case round =>
    obtain ⟨j, rfl, hj, hx, hon⟩ := hrel
    clear HX1 HO1
    have HX := Lib.hid hx
    have HON := Lib.hid hon
    by_cases hlt : j < l.length
    · have hjz : (j : Int) < (l.length : Int) := by omega
      have hlr : Sl (.slice ao l.length cp) l.length (fun b o i => TypeAt wr b o i (l.getD i default)) := Sl.imp HL.out (fun b o i hb hi hc => hc.only hon (fun h => h (.inl (HLB.out b hb (List.ne_nil_of_length_pos (by omega))))))
      obtain ⟨b, o, rfl, c⟩ := Sl.at hlr hlt
      obtain ⟨x0, x1, x2, x3, x4⟩ := c
      have hok := HOK.out _ (getD_mem hlt)
      generalize l.getD j default = t at *
      obtain ⟨kn, hk, hk8⟩ := ok_kind hok.1
      obtain ⟨x, hx8⟩ := tag_some hk8
      have hal := (Only.refl (fun _ => False) wr).alloc (.cells #[.int .i64 (kn : Int), .string t.name, .int .i64 t.dims, .int .i64 t.elem, .int .i64 t.at_] 39)
      have hald := hal.drewN 1
      have hbt := heap_alloc_new wr (.cells #[.int .i64 (kn : Int), .string t.name, .int .i64 t.dims, .int .i64 t.elem, .int .i64 t.at_] 39)
      have hbtd := ((Only.refl (fun _ => False) (wr.alloc (.cells #[.int .i64 (kn : Int), .string t.name, .int .i64 t.dims, .int .i64 t.elem, .int .i64 t.at_] 39))).drewN 1).heap hbt (fun h => h)
      have hbw := hon.heap HB0.out (fun h => h (.inr rfl))
      have htg := (HT.out.only hon (fun h => h (.inl HG.out))).only hald (fun h => h)
      have HS0 := Lib.hid (show (fun wc => wc.cell? ⟨w.heap.size, 0, none⟩ = some (.pointer (some ⟨wb, 0, none⟩)) ∧ wc.cell? ⟨wr.heap.size, 0, none⟩ = some (.int .i64 (kn : Int)) ∧ wc.cell? ⟨0, kn, none⟩ = some (.int .u64 x)) ((wr.alloc (.cells #[.int .i64 (kn : Int), .string t.name, .int .i64 t.dims, .int .i64 t.elem, .int .i64 t.at_] 39)).drewN 1) from ⟨cell_blk (hald.heap hbw (fun h => h)) 0, cell_blk hbtd 0, by have := htg kn hk8; rw [hx8] at this; exact this⟩)
      have HBW := Lib.hid (hal.heap hbw (fun h => h))
      have HBT := Lib.hid hbt
      have HW0 := Lib.hid (hx.more hal wr.heap.size (Nat.le_refl _))
      have hpw : ∀ k, ((P k ∨ k = w.heap.size) ∨ k = wr.heap.size) → k < (wr.alloc (.cells #[.int .i64 (kn : Int), .string t.name, .int .i64 t.dims, .int .i64 t.elem, .int .i64 t.at_] 39)).heap.size := fun k hk => by
        have a := heap_lt hbt
        rcases hk with hk | rfl
        · have b := HP1.out k hk
          have c := hon.size
          have d := hal.size
          omega
        · exact a
      have HPW := Lib.hid hpw
      have HGP := HG
      have HALO := Lib.hid hal
      have HPLR := Lib.hid ((HPL.out.only hon (fun h => h (.inl HMB.out))).only hal (fun h => h))
      have HOKT := Lib.hid hok
      have HSX := Lib.hid (show ∀ w', Only (fun k => ¬ ((P k ∨ k = w.heap.size) ∨ k = wr.heap.size)) (wr.alloc (.cells #[.int .i64 (kn : Int), .string t.name, .int .i64 t.dims, .int .i64 t.elem, .int .i64 t.at_] 39)) w' → Only (fun k => ¬ (P k ∨ k = w.heap.size)) (w.alloc (.cells #[.pointer (some ⟨wb, 0, none⟩), .map (some mb)] 70)) w' from fun w' h => (hon.trans hal (fun _ h _ => h.elim)).trans h (fun k hk _ => fun h => hk (.inl h)))
      clear hal hald hbt hbtd hbw htg hx hon hpw hok hx8
      rw [hk] at x0
      have hk8z : (kn : Int) < 8 := by omega
      go_wp2_with (fail)
      refine wp_region_held_drew (S := fun wc => wc.cell? ⟨w.heap.size, 0, none⟩ = some (.pointer (some ⟨wb, 0, none⟩)) ∧ wc.cell? ⟨wr.heap.size, 0, none⟩ = some (.int .i64 (kn : Int)) ∧ wc.cell? ⟨0, kn, none⟩ = some (.int .u64 x)) (by kernel_rfl) HS0.out (fun hHeld => ?_)
      refine wpAnyH_take (i := 0) (v := ?_) (by simp only [List.getElem?_toArray, List.getElem?_cons_succ, List.getElem?_cons_zero]; rfl) (by kernel_rfl) (by kernel_rfl) (by kernel_rfl) (by exact fun _ _ _ h => h) (Or.inl ⟨by rfl, ?_⟩) (by assumption) ?_
      rotate_left 1
      · (intro w hSw; (try dsimp only at hSw); go_simp; try with_reducible rfl)
      try simp only [Act.put, List.setIfInBounds_toArray, List.set_cons_zero, List.set_cons_succ]
      refine wpAnyH_take (i := 1) (v := ?_) (by simp only [List.getElem?_toArray, List.getElem?_cons_succ, List.getElem?_cons_zero]; rfl) (by kernel_rfl) (by kernel_rfl) (by kernel_rfl) (by exact fun _ _ _ h => h) (Or.inl ⟨by rfl, ?_⟩) (by assumption) ?_
      rotate_left 1
      · (intro w hSw; (try dsimp only at hSw); go_simp; try with_reducible rfl)
      try simp only [Act.put, List.setIfInBounds_toArray, List.set_cons_zero, List.set_cons_succ]
      refine wpAnyH_take (i := 2) (v := ?_) (by simp only [List.getElem?_toArray, List.getElem?_cons_succ, List.getElem?_cons_zero]; rfl) (by kernel_rfl) (by kernel_rfl) (by kernel_rfl) (by exact fun _ _ _ h => h) (Or.inl ⟨by rfl, ?_⟩) (by assumption) ?_
      rotate_left 1
      · (intro w hSw; (try dsimp only at hSw); go_simp; try with_reducible rfl)
      try simp only [Act.put, List.setIfInBounds_toArray, List.set_cons_zero, List.set_cons_succ]
      refine wpAnyH_take (i := 3) (v := ?_) (by simp only [List.getElem?_toArray, List.getElem?_cons_succ, List.getElem?_cons_zero]; rfl) (by kernel_rfl) (by kernel_rfl) (by kernel_rfl) (by exact fun _ _ _ h => h) (Or.inl ⟨by rfl, ?_⟩) (by assumption) ?_
      rotate_left 1
      · (intro w hSw; (try dsimp only at hSw); go_simp; try with_reducible rfl)
      try simp only [Act.put, List.setIfInBounds_toArray, List.set_cons_zero, List.set_cons_succ]
      refine wpAnyH_take (i := 4) (v := ?_) (by simp only [List.getElem?_toArray, List.getElem?_cons_succ, List.getElem?_cons_zero]; rfl) (by kernel_rfl) (by kernel_rfl) (by kernel_rfl) (by exact fun _ _ _ h => h) (Or.inl ⟨by rfl, ?_⟩) (by assumption) ?_
      rotate_left 1
      · (intro w hSw; (try dsimp only at hSw); go_simp; try with_reducible rfl)
      try simp only [Act.put, List.setIfInBounds_toArray, List.set_cons_zero, List.set_cons_succ]
      refine wpAnyH_take (i := 5) (v := ?_) (by simp only [List.getElem?_toArray, List.getElem?_cons_succ, List.getElem?_cons_zero]; rfl) (by kernel_rfl) (by kernel_rfl) (by kernel_rfl) (by exact fun _ _ _ h => h) (Or.inl ⟨by rfl, ?_⟩) (by assumption) ?_
      rotate_left 1
      · (intro w hSw; (try dsimp only at hSw); go_simp; try with_reducible rfl)
      try simp only [Act.put, List.setIfInBounds_toArray, List.set_cons_zero, List.set_cons_succ]
      refine wpAnyH_ready (rs := [6]) (by kernel_rfl) (by simp) ?_
      refine AllReadyH.cons (by simp only [List.getElem?_toArray, List.getElem?_cons_succ, List.getElem?_cons_zero]; rfl) (fun K hK => ?_) AllReadyH.nil
      go_simp
      (refine (wxUint (P := (fun k => (P k ∨ k = w.heap.size) ∨ k = wr.heap.size)) (wb := wb) 1 x (HW0.out.idle (Only.refl (fun _ => False) _).drew) (fun k hk => HPW.out k hk)).mono ?_; rintro e w2 ⟨⟨z, rfl⟩, hx, ho⟩; have HX2 := Lib.hid hx; have HON2 := Lib.hid ho; have HQ := Lib.hid (show (fun wc => wc.cell? ⟨w.heap.size, 0, none⟩ = some (.pointer (some ⟨wb, 0, none⟩)) ∧ wc.cell? ⟨wr.heap.size, 0, none⟩ = some (.int .i64 (kn : Int)) ∧ wc.cell? ⟨0, kn, none⟩ = some (.int .u64 x)) w2 from ⟨ho.cell hHeld.1 (fun h => h (.inl (.inr rfl))), ho.cell hHeld.2.1 (fun h => h (.inr rfl)), ho.cell hHeld.2.2 (fun h => h (.inl (.inl HGP.out)))⟩); clear hx ho)
      go_wp2_with fail
      refine hK.out _ _ ?_ (fun hHeld2 => ?_)
      · exact HQ.out
      clear hK K
      try simp only [Act.put, List.setIfInBounds_toArray, List.set_cons_zero, List.set_cons_succ]
      clear hHeld
      have hHeld := hHeld2
      clear hHeld2
      refine wpAnyH_done (by kernel_rfl) ?_ _
      have hb2 := HON2.out.heap (show ((wr.alloc (.cells #[.int .i64 (kn : Int), .string t.name, .int .i64 t.dims, .int .i64 t.elem, .int .i64 t.at_] 39)).drew).heap[wr.heap.size]? = _ from HBT.out) (fun h => h (.inr rfl))
      have hw2 := HON2.out.heap (show ((wr.alloc (.cells #[.int .i64 (kn : Int), .string t.name, .int .i64 t.dims, .int .i64 t.elem, .int .i64 t.at_] 39)).drew).heap[w.heap.size]? = _ from HBW.out) (fun h => h (.inl (.inr rfl)))
      obtain ⟨d0, d1, d2, d3, d4⟩ := cells5T hb2
      have e0 : w2.cell? ⟨w.heap.size, 0, none⟩ = some (.pointer (some ⟨wb, 0, none⟩)) := cell_blk hw2 0
      have e1 : w2.cell? ⟨w.heap.size, 1, none⟩ = some (.map (some mb)) := cell_blk hw2 1
      have HO2 := Lib.hid (((Only.refl (fun _ => False) (wr.alloc (.cells #[.int .i64 (kn : Int), .string t.name, .int .i64 t.dims, .int .i64 t.elem, .int .i64 t.at_] 39))).drew.mono (T := fun k => ¬ ((P k ∨ k = w.heap.size) ∨ k = wr.heap.size)) (fun _ h _ => h.elim)).trans HON2.out (fun _ h _ => h))
      have HPL2 := Lib.hid (HPLR.out.only HO2.out (fun h => h (.inl (.inl HMB.out))))
      clear hb2 hw2 HON2 HQ HS0 HW0 HBW HBT HALO HPLR
      by_cases h4 : kn = 4
      · have b4 : ((kn : Int) == 4) = true := by rw [h4]; rfl
        obtain ⟨n, D, hn9, hown, hD9, hall⟩ := HPL2.out
        have HOWN := Lib.hid hown
        have HKEY := Lib.hid (show keyOf Tryd.prog 39 (.agg #[.int .i64 4, .string t.name, .int .i64 t.dims, .int .i64 t.elem, .int .i64 t.at_]) = some (keyT t) by have := key_type HOKT.out.2; unfold valT at this; rw [hk, h4] at this; exact this)
        have HW3 := HX2
        have HPW3 := Lib.hid (show ∀ k, ((P k ∨ k = w.heap.size) ∨ k = wr.heap.size) → k < w2.heap.size from fun k hk => Nat.lt_of_lt_of_le (HPW.out k hk) HO2.out.size)
        have HS2 := Lib.hid (show (fun wc => wc.cell? ⟨w.heap.size, 0, none⟩ = some (.pointer (some ⟨wb, 0, none⟩)) ∧ wc.cell? ⟨w.heap.size, 1, none⟩ = some (.map (some mb)) ∧ (wc.cell? ⟨wr.heap.size, 0, none⟩ = some (.int .i64 (kn : Int)) ∧ wc.cell? ⟨wr.heap.size, 1, none⟩ = some (.string t.name) ∧ wc.cell? ⟨wr.heap.size, 2, none⟩ = some (.int .i64 t.dims) ∧ wc.cell? ⟨wr.heap.size, 3, none⟩ = some (.int .i64 t.elem) ∧ wc.cell? ⟨wr.heap.size, 4, none⟩ = some (.int .i64 t.at_))) (w2.drewN 1) from by
          have hd := (Only.refl (fun _ => False) w2).drewN 1
          exact ⟨hd.cell e0 (fun h => h), hd.cell e1 (fun h => h), hd.cell d0 (fun h => h), hd.cell d1 (fun h => h), hd.cell d2 (fun h => h), hd.cell d3 (fun h => h), hd.cell d4 (fun h => h)⟩)
        clear hown hD9 hall HX2 HPL2
        go_wp2_with (fail)
        refine wp_region_held_drew (S := fun wc => wc.cell? ⟨w.heap.size, 0, none⟩ = some (.pointer (some ⟨wb, 0, none⟩)) ∧ wc.cell? ⟨w.heap.size, 1, none⟩ = some (.map (some mb)) ∧ (wc.cell? ⟨wr.heap.size, 0, none⟩ = some (.int .i64 (kn : Int)) ∧ wc.cell? ⟨wr.heap.size, 1, none⟩ = some (.string t.name) ∧ wc.cell? ⟨wr.heap.size, 2, none⟩ = some (.int .i64 t.dims) ∧ wc.cell? ⟨wr.heap.size, 3, none⟩ = some (.int .i64 t.elem) ∧ wc.cell? ⟨wr.heap.size, 4, none⟩ = some (.int .i64 t.at_))) (by kernel_rfl) HS2.out (fun hHeld => ?_)
        refine wpAnyH_take (i := 0) (v := ?_) (by simp only [List.getElem?_toArray, List.getElem?_cons_succ, List.getElem?_cons_zero]; rfl) (by kernel_rfl) (by kernel_rfl) (by kernel_rfl) (by exact fun _ _ _ h => h) (Or.inl ⟨by rfl, ?_⟩) (by assumption) ?_
        rotate_left 1
        · (intro w hSw; (try dsimp only at hSw); go_simp; try with_reducible rfl)
        try simp only [Act.put, List.setIfInBounds_toArray, List.set_cons_zero, List.set_cons_succ]
        refine wpAnyH_take (i := 1) (v := ?_) (by simp only [List.getElem?_toArray, List.getElem?_cons_succ, List.getElem?_cons_zero]; rfl) (by kernel_rfl) (by kernel_rfl) (by kernel_rfl) (by exact fun _ _ _ h => h) (Or.inl ⟨by rfl, ?_⟩) (by assumption) ?_
        rotate_left 1
        · (intro w hSw; (try dsimp only at hSw); go_simp; try with_reducible rfl)
        try simp only [Act.put, List.setIfInBounds_toArray, List.set_cons_zero, List.set_cons_succ]
        refine wpAnyH_take (i := 2) (v := ?_) (by simp only [List.getElem?_toArray, List.getElem?_cons_succ, List.getElem?_cons_zero]; rfl) (by kernel_rfl) (by kernel_rfl) (by kernel_rfl) (by exact fun _ _ _ h => h) (Or.inl ⟨by rfl, ?_⟩) (by assumption) ?_
        rotate_left 1
        · (intro w hSw; (try dsimp only at hSw); go_simp; try with_reducible rfl)
        try simp only [Act.put, List.setIfInBounds_toArray, List.set_cons_zero, List.set_cons_succ]
        refine wpAnyH_take (i := 3) (v := ?_) (by simp only [List.getElem?_toArray, List.getElem?_cons_succ, List.getElem?_cons_zero]; rfl) (by kernel_rfl) (by kernel_rfl) (by kernel_rfl) (by exact fun _ _ _ h => h) (Or.inl ⟨by rfl, ?_⟩) (by assumption) ?_
        rotate_left 1
        · (intro w hSw; (try dsimp only at hSw); go_simp; try with_reducible rfl)
        try simp only [Act.put, List.setIfInBounds_toArray, List.set_cons_zero, List.set_cons_succ]
        refine wpAnyH_ready (rs := [4]) (by kernel_rfl) (by simp) ?_
        refine AllReadyH.cons (by simp only [List.getElem?_toArray, List.getElem?_cons_succ, List.getElem?_cons_zero]; rfl) (fun K hK => ?_) AllReadyH.nil
        (refine step_lookN rfl (.tmp 30) (.tmp 31) 65 rfl 39 3 .i64 law_type under_places Tryd.underlying3 (zero_intK _) mb n D rfl (by exact HOWN.out) _ (keyT t) rfl (by exact HKEY.out) ?_; intro c)
        refine hK.out _ _ ?_ (fun hHeld2 => ?_)
        · exact hHeld
        clear hK K
        try simp only [Act.put, List.setIfInBounds_toArray, List.set_cons_zero, List.set_cons_succ]
        clear hHeld
        have hHeld := hHeld2
        clear hHeld2
        refine wpAnyH_ready (rs := [5]) (by kernel_rfl) (by simp) ?_
        refine AllReadyH.cons (by simp only [List.getElem?_toArray, List.getElem?_cons_succ, List.getElem?_cons_zero]; rfl) (fun K hK => ?_) AllReadyH.nil
        go_simp
        (refine (mWShort (fun k => (P k ∨ k = w.heap.size) ∨ k = wr.heap.size) wb mb c _ (HW3.out.idle (Only.refl (fun _ => False) _).drew) (fun k hk => HPW3.out k hk)).mono ?_; rintro e w4 ⟨rfl, hx, ho⟩; have HX4 := Lib.hid hx; have HON4 := Lib.hid ho; have HQ4 := Lib.hid (show (fun wc => wc.cell? ⟨w.heap.size, 0, none⟩ = some (.pointer (some ⟨wb, 0, none⟩)) ∧ wc.cell? ⟨w.heap.size, 1, none⟩ = some (.map (some mb)) ∧ (wc.cell? ⟨wr.heap.size, 0, none⟩ = some (.int .i64 (kn : Int)) ∧ wc.cell? ⟨wr.heap.size, 1, none⟩ = some (.string t.name) ∧ wc.cell? ⟨wr.heap.size, 2, none⟩ = some (.int .i64 t.dims) ∧ wc.cell? ⟨wr.heap.size, 3, none⟩ = some (.int .i64 t.elem) ∧ wc.cell? ⟨wr.heap.size, 4, none⟩ = some (.int .i64 t.at_))) w4 from ⟨ho.cell hHeld.1 (fun h => h (.inl (.inr rfl))), ho.cell hHeld.2.1 (fun h => h (.inl (.inr rfl))), ho.cell hHeld.2.2.1 (fun h => h (.inr rfl)), ho.cell hHeld.2.2.2.1 (fun h => h (.inr rfl)), ho.cell hHeld.2.2.2.2.1 (fun h => h (.inr rfl)), ho.cell hHeld.2.2.2.2.2.1 (fun h => h (.inr rfl)), ho.cell hHeld.2.2.2.2.2.2 (fun h => h (.inr rfl))⟩); clear hx ho)
        go_wp2_with fail
        refine hK.out _ _ ?_ (fun hHeld2 => ?_)
        · exact HQ4.out
        clear hK K
        try simp only [Act.put, List.setIfInBounds_toArray, List.set_cons_zero, List.set_cons_succ]
        clear hHeld
        have hHeld := hHeld2
        clear hHeld2
        refine wpAnyH_done (by kernel_rfl) ?_ _
        have HO4 := Lib.hid (HO2.out.trans (((Only.refl (fun _ => False) w2).drew.mono (T := fun k => ¬ ((P k ∨ k = w.heap.size) ∨ k = wr.heap.size)) (fun _ h _ => h.elim)).trans HON4.out (fun _ h _ => h)) (fun _ h _ => h))
        clear HQ4 HS2 HON4
        have HN := Lib.hid (HX4.out.weak (fun k hk => .inl hk))
        have HF := Lib.hid (HSX.out _ (HO4.out))
        clear HSX
        go_wp2
        go_roundw
        case rel => exact ⟨j + 1, by go_num, by omega, HN.out, HF.out⟩
        case measure => simp [intOf]; omega
      by_cases h5 : kn = 5
      · have b4 : ((kn : Int) == 4) = false := by rw [h5]; rfl
        have b5 : ((kn : Int) == 5) = true := by rw [h5]; rfl
        obtain ⟨n, D, hn9, hown, hD9, hall⟩ := HPL2.out
        have HOWN := Lib.hid hown
        have HKEY := Lib.hid (show keyOf Tryd.prog 39 (.agg #[.int .i64 5, .string t.name, .int .i64 t.dims, .int .i64 t.elem, .int .i64 t.at_]) = some (keyT t) by have := key_type HOKT.out.2; unfold valT at this; rw [hk, h5] at this; exact this)
        have HW3 := HX2
        have HPW3 := Lib.hid (show ∀ k, ((P k ∨ k = w.heap.size) ∨ k = wr.heap.size) → k < w2.heap.size from fun k hk => Nat.lt_of_lt_of_le (HPW.out k hk) HO2.out.size)
        have HS2 := Lib.hid (show (fun wc => wc.cell? ⟨w.heap.size, 0, none⟩ = some (.pointer (some ⟨wb, 0, none⟩)) ∧ wc.cell? ⟨w.heap.size, 1, none⟩ = some (.map (some mb)) ∧ (wc.cell? ⟨wr.heap.size, 0, none⟩ = some (.int .i64 (kn : Int)) ∧ wc.cell? ⟨wr.heap.size, 1, none⟩ = some (.string t.name) ∧ wc.cell? ⟨wr.heap.size, 2, none⟩ = some (.int .i64 t.dims) ∧ wc.cell? ⟨wr.heap.size, 3, none⟩ = some (.int .i64 t.elem) ∧ wc.cell? ⟨wr.heap.size, 4, none⟩ = some (.int .i64 t.at_))) (w2.drewN 1) from by
          have hd := (Only.refl (fun _ => False) w2).drewN 1
          exact ⟨hd.cell e0 (fun h => h), hd.cell e1 (fun h => h), hd.cell d0 (fun h => h), hd.cell d1 (fun h => h), hd.cell d2 (fun h => h), hd.cell d3 (fun h => h), hd.cell d4 (fun h => h)⟩)
        clear hown hD9 hall HX2 HPL2
        go_wp2_with (fail)
        refine wp_region_held_drew (S := fun wc => wc.cell? ⟨w.heap.size, 0, none⟩ = some (.pointer (some ⟨wb, 0, none⟩)) ∧ wc.cell? ⟨w.heap.size, 1, none⟩ = some (.map (some mb)) ∧ (wc.cell? ⟨wr.heap.size, 0, none⟩ = some (.int .i64 (kn : Int)) ∧ wc.cell? ⟨wr.heap.size, 1, none⟩ = some (.string t.name) ∧ wc.cell? ⟨wr.heap.size, 2, none⟩ = some (.int .i64 t.dims) ∧ wc.cell? ⟨wr.heap.size, 3, none⟩ = some (.int .i64 t.elem) ∧ wc.cell? ⟨wr.heap.size, 4, none⟩ = some (.int .i64 t.at_))) (by kernel_rfl) HS2.out (fun hHeld => ?_)
        refine wpAnyH_take (i := 0) (v := ?_) (by simp only [List.getElem?_toArray, List.getElem?_cons_succ, List.getElem?_cons_zero]; rfl) (by kernel_rfl) (by kernel_rfl) (by kernel_rfl) (by exact fun _ _ _ h => h) (Or.inl ⟨by rfl, ?_⟩) (by assumption) ?_
        rotate_left 1
        · (intro w hSw; (try dsimp only at hSw); go_simp; try with_reducible rfl)
        try simp only [Act.put, List.setIfInBounds_toArray, List.set_cons_zero, List.set_cons_succ]
        refine wpAnyH_take (i := 1) (v := ?_) (by simp only [List.getElem?_toArray, List.getElem?_cons_succ, List.getElem?_cons_zero]; rfl) (by kernel_rfl) (by kernel_rfl) (by kernel_rfl) (by exact fun _ _ _ h => h) (Or.inl ⟨by rfl, ?_⟩) (by assumption) ?_
        rotate_left 1
        · (intro w hSw; (try dsimp only at hSw); go_simp; try with_reducible rfl)
        try simp only [Act.put, List.setIfInBounds_toArray, List.set_cons_zero, List.set_cons_succ]
        refine wpAnyH_take (i := 2) (v := ?_) (by simp only [List.getElem?_toArray, List.getElem?_cons_succ, List.getElem?_cons_zero]; rfl) (by kernel_rfl) (by kernel_rfl) (by kernel_rfl) (by exact fun _ _ _ h => h) (Or.inl ⟨by rfl, ?_⟩) (by assumption) ?_
        rotate_left 1
        · (intro w hSw; (try dsimp only at hSw); go_simp; try with_reducible rfl)
        try simp only [Act.put, List.setIfInBounds_toArray, List.set_cons_zero, List.set_cons_succ]
        refine wpAnyH_take (i := 3) (v := ?_) (by simp only [List.getElem?_toArray, List.getElem?_cons_succ, List.getElem?_cons_zero]; rfl) (by kernel_rfl) (by kernel_rfl) (by kernel_rfl) (by exact fun _ _ _ h => h) (Or.inl ⟨by rfl, ?_⟩) (by assumption) ?_
        rotate_left 1
        · (intro w hSw; (try dsimp only at hSw); go_simp; try with_reducible rfl)
        try simp only [Act.put, List.setIfInBounds_toArray, List.set_cons_zero, List.set_cons_succ]
        refine wpAnyH_ready (rs := [4]) (by kernel_rfl) (by simp) ?_
        refine AllReadyH.cons (by simp only [List.getElem?_toArray, List.getElem?_cons_succ, List.getElem?_cons_zero]; rfl) (fun K hK => ?_) AllReadyH.nil
        (refine step_lookN rfl (.tmp 30) (.tmp 31) 65 rfl 39 3 .i64 law_type under_places Tryd.underlying3 (zero_intK _) mb n D rfl (by exact HOWN.out) _ (keyT t) rfl (by exact HKEY.out) ?_; intro c)
        refine hK.out _ _ ?_ (fun hHeld2 => ?_)
        · exact hHeld
        clear hK K
        try simp only [Act.put, List.setIfInBounds_toArray, List.set_cons_zero, List.set_cons_succ]
        clear hHeld
        have hHeld := hHeld2
        clear hHeld2
        refine wpAnyH_ready (rs := [5]) (by kernel_rfl) (by simp) ?_
        refine AllReadyH.cons (by simp only [List.getElem?_toArray, List.getElem?_cons_succ, List.getElem?_cons_zero]; rfl) (fun K hK => ?_) AllReadyH.nil
        go_simp
        (refine (mWShort (fun k => (P k ∨ k = w.heap.size) ∨ k = wr.heap.size) wb mb c _ (HW3.out.idle (Only.refl (fun _ => False) _).drew) (fun k hk => HPW3.out k hk)).mono ?_; rintro e w4 ⟨rfl, hx, ho⟩; have HX4 := Lib.hid hx; have HON4 := Lib.hid ho; have HQ4 := Lib.hid (show (fun wc => wc.cell? ⟨w.heap.size, 0, none⟩ = some (.pointer (some ⟨wb, 0, none⟩)) ∧ wc.cell? ⟨w.heap.size, 1, none⟩ = some (.map (some mb)) ∧ (wc.cell? ⟨wr.heap.size, 0, none⟩ = some (.int .i64 (kn : Int)) ∧ wc.cell? ⟨wr.heap.size, 1, none⟩ = some (.string t.name) ∧ wc.cell? ⟨wr.heap.size, 2, none⟩ = some (.int .i64 t.dims) ∧ wc.cell? ⟨wr.heap.size, 3, none⟩ = some (.int .i64 t.elem) ∧ wc.cell? ⟨wr.heap.size, 4, none⟩ = some (.int .i64 t.at_))) w4 from ⟨ho.cell hHeld.1 (fun h => h (.inl (.inr rfl))), ho.cell hHeld.2.1 (fun h => h (.inl (.inr rfl))), ho.cell hHeld.2.2.1 (fun h => h (.inr rfl)), ho.cell hHeld.2.2.2.1 (fun h => h (.inr rfl)), ho.cell hHeld.2.2.2.2.1 (fun h => h (.inr rfl)), ho.cell hHeld.2.2.2.2.2.1 (fun h => h (.inr rfl)), ho.cell hHeld.2.2.2.2.2.2 (fun h => h (.inr rfl))⟩); clear hx ho)
        go_wp2_with fail
        refine hK.out _ _ ?_ (fun hHeld2 => ?_)
        · exact HQ4.out
        clear hK K
        try simp only [Act.put, List.setIfInBounds_toArray, List.set_cons_zero, List.set_cons_succ]
        clear hHeld
        have hHeld := hHeld2
        clear hHeld2
        refine wpAnyH_done (by kernel_rfl) ?_ _
        have HO4 := Lib.hid (HO2.out.trans (((Only.refl (fun _ => False) w2).drew.mono (T := fun k => ¬ ((P k ∨ k = w.heap.size) ∨ k = wr.heap.size)) (fun _ h _ => h.elim)).trans HON4.out (fun _ h _ => h)) (fun _ h _ => h))
        clear HQ4 HS2 HON4
        have HN := Lib.hid (HX4.out.weak (fun k hk => .inl hk))
        have HF := Lib.hid (HSX.out _ (HO4.out))
        clear HSX
        go_wp2
        go_roundw
        case rel => exact ⟨j + 1, by go_num, by omega, HN.out, HF.out⟩
        case measure => simp [intOf]; omega
      have b4 : ((kn : Int) == 4) = false := by rw [beq_eq_false_iff_ne]; omega
      have b5 : ((kn : Int) == 5) = false := by rw [beq_eq_false_iff_ne]; omega
      by_cases h6 : kn = 6
      · have b6 : ((kn : Int) == 6) = true := by rw [h6]; rfl
        have cS := mWShort (fun k => (P k ∨ k = w.heap.size) ∨ k = wr.heap.size) wb mb t.at_ w2 HX2.out (fun k hk => Nat.lt_of_lt_of_le (HPW.out k hk) HO2.out.size)
        unfold wrV at cS
        have CS := Lib.hid cS
        clear cS h4 h5 h6
        go_wp2_with (fail)
        refine CS.out.mono ?_
        rintro e w4 ⟨rfl, hx4, ho4⟩
        have HX4 := Lib.hid hx4
        have HO4 := Lib.hid (HO2.out.trans ho4 (fun _ h _ => h))
        clear hx4 ho4 CS HX2 HPL2
        have HN := Lib.hid (HX4.out.weak (fun k hk => .inl hk))
        have HF := Lib.hid (HSX.out _ (HO4.out))
        clear HSX
        go_wp2
        go_roundw
        case rel => exact ⟨j + 1, by go_num, by omega, HN.out, HF.out⟩
        case measure => simp [intOf]; omega
      · have b6 : ((kn : Int) == 6) = false := by rw [beq_eq_false_iff_ne]; omega
        clear h4 h5 h6
        have HN := Lib.hid (HX2.out.weak (fun k hk => .inl hk))
        have HF := Lib.hid (HSX.out _ (HO2.out))
        clear HSX
        go_wp2
        go_roundw
        case rel => exact ⟨j + 1, by go_num, by omega, HN.out, HF.out⟩
        case measure => simp [intOf]; omega
    · obtain rfl : j = l.length := by omega
      have HF := Lib.hid (show Only (fun k => ¬ P k) w wr from (HO0.out.mono (fun _ h _ => h.elim)).trans hon (fun i hi hl => fun h => hi (.inl h)))
      have HXF := Lib.hid (hx.weak (P := P) (fun k hk => .inl hk))
      clear hlt hj hon hx
      go_wp2
      go_end0
      exact ⟨rfl, HXF.out, HF.out⟩
theorem Types.onlyP {P : Nat → Prop} {w w' : World} {v : Value} {l : List TypeV} (h : Types w v l) (hb : ∀ j, v.ownBlock = some j → l ≠ [] → P j) (ho : Only (fun k => ¬ P k) w w') : Types w' v l :=
  Sl.imp h (fun b o i hbb hi hc => hc.only ho (fun hn => hn (hb b hbb (List.ne_nil_of_length_pos (by omega)))))
set_option maxHeartbeats 4000000 in
set_option maxRecDepth 100000 in
theorem mWFrame (P : Nat → Prop) (wb mb : Nat) (cs : List ConstV) (m : MapV) (v1 v2 : Value) (f : Int) (w : World) (h : WrX P w wb) (hP : ∀ k, P k → k < w.heap.size) (hT : Tags w) (hg : P 0) (hpl : PlM w mb cs (min cs.length 65536)) (hmb : P mb)
    (h1 : Types w v1 m.locals) (h2 : Types w v2 m.stack) (b1 : ∀ j, v1.ownBlock = some j → m.locals ≠ [] → P j) (b2 : ∀ j, v2.ownBlock = some j → m.stack ≠ [] → P j) (hr : RightM cs m) (hok : (∀ t ∈ m.locals, OkT cs t ∧ SmT t) ∧ ∀ t ∈ m.stack, OkT cs t ∧ SmT t) :
    Calls Tryd.prog 27 #[wrV wb mb, valMp m v1 v2, .int .i64 f] w (WxTo P wb w) := by
  obtain ⟨a1, n1, c1, rfl⟩ : ∃ a n c, v1 = .slice a n c := by obtain ⟨x, c, e, -⟩ := h1.slice; exact ⟨_, _, _, e⟩
  obtain ⟨a2, n2, c2, rfl⟩ : ∃ a n c, v2 = .slice a n c := by obtain ⟨x, c, e, -⟩ := h2.slice; exact ⟨_, _, _, e⟩
  have hoa := (Only.refl (fun _ => False) w).alloc (.cells #[.pointer (some ⟨wb, 0, none⟩), .map (some mb)] 70)
  have ho0 := hoa.alloc (.cells #[.int .i64 m.at_, .slice a1 n1 c1, .slice a2 n2 c2, .bool m.fresh] 37)
  have hs1 : (w.alloc (.cells #[.pointer (some ⟨wb, 0, none⟩), .map (some mb)] 70)).heap.size = w.heap.size + 1 := by simp
  have hbw := ((Only.refl (fun _ => False) (w.alloc (.cells #[.pointer (some ⟨wb, 0, none⟩), .map (some mb)] 70))).alloc (.cells #[.int .i64 m.at_, .slice a1 n1 c1, .slice a2 n2 c2, .bool m.fresh] 37)).heap (heap_alloc_new w (.cells #[.pointer (some ⟨wb, 0, none⟩), .map (some mb)] 70)) (fun h => h)
  have hbm := heap_alloc_new (w.alloc (.cells #[.pointer (some ⟨wb, 0, none⟩), .map (some mb)] 70)) (.cells #[.int .i64 m.at_, .slice a1 n1 c1, .slice a2 n2 c2, .bool m.fresh] 37)
  rw [hs1] at hbm
  have hX := (h.more hoa w.heap.size (Nat.le_refl _)).more ((Only.refl (fun _ => False) (w.alloc (.cells #[.pointer (some ⟨wb, 0, none⟩), .map (some mb)] 70))).alloc (.cells #[.int .i64 m.at_, .slice a1 n1 c1, .slice a2 n2 c2, .bool m.fresh] 37)) (w.heap.size + 1) (by rw [hs1]; exact Nat.le_refl _)
  have hPW : ∀ k, ((P k ∨ k = w.heap.size) ∨ k = w.heap.size + 1) → k < ((w.alloc (.cells #[.pointer (some ⟨wb, 0, none⟩), .map (some mb)] 70)).alloc (.cells #[.int .i64 m.at_, .slice a1 n1 c1, .slice a2 n2 c2, .bool m.fresh] 37)).heap.size := fun k hk => by
    have := heap_lt hbm
    rcases hk with (hk | rfl) | rfl
    · have := hP k hk; omega
    · omega
    · exact this
  have cU := fun x => wxUint 1 x hX hPW
  have q0 : _ = some (Value.pointer (some ⟨wb, 0, none⟩)) := cell_blk hbw 0
  have CU := Lib.hid cU
  have HO0 := Lib.hid ho0
  have HBW := Lib.hid hbw
  have HBM := Lib.hid hbm
  have HPW := Lib.hid hPW
  have HT := Lib.hid (hT.only ho0 (fun h => h))
  have HG := Lib.hid hg
  have HPL := Lib.hid (hpl.only ho0 (fun h => h))
  have HMB := Lib.hid hmb
  have H1 := Lib.hid (h1.only ho0)
  have H2 := Lib.hid (h2.only ho0)
  have HB1 := Lib.hid (show ∀ j, (Value.slice a1 n1 c1).ownBlock = some j → m.locals ≠ [] → ((P j ∨ j = w.heap.size) ∨ j = w.heap.size + 1) from fun j hj hl => .inl (.inl (b1 j hj hl)))
  have HB2 := Lib.hid (show ∀ j, (Value.slice a2 n2 c2).ownBlock = some j → m.stack ≠ [] → ((P j ∨ j = w.heap.size) ∨ j = w.heap.size + 1) from fun j hj hl => .inl (.inl (b2 j hj hl)))
  have HR := Lib.hid hr
  have HOK := Lib.hid hok
  clear h hP hT hg hpl hmb h1 h2 b1 b2 hr hok hoa ho0 hs1 hbw hbm hX hPW cU
  unfold wrV valMp
  go_enter Tryd.func27, Tryd.ntmps27
  go_wp2_with (fail)
  refine (CU.out _).mono ?_
  rintro e wa ⟨⟨z, rfl⟩, hxa, hoa⟩
  have HXa := Lib.hid hxa
  have HOa := Lib.hid hoa
  have ewa := hoa.heap HBW.out (fun h => h (.inl (.inr rfl)))
  have ema := hoa.heap HBM.out (fun h => h (.inr rfl))
  have p0 : wa.cell? ⟨w.heap.size, 0, none⟩ = some (.pointer (some ⟨wb, 0, none⟩)) := cell_blk ewa 0
  have p1 : wa.cell? ⟨w.heap.size, 1, none⟩ = some (.map (some mb)) := cell_blk ewa 1
  have m0 : wa.cell? ⟨w.heap.size + 1, 0, none⟩ = some (.int .i64 m.at_) := cell_blk ema 0
  have HEW := Lib.hid ewa
  have HEM := Lib.hid ema
  have cS := fun n => mWShort (fun k => (P k ∨ k = w.heap.size) ∨ k = w.heap.size + 1) wb mb n wa hxa (fun k hk => Nat.lt_of_lt_of_le (HPW.out k hk) hoa.size)
  unfold wrV at cS
  have CS := Lib.hid cS
  clear hxa hoa ewa ema CU cS q0
  go_wp2_with (fail)
  refine (CS.out _).mono ?_
  rintro e wc ⟨rfl, hxc, hoc⟩
  have HOc := Lib.hid (HOa.out.trans hoc (fun _ h _ => h))
  have ewc := hoc.heap HEW.out (fun h => h (.inl (.inr rfl)))
  have emc := hoc.heap HEM.out (fun h => h (.inr rfl))
  have p0 : wc.cell? ⟨w.heap.size, 0, none⟩ = some (.pointer (some ⟨wb, 0, none⟩)) := cell_blk ewc 0
  have p1 : wc.cell? ⟨w.heap.size, 1, none⟩ = some (.map (some mb)) := cell_blk ewc 1
  have m1 : wc.cell? ⟨w.heap.size + 1, 1, none⟩ = some (.slice a1 n1 c1) := cell_blk emc 1
  have HEWc := Lib.hid ewc
  have HEMc := Lib.hid emc
  have cT := mWTypes (fun k => (P k ∨ k = w.heap.size) ∨ k = w.heap.size + 1) wb mb cs _ m.locals wc hxc (fun k hk => Nat.lt_of_lt_of_le (HPW.out k hk) HOc.out.size) (HT.out.only HOc.out (fun h => h (.inl (.inl HG.out)))) (.inl (.inl HG.out)) (HPL.out.only HOc.out (fun h => h (.inl (.inl HMB.out)))) (.inl (.inl HMB.out)) (Types.onlyP H1.out HB1.out HOc.out) HB1.out HOK.out.1 HR.out.ll
  unfold wrV at cT
  have CT := Lib.hid cT
  clear hxc hoc ewc emc CS cT m0 HEW HEM HOa HXa
  go_wp2_with (fail)
  refine CT.out.mono ?_
  rintro e wd ⟨rfl, hxd, hod⟩
  have HOd := Lib.hid (HOc.out.trans hod (fun _ h _ => h))
  have ewd := hod.heap HEWc.out (fun h => h (.inl (.inr rfl)))
  have emd := hod.heap HEMc.out (fun h => h (.inr rfl))
  have p0 : wd.cell? ⟨w.heap.size, 0, none⟩ = some (.pointer (some ⟨wb, 0, none⟩)) := cell_blk ewd 0
  have p1 : wd.cell? ⟨w.heap.size, 1, none⟩ = some (.map (some mb)) := cell_blk ewd 1
  have m2 : wd.cell? ⟨w.heap.size + 1, 2, none⟩ = some (.slice a2 n2 c2) := cell_blk emd 2
  have cT := mWTypes (fun k => (P k ∨ k = w.heap.size) ∨ k = w.heap.size + 1) wb mb cs _ m.stack wd hxd (fun k hk => Nat.lt_of_lt_of_le (HPW.out k hk) HOd.out.size) (HT.out.only HOd.out (fun h => h (.inl (.inl HG.out)))) (.inl (.inl HG.out)) (HPL.out.only HOd.out (fun h => h (.inl (.inl HMB.out)))) (.inl (.inl HMB.out)) (Types.onlyP H2.out HB2.out HOd.out) HB2.out HOK.out.2 HR.out.sl
  unfold wrV at cT
  have CT2 := Lib.hid cT
  clear hxd hod ewd emd CT cT m1 HEWc HEMc HOc
  go_wp2_with (fail)
  refine CT2.out.mono ?_
  rintro e we ⟨rfl, hxe, hoe⟩
  have HXe := Lib.hid (hxe.weak (P := P) (fun k hk => .inl (.inl hk)))
  have HOe := Lib.hid (show Only (fun k => ¬ P k) w we from ((HO0.out.mono (fun _ h _ => h.elim)).trans (HOd.out.trans hoe (fun _ h _ => h)) (fun k hk hl => fun h => hk (.inl (.inl h)))))
  clear hxe hoe CT2 HOd
  go_wp2
  go_end0
  exact ⟨rfl, HXe.out, HOe.out⟩
end Go.Proofs.YtadgbkjjeigpjaaDoor
namespace Go.Proofs.YtadgbkjjeigpjaaDoor
open Go.RowKit Go.Maps
set_option linter.unusedVariables false
set_option linter.unusedSimpArgs false

theorem cells2W {w : World} {b : Nat} {c0 c1 : Value} {t : TypeId} {f : Nat × Nat} (h : w.heap[b]? = some (.cells #[c0, c1] t f)) : w.cell? ⟨b, 0, none⟩ = some c0 ∧ w.cell? ⟨b, 1, none⟩ = some c1 := ⟨cell_blk h 0, cell_blk h 1⟩
theorem store2W {w : World} {b : Nat} {T : TypeId} {f : Nat × Nat} {o0 o1 a0 a1 : Value} (h : w.heap[b]? = some (.cells #[o0, o1] T f)) : ((w.setCell ⟨b, 0, none⟩ a0).setCell ⟨b, 1, none⟩ a1).heap[b]? = some (.cells #[a0, a1] T f) := by
  have h0 := heap_setCell_at (i := 0) (u := a0) h
  simp only [List.setIfInBounds_toArray, List.set_cons_zero, List.set_cons_succ] at h0
  have h1 := heap_setCell_at (i := 1) (u := a1) h0
  simp only [List.setIfInBounds_toArray, List.set_cons_zero, List.set_cons_succ] at h1
  exact h1
set_option maxHeartbeats 8000000 in
set_option maxRecDepth 100000 in
theorem mEncode (vp v : Value) (cs : List ConstV) (xs : List MapX) (w : World) (hp : Pool w vp cs) (hx : MapsX w v xs) (hf : Fit10 cs (xs.map (·.1))) (hn : xs.length ≤ 65535) (hT : Tags w) (hbl : ∀ x ∈ xs, (∀ j, x.2.1.ownBlock = some j → x.1.locals ≠ [] → j < w.heap.size) ∧ ∀ j, x.2.2.ownBlock = some j → x.1.stack ≠ [] → j < w.heap.size) :
    Calls Tryd.prog 10 #[vp, v] w fun e w' => (∃ bv, e = .returned (.tuple #[bv, .int .i64 0])) ∧ Only (fun _ => False) w w' := by
  obtain ⟨i0, hi, hz0, hz1, hz2⟩ := info_parts info_u8
  obtain ⟨ap, cp, rfl, -⟩ := id hp
  obtain ⟨ao, cap, rfl, p1, p2, p3, -⟩ := id hx.1
  by_cases h0 : xs.length = 0
  · have h0b : ((((xs.length : Nat) : Int)) == 0) = true := by rw [h0]; rfl
    clear hx hf
    go_enter Tryd.func10, Tryd.ntmps10
    go_wp2
    go_ret2
    exact ⟨⟨_, rfl⟩, Only.refl _ _⟩
  have h0b : ((((xs.length : Nat) : Int)) == 0) = false := by rw [beq_eq_false_iff_ne]; omega
  have cP := mPlacesOf _ cs w hp
  have CP := Lib.hid cP
  have HX := Lib.hid hx
  have HF := Lib.hid hf
  have HT := Lib.hid hT
  have HBL := Lib.hid hbl
  clear hp hx hf hT cP p3 h0 hbl
  go_enter Tryd.func10, Tryd.ntmps10
  go_wp2_with (fail)
  refine CP.out.mono ?_
  rintro e w1 ⟨rfl, hpl, ho1⟩
  obtain ⟨mb, hmb⟩ : ∃ mb, w.heap.size = mb := ⟨_, rfl⟩
  have HMBS := Lib.hid (show mb < w1.heap.size ∧ w.heap.size ≤ mb from ⟨by rw [← hmb]; exact hpl.lt, by omega⟩)
  rw [hmb] at hpl ⊢
  have HPL := Lib.hid hpl
  have HO1 := Lib.hid ho1
  have cA := mAreMaps mb cs _ xs w1 hpl (HX.out.only ho1) HF.out hn
  have CA := Lib.hid cA
  clear hpl ho1 cA CP
  go_wp2_with (fail)
  refine CA.out.mono ?_
  rintro e w2 ⟨rfl, ho2⟩
  have HPL2 := Lib.hid (HPL.out.only ho2 (fun h => h))
  have HO2 := Lib.hid (HO1.out.trans ho2 (fun _ h _ => h))
  have HM2 := Lib.hid (show mb < w2.heap.size from by have := HMBS.out.1; have := ho2.size; omega)
  clear ho2 CA HPL HO1
  go_wp2_with (fail)
  refine (mNewWriter mb w2).mono ?_
  rintro e w3 ⟨wb, rfl, hx3, ho3⟩
  have hal := (Only.refl (fun _ => False) w3).alloc (.cells #[.pointer (some ⟨wb, 0, none⟩), .map (some mb)] 70)
  have hb := heap_alloc_new w3 (.cells #[.pointer (some ⟨wb, 0, none⟩), .map (some mb)] 70)
  have hxw := hx3.more hal w3.heap.size (Nat.le_refl _)
  have hsz3 := ho3.size
  have hpw : ∀ k, (k < w2.heap.size + 1 ∨ k = w3.heap.size) → k < (w3.alloc (.cells #[.pointer (some ⟨wb, 0, none⟩), .map (some mb)] 70)).heap.size := fun k hk => by
    have a := heap_lt hb
    obtain ⟨sv, bs, b1, _, _⟩ := hx3
    have b2 := b1.lt.1
    have : ¬ wb < w2.heap.size + 1 := by assumption
    rcases hk with hk | rfl
    · omega
    · exact a
  obtain ⟨q0, q1⟩ := cells2W hb
  have HXW := Lib.hid hxw
  have HPW := Lib.hid hpw
  have HB := Lib.hid hb
  have HO3 := Lib.hid ((HO2.out.trans ho3 (fun _ h _ => h)).trans hal (fun _ h _ => h))
  have HPL3 := Lib.hid ((HPL2.out.only ho3 (fun h => h)).only hal (fun h => h))
  have cS := fun n => mWShort (fun k => k < w2.heap.size + 1 ∨ k = w3.heap.size) wb mb n _ hxw hpw
  have HTB := Lib.hid (show w2.heap.size ≤ w3.heap.size from hsz3)
  unfold wrV at cS ⊢
  have CS := Lib.hid cS
  clear hx3 ho3 hal hb hxw hsz3 hpw cS HO2 HPL2
  go_wp2_with (fail)
  refine (CS.out _).mono ?_
  rintro e w4 ⟨rfl, hx4, ho4⟩
  obtain ⟨tb, htb⟩ : ∃ tb, w3.heap.size = tb := ⟨_, rfl⟩
  have hb4 := ho4.heap HB.out (fun h => h (.inr rfl))
  have HB4 := Lib.hid hb4
  obtain ⟨q0, q1⟩ := cells2W hb4
  have HPL4 := Lib.hid (HPL3.out.only ho4 (fun h => h (.inl (by have := HM2.out; omega))))
  have HO4 := Lib.hid (show Only (fun _ => False) w w4 from HO3.out.trans ho4 (fun i hi hl => hi (.inl (by have := HMBS.out.2; have := HM2.out; omega))))
  have HTB4 := Lib.hid (show tb < w4.heap.size ∧ mb < tb ∧ w.heap.size ≤ mb from ⟨by rw [← htb]; exact heap_lt hb4, by rw [← htb]; have := HM2.out; have := HTB.out; omega, HMBS.out.2⟩)
  have cO := wxOut hx4
  have CO := Lib.hid cO
  clear hx4 ho4 hb4 cO CS HXW HPW HB HO3 HPL3
  simp only [htb] at *
  go_wp2_with (fail)
  refine CO.out.mono ?_
  rintro e w5 ⟨bv, bs, rfl, hrow, hbyt, hbl, ho5⟩
  obtain ⟨ab, cb, rfl, _, _⟩ := slice_of_owns hrow
  have HROW5 := Lib.hid hrow
  have HBY5 := Lib.hid (And.intro hbyt hbl)
  have HB5 := Lib.hid (ho5.heap HB4.out (fun h => h))
  have HPL5 := Lib.hid (HPL4.out.only ho5 (fun h => h))
  have HO5 := Lib.hid (HO4.out.trans ho5 (fun _ h _ => h))
  have HSZ5 := Lib.hid ho5.size
  clear hrow hbyt hbl ho5 CO HB4 HPL4 HO4 q0 q1
  go_wp2
  go_loopw [32, 9, 8] (fun iv fv bv wr => ∃ (j : Nat) (f : Int) (bs : List Int) (wb' : Nat), iv = .int .i64 j ∧ fv = .int .i64 f ∧ j ≤ xs.length ∧ Row wr w4.heap.size bv bs ∧ Bytish bs ∧ bs.length ≤ (j + 1) * 1048576 ∧ wr.heap[tb]? = some (.cells #[.pointer (some ⟨wb', 0, none⟩), .map (some mb)] 70 (0, 0)) ∧ PlM wr mb cs (min cs.length 65536) ∧ Only (fun _ => False) w wr ∧ w4.heap.size ≤ wr.heap.size) (fun iv _ _ _ => xs.length - (intOf iv).toNat)
  case atStart => exact ⟨0, 0, bs, wb, rfl, rfl, Nat.zero_le _, HROW5.out, HBY5.out.1, by have := HBY5.out.2; omega, HB5.out, HPL5.out, HO5.out, HSZ5.out⟩
  case round =>
    obtain ⟨j, f, bs, wb', rfl, rfl, hj, hrow, hbyt, hbl, hblk, hpl, hon, hsz⟩ := hrel
    obtain ⟨ab, cb, rfl, _, _⟩ := slice_of_owns hrow
    have HROW := Lib.hid hrow
    have HBY := Lib.hid hbyt
    have HBLN := Lib.hid hbl
    have HBLK := Lib.hid hblk
    have HPL := Lib.hid hpl
    have HON := Lib.hid hon
    have HSZ := Lib.hid hsz
    clear HROW5 HBY5 HB5 HPL5 HO5 HSZ5
    by_cases hlt : j < xs.length
    · obtain ⟨b, o, rfl, c⟩ := Sl.at (HX.out.only hon).1 hlt
      have hjz : (j : Int) < (xs.length : Int) := by omega
      obtain ⟨t1, t2⟩ := (HX.out.only hon).2 _ (getD_mem hlt)
      have hmem : (xs.getD j default).1 ∈ xs.map (·.1) := List.mem_map.2 ⟨_, getD_mem hlt, rfl⟩
      have hri := (rise_mem HF.out.1 _ hmem).2
      have hok := HF.out.2 _ hmem
      have hbx := HBL.out _ (getD_mem hlt)
      obtain ⟨x0, x1, x2, x3⟩ := c
      obtain ⟨a1, n1, c1, e1⟩ : ∃ a n c, (xs.getD j default).2.1 = .slice a n c := by obtain ⟨x, c, e, -⟩ := t1.slice; exact ⟨_, _, _, e⟩
      obtain ⟨a2, n2, c2, e2⟩ : ∃ a n c, (xs.getD j default).2.2 = .slice a n c := by obtain ⟨x, c, e, -⟩ := t2.slice; exact ⟨_, _, _, e⟩
      rw [e1] at t1 x1 hbx
      rw [e2] at t2 x2 hbx
      generalize xs.getD j default = x at *
      have hal := (Only.refl (fun _ => False) wr).alloc (.cells #[.int .i64 x.1.at_, .slice a1 n1 c1, .slice a2 n2 c2, .bool x.1.fresh] 37)
      have hbm := heap_alloc_new wr (.cells #[.int .i64 x.1.at_, .slice a1 n1 c1, .slice a2 n2 c2, .bool x.1.fresh] 37)
      have cN := mNewWriter mb (wr.alloc (.cells #[.int .i64 x.1.at_, .slice a1 n1 c1, .slice a2 n2 c2, .bool x.1.fresh] 37))
      have HAL := Lib.hid hal
      have HBM := Lib.hid hbm
      have CN := Lib.hid cN
      have H1 := Lib.hid t1
      have H2 := Lib.hid t2
      have HRI := Lib.hid (And.intro hri hok)
      have HBX := Lib.hid hbx
      clear hrow hbyt hbl hblk hpl hon hsz t1 t2 hmem hri hok hbx e1 e2 hal hbm cN
      unfold wrV at CN
      go_wp2_with (fail)
      refine CN.out.mono ?_
      rintro e w6 ⟨wb2, rfl, hx6, ho6⟩
      have ho6a := HAL.out.trans ho6 (fun _ h _ => h)
      have hb6 := ho6a.heap HBLK.out (fun h => h)
      have hm6 := ho6.heap HBM.out (fun h => h)
      obtain ⟨f0, f1⟩ := (show w6.frozen? ⟨tb, 0, none⟩ = false ∧ w6.frozen? ⟨tb, 1, none⟩ = false from ⟨frozen_blk hb6 0, frozen_blk hb6 1⟩)
      obtain ⟨q0, q1⟩ := cells2W hb6
      obtain ⟨y0, y1, y2, y3⟩ := cells4P hm6
      have hset := ((Only.refl (fun j => j = tb) w6).setCell (p := ⟨tb, 0, none⟩) (fun _ => rfl) (.pointer (some ⟨wb2, 0, none⟩))).setCell (p := ⟨tb, 1, none⟩) (fun _ => rfl) (.map (some mb))
      have hs6 : (wr.alloc (.cells #[.int .i64 x.1.at_, .slice a1 n1 c1, .slice a2 n2 c2, .bool x.1.fresh] 37)).heap.size = wr.heap.size + 1 := by simp
      rw [hs6] at hx6
      have htbl : tb < wr.heap.size := by have := HTB4.out.1; have := HSZ.out; omega
      have hx7 := hx6.only hset (fun k hk => .inl (by omega))
      have hw6 : wr.heap.size + 1 < w6.heap.size := by
        obtain ⟨sv, bs, b1, _, b3⟩ := hx6
        have := b1.lt.1
        omega
      have HX7 := Lib.hid hx7
      have HSET := Lib.hid hset
      have HO7 := Lib.hid (show Only (fun j => j = tb) wr _ from (ho6a.mono (fun _ h _ => h.elim)).trans hset (fun _ h _ => h))
      have hb7 := store2W (a0 := .pointer (some ⟨wb2, 0, none⟩)) (a1 := .map (some mb)) hb6
      have hm7 := hset.heap hm6 (by omega)
      have HB7 := Lib.hid hb7
      have HM7 := Lib.hid hm7
      have HS7 := Lib.hid (show wr.heap.size + 1 + 1 ≤ ((w6.setCell ⟨tb, 0, none⟩ (.pointer (some ⟨wb2, 0, none⟩))).setCell ⟨tb, 1, none⟩ (.map (some mb))).heap.size from by simp; omega)
      have cF := mWFrame (fun k => k < wr.heap.size + 1 + 1) wb2 mb cs x.1 (.slice a1 n1 c1) (.slice a2 n2 c2) f _ hx7 (fun k hk => by have := HS7.out; omega) ((HT.out.only HON.out (fun h => h)).only HO7.out (by have := HT.out.lt; have := HTB4.out; omega)) (by have := HT.out.lt; have := HTB4.out; omega) (HPL.out.only HO7.out (by have := HTB4.out; omega)) (by have := HTB4.out; omega)
        (Types.onlyP (P := fun k => k ≠ tb) H1.out (fun j hj hl => by have := HBX.out.1 j hj hl; have := HTB4.out; omega) (HO7.out.mono (fun k hk _ => fun h => h hk))) (Types.onlyP (P := fun k => k ≠ tb) H2.out (fun j hj hl => by have := HBX.out.2 j hj hl; have := HTB4.out; omega) (HO7.out.mono (fun k hk _ => fun h => h hk)))
        (fun j hj hl => by have := HBX.out.1 j hj hl; have := HTB4.out; omega) (fun j hj hl => by have := HBX.out.2 j hj hl; have := HTB4.out; omega) HRI.out.1 HRI.out.2
      unfold wrV valMp at cF
      have CF := Lib.hid cF
      clear hx6 ho6 ho6a hb6 hm6 hset hx7 hb7 hm7 cF CN hs6
      go_wp2_with (fail)
      refine CF.out.mono ?_
      rintro e w8 ⟨rfl, hx8, ho8⟩
      have hb8 := ho8.heap HB7.out (fun h => h (by omega))
      have hm8 := ho8.heap HM7.out (fun h => h (by omega))
      have HO8 := Lib.hid (show Only (fun j => j = tb ∨ wr.heap.size + 1 + 1 ≤ j) wr w8 from (HO7.out.mono (fun _ h _ => .inl h)).trans ho8 (fun k hk _ => .inr (by omega)))
      have HS8 := Lib.hid (show wr.heap.size + 1 + 1 ≤ w8.heap.size from Nat.le_trans HS7.out ho8.size)
      have cO := wxOut hx8
      have HB8 := Lib.hid hb8
      have HM8 := Lib.hid hm8
      have CO := Lib.hid cO
      obtain ⟨q0, q1⟩ := cells2W hb8
      clear hx8 ho8 hb8 hm8 cO CF HB7 HM7 HO7 HX7 HSET HS7 f0 f1 y0 y1 y2 y3
      go_wp2_with (fail)
      refine CO.out.mono ?_
      rintro e w9 ⟨v9, bs9, rfl, hrow9, hby9, hbl9, ho9⟩
      obtain ⟨a9, c9, rfl, _, _⟩ := slice_of_owns hrow9
      have hrow := (HROW.out.only HO8.out (fun k hk hs => by have := (HROW.out.ge k hk); have := HTB4.out; omega)).only ho9 (fun _ _ h => h)
      have HROWb := Lib.hid hrow
      have HGE := Lib.hid hrow.ge
      have HSRC := Lib.hid (Src.of_bytes (hrow9.bytes hby9))
      have hm9 := ho9.heap HM8.out (fun h => h)
      have y0 : w9.cell? ⟨wr.heap.size, 0, none⟩ = some (.int .i64 x.1.at_) := cell_blk hm9 0
      have HM9 := Lib.hid hm9
      have HB9 := Lib.hid (ho9.heap HB8.out (fun h => h))
      have HPL9 := Lib.hid ((HPL.out.only HO8.out (by have := HTB4.out; have := HPL.out.lt; omega)).only ho9 (fun h => h))
      have HON9 := Lib.hid (show Only (fun _ => False) w w9 from (HON.out.trans HO8.out (fun k hk hl => by have := HTB4.out; have := HON.out.size; omega)).trans ho9 (fun _ h _ => h))
      have HS9 := Lib.hid (show w4.heap.size ≤ w9.heap.size from by have := HSZ.out; have := HS8.out; have := ho9.size; omega)
      have HBYB := Lib.hid (show Bytish (bs ++ bs9) from fun z hz => (List.mem_append.1 hz).elim (HBY.out z) (hby9 z))
      have HBLB := Lib.hid (show (bs ++ bs9).length ≤ (j + 1 + 1) * 1048576 from by have := HBLN.out; rw [List.length_append]; omega)
      have hbl1 := HBLN.out
      clear hrow9 hby9 ho9 hrow hm9 CO HM8 HB8 HO8 HS8 q0 q1
      obtain ⟨q0, q1⟩ := cells2W HB9.out
      go_wp2_with (at_builtin; go_loud (refine wpList_append_src rfl (.tmp 42) (.tmp 45) 23 rfl 5 i0 (.int .u8 0) 1 1 Tryd.underlying23 hi hz0 hz1 hz2 rfl (by decide) w4.heap.size (.slice ab bs.length cb) bs.length (bs.map (Value.int .u8)) rfl (by exact HROWb.out) (by exact HS9.out) (.slice a9 bs9.length c9) bs9.length (bs9.map (Value.int .u8)) rfl (by exact HSRC.out) (by unfold maxLen; omega) (by omega) ?_); intro v10 w10 hown hgrow hnew; obtain ⟨r1, r2, r3⟩ := RowTo.of (Only.refl (fun _ => False) w9) hown hgrow hnew; have HR10 := Lib.hid r1; have HB10 := Lib.hid (r2.heap HB9.out (fun h => by have := HGE.out _ h; have := HTB4.out; omega)); have HPL10 := Lib.hid (HPL9.out.only r2 (fun h => by have := HGE.out _ h; have := HTB4.out; omega)); have HON10 := Lib.hid (HON9.out.trans r2 (fun k hk hl => by have := HGE.out k hk; have := HTB4.out; omega)); have HS10 := Lib.hid (Nat.le_trans HS9.out r2.size); have hm10 := r2.heap HM9.out (fun h => by have a := HGE.out _ h; have b := hown.lt; have := HSZ.out; exact absurd HROW.out.ge (fun g => by have := g _ h; omega)); have y0 : w10.cell? ⟨wr.heap.size, 0, none⟩ = some (.int .i64 x.1.at_) := cell_blk hm10 0; clear r1 r2 r3 hown hgrow hnew hm10)
      go_roundw
      case rel => exact ⟨j + 1, _, bs ++ bs9, wb2, by go_num, rfl, by omega, HR10.out, HBYB.out, HBLB.out, HB10.out, HPL10.out, HON10.out, HS10.out⟩
      case measure => simp [intOf]; omega
    · obtain rfl : j = xs.length := by omega
      clear hlt hj hrow hbyt hbl hblk hpl hon hsz
      go_wp2
      go_ret2
      exact ⟨⟨_, rfl⟩, HON.out⟩
end Go.Proofs.YtadgbkjjeigpjaaDoor
