import Derived.Test.YtgdgffnaknkbcaaGreatDoorMiLpOTill
import Derived.Test.YtgdgffnaknkbcaaGreatDoorMiLnkJLnkN
namespace Go.Proofs.YtgdgffnaknkbcaaGreatDoor
open Go.RowKit Go.Maps
set_option linter.unusedVariables false
set_option linter.unusedSimpArgs false
def cellsTrap (t : TrapV) : List Value := [.int .i64 t.from_, .int .i64 t.to_, .int .i64 t.hand, .int .i64 t.type]
def cellsField (f : FieldV) : List Value := [.int .i64 f.flags, .int .i64 f.name, .int .i64 f.desc]
def cellsConst (c : ConstV) : List Value := [.int .i64 c.tag, .string c.text, .int .i64 c.n, .int .i64 c.a, .int .i64 c.b]
def cellsMeth (m : MethodV) (f : Value × Value × Value) : List Value := [.int .i64 m.flags, .int .i64 m.name, .int .i64 m.desc, .int .i64 m.stack, .int .i64 m.locals, f.1, f.2.1, f.2.2]
section
variable {w : World} {b o i : Nat} {f : Nat → List Value}
theorem TrapAt.cells {t : TrapV} (h : TrapAt w b o i t) (hf : f i = cellsTrap t) : CellsAt w 4 f b o i := fun d hd => by
 rw [hf]
 match d, hd with
 | 0, _ => exact h.c0
 | 1, _ => exact h.c1
 | 2, _ => exact h.c2
 | 3, _ => exact h.c3
theorem TrapAt.of {t : TrapV} (h : CellsAt w 4 f b o i) (hf : f i = cellsTrap t) : TrapAt w b o i t := by
 have k := fun d hd => (h d hd).trans (by rw [hf])
 exact ⟨k 0 (by decide), k 1 (by decide), k 2 (by decide), k 3 (by decide)⟩
theorem FieldAt.cells {t : FieldV} (h : FieldAt w b o i t) (hf : f i = cellsField t) : CellsAt w 3 f b o i := fun d hd => by
 rw [hf]
 match d, hd with
 | 0, _ => exact h.c0
 | 1, _ => exact h.c1
 | 2, _ => exact h.c2
theorem FieldAt.of {t : FieldV} (h : CellsAt w 3 f b o i) (hf : f i = cellsField t) : FieldAt w b o i t := by
 have k := fun d hd => (h d hd).trans (by rw [hf])
 exact ⟨k 0 (by decide), k 1 (by decide), k 2 (by decide)⟩
theorem ConstAt.cells {t : ConstV} (h : ConstAt w b o i t) (hf : f i = cellsConst t) : CellsAt w 5 f b o i := fun d hd => by
 rw [hf]
 match d, hd with
 | 0, _ => exact h.c0
 | 1, _ => exact h.c1
 | 2, _ => exact h.c2
 | 3, _ => exact h.c3
 | 4, _ => exact h.c4
theorem ConstAt.of {t : ConstV} (h : CellsAt w 5 f b o i) (hf : f i = cellsConst t) : ConstAt w b o i t := by
 have k := fun d hd => (h d hd).trans (by rw [hf])
 exact ⟨k 0 (by decide), k 1 (by decide), k 2 (by decide), k 3 (by decide), k 4 (by decide)⟩
theorem MethodAt.cells {t : MethodV} {x : Value × Value × Value} (h : MethodAt w b o i t x.1 x.2.1 x.2.2) (hf : f i = cellsMeth t x) : CellsAt w 8 f b o i := fun d hd => by
 rw [hf]
 match d, hd with
 | 0, _ => exact h.c0
 | 1, _ => exact h.c1
 | 2, _ => exact h.c2
 | 3, _ => exact h.c3
 | 4, _ => exact h.c4
 | 5, _ => exact h.c5
 | 6, _ => exact h.c6
 | 7, _ => exact h.c7
theorem MethodAt.of {t : MethodV} {x : Value × Value × Value} (h : CellsAt w 8 f b o i) (hf : f i = cellsMeth t x) : MethodAt w b o i t x.1 x.2.1 x.2.2 := by
 have k := fun d hd => (h d hd).trans (by rw [hf])
 exact ⟨k 0 (by decide), k 1 (by decide), k 2 (by decide), k 3 (by decide), k 4 (by decide), k 5 (by decide), k 6 (by decide), k 7 (by decide)⟩
end
theorem copyTraps (v : Value) (ts : List TrapV) (w : World) (h : Traps w v ts) (hl : ts.length ≤ 1048576) :
  Calls Tryz.prog 133 #[v] w fun e w' => ∃ v', e = .returned v' ∧ TrapsG (fun k => k < w.heap.size) w' v' ts ∧ Only (fun _ => False) w w' := by
 refine (copyCTrap v ts.length (fun i => cellsTrap (ts.getD i default)) w (h.1.imp (fun _ _ _ _ _ k => k.cells rfl)) (fun _ => rfl) (fun i u hu => ?_) hl).mono ?_
 ·simp only [cellsTrap, List.mem_cons, List.mem_nil_iff, or_false] at hu
  rcases hu with rfl | rfl | rfl | rfl <;> rfl
 ·rintro e w' ⟨v', rfl, k1, k2, k3, -⟩
  exact ⟨v', rfl, ⟨k1.imp (fun _ _ _ _ _ k => ⟨TrapAt.of k.1 rfl, fun hk => by have := k.2.1; omega⟩), h.2⟩, k3⟩
theorem copyFields (v : Value) (ts : List FieldV) (w : World) (h : Fields w v ts) (hl : ts.length ≤ 1048576) :
  Calls Tryz.prog 97 #[v] w fun e w' => ∃ v', e = .returned v' ∧ FieldsG (fun k => k < w.heap.size) w' v' ts ∧ Only (fun _ => False) w w' := by
 refine (copyCField v ts.length (fun i => cellsField (ts.getD i default)) w (h.1.imp (fun _ _ _ _ _ k => k.cells rfl)) (fun _ => rfl) (fun i u hu => ?_) hl).mono ?_
 ·simp only [cellsField, List.mem_cons, List.mem_nil_iff, or_false] at hu
  rcases hu with rfl | rfl | rfl <;> rfl
 ·rintro e w' ⟨v', rfl, k1, k2, k3, -⟩
  exact ⟨v', rfl, ⟨k1.imp (fun _ _ _ _ _ k => ⟨FieldAt.of k.1 rfl, fun hk => by have := k.2.1; omega⟩), h.2⟩, k3⟩
theorem copyPool (v : Value) (cs : List ConstV) (w : World) (h : Pool w v cs) (hl : cs.length ≤ 1048576) :
  Calls Tryz.prog 96 #[v] w fun e w' => ∃ v', e = .returned v' ∧ Pool w' v' cs ∧ (∀ k, v'.ownBlock = some k → w.heap.size ≤ k ∧ k < w'.heap.size) ∧ Only (fun _ => False) w w' := by
 obtain ⟨ao, cap, rfl, h1, h2, h3, h4, h5⟩ := id h
 refine (copyCConst _ cs.length (fun i => cellsConst (cs.getD i default)) w ⟨ao, cap, rfl, h1, h2, h3, fun x hx h0 => ?_⟩ (fun _ => rfl) (fun i u hu => ?_) hl).mono ?_
 ·obtain ⟨b, o, rfl, h6⟩ := h5 x hx h0
  exact ⟨b, o, rfl, fun i hi => (h6 i hi).cells rfl⟩
 ·simp only [cellsConst, List.mem_cons, List.mem_nil_iff, or_false] at hu
  rcases hu with rfl | rfl | rfl | rfl | rfl <;> rfl
 ·rintro e w' ⟨v', rfl, k1, k2, k3, -⟩
  obtain ⟨ao', cap', rfl, e1, e2, e3, e5⟩ := k1
  refine ⟨_, rfl, ⟨ao', cap', rfl, e1, e2, e3, h4, fun x hx h0 => ?_⟩, k2, k3⟩
  obtain ⟨b, o, rfl, e6⟩ := e5 x hx h0
  exact ⟨b, o, rfl, fun i hi => ConstAt.of (e6 i hi).1 rfl⟩
theorem copyMeths (v : Value) (n : Nat) (ms : List MethodV) (f : Nat → Value × Value × Value) (w : World) (hn : ms.length = n) (h : Sl v n (fun b o i => MethodAt w b o i (ms.getD i default) (f i).1 (f i).2.1 (f i).2.2))
  (hone : ∀ i, (f i).1.oneCell' = true ∧ (f i).2.1.oneCell' = true ∧ (f i).2.2.oneCell' = true) (hl : n ≤ 1048576) :
  Calls Tryz.prog 98 #[v] w (CopyTo w 70 8 n (fun i => cellsMeth (ms.getD i default) (f i))) := by
 refine copyCMeth v n (fun i => cellsMeth (ms.getD i default) (f i)) w (h.imp (fun _ _ _ _ _ k => k.cells rfl)) (fun _ => rfl) (fun i u hu => ?_) hl
 obtain ⟨a, b, c⟩ := hone i
 simp only [cellsMeth, List.mem_cons, List.mem_nil_iff, or_false] at hu
 rcases hu with rfl | rfl | rfl | rfl | rfl | rfl | rfl | rfl <;> first | rfl | assumption
abbrev valMth (m : MethodV) (a b c : Value) : Value := .agg #[.int .i64 m.flags, .int .i64 m.name, .int .i64 m.desc, .int .i64 m.stack, .int .i64 m.locals, a, b, c]
abbrev objMth (m : MethodV) (a b c : Value) : Obj := .cells #[.int .i64 m.flags, .int .i64 m.name, .int .i64 m.desc, .int .i64 m.stack, .int .i64 m.locals, a, b, c] 70
abbrev zeroMth : Obj := .cells #[.int .i64 0, .int .i64 0, .int .i64 0, .int .i64 0, .int .i64 0, .slice none 0 0, .slice none 0 0, .slice none 0 0] 70
theorem meth_alone {fn : Func} {p : Tmp} (hr : fn.results = #[.cell p 70]) {w : World} {b : Nat} {a0 a1 a2 a3 a4 a5 a6 a7 : Value} {tmps : Array Value} (h : w.heap[b]? = some (.cells #[a0, a1, a2, a3, a4, a5, a6, a7] 70 (0, 0))) (ht : tmps.getD p undef = .pointer (some ⟨b, 0, none⟩)) :
  (results fn tmps).run Tryz.prog w = .ok (.agg #[a0, a1, a2, a3, a4, a5, a6, a7]) w :=
 results_cell_row hr tmps w b 70 _ (0, 0) _ ht h Tryz.underlying70 rfl info8_meth9
set_option maxHeartbeats 8000000 in
set_option maxRecDepth 100000 in
theorem pCloneMethod (m : MethodV) (vc vt vm : Value) (w : World) (hi : Inside w m vc vt vm) (hc : m.code.length ≤ 1048576) (ht : m.traps.length ≤ 1048576) (hm : m.maps.length ≤ 1048576) :
  Calls Tryz.prog 99 #[valMth m vc vt vm] w fun e w' => ∃ a b c, e = .returned (valMth m a b c) ∧ InsideG (fun k => k < w.heap.size) w' m a b c ∧ Only (fun _ => False) w w' := by
 have ho0 := ((Only.refl (fun _ => False) w).alloc (objMth m vc vt vm)).alloc zeroMth
 have hx0 : ((w.alloc (objMth m vc vt vm)).alloc zeroMth).heap[w.heap.size]? = some (objMth m vc vt vm) := ((Only.refl (fun _ => False) _).alloc _).heap (heap_alloc_new w _) (fun h => h)
 have hr0 : ((w.alloc (objMth m vc vt vm)).alloc zeroMth).heap[w.heap.size + 1]? = some zeroMth := by
  have := heap_alloc_new (w.alloc (objMth m vc vt vm)) zeroMth
  rwa [World.size_alloc] at this
 have hs0 : ((w.alloc (objMth m vc vt vm)).alloc zeroMth).heap.size = w.heap.size + 2 := by simp
 obtain ⟨W0, hW0⟩ : ∃ W0, (w.alloc (objMth m vc vt vm)).alloc zeroMth = W0 := ⟨_, rfl⟩
 rw [hW0] at ho0 hx0 hr0 hs0
 have CC := Lib.hid (fun W (hW : Only (fun _ => False) W0 W) => copyBytes vc m.code W (hi.1.only (ho0.trans hW (fun _ h _ => h)) (fun _ _ _ h => h)) (by omega))
 have CT := Lib.hid (fun W (hW : Only (fun _ => False) W0 W) => copyTraps vt m.traps W (hi.2.1.only (ho0.trans hW (fun _ h _ => h))) ht)
 have CM := Lib.hid (fun W (hW : Only (fun _ => False) W0 W) => copyBytes vm m.maps W (hi.2.2.only (ho0.trans hW (fun _ h _ => h)) (fun _ _ _ h => h)) (by omega))
 obtain ⟨c0, c1, c2, c3, c4, c5, c6, c7⟩ := cells8M hx0
 have HO0 := Lib.hid ho0
 have HR0 := Lib.hid hr0
 have HS0 := Lib.hid hs0
 have HW0 := Lib.hid hW0
 have hSd : W0.drew.cell? ⟨w.heap.size, 5, none⟩ = some vc ∧ W0.drew.cell? ⟨w.heap.size, 6, none⟩ = some vt ∧ W0.drew.cell? ⟨w.heap.size, 7, none⟩ = some vm := ⟨(Only.refl (fun _ => False) W0).drew.cell c5 (fun h => h), (Only.refl (fun _ => False) W0).drew.cell c6 (fun h => h), (Only.refl (fun _ => False) W0).drew.cell c7 (fun h => h)⟩
 clear ho0 hr0 hs0 hW0 hi
 go_enter Tryz.func99, Tryz.ntmps99
 go_wp2_with (fail)
 rw [HW0.out]
 refine wp_till 10 (fun wc => wc.cell? ⟨w.heap.size, 5, none⟩ = some vc ∧ wc.cell? ⟨w.heap.size, 6, none⟩ = some vt ∧ wc.cell? ⟨w.heap.size, 7, none⟩ = some vm) (by kernel_rfl) ?_
 refine Till.take (i := 0) (v := ?_) (by simp only [List.getElem?_toArray, List.getElem?_cons_succ, List.getElem?_cons_zero]; rfl) (by kernel_rfl) (by kernel_rfl) (by kernel_rfl) (by kernel_rfl) (by kernel_rfl) (by exact fun _ _ _ h => h) (Or.inl ⟨by rfl, ?_⟩) (by assumption) ?_
 rotate_left 1
 ·(intro w hSw; (try dsimp only at hSw); go_simp; try with_reducible rfl)
 try simp only [Act.put, sIB, sC0, sCS]
 refine Till.take (i := 1) (v := ?_) (by simp only [List.getElem?_toArray, List.getElem?_cons_succ, List.getElem?_cons_zero]; rfl) (by kernel_rfl) (by kernel_rfl) (by kernel_rfl) (by kernel_rfl) (by kernel_rfl) (by exact fun _ _ _ h => h) (Or.inl ⟨by rfl, ?_⟩) (by assumption) ?_
 rotate_left 1
 ·(intro w hSw; (try dsimp only at hSw); go_simp; try with_reducible rfl)
 try simp only [Act.put, sIB, sC0, sCS]
 refine Till.take (i := 3) (v := ?_) (by simp only [List.getElem?_toArray, List.getElem?_cons_succ, List.getElem?_cons_zero]; rfl) (by kernel_rfl) (by kernel_rfl) (by kernel_rfl) (by kernel_rfl) (by kernel_rfl) (by exact fun _ _ _ h => h) (Or.inl ⟨by rfl, ?_⟩) (by assumption) ?_
 rotate_left 1
 ·(intro w hSw; (try dsimp only at hSw); go_simp; try with_reducible rfl)
 try simp only [Act.put, sIB, sC0, sCS]
 refine Till.take (i := 4) (v := ?_) (by simp only [List.getElem?_toArray, List.getElem?_cons_succ, List.getElem?_cons_zero]; rfl) (by kernel_rfl) (by kernel_rfl) (by kernel_rfl) (by kernel_rfl) (by kernel_rfl) (by exact fun _ _ _ h => h) (Or.inl ⟨by rfl, ?_⟩) (by assumption) ?_
 rotate_left 1
 ·(intro w hSw; (try dsimp only at hSw); go_simp; try with_reducible rfl)
 try simp only [Act.put, sIB, sC0, sCS]
 refine Till.take (i := 6) (v := ?_) (by simp only [List.getElem?_toArray, List.getElem?_cons_succ, List.getElem?_cons_zero]; rfl) (by kernel_rfl) (by kernel_rfl) (by kernel_rfl) (by kernel_rfl) (by kernel_rfl) (by exact fun _ _ _ h => h) (Or.inl ⟨by rfl, ?_⟩) (by assumption) ?_
 rotate_left 1
 ·(intro w hSw; (try dsimp only at hSw); go_simp; try with_reducible rfl)
 try simp only [Act.put, sIB, sC0, sCS]
 refine Till.take (i := 7) (v := ?_) (by simp only [List.getElem?_toArray, List.getElem?_cons_succ, List.getElem?_cons_zero]; rfl) (by kernel_rfl) (by kernel_rfl) (by kernel_rfl) (by kernel_rfl) (by kernel_rfl) (by exact fun _ _ _ h => h) (Or.inl ⟨by rfl, ?_⟩) (by assumption) ?_
 rotate_left 1
 ·(intro w hSw; (try dsimp only at hSw); go_simp; try with_reducible rfl)
 try simp only [Act.put, sIB, sC0, sCS]
 refine Till.step (i := 2) (by kernel_rfl) (by simp only [List.getElem?_toArray, List.getElem?_cons_succ, List.getElem?_cons_zero]; rfl) (fun K hK => ?_)
 go_simp
 (refine (CC.out _ (Only.refl (fun _ => False) W0).drew).mono ?_; rintro e1 w1 ⟨v1, rfl, hb1, hn1, ho1⟩; have HO1 := Lib.hid (((Only.refl (fun _ => False) W0).drew).trans ho1 (fun _ h _ => h)); have HI1 := Lib.hid ho1; obtain ⟨a1, k1, rfl, -⟩ := id hb1; have HB1 := Lib.hid hb1; have HN1 := Lib.hid hn1; have hSd1 : w1.cell? ⟨w.heap.size, 5, none⟩ = some vc ∧ w1.cell? ⟨w.heap.size, 6, none⟩ = some vt ∧ w1.cell? ⟨w.heap.size, 7, none⟩ = some vm := ⟨HO1.out.cell c5 (fun h => h), HO1.out.cell c6 (fun h => h), HO1.out.cell c7 (fun h => h)⟩; clear hb1 hn1 ho1)
 go_wp2_with fail
 refine hK.out _ _ ?_ ?_
 ·exact fun _ => ⟨HO1.out.cell c5 (fun h => h), HO1.out.cell c6 (fun h => h), HO1.out.cell c7 (fun h => h)⟩
 clear hK K
 try simp only [Act.put, sIB, sC0, sCS]
 refine Till.take (i := 9) (v := ?_) (by simp only [List.getElem?_toArray, List.getElem?_cons_succ, List.getElem?_cons_zero]; rfl) (by kernel_rfl) (by kernel_rfl) (by kernel_rfl) (by kernel_rfl) (by kernel_rfl) (by exact fun _ _ _ h => h) (Or.inl ⟨by rfl, ?_⟩) (by assumption) ?_
 rotate_left 1
 ·(intro w hSw; (try dsimp only at hSw); go_simp; try with_reducible rfl)
 try simp only [Act.put, sIB, sC0, sCS]
 refine Till.step (i := 5) (by kernel_rfl) (by simp only [List.getElem?_toArray, List.getElem?_cons_succ, List.getElem?_cons_zero]; rfl) (fun K hK => ?_)
 go_simp
 (refine (CT.out _ HO1.out).mono ?_; rintro e2 w2 ⟨v2, rfl, ht2, ho2⟩; have HO2 := Lib.hid ((HO1.out).trans ho2 (fun _ h _ => h)); have HI2 := Lib.hid ho2; obtain ⟨a2, k2, rfl, -⟩ := id ht2.1; have HT2 := Lib.hid ht2; clear ht2 ho2)
 go_wp2_with fail
 refine hK.out _ _ ?_ ?_
 ·exact fun _ => ⟨HO2.out.cell c5 (fun h => h), HO2.out.cell c6 (fun h => h), HO2.out.cell c7 (fun h => h)⟩
 clear hK K
 try simp only [Act.put, sIB, sC0, sCS]
 refine Till.step (i := 8) (by kernel_rfl) (by simp only [List.getElem?_toArray, List.getElem?_cons_succ, List.getElem?_cons_zero]; rfl) (fun K hK => ?_)
 go_simp
 (refine (CM.out _ HO2.out).mono ?_; rintro e3 w3 ⟨v3, rfl, hb3, hn3, ho3⟩; have HO3 := Lib.hid ((HO2.out).trans ho3 (fun _ h _ => h)); have HI3 := Lib.hid ho3; obtain ⟨a3, k3, rfl, -⟩ := id hb3; have HB3 := Lib.hid hb3; have HN3 := Lib.hid hn3; have hx3 := HO3.out.heap hx0 (fun h => h); have f5 := frozen_blk hx3 5; have f6 := frozen_blk hx3 6; have f7 := frozen_blk hx3 7; have HX3 := Lib.hid hx3; obtain ⟨y0, y1, y2, y3, y4, y5, y6, y7⟩ := cells8M hx3; clear hb3 hn3 ho3 hx3)
 go_wp2_with fail
 refine hK.out _ _ ?_ ?_
 ·exact fun _ => ⟨HO3.out.cell c5 (fun h => h), HO3.out.cell c6 (fun h => h), HO3.out.cell c7 (fun h => h)⟩
 clear hK K
 try simp only [Act.put, sIB, sC0, sCS]
 refine Till.step (i := 10) (by kernel_rfl) (by simp only [List.getElem?_toArray, List.getElem?_cons_succ, List.getElem?_cons_zero]; rfl) (fun K hK => ?_)
 go_simp
 refine hK.out _ _ ?_ ?_
 ·exact fun h => by cases h
 clear hK K
 try simp only [Act.put, sIB, sC0, sCS]
 refine Till.step (i := 11) (by kernel_rfl) (by simp only [List.getElem?_toArray, List.getElem?_cons_succ, List.getElem?_cons_zero]; rfl) (fun K hK => ?_)
 go_simp
 refine hK.out _ _ ?_ ?_
 ·exact fun h => by cases h
 clear hK K
 try simp only [Act.put, sIB, sC0, sCS]
 refine Till.step (i := 12) (by kernel_rfl) (by simp only [List.getElem?_toArray, List.getElem?_cons_succ, List.getElem?_cons_zero]; rfl) (fun K hK => ?_)
 go_simp
 refine hK.out _ _ ?_ ?_
 ·exact fun h => by cases h
 clear hK K
 try simp only [Act.put, sIB, sC0, sCS]
 refine Till.step (i := 13) (by kernel_rfl) (by simp only [List.getElem?_toArray, List.getElem?_cons_succ, List.getElem?_cons_zero]; rfl) (fun K hK => ?_)
 go_simp
 refine hK.out _ _ ?_ ?_
 ·exact fun h => by cases h
 clear hK K
 try simp only [Act.put, sIB, sC0, sCS]
 refine Till.step (i := 14) (by kernel_rfl) (by simp only [List.getElem?_toArray, List.getElem?_cons_succ, List.getElem?_cons_zero]; rfl) (fun K hK => ?_)
 go_simp
 refine hK.out _ _ ?_ ?_
 ·exact fun h => by cases h
 clear hK K
 try simp only [Act.put, sIB, sC0, sCS]
 refine Till.done (by kernel_rfl) ?_ _
 have hx4 := heap_setCell_at (i := 7) (u := (.slice a3 m.maps.length k3)) (heap_setCell_at (i := 6) (u := (.slice a2 m.traps.length k2)) (heap_setCell_at (i := 5) (u := (.slice a1 m.code.length k1)) HX3.out))
 simp only [List.setIfInBounds_toArray, List.set_cons_zero, List.set_cons_succ] at hx4
 have ho4 := (((Only.refl (fun k => k = w.heap.size) w3).setCell (p := ⟨w.heap.size, 5, none⟩) (fun _ => rfl) (.slice a1 m.code.length k1)).setCell (p := ⟨w.heap.size, 6, none⟩) (fun _ => rfl) (.slice a2 m.traps.length k2)).setCell (p := ⟨w.heap.size, 7, none⟩) (fun _ => rfl) (.slice a3 m.maps.length k3)
 obtain ⟨W4, hW4⟩ : ∃ W4, ((w3.setCell ⟨w.heap.size, 5, none⟩ (.slice a1 m.code.length k1)).setCell ⟨w.heap.size, 6, none⟩ (.slice a2 m.traps.length k2)).setCell ⟨w.heap.size, 7, none⟩ (.slice a3 m.maps.length k3) = W4 := ⟨_, rfl⟩
 rw [hW4] at hx4 ho4 ⊢
 clear f5 f6 f7 y0 y1 y2 y3 y4 y5 y6 y7 c0 c1 c2 c3 c4 c5 c6 c7 hSd hSd1
 obtain ⟨y0, y1, y2, y3, y4, y5, y6, y7⟩ := cells8M hx4
 have hr4 := ho4.heap (HO3.out.heap HR0.out (fun h => h)) (by omega)
 obtain ⟨z0, z1, z2, z3, z4, z5, z6, z7⟩ := cells8M hr4
 obtain ⟨f0, f1, f2, f3, f4, f5, f6, f7⟩ := marks8M hr4
 have HR4 := Lib.hid hr4
 have HO4 := Lib.hid ho4
 clear hx4 hr4 ho4 hW4 hx0
 go_wp2
 refine bodyPost_ret (meth_alone (b := w.heap.size + 1) Tryz.results99 (store8M HR4.out) rfl) rfl ⟨_, _, _, rfl, ?_, ?_⟩
 ·have HS := HS0.out
  have h1 : BytesG (fun k => k < W0.heap.size) w3 (.slice a1 m.code.length k1) m.code := ⟨HB1.out.only (HI2.out.trans HI3.out (fun _ h _ => h)) (fun _ _ _ h => h), fun k hk _ hG => by have := (HN1.out k hk).1; have h2 : W0.heap.size ≤ W0.drew.heap.size := (Only.refl (fun _ => False) W0).drew.size; omega⟩
  have h2 : TrapsG (fun k => k < W0.heap.size) w3 (.slice a2 m.traps.length k2) m.traps := (HT2.out.only HI3.out (fun _ h => h.elim)).mono (fun k _ hk => by have := HO1.out.size; omega)
  have h3 : BytesG (fun k => k < W0.heap.size) w3 (.slice a3 m.maps.length k3) m.maps := ⟨HB3.out, fun k hk _ hG => by have := (HN3.out k hk).1; have := HO2.out.size; omega⟩
  exact InsideG.mono (G := fun k => k < W0.heap.size) (fun k _ hk => by omega) (InsideG.only (S := fun k => k < W0.heap.size) (only8M (HO4.out.mono (T := fun k => k < W0.heap.size) (fun k hk _ => by omega)) (fun _ => by omega)) (fun _ h => h) ⟨h1, h2, h3⟩)
 ·refine only8M (Only.trans (HO0.out.trans HO3.out (fun _ h _ => h)) HO4.out ?_) (fun hl => absurd hl (by omega))
  rintro i rfl hl
  omega
end Go.Proofs.YtgdgffnaknkbcaaGreatDoor
