import Derived.Test.YtinbelghhfodiaaGreatDoorMaTlk
import Derived.Test.YtinbelghhfodiaaGreatDoorMaTkH
import Derived.Test.YtinbelghhfodiaaGreatDoorMaRulDLpP
import Derived.Test.YtinbelghhfodiaaGreatDoorMaClsGLpE
namespace Go.Proofs.YtinbelghhfodiaaGreatDoor
set_option maxHeartbeats 16000000
open Lib (hid)
open Go.RowKit Go.Maps
set_option linter.unusedVariables false
set_option linter.unusedSimpArgs false
abbrev set8 (cur : Array Value) (k : Nat) (a0 a1 a2 a3 a4 a5 a6 a7 : Value) : Array Value :=
 (((((((cur.setIfInBounds k a0).setIfInBounds (k + 1) a1).setIfInBounds (k + 2) a2).setIfInBounds (k + 3) a3).setIfInBounds (k + 4) a4).setIfInBounds (k + 5) a5).setIfInBounds (k + 6) a6).setIfInBounds (k + 7) a7
theorem set8_ne {cur : Array Value} {k m : Nat} {a0 a1 a2 a3 a4 a5 a6 a7 : Value} (h : m < k ∨ k + 8 ≤ m) : (set8 cur k a0 a1 a2 a3 a4 a5 a6 a7)[m]? = cur[m]? := by
 unfold set8
 iterate 8 rw [Array.getElem?_setIfInBounds_ne (by omega)]
theorem set8_at {cur : Array Value} {k : Nat} {a0 a1 a2 a3 a4 a5 a6 a7 : Value} (h : k + 7 < cur.size) : ∀ d, d < 8 → (set8 cur k a0 a1 a2 a3 a4 a5 a6 a7)[k + d]? = [a0, a1, a2, a3, a4, a5, a6, a7][d]? := fun d hd => by
 unfold set8
 match d, hd with
 | 0, _ => (iterate 7 rw [Array.getElem?_setIfInBounds_ne (by omega)]); rw [Nat.add_zero, Array.getElem?_setIfInBounds_self_of_lt (by omega)]; rfl
 | 1, _ => (iterate 6 rw [Array.getElem?_setIfInBounds_ne (by omega)]); rw [Array.getElem?_setIfInBounds_self_of_lt (by simp only [Array.size_setIfInBounds]; omega)]; rfl
 | 2, _ => (iterate 5 rw [Array.getElem?_setIfInBounds_ne (by omega)]); rw [Array.getElem?_setIfInBounds_self_of_lt (by simp only [Array.size_setIfInBounds]; omega)]; rfl
 | 3, _ => (iterate 4 rw [Array.getElem?_setIfInBounds_ne (by omega)]); rw [Array.getElem?_setIfInBounds_self_of_lt (by simp only [Array.size_setIfInBounds]; omega)]; rfl
 | 4, _ => (iterate 3 rw [Array.getElem?_setIfInBounds_ne (by omega)]); rw [Array.getElem?_setIfInBounds_self_of_lt (by simp only [Array.size_setIfInBounds]; omega)]; rfl
 | 5, _ => (iterate 2 rw [Array.getElem?_setIfInBounds_ne (by omega)]); rw [Array.getElem?_setIfInBounds_self_of_lt (by simp only [Array.size_setIfInBounds]; omega)]; rfl
 | 6, _ => rw [Array.getElem?_setIfInBounds_ne (by omega), Array.getElem?_setIfInBounds_self_of_lt (by simp only [Array.size_setIfInBounds]; omega)]; rfl
 | 7, _ => rw [Array.getElem?_setIfInBounds_self_of_lt (by simp only [Array.size_setIfInBounds]; omega)]; rfl
def RowMs (w : World) (gb n : Nat) (ms : List MethodV) (g : Nat → Value × Value × Value) : Prop :=
 ∃ cur, w.heap[gb]? = some (.cells cur 63 (0, 0)) ∧ ∀ i, i < n → ∀ d, d < 8 → cur[i * 8 + d]? = (cellsMeth (ms.getD i default) (g i))[d]?
theorem RowMs.only {S : Nat → Prop} {w w' : World} {gb n : Nat} {ms : List MethodV} {g : Nat → Value × Value × Value} (h : RowMs w gb n ms g) (ho : Only S w w') (hs : ¬ S gb) : RowMs w' gb n ms g := by
 obtain ⟨cur, h1, h2⟩ := h
 exact ⟨cur, ho.heap h1 hs, h2⟩
def setG (g : Nat → Value × Value × Value) (j : Nat) (x : Value × Value × Value) : Nat → Value × Value × Value := fun i => if i = j then x else g i
theorem setG_at (g : Nat → Value × Value × Value) (j : Nat) (x : Value × Value × Value) : setG g j x j = x := if_pos rfl
theorem setG_ne (g : Nat → Value × Value × Value) {i j : Nat} (x : Value × Value × Value) (h : i ≠ j) : setG g j x i = g i := if_neg h
theorem RowMs.step {w : World} {gb n : Nat} {ms : List MethodV} {g : Nat → Value × Value × Value} (h : RowMs w gb n ms g) {j : Nat} (hj : j < n) (a b c : Value) {m : MethodV} (hm : m = ms.getD j default) :
  RowMs ((((((((w.setCell ⟨gb, j * 8, none⟩ (.int .i64 m.flags)).setCell ⟨gb, j * 8 + 1, none⟩ (.int .i64 m.name)).setCell ⟨gb, j * 8 + 2, none⟩ (.int .i64 m.desc)).setCell ⟨gb, j * 8 + 3, none⟩ (.int .i64 m.stack)).setCell ⟨gb, j * 8 + 4, none⟩ (.int .i64 m.locals)).setCell ⟨gb, j * 8 + 5, none⟩ a).setCell ⟨gb, j * 8 + 6, none⟩ b).setCell ⟨gb, j * 8 + 7, none⟩ c) gb n ms (setG g j (a, b, c)) := by
 obtain ⟨cur, h1, h2⟩ := h
 subst hm
 have hsz : j * 8 + 7 < cur.size := (Array.getElem?_eq_some_iff.1 ((h2 j hj 7 (by decide)).trans (by rfl))).1
 refine ⟨set8 cur (j * 8) _ _ _ _ _ a b c, heap_setCell_at (heap_setCell_at (heap_setCell_at (heap_setCell_at (heap_setCell_at (heap_setCell_at (heap_setCell_at (heap_setCell_at h1))))))), fun i hi d hd => ?_⟩
 by_cases hij : i = j
 ·subst hij
  rw [set8_at hsz d hd, setG_at]
  rfl
 ·rw [set8_ne (by omega), setG_ne _ _ hij]
  exact h2 i hi d hd
theorem RowMs.at {w : World} {gb n : Nat} {ms : List MethodV} {g : Nat → Value × Value × Value} (h : RowMs w gb n ms g) {j : Nat} (hj : j < n) {d : Nat} (hd : d < 8) : w.cell? ⟨gb, j * 8 + d, none⟩ = (cellsMeth (ms.getD j default) (g j))[d]? ∧ w.frozen? ⟨gb, j * 8 + d, none⟩ = false := by
 obtain ⟨cur, h1, h2⟩ := h
 exact ⟨(cell_blk h1 _).trans (h2 j hj d hd), frozen_blk h1 _⟩
theorem rowMs_of {w : World} {B gb n cap : Nat} {ms : List MethodV} {g : Nat → Value × Value × Value} (h : w.ownsRow B 63 8 (.slice (some ⟨gb, 0, none⟩) n cap) n ((List.range n).flatMap (fun i => cellsMeth (ms.getD i default) (g i)))) : RowMs w gb n ms g := by
 have h' := h
 rcases h'.2 with ⟨e, -⟩ | ⟨g', cap', cur, e, hb, hg, hnc, hcm, hcs, htake⟩
 ·cases e
 ·cases e
  refine ⟨cur, hg, fun i hi d hd => ?_⟩
  have hle : i * 8 + d < n * 8 := by omega
  have := h.cellAt (i * 8 + d) hle
  rw [cell_blk hg] at this
  rw [this]
  have hat := flat_at (l := List.range n) (f := fun i => cellsMeth (ms.getD i default) (g i)) (size := 8) (fun _ => rfl) (i := i) (d := d) (by rw [List.length_range]; exact hi) hd
  rw [range_getD hi] at hat
  exact hat
def InsJ (G : Nat → Prop) (w0 w : World) (ms : List MethodV) (f g : Nat → Value × Value × Value) (j : Nat) : Prop :=
 (∀ i, i < j → InsideG G w (ms.getD i default) (g i).1 (g i).2.1 (g i).2.2) ∧ ∀ i, j ≤ i → g i = f i
theorem InsJ.step {G : Nat → Prop} {w0 w : World} {ms : List MethodV} {f g : Nat → Value × Value × Value} {j : Nat} {a b c : Value} (h : InsJ G w0 w ms f g j) (hn : InsideG G w (ms.getD j default) a b c) : InsJ G w0 w ms f (setG g j (a, b, c)) (j + 1) := by
 refine ⟨fun i hi => ?_, fun i hi => ?_⟩
 ·by_cases hij : i = j
  ·subst hij; rw [setG_at]; exact hn
  ·rw [setG_ne _ _ hij]; exact h.1 i (by omega)
 ·rw [setG_ne _ _ (by omega)]; exact h.2 i (by omega)
theorem InsJ.only {G S : Nat → Prop} {w0 w w' : World} {ms : List MethodV} {f g : Nat → Value × Value × Value} {j : Nat} (h : InsJ G w0 w ms f g j) (ho : Only S w w') (hs : ∀ k, S k → G k) : InsJ G w0 w' ms f g j := ⟨fun i hi => (h.1 i hi).only ho hs, h.2⟩
theorem onlyRow8 {S : Nat → Prop} {a w : World} {gb k : Nat} {a0 a1 a2 a3 a4 a5 a6 a7 : Value} (h : Only S a w) (hg : gb < a.heap.size → S gb) :
  Only S a ((((((((w.setCell ⟨gb, k, none⟩ a0).setCell ⟨gb, k + 1, none⟩ a1).setCell ⟨gb, k + 2, none⟩ a2).setCell ⟨gb, k + 3, none⟩ a3).setCell ⟨gb, k + 4, none⟩ a4).setCell ⟨gb, k + 5, none⟩ a5).setCell ⟨gb, k + 6, none⟩ a6).setCell ⟨gb, k + 7, none⟩ a7) := by
 iterate 8 (refine Only.setCell (S := S) ?_ hg _)
 exact h
theorem info5_classP : (Tryz.prog.info? 84).map (·.size) = some 5 := by kernel_rfl
theorem class_alone {fn : Func} {p : Tmp} (hr : fn.results = #[.cell p 84]) {w : World} {b : Nat} {a0 a1 a2 a3 a4 : Value} {tmps : Array Value} (h : w.heap[b]? = some (.cells #[a0, a1, a2, a3, a4] 84 (0, 0))) (ht : tmps.getD p undef = .pointer (some ⟨b, 0, none⟩)) :
  (results fn tmps).run Tryz.prog w = .ok (.agg #[a0, a1, a2, a3, a4]) w :=
 results_cell_row hr tmps w b 84 _ (0, 0) _ ht h Tryz.underlying84 rfl info5_classP
theorem inside_one {w : World} {m : MethodV} {a b c : Value} (h : Inside w m a b c) : a.oneCell' = true ∧ b.oneCell' = true ∧ c.oneCell' = true := by
 obtain ⟨_, _, rfl, -⟩ := h.1
 obtain ⟨_, _, rfl, -⟩ := h.2.1.1
 obtain ⟨_, _, rfl, -⟩ := h.2.2
 exact ⟨rfl, rfl, rfl⟩
theorem meths_one {w : World} {v : Value} {ms : List MethodV} (h : Methods w v ms) : ∃ f : Nat → Value × Value × Value, Sl v ms.length (fun b o i => MethodAt w b o i (ms.getD i default) (f i).1 (f i).2.1 (f i).2.2) ∧
  (∀ i, i < ms.length → Inside w (ms.getD i default) (f i).1 (f i).2.1 (f i).2.2) ∧ (∀ m ∈ ms, MethodR m) ∧ ∀ i, (f i).1.oneCell' = true ∧ (f i).2.1.oneCell' = true ∧ (f i).2.2.oneCell' = true := by
 obtain ⟨f, h1, h2, h3⟩ := h
 refine ⟨fun i => if i < ms.length then f i else (.slice none 0 0, .slice none 0 0, .slice none 0 0), h1.imp (fun b o i _ hi k => by simp only [if_pos hi]; exact k), fun i hi => by simp only [if_pos hi]; exact h2 i hi, h3, fun i => ?_⟩
 by_cases hi : i < ms.length
 ·simp only [if_pos hi]; exact inside_one (h2 i hi)
 ·simp only [if_neg hi]; exact ⟨rfl, rfl, rfl⟩
structure FewC (c : ClassV) : Prop where
 pool : c.pool.length ≤ 1048576
 fields : c.fields.length ≤ 1048576
 meths : c.methods.length ≤ 1048576
 each : ∀ m ∈ c.methods, m.code.length ≤ 1048576 ∧ m.traps.length ≤ 1048576 ∧ m.maps.length ≤ 1048576
abbrev valCls (c : ClassV) (p f m : Value) : Value := .agg #[p, .int .i64 c.this, .int .i64 c.super, f, m]
abbrev objCls (c : ClassV) (p f m : Value) : Obj := .cells #[p, .int .i64 c.this, .int .i64 c.super, f, m] 84
abbrev zeroCls : Obj := .cells #[.slice none 0 0, .int .i64 0, .int .i64 0, .slice none 0 0, .slice none 0 0] 84
set_option maxRecDepth 100000 in
theorem pCloneClass (c : ClassV) (vp vf vm : Value) (w : World) (hc : ClassM w vp vf vm c) (hfew : FewC c) :
  Calls Tryz.prog 81 #[valCls c vp vf vm] w fun e w' => ∃ a b d, e = .returned (valCls c a b d) ∧ ClassG (fun k => k < w.heap.size) w' a b d c ∧ Only (fun _ => False) w w' := by
 have ho0 := ((Only.refl (fun _ => False) w).alloc (objCls c vp vf vm)).alloc zeroCls
 have hx0 : ((w.alloc (objCls c vp vf vm)).alloc zeroCls).heap[w.heap.size]? = some (objCls c vp vf vm) := ((Only.refl (fun _ => False) _).alloc _).heap (heap_alloc_new w _) (fun h => h)
 have hr0 : ((w.alloc (objCls c vp vf vm)).alloc zeroCls).heap[w.heap.size + 1]? = some zeroCls := by
  have := heap_alloc_new (w.alloc (objCls c vp vf vm)) zeroCls
  rwa [World.size_alloc] at this
 have hs0 : ((w.alloc (objCls c vp vf vm)).alloc zeroCls).heap.size = w.heap.size + 2 := by simp
 obtain ⟨W0, hW0⟩ : ∃ W0, (w.alloc (objCls c vp vf vm)).alloc zeroCls = W0 := ⟨_, rfl⟩
 rw [hW0] at ho0 hx0 hr0 hs0
 obtain ⟨hpool, hfields, hmm, hthis, hsuper⟩ := hc
 obtain ⟨f, hmeths, hins, hmr, HONE⟩ := meths_one hmm
 clear hmm
 obtain ⟨n, hn⟩ : ∃ n, c.methods.length = n := ⟨_, rfl⟩
 rw [hn] at hmeths
 have CP := hid (fun W (hW : Only (fun _ => False) W0 W) => copyPool vp c.pool W (hpool.only (ho0.trans hW (fun _ h _ => h)) (fun _ _ h => h)) hfew.pool)
 have CF := hid (fun W (hW : Only (fun _ => False) W0 W) => copyFields vf c.fields W (hfields.only (ho0.trans hW (fun _ h _ => h))) hfew.fields)
 have CM := hid (fun W (hW : Only (fun _ => False) W0 W) => copyMeths vm n c.methods f W hn (hmeths.imp (fun _ _ _ _ _ k => k.only (ho0.trans hW (fun _ h _ => h)))) HONE (by have := hfew.meths; omega))
 obtain ⟨q0, q1, q2, q3, q4⟩ := cells5T hx0
 have HO0 := hid ho0
 have HR0 := hid hr0
 have HS0 := hid hs0
 have HW0 := hid hW0
 have HINS := hid hins
 have HMR := hid hmr
 have HRI := hid (And.intro hthis hsuper)
 have HFEW := hid hfew
 have HN := hid hn
 have hSd : W0.drew.cell? ⟨w.heap.size, 0, none⟩ = some vp ∧ W0.drew.cell? ⟨w.heap.size, 3, none⟩ = some vf ∧ W0.drew.cell? ⟨w.heap.size, 4, none⟩ = some vm := ⟨(Only.refl (fun _ => False) W0).drew.cell q0 (fun h => h), (Only.refl (fun _ => False) W0).drew.cell q3 (fun h => h), (Only.refl (fun _ => False) W0).drew.cell q4 (fun h => h)⟩
 clear ho0 hr0 hs0 hW0 hins hmr HONE hpool hfields hmeths hfew hn hthis hsuper
 go_enter Tryz.func81, Tryz.ntmps81
 go_wp2_with (fail)
 rw [HW0.out]
 refine wp_till 10 (fun wc => wc.cell? ⟨w.heap.size, 0, none⟩ = some vp ∧ wc.cell? ⟨w.heap.size, 3, none⟩ = some vf ∧ wc.cell? ⟨w.heap.size, 4, none⟩ = some vm) (by kernel_rfl) ?_
 refine Till.tk 0 (h := ?_)
 refine Till.tk 1 (h := ?_)
 refine Till.tk 3 (h := ?_)
 refine Till.tk 4 (h := ?_)
 refine Till.tk 6 (h := ?_)
 refine Till.tk 7 (h := ?_)
 refine Till.ts 2 (h := fun K hK => ?_)
 go_simp
 (refine (CP.out _ (Only.refl (fun _ => False) W0).drew).mono ?_; rintro e1 w1 ⟨v1, rfl, hp1, hn1, ho1⟩; have HO1 := hid (((Only.refl (fun _ => False) W0).drew).trans ho1 (fun _ h _ => h)); have HI1 := hid ho1; obtain ⟨a1, k1, rfl, -⟩ := id hp1; have HP1 := hid hp1; have HN1 := hid hn1; have hSd1 : w1.cell? ⟨w.heap.size, 0, none⟩ = some vp ∧ w1.cell? ⟨w.heap.size, 3, none⟩ = some vf ∧ w1.cell? ⟨w.heap.size, 4, none⟩ = some vm := ⟨HO1.out.cell q0 (fun h => h), HO1.out.cell q3 (fun h => h), HO1.out.cell q4 (fun h => h)⟩; clear hp1 hn1 ho1)
 go_wp2_with fail
 refine hK.out _ _ ?_ ?_
 ·exact fun _ => ⟨HO1.out.cell q0 (fun h => h), HO1.out.cell q3 (fun h => h), HO1.out.cell q4 (fun h => h)⟩
 clear hK K
 try simp only [Act.put, sIB, sC0, sCS]
 refine Till.tk 9 (h := ?_)
 refine Till.ts 5 (h := fun K hK => ?_)
 go_simp
 (refine (CF.out _ HO1.out).mono ?_; rintro e2 w2 ⟨v2, rfl, hf2, ho2⟩; have HO2 := hid ((HO1.out).trans ho2 (fun _ h _ => h)); have HI2 := hid ho2; obtain ⟨a2, k2, rfl, -⟩ := id hf2.1; have HF2 := hid hf2; clear hf2 ho2)
 go_wp2_with fail
 refine hK.out _ _ ?_ ?_
 ·exact fun _ => ⟨HO2.out.cell q0 (fun h => h), HO2.out.cell q3 (fun h => h), HO2.out.cell q4 (fun h => h)⟩
 clear hK K
 try simp only [Act.put, sIB, sC0, sCS]
 refine Till.ts 8 (h := fun K hK => ?_)
 go_simp
 (refine (CM.out _ HO2.out).mono ?_; rintro e3 w3 ⟨v3, rfl, hs3, hn3, ho3, hr3⟩; have HO3 := hid ((HO2.out).trans ho3 (fun _ h _ => h)); have HI3 := hid ho3; obtain ⟨a3, k3, rfl, s1, s2, s3, -⟩ := id hs3; have HM3 := hid hr3; have HN3 := hid hn3; have hx3 := HO3.out.heap hx0 (fun h => h); have f0 := frozen_blk hx3 0; have f3 := frozen_blk hx3 3; have f4 := frozen_blk hx3 4; have HX3 := hid hx3; obtain ⟨y0, y1, y2, y3, y4⟩ := cells5T hx3; clear hs3 hr3 hn3 ho3 hx3)
 go_wp2_with fail
 refine hK.out _ _ ?_ ?_
 ·exact fun _ => ⟨HO3.out.cell q0 (fun h => h), HO3.out.cell q3 (fun h => h), HO3.out.cell q4 (fun h => h)⟩
 clear hK K
 try simp only [Act.put, sIB, sC0, sCS]
 refine Till.ts 10 (h := fun K hK => ?_)
 go_simp
 refine hK.out _ _ ?_ ?_
 ·exact fun h => by cases h
 clear hK K
 try simp only [Act.put, sIB, sC0, sCS]
 refine Till.ts 11 (h := fun K hK => ?_)
 go_simp
 refine hK.out _ _ ?_ ?_
 ·exact fun h => by cases h
 clear hK K
 try simp only [Act.put, sIB, sC0, sCS]
 refine Till.ts 12 (h := fun K hK => ?_)
 go_simp
 refine hK.out _ _ ?_ ?_
 ·exact fun h => by cases h
 clear hK K
 try simp only [Act.put, sIB, sC0, sCS]
 refine Till.ts 13 (h := fun K hK => ?_)
 go_simp
 refine hK.out _ _ ?_ ?_
 ·exact fun h => by cases h
 clear hK K
 try simp only [Act.put, sIB, sC0, sCS]
 refine Till.ts 14 (h := fun K hK => ?_)
 go_simp
 refine hK.out _ _ ?_ ?_
 ·exact fun h => by cases h
 clear hK K
 try simp only [Act.put, sIB, sC0, sCS]
 refine Till.done (by kernel_rfl) ?_ _
 have hx4 := heap_setCell_at (i := 4) (u := (.slice a3 n k3)) (heap_setCell_at (i := 3) (u := (.slice a2 c.fields.length k2)) (heap_setCell_at (i := 0) (u := (.slice a1 c.pool.length k1)) HX3.out))
 simp only [List.setIfInBounds_toArray, List.set_cons_zero, List.set_cons_succ] at hx4
 have ho4 := (((Only.refl (fun k => k = w.heap.size) w3).setCell (p := ⟨w.heap.size, 0, none⟩) (fun _ => rfl) (.slice a1 c.pool.length k1)).setCell (p := ⟨w.heap.size, 3, none⟩) (fun _ => rfl) (.slice a2 c.fields.length k2)).setCell (p := ⟨w.heap.size, 4, none⟩) (fun _ => rfl) (.slice a3 n k3)
 obtain ⟨W4, hW4⟩ : ∃ W4, ((w3.setCell ⟨w.heap.size, 0, none⟩ (.slice a1 c.pool.length k1)).setCell ⟨w.heap.size, 3, none⟩ (.slice a2 c.fields.length k2)).setCell ⟨w.heap.size, 4, none⟩ (.slice a3 n k3) = W4 := ⟨_, rfl⟩
 rw [hW4] at hx4 ho4 ⊢
 clear f0 f3 f4 y0 y1 y2 y3 y4 q0 q1 q2 q3 q4 hSd hSd1 hx0
 have hrow : ∀ gb, a3 = some ⟨gb, 0, none⟩ → RowMs w3 gb n c.methods f := fun gb e => by subst e; exact rowMs_of HM3.out
 have hsome : 0 < n → ∃ gb, a3 = some ⟨gb, 0, none⟩ ∧ w2.heap.size ≤ gb ∧ gb < w3.heap.size := fun h0 => by
  rcases HM3.out.2 with ⟨e, e0⟩ | ⟨gb, cap, cur, e, -⟩
  ·omega
  ·injection e with e1 _ _
   subst e1
   exact ⟨gb, rfl, HN3.out gb rfl⟩
 have hw24 : W0.heap.size ≤ w1.heap.size ∧ w1.heap.size ≤ w2.heap.size ∧ w2.heap.size ≤ w3.heap.size ∧ w3.heap.size ≤ W4.heap.size := ⟨HO1.out.size, HI2.out.size, HI3.out.size, ho4.size⟩
 have hrow4 : ∀ gb, a3 = some ⟨gb, 0, none⟩ → RowMs W4 gb n c.methods f := fun gb e => (hrow gb e).only ho4 (fun e2 => by
  subst e
  have := HN3.out gb rfl
  have := HS0.out
  omega)
 have hr4 := ho4.heap (HO3.out.heap HR0.out (fun h => h)) (by omega)
 have how4 : Only (fun _ => False) w W4 := Only.trans (HO0.out.trans HO3.out (fun _ h _ => h)) ho4 (fun i hi hl => by omega)
 have hp4 : Pool W4 (.slice a1 c.pool.length k1) c.pool := ((HP1.out.only (HI2.out.trans HI3.out (fun _ h _ => h)) (fun _ _ h => h)).only ho4 (fun k hk e => by
  have := (HN1.out k hk).1
  have h2 : W0.heap.size ≤ W0.drew.heap.size := (Only.refl (fun _ => False) W0).drew.size
  have := HS0.out
  omega))
 have hf4 : FieldsG (fun k => k < w1.heap.size ∨ w2.heap.size ≤ k) W4 (.slice a2 c.fields.length k2) c.fields := ((HF2.out.mono (G' := fun k => k < w1.heap.size ∨ w2.heap.size ≤ k) (fun k hk h => by omega)).only HI3.out (fun _ h => h.elim)).only ho4 (fun k hk => .inl (by have := HS0.out; omega))
 have HX4 := hid hx4
 have HR4 := hid hr4
 have HW4 := hid how4
 have HP4 := hid hp4
 have HF4 := hid hf4
 have HROW4 := hid hrow4
 have HSOME := hid hsome
 have HSZ := hid hw24
 obtain ⟨y0, y1, y2, y3, y4⟩ := cells5T hx4
 clear hrow hsome hw24 hrow4 hr4 how4 hp4 hf4 hx4 ho4 hW4 HX3 HM3 HF2 HP1 HO3 HO2 CP CF CM
 go_wp2
 clear y0 y1 y2 y3 y4
 go_loopw [20] (fun iv wr => ∃ (j : Nat) (g : Nat → Value × Value × Value), iv = .int .i64 j ∧ j ≤ n ∧ Hid (∀ gb, a3 = some ⟨gb, 0, none⟩ → RowMs wr gb n c.methods g) ∧ Hid (InsJ (fun k => k < W4.heap.size) W4 wr c.methods f g j) ∧ Hid (Only (fun k => (Value.slice a3 n k3).ownBlock = some k) W4 wr)) (fun iv _ => n - (intOf iv).toNat)
 case atStart => exact ⟨0, f, rfl, Nat.zero_le _, HROW4, hid ⟨fun i hi => by omega, fun _ _ => rfl⟩, hid (Only.refl _ _)⟩
 case round =>
  obtain ⟨j, g, rfl, hj, HROW, HIJ, HON⟩ := hrel
  have hxr : wr.heap[w.heap.size]? = some (objCls c (.slice a1 c.pool.length k1) (.slice a2 c.fields.length k2) (.slice a3 n k3)) := HON.out.heap HX4.out (fun e => by have := HN3.out _ e; have := HSZ.out; have := HS0.out; omega)
  have hrr : wr.heap[w.heap.size + 1]? = some zeroCls := HON.out.heap HR4.out (fun e => by have := HN3.out _ e; have := HSZ.out; have := HS0.out; omega)
  have hwr : Only (fun _ => False) w wr := Only.trans HW4.out HON.out (fun i e hl => by have := HN3.out _ e; have := HSZ.out; have := HS0.out; omega)
  obtain ⟨y0, y1, y2, y3, y4⟩ := cells5T hxr
  by_cases hlt : j < n
  ·have hjz : (j : Int) < (n : Int) := by omega
   have hj0 : (0 : Int) ≤ (j : Int) := by omega
   obtain ⟨gb, rfl, hg1, hg2⟩ := HSOME.out (by omega)
   have hrm := HROW.out gb rfl
   have hgf := HIJ.out.2 j (Nat.le_refl _)
   have hinsj := HINS.out j (by have := HN.out; omega)
   have hfw := HFEW.out.each _ (getD_mem (by have := HN.out; omega : j < c.methods.length))
   obtain ⟨m, hm⟩ : ∃ m, m = c.methods.getD j default := ⟨_, rfl⟩
   rw [← hm] at hinsj hfw
   have r0 := (hrm.at hlt (d := 0) (by decide)).1
   have r1 := (hrm.at hlt (d := 1) (by decide)).1
   have r2 := (hrm.at hlt (d := 2) (by decide)).1
   have r3 := (hrm.at hlt (d := 3) (by decide)).1
   have r4 := (hrm.at hlt (d := 4) (by decide)).1
   have r5 := (hrm.at hlt (d := 5) (by decide)).1
   have r6 := (hrm.at hlt (d := 6) (by decide)).1
   have r7 := (hrm.at hlt (d := 7) (by decide)).1
   rw [← hm, hgf] at r0 r1 r2 r3 r4 r5 r6 r7
   simp only [cellsMeth, Nat.add_zero, List.getElem?_cons_zero, List.getElem?_cons_succ] at r0 r1 r2 r3 r4 r5 r6 r7
   generalize (f j).1 = fa at *
   generalize (f j).2.1 = fb at *
   generalize (f j).2.2 = fc at *
   obtain ⟨ua, ka, rfl, -⟩ := id hinsj.1
   obtain ⟨ub, kb, rfl, -⟩ := id hinsj.2.1.1
   obtain ⟨uc, kc, rfl, -⟩ := id hinsj.2.2
   have hal := (Only.refl (fun _ => False) wr).alloc (objMth m (.slice ua m.code.length ka) (.slice ub m.traps.length kb) (.slice uc m.maps.length kc))
   have hbt := heap_alloc_new wr (objMth m (.slice ua m.code.length ka) (.slice ub m.traps.length kb) (.slice uc m.maps.length kc))
   have hxa := hal.heap hxr (fun h => h)
   have CJ := hid (fun W (hW : Only (fun _ => False) w W) => pCloneMethod m (.slice ua m.code.length ka) (.slice ub m.traps.length kb) (.slice uc m.maps.length kc) W (hinsj.only hW) hfw.1 hfw.2.1 hfw.2.2)
   obtain ⟨b0, b1, b2, b3, b4, b5, b6, b7⟩ := cells8M hbt
   obtain ⟨x0, x1, x2, x3, x4⟩ := cells5T hxa
   have HAL := hid hal
   have HWA := hid (hwr.trans hal (fun _ h _ => h))
   have HM := hid hm
   have HRM := hid hrm
   clear hinsj hfw hgf hwr hrr hxr hbt hxa hal hrm hm y0 y1 y2 y3
   go_wp2
   refine wp_region_held_drew (S := fun wc => wc.cell? ⟨w.heap.size, 4, none⟩ = some (.slice (some ⟨gb, 0, none⟩) n k3) ∧ wc.cell? ⟨wr.heap.size, 0, none⟩ = some (.int .i64 m.flags) ∧ wc.cell? ⟨wr.heap.size, 1, none⟩ = some (.int .i64 m.name) ∧ wc.cell? ⟨wr.heap.size, 2, none⟩ = some (.int .i64 m.desc) ∧ wc.cell? ⟨wr.heap.size, 3, none⟩ = some (.int .i64 m.stack) ∧ wc.cell? ⟨wr.heap.size, 4, none⟩ = some (.int .i64 m.locals) ∧ wc.cell? ⟨wr.heap.size, 5, none⟩ = some (.slice ua m.code.length ka) ∧ wc.cell? ⟨wr.heap.size, 6, none⟩ = some (.slice ub m.traps.length kb) ∧ wc.cell? ⟨wr.heap.size, 7, none⟩ = some (.slice uc m.maps.length kc)) (by kernel_rfl) ⟨x4, b0, b1, b2, b3, b4, b5, b6, b7⟩ (fun hHeld => ?_)
   refine tk2 0 (h := ?_)
   refine tk2 1 (h := ?_)
   refine tk2 2 (h := ?_)
   refine tk2 3 (h := ?_)
   refine tkR 4 (h := fun K hK => ?_)
   go_simp
   (refine (CJ.out _ HWA.out.drew).mono ?_; rintro e9 w9 ⟨va, vb, vd, rfl, hin, ho⟩; obtain ⟨na, la, rfl, -⟩ := id hin.1.1; obtain ⟨nb, lb, rfl, -⟩ := id hin.2.1.1; obtain ⟨nc, lc, rfl, -⟩ := id hin.2.2.1; have HC := hid ((Only.refl (fun _ => False) _).drew.trans ho (fun _ h _ => h)); have HO9 := hid (HAL.out.trans HC.out (fun _ h _ => h)); have hrm9 := HRM.out.only HO9.out (fun h => h); have hdr : (wr.alloc (objMth m (.slice ua m.code.length ka) (.slice ub m.traps.length kb) (.slice uc m.maps.length kc))).drew.heap.size = wr.heap.size + 1 := (by simp [World.drew]); have hws := HON.out.size; have hin9 := InsideG.mono (G' := fun k => k < W4.heap.size) (fun k _ hk => Nat.lt_of_lt_of_le (show k < W4.heap.size from hk) (by rw [hdr]; omega)) hin; obtain ⟨t0, m0⟩ := hrm9.at hlt (d := 0) (by decide); obtain ⟨t1, m1⟩ := hrm9.at hlt (d := 1) (by decide); obtain ⟨t2, m2⟩ := hrm9.at hlt (d := 2) (by decide); obtain ⟨t3, m3⟩ := hrm9.at hlt (d := 3) (by decide); obtain ⟨t4, m4⟩ := hrm9.at hlt (d := 4) (by decide); obtain ⟨t5, m5⟩ := hrm9.at hlt (d := 5) (by decide); obtain ⟨t6, m6⟩ := hrm9.at hlt (d := 6) (by decide); obtain ⟨t7, m7⟩ := hrm9.at hlt (d := 7) (by decide); simp only [cellsMeth, Nat.add_zero, List.getElem?_cons_zero, List.getElem?_cons_succ] at t0 t1 t2 t3 t4 t5 t6 t7 m0; have hst9 := hrm9.step hlt (.slice na m.code.length la) (.slice nb m.traps.length lb) (.slice nc m.maps.length lc) HM.out; have HST9 := hid hst9; have HIN9 := hid hin9; clear hst9 hin9 hrm9 hin ho)
   go_wp2_with fail
   refine hK.out _ _ ?_ (fun hHeld2 => ?_)
   ·exact ⟨HC.out.cell x4 (fun h => h), HC.out.cell b0 (fun h => h), HC.out.cell b1 (fun h => h), HC.out.cell b2 (fun h => h), HC.out.cell b3 (fun h => h), HC.out.cell b4 (fun h => h), HC.out.cell b5 (fun h => h), HC.out.cell b6 (fun h => h), HC.out.cell b7 (fun h => h)⟩
   clear hK K
   try simp only [Act.put, sIB, sC0, sCS]
   clear hHeld
   have hHeld := hHeld2
   clear hHeld2
   refine tk2 5 (h := ?_)
   refine tkR 6 (h := fun K hK => ?_)
   go_simp
   refine hK.out _ _ ?_ (fun hHeld2 => ?_)
   ·exact ⟨((HC.out.mono (T := fun k => k = gb) (fun _ h _ => h.elim)).trans (onlyRow8 (S := fun k => k = gb) (Only.refl _ _) (fun _ => rfl)) (fun _ h _ => h)).cell x4 (show ¬ (w.heap.size = gb) by have := HSZ.out; have := HS0.out; omega), ((HC.out.mono (T := fun k => k = gb) (fun _ h _ => h.elim)).trans (onlyRow8 (S := fun k => k = gb) (Only.refl _ _) (fun _ => rfl)) (fun _ h _ => h)).cell b0 (show ¬ (wr.heap.size = gb) by have := HON.out.size; have := HSZ.out; omega), ((HC.out.mono (T := fun k => k = gb) (fun _ h _ => h.elim)).trans (onlyRow8 (S := fun k => k = gb) (Only.refl _ _) (fun _ => rfl)) (fun _ h _ => h)).cell b1 (show ¬ (wr.heap.size = gb) by have := HON.out.size; have := HSZ.out; omega), ((HC.out.mono (T := fun k => k = gb) (fun _ h _ => h.elim)).trans (onlyRow8 (S := fun k => k = gb) (Only.refl _ _) (fun _ => rfl)) (fun _ h _ => h)).cell b2 (show ¬ (wr.heap.size = gb) by have := HON.out.size; have := HSZ.out; omega), ((HC.out.mono (T := fun k => k = gb) (fun _ h _ => h.elim)).trans (onlyRow8 (S := fun k => k = gb) (Only.refl _ _) (fun _ => rfl)) (fun _ h _ => h)).cell b3 (show ¬ (wr.heap.size = gb) by have := HON.out.size; have := HSZ.out; omega), ((HC.out.mono (T := fun k => k = gb) (fun _ h _ => h.elim)).trans (onlyRow8 (S := fun k => k = gb) (Only.refl _ _) (fun _ => rfl)) (fun _ h _ => h)).cell b4 (show ¬ (wr.heap.size = gb) by have := HON.out.size; have := HSZ.out; omega), ((HC.out.mono (T := fun k => k = gb) (fun _ h _ => h.elim)).trans (onlyRow8 (S := fun k => k = gb) (Only.refl _ _) (fun _ => rfl)) (fun _ h _ => h)).cell b5 (show ¬ (wr.heap.size = gb) by have := HON.out.size; have := HSZ.out; omega), ((HC.out.mono (T := fun k => k = gb) (fun _ h _ => h.elim)).trans (onlyRow8 (S := fun k => k = gb) (Only.refl _ _) (fun _ => rfl)) (fun _ h _ => h)).cell b6 (show ¬ (wr.heap.size = gb) by have := HON.out.size; have := HSZ.out; omega), ((HC.out.mono (T := fun k => k = gb) (fun _ h _ => h.elim)).trans (onlyRow8 (S := fun k => k = gb) (Only.refl _ _) (fun _ => rfl)) (fun _ h _ => h)).cell b7 (show ¬ (wr.heap.size = gb) by have := HON.out.size; have := HSZ.out; omega)⟩
   clear hK K
   try simp only [Act.put, sIB, sC0, sCS]
   clear hHeld
   have hHeld := hHeld2
   clear hHeld2
   refine wpAnyH_done (by kernel_rfl) ?_ _
   have hij' := InsJ.only (S := fun k => k = gb) (InsJ.step (a := .slice na m.code.length la) (b := .slice nb m.traps.length lb) (c := .slice nc m.maps.length lc) (HIJ.out.only HO9.out (fun _ h => h.elim)) (by rw [← HM.out]; exact HIN9.out)) (onlyRow8 (k := j * 8) (a0 := .int .i64 m.flags) (a1 := .int .i64 m.name) (a2 := .int .i64 m.desc) (a3 := .int .i64 m.stack) (a4 := .int .i64 m.locals) (a5 := .slice na m.code.length la) (a6 := .slice nb m.traps.length lb) (a7 := .slice nc m.maps.length lc) (Only.refl _ _) (fun _ => rfl)) (fun k hk => by have := HSZ.out; omega)
   have hon' := Only.trans (HON.out.trans HO9.out (fun _ h _ => h.elim)) (onlyRow8 (S := fun k => k = gb) (k := j * 8) (a0 := .int .i64 m.flags) (a1 := .int .i64 m.name) (a2 := .int .i64 m.desc) (a3 := .int .i64 m.stack) (a4 := .int .i64 m.locals) (a5 := .slice na m.code.length la) (a6 := .slice nb m.traps.length lb) (a7 := .slice nc m.maps.length lc) (Only.refl _ _) (fun _ => rfl)) (fun i hi _ => by subst hi; rfl)
   have HIJ' := hid hij'
   have HON' := hid hon'
   clear hij' hon' hHeld t0 t1 t2 t3 t4 t5 t6 t7 m0 m1 m2 m3 m4 m5 m6 m7
   go_wp2
   go_roundw
   case rel => exact ⟨j + 1, _, by go_num, by omega, hid (fun gb' e => by cases e; exact HST9.out), HIJ', HON'⟩
   case measure => simp [intOf]; omega
  ·have hje : n = j := by omega
   subst hje
   obtain ⟨z0, z1, z2, z3, z4⟩ := cells5T hrr
   obtain ⟨f0, f1, f2, f3, f4⟩ := marks5T hrr
   have HRR := hid hrr
   have HWR := hid hwr
   clear hrr hxr hwr
   go_wp2
   refine bodyPost_ret (class_alone (b := w.heap.size + 1) Tryz.results81 (store5T HRR.out) rfl) rfl ⟨_, _, _, rfl, ?_, ?_⟩
   ·have HSx := HS0.out
    have hsz := HSZ.out
    have hor := HON.out.size
    have hg : Sl (.slice a3 n k3) n (fun b o i => MethodAt wr b o i (c.methods.getD i default) (g i).1 (g i).2.1 (g i).2.2 ∧ ¬ b < W0.heap.size) := ⟨a3, k3, rfl, s1, s2, s3, fun x hx h0 => by
     obtain ⟨gb, e, g1, g2⟩ := HSOME.out h0
     rw [e] at hx
     cases hx
     refine ⟨gb, 0, rfl, fun i hi => ⟨?_, by omega⟩⟩
     obtain ⟨cur, c1, c2⟩ := HROW.out gb e
     exact MethodAt.of (f := fun i => cellsMeth (c.methods.getD i default) (g i)) (fun d hd => by rw [Nat.zero_add, cell_blk c1]; exact c2 i hi d hd) rfl⟩
    have hp : Pool wr (.slice a1 c.pool.length k1) c.pool := HP4.out.only HON.out (fun k hk e => by have := (HN1.out k hk).2; have := (HN3.out k e).1; omega)
    have hf : FieldsG (fun k => k < W0.heap.size) wr (.slice a2 c.fields.length k2) c.fields := (HF4.out.only HON.out (fun k e => .inr (HN3.out k e).1)).mono (fun k _ hk => .inl (by omega))
    have hm : MethodsG (fun k => k < W0.heap.size) wr (.slice a3 n k3) c.methods := ⟨g, by rw [HN.out]; exact hg, fun i hi => (HIJ.out.1 i (by rw [← HN.out]; exact hi)).mono (fun k _ hk => by omega), HMR.out⟩
    have hcl : ClassG (fun k => k < W0.heap.size) wr (.slice a1 c.pool.length k1) (.slice a2 c.fields.length k2) (.slice a3 n k3) c := ⟨hp, fun k hk => ⟨by have := (HN1.out k hk).2; omega, by have := (HN1.out k hk).1; have h2 : W0.heap.size ≤ W0.drew.heap.size := (Only.refl (fun _ => False) W0).drew.size; omega⟩, hf, hm, HRI.out.1, HRI.out.2⟩
    exact ClassG.mono (G := fun k => k < W0.heap.size) (fun k _ hk => by omega) (ClassG.only (S := fun k => k < W0.heap.size) (only5T (Only.refl _ wr) (fun _ => by omega)) (fun _ h => h) hcl)
   ·exact only5T HWR.out (fun hl => absurd hl (by omega))
theorem assert_l (a : Option Addr) (xT : TypeId) (w : World) : (Instr.typeAssert (.iface 128 (.pointer a)) xT 128 true).run Tryz.prog w = .ok (.tuple #[.pointer a, .bool true]) w := by kernel_rfl
theorem assert_b (v : Value) (xT : TypeId) (w : World) : (Instr.typeAssert (.iface 126 v) xT 128 true).run Tryz.prog w = .ok (.tuple #[.pointer none, .bool false]) w := by kernel_rfl
theorem class_result3 {fn : Func} {p q : Tmp} (hr : fn.results = #[.cell p 84, .tmp q]) {w : World} {b : Nat} {a0 a1 a2 a3 a4 x : Value} {tmps : Array Value} (h : w.heap[b]? = some (.cells #[a0, a1, a2, a3, a4] 84 (0, 0))) (ht : tmps.getD p undef = .pointer (some ⟨b, 0, none⟩)) (hx : tmps.getD q undef = x) :
  (results fn tmps).run Tryz.prog w = .ok (.tuple #[.agg #[a0, a1, a2, a3, a4], x]) w := by
 rw [results_cell_tmp hr, ht, hx, show (asAddr (.pointer (some ⟨b, 0, none⟩))).run Tryz.prog w = .ok ⟨b, 0, none⟩ w from rfl]
 simp only [Result.andThen]
 rw [run_loadVar_row w b 84 84 _ (0, 0) _ h Tryz.underlying84 rfl info5_classP]
section
variable {G : Nat → Prop} {fv : Nat → Value} {w : World} {pb : Nat} {ks : List KindV} {cl : Nat → ClassV} {sl : Nat → Nat → Int} (h : ProgG G fv w pb ks cl sl) (hn : 13 ≤ ks.length)
include h hn
set_option maxRecDepth 100000 in
theorem pListedNo (n : Int) (hno : n < 13 ∨ (ks.length : Int) ≤ n) : Calls Tryz.prog 68 #[.pointer (some ⟨pb, 0, none⟩), .int .i64 n] w fun e w' => e = .returned (.tuple #[.pointer none, .bool false]) ∧ w = w' := by
 have c1 := pHas h (by omega) n
 by_cases hr : 0 ≤ n ∧ n < (ks.length : Int)
 ·obtain ⟨j, rfl⟩ := Int.eq_ofNat_of_zero_le hr.1
  have hj : j < 13 := by omega
  rw [show (decide (0 ≤ (j : Int)) && decide ((j : Int) < (ks.length : Int))) = true by simp; omega] at c1
  have C1 := hid c1
  obtain ⟨b, o, cap, mb, q0, -, e1, e2, -, hk⟩ := h.open (by omega)
  obtain ⟨iv, qi, hkn⟩ := hk j (by omega)
  have hjz : (j : Int) < (ks.length : Int) := by omega
  have hj0 : (0 : Int) ≤ (j : Int) := by omega
  rcases hkn with ⟨-, -, -, vom, rfl, -⟩ | ⟨h13, -⟩
  ·have ha := assert_b (.agg #[.string (ks.getD j default).name, .string (ks.getD j default).super, vom])
   generalize (ks.getD j default).name = nm at *
   generalize (ks.getD j default).super = sp at *
   clear h hk c1 hr hno
   go_enter Tryz.func68, Tryz.ntmps68
   go_wp2_with (fail)
   refine C1.out.mono ?_
   rintro e w1 ⟨rfl, hww⟩
   subst hww
   go_wp2
   go_ret2
   exact ⟨rfl, rfl⟩
  ·omega
 ·rw [show (decide (0 ≤ n) && decide (n < (ks.length : Int))) = false by simp; omega] at c1
  have C1 := hid c1
  clear h c1 hr hno
  go_enter Tryz.func68, Tryz.ntmps68
  go_wp2_with (fail)
  refine C1.out.mono ?_
  rintro e w1 ⟨rfl, hww⟩
  subst hww
  go_wp2
  go_ret2
  exact ⟨rfl, rfl⟩
def ListedAt (G : Nat → Prop) (w : World) (i : Nat) (k : KindV) (c : ClassV) (vof : Value) (lb : Nat) : Prop :=
 ¬ G lb ∧ k = loadZ c (i - 13) ∧ ∃ vp vf vm vom, w.heap[lb]? = some (listedO i c vp vf vm vof vom) ∧ ClassG G w vp vf vm c ∧ MemG G w vom k.meths
set_option maxRecDepth 100000 in
theorem pListedAt (j : Nat) (h13 : 13 ≤ j) (hj : j < ks.length) : ∃ lb, ListedAt G w j (ks.getD j default) (cl j) (fv j) lb ∧
  Calls Tryz.prog 68 #[.pointer (some ⟨pb, 0, none⟩), .int .i64 (j : Int)] w fun e w' => e = .returned (.tuple #[.pointer (some ⟨lb, 0, none⟩), .bool true]) ∧ w = w' := by
 have c1 := pHas h (by omega) (j : Int)
 rw [show (decide (0 ≤ (j : Int)) && decide ((j : Int) < (ks.length : Int))) = true by simp; omega] at c1
 have C1 := hid c1
 obtain ⟨b, o, cap, mb, q0, -, e1, e2, -, hk⟩ := h.open (by omega)
 obtain ⟨iv, qi, hkn⟩ := hk j hj
 have hjz : (j : Int) < (ks.length : Int) := by omega
 have hj0 : (0 : Int) ≤ (j : Int) := by omega
 rcases hkn with ⟨h1, -⟩ | ⟨-, hkl, lb, vp, vf, vm, vom, rfl, hG, hob, hcl, hmg⟩
 ·omega
 ·refine ⟨lb, ⟨hG, hkl, vp, vf, vm, vom, hob, hcl, hmg⟩, ?_⟩
  have ha := assert_l (some ⟨lb, 0, none⟩)
  clear h hk c1 hkl hG hob hcl hmg
  go_enter Tryz.func68, Tryz.ntmps68
  go_wp2_with (fail)
  refine C1.out.mono ?_
  rintro e w1 ⟨rfl, hww⟩
  subst hww
  go_wp2
  go_ret2
  exact ⟨rfl, rfl⟩
set_option maxRecDepth 100000 in
theorem pClassNo (n : Int) (hno : n < 13 ∨ (ks.length : Int) ≤ n) : Calls Tryz.prog 42 #[.pointer (some ⟨pb, 0, none⟩), .int .i64 n] w fun e w' => e = .returned (.tuple #[.agg #[.slice none 0 0, .int .i64 0, .int .i64 0, .slice none 0 0, .slice none 0 0], .bool false]) ∧ Only (fun _ => False) w w' := by
 have ho0 := (Only.refl (fun _ => False) w).alloc zeroCls
 have hr0 := heap_alloc_new w zeroCls
 obtain ⟨W0, hW0⟩ : ∃ W0, w.alloc zeroCls = W0 := ⟨_, rfl⟩
 rw [hW0] at ho0 hr0
 have C1 := hid (pListedNo (h.only ho0) hn n hno)
 obtain ⟨u0, u1, u2, u3, u4⟩ := cells5T hr0
 obtain ⟨v0, v1, v2, v3, v4⟩ := marks5T hr0
 have HO := hid ho0
 have HR := hid hr0
 have HW0 := hid hW0
 clear h ho0 hr0 hW0 hno hn
 go_enter Tryz.func42, Tryz.ntmps42
 go_wp2_with (fail)
 rw [HW0.out]
 refine C1.out.mono ?_
 rintro e w1 ⟨rfl, hww⟩
 subst hww
 go_wp2
 exact bodyPost_ret (class_result3 (b := w.heap.size) Tryz.results42 (store5T HR.out) rfl rfl) rfl ⟨rfl, only5T HO.out (fun hl => absurd hl (Nat.lt_irrefl _))⟩
set_option maxRecDepth 100000 in
theorem pClass (j : Nat) (h13 : 13 ≤ j) (hj : j < ks.length) (hfew : FewC (cl j)) : Calls Tryz.prog 42 #[.pointer (some ⟨pb, 0, none⟩), .int .i64 (j : Int)] w fun e w' => ∃ a b d, e = .returned (.tuple #[valCls (cl j) a b d, .bool true]) ∧ ClassM w' a b d (cl j) ∧ Only (fun _ => False) w w' := by
 have ho0 := (Only.refl (fun _ => False) w).alloc zeroCls
 have hr0 := heap_alloc_new w zeroCls
 obtain ⟨W0, hW0⟩ : ∃ W0, w.alloc zeroCls = W0 := ⟨_, rfl⟩
 rw [hW0] at ho0 hr0
 obtain ⟨lb, ⟨-, -, vp, vf, vm, vom, hob, hcl, -⟩, hc⟩ := pListedAt (h.only ho0) hn j h13 hj
 have C1 := hid hc
 generalize cl j = c at *
 obtain ⟨q0, q1, q2, q3, q4, q5, q6, q7⟩ := cells8M hob
 have CC := hid (pCloneClass c vp vf vm W0 hcl.plain hfew)
 obtain ⟨ap, kp, rfl, -⟩ := id hcl.pool
 obtain ⟨af, kf, rfl, -⟩ := id hcl.fields.1
 obtain ⟨gm, hgm, -, -⟩ := id hcl.meths
 obtain ⟨am, km, rfl, -⟩ := id hgm
 have HO := hid ho0
 have HR := hid hr0
 have HW0 := hid hW0
 clear h ho0 hr0 hW0 hn h13 hj hfew hc hob hcl hgm
 go_enter Tryz.func42, Tryz.ntmps42
 go_wp2_with (fail)
 rw [HW0.out]
 refine C1.out.mono ?_
 rintro e w1 ⟨rfl, hww⟩
 subst hww
 go_wp2_with (fail)
 refine CC.out.mono ?_
 rintro e w2 ⟨a, b, d, rfl, hcl2, ho2⟩
 obtain ⟨aA, kA, rfl, -⟩ := id hcl2.pool
 obtain ⟨aB, kB, rfl, -⟩ := id hcl2.fields.1
 obtain ⟨gm2, hgm2, -, -⟩ := id hcl2.meths
 obtain ⟨aD, kD, rfl, -⟩ := id hgm2
 have hr2 := ho2.heap HR.out (fun h => h)
 obtain ⟨u0, u1, u2, u3, u4⟩ := cells5T hr2
 obtain ⟨v0, v1, v2, v3, v4⟩ := marks5T hr2
 have HR2 := hid hr2
 have HO2 := hid (HO.out.trans ho2 (fun _ h _ => h))
 have HCL := hid hcl2
 have hlt : w.heap.size < W0.heap.size := heap_lt HR.out
 have HLT := hid hlt
 clear hgm2 hr2 ho2 hcl2 hlt q0 q1 q2 q3 q4 q5 q6 q7
 go_wp2
 exact bodyPost_ret (class_result3 (b := w.heap.size) Tryz.results42 (store5T HR2.out) rfl rfl) rfl ⟨_, _, _, rfl, (ClassG.only (G := fun k => k < W0.heap.size) (S := fun k => k = w.heap.size) (only5T (Only.refl _ w2) (fun _ => rfl)) (fun k hk => by have h1 := HLT.out; have h2 : k = w.heap.size := hk; show k < W0.heap.size; omega) HCL.out).plain, only5T HO2.out (fun hl => absurd hl (Nat.lt_irrefl _))⟩
end
set_option maxRecDepth 100000 in
theorem lMethod {G : Nat → Prop} {w : World} {lb n : Nat} {c : ClassV} {vp vf vm vof vom : Value} (hl : w.heap[lb]? = some (listedO n c vp vf vm vof vom)) (hcl : ClassG G w vp vf vm c) (hfew : FewC c) (i : Nat) (hi : i < c.methods.length) :
  Calls Tryz.prog 228 #[.pointer (some ⟨lb, 0, none⟩), .int .i64 (i : Int)] w fun e w' => ∃ a b d, e = .returned (valMth (c.methods.getD i default) a b d) ∧ InsideG (fun k => k < w.heap.size) w' (c.methods.getD i default) a b d ∧ Only (fun _ => False) w w' := by
 have ho0 := (Only.refl (fun _ => False) w).alloc zeroMth
 have hr0 := heap_alloc_new w zeroMth
 obtain ⟨f, hsl, hins, -⟩ := hcl.meths.plain
 obtain ⟨ao, cap, rfl, p1, p2, -, -⟩ := id hsl
 obtain ⟨b9, o9, rfl, hat⟩ := Sl.at hsl hi
 have hin := hins i hi
 have hfw := hfew.each _ (getD_mem hi)
 obtain ⟨m, hm⟩ : ∃ m, m = c.methods.getD i default := ⟨_, rfl⟩
 rw [← hm] at hat hin hfw ⊢
 generalize (f i).1 = fa at *
 generalize (f i).2.1 = fb at *
 generalize (f i).2.2 = fc at *
 obtain ⟨ua, ka, rfl, -⟩ := id hin.1
 obtain ⟨ub, kb, rfl, -⟩ := id hin.2.1.1
 obtain ⟨uc, kc, rfl, -⟩ := id hin.2.2
 obtain ⟨c0, c1, c2, c3, c4, c5, c6, c7⟩ := (hat.only ho0)
 have hol := ho0.heap hl (fun h => h)
 obtain ⟨q0, q1, q2, q3, q4, q5, q6, q7⟩ := cells8M hol
 have CC := hid (pCloneMethod m _ _ _ (w.alloc zeroMth) (hin.only ho0) hfw.1 hfw.2.1 hfw.2.2)
 have hiz : (i : Int) < (c.methods.length : Int) := by omega
 have hi0 : (0 : Int) ≤ (i : Int) := by omega
 have HO := hid ho0
 have HR := hid hr0
 clear hl hcl hfew ho0 hr0 hsl hins hat hin hfw hm hol hi
 go_enter Tryz.func228, Tryz.ntmps228
 go_wp2_with (fail)
 refine CC.out.mono ?_
 rintro e w2 ⟨a, b, d, rfl, hin2, ho2⟩
 obtain ⟨aA, kA, rfl, -⟩ := id hin2.1.1
 obtain ⟨aB, kB, rfl, -⟩ := id hin2.2.1.1
 obtain ⟨aD, kD, rfl, -⟩ := id hin2.2.2.1
 have hr2 := ho2.heap HR.out (fun h => h)
 obtain ⟨u0, u1, u2, u3, u4, u5, u6, u7⟩ := cells8M hr2
 obtain ⟨v0, v1, v2, v3, v4, v5, v6, v7⟩ := marks8M hr2
 have HR2 := hid hr2
 have HO2 := hid (HO.out.trans ho2 (fun _ h _ => h))
 have HIN := hid hin2
 have HLT := hid (show w.heap.size < (w.alloc zeroMth).heap.size from heap_lt HR.out)
 clear hr2 ho2 hin2 q0 q1 q2 q3 q4 q5 q6 q7 c0 c1 c2 c3 c4 c5 c6 c7
 go_wp2
 exact bodyPost_ret (meth_alone (b := w.heap.size) Tryz.results228 (store8M HR2.out) rfl) rfl ⟨_, _, _, rfl, InsideG.mono (G := fun k => k < (w.alloc zeroMth).heap.size) (fun k _ hk => by have h1 := HLT.out; have h2 : k < w.heap.size := hk; show k < (w.alloc zeroMth).heap.size; omega) (InsideG.only (G := fun k => k < (w.alloc zeroMth).heap.size) (S := fun k => k = w.heap.size) (only8M (Only.refl _ w2) (fun _ => rfl)) (fun k hk => by have h1 := HLT.out; have h2 : k = w.heap.size := hk; show k < (w.alloc zeroMth).heap.size; omega) HIN.out), only8M HO2.out (fun hl => absurd hl (Nat.lt_irrefl _))⟩
set_option maxRecDepth 100000 in
theorem bMethod (a b : Value) (v : Value) (ms : List MethN) (s : Nat → Int) (i : Nat) (hi : i < ms.length) (w : World) (hm : MemS w v ms s) :
  Calls Tryz.prog 223 #[.agg #[a, b, v], .int .i64 (i : Int)] w fun e w' => e = .returned (flagM (ms.getD i default).flags) ∧ Only (fun _ => False) w w' := by
 obtain ⟨ao, cap, rfl, p1, p2, -, -⟩ := id hm
 obtain ⟨b9, o9, rfl, hat⟩ := Sl.at hm hi
 have ho0 := ((Only.refl (fun _ => False) w).alloc (.cells #[a, b, .slice (some ⟨b9, o9, none⟩) ms.length cap] 126)).alloc zeroMth
 have hb0 : ((w.alloc (.cells #[a, b, .slice (some ⟨b9, o9, none⟩) ms.length cap] 126)).alloc zeroMth).heap[w.heap.size]? = some (.cells #[a, b, .slice (some ⟨b9, o9, none⟩) ms.length cap] 126 (0, 0)) := ((Only.refl (fun _ => False) _).alloc _).heap (heap_alloc_new w _) (fun h => h)
 have hr0 : ((w.alloc (.cells #[a, b, .slice (some ⟨b9, o9, none⟩) ms.length cap] 126)).alloc zeroMth).heap[w.heap.size + 1]? = some zeroMth := by
  have := heap_alloc_new (w.alloc (.cells #[a, b, .slice (some ⟨b9, o9, none⟩) ms.length cap] 126)) zeroMth
  rwa [World.size_alloc] at this
 obtain ⟨W2, hW2⟩ : ∃ W2, (w.alloc (.cells #[a, b, .slice (some ⟨b9, o9, none⟩) ms.length cap] 126)).alloc zeroMth = W2 := ⟨_, rfl⟩
 rw [hW2] at ho0 hb0 hr0
 have HW2 := hid hW2
 clear hW2
 have c2 := ho0.cell hat.c2 (fun h => h)
 have q2 : W2.cell? ⟨w.heap.size, 2, none⟩ = some (.slice (some ⟨b9, o9, none⟩) ms.length cap) := cell_blk hb0 2
 have hiz : (i : Int) < (ms.length : Int) := by omega
 have hi0 : (0 : Int) ≤ (i : Int) := by omega
 obtain ⟨u0, u1, u2, u3, u4, u5, u6, u7⟩ := cells8M hr0
 obtain ⟨v0, v1, v2, v3, v4, v5, v6, v7⟩ := marks8M hr0
 obtain ⟨fl, hfl⟩ : ∃ fl, (ms.getD i default).flags = fl := ⟨_, rfl⟩
 rw [hfl] at c2
 have HFL := hid hfl
 have HO := hid ho0
 have HR := hid hr0
 clear ho0 hb0 hr0 hat hm hfl hi
 go_enter Tryz.func223, Tryz.ntmps223
 refine wp_seq_k (fun K hK => ?_)
 have HK := hid hK
 clear hK
 go_wp2
 refine HK.out _ _ ?_
 rw [HW2.out]
 go_wp2
 rw [HFL.out]
 exact bodyPost_ret (meth_alone (b := w.heap.size + 1) Tryz.results223 (store8M HR.out) rfl) rfl ⟨rfl, only8M HO.out (fun hl => absurd hl (by omega))⟩
end Go.Proofs.YtinbelghhfodiaaGreatDoor
