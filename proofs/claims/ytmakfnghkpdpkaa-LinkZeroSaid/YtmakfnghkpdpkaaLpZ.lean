/- What a program that nobody made answers: none, or nothing, of all. Condition: its classes are none. -/
import Derived.Test.YtmakfnghkpdpkaaLpL
import Derived.Test.YtmakfnghkpdpkaaGLnkG
import Derived.Test.YtmakfnghkpdpkaaKndM
namespace Go.Proofs.Ytmakfnghkpdpkaa
open Go.RowKit Go.Maps
set_option linter.unusedVariables false
set_option linter.unusedSimpArgs false
attribute [local go_sem] Oper.semAt_some

/-- A program that nobody made, from here on. -/
def Unmade (po : Option Addr) (w : World) : Prop := ∀ W, Only (fun _ => False) w W → Calls Try.prog 27 #[.pointer po] W fun e w' => e = .returned (.bool false) ∧ W = w'
theorem Unmade.only {po : Option Addr} {w w' : World} (h : Unmade po w) (ho : Only (fun _ => False) w w') : Unmade po w' := fun W hW => h W (ho.trans hW (fun _ h _ => h))
theorem unmade_nil (w : World) : Unmade none w := by
  intro W _
  go_enter Try.func27, Try.ntmps27
  go_wp2
  go_ret
  exact ⟨rfl, rfl⟩
theorem unmade_at {w : World} {b : Nat} {t : TypeId} (h : w.heap[b]? = some (.cells #[.slice none 0 0, .map none] t (0, 0))) : Unmade (some ⟨b, 0, none⟩) w := by
  intro W hW
  have c0 : W.cell? ⟨b, 0, none⟩ = some (.slice none 0 0) := hW.cell (cell_blk h 0) (fun h => h)
  clear h hW
  go_enter Try.func27, Try.ntmps27
  go_wp2
  go_ret
  exact ⟨rfl, rfl⟩
section
variable {po : Option Addr} {w : World} (h : Unmade po w)
include h
theorem zLen : Calls Try.prog 9 #[.pointer po] w fun e w' => e = .returned (.int .i64 0) ∧ w = w' := by
  have C1 := Lib.hid (h w (Only.refl _ _))
  clear h
  go_enter Try.func9, Try.ntmps9
  go_wp2_with (fail)
  refine C1.out.mono ?_
  rintro e w1 ⟨rfl, rfl⟩
  go_wp2
  go_ret
  exact ⟨rfl, rfl⟩
theorem zHas (n : Int) : Calls Try.prog 26 #[.pointer po, .int .i64 n] w fun e w' => e = .returned (.bool false) ∧ w = w' := by
  have C1 := Lib.hid (zLen h)
  clear h
  by_cases h0 : 0 ≤ n
  · go_enter Try.func26, Try.ntmps26
    go_wp2_with (fail)
    refine C1.out.mono ?_
    rintro e w1 ⟨rfl, rfl⟩
    go_wp2
    go_ret
    exact ⟨by simp; omega, rfl⟩
  · go_enter Try.func26, Try.ntmps26
    go_wp2
    go_ret
    exact ⟨rfl, rfl⟩
theorem zName (n : Int) : Calls Try.prog 10 #[.pointer po, .int .i64 n] w fun e w' => e = .returned (.string ⟨#[]⟩) ∧ w = w' := by
  have C1 := Lib.hid (zHas h n)
  clear h
  go_enter Try.func10, Try.ntmps10
  go_wp2_with (fail)
  refine C1.out.mono ?_
  rintro e w1 ⟨rfl, rfl⟩
  go_wp2
  go_ret
  exact ⟨rfl, rfl⟩
theorem zSuper (n : Int) : Calls Try.prog 11 #[.pointer po, .int .i64 n] w fun e w' => e = .returned (.int .i64 (-1)) ∧ w = w' := by
  have C1 := Lib.hid (zHas h n)
  clear h
  go_enter Try.func11, Try.ntmps11
  go_wp2_with (fail)
  refine C1.out.mono ?_
  rintro e w1 ⟨rfl, rfl⟩
  go_wp2
  go_ret
  exact ⟨rfl, rfl⟩
theorem zFind (s : ByteArray) : Calls Try.prog 12 #[.pointer po, .string s] w fun e w' => e = .returned (.int .i64 (-1)) ∧ w = w' := by
  have C1 := Lib.hid (h w (Only.refl _ _))
  clear h
  go_enter Try.func12, Try.ntmps12
  go_wp2_with (fail)
  refine C1.out.mono ?_
  rintro e w1 ⟨rfl, rfl⟩
  go_wp2
  go_ret
  exact ⟨rfl, rfl⟩
theorem zSlots (n : Int) : Calls Try.prog 15 #[.pointer po, .int .i64 n] w fun e w' => e = .returned (.slice none 0 0) ∧ w = w' := by
  have C1 := Lib.hid (zHas h n)
  clear h
  go_enter Try.func15, Try.ntmps15
  go_wp2_with (fail)
  refine C1.out.mono ?_
  rintro e w1 ⟨rfl, rfl⟩
  go_wp2
  go_ret
  exact ⟨rfl, rfl⟩
theorem zListedAt (n : Int) : Calls Try.prog 24 #[.pointer po, .int .i64 n] w fun e w' => e = .returned (.tuple #[.pointer none, .bool false]) ∧ w = w' := by
  have C1 := Lib.hid (zHas h n)
  clear h
  go_enter Try.func24, Try.ntmps24
  go_wp2_with (fail)
  refine C1.out.mono ?_
  rintro e w1 ⟨rfl, rfl⟩
  go_wp2
  go_ret2
  exact ⟨rfl, rfl⟩
theorem zStatics : Calls Try.prog 16 #[.pointer po] w fun e w' => e = .returned (.slice none 0 0) ∧ w = w' := by
  have C1 := Lib.hid (zLen h)
  clear h
  go_enter Try.func16, Try.ntmps16
  go_wp2_with (fail)
  refine C1.out.mono ?_
  rintro e w1 ⟨rfl, hww⟩
  subst hww
  go_wp2
  go_loopw [7, 3] (fun iv sv wr => iv = .int .i64 0 ∧ sv = .slice none 0 0 ∧ wr = w) (fun _ _ _ => 0)
  case atStart => exact ⟨rfl, rfl, rfl⟩
  case round =>
    obtain ⟨rfl, rfl, hwr⟩ := hrel
    subst hwr
    go_wp2
    go_ret
    exact ⟨rfl, rfl⟩
theorem zTree : Calls Try.prog 13 #[.pointer po] w fun e w' => ∃ b, e = .returned (.slice (some ⟨b, 0, none⟩) 0 0) ∧ Only (fun _ => False) w w' := by
  have C1 := Lib.hid (zLen h)
  have hmk := run_mkP 0 (by decide)
  have ho0 := (Only.refl (fun _ => False) w).alloc (.cells (madeCells #[.string ⟨#[]⟩, .string ⟨#[]⟩] (0 * 2)) 80)
  have HO0 := Lib.hid ho0
  generalize madeCells #[.string ⟨#[]⟩, .string ⟨#[]⟩] (0 * 2) = mc at *
  have hmk' := hmk
  simp only [Int.ofNat_zero, Int.natCast_zero, Int.cast_ofNat_Int] at hmk'
  clear h ho0
  go_enter Try.func13, Try.ntmps13
  go_wp2_with (fail)
  refine C1.out.mono ?_
  rintro e w1 ⟨rfl, hww⟩
  subst hww
  go_wp2
  go_loopw [10] (fun iv wr => iv = .int .i64 0 ∧ Hid (Only (fun _ => False) w wr)) (fun _ _ => 0)
  case atStart => exact ⟨rfl, HO0⟩
  case round =>
    obtain ⟨rfl, HO⟩ := hrel
    go_wp2
    go_ret
    exact ⟨_, rfl, HO.out⟩
end
theorem info5_class9 : (Try.prog.info? 36).map (·.size) = some 5 := by kernel_rfl
theorem class_result2 {fn : Func} {p q : Tmp} (hr : fn.results = #[.cell p 36, .tmp q]) {w : World} {b : Nat} {a0 a1 a2 a3 a4 x : Value} {tmps : Array Value} (h : w.heap[b]? = some (.cells #[a0, a1, a2, a3, a4] 36 (0, 0))) (ht : tmps.getD p undef = .pointer (some ⟨b, 0, none⟩)) (hx : tmps.getD q undef = x) :
    (results fn tmps).run Try.prog w = .ok (.tuple #[.agg #[a0, a1, a2, a3, a4], x]) w := by
  rw [results_cell_tmp hr, ht, hx, show (asAddr (.pointer (some ⟨b, 0, none⟩))).run Try.prog w = .ok ⟨b, 0, none⟩ w from rfl]
  simp only [Result.andThen]
  rw [run_loadVar_row w b 36 36 _ (0, 0) _ h Try.underlying36 rfl info5_class9]
section
variable {po : Option Addr} {w : World} (h : Unmade po w)
include h
set_option maxHeartbeats 4000000 in
set_option maxRecDepth 100000 in
theorem zClass (n : Int) : Calls Try.prog 7 #[.pointer po, .int .i64 n] w fun e w' => e = .returned (.tuple #[.agg #[.slice none 0 0, .int .i64 0, .int .i64 0, .slice none 0 0, .slice none 0 0], .bool false]) ∧ Only (fun _ => False) w w' := by
  have ho0 := (Only.refl (fun _ => False) w).alloc (.cells #[.slice none 0 0, .int .i64 0, .int .i64 0, .slice none 0 0, .slice none 0 0] 36)
  have hr0 := heap_alloc_new w (.cells #[.slice none 0 0, .int .i64 0, .int .i64 0, .slice none 0 0, .slice none 0 0] 36)
  obtain ⟨W0, hW0⟩ : ∃ W0, w.alloc (.cells #[.slice none 0 0, .int .i64 0, .int .i64 0, .slice none 0 0, .slice none 0 0] 36) = W0 := ⟨_, rfl⟩
  rw [hW0] at ho0 hr0
  have C1 := Lib.hid (zListedAt (h.only ho0) n)
  obtain ⟨u0, u1, u2, u3, u4⟩ := cells5T hr0
  obtain ⟨v0, v1, v2, v3, v4⟩ := marks5T hr0
  have HO := Lib.hid ho0
  have HR := Lib.hid hr0
  have HW0 := Lib.hid hW0
  clear h ho0 hr0 hW0
  go_enter Try.func7, Try.ntmps7
  go_wp2_with (fail)
  rw [HW0.out]
  refine C1.out.mono ?_
  rintro e w1 ⟨rfl, hww⟩
  subst hww
  go_wp2
  exact bodyPost_ret (class_result2 (b := w.heap.size) Try.results7 (store5T HR.out) rfl rfl) rfl ⟨rfl, only5T HO.out (fun hl => absurd hl (Nat.lt_irrefl _))⟩
set_option maxHeartbeats 4000000 in
set_option maxRecDepth 100000 in
theorem zMethod (n i : Int) : Calls Try.prog 8 #[.pointer po, .int .i64 n, .int .i64 i] w fun e w' => e = .returned (.tuple #[flagM 0, .string ⟨#[]⟩, .string ⟨#[]⟩, .bool false]) ∧ Only (fun _ => False) w w' := by
  have ho0 := (Only.refl (fun _ => False) w).alloc (.cells #[.int .i64 0, .int .i64 0, .int .i64 0, .int .i64 0, .int .i64 0, .slice none 0 0, .slice none 0 0, .slice none 0 0] 42)
  have hr0 := heap_alloc_new w (.cells #[.int .i64 0, .int .i64 0, .int .i64 0, .int .i64 0, .int .i64 0, .slice none 0 0, .slice none 0 0, .slice none 0 0] 42)
  obtain ⟨W0, hW0⟩ : ∃ W0, w.alloc (.cells #[.int .i64 0, .int .i64 0, .int .i64 0, .int .i64 0, .int .i64 0, .slice none 0 0, .slice none 0 0, .slice none 0 0] 42) = W0 := ⟨_, rfl⟩
  rw [hW0] at ho0 hr0
  have C1 := Lib.hid (zHas (h.only ho0) n)
  obtain ⟨u0, u1, u2, u3, u4, u5, u6, u7⟩ := cells8M hr0
  obtain ⟨v0, v1, v2, v3, v4, v5, v6, v7⟩ := marks8M hr0
  have HO := Lib.hid ho0
  have HR := Lib.hid hr0
  have HW0 := Lib.hid hW0
  clear h ho0 hr0 hW0
  go_enter Try.func8, Try.ntmps8
  go_wp2_with (fail)
  rw [HW0.out]
  refine C1.out.mono ?_
  rintro e w1 ⟨rfl, hww⟩
  subst hww
  go_wp2
  exact bodyPost_ret (method_result4 (b := w.heap.size) Try.results8 (store8M HR.out) rfl rfl rfl rfl) rfl ⟨rfl, only8M HO.out (fun hl => absurd hl (Nat.lt_irrefl _))⟩
end
/-- Nothing is found: the program is none. -/
def Zero9 (w : World) (e : Ending) (w' : World) : Prop := e = .returned (.tuple #[valM zeroM, .int .i64 7]) ∧ Only (fun _ => False) w w'
abbrev sixZ (w : World) (po : Option Addr) (ofn : FuncId) (n d : ByteArray) : World :=
  (((((w.alloc (.cells #[.pointer po] 22)).alloc (.cells #[.func (.func ofn) #[] #[]] 61)).alloc (.cells #[.string n] 9)).alloc (.cells #[.string d] 9)).alloc (.cells #[.int .i64 0, .int .i64 0, .string ⟨#[]⟩, .bool false, .int .i64 0] 28)).alloc (.cells #[.int .i64 0] 29)
theorem sixZ_only (w : World) (po : Option Addr) (ofn : FuncId) (n d : ByteArray) : Only (fun _ => False) w (sixZ w po ofn n d) := ((((((Only.refl _ w).alloc _).alloc _).alloc _).alloc _).alloc _).alloc _
theorem sixZ_vars (w : World) (po : Option Addr) (ofn : FuncId) (n d : ByteArray) : (sixZ w po ofn n d).heap[w.heap.size]? = some (.cells #[.pointer po] 22 (0, 0)) ∧
    (sixZ w po ofn n d).heap[w.heap.size + 1 + 1 + 1 + 1]? = some (.cells #[.int .i64 0, .int .i64 0, .string ⟨#[]⟩, .bool false, .int .i64 0] 28 (0, 0)) ∧ (sixZ w po ofn n d).heap[w.heap.size + 1 + 1 + 1 + 1 + 1]? = some (.cells #[.int .i64 0] 29 (0, 0)) := by
  have al : ∀ (W : World) (o o' : Obj) (k : Nat), W.heap[k]? = some o → (W.alloc o').heap[k]? = some o := fun W o o' k hk => ((Only.refl (fun _ => False) W).alloc o').heap hk (fun h => h)
  have nw : ∀ (W : World) (cs : Array Value) (t : TypeId) (k : Nat), W.heap.size = k → (W.alloc (.cells cs t)).heap[k]? = some (.cells cs t (0, 0)) := fun W cs t k hk => by subst hk; exact heap_alloc_new W _
  exact ⟨al _ _ _ _ (al _ _ _ _ (al _ _ _ _ (al _ _ _ _ (al _ _ _ _ (nw _ _ _ _ rfl))))), al _ _ _ _ (nw _ _ _ _ (by simp)), nw _ _ _ _ (by simp)⟩
set_option maxHeartbeats 4000000 in
set_option maxRecDepth 100000 in
theorem zFirst {po : Option Addr} {w : World} (h : Unmade po w) (sv : Value) (ofn : FuncId) (n d : ByteArray) :
    Calls Try.prog 18 #[.pointer po, sv, .func (.func ofn) #[] #[], .string n, .string d] w (Zero9 w) := by
  have hsf : ∀ a W, (store a (.func (.func ofn) #[] #[])).run Try.prog W = stored Try.prog W a (.func (.func ofn) #[] #[]) .plain := fun a W => run_store _ W a _ .plain rfl
  have hv6 := sixZ_vars w po ofn n d
  have ho6 := sixZ_only w po ofn n d
  have C1 := Lib.hid (h _ ho6)
  have x0 := cell1 hv6.1
  have HV := Lib.hid hv6
  have HO := Lib.hid ho6
  clear h hv6 ho6
  go_enter Try.func18, Try.ntmps18
  go_wp2_with (fail)
  refine C1.out.mono ?_
  rintro e w1 ⟨rfl, hww⟩
  have hv := HV.out
  have ho := HO.out
  rw [hww] at hv ho
  clear hww C1 x0 HV HO
  have xe := cell1 hv.2.2
  have fe := frozen_blk hv.2.2 0
  obtain ⟨u0, u1, u2, u3, u4⟩ := cells5T hv.2.1
  obtain ⟨v0, v1, v2, v3, v4⟩ := marks5T hv.2.1
  have HV := Lib.hid hv
  have HO := Lib.hid ho
  clear hv ho
  go_wp2
  have he5 := (only5T (S := fun k => k = w.heap.size + 1 + 1 + 1 + 1) (a0 := .int .i64 0) (a1 := .int .i64 0) (a2 := .string ⟨#[]⟩) (a3 := .bool false) (a4 := .int .i64 0) (Only.refl _ _) (fun _ => rfl)).heap HV.out.2.2 (by simp)
  have he6 := heap_setCell_at (i := 0) (u := .int .i64 7) he5
  simp only [List.setIfInBounds_toArray, List.set_cons_zero] at he6
  exact bodyPost_ret (mem_resultC (t := zeroM) (b := w.heap.size + 1 + 1 + 1 + 1) (c := w.heap.size + 1 + 1 + 1 + 1 + 1) Try.results18 ((Below.heap_setCell _ _ _ _ (by simp)).trans (store5T HV.out.2.1)) he6 rfl rfl) rfl ⟨rfl, (only5T HO.out (fun hl => absurd hl (by omega))).setCell (fun hl => absurd hl (by simp; omega)) _⟩
theorem zUp (po : Option Addr) (x : Int) (w : World) : Calls Try.prog 19 #[.pointer po, .int .i64 x] w fun e w' => e = .returned (.func (.func 32) #[] #[.pointer (some ⟨w.heap.size + 1, 0, none⟩), .pointer (some ⟨w.heap.size, 0, none⟩)]) ∧ w' = (w.alloc (.cells #[.pointer po] 22)).alloc (.cells #[.int .i64 x] 3) := by
  go_enter Try.func19, Try.ntmps19
  go_wp2
  go_ret
  exact ⟨rfl, rfl⟩
theorem zAlone (po : Option Addr) (x : Int) (w : World) : Calls Try.prog 23 #[.pointer po, .int .i64 x] w fun e w' => e = .returned (.func (.func 33) #[] #[.pointer (some ⟨w.heap.size, 0, none⟩), .pointer (some ⟨w.heap.size + 1, 0, none⟩)]) ∧ w' = (w.alloc (.cells #[.pointer po] 22)).alloc (.cells #[.int .i64 x] 3) := by
  go_enter Try.func23, Try.ntmps23
  go_wp2
  go_ret
  exact ⟨rfl, rfl⟩
set_option maxHeartbeats 4000000 in
set_option maxRecDepth 100000 in
theorem upz_in (n : Nat) (hn : 1 ≤ n) {po : Option Addr} {w : World} (h : Unmade po w) (x : Int) (Bn Bp : Nat) (hBn : w.cell? ⟨Bn, 0, none⟩ = some (.int .i64 x)) (hBp : w.cell? ⟨Bp, 0, none⟩ = some (.pointer po)) :
    SeqStopsK Fence.wide n Try.prog 32 #[.pointer (some ⟨Bn, 0, none⟩), .pointer (some ⟨Bp, 0, none⟩)] (encJ []) (Below w.heap.size) (fun xs => vals xs = []) (fun pre => vals pre <+: []) 2 w := by
  intro lp J Jx W hb hJ hJx hY h0
  have hcn := below_cell hb hBn (Nat.le_refl _)
  have hcp := below_cell hb hBp (Nat.le_refl _)
  have HC := Lib.hid (zHas (h.only (Only.of_below hb (fun _ => False))) x)
  have H0 := Lib.hid h0
  clear hY hJ hJx h hBp hBn hb h0
  refine callsIn_of_wp Try.func32 rfl trivial ?_ rfl
  simp only [Try.ntmps32, List.size_toArray, List.length_cons, List.length_nil, Nat.reduceAdd, Nat.reduceSub, Array.replicate_succ, Array.replicate_zero, List.push_toArray, List.append_toArray, List.nil_append, List.cons_append]
  gi_wp2
  gi_loopw [4] (fun av wr => av = .int .i64 x ∧ wr = W) (fun av _ => 0)
  case atStart => exact ⟨rfl, rfl⟩
  case round =>
    obtain ⟨rfl, hwr⟩ := hrel
    subst hwr
    gi_wp2_with (fail)
    refine ⟨trivial, (callsIn_wide.2 HC.out).mono ?_⟩
    rintro e' w3 ⟨rfl, hww⟩
    subst hww
    gi_wp2_with (fail)
    refine ⟨fun _ h => (by cases h), ?_⟩
    gi_wp2
    go_end0
    exact ⟨⟨_, rfl⟩, .inl ⟨[], rfl, H0.out⟩⟩
set_option maxHeartbeats 8000000 in
set_option maxRecDepth 100000 in
theorem zSub {po : Option Addr} {w : World} (h : Unmade po w) (a b : Int) :
    Calls Try.prog 14 #[.pointer po, .int .i64 a, .int .i64 b] w fun e w' => e = .returned (.bool false) ∧ Only (fun _ => False) w w' := by
  have ho0 := ((Only.refl (fun _ => False) w).alloc (.cells #[.int .i64 b] 3)).alloc (.cells #[.bool false] 4)
  have hv0 : SubV w ((w.alloc (.cells #[.int .i64 b] 3)).alloc (.cells #[.bool false] 4)) b false := ⟨((Only.refl (fun _ => False) _).alloc _).heap (heap_alloc_new w _) (fun h => h), by
    have := heap_alloc_new (w.alloc (.cells #[.int .i64 b] 3)) (.cells #[.bool false] 4)
    rwa [World.size_alloc] at this⟩
  have hs0 : ((w.alloc (.cells #[.int .i64 b] 3)).alloc (.cells #[.bool false] 4)).heap.size = w.heap.size + 2 := by simp
  obtain ⟨W0, hW0⟩ : ∃ W0, (w.alloc (.cells #[.int .i64 b] 3)).alloc (.cells #[.bool false] 4) = W0 := ⟨_, rfl⟩
  rw [hW0] at ho0 hv0 hs0
  have h1 := h.only ho0
  have ha : Only (fun _ => False) W0 ((W0.alloc (.cells #[.pointer po] 22)).alloc (.cells #[.int .i64 a] 3)) := ((Only.refl _ W0).alloc _).alloc _
  have hbp : ((W0.alloc (.cells #[.pointer po] 22)).alloc (.cells #[.int .i64 a] 3)).cell? ⟨W0.heap.size, 0, none⟩ = some (.pointer po) := cell1 (((Only.refl (fun _ => False) _).alloc _).heap (heap_alloc_new W0 (.cells #[.pointer po] 22)) (fun h => h))
  have hbn : ((W0.alloc (.cells #[.pointer po] 22)).alloc (.cells #[.int .i64 a] 3)).cell? ⟨W0.heap.size + 1, 0, none⟩ = some (.int .i64 a) := by
    have := cell1 (heap_alloc_new (W0.alloc (.cells #[.pointer po] 22)) (.cells #[.int .i64 a] 3))
    rwa [World.size_alloc] at this
  have CU := Lib.hid (zUp po a W0)
  have hsa : ((W0.alloc (.cells #[.pointer po] 22)).alloc (.cells #[.int .i64 a] 3)).heap.size = w.heap.size + 4 := by simp; omega
  obtain ⟨W1, hW1⟩ : ∃ W1, (W0.alloc (.cells #[.pointer po] 22)).alloc (.cells #[.int .i64 a] 3) = W1 := ⟨_, rfl⟩
  rw [hW1] at ha hbp hbn hsa CU
  have IT := Lib.hid (upz_in 8 (by decide) (h1.only ha) a (W0.heap.size + 1) W0.heap.size hbn hbp)
  have hv1 : SubV w W1 b false := ⟨ha.heap hv0.1 (fun h => h), ha.heap hv0.2 (fun h => h)⟩
  have HV1 := Lib.hid hv1
  have HO1 := Lib.hid (ho0.trans ha (fun _ h _ => h))
  have HW0 := Lib.hid hW0
  clear h h1 ho0 hv0 ha hbp hbn hv1 hW0 hW1
  refine (callsIn_wide (n := 9)).1 ?_
  refine callsIn_of_wp_marks Try.func14 rfl trivial ?_ rfl
  simp only [Try.ntmps14, List.size_toArray, List.length_cons, List.length_nil, Nat.reduceAdd, Nat.reduceSub, Array.replicate_succ, Array.replicate_zero, List.push_toArray, List.append_toArray, List.nil_append, List.cons_append]
  refine wpIn_wide.2 ?_
  go_wp2_with (fail)
  rw [HW0.out]
  refine CU.out.mono ?_
  rintro e w3 ⟨rfl, hw3⟩
  subst hw3
  go_wp2
  have hv1 := HV1.out
  have ho1 := HO1.out
  refine (wpIn_wide (n := 9)).1 ?_
  refine wpIn_rangeFunc_ownG (α := Fin ([] : List KindV).length) (F := Fence.wide) rfl (by decide) (gf := 32) (lb := #[.pointer (some ⟨w.heap.size + 2 + 1, 0, none⟩), .pointer (some ⟨w.heap.size + 2, 0, none⟩)]) rfl trivial (enters_of Try.func32 (by kernel_rfl) rfl)
    (encs := encJ []) (Kp := Below w3.heap.size) (S := fun l => vals l = []) (Sp := fun pre => vals pre <+: []) (N := 2) (w0 := w3)
    (by rw [← hs0]; exact IT.out) (fun h k => belowK_t h k) (belowK_b (w := w3) (Nat.le_refl _)) (Below.refl _ _) (fun _ => rfl)
    (fun pre W => SubV w W b false ∧ Below w.heap.size w W)
    (fun c pre W => False)
    (OwnFrom.and (fun s X Y row hs hg hr => hs.own hg hr) (ownFrom_below (Nat.le_refl _) (by omega)))
    (fun c => fun s X Y row hs hg hr => hs)
    ⟨hv1, Only.none ho1⟩
    (fun x => { tmps := #[.pointer po, .int .i64 a, .int .i64 b, undef, undef, .pointer (some ⟨w.heap.size, 0, none⟩), .pointer (some ⟨w.heap.size + 1, 0, none⟩), .int .i64 (x.val : Int), .pointer po, .int .i64 a, .func (.func 32) #[] #[.pointer (some ⟨w.heap.size + 2 + 1, 0, none⟩), .pointer (some ⟨w.heap.size + 2, 0, none⟩)], .int .i64 (x.val : Int), undef, undef, undef], defers := [] })
    ?assign ?body ?done ?stop
  case assign =>
    intro lo x W K hK
    exact absurd x.isLt (Nat.not_lt_zero _)
  case body =>
    rintro lo pre ⟨j, hj⟩ W _ _
    exact absurd hj (Nat.not_lt_zero _)
  case done =>
    rintro D ys W hD hS ⟨hv, hB⟩ hK
    have x1 := cell1 hv.2
    have xf := frozen_blk hv.2 0
    have h2 := heap_setCell_at (i := 0) (u := .bool false) hv.2
    simp only [List.setIfInBounds_toArray, List.set_cons_zero] at h2
    have h5 := (Only.refl (fun k => k = w.heap.size + 1) W).setCell (p := ⟨w.heap.size + 1, 0, none⟩) (fun _ => rfl) (.bool false)
    have hK5 := h5.heap hK (by omega)
    have HEND := Lib.hid (fin_heap1 hD (by omega) (hB.trans (h5.below hB.size (fun k hk => by omega))) hK5 h2)
    have HK5 := Lib.hid hK5
    clear hv hB hS hK h2 h5 hK5
    go_wp2
    refine ⟨by simp, .inl ⟨_, _, rfl, run_takeDeferred HK5.out, ?_⟩⟩
    exact ⟨_, bool_resultC Try.results14 HEND.out.1 rfl, rfl, HEND.out.2⟩
  case stop =>
    rintro D c pre W hD hA hF hK
    exact hF.elim

set_option maxHeartbeats 4000000 in
set_option maxRecDepth 100000 in
theorem zField {po : Option Addr} {w : World} (h : Unmade po w) (c n d : ByteArray) :
    Calls Try.prog 4 #[.pointer po, .string c, .string n, .string d] w (Zero9 w) := by
  have ho0 := (Only.refl (fun _ => False) w).alloc (.cells #[.int .i64 0, .int .i64 0, .string ⟨#[]⟩, .bool false, .int .i64 0] 28)
  have hr0 := heap_alloc_new w (.cells #[.int .i64 0, .int .i64 0, .string ⟨#[]⟩, .bool false, .int .i64 0] 28)
  obtain ⟨W0, hW0⟩ : ∃ W0, w.alloc (.cells #[.int .i64 0, .int .i64 0, .string ⟨#[]⟩, .bool false, .int .i64 0] 28) = W0 := ⟨_, rfl⟩
  rw [hW0] at ho0 hr0
  have h1 := h.only ho0
  have C1 := Lib.hid (zFind h1 c)
  have ha : Only (fun _ => False) W0 ((W0.alloc (.cells #[.pointer po] 22)).alloc (.cells #[.int .i64 (-1)] 3)) := ((Only.refl _ W0).alloc _).alloc _
  have CU := Lib.hid (zUp po (-1) W0)
  have C2 := Lib.hid (fun sv => zFirst (h1.only ha) sv 20 n d)
  have HR1 := Lib.hid (ha.heap hr0 (fun h => h))
  have HO1 := Lib.hid (ho0.trans ha (fun _ h _ => h))
  have HW0 := Lib.hid hW0
  clear h h1 ha ho0 hr0 hW0
  go_enter Try.func4, Try.ntmps4
  go_wp2_with (fail)
  rw [HW0.out]
  refine C1.out.mono ?_
  rintro e w2 ⟨rfl, hww⟩
  subst hww
  go_wp2_with (fail)
  refine CU.out.mono ?_
  rintro e w3 ⟨rfl, hw3⟩
  subst hw3
  go_wp2_with (fail)
  refine (C2.out _).mono ?_
  rintro e w4 ⟨rfl, ho4⟩
  unfold valM zeroM
  have HO4 := Lib.hid (HO1.out.trans ho4 (fun _ h _ => h))
  have hr4 := ho4.heap HR1.out (fun h => h)
  obtain ⟨u0, u1, u2, u3, u4⟩ := cells5T hr4
  obtain ⟨v0, v1, v2, v3, v4⟩ := marks5T hr4
  have HR4 := Lib.hid hr4
  clear ho4 hr4
  go_wp2
  exact bodyPost_ret (mem_result2 (t := zeroM) (b := w.heap.size) Try.results4 (store5T HR4.out) rfl rfl) rfl ⟨rfl, only5T HO4.out (fun hl => absurd hl (Nat.lt_irrefl _))⟩
set_option maxHeartbeats 4000000 in
set_option maxRecDepth 100000 in
theorem zOwn {po : Option Addr} {w : World} (h : Unmade po w) (c n d : ByteArray) :
    Calls Try.prog 6 #[.pointer po, .string c, .string n, .string d] w (Zero9 w) := by
  have ho0 := (Only.refl (fun _ => False) w).alloc (.cells #[.int .i64 0, .int .i64 0, .string ⟨#[]⟩, .bool false, .int .i64 0] 28)
  have hr0 := heap_alloc_new w (.cells #[.int .i64 0, .int .i64 0, .string ⟨#[]⟩, .bool false, .int .i64 0] 28)
  obtain ⟨W0, hW0⟩ : ∃ W0, w.alloc (.cells #[.int .i64 0, .int .i64 0, .string ⟨#[]⟩, .bool false, .int .i64 0] 28) = W0 := ⟨_, rfl⟩
  rw [hW0] at ho0 hr0
  have h1 := h.only ho0
  have C1 := Lib.hid (zFind h1 c)
  have ha : Only (fun _ => False) W0 ((W0.alloc (.cells #[.pointer po] 22)).alloc (.cells #[.int .i64 (-1)] 3)) := ((Only.refl _ W0).alloc _).alloc _
  have CU := Lib.hid (zAlone po (-1) W0)
  have C2 := Lib.hid (fun sv => zFirst (h1.only ha) sv 22 n d)
  have HR1 := Lib.hid (ha.heap hr0 (fun h => h))
  have HO1 := Lib.hid (ho0.trans ha (fun _ h _ => h))
  have HW0 := Lib.hid hW0
  clear h h1 ha ho0 hr0 hW0
  go_enter Try.func6, Try.ntmps6
  go_wp2_with (fail)
  rw [HW0.out]
  refine C1.out.mono ?_
  rintro e w2 ⟨rfl, hww⟩
  subst hww
  go_wp2_with (fail)
  refine CU.out.mono ?_
  rintro e w3 ⟨rfl, hw3⟩
  subst hw3
  go_wp2_with (fail)
  refine (C2.out _).mono ?_
  rintro e w4 ⟨rfl, ho4⟩
  unfold valM zeroM
  have HO4 := Lib.hid (HO1.out.trans ho4 (fun _ h _ => h))
  have hr4 := ho4.heap HR1.out (fun h => h)
  obtain ⟨u0, u1, u2, u3, u4⟩ := cells5T hr4
  obtain ⟨v0, v1, v2, v3, v4⟩ := marks5T hr4
  have HR4 := Lib.hid hr4
  clear ho4 hr4
  go_wp2
  exact bodyPost_ret (mem_result2 (t := zeroM) (b := w.heap.size) Try.results6 (store5T HR4.out) rfl rfl) rfl ⟨rfl, only5T HO4.out (fun hl => absurd hl (Nat.lt_irrefl _))⟩
set_option maxHeartbeats 4000000 in
set_option maxRecDepth 100000 in
theorem zLookN {po : Option Addr} {w : World} (h : Unmade po w) (c n d : ByteArray) (hn : n ≠ initB) :
    Calls Try.prog 5 #[.pointer po, .string c, .string n, .string d] w (Zero9 w) := by
  have ho0 := (Only.refl (fun _ => False) w).alloc (.cells #[.int .i64 0, .int .i64 0, .string ⟨#[]⟩, .bool false, .int .i64 0] 28)
  have hr0 := heap_alloc_new w (.cells #[.int .i64 0, .int .i64 0, .string ⟨#[]⟩, .bool false, .int .i64 0] 28)
  obtain ⟨W0, hW0⟩ : ∃ W0, w.alloc (.cells #[.int .i64 0, .int .i64 0, .string ⟨#[]⟩, .bool false, .int .i64 0] 28) = W0 := ⟨_, rfl⟩
  rw [hW0] at ho0 hr0
  have h1 := h.only ho0
  have C1 := Lib.hid (zFind h1 c)
  have ha : Only (fun _ => False) W0 ((W0.alloc (.cells #[.pointer po] 22)).alloc (.cells #[.int .i64 (-1)] 3)) := ((Only.refl _ W0).alloc _).alloc _
  have CU := Lib.hid (zUp po (-1) W0)
  have C2 := Lib.hid (fun sv => zFirst (h1.only ha) sv 22 n d)
  have HR1 := Lib.hid (ha.heap hr0 (fun h => h))
  have HO1 := Lib.hid (ho0.trans ha (fun _ h _ => h))
  have HW0 := Lib.hid hW0
  obtain ⟨n1, n2⟩ := toList_beq hn
  unfold initB at n1 n2
  rw [lit_init] at n1 n2
  have hli := lit_init
  clear h h1 ha ho0 hr0 hW0 hn
  go_enter Try.func5, Try.ntmps5
  go_wp2_with (fail)
  rw [HW0.out]
  refine C1.out.mono ?_
  rintro e w2 ⟨rfl, hww⟩
  subst hww
  go_wp2_with (fail)
  refine CU.out.mono ?_
  rintro e w3 ⟨rfl, hw3⟩
  subst hw3
  go_wp2_with (fail)
  refine (C2.out _).mono ?_
  rintro e w4 ⟨rfl, ho4⟩
  unfold valM zeroM
  have HO4 := Lib.hid (HO1.out.trans ho4 (fun _ h _ => h))
  have hr4 := ho4.heap HR1.out (fun h => h)
  obtain ⟨u0, u1, u2, u3, u4⟩ := cells5T hr4
  obtain ⟨v0, v1, v2, v3, v4⟩ := marks5T hr4
  have HR4 := Lib.hid hr4
  clear ho4 hr4
  go_wp2
  exact bodyPost_ret (mem_result2 (t := zeroM) (b := w.heap.size) Try.results5 (store5T HR4.out) rfl rfl) rfl ⟨rfl, only5T HO4.out (fun hl => absurd hl (Nat.lt_irrefl _))⟩
set_option maxHeartbeats 4000000 in
set_option maxRecDepth 100000 in
theorem zLookI {po : Option Addr} {w : World} (h : Unmade po w) (c d : ByteArray) :
    Calls Try.prog 5 #[.pointer po, .string c, .string initB, .string d] w (Zero9 w) := by
  have ho0 := (Only.refl (fun _ => False) w).alloc (.cells #[.int .i64 0, .int .i64 0, .string ⟨#[]⟩, .bool false, .int .i64 0] 28)
  have hr0 := heap_alloc_new w (.cells #[.int .i64 0, .int .i64 0, .string ⟨#[]⟩, .bool false, .int .i64 0] 28)
  obtain ⟨W0, hW0⟩ : ∃ W0, w.alloc (.cells #[.int .i64 0, .int .i64 0, .string ⟨#[]⟩, .bool false, .int .i64 0] 28) = W0 := ⟨_, rfl⟩
  rw [hW0] at ho0 hr0
  have h1 := h.only ho0
  have C2 := Lib.hid (fun sv => zFirst h1 sv 22 initB d)
  have HR1 := Lib.hid hr0
  have HO1 := Lib.hid ho0
  have HW0 := Lib.hid hW0
  have hli := lit_init
  unfold initB at C2
  clear h h1 ho0 hr0 hW0
  unfold initB
  go_enter Try.func5, Try.ntmps5
  go_wp2_with (fail)
  rw [HW0.out]
  refine (C2.out _).mono ?_
  rintro e w4 ⟨rfl, ho4⟩
  unfold valM zeroM
  have HO4 := Lib.hid (HO1.out.trans ho4 (fun _ h _ => h))
  have hr4 := ho4.heap HR1.out (fun h => h)
  obtain ⟨u0, u1, u2, u3, u4⟩ := cells5T hr4
  obtain ⟨v0, v1, v2, v3, v4⟩ := marks5T hr4
  have HR4 := Lib.hid hr4
  clear ho4 hr4
  go_wp2
  exact bodyPost_ret (mem_result2 (t := zeroM) (b := w.heap.size) Try.results5 (store5T HR4.out) rfl rfl) rfl ⟨rfl, only5T HO4.out (fun hl => absurd hl (Nat.lt_irrefl _))⟩
theorem zLook {po : Option Addr} {w : World} (h : Unmade po w) (c n d : ByteArray) : Calls Try.prog 5 #[.pointer po, .string c, .string n, .string d] w (Zero9 w) := by
  by_cases hn : n = initB
  · subst hn
    exact zLookI h c d
  · exact zLookN h c n d hn
set_option maxHeartbeats 4000000 in
set_option maxRecDepth 100000 in
theorem zMain {po : Option Addr} {w : World} (h : Unmade po w) : Calls Try.prog 17 #[.pointer po] w fun e w' => e = .returned (valM zeroM) ∧ Only (fun _ => False) w w' := by
  have ho0 := (Only.refl (fun _ => False) w).alloc (.cells #[.int .i64 0, .int .i64 0, .string ⟨#[]⟩, .bool false, .int .i64 0] 28)
  have hr0 := heap_alloc_new w (.cells #[.int .i64 0, .int .i64 0, .string ⟨#[]⟩, .bool false, .int .i64 0] 28)
  obtain ⟨W0, hW0⟩ : ∃ W0, w.alloc (.cells #[.int .i64 0, .int .i64 0, .string ⟨#[]⟩, .bool false, .int .i64 0] 28) = W0 := ⟨_, rfl⟩
  rw [hW0] at ho0 hr0
  have C1 := Lib.hid (pBuilt W0)
  have C2 := Lib.hid (fun W (hW : Only (fun _ => False) w W) => zName (h.only hW) 13)
  have C3 := Lib.hid (fun W (hW : Only (fun _ => False) w W) n d => zOwn (h.only hW) ⟨#[]⟩ n d)
  have HO := Lib.hid ho0
  have HR := Lib.hid hr0
  have HW0 := Lib.hid hW0
  clear h ho0 hr0 hW0
  go_enter Try.func17, Try.ntmps17
  go_wp2_with (fail)
  rw [HW0.out]
  refine C1.out.mono ?_
  rintro e w1 ⟨rfl, ho1⟩
  have HO1 := Lib.hid (HO.out.trans ho1 (fun _ h _ => h))
  go_wp2_with (fail)
  refine (C2.out _ HO1.out).mono ?_
  rintro e w2 ⟨rfl, hww⟩
  subst hww
  go_wp2_with (fail)
  refine (C3.out _ HO1.out _ _).mono ?_
  rintro e w3 ⟨rfl, ho3⟩
  unfold valM zeroM
  have hal := (Only.refl (fun _ => False) w3).alloc (.cells #[.int .i64 0, .int .i64 0, .string ⟨#[]⟩, .bool false, .int .i64 0] 28)
  have hx := heap_alloc_new w3 (.cells #[.int .i64 0, .int .i64 0, .string ⟨#[]⟩, .bool false, .int .i64 0] 28)
  have hr3 := hal.heap (ho3.heap (ho1.heap HR.out (fun h => h)) (fun h => h)) (fun h => h)
  have HO3 := Lib.hid ((HO1.out.trans ho3 (fun _ h _ => h)).trans hal (fun _ h _ => h))
  obtain ⟨f0, f1, f2, f3, f4⟩ := marks5T hr3
  obtain ⟨r0, r1, r2, r3, r4⟩ := cells5T hr3
  obtain ⟨x0, x1, x2, x3, x4⟩ := cells5T hx
  have HR3 := Lib.hid hr3
  clear hal hr3 ho3 ho1 C1 hx
  go_wp2
  exact bodyPost_ret (mem_alone (i := zeroM) (b := w.heap.size) Try.results17 (store5T HR3.out) rfl) rfl ⟨rfl, only5T HO3.out (fun hl => absurd hl (Nat.lt_irrefl _))⟩
end Go.Proofs.Ytmakfnghkpdpkaa
