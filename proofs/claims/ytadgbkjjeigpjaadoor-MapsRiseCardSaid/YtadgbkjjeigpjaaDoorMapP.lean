/- The program reads the parts of maps: numbers, places, kinds, classes, types. No condition beyond a reader that was made. -/
import Derived.Deep.RegionHeld3
import Derived.Test.YtadgbkjjeigpjaaDoorMapT
import Derived.Test.YtadgbkjjeigpjaaDoorMapR
namespace Go.Proofs.YtadgbkjjeigpjaaDoor
open Go.RowKit
set_option linter.unusedVariables false
set_option linter.unusedSimpArgs false

/-- A reader of maps as a value: the reader of bytes, the pool. -/
def rdV (rb : Nat) (pv : Value) : Value := .agg #[.pointer (some ⟨rb, 0, none⟩), pv]
def rdO (rb : Nat) (pv : Value) : Obj := .cells #[.pointer (some ⟨rb, 0, none⟩), pv] 48 (0, 0)
abbrev rdA (rb : Nat) (pv : Value) : Obj := .cells #[.pointer (some ⟨rb, 0, none⟩), pv] 48
/-- A reader that has read so far, and a pool apart from it. -/
structure Rp (w : World) (rb : Nat) (sv pv : Value) (cs : List ConstV) (zs : List Int) (k : Nat) : Prop where
  rd : Rd w rb sv zs k
  pool : Pool w pv cs
  pb : ∀ j, pv.ownBlock = some j → cs ≠ [] → ¬ j = rb
section
variable {w w' : World} {rb : Nat} {sv pv : Value} {cs : List ConstV} {zs : List Int} {k k' : Nat}
theorem Rp.read (h : Rp w rb sv pv cs zs k) (ho : Only (fun j => j = rb) w w') (hr : Rd w' rb sv zs k') : Rp w' rb sv pv cs zs k' := ⟨hr, Pool.only2 h.pool ho h.pb, h.pb⟩
theorem Rp.idle (h : Rp w rb sv pv cs zs k) (ho : Only (fun _ => False) w w') : Rp w' rb sv pv cs zs k := ⟨h.rd.only ho (fun h => h) (fun _ _ h => h), Pool.only2 h.pool ho (fun _ _ _ h => h), h.pb⟩
theorem Rp.only {S : Nat → Prop} (h : Rp w rb sv pv cs zs k) (ho : Only S w w') (h1 : ¬ S rb) (h2 : ∀ j, sv.ownBlock = some j → ¬ S j) (h3 : ∀ j, pv.ownBlock = some j → cs ≠ [] → ¬ S j) : Rp w' rb sv pv cs zs k := ⟨h.rd.only ho h1 h2, Pool.only2 h.pool ho h3, h.pb⟩
end
theorem RdE.pre {α : Type} {V : α → Value} {rb : Nat} {sv : Value} {zs : List Int} {w0 w w' : World} {r : Except Int (α × Nat)} {e : Ending} (ho : Only (fun _ => False) w0 w) (h : RdE V rb sv zs w r e w') : RdE V rb sv zs w0 r e w' := ⟨h.1, ho.rb.rbs h.2⟩
/-- The package's table: the byte of each kind of type. -/
def tagL : Array Value := #[.int .u64 0, .int .u64 1, .int .u64 4, .int .u64 5, .int .u64 7, .int .u64 7, .int .u64 8, .int .u64 6]
def tagN : Nat → Int := fun m => if m = 0 then 0 else if m = 1 then 1 else if m = 2 then 4 else if m = 3 then 5 else if m = 4 then 7 else if m = 5 then 7 else if m = 6 then 8 else 6
def Tags (w : World) : Prop := ∀ i, i < 8 → w.cell? ⟨0, i, none⟩ = tagL[i]?
theorem Tags.only {S : Nat → Prop} {w w' : World} (h : Tags w) (ho : Only S w w') (hs : ¬ S 0) : Tags w' := by
  intro i hi
  have h1 := h i hi
  obtain ⟨x, hx⟩ : ∃ x, tagL[i]? = some x := ⟨_, Array.getElem?_eq_getElem (show i < tagL.size from hi)⟩
  rw [hx] at h1 ⊢
  exact ho.cell h1 hs
theorem Tags.lt {w : World} (h : Tags w) : 0 < w.heap.size := World.block_lt_of_cell? w _ ((h 0 (by decide)).trans (show tagL[0]? = some (.int .u64 0) from rfl))
/-- The kind that a byte tells: of an array that of a class. -/
def kindM : Pr Int := bindP (numP 1) fun n =>
  if n = 0 then retP 0 else if n = 1 then retP 1 else if n = 4 then retP 2 else if n = 5 then retP 3 else if n = 7 then retP 4 else if n = 8 then retP 6 else if n = 6 then retP 7 else failP 100
theorem size_u64 : (Tryd.prog.info? 81).map (·.size) = some 1 := by kernel_rfl
theorem arr_tags : ∃ t, Tryd.prog.underlying 107 = some (.array 8 t) ∧ t = 81 := ⟨_, by kernel_rfl, rfl⟩
theorem run_tag (i : Int) (x : Int) (h0 : 0 ≤ i) (h8 : i < 8) (hx : tagL[i.toNat]? = some (.int .u64 x)) (w : World) : (Instr.index 107 (.agg #[.int .u64 0, .int .u64 1, .int .u64 4, .int .u64 5, .int .u64 7, .int .u64 7, .int .u64 8, .int .u64 6]) (.int .i64 i)).run Tryd.prog w = .ok (.int .u64 x) w := by
  obtain ⟨t, h, rfl⟩ := arr_tags
  obtain ⟨ie, hie, hs⟩ : ∃ ie, Tryd.prog.info? 81 = some ie ∧ ie.size = 1 := by
    have := size_u64
    cases h : Tryd.prog.info? 81 with
    | none => rw [h] at this; cases this
    | some ie => rw [h] at this; exact ⟨ie, rfl, by simpa using this⟩
  have hn : 0 ≤ i ∧ i < ((8 : Nat) : Int) := ⟨h0, h8⟩
  unfold tagL at hx
  have hlt : i.toNat < 8 := by omega
  simp [Instr.index, run_underlying h, run_underlying Tryd.underlying81, asIntOf, hn, part, isAgg, sizeOf, typeInfo, hie, hs, go_sem]
  rw [List.getElem?_toArray] at hx
  rw [if_pos h8, hx]
  rfl
theorem type_aloneP {fn : Func} {p : Tmp} (hr : fn.results = #[.cell p 39]) {w : World} {b : Nat} {t : TypeV} {tmps : Array Value} (h : w.heap[b]? = some (.cells #[.int .i64 t.k, .string t.name, .int .i64 t.dims, .int .i64 t.elem, .int .i64 t.at_] 39 (0, 0))) (ht : tmps.getD p undef = .pointer (some ⟨b, 0, none⟩)) :
    (results fn tmps).run Tryd.prog w = .ok (valT t) w :=
  results_cell_row hr tmps w b 39 _ (0, 0) _ ht h Tryd.underlying39 rfl info5_type
theorem mMustT (w : World) : Calls Tryd.prog 32 #[.bool true] w fun e w' => e = .returned (.tuple #[]) ∧ w = w' := by
  go_enter Tryd.func32, Tryd.ntmps32
  go_wp2
  go_end0
  exact ⟨rfl, rfl⟩
theorem mMustF (w : World) : Calls Tryd.prog 32 #[.bool false] w fun e w' => e = pan 100 ∧ w = w' := by
  go_enter Tryd.func32, Tryd.ntmps32
  go_wp2
  exact ⟨rfl, rfl, rfl⟩
def placeB (a : Int) : Bool := decide (0 ≤ a) && decide (a ≤ 4096)
theorem mIsPlace (a : Int) (w : World) : Calls Tryd.prog 39 #[.int .i64 a] w fun e w' => e = .returned (.bool (placeB a)) ∧ w = w' := by
  by_cases h0 : 0 ≤ a
  · by_cases h1 : a ≤ 4096
    · have HP := Lib.hid (show placeB a = true by simp [placeB, h0, h1])
      go_enter Tryd.func39, Tryd.ntmps39
      go_wp2
      go_ret
      rw [HP.out]
      exact ⟨rfl, rfl⟩
    · have HP := Lib.hid (show placeB a = false by simp [placeB, h1])
      go_enter Tryd.func39, Tryd.ntmps39
      go_wp2
      go_ret
      rw [HP.out]
      exact ⟨rfl, rfl⟩
  · have HP := Lib.hid (show placeB a = false by simp [placeB, h0])
    go_enter Tryd.func39, Tryd.ntmps39
    go_wp2
    go_ret
    rw [HP.out]
    exact ⟨rfl, rfl⟩

section
variable (rb : Nat) (sv : Value) (ap : Option Addr) (np cp : Nat) (cs : List ConstV) (zs : List Int) (k : Nat) (w : World)
theorem mNumber (n : Nat) (hn1 : 1 ≤ n) (hn8 : n ≤ 8) (h : Rp w rb sv (.slice ap np cp) cs zs k) :
    Calls Tryd.prog 46 #[rdV rb (.slice ap np cp), .int .i64 n] w (RdE (fun x => .int .u64 x) rb sv zs w (numP n zs k)) := by
  have ho0 := (Only.refl (fun _ => False) w).alloc (rdA rb (.slice ap np cp))
  have hb0 := heap_alloc_new w (rdA rb (.slice ap np cp))
  have q0 := cell_blk hb0 0
  simp only [List.getElem?_toArray, List.getElem?_cons_zero] at q0
  have HO0 := Lib.hid ho0
  unfold rdV
  by_cases hroom : k + n ≤ zs.length
  · have he : numP n zs k = .ok (uAt zs k n, k + n) := by unfold numP; rw [if_pos hroom]
    have cU := pdU_ok rb sv zs k n _ (h.idle ho0).rd hn1 hn8 hroom
    have CU := Lib.hid cU
    have HE := Lib.hid he
    clear cU h he ho0 hb0
    go_enter Tryd.func46, Tryd.ntmps46
    go_wp2_with (fail)
    refine CU.out.mono ?_
    rintro e w' ⟨rfl, hto⟩
    have HTO := Lib.hid hto
    clear hto
    go_wp2
    go_ret
    exact RdE.ok (V := fun x => .int .u64 x) HE.out HTO.out.1 (HO0.out.rb.rbs HTO.out.2)
  · have he : numP n zs k = .error 3 := by unfold numP; rw [if_neg hroom]
    have cU := pdU_short rb sv zs k n _ (h.idle ho0).rd hn1 hn8 (by omega)
    have CU := Lib.hid cU
    have HE := Lib.hid he
    clear cU h he ho0 hb0
    go_enter Tryd.func46, Tryd.ntmps46
    go_wp2_with (fail)
    refine CU.out.mono ?_
    rintro e w' ⟨rfl, hto⟩
    have HTO := Lib.hid hto
    clear hto
    go_wp2
    exact ⟨rfl, RdE.no HE.out (HO0.out.rb.rbs HTO.out.2)⟩
theorem mShort (h : Rp w rb sv (.slice ap np cp) cs zs k) :
    Calls Tryd.prog 31 #[rdV rb (.slice ap np cp)] w (RdE (fun x => .int .i64 x) rb sv zs w (numP 2 zs k)) := by
  have hz := h.rd.byt
  have ho0 := (Only.refl (fun _ => False) w).alloc (rdA rb (.slice ap np cp))
  have hb0 := heap_alloc_new w (rdA rb (.slice ap np cp))
  have q0 := cell_blk hb0 0
  have q1 := cell_blk hb0 1
  simp at q0 q1
  have cU := mNumber rb sv ap np cp cs zs k _ 2 (by decide) (by decide) (h.idle ho0)
  unfold rdV at cU ⊢
  have CU := Lib.hid cU
  have HZ := Lib.hid hz
  have HO0 := Lib.hid ho0
  clear cU h hz ho0 hb0
  go_enter Tryd.func31, Tryd.ntmps31
  go_wp2_with (fail)
  refine CU.out.mono ?_
  rintro e w' ⟨⟨x, k', hx, rfl, hr⟩ | ⟨x, hx, rfl⟩, ho⟩
  · have hv := numP_val zs k HZ.out hx
    simp only [Int.reducePow] at hv
    have hw : IntKind.i64.wrap x = x := IntWalk.i64_in _ (by omega)
    have HX := Lib.hid hx
    have HR := Lib.hid hr
    have HO := Lib.hid ho
    clear hx hr ho hv
    go_wp2
    go_ret
    exact RdE.ok (V := fun x => .int .i64 x) HX.out HR.out (HO0.out.rb.rbs HO.out)
  · exact ⟨rfl, RdE.no hx (HO0.out.rb.rbs ho)⟩
theorem mPlace (f : Int) (hf0 : 0 ≤ f) (hf : f ≤ 4097) (h : Rp w rb sv (.slice ap np cp) cs zs k) :
    Calls Tryd.prog 47 #[rdV rb (.slice ap np cp), .int .i64 f] w (RdE (fun x => .int .i64 x) rb sv zs w (placeM f zs k)) := by
  have hz := h.rd.byt
  have ho0 := (Only.refl (fun _ => False) w).alloc (rdA rb (.slice ap np cp))
  have hb0 := heap_alloc_new w (rdA rb (.slice ap np cp))
  have q0 := cell_blk hb0 0
  have q1 := cell_blk hb0 1
  simp at q0 q1
  have cU := mShort rb sv ap np cp cs zs k _ (h.idle ho0)
  unfold rdV at cU ⊢
  have CU := Lib.hid cU
  have HZ := Lib.hid hz
  have HO0 := Lib.hid ho0
  clear cU h hz ho0 hb0
  go_enter Tryd.func47, Tryd.ntmps47
  go_wp2_with (fail)
  refine CU.out.mono ?_
  rintro e w' ⟨⟨x, k', hx, rfl, hr⟩ | ⟨x, hx, rfl⟩, ho⟩
  rotate_left
  · exact ⟨rfl, RdE.no (bindP_error hx) (HO0.out.rb.rbs ho)⟩
  have hv := numP_val zs k HZ.out hx
  simp only [Int.reducePow] at hv
  have hw : IntKind.i64.wrap (f + x) = f + x := IntWalk.i64_in _ (by omega)
  have HX := Lib.hid (show placeM f zs k = _ from bindP_ok hx)
  have HR := Lib.hid hr
  have HO := Lib.hid (HO0.out.rb.rbs ho)
  have cP := fun w => mIsPlace (f + x) w
  by_cases hp : f + x ≤ 4096
  · rw [show placeB (f + x) = true by unfold placeB; simp; omega] at cP
    have HE := Lib.hid (HX.out.trans (show bindP (mustM (decide (f + x ≤ 4096))) (fun _ => retP (f + x)) zs k' = .ok (f + x, k') by rw [decide_eq_true hp]; rfl))
    have CP := Lib.hid cP
    clear hx hr ho hv cP hp HX CU
    go_wp2_with (fail)
    refine (CP.out _).mono ?_
    rintro e w2 ⟨rfl, rfl⟩
    go_wp2_with (fail)
    refine (mMustT _).mono ?_
    rintro e w2 ⟨rfl, rfl⟩
    go_wp2
    go_ret
    exact RdE.ok (V := fun x => .int .i64 x) HE.out HR.out HO.out
  · rw [show placeB (f + x) = false by unfold placeB; simp; omega] at cP
    have HE := Lib.hid (HX.out.trans (show bindP (mustM (decide (f + x ≤ 4096))) (fun _ => retP (f + x)) zs k' = .error 100 by rw [decide_eq_false hp]; rfl))
    have CP := Lib.hid cP
    clear hx hr ho hv cP hp HX CU
    go_wp2_with (fail)
    refine (CP.out _).mono ?_
    rintro e w2 ⟨rfl, rfl⟩
    go_wp2_with (fail)
    refine (mMustF _).mono ?_
    rintro e w2 ⟨rfl, rfl⟩
    exact ⟨rfl, RdE.no HE.out HO.out⟩
set_option maxHeartbeats 8000000 in
set_option maxRecDepth 100000 in
theorem mKind (hT : Tags w) (hg : 0 ≠ rb) (h : Rp w rb sv (.slice ap np cp) cs zs k) :
    Calls Tryd.prog 74 #[rdV rb (.slice ap np cp)] w (RdE (fun x => .int .i64 x) rb sv zs w (kindM zs k)) := by
  have hz := h.rd.byt
  have ho0 := (Only.refl (fun _ => False) w).alloc (rdA rb (.slice ap np cp))
  have hb0 := heap_alloc_new w (rdA rb (.slice ap np cp))
  have q0 := cell_blk hb0 0
  have q1 := cell_blk hb0 1
  simp at q0 q1
  have cU := mNumber rb sv ap np cp cs zs k _ 1 (by decide) (by decide) (h.idle ho0)
  have HT0 := Lib.hid (hT.only ho0 (fun h => h))
  unfold rdV at cU ⊢
  have CU := Lib.hid cU
  have HZ := Lib.hid hz
  have HO0 := Lib.hid ho0
  clear cU h hz ho0 hb0 hT
  go_enter Tryd.func74, Tryd.ntmps74
  go_wp2_with (fail)
  refine CU.out.mono ?_
  rintro e w1 ⟨⟨n, k', hx, rfl, hr⟩ | ⟨x, hx, rfl⟩, ho⟩
  rotate_left
  · exact ⟨rfl, RdE.no (bindP_error hx) (HO0.out.rb.rbs ho)⟩
  have hv := numP_val zs k HZ.out hx
  simp only [Int.reducePow] at hv
  have HX := Lib.hid (show kindM zs k = _ from bindP_ok hx)
  have HR := Lib.hid hr
  have HO := Lib.hid (HO0.out.rb.rbs ho)
  have ht := HT0.out.only ho hg
  obtain ⟨g0, g1, g2, g3, g4, g5, g6, g7⟩ : w1.cell? ⟨0, 0, none⟩ = some (.int .u64 0) ∧ w1.cell? ⟨0, 1, none⟩ = some (.int .u64 1) ∧ w1.cell? ⟨0, 2, none⟩ = some (.int .u64 4) ∧ w1.cell? ⟨0, 3, none⟩ = some (.int .u64 5) ∧ w1.cell? ⟨0, 4, none⟩ = some (.int .u64 7) ∧ w1.cell? ⟨0, 5, none⟩ = some (.int .u64 7) ∧ w1.cell? ⟨0, 6, none⟩ = some (.int .u64 8) ∧ w1.cell? ⟨0, 7, none⟩ = some (.int .u64 6) := ⟨ht 0 (by decide), ht 1 (by decide), ht 2 (by decide), ht 3 (by decide), ht 4 (by decide), ht 5 (by decide), ht 6 (by decide), ht 7 (by decide)⟩
  clear hx hr ho HO0 CU ht HT0
  go_wp2
  have hix0 := fun w => run_tag 0 0 (by decide) (by decide) (by kernel_rfl) w
  have hix1 := fun w => run_tag 1 1 (by decide) (by decide) (by kernel_rfl) w
  have hix2 := fun w => run_tag 2 4 (by decide) (by decide) (by kernel_rfl) w
  have hix3 := fun w => run_tag 3 5 (by decide) (by decide) (by kernel_rfl) w
  have hix4 := fun w => run_tag 4 7 (by decide) (by decide) (by kernel_rfl) w
  have hix5 := fun w => run_tag 5 7 (by decide) (by decide) (by kernel_rfl) w
  have hix6 := fun w => run_tag 6 8 (by decide) (by decide) (by kernel_rfl) w
  have hix7 := fun w => run_tag 7 6 (by decide) (by decide) (by kernel_rfl) w
  go_loopw [9] (fun i wr => ∃ j : Int, 0 ≤ j ∧ j ≤ 8 ∧ i = .int .i64 j ∧ wr = w1 ∧ ∀ m : Nat, (m : Int) < j → n ≠ tagN m) (fun i _ => 8 - (intOf i).toNat)
  case atStart => exact ⟨0, by omega, by omega, rfl, rfl, fun m hm => by omega⟩
  case round =>
    obtain ⟨j, hj0, hj, rfl, rfl, hne⟩ := hrel
    have HNE := Lib.hid hne
    clear hne
    rcases (show j = 0 ∨ j = 1 ∨ j = 2 ∨ j = 3 ∨ j = 4 ∨ j = 5 ∨ j = 6 ∨ j = 7 ∨ j = 8 by omega) with rfl | rfl | rfl | rfl | rfl | rfl | rfl | rfl | rfl
    · by_cases hn : n = 0
      · subst hn
        have HE := Lib.hid (HX.out.trans (show _ = Except.ok ((0 : Int), k') by simp [retP]))
        clear HX HNE
        go_wp2
        go_ret
        exact RdE.ok (V := fun x => .int .i64 x) HE.out HR.out HO.out
      · have hb : ((0 : Int) == n) = false := by rw [beq_eq_false_iff_ne]; exact fun e => hn e.symm
        have HN1 := Lib.hid (show ∀ m : Nat, (m : Int) < 1 → n ≠ tagN m from fun m hm => by
          by_cases e : m = 0
          · subst e; exact hn
          · exact HNE.out m (by omega))
        clear hn
        go_wp2
        go_roundw
        case rel => exact ⟨1, by omega, by omega, by go_num, by first | rfl | trivial, HN1.out⟩
        case measure => simp [intOf]
    · by_cases hn : n = 1
      · subst hn
        have HE := Lib.hid (HX.out.trans (show _ = Except.ok ((1 : Int), k') by simp [retP]))
        clear HX HNE
        go_wp2
        go_ret
        exact RdE.ok (V := fun x => .int .i64 x) HE.out HR.out HO.out
      · have hb : ((1 : Int) == n) = false := by rw [beq_eq_false_iff_ne]; exact fun e => hn e.symm
        have HN1 := Lib.hid (show ∀ m : Nat, (m : Int) < 2 → n ≠ tagN m from fun m hm => by
          by_cases e : m = 1
          · subst e; exact hn
          · exact HNE.out m (by omega))
        clear hn
        go_wp2
        go_roundw
        case rel => exact ⟨2, by omega, by omega, by go_num, by first | rfl | trivial, HN1.out⟩
        case measure => simp [intOf]
    · by_cases hn : n = 4
      · subst hn
        have HE := Lib.hid (HX.out.trans (show _ = Except.ok ((2 : Int), k') by simp [retP]))
        clear HX HNE
        go_wp2
        go_ret
        exact RdE.ok (V := fun x => .int .i64 x) HE.out HR.out HO.out
      · have hb : ((4 : Int) == n) = false := by rw [beq_eq_false_iff_ne]; exact fun e => hn e.symm
        have HN1 := Lib.hid (show ∀ m : Nat, (m : Int) < 3 → n ≠ tagN m from fun m hm => by
          by_cases e : m = 2
          · subst e; exact hn
          · exact HNE.out m (by omega))
        clear hn
        go_wp2
        go_roundw
        case rel => exact ⟨3, by omega, by omega, by go_num, by first | rfl | trivial, HN1.out⟩
        case measure => simp [intOf]
    · by_cases hn : n = 5
      · subst hn
        have HE := Lib.hid (HX.out.trans (show _ = Except.ok ((3 : Int), k') by simp [retP]))
        clear HX HNE
        go_wp2
        go_ret
        exact RdE.ok (V := fun x => .int .i64 x) HE.out HR.out HO.out
      · have hb : ((5 : Int) == n) = false := by rw [beq_eq_false_iff_ne]; exact fun e => hn e.symm
        have HN1 := Lib.hid (show ∀ m : Nat, (m : Int) < 4 → n ≠ tagN m from fun m hm => by
          by_cases e : m = 3
          · subst e; exact hn
          · exact HNE.out m (by omega))
        clear hn
        go_wp2
        go_roundw
        case rel => exact ⟨4, by omega, by omega, by go_num, by first | rfl | trivial, HN1.out⟩
        case measure => simp [intOf]
    · by_cases hn : n = 7
      · subst hn
        have HE := Lib.hid (HX.out.trans (show _ = Except.ok ((4 : Int), k') by simp [retP]))
        clear HX HNE
        go_wp2
        go_ret
        exact RdE.ok (V := fun x => .int .i64 x) HE.out HR.out HO.out
      · have hb : ((7 : Int) == n) = false := by rw [beq_eq_false_iff_ne]; exact fun e => hn e.symm
        have HN1 := Lib.hid (show ∀ m : Nat, (m : Int) < 5 → n ≠ tagN m from fun m hm => by
          by_cases e : m = 4
          · subst e; exact hn
          · exact HNE.out m (by omega))
        clear hn
        go_wp2
        go_roundw
        case rel => exact ⟨5, by omega, by omega, by go_num, by first | rfl | trivial, HN1.out⟩
        case measure => simp [intOf]
    · have hn : n ≠ 7 := HNE.out 4 (by omega)
      have hb : ((7 : Int) == n) = false := by rw [beq_eq_false_iff_ne]; exact fun e => hn e.symm
      have HN1 := Lib.hid (show ∀ m : Nat, (m : Int) < 6 → n ≠ tagN m from fun m hm => by
        by_cases e : m = 5
        · subst e; exact hn
        · exact HNE.out m (by omega))
      clear hn
      go_wp2
      go_roundw
      case rel => exact ⟨6, by omega, by omega, by go_num, by first | rfl | trivial, HN1.out⟩
      case measure => simp [intOf]
    · by_cases hn : n = 8
      · subst hn
        have HE := Lib.hid (HX.out.trans (show _ = Except.ok ((6 : Int), k') by simp [retP]))
        clear HX HNE
        go_wp2
        go_ret
        exact RdE.ok (V := fun x => .int .i64 x) HE.out HR.out HO.out
      · have hb : ((8 : Int) == n) = false := by rw [beq_eq_false_iff_ne]; exact fun e => hn e.symm
        have HN1 := Lib.hid (show ∀ m : Nat, (m : Int) < 7 → n ≠ tagN m from fun m hm => by
          by_cases e : m = 6
          · subst e; exact hn
          · exact HNE.out m (by omega))
        clear hn
        go_wp2
        go_roundw
        case rel => exact ⟨7, by omega, by omega, by go_num, by first | rfl | trivial, HN1.out⟩
        case measure => simp [intOf]
    · by_cases hn : n = 6
      · subst hn
        have HE := Lib.hid (HX.out.trans (show _ = Except.ok ((7 : Int), k') by simp [retP]))
        clear HX HNE
        go_wp2
        go_ret
        exact RdE.ok (V := fun x => .int .i64 x) HE.out HR.out HO.out
      · have hb : ((6 : Int) == n) = false := by rw [beq_eq_false_iff_ne]; exact fun e => hn e.symm
        have HN1 := Lib.hid (show ∀ m : Nat, (m : Int) < 8 → n ≠ tagN m from fun m hm => by
          by_cases e : m = 7
          · subst e; exact hn
          · exact HNE.out m (by omega))
        clear hn
        go_wp2
        go_roundw
        case rel => exact ⟨8, by omega, by omega, by go_num, by first | rfl | trivial, HN1.out⟩
        case measure => simp [intOf]
    · have h0 : n ≠ 0 := HNE.out 0 (by omega)
      have h1 : n ≠ 1 := HNE.out 1 (by omega)
      have h2 : n ≠ 4 := HNE.out 2 (by omega)
      have h3 : n ≠ 5 := HNE.out 3 (by omega)
      have h4 : n ≠ 7 := HNE.out 4 (by omega)
      have h6 : n ≠ 8 := HNE.out 6 (by omega)
      have h7 : n ≠ 6 := HNE.out 7 (by omega)
      have HE := Lib.hid (HX.out.trans (show _ = Except.error (100 : Int) by simp [h0, h1, h2, h3, h4, h6, h7, failP]))
      clear h0 h1 h2 h3 h4 h6 h7 HX HNE
      go_wp2
      exact ⟨rfl, RdE.no HE.out HO.out⟩
end
end Go.Proofs.YtadgbkjjeigpjaaDoor
