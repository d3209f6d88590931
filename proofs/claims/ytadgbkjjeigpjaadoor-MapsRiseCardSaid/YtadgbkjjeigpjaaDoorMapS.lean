/- The program reads a class, a type, types of maps. No condition beyond a reader that was made. -/
import Derived.Deep.RegionHeld3
import Derived.Test.YtadgbkjjeigpjaaDoorMapP
import Derived.Test.YtadgbkjjeigpjaaDoorMapQ
import Derived.Test.YtadgbkjjeigpjaaDoorPolM
namespace Go.Proofs.YtadgbkjjeigpjaaDoor
open Go.RowKit
set_option linter.unusedVariables false
set_option linter.unusedSimpArgs false

/-- A type by its kind: of an array that of a class. -/
def ofKind (cs : List ConstV) (q : Int) : Pr TypeV := if q = 4 then classM cs else if q = 6 then bindP (placeM 0) fun a => retP ⟨6, ⟨#[]⟩, 0, 0, a⟩ else retP ⟨q, ⟨#[]⟩, 0, 0, 0⟩
theorem typeM_kind (cs : List ConstV) (zs : List Int) (k : Nat) : typeM cs zs k = bindP kindM (ofKind cs) zs k := by
  unfold typeM kindM
  cases hx : numP 1 zs k with
  | error e => rw [bindP_error hx, bindP_error (bindP_error hx)]
  | ok y =>
    obtain ⟨n, k'⟩ := y
    rw [bindP_ok hx]
    by_cases h0 : n = 0
    · rw [bindP_ok (show bindP (numP 1) _ zs k = .ok ((0 : Int), k') from (bindP_ok hx).trans (by rw [if_pos h0]; rfl)), if_pos h0]; rfl
    by_cases h1 : n = 1
    · rw [bindP_ok (show bindP (numP 1) _ zs k = .ok ((1 : Int), k') from (bindP_ok hx).trans (by rw [if_neg h0, if_pos h1]; rfl)), if_neg h0, if_pos h1]; rfl
    by_cases h4 : n = 4
    · rw [bindP_ok (show bindP (numP 1) _ zs k = .ok ((2 : Int), k') from (bindP_ok hx).trans (by rw [if_neg h0, if_neg h1, if_pos h4]; rfl)), if_neg h0, if_neg h1, if_pos h4]; rfl
    by_cases h5 : n = 5
    · rw [bindP_ok (show bindP (numP 1) _ zs k = .ok ((3 : Int), k') from (bindP_ok hx).trans (by rw [if_neg h0, if_neg h1, if_neg h4, if_pos h5]; rfl)), if_neg h0, if_neg h1, if_neg h4, if_pos h5]; rfl
    by_cases h7 : n = 7
    · rw [bindP_ok (show bindP (numP 1) _ zs k = .ok ((4 : Int), k') from (bindP_ok hx).trans (by rw [if_neg h0, if_neg h1, if_neg h4, if_neg h5, if_pos h7]; rfl)), if_neg h0, if_neg h1, if_neg h4, if_neg h5, if_neg (by omega), if_pos h7]; rfl
    by_cases h8 : n = 8
    · rw [bindP_ok (show bindP (numP 1) _ zs k = .ok ((6 : Int), k') from (bindP_ok hx).trans (by rw [if_neg h0, if_neg h1, if_neg h4, if_neg h5, if_neg h7, if_pos h8]; rfl)), if_neg h0, if_neg h1, if_neg h4, if_neg h5, if_neg (by omega), if_neg h7, if_pos h8]; rfl
    by_cases h6 : n = 6
    · rw [bindP_ok (show bindP (numP 1) _ zs k = .ok ((7 : Int), k') from (bindP_ok hx).trans (by rw [if_neg h0, if_neg h1, if_neg h4, if_neg h5, if_neg h7, if_neg h8, if_pos h6]; rfl)), if_neg h0, if_neg h1, if_neg h4, if_neg h5, if_pos h6]; rfl
    · rw [bindP_error (show bindP (numP 1) _ zs k = .error 100 from (bindP_ok hx).trans (by rw [if_neg h0, if_neg h1, if_neg h4, if_neg h5, if_neg h7, if_neg h8, if_neg h6]; rfl)), if_neg h0, if_neg h1, if_neg h4, if_neg h5, if_neg h6, if_neg h7, if_neg h8]; rfl
theorem RdE.okN {α : Type} {V : α → Value} {rb : Nat} {sv : Value} {zs : List Int} {w0 w w' : World} {r : Except Int (α × Nat)} {a : α} {k : Nat} (he : r = .ok (a, k)) (h : Rd w rb sv zs k) (ho : Only (fun j => j = rb) w0 w) (hl : rb < w0.heap.size ∧ ∀ j, sv.ownBlock = some j → j < w0.heap.size) (h2 : Only (fun j => w0.heap.size ≤ j) w w') : RdE V rb sv zs w0 r (.returned (V a)) w' :=
  RdE.ok he (h.only h2 (by omega) (fun j hj e => by have := hl.2 j hj; omega)) (ho.trans h2 (fun i hi hl => absurd hl (by omega)))

section
variable (rb : Nat) (sv : Value) (ap : Option Addr) (np cp : Nat) (cs : List ConstV) (zs : List Int) (k : Nat) (w : World)
set_option maxHeartbeats 8000000 in
set_option maxRecDepth 100000 in
theorem mClass (h : Rp w rb sv (.slice ap np cp) cs zs k) :
    Calls Tryd.prog 75 #[rdV rb (.slice ap np cp)] w (RdE valT rb sv zs w (classM cs zs k)) := by
  have hl := h.rd.lt
  have ho1 := ((Only.refl (fun _ => False) w).alloc (rdA rb (.slice ap np cp))).alloc (.cells #[.int .i64 0, .string ⟨#[]⟩, .int .i64 0, .int .i64 0, .int .i64 0] 39)
  have q0 := ((Only.refl (fun _ => False) (w.alloc (rdA rb (.slice ap np cp)))).alloc (.cells #[.int .i64 0, .string ⟨#[]⟩, .int .i64 0, .int .i64 0, .int .i64 0] 39)).cell (cell_blk (heap_alloc_new w (rdA rb (.slice ap np cp))) 0) (fun h => h)
  have q1 := ((Only.refl (fun _ => False) (w.alloc (rdA rb (.slice ap np cp)))).alloc (.cells #[.int .i64 0, .string ⟨#[]⟩, .int .i64 0, .int .i64 0, .int .i64 0] 39)).cell (cell_blk (heap_alloc_new w (rdA rb (.slice ap np cp))) 1) (fun h => h)
  have hs1 : (w.alloc (rdA rb (.slice ap np cp))).heap.size = w.heap.size + 1 := by simp
  have hr0 := heap_alloc_new (w.alloc (rdA rb (.slice ap np cp))) (.cells #[.int .i64 0, .string ⟨#[]⟩, .int .i64 0, .int .i64 0, .int .i64 0] 39)
  rw [hs1] at hr0
  have q0 : _ = some (Value.pointer (some ⟨rb, 0, none⟩)) := q0
  have q1 : _ = some (Value.slice ap np cp) := q1
  have HW := Lib.hid (h.idle ho1)
  have HO := Lib.hid ho1
  have HR0 := Lib.hid hr0
  have NR := Lib.hid (show ¬ (w.heap.size + 1 = rb) by omega)
  have NQ := Lib.hid (show ¬ (w.heap.size = rb) by omega)
  have HL := Lib.hid hl
  clear h ho1 hs1 hr0 hl
  unfold rdV
  go_enter Tryd.func75, Tryd.ntmps75
  go_wp2_with (fail)
  cases hx : numP 2 zs k with
  | error x =>
    have HX := Lib.hid hx
    clear hx
    refine wp_region_held_drew (S := fun wc => wc.cell? ⟨w.heap.size, 0, none⟩ = some (.pointer (some ⟨rb, 0, none⟩)) ∧ wc.cell? ⟨w.heap.size, 1, none⟩ = some (.slice ap np cp)) (by kernel_rfl) ⟨q0, q1⟩ (fun hHeld => ?_)
    refine wpAnyH_take (i := 0) (v := ?_) (by simp only [List.getElem?_toArray, List.getElem?_cons_succ, List.getElem?_cons_zero]; rfl) (by kernel_rfl) (by kernel_rfl) (by kernel_rfl) (by exact fun _ _ _ h => h) (Or.inl ⟨by rfl, ?_⟩) (by assumption) ?_
    rotate_left 1
    · (intro w hSw; (try dsimp only at hSw); go_simp; try with_reducible rfl)
    try simp only [Act.put, List.setIfInBounds_toArray, List.set_cons_zero, List.set_cons_succ]
    refine wpAnyH_take (i := 1) (v := ?_) (by simp only [List.getElem?_toArray, List.getElem?_cons_succ, List.getElem?_cons_zero]; rfl) (by kernel_rfl) (by kernel_rfl) (by kernel_rfl) (by exact fun _ _ _ h => h) (Or.inl ⟨by rfl, ?_⟩) (by assumption) ?_
    rotate_left 1
    · (intro w hSw; (try dsimp only at hSw); go_simp; try with_reducible rfl)
    try simp only [Act.put, List.setIfInBounds_toArray, List.set_cons_zero, List.set_cons_succ]
    refine wpAnyH_take (i := 2) (v := ?_) (by simp only [List.getElem?_toArray, List.getElem?_cons_succ, List.getElem?_cons_zero]; rfl) (by kernel_rfl) (by kernel_rfl) (by kernel_rfl) (by exact fun _ _ _ h => h) (Or.inl ⟨by rfl, ?_⟩) (by assumption) ?_
    rotate_left 1
    · (intro w hSw; (try dsimp only at hSw); go_simp; try with_reducible rfl)
    try simp only [Act.put, List.setIfInBounds_toArray, List.set_cons_zero, List.set_cons_succ]
    refine wpAnyH_ready (rs := [3]) (by kernel_rfl) (by simp) ?_
    refine AllReadyH.cons (by simp only [List.getElem?_toArray, List.getElem?_cons_succ, List.getElem?_cons_zero]; rfl) (fun K hK => ?_) AllReadyH.nil
    go_simp
    refine (mShort rb sv ap np cp cs zs k _ (HW.out.idle (Only.refl (fun _ => False) _).drew)).mono ?_
    rintro e w1 ⟨⟨i, k', h1, rfl, hr⟩ | ⟨x1, h1, rfl⟩, ho⟩
    · rw [HX.out] at h1; cases h1
    · rw [HX.out] at h1
      injection h1 with h1
      subst h1
      exact ⟨rfl, RdE.no (bindP_error HX.out) ((HO.out.trans (Only.refl (fun _ => False) _).drew (fun _ h _ => h)).rb.rbs ho)⟩
  | ok y =>
    obtain ⟨i, k'⟩ := y
    have HX := Lib.hid hx
    clear hx
    refine wp_region_held_drew (S := fun wc => wc.cell? ⟨w.heap.size, 0, none⟩ = some (.pointer (some ⟨rb, 0, none⟩)) ∧ wc.cell? ⟨w.heap.size, 1, none⟩ = some (.slice ap np cp)) (by kernel_rfl) ⟨q0, q1⟩ (fun hHeld => ?_)
    refine wpAnyH_take (i := 0) (v := ?_) (by simp only [List.getElem?_toArray, List.getElem?_cons_succ, List.getElem?_cons_zero]; rfl) (by kernel_rfl) (by kernel_rfl) (by kernel_rfl) (by exact fun _ _ _ h => h) (Or.inl ⟨by rfl, ?_⟩) (by assumption) ?_
    rotate_left 1
    · (intro w hSw; (try dsimp only at hSw); go_simp; try with_reducible rfl)
    try simp only [Act.put, List.setIfInBounds_toArray, List.set_cons_zero, List.set_cons_succ]
    refine wpAnyH_take (i := 1) (v := ?_) (by simp only [List.getElem?_toArray, List.getElem?_cons_succ, List.getElem?_cons_zero]; rfl) (by kernel_rfl) (by kernel_rfl) (by kernel_rfl) (by exact fun _ _ _ h => h) (Or.inl ⟨by rfl, ?_⟩) (by assumption) ?_
    rotate_left 1
    · (intro w hSw; (try dsimp only at hSw); go_simp; try with_reducible rfl)
    try simp only [Act.put, List.setIfInBounds_toArray, List.set_cons_zero, List.set_cons_succ]
    refine wpAnyH_take (i := 2) (v := ?_) (by simp only [List.getElem?_toArray, List.getElem?_cons_succ, List.getElem?_cons_zero]; rfl) (by kernel_rfl) (by kernel_rfl) (by kernel_rfl) (by exact fun _ _ _ h => h) (Or.inl ⟨by rfl, ?_⟩) (by assumption) ?_
    rotate_left 1
    · (intro w hSw; (try dsimp only at hSw); go_simp; try with_reducible rfl)
    try simp only [Act.put, List.setIfInBounds_toArray, List.set_cons_zero, List.set_cons_succ]
    refine wpAnyH_ready (rs := [3]) (by kernel_rfl) (by simp) ?_
    refine AllReadyH.cons (by simp only [List.getElem?_toArray, List.getElem?_cons_succ, List.getElem?_cons_zero]; rfl) (fun K hK => ?_) AllReadyH.nil
    go_simp
    (refine (mShort rb sv ap np cp cs zs k _ (HW.out.idle (Only.refl (fun _ => False) _).drew)).mono ?_; rintro e w1 ⟨h, ho⟩; obtain ⟨i', k'', h1, rfl, hr⟩ : ∃ i' k'', numP 2 zs k = .ok (i', k'') ∧ e = .returned (.int .i64 i') ∧ Rd w1 rb sv zs k'' := (h.resolve_right (fun ⟨x, hx, _⟩ => by rw [HX.out] at hx; cases hx)); rw [HX.out] at h1; injection h1 with h1; injection h1 with h1 h2; subst h1 h2; have ho' := (Only.refl (fun _ => False) _).drew.rb.rbs ho; have HRP := Lib.hid (HW.out.read ho' hr); have HO1 := Lib.hid (HO.out.rb.rbs ho'); have HR1 := Lib.hid (ho'.heap HR0.out NR.out); have HQ := Lib.hid (And.intro (ho'.cell q0 NQ.out) (ho'.cell q1 NQ.out)); clear h hr ho ho' HW HO HR0)
    go_wp2_with fail
    refine hK.out _ _ ?_ (fun hHeld2 => ?_)
    · exact HQ.out
    clear hK K
    try simp only [Act.put, List.setIfInBounds_toArray, List.set_cons_zero, List.set_cons_succ]
    clear hHeld
    have hHeld := hHeld2
    clear hHeld2
    refine wpAnyH_ready (rs := [4]) (by kernel_rfl) (by simp) ?_
    refine AllReadyH.cons (by simp only [List.getElem?_toArray, List.getElem?_cons_succ, List.getElem?_cons_zero]; rfl) (fun K hK => ?_) AllReadyH.nil
    go_simp
    (refine (progClass _ cs i w1 HRP.out.pool).mono ?_; rintro e w2 ⟨rfl, ho2⟩; have HRP2 := Lib.hid (HRP.out.idle ho2); have HO2 := Lib.hid (HO1.out.trans ho2 (fun _ h => h.elim)); have HR2 := Lib.hid (ho2.heap HR1.out (fun h => h)); have HQ2 := Lib.hid (And.intro (ho2.cell HQ.out.1 (fun h => h)) (ho2.cell HQ.out.2 (fun h => h))); clear ho2 HRP HO1 HR1)
    go_wp2_with fail
    refine hK.out _ _ ?_ (fun hHeld2 => ?_)
    · exact HQ2.out
    clear hK K
    try simp only [Act.put, List.setIfInBounds_toArray, List.set_cons_zero, List.set_cons_succ]
    clear hHeld
    have hHeld := hHeld2
    clear hHeld2
    refine wpAnyH_take (i := 5) (v := ?_) (by simp only [List.getElem?_toArray, List.getElem?_cons_succ, List.getElem?_cons_zero]; rfl) (by kernel_rfl) (by kernel_rfl) (by kernel_rfl) (by exact fun _ _ _ h => h) (Or.inl ⟨by rfl, ?_⟩) (by assumption) ?_
    rotate_left 1
    · (intro w hSw; (try dsimp only at hSw); go_simp; try with_reducible rfl)
    try simp only [Act.put, List.setIfInBounds_toArray, List.set_cons_zero, List.set_cons_succ]
    refine wpAnyH_take (i := 6) (v := ?_) (by simp only [List.getElem?_toArray, List.getElem?_cons_succ, List.getElem?_cons_zero]; rfl) (by kernel_rfl) (by kernel_rfl) (by kernel_rfl) (by exact fun _ _ _ h => h) (Or.inl ⟨by rfl, ?_⟩) (by assumption) ?_
    rotate_left 1
    · (intro w hSw; (try dsimp only at hSw); go_simp; try with_reducible rfl)
    try simp only [Act.put, List.setIfInBounds_toArray, List.set_cons_zero, List.set_cons_succ]
    refine wpAnyH_take (i := 7) (v := ?_) (by simp only [List.getElem?_toArray, List.getElem?_cons_succ, List.getElem?_cons_zero]; rfl) (by kernel_rfl) (by kernel_rfl) (by kernel_rfl) (by exact fun _ _ _ h => h) (Or.inl ⟨by rfl, ?_⟩) (by assumption) ?_
    rotate_left 1
    · (intro w hSw; (try dsimp only at hSw); go_simp; try with_reducible rfl)
    try simp only [Act.put, List.setIfInBounds_toArray, List.set_cons_zero, List.set_cons_succ]
    refine wpAnyH_take (i := 8) (v := ?_) (by simp only [List.getElem?_toArray, List.getElem?_cons_succ, List.getElem?_cons_zero]; rfl) (by kernel_rfl) (by kernel_rfl) (by kernel_rfl) (by exact fun _ _ _ h => h) (Or.inl ⟨by rfl, ?_⟩) (by assumption) ?_
    rotate_left 1
    · (intro w hSw; (try dsimp only at hSw); go_simp; try with_reducible rfl)
    try simp only [Act.put, List.setIfInBounds_toArray, List.set_cons_zero, List.set_cons_succ]
    refine wpAnyH_take (i := 9) (v := ?_) (by simp only [List.getElem?_toArray, List.getElem?_cons_succ, List.getElem?_cons_zero]; rfl) (by kernel_rfl) (by kernel_rfl) (by kernel_rfl) (by exact fun _ _ _ h => h) (Or.inl ⟨by rfl, ?_⟩) (by assumption) ?_
    rotate_left 1
    · (intro w hSw; (try dsimp only at hSw); go_simp; try with_reducible rfl)
    try simp only [Act.put, List.setIfInBounds_toArray, List.set_cons_zero, List.set_cons_succ]
    refine wpAnyH_done (by kernel_rfl) ?_ _
    have hsm := class_small HRP2.out.pool i
    have HE := Lib.hid (show classM cs zs k = (match typeN (classZ cs i).1 with | some t => .ok (t, k') | none => .error 100) from bindP_ok HX.out)
    obtain ⟨s, okb, hcz⟩ : ∃ s okb, classZ cs i = (s, okb) := ⟨_, _, rfl⟩
    rw [hcz] at hsm HE ⊢
    simp only at hsm HE ⊢
    have cT := fun w => progMType s w hsm
    unfold TypeTo at cT
    cases hot : typeN s with
    | none =>
      simp only [hot] at cT HE
      have cT' : ∀ w, Calls Tryd.prog 19 #[.string s] w fun e w' => e = .returned (.tuple #[.agg #[.int .i64 0, .string ⟨#[]⟩, .int .i64 0, .int .i64 0, .int .i64 0], .bool false]) ∧ Only (fun _ => False) w w' := cT
      have CT := Lib.hid cT'
      clear cT cT' hot hcz hsm
      go_wp2_with (fail)
      refine (CT.out _).mono ?_
      rintro e w3 ⟨rfl, ho3⟩
      have HO3 := Lib.hid ((HO2.out.trans ho3 (fun _ h => h.elim)).alloc (.cells #[.int .i64 0, .string ⟨#[]⟩, .int .i64 0, .int .i64 0, .int .i64 0] 39))
      clear ho3 CT
      go_wp2_with (fail)
      refine (mMustF _).mono ?_
      rintro e w4 ⟨rfl, rfl⟩
      exact ⟨rfl, RdE.no HE.out HO3.out⟩
    | some t =>
      simp only [hot] at cT HE
      have cT' : ∀ w, Calls Tryd.prog 19 #[.string s] w fun e w' => e = .returned (.tuple #[.agg #[.int .i64 t.k, .string t.name, .int .i64 t.dims, .int .i64 t.elem, .int .i64 t.at_], .bool true]) ∧ Only (fun _ => False) w w' := cT
      have CT := Lib.hid cT'
      clear cT cT' hot hcz hsm
      go_wp2_with (fail)
      refine (CT.out _).mono ?_
      rintro e w3 ⟨rfl, ho3⟩
      have hal := (Only.refl (fun _ => False) w3).alloc (.cells #[.int .i64 t.k, .string t.name, .int .i64 t.dims, .int .i64 t.elem, .int .i64 t.at_] 39)
      have hTB := cells5T (heap_alloc_new w3 (.cells #[.int .i64 t.k, .string t.name, .int .i64 t.dims, .int .i64 t.elem, .int .i64 t.at_] 39))
      have HRP3 := Lib.hid ((HRP2.out.idle ho3).idle hal)
      have HO3 := Lib.hid ((HO2.out.trans ho3 (fun _ h => h.elim)).trans hal (fun _ h => h.elim))
      have hr3 := hal.heap (ho3.heap HR2.out (fun h => h)) (fun h => h)
      obtain ⟨d0, d1, d2, d3, d4⟩ := hTB
      obtain ⟨g0, g1, g2, g3, g4⟩ := marks5T hr3
      obtain ⟨c0, c1, c2, c3, c4⟩ := cells5T hr3
      have HR3 := Lib.hid hr3
      clear ho3 CT hal hr3 HR2 HRP2 HO2
      go_wp2_with (fail)
      refine (mMustT _).mono ?_
      rintro e w4 ⟨rfl, rfl⟩
      go_wp2
      exact bodyPost_ret (type_aloneP (t := t) (b := w.heap.size + 1) Tryd.results75 (store5T HR3.out) rfl) rfl (RdE.okN (V := valT) HE.out HRP3.out.rd HO3.out HL.out (only5T (S := fun j => w.heap.size ≤ j) (b := w.heap.size + 1) (Only.refl _ _) (fun _ => Nat.le_succ _)))
set_option maxHeartbeats 8000000 in
set_option maxRecDepth 100000 in
theorem mOneType (hT : Tags w) (hg : 0 ≠ rb) (h : Rp w rb sv (.slice ap np cp) cs zs k) :
    Calls Tryd.prog 60 #[rdV rb (.slice ap np cp)] w (RdE valT rb sv zs w (typeM cs zs k)) := by
  have hl := h.rd.lt
  have ho1 := ((Only.refl (fun _ => False) w).alloc (rdA rb (.slice ap np cp))).alloc (.cells #[.int .i64 0, .string ⟨#[]⟩, .int .i64 0, .int .i64 0, .int .i64 0] 39)
  have q0 := ((Only.refl (fun _ => False) (w.alloc (rdA rb (.slice ap np cp)))).alloc (.cells #[.int .i64 0, .string ⟨#[]⟩, .int .i64 0, .int .i64 0, .int .i64 0] 39)).cell (cell_blk (heap_alloc_new w (rdA rb (.slice ap np cp))) 0) (fun h => h)
  have q1 := ((Only.refl (fun _ => False) (w.alloc (rdA rb (.slice ap np cp)))).alloc (.cells #[.int .i64 0, .string ⟨#[]⟩, .int .i64 0, .int .i64 0, .int .i64 0] 39)).cell (cell_blk (heap_alloc_new w (rdA rb (.slice ap np cp))) 1) (fun h => h)
  have hs1 : (w.alloc (rdA rb (.slice ap np cp))).heap.size = w.heap.size + 1 := by simp
  have hr0 := heap_alloc_new (w.alloc (rdA rb (.slice ap np cp))) (.cells #[.int .i64 0, .string ⟨#[]⟩, .int .i64 0, .int .i64 0, .int .i64 0] 39)
  rw [hs1] at hr0
  have q0 : _ = some (Value.pointer (some ⟨rb, 0, none⟩)) := q0
  have q1 : _ = some (Value.slice ap np cp) := q1
  have cK := mKind rb sv ap np cp cs zs k _ (hT.only ho1 (fun h => h)) hg (h.idle ho1)
  unfold rdV at cK ⊢
  have CK := Lib.hid cK
  have HW := Lib.hid (h.idle ho1)
  have HO := Lib.hid ho1
  have HR0 := Lib.hid hr0
  have NR := Lib.hid (show ¬ (w.heap.size + 1 = rb) by omega)
  have NQ := Lib.hid (show ¬ (w.heap.size = rb) by omega)
  have HL := Lib.hid hl
  have hTM := typeM_kind cs zs k
  have HTM := Lib.hid hTM
  clear h ho1 hs1 hr0 hl cK hTM
  go_enter Tryd.func60, Tryd.ntmps60
  go_wp2_with (fail)
  refine CK.out.mono ?_
  rintro e w1 ⟨⟨q, k', hx, rfl, hr⟩ | ⟨x, hx, rfl⟩, ho⟩
  rotate_left
  · exact ⟨rfl, RdE.no (HTM.out.trans (bindP_error hx)) (HO.out.rb.rbs ho)⟩
  have HX := Lib.hid (HTM.out.trans (bindP_ok hx))
  have hal := (Only.refl (fun _ => False) w1).alloc (.cells #[.int .i64 q, .string ⟨#[]⟩, .int .i64 0, .int .i64 0, .int .i64 0] 39)
  have HRP1 := Lib.hid ((HW.out.read ho hr).idle hal)
  have HO1 := Lib.hid ((HO.out.rb.rbs ho).trans hal (fun _ h => h.elim))
  have hr1 := hal.heap (ho.heap HR0.out NR.out) (fun h => h)
  have hb1 := heap_alloc_new w1 (.cells #[.int .i64 q, .string ⟨#[]⟩, .int .i64 0, .int .i64 0, .int .i64 0] 39)
  have q01 := hal.cell (ho.cell q0 NQ.out) (fun h => h)
  have q11 := hal.cell (ho.cell q1 NQ.out) (fun h => h)
  have HSZ := Lib.hid (show w.heap.size + 1 < w1.heap.size from by have a := heap_lt (ho.heap HR0.out NR.out); omega)
  have NB := Lib.hid (show ¬ w1.heap.size = rb from by have a := HSZ.out; have b := HL.out.1; omega)
  obtain ⟨g0, g1, g2, g3, g4⟩ := marks5T hr1
  obtain ⟨c0, c1, c2, c3, c4⟩ := cells5T hr1
  obtain ⟨d0, d1, d2, d3, d4⟩ := cells5T hb1
  obtain ⟨f0, f1, f2, f3, f4⟩ := marks5T hb1
  have HR1 := Lib.hid hr1
  have HB1 := Lib.hid hb1
  clear hx hr ho hal hr1 hb1 CK HTM HW HO HR0 q0 q1
  by_cases h4 : q = 4
  · subst h4
    have cC := mClass rb sv ap np cp cs zs k' _ HRP1.out
    unfold rdV at cC
    have CC := Lib.hid cC
    clear cC
    go_wp2_with (fail)
    refine CC.out.mono ?_
    rintro e w2 ⟨⟨t, k2, hx2, rfl, hr2⟩ | ⟨x, hx2, rfl⟩, ho2⟩
    rotate_left
    · exact ⟨rfl, RdE.no (HX.out.trans (show ofKind cs 4 zs k' = .error x from hx2)) (HO1.out.rbs ho2)⟩
    have HE := Lib.hid (HX.out.trans (show ofKind cs 4 zs k' = .ok (t, k2) from hx2))
    have HRP2 := Lib.hid (HRP1.out.read ho2 hr2)
    have HO2 := Lib.hid (HO1.out.rbs ho2)
    have hr3 := ho2.heap HR1.out NR.out
    have hb3 := ho2.heap HB1.out NB.out
    obtain ⟨g0, g1, g2, g3, g4⟩ := marks5T hr3
    obtain ⟨c0, c1, c2, c3, c4⟩ := cells5T hr3
    obtain ⟨d0, d1, d2, d3, d4⟩ := cells5T hb3
    obtain ⟨f0, f1, f2, f3, f4⟩ := marks5T hb3
    have HR3 := Lib.hid (store5T (a0 := .int .i64 t.k) (a1 := .string t.name) (a2 := .int .i64 t.dims) (a3 := .int .i64 t.elem) (a4 := .int .i64 t.at_) hb3)
    have HR4 := Lib.hid hr3
    have hne1 : ¬ (w1.heap.size = w.heap.size + 1) := by have := HSZ.out; omega
    have hne2 : ¬ (w.heap.size + 1 = w1.heap.size) := by have := HSZ.out; omega
    have HTT := Lib.hid (show w.heap.size ≤ w1.heap.size ∧ w.heap.size ≤ w.heap.size + 1 from ⟨by have := HSZ.out; omega, Nat.le_succ _⟩)
    clear hx2 hr2 ho2 hr3 hb3 HR1 HB1 HRP1 HO1 CC
    clear q01 q11 NQ HSZ NB
    obtain ⟨tb, htb⟩ : ∃ tb, w1.heap.size = tb := ⟨_, rfl⟩
    obtain ⟨tr, htr⟩ : ∃ tr, w.heap.size + 1 = tr := ⟨_, rfl⟩
    simp only [htb, htr] at *
    unfold valT
    go_wp2
    have hr5 := (only5T (S := fun j => j = tb) (a0 := .int .i64 t.k) (a1 := .string t.name) (a2 := .int .i64 t.dims) (a3 := .int .i64 t.elem) (a4 := .int .i64 t.at_) (Only.refl _ w2) (fun _ => rfl)).heap HR4.out hne2
    exact bodyPost_ret (type_aloneP (t := t) (b := tr) Tryd.results60 (store5T hr5) rfl) rfl (RdE.okN (V := valT) HE.out HRP2.out.rd HO2.out HL.out (only5T (b := tr) (only5T (b := tb) (Only.refl _ w2) (fun _ => HTT.out.1)) (fun _ => HTT.out.2)))
  have b4 : (q == 4) = false := by rw [beq_eq_false_iff_ne]; exact h4
  by_cases h6 : q = 6
  · subst h6
    have cC := mPlace rb sv ap np cp cs zs k' _ 0 (by decide) (by decide) HRP1.out
    unfold rdV at cC
    have CC := Lib.hid cC
    clear cC
    go_wp2_with (fail)
    refine CC.out.mono ?_
    rintro e w2 ⟨⟨a, k2, hx2, rfl, hr2⟩ | ⟨x, hx2, rfl⟩, ho2⟩
    rotate_left
    · exact ⟨rfl, RdE.no (HX.out.trans (show ofKind cs 6 zs k' = .error x from bindP_error hx2)) (HO1.out.rbs ho2)⟩
    have HE := Lib.hid (HX.out.trans (show ofKind cs 6 zs k' = .ok (⟨6, ⟨#[]⟩, 0, 0, a⟩, k2) from bindP_ok hx2))
    have HRP2 := Lib.hid (HRP1.out.read ho2 hr2)
    have HO2 := Lib.hid (HO1.out.rbs ho2)
    have hr3 := ho2.heap HR1.out NR.out
    have hb3 := ho2.heap HB1.out NB.out
    obtain ⟨g0, g1, g2, g3, g4⟩ := marks5T hr3
    obtain ⟨c0, c1, c2, c3, c4⟩ := cells5T hr3
    obtain ⟨d0, d1, d2, d3, d4⟩ := cells5T hb3
    obtain ⟨f0, f1, f2, f3, f4⟩ := marks5T hb3
    have HR4 := Lib.hid hr3
    have hne1 : ¬ (w1.heap.size = w.heap.size + 1) := by have := HSZ.out; omega
    have hne2 : ¬ (w.heap.size + 1 = w1.heap.size) := by have := HSZ.out; omega
    have HTT := Lib.hid (show w.heap.size ≤ w1.heap.size ∧ w.heap.size ≤ w.heap.size + 1 from ⟨by have := HSZ.out; omega, Nat.le_succ _⟩)
    clear hx2 hr2 ho2 hr3 hb3 HR1 HB1 HRP1 HO1 CC
    clear q01 q11 NQ HSZ NB
    obtain ⟨tb, htb⟩ : ∃ tb, w1.heap.size = tb := ⟨_, rfl⟩
    obtain ⟨tr, htr⟩ : ∃ tr, w.heap.size + 1 = tr := ⟨_, rfl⟩
    simp only [htb, htr] at *
    go_wp2
    have hr5 := ((Only.refl (fun j => j = tb) w2).setCell (p := ⟨tb, 4, none⟩) (fun _ => rfl) (.int .i64 a)).heap HR4.out hne2
    exact bodyPost_ret (type_aloneP (t := ⟨6, ⟨#[]⟩, 0, 0, a⟩) (b := tr) Tryd.results60 (store5T hr5) rfl) rfl (RdE.okN (V := valT) HE.out HRP2.out.rd HO2.out HL.out (only5T (b := tr) ((Only.refl (fun j => w.heap.size ≤ j) w2).setCell (p := ⟨tb, 4, none⟩) (fun _ => HTT.out.1) (.int .i64 a)) (fun _ => HTT.out.2)))
  · have b6 : (q == 6) = false := by rw [beq_eq_false_iff_ne]; exact h6
    have HE := Lib.hid (HX.out.trans (show ofKind cs q zs k' = .ok (⟨q, ⟨#[]⟩, 0, 0, 0⟩, k') by unfold ofKind; rw [if_neg h4, if_neg h6]; rfl))
    clear h4 h6 HX NR NQ NB q01 q11 f0 f1 f2 f3 f4
    have hne1 : ¬ (w1.heap.size = w.heap.size + 1) := by have := HSZ.out; omega
    have hne2 : ¬ (w.heap.size + 1 = w1.heap.size) := by have := HSZ.out; omega
    go_wp2
    have hr5 := store5T (a0 := .int .i64 q) (a1 := .string ⟨#[]⟩) (a2 := .int .i64 0) (a3 := .int .i64 0) (a4 := .int .i64 0) HR1.out
    exact bodyPost_ret (type_aloneP (t := ⟨q, ⟨#[]⟩, 0, 0, 0⟩) (b := w.heap.size + 1) Tryd.results60 hr5 rfl) rfl (RdE.okN (V := valT) HE.out HRP1.out.rd HO1.out HL.out (only5T (b := w.heap.size + 1) (Only.refl _ _) (fun _ => Nat.le_succ _)))
/-- What reading a list of types leaves: the types in new memory. -/
def RdT (rb : Nat) (sv : Value) (zs : List Int) (w : World) (r : Except Int (List TypeV × Nat)) (e : Ending) (w' : World) : Prop :=
  ((∃ l k v, r = .ok (l, k) ∧ e = .returned v ∧ Rd w' rb sv zs k ∧ TRow w' w.heap.size v l) ∨ (∃ x, r = .error x ∧ e = pan x)) ∧ Only (fun j => j = rb) w w'
set_option maxHeartbeats 8000000 in
set_option maxRecDepth 100000 in
theorem mTypes (hT : Tags w) (hg : 0 ≠ rb) (hgl : 0 < w.heap.size) (h : Rp w rb sv (.slice ap np cp) cs zs k) :
    Calls Tryd.prog 48 #[rdV rb (.slice ap np cp)] w (RdT rb sv zs w (typesM cs zs k)) := by
  obtain ⟨i0, hi, hz0, hz1, hz2⟩ := info_parts info_type
  have hl := h.rd.lt
  have hz := h.rd.byt
  have hpl := Pool.lt h.pool
  have ho1 := (Only.refl (fun _ => False) w).alloc (rdA rb (.slice ap np cp))
  have hb := heap_alloc_new w (rdA rb (.slice ap np cp))
  have q0 : _ = some (Value.pointer (some ⟨rb, 0, none⟩)) := cell_blk hb 0
  have q1 : _ = some (Value.slice ap np cp) := cell_blk hb 1
  have cS := mShort rb sv ap np cp cs zs k _ (h.idle ho1)
  unfold rdV at cS ⊢
  have CS := Lib.hid cS
  have HW := Lib.hid (h.idle ho1)
  have HT0 := Lib.hid (hT.only ho1 (fun h => h))
  have HO := Lib.hid ho1
  have HBX := Lib.hid hb
  have HZ := Lib.hid hz
  have HPL := Lib.hid hpl
  have NQ := Lib.hid (show ¬ (w.heap.size = rb) by omega)
  have HL := Lib.hid hl
  clear h ho1 hb hl cS hz hT hpl
  go_enter Tryd.func48, Tryd.ntmps48
  go_wp2_with (fail)
  refine CS.out.mono ?_
  rintro e w1 ⟨⟨x, k1, hx, rfl, hr⟩ | ⟨x, hx, rfl⟩, ho⟩
  rotate_left
  · exact ⟨rfl, .inr ⟨x, bindP_error hx, rfl⟩, HO.out.rb.rbs ho⟩
  have hv := numP_val zs k HZ.out hx
  simp only [Int.reducePow] at hv
  obtain ⟨mm, rfl⟩ : ∃ mm : Nat, x = mm := ⟨x.toNat, by omega⟩
  have HX := Lib.hid (show typesM cs zs k = _ from bindP_ok hx)
  have HRP1 := Lib.hid (HW.out.read ho hr)
  have HT1 := Lib.hid (HT0.out.only ho hg)
  have HO1 := Lib.hid (HO.out.rb.rbs ho)
  have HBX1 := Lib.hid (ho.heap HBX.out NQ.out)
  clear hx hr ho HW HT0 HO HBX CS q0 q1
  by_cases h64 : (mm : Int) ≤ 64
  rotate_left
  · have HE := Lib.hid (HX.out.trans (show bindP (mustM (decide ((mm : Int) ≤ 64))) (fun _ => listP (typeM cs) (mm : Int).toNat) zs k1 = .error 100 by rw [decide_eq_false h64]; rfl))
    have hd : decide ((mm : Int) ≤ 64) = false := decide_eq_false h64
    go_wp2_with (fail)
    refine (mMustF _).mono ?_
    rintro e w4 ⟨rfl, rfl⟩
    exact ⟨rfl, .inr ⟨_, HE.out, rfl⟩, HO1.out⟩
  have HE := Lib.hid (HX.out.trans (show bindP (mustM (decide ((mm : Int) ≤ 64))) (fun _ => listP (typeM cs) (mm : Int).toNat) zs k1 = listP (typeM cs) mm zs k1 by rw [decide_eq_true h64]; rfl))
  clear HX
  go_wp2_with (fail)
  refine (mMustT _).mono ?_
  rintro e w4 ⟨rfl, rfl⟩
  go_wp2
  go_loopw [11, 4] (fun iv lv wr => ∃ (ts : List TypeV) (kk : Nat), iv = .int .i64 ts.length ∧ ts.length ≤ mm ∧ ListTo (typeM cs) mm zs k1 ts kk ∧ TRow wr (w.heap.size + 1) lv ts ∧ Rp wr rb sv (.slice ap np cp) cs zs kk ∧ Tags wr ∧ Only (fun j => j = rb) w wr ∧ wr.heap[w.heap.size]? = some (rdA rb (.slice ap np cp))) (fun iv _ _ => mm - (intOf iv).toNat)
  case atStart => exact ⟨[], k1, rfl, Nat.zero_le _, .start, TRow.nil _ _, HRP1.out, HT1.out, HO1.out, HBX1.out⟩
  case round =>
    obtain ⟨ts, kk, rfl, hle, hto, hrow, hrp, htg, hon, hbx⟩ := hrel
    obtain ⟨al, cl, rfl, l1, l2, l3, -⟩ := id hrow.types
    have q0 : _ = some (Value.pointer (some ⟨rb, 0, none⟩)) := cell_blk hbx 0
    have q1 : _ = some (Value.slice ap np cp) := cell_blk hbx 1
    have HTO := Lib.hid hto
    have HROW := Lib.hid hrow
    have HRP := Lib.hid hrp
    have HTG := Lib.hid htg
    have HON := Lib.hid hon
    have HBX := Lib.hid hbx
    clear hto hrow hrp htg hon hbx l3 HRP1 HT1 HO1 HBX1
    by_cases hlt : ts.length < mm
    · have hltz : (ts.length : Int) < (mm : Int) := by omega
      have cO := mOneType rb sv ap np cp cs zs kk wr HTG.out hg HRP.out
      unfold rdV valT at cO
      have CO := Lib.hid cO
      clear cO
      go_wp2_with (fail)
      refine CO.out.mono ?_
      rintro e w3 ⟨⟨u, k2, hx2, rfl, hr2⟩ | ⟨x, hx2, rfl⟩, ho3⟩
      rotate_left
      · exact ⟨rfl, .inr ⟨_, HE.out.trans (HTO.out.fail hlt hx2), rfl⟩, HON.out.rbs ho3⟩
      have HTO2 := Lib.hid (HTO.out.more hlt hx2)
      have hal := (Only.refl (fun _ => False) w3).alloc (.cells #[.int .i64 u.k, .string u.name, .int .i64 u.dims, .int .i64 u.elem, .int .i64 u.at_] 39)
      have hrow3 := HROW.out.only ho3 (fun j hj e => by have := (HROW.out.ge j hj).1; have := HL.out.1; omega)
      have HRP4 := Lib.hid ((HRP.out.read ho3 hr2).idle hal)
      have HTG4 := Lib.hid ((HTG.out.only ho3 hg).only hal (fun h => h))
      have HON4 := Lib.hid ((HON.out.rbs ho3).trans hal (fun _ h => h.elim))
      have HBX4 := Lib.hid (hal.heap (ho3.heap HBX.out NQ.out) (fun h => h))
      have HROW5 := Lib.hid (hrow3.only hal (fun _ _ h => h))
      have HSRC := Lib.hid (Src.type (w := w3) (m := w3.heap.size) u rfl)
      have HGE := Lib.hid hrow3.ge
      have HBASE := Lib.hid (show w.heap.size + 1 ≤ (w3.alloc (.cells #[.int .i64 u.k, .string u.name, .int .i64 u.dims, .int .i64 u.elem, .int .i64 u.at_] 39)).heap.size by have a := heap_lt (ho3.heap HBX.out NQ.out); simp; omega)
      clear ho3 hal hrow3 hx2 hr2 CO HRP HTG HON HBX HROW HTO q0 q1
      go_wp2_with (at_builtin; go_loud (refine wpList_append_src rfl (.tmp 13) (.tmp 16) 33 rfl 39 i0 (.agg #[.int .i64 0, .string ⟨#[]⟩, .int .i64 0, .int .i64 0, .int .i64 0]) 5 48 Tryd.underlying33 hi hz0 hz1 hz2 rfl (by decide) (w.heap.size + 1) (.slice al ts.length cl) ts.length (ts.flatMap cellsTy) rfl (by exact HROW5.out) (by exact HBASE.out) (.slice (some ⟨w3.heap.size, 0, none⟩) 1 1) 1 (cellsTy u) rfl (by exact HSRC.out) (by unfold maxLen; omega) (by omega) ?_); intro v' w5 hown hgrow hnew; have hos := only_grownT hgrow; have hrow6 := TRow.more hown; have hfar : ∀ j, (fun k => (Value.slice al ts.length cl).ownBlock = some k) j → w.heap.size + 1 ≤ j := (fun j hj => (HGE.out _ hj).1); have hon6 := HON4.out.trans hos (fun j hj hl => by have := hfar j hj; omega); have hrp6 := HRP4.out.only hos (fun hj => by have := hfar _ hj; have := HL.out.1; omega) (fun j hj hh => by have := hfar _ hh; have := HL.out.2 j hj; omega) (fun j hj hc hh => by have := hfar _ hh; have := HPL.out j hj hc; omega); have htg6 := HTG4.out.only hos (fun hj => by have := hfar _ hj; omega); have hbx6 := hos.heap HBX4.out (fun hj => by have := hfar _ hj; omega); clear hown hgrow hnew hos hfar; have HROW6 := Lib.hid hrow6; have HON6 := Lib.hid hon6; have HRP6 := Lib.hid hrp6; have HTG6 := Lib.hid htg6; have HBX6 := Lib.hid hbx6; clear hrow6 hon6 hrp6 htg6 hbx6)
      go_roundw
      case rel => exact ⟨ts ++ [u], k2, by simp, by simp; omega, HTO2.out, HROW6.out, HRP6.out, HTG6.out, HON6.out, HBX6.out⟩
      case measure => simp [intOf]; omega
    · have HE2 := Lib.hid (HE.out.trans (HTO.out.done (by omega)))
      have hnz : (mm : Int) ≤ (ts.length : Int) := by omega
      clear hi hz0 hz1 hz2 HTO HE hlt
      go_wp2
      go_ret
      exact ⟨.inl ⟨ts, kk, _, HE2.out, rfl, HRP.out.rd, HROW.out.base (Nat.le_succ _)⟩, HON.out⟩
end
end Go.Proofs.YtadgbkjjeigpjaaDoor
