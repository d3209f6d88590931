/- What was read may stand in frames that are written: isType, areTypes, isFrame, areMaps. Condition: what was read. -/
import Derived.Deep.RegionHeld3
import Derived.Deep.QuietTactic
import Derived.BigQuiet
import Derived.Test.YtadgbkjjeigpjaaDoorMapC2
import Derived.Test.YtadgbkjjeigpjaaDoorMapF
namespace Go.Proofs.YtadgbkjjeigpjaaDoor
open Go.RowKit Go.Maps
set_option linter.unusedVariables false
set_option linter.unusedSimpArgs false

theorem arr_k {d : Nat} {k : Int} {nm : ByteArray} (hd : 0 < d) : (arrT d k nm).k = 5 := by unfold arrT; rw [if_pos hd]
theorem typeN_k {s : ByteArray} {t : TypeV} (h : typeN s = some t) : t.k = 4 ∨ t.k = 5 := by
  cases hh : headIs1 (nums s) with
  | false =>
    rw [typeN_name hh] at h
    split at h
    · injection h with h; subst h; exact .inl rfl
    · cases h
  | true =>
    rw [typeN_arr hh] at h
    right
    have hd : 0 < dimsZ (nums s) := by
      unfold headIs1 at hh
      cases hq : nums s with
      | nil => rw [hq] at hh; cases hh
      | cons c r =>
        rw [hq] at hh
        simp only [List.head?_cons, Option.some.injEq, decide_eq_true_eq] at hh
        rw [dimsZ, if_pos hh]
        omega
    unfold oneZ8 at h
    split at h
    · rename_i u hu
      injection h with h
      subst h
      unfold fieldZ baseZ at hu
      split at hu
      · cases hu
      · split at hu
        · cases hu
        · split at hu
          · injection hu with hu; injection hu with hu _; rw [← hu]; exact arr_k hd
          · split at hu
            · injection hu with hu; injection hu with hu _; rw [← hu]; exact arr_k hd
            · split at hu
              · split at hu
                · cases hu
                · split at hu
                  · injection hu with hu; injection hu with hu _; rw [← hu]; exact arr_k hd
                  · cases hu
              · cases hu
    · cases h
theorem class_in {cs : List ConstV} {i : Int} {t : TypeV} (h : typeN (classZ cs i).1 = some t) (hi : 0 ≤ i ∧ i < 65536) : ∃ j : Nat, j < min cs.length 65536 ∧ typeN (classZ cs j).1 = some t := by
  by_cases hz : isZ cs i 7 = true
  · obtain ⟨j, hj, _, hl, _⟩ := isZ_lt hz
    subst hj
    exact ⟨j, by omega, h⟩
  · have : (classZ cs i).1 = noT := by unfold classZ; rw [if_neg hz]
    rw [this, typeN_none] at h
    cases h
set_option maxHeartbeats 8000000 in
set_option maxRecDepth 100000 in
theorem mIsType (mb : Nat) (cs : List ConstV) (t : TypeV) (w : World) (hpl : PlM w mb cs (min cs.length 65536)) (ht : OkT cs t) (hs : SmT t) :
    Calls Tryd.prog 70 #[.map (some mb), valT t] w fun e w' => e = .returned (.bool true) ∧ Only (fun _ => False) w w' := by
  have ho0 := (Only.refl (fun _ => False) w).alloc (.cells #[.int .i64 t.k, .string t.name, .int .i64 t.dims, .int .i64 t.elem, .int .i64 t.at_] 39)
  have HO0 := Lib.hid ho0
  have g1 := guard_type
  have hso := ht
  rcases ht with ⟨q, hq, rfl⟩ | ⟨a, ha, rfl⟩ | ⟨i, hi, hti⟩
  · unfold valT at *
    simp only at *
    rcases hq with rfl | rfl | rfl | rfl | rfl
    · have eq1 := fun w => eql_type ⟨0, ⟨#[]⟩, 0, 0, 0⟩ ⟨0, ⟨#[]⟩, 0, 0, 0⟩ w
      rw [eqT_self] at eq1
      unfold valT at eq1
      clear hso ho0 hs hpl
      go_enter Tryd.func70, Tryd.ntmps70
      go_wp2
      go_ret
      exact ⟨rfl, HO0.out⟩
    · have eq1 := fun w => eql_type ⟨1, ⟨#[]⟩, 0, 0, 0⟩ ⟨1, ⟨#[]⟩, 0, 0, 0⟩ w
      rw [eqT_self] at eq1
      unfold valT at eq1
      clear hso ho0 hs hpl
      go_enter Tryd.func70, Tryd.ntmps70
      go_wp2
      go_ret
      exact ⟨rfl, HO0.out⟩
    · have eq1 := fun w => eql_type ⟨2, ⟨#[]⟩, 0, 0, 0⟩ ⟨2, ⟨#[]⟩, 0, 0, 0⟩ w
      rw [eqT_self] at eq1
      unfold valT at eq1
      clear hso ho0 hs hpl
      go_enter Tryd.func70, Tryd.ntmps70
      go_wp2
      go_ret
      exact ⟨rfl, HO0.out⟩
    · have eq1 := fun w => eql_type ⟨3, ⟨#[]⟩, 0, 0, 0⟩ ⟨3, ⟨#[]⟩, 0, 0, 0⟩ w
      rw [eqT_self] at eq1
      unfold valT at eq1
      clear hso ho0 hs hpl
      go_enter Tryd.func70, Tryd.ntmps70
      go_wp2
      go_ret
      exact ⟨rfl, HO0.out⟩
    · have eq1 := fun w => eql_type ⟨7, ⟨#[]⟩, 0, 0, 0⟩ ⟨7, ⟨#[]⟩, 0, 0, 0⟩ w
      rw [eqT_self] at eq1
      unfold valT at eq1
      clear hso ho0 hs hpl
      go_enter Tryd.func70, Tryd.ntmps70
      go_wp2
      go_ret
      exact ⟨rfl, HO0.out⟩
  · have eq1 := fun w => eql_type ⟨6, ⟨#[]⟩, 0, 0, 0⟩ ⟨6, ⟨#[]⟩, 0, 0, 0⟩ w
    rw [eqT_self] at eq1
    unfold valT at *
    simp only at *
    have cP := fun w => mIsPlace a w
    rw [show placeB a = true by unfold placeB; simp; omega] at cP
    have CP := Lib.hid cP
    have hst := ho0.setCell (p := ⟨w.heap.size, 4, none⟩) (fun h => absurd h (Nat.lt_irrefl _)) (.int .i64 0)
    have HST := Lib.hid hst
    clear hso ho0 hs hpl cP hst
    go_enter Tryd.func70, Tryd.ntmps70
    go_wp2_with (fail)
    refine (CP.out _).mono ?_
    rintro e w1 ⟨rfl, rfl⟩
    go_wp2
    go_ret
    exact ⟨rfl, by first | exact HST.out | exact (Only.refl _ w).alloc _⟩
  · have hk := typeN_k hti
    obtain ⟨n, D, hn, hown, hD, hall⟩ := hpl
    have hhas : Maps.has D (keyT t) = true := (hall t hs).2 (class_in hti hi)
    have HKEY := Lib.hid (key_type hs)
    have HOWN := Lib.hid (hown.alloc (.cells #[.int .i64 t.k, .string t.name, .int .i64 t.dims, .int .i64 t.elem, .int .i64 t.at_] 39))
    have HH := Lib.hid hhas
    clear hso ho0 hs hown hD hall hhas hti
    unfold valT at *
    rcases hk with hk | hk
    · have hb4 : (t.k == 4) = true := by rw [hk]; rfl
      clear hk
      go_enter Tryd.func70, Tryd.ntmps70
      go_wp2_with (at_lookup; refine wpList_lookup_own_ok_int _ rfl _ _ 65 rfl 39 3 .i64 law_type under_places Tryd.underlying3 (zero_intK _) mb n D rfl (by exact HOWN.out) _ (keyT t) rfl (by exact HKEY.out) ?_; intro c hat hwc; rw [HH.out]; clear hat hwc)
      go_ret
      exact ⟨rfl, HO0.out⟩
    · have hb4 : (t.k == 4) = false := by rw [hk]; rfl
      have hb5 : (t.k == 5) = true := by rw [hk]; rfl
      clear hk
      go_enter Tryd.func70, Tryd.ntmps70
      go_wp2_with (at_lookup; refine wpList_lookup_own_ok_int _ rfl _ _ 65 rfl 39 3 .i64 law_type under_places Tryd.underlying3 (zero_intK _) mb n D rfl (by exact HOWN.out) _ (keyT t) rfl (by exact HKEY.out) ?_; intro c hat hwc; rw [HH.out]; clear hat hwc)
      go_ret
      exact ⟨rfl, HO0.out⟩
set_option maxRecDepth 100000 in
theorem mNotType (mb cb : Nat) (cs : List ConstV) (t : TypeV) (w : World) (hpl : PlM w mb cs (min cs.length 65536)) (ht : OkT cs t) (hs : SmT t) (hc : w.cell? ⟨cb, 0, none⟩ = some (.map (some mb))) (hmc : cb ≠ mb) :
    Calls Tryd.prog 69 #[valT t, .pointer (some ⟨cb, 0, none⟩)] w fun e w' => e = .returned (.bool false) ∧ Only (fun _ => False) w w' := by
  have ho0 := (Only.refl (fun _ => False) w).alloc (.cells #[.int .i64 t.k, .string t.name, .int .i64 t.dims, .int .i64 t.elem, .int .i64 t.at_] 39)
  have c1 := mIsType mb cs t _ (hpl.only ho0 (fun h => h)) ht hs
  have hc1 := ho0.cell hc (fun h => h)
  have HO0 := Lib.hid ho0
  unfold valT at *
  have C1 := Lib.hid c1
  clear ho0 c1 hpl ht hs hc
  go_enter Tryd.func69, Tryd.ntmps69
  go_wp2_with (fail)
  refine C1.out.mono ?_
  rintro e w1 ⟨rfl, ho1⟩
  have HO1 := Lib.hid (HO0.out.trans ho1 (fun _ h _ => h))
  clear ho1 C1
  go_wp2
  go_ret
  exact ⟨rfl, HO1.out⟩
set_option maxHeartbeats 2000000 in
set_option maxRecDepth 100000 in
theorem mAreTypes (mb : Nat) (cs : List ConstV) (v : Value) (l : List TypeV) (w : World) (hpl : PlM w mb cs (min cs.length 65536)) (hl : Types w v l) (h64 : l.length ≤ 64) (ht : ∀ t ∈ l, OkT cs t ∧ SmT t) :
    Calls Tryd.prog 57 #[.map (some mb), v] w fun e w' => e = .returned (.bool true) ∧ Only (fun _ => False) w w' := by
  obtain ⟨ao, cp, rfl, h1, h2, h3, h4⟩ := id hl
  have ho0 := (Only.refl (fun _ => False) w).alloc (.cells #[.map (some mb)] 65)
  have hb := heap_alloc_new w (.cells #[.map (some mb)] 65)
  have hmb := hpl.lt
  have hpl1 := hpl.only ho0 (fun h => h)
  have c1 := containsT 69 (enters_of Tryd.func69 (by kernel_rfl) rfl) #[.pointer (some ⟨w.heap.size, 0, none⟩)] (fun _ => false) _ l _ (hl.only ho0) (fun t htm w' ho => mNotType mb w.heap.size cs t w' (hpl1.only ho (fun h => h)) (ht t htm).1 (ht t htm).2 (ho.cell (cell_blk hb 0) (fun h => h)) (by omega)) (by omega)
  rw [show l.any (fun _ => false) = false by simp] at c1
  have hmf : ∀ (fn : Fn) (first cap : Array Value) (w : World), (Instr.makeFunc fn first cap).run Tryd.prog w = .ok (.func fn first cap) w := fun _ _ _ _ => rfl
  have hlz : ((l.length : Nat) : Int) ≤ 64 := by omega
  have C1 := Lib.hid c1
  have HO0 := Lib.hid ho0
  clear ho0 hb hpl hpl1 c1 hl h3 h4 ht hmb
  go_enter Tryd.func57, Tryd.ntmps57
  go_wp2_with (fail)
  refine C1.out.mono ?_
  rintro e w1 ⟨rfl, ho1⟩
  have HO1 := Lib.hid (HO0.out.trans ho1 (fun _ h _ => h))
  clear ho1 C1
  go_wp2
  go_ret
  exact ⟨rfl, HO1.out⟩
set_option maxHeartbeats 8000000 in
set_option maxRecDepth 100000 in
theorem mIsFrame (mb : Nat) (cs : List ConstV) (m : MapV) (v1 v2 : Value) (w : World) (hpl : PlM w mb cs (min cs.length 65536)) (h1 : Types w v1 m.locals) (h2 : Types w v2 m.stack) (hr : RightM cs m) (hok : (∀ t ∈ m.locals, OkT cs t ∧ SmT t) ∧ ∀ t ∈ m.stack, OkT cs t ∧ SmT t) :
    Calls Tryd.prog 40 #[.map (some mb), .agg #[v1, v2, .bool m.fresh]] w fun e w' => e = .returned (.bool true) ∧ Only (fun _ => False) w w' := by
  obtain ⟨a1, n1, c1, rfl⟩ : ∃ a n c, v1 = .slice a n c := by obtain ⟨x, c, e, -⟩ := h1.slice; exact ⟨_, _, _, e⟩
  obtain ⟨a2, n2, c2, rfl⟩ : ∃ a n c, v2 = .slice a n c := by obtain ⟨x, c, e, -⟩ := h2.slice; exact ⟨_, _, _, e⟩
  have hd := ((Only.refl (fun _ => False) w).alloc (.cells #[.slice a1 n1 c1, .slice a2 n2 c2, .bool m.fresh] 35)).drewN 1
  have hb := ((Only.refl (fun _ => False) (w.alloc (.cells #[.slice a1 n1 c1, .slice a2 n2 c2, .bool m.fresh] 35))).drewN 1).heap (heap_alloc_new w (.cells #[.slice a1 n1 c1, .slice a2 n2 c2, .bool m.fresh] 35)) (fun h => h)
  have HS0 := Lib.hid (show (fun wc => wc.cell? ⟨w.heap.size, 0, none⟩ = some (.slice a1 n1 c1) ∧ wc.cell? ⟨w.heap.size, 1, none⟩ = some (.slice a2 n2 c2) ∧ wc.cell? ⟨w.heap.size, 2, none⟩ = some (.bool m.fresh) ∧ Types wc (.slice a1 n1 c1) m.locals ∧ Types wc (.slice a2 n2 c2) m.stack ∧ PlM wc mb cs (min cs.length 65536) ∧ Only (fun _ => False) w wc) ((w.alloc (.cells #[.slice a1 n1 c1, .slice a2 n2 c2, .bool m.fresh] 35)).drewN 1) from ⟨cell_blk hb 0, cell_blk hb 1, cell_blk hb 2, h1.only hd, h2.only hd, hpl.only hd (fun h => h), hd⟩)
  have HR := Lib.hid hr
  have HOK := Lib.hid hok
  have hfr := hr.fr
  have HFR := Lib.hid hfr
  clear hd hb hpl h1 h2 hr hok hfr
  go_enter Tryd.func40, Tryd.ntmps40
  go_wp2_with (fail)
  refine wp_region_held_drew (S := fun wc => wc.cell? ⟨w.heap.size, 0, none⟩ = some (.slice a1 n1 c1) ∧ wc.cell? ⟨w.heap.size, 1, none⟩ = some (.slice a2 n2 c2) ∧ wc.cell? ⟨w.heap.size, 2, none⟩ = some (.bool m.fresh) ∧ Types wc (.slice a1 n1 c1) m.locals ∧ Types wc (.slice a2 n2 c2) m.stack ∧ PlM wc mb cs (min cs.length 65536) ∧ Only (fun _ => False) w wc) (by kernel_rfl) HS0.out (fun hHeld => ?_)
  refine wpAnyH_take (i := 0) (v := ?_) (by simp only [List.getElem?_toArray, List.getElem?_cons_succ, List.getElem?_cons_zero]; rfl) (by kernel_rfl) (by kernel_rfl) (by kernel_rfl) (by exact fun _ _ _ h => h) (Or.inl ⟨by rfl, ?_⟩) (by assumption) ?_
  rotate_left 1
  · (intro w hSw; (try dsimp only at hSw); go_simp; try with_reducible rfl)
  try simp only [Act.put, List.setIfInBounds_toArray, List.set_cons_zero, List.set_cons_succ]
  refine wpAnyH_take (i := 1) (v := ?_) (by simp only [List.getElem?_toArray, List.getElem?_cons_succ, List.getElem?_cons_zero]; rfl) (by kernel_rfl) (by kernel_rfl) (by kernel_rfl) (by exact fun _ _ _ h => h) (Or.inl ⟨by rfl, ?_⟩) (by assumption) ?_
  rotate_left 1
  · (intro w hSw; (try dsimp only at hSw); go_simp; try with_reducible rfl)
  try simp only [Act.put, List.setIfInBounds_toArray, List.set_cons_zero, List.set_cons_succ]
  refine wpAnyH_take (i := 2) (v := ?_) (by simp only [List.getElem?_toArray, List.getElem?_cons_succ, List.getElem?_cons_zero]; rfl) (by kernel_rfl) (by kernel_rfl) (by kernel_rfl) (by exact fun _ _ _ h => h) (Or.inl ⟨by rfl, ?_⟩) (by assumption) ?_
  rotate_left 1
  · (intro w hSw; (try dsimp only at hSw); go_simp; try with_reducible rfl)
  try simp only [Act.put, List.setIfInBounds_toArray, List.set_cons_zero, List.set_cons_succ]
  refine wpAnyH_ready (rs := [3]) (by kernel_rfl) (by simp) ?_
  refine AllReadyH.cons (by simp only [List.getElem?_toArray, List.getElem?_cons_succ, List.getElem?_cons_zero]; rfl) (fun K hK => ?_) AllReadyH.nil
  go_simp
  (refine (mAreTypes mb cs _ m.locals _ hHeld.2.2.2.2.2.1 hHeld.2.2.2.1 HR.out.ll HOK.out.1).mono ?_; rintro e w2 ⟨rfl, ho⟩; have HQ2 := Lib.hid (show (fun wc => wc.cell? ⟨w.heap.size, 0, none⟩ = some (.slice a1 n1 c1) ∧ wc.cell? ⟨w.heap.size, 1, none⟩ = some (.slice a2 n2 c2) ∧ wc.cell? ⟨w.heap.size, 2, none⟩ = some (.bool m.fresh) ∧ Types wc (.slice a1 n1 c1) m.locals ∧ Types wc (.slice a2 n2 c2) m.stack ∧ PlM wc mb cs (min cs.length 65536) ∧ Only (fun _ => False) w wc) w2 from ⟨ho.cell hHeld.1 (fun h => h), ho.cell hHeld.2.1 (fun h => h), ho.cell hHeld.2.2.1 (fun h => h), Types.only hHeld.2.2.2.1 ho, Types.only hHeld.2.2.2.2.1 ho, PlM.only hHeld.2.2.2.2.2.1 ho (fun h => h), hHeld.2.2.2.2.2.2.trans ho (fun _ h _ => h)⟩); clear ho)
  go_wp2_with fail
  refine hK.out _ _ ?_ (fun hHeld2 => ?_)
  · exact HQ2.out
  clear hK K
  try simp only [Act.put, List.setIfInBounds_toArray, List.set_cons_zero, List.set_cons_succ]
  clear hHeld
  have hHeld := hHeld2
  clear hHeld2
  refine wpAnyH_take (i := 4) (v := ?_) (by simp only [List.getElem?_toArray, List.getElem?_cons_succ, List.getElem?_cons_zero]; rfl) (by kernel_rfl) (by kernel_rfl) (by kernel_rfl) (by exact fun _ _ _ h => h) (Or.inl ⟨by rfl, ?_⟩) (by assumption) ?_
  rotate_left 1
  · (intro w hSw; (try dsimp only at hSw); go_simp; try with_reducible rfl)
  try simp only [Act.put, List.setIfInBounds_toArray, List.set_cons_zero, List.set_cons_succ]
  refine wpAnyH_take (i := 5) (v := ?_) (by simp only [List.getElem?_toArray, List.getElem?_cons_succ, List.getElem?_cons_zero]; rfl) (by kernel_rfl) (by kernel_rfl) (by kernel_rfl) (by exact fun _ _ _ h => h) (Or.inl ⟨by rfl, ?_⟩) (by assumption) ?_
  rotate_left 1
  · (intro w hSw; (try dsimp only at hSw); go_simp; try with_reducible rfl)
  try simp only [Act.put, List.setIfInBounds_toArray, List.set_cons_zero, List.set_cons_succ]
  refine wpAnyH_take (i := 6) (v := ?_) (by simp only [List.getElem?_toArray, List.getElem?_cons_succ, List.getElem?_cons_zero]; rfl) (by kernel_rfl) (by kernel_rfl) (by kernel_rfl) (by exact fun _ _ _ h => h) (Or.inl ⟨by rfl, ?_⟩) (by assumption) ?_
  rotate_left 1
  · (intro w hSw; (try dsimp only at hSw); go_simp; try with_reducible rfl)
  try simp only [Act.put, List.setIfInBounds_toArray, List.set_cons_zero, List.set_cons_succ]
  refine wpAnyH_take (i := 7) (v := ?_) (by simp only [List.getElem?_toArray, List.getElem?_cons_succ, List.getElem?_cons_zero]; rfl) (by kernel_rfl) (by kernel_rfl) (by kernel_rfl) (by exact fun _ _ _ h => h) (Or.inl ⟨by rfl, ?_⟩) (by assumption) ?_
  rotate_left 1
  · (intro w hSw; (try dsimp only at hSw); go_simp; try with_reducible rfl)
  try simp only [Act.put, List.setIfInBounds_toArray, List.set_cons_zero, List.set_cons_succ]
  refine wpAnyH_ready (rs := [8]) (by kernel_rfl) (by simp) ?_
  refine AllReadyH.cons (by simp only [List.getElem?_toArray, List.getElem?_cons_succ, List.getElem?_cons_zero]; rfl) (fun K hK => ?_) AllReadyH.nil
  go_simp
  (refine (mAreTypes mb cs _ m.stack _ hHeld.2.2.2.2.2.1 hHeld.2.2.2.2.1 HR.out.sl HOK.out.2).mono ?_; rintro e w3 ⟨rfl, ho⟩; have HQ3 := Lib.hid (show (fun wc => wc.cell? ⟨w.heap.size, 0, none⟩ = some (.slice a1 n1 c1) ∧ wc.cell? ⟨w.heap.size, 1, none⟩ = some (.slice a2 n2 c2) ∧ wc.cell? ⟨w.heap.size, 2, none⟩ = some (.bool m.fresh) ∧ Types wc (.slice a1 n1 c1) m.locals ∧ Types wc (.slice a2 n2 c2) m.stack ∧ PlM wc mb cs (min cs.length 65536) ∧ Only (fun _ => False) w wc) w3 from ⟨ho.cell hHeld.1 (fun h => h), ho.cell hHeld.2.1 (fun h => h), ho.cell hHeld.2.2.1 (fun h => h), Types.only hHeld.2.2.2.1 ho, Types.only hHeld.2.2.2.2.1 ho, PlM.only hHeld.2.2.2.2.2.1 ho (fun h => h), hHeld.2.2.2.2.2.2.trans ho (fun _ h _ => h)⟩); clear ho)
  go_wp2_with fail
  refine hK.out _ _ ?_ (fun hHeld2 => ?_)
  · exact HQ3.out
  clear hK K
  try simp only [Act.put, List.setIfInBounds_toArray, List.set_cons_zero, List.set_cons_succ]
  clear hHeld
  have hHeld := hHeld2
  clear hHeld2
  refine wpAnyH_take (i := 9) (v := ?_) (by simp only [List.getElem?_toArray, List.getElem?_cons_succ, List.getElem?_cons_zero]; rfl) (by kernel_rfl) (by kernel_rfl) (by kernel_rfl) (by exact fun _ _ _ h => h) (Or.inl ⟨by rfl, ?_⟩) (by assumption) ?_
  rotate_left 1
  · (intro w hSw; (try dsimp only at hSw); go_simp; try with_reducible rfl)
  try simp only [Act.put, List.setIfInBounds_toArray, List.set_cons_zero, List.set_cons_succ]
  refine wpAnyH_take (i := 10) (v := ?_) (by simp only [List.getElem?_toArray, List.getElem?_cons_succ, List.getElem?_cons_zero]; rfl) (by kernel_rfl) (by kernel_rfl) (by kernel_rfl) (by exact fun _ _ _ h => h) (Or.inl ⟨by rfl, ?_⟩) (by assumption) ?_
  rotate_left 1
  · (intro w hSw; (try dsimp only at hSw); go_simp; try with_reducible rfl)
  try simp only [Act.put, List.setIfInBounds_toArray, List.set_cons_zero, List.set_cons_succ]
  refine wpAnyH_take (i := 11) (v := ?_) (by simp only [List.getElem?_toArray, List.getElem?_cons_succ, List.getElem?_cons_zero]; rfl) (by kernel_rfl) (by kernel_rfl) (by kernel_rfl) (by exact fun _ _ _ h => h) (Or.inl ⟨by rfl, ?_⟩) (by assumption) ?_
  rotate_left 1
  · (intro w hSw; (try dsimp only at hSw); go_simp; try with_reducible rfl)
  try simp only [Act.put, List.setIfInBounds_toArray, List.set_cons_zero, List.set_cons_succ]
  refine wpAnyH_take (i := 12) (v := ?_) (by simp only [List.getElem?_toArray, List.getElem?_cons_succ, List.getElem?_cons_zero]; rfl) (by kernel_rfl) (by kernel_rfl) (by kernel_rfl) (by exact fun _ _ _ h => h) (Or.inl ⟨by rfl, ?_⟩) (by assumption) ?_
  rotate_left 1
  · (intro w hSw; (try dsimp only at hSw); go_simp; try with_reducible rfl)
  try simp only [Act.put, List.setIfInBounds_toArray, List.set_cons_zero, List.set_cons_succ]
  refine wpAnyH_take (i := 13) (v := ?_) (by simp only [List.getElem?_toArray, List.getElem?_cons_succ, List.getElem?_cons_zero]; rfl) (by kernel_rfl) (by kernel_rfl) (by kernel_rfl) (by exact fun _ _ _ h => h) (Or.inl ⟨by rfl, ?_⟩) (by assumption) ?_
  rotate_left 1
  · (intro w hSw; (try dsimp only at hSw); go_simp; try with_reducible rfl)
  try simp only [Act.put, List.setIfInBounds_toArray, List.set_cons_zero, List.set_cons_succ]
  refine wpAnyH_take (i := 14) (v := ?_) (by simp only [List.getElem?_toArray, List.getElem?_cons_succ, List.getElem?_cons_zero]; rfl) (by kernel_rfl) (by kernel_rfl) (by kernel_rfl) (by exact fun _ _ _ h => h) (Or.inl ⟨by rfl, ?_⟩) (by assumption) ?_
  rotate_left 1
  · (intro w hSw; (try dsimp only at hSw); go_simp; try with_reducible rfl)
  try simp only [Act.put, List.setIfInBounds_toArray, List.set_cons_zero, List.set_cons_succ]
  refine wpAnyH_ready (rs := [15]) (by kernel_rfl) (by simp) ?_
  refine AllReadyH.cons (by simp only [List.getElem?_toArray, List.getElem?_cons_succ, List.getElem?_cons_zero]; rfl) (fun K hK => ?_) AllReadyH.nil
  go_simp
  (refine (mIsFresh _ m.locals _ hHeld.2.2.2.1 (by have := HR.out.ll; omega)).mono ?_; rintro e w4 ⟨rfl, ho⟩; have HQ4 := Lib.hid (show (fun wc => wc.cell? ⟨w.heap.size, 0, none⟩ = some (.slice a1 n1 c1) ∧ wc.cell? ⟨w.heap.size, 1, none⟩ = some (.slice a2 n2 c2) ∧ wc.cell? ⟨w.heap.size, 2, none⟩ = some (.bool m.fresh) ∧ Types wc (.slice a1 n1 c1) m.locals ∧ Types wc (.slice a2 n2 c2) m.stack ∧ PlM wc mb cs (min cs.length 65536) ∧ Only (fun _ => False) w wc) w4 from ⟨ho.cell hHeld.1 (fun h => h), ho.cell hHeld.2.1 (fun h => h), ho.cell hHeld.2.2.1 (fun h => h), Types.only hHeld.2.2.2.1 ho, Types.only hHeld.2.2.2.2.1 ho, PlM.only hHeld.2.2.2.2.2.1 ho (fun h => h), hHeld.2.2.2.2.2.2.trans ho (fun _ h _ => h)⟩); clear ho)
  go_wp2_with fail
  refine hK.out _ _ ?_ (fun hHeld2 => ?_)
  · exact HQ4.out
  clear hK K
  try simp only [Act.put, List.setIfInBounds_toArray, List.set_cons_zero, List.set_cons_succ]
  clear hHeld
  have hHeld := hHeld2
  clear hHeld2
  refine wpAnyH_take (i := 16) (v := ?_) (by simp only [List.getElem?_toArray, List.getElem?_cons_succ, List.getElem?_cons_zero]; rfl) (by kernel_rfl) (by kernel_rfl) (by kernel_rfl) (by exact fun _ _ _ h => h) (Or.inl ⟨by rfl, ?_⟩) (by assumption) ?_
  rotate_left 1
  · (intro w hSw; (try dsimp only at hSw); go_simp; try with_reducible rfl)
  try simp only [Act.put, List.setIfInBounds_toArray, List.set_cons_zero, List.set_cons_succ]
  refine wpAnyH_take (i := 17) (v := ?_) (by simp only [List.getElem?_toArray, List.getElem?_cons_succ, List.getElem?_cons_zero]; rfl) (by kernel_rfl) (by kernel_rfl) (by kernel_rfl) (by exact fun _ _ _ h => h) (Or.inl ⟨by rfl, ?_⟩) (by assumption) ?_
  rotate_left 1
  · (intro w hSw; (try dsimp only at hSw); go_simp; try with_reducible rfl)
  try simp only [Act.put, List.setIfInBounds_toArray, List.set_cons_zero, List.set_cons_succ]
  refine wpAnyH_take (i := 18) (v := ?_) (by simp only [List.getElem?_toArray, List.getElem?_cons_succ, List.getElem?_cons_zero]; rfl) (by kernel_rfl) (by kernel_rfl) (by kernel_rfl) (by exact fun _ _ _ h => h) (Or.inl ⟨by rfl, ?_⟩) (by assumption) ?_
  rotate_left 1
  · (intro w hSw; (try dsimp only at hSw); go_simp; try with_reducible rfl)
  try simp only [Act.put, List.setIfInBounds_toArray, List.set_cons_zero, List.set_cons_succ]
  refine wpAnyH_done (by kernel_rfl) ?_ _
  have HF := Lib.hid (HQ4.out.2.2.2.2.2.2)
  have hff : (m.fresh == freshM m.locals) = true := by rw [HFR.out]; simp
  clear HQ2 HQ3 HQ4 HS0
  go_wp2
  go_ret
  refine ⟨?_, HF.out⟩
  first | rfl | (simp [hff])
/-- What was read: the places rise, all is right, the types are small. -/
def Fit10 (cs : List ConstV) (l : List MapV) : Prop := RiseM cs 0 l ∧ ∀ m ∈ l, (∀ t ∈ m.locals, OkT cs t ∧ SmT t) ∧ ∀ t ∈ m.stack, OkT cs t ∧ SmT t
theorem rise_next {cs : List ConstV} : ∀ {f : Int} {l : List MapV} {j : Nat}, RiseM cs f l → j < l.length → (if j = 0 then f - 1 else (l.getD (j - 1) default).at_) < (l.getD j default).at_
  | f, [], j, _, h => by simp at h
  | f, m :: r, 0, h, _ => by have := h.1; simp; omega
  | f, m :: r, j + 1, h, hj => by
    have ih := rise_next (j := j) h.2.2 (by simpa using hj)
    rw [if_neg (by omega)]
    cases j with
    | zero => simp at ih ⊢; exact ih
    | succ i => simp at ih ⊢; exact ih
set_option maxHeartbeats 8000000 in
set_option maxRecDepth 100000 in
theorem mAreMaps (mb : Nat) (cs : List ConstV) (v : Value) (xs : List MapX) (w : World) (hpl : PlM w mb cs (min cs.length 65536)) (hx : MapsX w v xs) (hf : Fit10 cs (xs.map (·.1))) (hn : xs.length ≤ 65535) :
    Calls Tryd.prog 23 #[.map (some mb), v] w fun e w' => e = .returned (.bool true) ∧ Only (fun _ => False) w w' := by
  obtain ⟨ao, cap, rfl, p1, p2, p3, -⟩ := id hx.1
  have HX := Lib.hid hx
  have HPL := Lib.hid hpl
  have HF := Lib.hid hf
  clear hx hpl hf p3
  go_enter Tryd.func23, Tryd.ntmps23
  go_wp2
  go_loopw [10, 5] (fun iv av wr => ∃ j : Nat, iv = .int .i64 j ∧ av = .int .i64 (if j = 0 then -1 else (xs.getD (j - 1) default).1.at_) ∧ j ≤ xs.length ∧ Only (fun _ => False) w wr) (fun iv _ _ => xs.length - (intOf iv).toNat)
  case atStart => exact ⟨0, rfl, rfl, Nat.zero_le _, Only.refl _ _⟩
  case round =>
    obtain ⟨j, rfl, rfl, hj, hon⟩ := hrel
    have HON := Lib.hid hon
    by_cases hlt : j < xs.length
    · obtain ⟨b, o, rfl, c⟩ := Sl.at (HX.out.only hon).1 hlt
      have hjz : (j : Int) < (xs.length : Int) := by omega
      obtain ⟨t1, t2⟩ := (HX.out.only hon).2 _ (getD_mem hlt)
      have hmem : (xs.getD j default).1 ∈ xs.map (·.1) := List.mem_map.2 ⟨_, getD_mem hlt, rfl⟩
      have hri := (rise_mem HF.out.1 _ hmem).2
      have hok := HF.out.2 _ hmem
      have hup := rise_next (j := j) HF.out.1 (by rw [List.length_map]; exact hlt)
      rw [getD_fst hlt] at hup
      have hprev : (if j = 0 then (0 : Int) - 1 else ((xs.map (·.1)).getD (j - 1) default).at_) = (if j = 0 then -1 else (xs.getD (j - 1) default).1.at_) := by
        by_cases h0 : j = 0
        · rw [if_pos h0, if_pos h0]; rfl
        · rw [if_neg h0, if_neg h0, getD_fst (by omega)]
      rw [hprev] at hup
      have hnx : (xs.getD j default).1.at_ = (if j + 1 = 0 then -1 else (xs.getD (j + 1 - 1) default).1.at_) := by rw [if_neg (by omega), Nat.add_sub_cancel]
      obtain ⟨a1, n1, c1, e1⟩ : ∃ a n c, (xs.getD j default).2.1 = .slice a n c := by obtain ⟨x, c, e, -⟩ := t1.slice; exact ⟨_, _, _, e⟩
      obtain ⟨a2, n2, c2, e2⟩ : ∃ a n c, (xs.getD j default).2.2 = .slice a n c := by obtain ⟨x, c, e, -⟩ := t2.slice; exact ⟨_, _, _, e⟩
      obtain ⟨x0, x1, x2, x3⟩ := c
      rw [e1] at t1 x1
      rw [e2] at t2 x2
      have HNX := Lib.hid hnx
      generalize xs.getD j default = x at *
      generalize (if j = 0 then -1 else (xs.getD (j - 1) default).1.at_) = prev at *
      have ho1 := (Only.refl (fun _ => False) wr).alloc (.cells #[.int .i64 x.1.at_, .slice a1 n1 c1, .slice a2 n2 c2, .bool x.1.fresh] 37)
      have cP := fun w => mIsPlace x.1.at_ w
      rw [show placeB x.1.at_ = true by unfold placeB; have := hri.low; have := hri.high; simp; omega] at cP
      have cF := mIsFrame mb cs x.1 _ _ _ ((HPL.out.only hon (fun h => h)).only ho1 (fun h => h)) (t1.only ho1) (t2.only ho1) hri hok
      have hle : ¬ (x.1.at_ ≤ prev) := by omega
      have CP := Lib.hid cP
      have CF := Lib.hid cF
      have HON1 := Lib.hid (HON.out.trans ho1 (fun _ h _ => h))
      have hbm := heap_alloc_new wr (.cells #[.int .i64 x.1.at_, .slice a1 n1 c1, .slice a2 n2 c2, .bool x.1.fresh] 37)
      have HBM := Lib.hid hbm
      clear hmem hri hok hprev e1 e2 ho1 cP cF hon t1 t2 hup hnx hbm
      go_wp2_with (fail)
      refine (CP.out _).mono ?_
      rintro e w2 ⟨rfl, rfl⟩
      go_wp2_with (fail)
      refine CF.out.mono ?_
      rintro e w3 ⟨rfl, ho3⟩
      have d0 : w3.cell? ⟨wr.heap.size, 0, none⟩ = some (.int .i64 x.1.at_) := cell_blk (ho3.heap HBM.out (fun h => h)) 0
      have HON3 := Lib.hid (HON1.out.trans ho3 (fun _ h _ => h))
      clear ho3 CF CP HON1
      go_wp2
      go_roundw
      case rel => exact ⟨j + 1, by go_num, by rw [HNX.out], by omega, HON3.out⟩
      case measure => simp [intOf]; omega
    · have hnz : (xs.length : Int) ≤ (j : Int) := by omega
      generalize (if j = 0 then -1 else (xs.getD (j - 1) default).1.at_) = prev at *
      clear hlt hj hon
      go_wp2
      go_ret
      exact ⟨rfl, HON.out⟩
end Go.Proofs.YtadgbkjjeigpjaaDoor
