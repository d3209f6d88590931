import Derived.Test.YtgdgffnaknkbcaaGreatDoorMjLpQ
import Derived.Test.YtgdgffnaknkbcaaGreatDoorMjLpBLpE
import Derived.Deep.RegionHeld3
import Derived.Test.YtgdgffnaknkbcaaGreatDoorMjIxCLpRa
namespace Go.Proofs.YtgdgffnaknkbcaaGreatDoor
open Go.RowKit Go.Maps
set_option linter.unusedVariables false
set_option linter.unusedSimpArgs false
theorem assert_l (a : Option Addr) (xT : TypeId) (w : World) : (Instr.typeAssert (.iface 124 (.pointer a)) xT 124 true).run Tryz.prog w = .ok (.tuple #[.pointer a, .bool true]) w := by kernel_rfl
theorem assert_b (v : Value) (xT : TypeId) (w : World) : (Instr.typeAssert (.iface 136 v) xT 124 true).run Tryz.prog w = .ok (.tuple #[.pointer none, .bool false]) w := by kernel_rfl
theorem class_result3 {fn : Func} {p q : Tmp} (hr : fn.results = #[.cell p 77, .tmp q]) {w : World} {b : Nat} {a0 a1 a2 a3 a4 x : Value} {tmps : Array Value} (h : w.heap[b]? = some (.cells #[a0, a1, a2, a3, a4] 77 (0, 0))) (ht : tmps.getD p undef = .pointer (some ⟨b, 0, none⟩)) (hx : tmps.getD q undef = x) :
    (results fn tmps).run Tryz.prog w = .ok (.tuple #[.agg #[a0, a1, a2, a3, a4], x]) w := by
  rw [results_cell_tmp hr, ht, hx, show (asAddr (.pointer (some ⟨b, 0, none⟩))).run Tryz.prog w = .ok ⟨b, 0, none⟩ w from rfl]
  simp only [Result.andThen]
  rw [run_loadVar_row w b 77 77 _ (0, 0) _ h Tryz.underlying77 rfl info5_classP]
section
variable {G : Nat → Prop} {fv : Nat → Value} {w : World} {pb : Nat} {ks : List KindV} {cl : Nat → ClassV} {sl : Nat → Nat → Int} (h : ProgG G fv w pb ks cl sl) (hn : 13 ≤ ks.length)
include h hn
set_option maxRecDepth 100000 in
set_option maxHeartbeats 4000000 in
theorem pListedNo (n : Int) (hno : n < 13 ∨ (ks.length : Int) ≤ n) : Calls Tryz.prog 69 #[.pointer (some ⟨pb, 0, none⟩), .int .i64 n] w fun e w' => e = .returned (.tuple #[.pointer none, .bool false]) ∧ w = w' := by
  have c1 := pHas h (by omega) n
  by_cases hr : 0 ≤ n ∧ n < (ks.length : Int)
  · obtain ⟨j, rfl⟩ := Int.eq_ofNat_of_zero_le hr.1
    have hj : j < 13 := by omega
    rw [show (decide (0 ≤ (j : Int)) && decide ((j : Int) < (ks.length : Int))) = true by simp; omega] at c1
    have C1 := Lib.hid c1
    obtain ⟨b, o, cap, mb, q0, -, e1, e2, -, hk⟩ := h.open (by omega)
    obtain ⟨iv, qi, hkn⟩ := hk j (by omega)
    have hjz : (j : Int) < (ks.length : Int) := by omega
    have hj0 : (0 : Int) ≤ (j : Int) := by omega
    rcases hkn with ⟨-, -, -, vom, rfl, -⟩ | ⟨h13, -⟩
    · have ha := assert_b (.agg #[.string (ks.getD j default).name, .string (ks.getD j default).super, vom])
      generalize (ks.getD j default).name = nm at *
      generalize (ks.getD j default).super = sp at *
      clear h hk c1 hr hno
      go_enter Tryz.func69, Tryz.ntmps69
      go_wp2_with (fail)
      refine C1.out.mono ?_
      rintro e w1 ⟨rfl, hww⟩
      subst hww
      go_wp2
      go_ret2
      exact ⟨rfl, rfl⟩
    · omega
  · rw [show (decide (0 ≤ n) && decide (n < (ks.length : Int))) = false by simp; omega] at c1
    have C1 := Lib.hid c1
    clear h c1 hr hno
    go_enter Tryz.func69, Tryz.ntmps69
    go_wp2_with (fail)
    refine C1.out.mono ?_
    rintro e w1 ⟨rfl, hww⟩
    subst hww
    go_wp2
    go_ret2
    exact ⟨rfl, rfl⟩
def ListedAt (G : Nat → Prop) (w : World) (i : Nat) (k : KindV) (c : ClassV) (vof : Value) (lb : Nat) : Prop :=
  ¬ G lb ∧ k = loadZ c (i - 13) ∧ ∃ vp vf vm vom, w.heap[lb]? = some (listedO i c vp vf vm vof vom) ∧ ClassG G w vp vf vm c ∧ MemG G w vom k.meths
set_option maxRecDepth 100000 in
set_option maxHeartbeats 4000000 in
theorem pListedAt (j : Nat) (h13 : 13 ≤ j) (hj : j < ks.length) : ∃ lb, ListedAt G w j (ks.getD j default) (cl j) (fv j) lb ∧
    Calls Tryz.prog 69 #[.pointer (some ⟨pb, 0, none⟩), .int .i64 (j : Int)] w fun e w' => e = .returned (.tuple #[.pointer (some ⟨lb, 0, none⟩), .bool true]) ∧ w = w' := by
  have c1 := pHas h (by omega) (j : Int)
  rw [show (decide (0 ≤ (j : Int)) && decide ((j : Int) < (ks.length : Int))) = true by simp; omega] at c1
  have C1 := Lib.hid c1
  obtain ⟨b, o, cap, mb, q0, -, e1, e2, -, hk⟩ := h.open (by omega)
  obtain ⟨iv, qi, hkn⟩ := hk j hj
  have hjz : (j : Int) < (ks.length : Int) := by omega
  have hj0 : (0 : Int) ≤ (j : Int) := by omega
  rcases hkn with ⟨h1, -⟩ | ⟨-, hkl, lb, vp, vf, vm, vom, rfl, hG, hob, hcl, hmg⟩
  · omega
  · refine ⟨lb, ⟨hG, hkl, vp, vf, vm, vom, hob, hcl, hmg⟩, ?_⟩
    have ha := assert_l (some ⟨lb, 0, none⟩)
    clear h hk c1 hkl hG hob hcl hmg
    go_enter Tryz.func69, Tryz.ntmps69
    go_wp2_with (fail)
    refine C1.out.mono ?_
    rintro e w1 ⟨rfl, hww⟩
    subst hww
    go_wp2
    go_ret2
    exact ⟨rfl, rfl⟩
set_option maxRecDepth 100000 in
set_option maxHeartbeats 4000000 in
theorem pClassNo (n : Int) (hno : n < 13 ∨ (ks.length : Int) ≤ n) : Calls Tryz.prog 34 #[.pointer (some ⟨pb, 0, none⟩), .int .i64 n] w fun e w' => e = .returned (.tuple #[.agg #[.slice none 0 0, .int .i64 0, .int .i64 0, .slice none 0 0, .slice none 0 0], .bool false]) ∧ Only (fun _ => False) w w' := by
  have ho0 := (Only.refl (fun _ => False) w).alloc zeroCls
  have hr0 := heap_alloc_new w zeroCls
  obtain ⟨W0, hW0⟩ : ∃ W0, w.alloc zeroCls = W0 := ⟨_, rfl⟩
  rw [hW0] at ho0 hr0
  have C1 := Lib.hid (pListedNo (h.only ho0) hn n hno)
  obtain ⟨u0, u1, u2, u3, u4⟩ := cells5T hr0
  obtain ⟨v0, v1, v2, v3, v4⟩ := marks5T hr0
  have HO := Lib.hid ho0
  have HR := Lib.hid hr0
  have HW0 := Lib.hid hW0
  clear h ho0 hr0 hW0 hno hn
  go_enter Tryz.func34, Tryz.ntmps34
  go_wp2_with (fail)
  rw [HW0.out]
  refine C1.out.mono ?_
  rintro e w1 ⟨rfl, hww⟩
  subst hww
  go_wp2
  exact bodyPost_ret (class_result3 (b := w.heap.size) Tryz.results34 (store5T HR.out) rfl rfl) rfl ⟨rfl, only5T HO.out (fun hl => absurd hl (Nat.lt_irrefl _))⟩
end
end Go.Proofs.YtgdgffnaknkbcaaGreatDoor
namespace Go.Proofs.YtgdgffnaknkbcaaGreatDoor
open Go.RowKit Go.Maps
set_option linter.unusedVariables false
set_option linter.unusedSimpArgs false
section
variable {G : Nat → Prop} {fv : Nat → Value} {w : World} {pb : Nat} {ks : List KindV} {cl : Nat → ClassV} {sl : Nat → Nat → Int} (h : ProgG G fv w pb ks cl sl) (hpos : 0 < ks.length)
  {lb i : Nat} {c : ClassV} {vp vf vm vof vom : Value} (hl : w.heap[lb]? = some (listedO i c vp vf vm vof vom)) (hp : Pool w vp c.pool) {k : KindV} (hkn : k.name = (classZ c.pool c.this).1) (hna : k.name.size ≤ 256)
include h hpos hl hp hkn hna
set_option maxHeartbeats 8000000 in
set_option maxRecDepth 100000 in
theorem pHasOwn : Calls Tryz.prog 112 #[.pointer (some ⟨pb, 0, none⟩), .pointer (some ⟨lb, 0, none⟩)] w fun e w' => e = .returned (.bool (plainN (nums k.name) && (findZ ks k.name == (i : Int)))) ∧ Only (fun _ => False) w w' := by
  have CM := Lib.hid (fun (W : World) (ho : Only (fun _ => False) w W) => lName (ho.heap hl (fun h => h)) (hp.only ho (fun _ _ h => h)))
  have CN := Lib.hid (fun (W : World) => pIsName k.name W hna)
  have CF := Lib.hid (fun (W : World) (ho : Only (fun _ => False) w W) => pFind (h.only ho) hpos k.name (by unfold maxLen; omega))
  rw [← hkn] at CM
  have hq := (cells8L hl).1
  have HS0 := Lib.hid (show (fun wc => wc.cell? ⟨lb, 0, none⟩ = some (.int .i64 (i : Int)) ∧ Only (fun _ => False) w wc) (w.drewN 1) from ⟨hq, (Only.refl _ _).drewN 1⟩)
  generalize findZ ks k.name = fz at *
  generalize plainN (nums k.name) = pl at *
  generalize k.name = nm at *
  clear h hpos hl hp hkn hna hq
  go_enter Tryz.func112, Tryz.ntmps112
  cases pl
  · go_wp2_with (fail)
    refine wp_region_held_drew (S := fun wc => wc.cell? ⟨lb, 0, none⟩ = some (.int .i64 (i : Int)) ∧ Only (fun _ => False) w wc) (by kernel_rfl) HS0.out (fun hHeld => ?_)
    refine wpAnyH_take (i := 0) (v := ?_) (by simp only [List.getElem?_toArray, List.getElem?_cons_succ, List.getElem?_cons_zero]; rfl) (by kernel_rfl) (by kernel_rfl) (by kernel_rfl) (by exact fun _ _ _ h => h) (Or.inl ⟨by rfl, ?_⟩) (by assumption) ?_
    rotate_left 1
    · (intro w hSw; (try dsimp only at hSw); go_simp; try with_reducible rfl)
    try simp only [Act.put, List.setIfInBounds_toArray, List.set_cons_zero, List.set_cons_succ]
    refine wpAnyH_ready (rs := [1]) (by kernel_rfl) (by simp) ?_
    refine AllReadyH.cons (by simp only [List.getElem?_toArray, List.getElem?_cons_succ, List.getElem?_cons_zero]; rfl) (fun K hK => ?_) AllReadyH.nil
    go_simp
    (refine (CM.out _ hHeld.2).mono ?_; rintro e w2 ⟨rfl, ho⟩; have HQ1 := Lib.hid (show (fun wc => wc.cell? ⟨lb, 0, none⟩ = some (.int .i64 (i : Int)) ∧ Only (fun _ => False) w wc) w2 from ⟨ho.cell hHeld.1 (fun h => h), hHeld.2.trans ho (fun _ h _ => h)⟩); clear ho)
    go_wp2_with fail
    refine hK.out _ _ ?_ (fun hHeld2 => ?_)
    · exact HQ1.out
    clear hK K
    try simp only [Act.put, List.setIfInBounds_toArray, List.set_cons_zero, List.set_cons_succ]
    clear hHeld
    have hHeld := hHeld2
    clear hHeld2
    refine wpAnyH_ready (rs := [2]) (by kernel_rfl) (by simp) ?_
    refine AllReadyH.cons (by simp only [List.getElem?_toArray, List.getElem?_cons_succ, List.getElem?_cons_zero]; rfl) (fun K hK => ?_) AllReadyH.nil
    go_simp
    (refine (CN.out _).mono ?_; rintro e w3 ⟨rfl, ho⟩; have HQ2 := Lib.hid (show (fun wc => wc.cell? ⟨lb, 0, none⟩ = some (.int .i64 (i : Int)) ∧ Only (fun _ => False) w wc) w3 from ⟨ho.cell hHeld.1 (fun h => h), hHeld.2.trans ho (fun _ h _ => h)⟩); clear ho)
    go_wp2_with fail
    refine hK.out _ _ ?_ (fun hHeld2 => ?_)
    · exact HQ2.out
    clear hK K
    try simp only [Act.put, List.setIfInBounds_toArray, List.set_cons_zero, List.set_cons_succ]
    clear hHeld
    have hHeld := hHeld2
    clear hHeld2
    refine wpAnyH_take (i := 3) (v := ?_) (by simp only [List.getElem?_toArray, List.getElem?_cons_succ, List.getElem?_cons_zero]; rfl) (by kernel_rfl) (by kernel_rfl) (by kernel_rfl) (by exact fun _ _ _ h => h) (Or.inl ⟨by rfl, ?_⟩) (by assumption) ?_
    rotate_left 1
    · (intro w hSw; (try dsimp only at hSw); go_simp; try with_reducible rfl)
    try simp only [Act.put, List.setIfInBounds_toArray, List.set_cons_zero, List.set_cons_succ]
    refine wpAnyH_take (i := 4) (v := undef) (by simp only [List.getElem?_toArray, List.getElem?_cons_succ, List.getElem?_cons_zero]; rfl) (by kernel_rfl) (by kernel_rfl) (by kernel_rfl) (by exact fun _ _ _ h => h) (Or.inr ⟨by rfl, rfl⟩) (by assumption) ?_
    try simp only [Act.put, List.setIfInBounds_toArray, List.set_cons_zero, List.set_cons_succ]
    refine wpAnyH_take (i := 5) (v := undef) (by simp only [List.getElem?_toArray, List.getElem?_cons_succ, List.getElem?_cons_zero]; rfl) (by kernel_rfl) (by kernel_rfl) (by kernel_rfl) (by exact fun _ _ _ h => h) (Or.inr ⟨by rfl, rfl⟩) (by assumption) ?_
    try simp only [Act.put, List.setIfInBounds_toArray, List.set_cons_zero, List.set_cons_succ]
    refine wpAnyH_take (i := 6) (v := undef) (by simp only [List.getElem?_toArray, List.getElem?_cons_succ, List.getElem?_cons_zero]; rfl) (by kernel_rfl) (by kernel_rfl) (by kernel_rfl) (by exact fun _ _ _ h => h) (Or.inr ⟨by rfl, rfl⟩) (by assumption) ?_
    try simp only [Act.put, List.setIfInBounds_toArray, List.set_cons_zero, List.set_cons_succ]
    refine wpAnyH_take (i := 7) (v := undef) (by simp only [List.getElem?_toArray, List.getElem?_cons_succ, List.getElem?_cons_zero]; rfl) (by kernel_rfl) (by kernel_rfl) (by kernel_rfl) (by exact fun _ _ _ h => h) (Or.inr ⟨by rfl, rfl⟩) (by assumption) ?_
    try simp only [Act.put, List.setIfInBounds_toArray, List.set_cons_zero, List.set_cons_succ]
    refine wpAnyH_take (i := 8) (v := undef) (by simp only [List.getElem?_toArray, List.getElem?_cons_succ, List.getElem?_cons_zero]; rfl) (by kernel_rfl) (by kernel_rfl) (by kernel_rfl) (by exact fun _ _ _ h => h) (Or.inr ⟨by rfl, rfl⟩) (by assumption) ?_
    try simp only [Act.put, List.setIfInBounds_toArray, List.set_cons_zero, List.set_cons_succ]
    refine wpAnyH_take (i := 9) (v := undef) (by simp only [List.getElem?_toArray, List.getElem?_cons_succ, List.getElem?_cons_zero]; rfl) (by kernel_rfl) (by kernel_rfl) (by kernel_rfl) (by exact fun _ _ _ h => h) (Or.inr ⟨by rfl, rfl⟩) (by assumption) ?_
    try simp only [Act.put, List.setIfInBounds_toArray, List.set_cons_zero, List.set_cons_succ]
    refine wpAnyH_take (i := 10) (v := undef) (by simp only [List.getElem?_toArray, List.getElem?_cons_succ, List.getElem?_cons_zero]; rfl) (by kernel_rfl) (by kernel_rfl) (by kernel_rfl) (by exact fun _ _ _ h => h) (Or.inr ⟨by rfl, rfl⟩) (by assumption) ?_
    try simp only [Act.put, List.setIfInBounds_toArray, List.set_cons_zero, List.set_cons_succ]
    refine wpAnyH_take (i := 11) (v := undef) (by simp only [List.getElem?_toArray, List.getElem?_cons_succ, List.getElem?_cons_zero]; rfl) (by kernel_rfl) (by kernel_rfl) (by kernel_rfl) (by exact fun _ _ _ h => h) (Or.inr ⟨by rfl, rfl⟩) (by assumption) ?_
    try simp only [Act.put, List.setIfInBounds_toArray, List.set_cons_zero, List.set_cons_succ]
    refine wpAnyH_take (i := 12) (v := undef) (by simp only [List.getElem?_toArray, List.getElem?_cons_succ, List.getElem?_cons_zero]; rfl) (by kernel_rfl) (by kernel_rfl) (by kernel_rfl) (by exact fun _ _ _ h => h) (Or.inr ⟨by rfl, rfl⟩) (by assumption) ?_
    try simp only [Act.put, List.setIfInBounds_toArray, List.set_cons_zero, List.set_cons_succ]
    refine wpAnyH_take (i := 13) (v := ?_) (by simp only [List.getElem?_toArray, List.getElem?_cons_succ, List.getElem?_cons_zero]; rfl) (by kernel_rfl) (by kernel_rfl) (by kernel_rfl) (by exact fun _ _ _ h => h) (Or.inl ⟨by rfl, ?_⟩) (by assumption) ?_
    rotate_left 1
    · (intro w hSw; (try dsimp only at hSw); go_simp; try with_reducible rfl)
    try simp only [Act.put, List.setIfInBounds_toArray, List.set_cons_zero, List.set_cons_succ]
    refine wpAnyH_take (i := 14) (v := ?_) (by simp only [List.getElem?_toArray, List.getElem?_cons_succ, List.getElem?_cons_zero]; rfl) (by kernel_rfl) (by kernel_rfl) (by kernel_rfl) (by exact fun _ _ _ h => h) (Or.inl ⟨by rfl, ?_⟩) (by assumption) ?_
    rotate_left 1
    · (intro w hSw; (try dsimp only at hSw); go_simp; try with_reducible rfl)
    try simp only [Act.put, List.setIfInBounds_toArray, List.set_cons_zero, List.set_cons_succ]
    refine wpAnyH_done (by kernel_rfl) ?_ _
    have HF := Lib.hid HQ2.out.2
    clear HQ1 HQ2 HS0
    go_wp2
    go_ret
    exact ⟨rfl, HF.out⟩
  · go_wp2_with (fail)
    refine wp_region_held_drew (S := fun wc => wc.cell? ⟨lb, 0, none⟩ = some (.int .i64 (i : Int)) ∧ Only (fun _ => False) w wc) (by kernel_rfl) HS0.out (fun hHeld => ?_)
    refine wpAnyH_take (i := 0) (v := ?_) (by simp only [List.getElem?_toArray, List.getElem?_cons_succ, List.getElem?_cons_zero]; rfl) (by kernel_rfl) (by kernel_rfl) (by kernel_rfl) (by exact fun _ _ _ h => h) (Or.inl ⟨by rfl, ?_⟩) (by assumption) ?_
    rotate_left 1
    · (intro w hSw; (try dsimp only at hSw); go_simp; try with_reducible rfl)
    try simp only [Act.put, List.setIfInBounds_toArray, List.set_cons_zero, List.set_cons_succ]
    refine wpAnyH_ready (rs := [1]) (by kernel_rfl) (by simp) ?_
    refine AllReadyH.cons (by simp only [List.getElem?_toArray, List.getElem?_cons_succ, List.getElem?_cons_zero]; rfl) (fun K hK => ?_) AllReadyH.nil
    go_simp
    (refine (CM.out _ hHeld.2).mono ?_; rintro e w2 ⟨rfl, ho⟩; have HQ1 := Lib.hid (show (fun wc => wc.cell? ⟨lb, 0, none⟩ = some (.int .i64 (i : Int)) ∧ Only (fun _ => False) w wc) w2 from ⟨ho.cell hHeld.1 (fun h => h), hHeld.2.trans ho (fun _ h _ => h)⟩); clear ho)
    go_wp2_with fail
    refine hK.out _ _ ?_ (fun hHeld2 => ?_)
    · exact HQ1.out
    clear hK K
    try simp only [Act.put, List.setIfInBounds_toArray, List.set_cons_zero, List.set_cons_succ]
    clear hHeld
    have hHeld := hHeld2
    clear hHeld2
    refine wpAnyH_ready (rs := [2]) (by kernel_rfl) (by simp) ?_
    refine AllReadyH.cons (by simp only [List.getElem?_toArray, List.getElem?_cons_succ, List.getElem?_cons_zero]; rfl) (fun K hK => ?_) AllReadyH.nil
    go_simp
    (refine (CN.out _).mono ?_; rintro e w3 ⟨rfl, ho⟩; have HQ2 := Lib.hid (show (fun wc => wc.cell? ⟨lb, 0, none⟩ = some (.int .i64 (i : Int)) ∧ Only (fun _ => False) w wc) w3 from ⟨ho.cell hHeld.1 (fun h => h), hHeld.2.trans ho (fun _ h _ => h)⟩); clear ho)
    go_wp2_with fail
    refine hK.out _ _ ?_ (fun hHeld2 => ?_)
    · exact HQ2.out
    clear hK K
    try simp only [Act.put, List.setIfInBounds_toArray, List.set_cons_zero, List.set_cons_succ]
    clear hHeld
    have hHeld := hHeld2
    clear hHeld2
    refine wpAnyH_take (i := 3) (v := ?_) (by simp only [List.getElem?_toArray, List.getElem?_cons_succ, List.getElem?_cons_zero]; rfl) (by kernel_rfl) (by kernel_rfl) (by kernel_rfl) (by exact fun _ _ _ h => h) (Or.inl ⟨by rfl, ?_⟩) (by assumption) ?_
    rotate_left 1
    · (intro w hSw; (try dsimp only at hSw); go_simp; try with_reducible rfl)
    try simp only [Act.put, List.setIfInBounds_toArray, List.set_cons_zero, List.set_cons_succ]
    refine wpAnyH_take (i := 4) (v := ?_) (by simp only [List.getElem?_toArray, List.getElem?_cons_succ, List.getElem?_cons_zero]; rfl) (by kernel_rfl) (by kernel_rfl) (by kernel_rfl) (by exact fun _ _ _ h => h) (Or.inl ⟨by rfl, ?_⟩) (by assumption) ?_
    rotate_left 1
    · (intro w hSw; (try dsimp only at hSw); go_simp; try with_reducible rfl)
    try simp only [Act.put, List.setIfInBounds_toArray, List.set_cons_zero, List.set_cons_succ]
    refine wpAnyH_take (i := 5) (v := ?_) (by simp only [List.getElem?_toArray, List.getElem?_cons_succ, List.getElem?_cons_zero]; rfl) (by kernel_rfl) (by kernel_rfl) (by kernel_rfl) (by exact fun _ _ _ h => h) (Or.inl ⟨by rfl, ?_⟩) (by assumption) ?_
    rotate_left 1
    · (intro w hSw; (try dsimp only at hSw); go_simp; try with_reducible rfl)
    try simp only [Act.put, List.setIfInBounds_toArray, List.set_cons_zero, List.set_cons_succ]
    refine wpAnyH_take (i := 8) (v := ?_) (by simp only [List.getElem?_toArray, List.getElem?_cons_succ, List.getElem?_cons_zero]; rfl) (by kernel_rfl) (by kernel_rfl) (by kernel_rfl) (by exact fun _ _ _ h => h) (Or.inl ⟨by rfl, ?_⟩) (by assumption) ?_
    rotate_left 1
    · (intro w hSw; (try dsimp only at hSw); go_simp; try with_reducible rfl)
    try simp only [Act.put, List.setIfInBounds_toArray, List.set_cons_zero, List.set_cons_succ]
    refine wpAnyH_take (i := 9) (v := ?_) (by simp only [List.getElem?_toArray, List.getElem?_cons_succ, List.getElem?_cons_zero]; rfl) (by kernel_rfl) (by kernel_rfl) (by kernel_rfl) (by exact fun _ _ _ h => h) (Or.inl ⟨by rfl, ?_⟩) (by assumption) ?_
    rotate_left 1
    · (intro w hSw; (try dsimp only at hSw); go_simp; try with_reducible rfl)
    try simp only [Act.put, List.setIfInBounds_toArray, List.set_cons_zero, List.set_cons_succ]
    refine wpAnyH_take (i := 10) (v := ?_) (by simp only [List.getElem?_toArray, List.getElem?_cons_succ, List.getElem?_cons_zero]; rfl) (by kernel_rfl) (by kernel_rfl) (by kernel_rfl) (by exact fun _ _ _ h => h) (Or.inl ⟨by rfl, ?_⟩) (by assumption) ?_
    rotate_left 1
    · (intro w hSw; (try dsimp only at hSw); go_simp; try with_reducible rfl)
    try simp only [Act.put, List.setIfInBounds_toArray, List.set_cons_zero, List.set_cons_succ]
    refine wpAnyH_take (i := 11) (v := ?_) (by simp only [List.getElem?_toArray, List.getElem?_cons_succ, List.getElem?_cons_zero]; rfl) (by kernel_rfl) (by kernel_rfl) (by kernel_rfl) (by exact fun _ _ _ h => h) (Or.inl ⟨by rfl, ?_⟩) (by assumption) ?_
    rotate_left 1
    · (intro w hSw; (try dsimp only at hSw); go_simp; try with_reducible rfl)
    try simp only [Act.put, List.setIfInBounds_toArray, List.set_cons_zero, List.set_cons_succ]
    refine wpAnyH_ready (rs := [6]) (by kernel_rfl) (by simp) ?_
    refine AllReadyH.cons (by simp only [List.getElem?_toArray, List.getElem?_cons_succ, List.getElem?_cons_zero]; rfl) (fun K hK => ?_) AllReadyH.nil
    go_simp
    (refine (CM.out _ hHeld.2).mono ?_; rintro e w4 ⟨rfl, ho⟩; have HQ3 := Lib.hid (show (fun wc => wc.cell? ⟨lb, 0, none⟩ = some (.int .i64 (i : Int)) ∧ Only (fun _ => False) w wc) w4 from ⟨ho.cell hHeld.1 (fun h => h), hHeld.2.trans ho (fun _ h _ => h)⟩); clear ho)
    go_wp2_with fail
    refine hK.out _ _ ?_ (fun hHeld2 => ?_)
    · exact HQ3.out
    clear hK K
    try simp only [Act.put, List.setIfInBounds_toArray, List.set_cons_zero, List.set_cons_succ]
    clear hHeld
    have hHeld := hHeld2
    clear hHeld2
    refine wpAnyH_ready (rs := [7]) (by kernel_rfl) (by simp) ?_
    refine AllReadyH.cons (by simp only [List.getElem?_toArray, List.getElem?_cons_succ, List.getElem?_cons_zero]; rfl) (fun K hK => ?_) AllReadyH.nil
    go_simp
    (refine (CF.out _ hHeld.2).mono ?_; rintro e w5 ⟨rfl, hw5⟩; subst hw5; have HQ4 := Lib.hid hHeld)
    go_wp2_with fail
    refine hK.out _ _ ?_ (fun hHeld2 => ?_)
    · exact HQ4.out
    clear hK K
    try simp only [Act.put, List.setIfInBounds_toArray, List.set_cons_zero, List.set_cons_succ]
    clear hHeld
    have hHeld := hHeld2
    clear hHeld2
    refine wpAnyH_take (i := 12) (v := ?_) (by simp only [List.getElem?_toArray, List.getElem?_cons_succ, List.getElem?_cons_zero]; rfl) (by kernel_rfl) (by kernel_rfl) (by kernel_rfl) (by exact fun _ _ _ h => h) (Or.inl ⟨by rfl, ?_⟩) (by assumption) ?_
    rotate_left 1
    · (intro w hSw; (try dsimp only at hSw); go_simp; try with_reducible rfl)
    try simp only [Act.put, List.setIfInBounds_toArray, List.set_cons_zero, List.set_cons_succ]
    refine wpAnyH_take (i := 13) (v := ?_) (by simp only [List.getElem?_toArray, List.getElem?_cons_succ, List.getElem?_cons_zero]; rfl) (by kernel_rfl) (by kernel_rfl) (by kernel_rfl) (by exact fun _ _ _ h => h) (Or.inl ⟨by rfl, ?_⟩) (by assumption) ?_
    rotate_left 1
    · (intro w hSw; (try dsimp only at hSw); go_simp; try with_reducible rfl)
    try simp only [Act.put, List.setIfInBounds_toArray, List.set_cons_zero, List.set_cons_succ]
    refine wpAnyH_take (i := 14) (v := ?_) (by simp only [List.getElem?_toArray, List.getElem?_cons_succ, List.getElem?_cons_zero]; rfl) (by kernel_rfl) (by kernel_rfl) (by kernel_rfl) (by exact fun _ _ _ h => h) (Or.inl ⟨by rfl, ?_⟩) (by assumption) ?_
    rotate_left 1
    · (intro w hSw; (try dsimp only at hSw); go_simp; try with_reducible rfl)
    try simp only [Act.put, List.setIfInBounds_toArray, List.set_cons_zero, List.set_cons_succ]
    refine wpAnyH_done (by kernel_rfl) ?_ _
    have HF := Lib.hid HQ4.out.2
    clear HQ1 HQ2 HQ3 HQ4 HS0
    go_wp2
    go_ret
    exact ⟨rfl, HF.out⟩
end
end Go.Proofs.YtgdgffnaknkbcaaGreatDoor
namespace Go.Proofs.YtgdgffnaknkbcaaGreatDoor
open Go.RowKit Go.Maps
set_option linter.unusedVariables false
set_option linter.unusedSimpArgs false
attribute [local go_sem] Oper.semAt_some
set_option maxHeartbeats 16000000 in
set_option maxRecDepth 100000 in
theorem pEach {ofn isn : FuncId} (eof : ∀ args W, (callFunc ofn args).run Tryz.prog W = .ok (.enter ofn args) W) (eis : ∀ args W, (callFunc isn args).run Tryz.prog W = .ok (.enter isn args) W)
    {w : World} (pv : Value) {lb b2 b3 : Nat} (hb2 : w.cell? ⟨b2, 0, none⟩ = some (.func (.func ofn) #[] #[])) (hb3 : w.cell? ⟨b3, 0, none⟩ = some (.func (.func isn) #[] #[]))
    (v : Value) (l : List MethN) (sl : Nat → Int) (g : Nat → Bool) (hv : MemS w v l sl) (h64 : l.length ≤ 64)
    (hOf : Calls Tryz.prog ofn #[.iface 124 (.pointer (some ⟨lb, 0, none⟩))] w fun e w' => e = .returned v ∧ Only (fun _ => False) w w')
    (hIs : ∀ j, j < l.length → ∀ W, Calls Tryz.prog isn #[.agg #[.string (l.getD j default).name, .string (l.getD j default).desc, .int .i64 (l.getD j default).flags, .int .i64 (sl j)]] W fun e w' => e = .returned (.bool (g j)) ∧ Only (fun _ => False) W w') :
    Calls Tryz.prog 144 #[pv, .pointer (some ⟨lb, 0, none⟩), .pointer (some ⟨b2, 0, none⟩), .pointer (some ⟨b3, 0, none⟩)] w fun e w' => (∃ b : Bool, e = .returned (.bool b) ∧ (b = true ↔ ∀ j, j < l.length → g j = true ∧ hasZ l (l.getD j default).name (l.getD j default).desc = (j : Int))) ∧ Only (fun _ => False) w w' := by
  obtain ⟨ok, hok⟩ : ∃ ok : Prop, ok = ∀ j, j < l.length → g j = true ∧ hasZ l (l.getD j default).name (l.getD j default).desc = (j : Int) := ⟨_, rfl⟩
  rw [← hok]
  have HOK : Hid (ok ↔ ∀ j, j < l.length → g j = true ∧ hasZ l (l.getD j default).name (l.getD j default).desc = (j : Int)) := Lib.hid (by rw [hok])
  obtain ⟨ao, cap, rfl, -, -, -, -⟩ := id hv
  have HV := Lib.hid hv
  have HOF := Lib.hid hOf
  have HIS := Lib.hid hIs
  have HB3 := Lib.hid hb3
  have hlz : ((l.length : Nat) : Int) ≤ 64 := by omega
  clear hok hv hOf hIs hb3
  go_enter Tryz.func144, Tryz.ntmps144
  go_wp2_with (fail)
  refine HOF.out.mono ?_
  rintro e w1 ⟨rfl, ho1⟩
  have HO1 := Lib.hid ho1
  clear HOF ho1 hb2
  go_wp2
  go_loopw [8, 9, 16] (fun _ _ iv wr => ∃ j : Nat, iv = .int .i64 j ∧ j ≤ l.length ∧ Hid (∀ i, i < j → g i = true ∧ hasZ l (l.getD i default).name (l.getD i default).desc = (i : Int)) ∧ Hid (Only (fun _ => False) w wr)) (fun _ _ iv _ => l.length - (Lib.intOf iv).toNat)
  case atStart => exact ⟨0, rfl, Nat.zero_le _, Lib.hid (fun i h => absurd h (Nat.not_lt_zero i)), HO1⟩
  case round =>
    obtain ⟨j, rfl, hj, HT, HO⟩ := hrel
    by_cases hlt : j < l.length
    · have hjz : (j : Int) < (l.length : Int) := by omega
      have hj0 : (0 : Int) ≤ (j : Int) := by omega
      obtain ⟨b, o, rfl, y0, y1, y2, y3⟩ := Sl.at (HV.out.only HO.out) hlt
      have hi := HIS.out j hlt
      have cp := fun (W : World) (ho : Only (fun _ => False) w W) => pPlaceOf _ l sl (l.getD j default).name (l.getD j default).desc W (HV.out.only ho) (by omega)
      have HG : Hid (∀ i, i < j + 1 → i ≠ j → g i = true ∧ hasZ l (l.getD i default).name (l.getD i default).desc = (i : Int)) := Lib.hid (fun i h1 h2 => HT.out i (by omega))
      have HJ : Hid (ok → g j = true ∧ hasZ l (l.getD j default).name (l.getD j default).desc = (j : Int)) := Lib.hid (fun h => HOK.out.1 h j hlt)
      have HN : Hid ((g j = true ∧ hasZ l (l.getD j default).name (l.getD j default).desc = (j : Int)) → ∀ i, i < j + 1 → g i = true ∧ hasZ l (l.getD i default).name (l.getD i default).desc = (i : Int)) := Lib.hid (fun h i hi => by
        by_cases e : i = j
        · subst e; exact h
        · exact HG.out i hi e)
      generalize hasZ l (l.getD j default).name (l.getD j default).desc = hz at *
      generalize g j = gj at *
      obtain ⟨m, hm⟩ : ∃ m, l.getD j default = m := ⟨_, rfl⟩
      obtain ⟨s, hs⟩ : ∃ s, sl j = s := ⟨_, rfl⟩
      rw [hm] at y0 y1 y2 hi cp
      rw [hs] at hi
      rw [hs] at y3
      clear hm hs HG
      have hal := (Only.refl (fun _ => False) wr).alloc (.cells #[.string m.name, .string m.desc, .int .i64 m.flags, .int .i64 s] 123)
      have hrn := heap_alloc_new wr (.cells #[.string m.name, .string m.desc, .int .i64 m.flags, .int .i64 s] 123)
      have hoa := HO.out.trans hal (fun _ h _ => h)
      have hq3 := hoa.cell HB3.out (fun h => h)
      have HOA := Lib.hid hoa
      have HRN := Lib.hid hrn
      have HI := Lib.hid hi
      have CP := Lib.hid cp
      have HLJ := Lib.hid (show j < l.length from hlt)
      clear hal hrn hoa hi cp HIS
      go_wp2_with (fail)
      refine (HI.out _).mono ?_
      rintro e w3 ⟨rfl, ho3⟩
      have hr3 := ho3.heap HRN.out (fun h => h)
      have z0 := cell_blk hr3 0
      have z1 := cell_blk hr3 1
      have ho3' := HOA.out.trans ho3 (fun _ h _ => h)
      have C2 := Lib.hid (CP.out _ ho3')
      have HO3 := Lib.hid ho3'
      clear hr3 ho3 ho3' hq3 HRN HOA CP HI
      cases gj
      · have HB := Lib.hid (show ¬ ok from fun h => by have := (HJ.out h).1; cases this)
        clear HN HJ C2
        go_wp2
        go_ret
        first | exact ⟨.inl ⟨rfl, HB.out⟩, HO3.out⟩ | exact ⟨⟨false, rfl, fun h => absurd h (by decide), fun h => absurd h HB.out⟩, HO3.out⟩
      · by_cases hzj : hz = (j : Int)
        · have HT2 := Lib.hid (HN.out ⟨rfl, hzj⟩)
          have hzb : (hz != (j : Int)) = false := by rw [bne_eq_false_iff_eq]; exact hzj
          clear HN HJ hzj
          go_wp2_with (fail)
          refine C2.out.mono ?_
          rintro e w4 ⟨rfl, ho4⟩
          have HF := Lib.hid (HO3.out.trans ho4 (fun _ h _ => h))
          clear ho4 C2
          go_wp2
          go_roundw
          case measure => simp [Lib.intOf]; omega
          case rel => exact ⟨j + 1, by simp, by omega, HT2, HF⟩
        · have HB := Lib.hid (show ¬ ok from fun h => hzj (HJ.out h).2)
          have hzb : (hz != (j : Int)) = true := by simpa using hzj
          clear HN HJ hzj
          go_wp2_with (fail)
          refine C2.out.mono ?_
          rintro e w4 ⟨rfl, ho4⟩
          have HF := Lib.hid (HO3.out.trans ho4 (fun _ h _ => h))
          clear ho4 C2
          go_wp2
          go_ret
          first | exact ⟨.inl ⟨rfl, HB.out⟩, HF.out⟩ | exact ⟨⟨false, rfl, fun h => absurd h (by decide), fun h => absurd h HB.out⟩, HF.out⟩
    · obtain rfl : j = l.length := by omega
      have HB := Lib.hid (HOK.out.2 HT.out)
      have hnl : ¬ ((l.length : Nat) : Int) < ((l.length : Nat) : Int) := by omega
      go_wp2
      go_ret
      first | exact ⟨.inr ⟨rfl, HB.out⟩, HO.out⟩ | exact ⟨⟨true, rfl, fun _ => HB.out, fun _ => rfl⟩, HO.out⟩
end Go.Proofs.YtgdgffnaknkbcaaGreatDoor
namespace Go.Proofs.YtgdgffnaknkbcaaGreatDoor
open Go.RowKit Go.Maps
set_option linter.unusedVariables false
set_option linter.unusedSimpArgs false
attribute [local go_sem] Oper.semAt_some
theorem alloc_sz (w : World) (o : Obj) : (w.alloc o).heap.size = w.heap.size + 1 := by simp
theorem info1_rule : (Tryz.prog.info? 143).map (·.size) = some 1 := by kernel_rfl
theorem rule_result {fn : Func} {p : Tmp} (hr : fn.results = #[.cell p 143]) {w : World} {b : Nat} {f : Value} {tmps : Array Value} (h : w.heap[b]? = some (.cells #[f] 143 (0, 0))) (ht : tmps.getD p undef = .pointer (some ⟨b, 0, none⟩)) :
    (results fn tmps).run Tryz.prog w = .ok (.agg #[f]) w := by
  have hp' : tmps[p]?.getD undef = .pointer (some ⟨b, 0, none⟩) := by simpa using ht
  have hL := run_loadVar_row w b 143 143 _ (0, 0) _ h Tryz.underlying143 rfl info1_rule
  simp only [results, hr]
  simp [Sem.run_bind, Result.andThen, hp', asAddr, hL]
set_option maxHeartbeats 4000000 in
set_option maxRecDepth 100000 in
theorem pForEach (ofn isn : FuncId) (w : World) :
    Calls Tryz.prog 114 #[.func (.func ofn) #[] #[], .func (.func isn) #[] #[]] w fun e w' => e = .returned (.agg #[.func (.func 144) #[] #[.pointer (some ⟨w.heap.size, 0, none⟩), .pointer (some ⟨w.heap.size + 1, 0, none⟩)]]) ∧
      w'.cell? ⟨w.heap.size, 0, none⟩ = some (.func (.func ofn) #[] #[]) ∧ w'.cell? ⟨w.heap.size + 1, 0, none⟩ = some (.func (.func isn) #[] #[]) ∧ Only (fun _ => False) w w' := by
  have hmf : ∀ (fn : Fn) (first cap : Array Value) (w : World), (Instr.makeFunc fn first cap).run Tryz.prog w = .ok (.func fn first cap) w := fun _ _ _ _ => rfl
  have hsf : ∀ a n (f c : Array Value) W, (store a (.func (.func n) f c)).run Tryz.prog W = stored Tryz.prog W a (.func (.func n) f c) .plain := fun a n f c W => run_store _ W a _ .plain rfl
  go_enter Tryz.func114, Tryz.ntmps114
  have ho := (((Only.refl (fun _ => False) w).alloc (.cells #[.func (.func ofn) #[] #[]] 101)).alloc (.cells #[.func (.func isn) #[] #[]] 169)).alloc (.cells #[.func (.func 144) #[] #[.pointer (some ⟨w.heap.size, 0, none⟩), .pointer (some ⟨w.heap.size + 1, 0, none⟩)]] 143)
  have h1 := heap_alloc_new w (.cells #[.func (.func ofn) #[] #[]] 101)
  have h2 := heap_alloc_new (w.alloc (.cells #[.func (.func ofn) #[] #[]] 101)) (.cells #[.func (.func isn) #[] #[]] 169)
  have h3 := heap_alloc_new ((w.alloc (.cells #[.func (.func ofn) #[] #[]] 101)).alloc (.cells #[.func (.func isn) #[] #[]] 169)) (.cells #[.func (.func 144) #[] #[.pointer (some ⟨w.heap.size, 0, none⟩), .pointer (some ⟨w.heap.size + 1, 0, none⟩)]] 143)
  rw [alloc_sz, alloc_sz] at h3
  rw [alloc_sz] at h2
  have a1 := ((((Only.refl (fun _ => False) _).alloc (.cells #[.func (.func isn) #[] #[]] 169)).alloc (.cells #[.func (.func 144) #[] #[.pointer (some ⟨w.heap.size, 0, none⟩), .pointer (some ⟨w.heap.size + 1, 0, none⟩)]] 143)).heap h1 (fun h => h))
  have a2 := ((Only.refl (fun _ => False) _).alloc (.cells #[.func (.func 144) #[] #[.pointer (some ⟨w.heap.size, 0, none⟩), .pointer (some ⟨w.heap.size + 1, 0, none⟩)]] 143)).heap h2 (fun h => h)
  have HO := Lib.hid ho
  have H1 := Lib.hid a1
  have H2 := Lib.hid a2
  have H3 := Lib.hid h3
  clear ho h1 h2 h3 a1 a2
  go_wp2
  refine bodyPost_ret (rule_result (b := w.heap.size + 1 + 1) Tryz.results114 ?_ rfl) rfl ⟨rfl, ?_, ?_, ?_⟩
  · exact H3.out
  · exact cell_blk H1.out 0
  · exact cell_blk H2.out 0
  · exact HO.out
end Go.Proofs.YtgdgffnaknkbcaaGreatDoor
