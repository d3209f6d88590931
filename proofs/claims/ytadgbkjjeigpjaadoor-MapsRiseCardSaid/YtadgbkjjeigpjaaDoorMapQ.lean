/- The document's own reading of maps: one type, some types. No condition beyond a reader that was made. -/
import Derived.Deep.RegionHeld3
import Derived.Deep.QuietTactic
import Derived.BigQuiet
import Derived.Test.YtadgbkjjeigpjaaDoorMapR
import Derived.Test.YtadgbkjjeigpjaaDoorMapTr
namespace Go.Proofs.YtadgbkjjeigpjaaDoor
open Go.RowKit
set_option linter.unusedVariables false
set_option linter.unusedSimpArgs false

theorem type_alone {fn : Func} {p : Tmp} (hr : fn.results = #[.cell p 39]) {w : World} {b : Nat} {t : TypeV} {tmps : Array Value} (h : w.heap[b]? = some (.cells #[.int .i64 t.k, .string t.name, .int .i64 t.dims, .int .i64 t.elem, .int .i64 t.at_] 39 (0, 0))) (ht : tmps.getD p undef = .pointer (some ⟨b, 0, none⟩)) :
    (results fn tmps).run Tryd.prog w = .ok (valT t) w :=
  results_cell_row hr tmps w b 39 _ (0, 0) _ ht h Tryd.underlying39 rfl info5_type
theorem classZ_no {cs : List ConstV} {i : Int} (h : (classZ cs i).2 = false) : (classZ cs i).1 = noT := by
  unfold classZ textZ at *
  split at h
  · split at h
    · cases h
    · rw [if_pos (by assumption), if_neg (by assumption)]
  · rw [if_neg (by assumption)]
theorem class_small {w : World} {v : Value} {cs : List ConstV} (hp : Pool w v cs) (i : Int) : (classZ cs i).1.size ≤ 140737488351232 := by
  have hr : ∀ c ∈ cs, ConstR c := by obtain ⟨_, _, _, _, _, _, h, _⟩ := hp; exact h
  have h0 : noT.size ≤ 140737488351232 := by show 0 ≤ _; omega
  unfold classZ
  split
  · unfold textZ
    split
    · rename_i h
      obtain ⟨j, hj, _, hl, _⟩ := isZ_lt h
      rw [hj, Int.toNat_natCast]
      exact (hr _ (getD_mem hl)).rt
    · exact h0
  · exact h0
/-- A class's type: what is told behind the number of its place. -/
def classM2 (cs : List ConstV) (i : Int) : Pr TypeV := fun _ k => match typeN (classZ cs i).1 with | some t => .ok (t, k) | none => .error 100
theorem nx_class (cs : List ConstV) (i : Int) (zs : List Int) (σ : StZ) : Nx (classM2 cs i) zs σ (typO (typeN (classZ cs i).1)) (if (!(typeN (classZ cs i).1).isSome) = true then failS 100 σ else σ) := by
  unfold Nx classM2
  cases σ <;> cases typeN (classZ cs i).1 <;> rfl
theorem bad_class {cs : List ConstV} {i : Int} (h : (classZ cs i).2 = false) : typeN (classZ cs i).1 = none := by rw [classZ_no h]; rfl

set_option maxHeartbeats 4000000 in
set_option maxRecDepth 100000 in
theorem refFresh (v : Value) (l : List TypeV) (w : World) (hl : Types w v l) (hn : l.length ≤ 9223372036854775806) :
    Calls Tryd.prog 17 #[v] w fun e w' => e = .returned (.bool (freshM l)) ∧ w = w' := by
  obtain ⟨ao, cap, rfl, h1, h2, h3, h4⟩ := id hl
  have HL := Lib.hid hl
  clear hl h3 h4
  go_enter Tryd.func17, Tryd.ntmps17
  go_wp2
  go_loop [3] (fun i => ∃ j : Nat, i = .int .i64 j ∧ j ≤ l.length ∧ freshM (l.take j) = false) (fun i => l.length - (intOf i).toNat)
  case atStart => exact ⟨0, rfl, Nat.zero_le _, rfl⟩
  case round =>
    obtain ⟨j, rfl, hj, hat⟩ := hrel
    by_cases hlt : j < l.length
    · obtain ⟨b, o, rfl, c⟩ := Sl.at HL.out hlt
      have hst := freshM_step hlt
      rw [hat, Bool.false_or] at hst
      have hjz : (j : Int) < (l.length : Int) := by omega
      have hc0 := c.c0
      by_cases hx : (l.getD j default).k = 7
      · have HR := Lib.hid (show freshM l = true by
          rw [show ((l.getD j default).k == 7) = true by simpa using hx] at hst
          have : freshM (l.take (j + 1) ++ l.drop (j + 1)) = true := by unfold freshM at *; rw [List.any_append, hst]; rfl
          rwa [List.take_append_drop] at this)
        rw [hx] at hc0
        generalize l.getD j default = k at *
        clear c hat hst hx
        go_wp2
        go_ret
        rw [HR.out]
        exact ⟨rfl, rfl⟩
      · have hxb : ((l.getD j default).k == 7) = false := by rw [beq_eq_false_iff_ne]; exact hx
        rw [hxb] at hst
        have HR := Lib.hid hst
        generalize l.getD j default = k at *
        clear c hat hx hst
        go_wp2
        go_round
        case rel => exact ⟨j + 1, by go_num, by omega, HR.out⟩
        case measure => simp [intOf]; omega
    · obtain rfl : j = l.length := by omega
      have HR := Lib.hid (show freshM l = false by rwa [List.take_of_length_le (Nat.le_refl _)] at hat)
      clear hat hj hlt
      go_wp2
      go_ret
      rw [HR.out]
      exact ⟨rfl, rfl⟩

section
variable (xb rb : Nat) (v : Value) (ap : Option Addr) (np cp : Nat) (cs : List ConstV) (zs : List Int) (σ : StZ) (k : Nat) (e : Int) (w : World)
set_option maxHeartbeats 8000000 in
set_option maxRecDepth 100000 in
theorem mqKind (h : Mq w xb rb v (.slice ap np cp) cs zs σ k e) :
    Calls Tryd.prog 35 #[.pointer (some ⟨xb, 0, none⟩)] w fun en w' => ∃ t σ', en = .returned (valT t) ∧ Nx (typeM cs) zs σ t σ' ∧ MqTo w xb rb v (.slice ap np cp) cs zs σ' w' := by
  have hxl := heap_lt h.blk
  have hrl := h.rf.lt
  have hr0 := heap_alloc_new w (.cells #[.int .i64 0, .string ⟨#[]⟩, .int .i64 0, .int .i64 0, .int .i64 0] 39)
  have ho0 := (Only.refl (fun _ => False) w).alloc (.cells #[.int .i64 0, .string ⟨#[]⟩, .int .i64 0, .int .i64 0, .int .i64 0] 39)
  have cN := mqNum xb rb v (.slice ap np cp) cs zs σ k e _ 1 (by decide) (by decide) (h.idle ho0)
  have CN := Lib.hid cN
  have HO0 := Lib.hid ho0
  have HM0 := Lib.hid h
  have HXL := Lib.hid (And.intro hxl hrl)
  have HR0 := Lib.hid hr0
  have NX := Lib.hid (show ¬ (w.heap.size = xb ∨ w.heap.size = rb) by omega)
  clear cN ho0 hr0 hxl hrl h
  go_enter Tryd.func35, Tryd.ntmps35
  go_wp2_with (fail)
  refine CN.out.mono ?_
  rintro en w1 ⟨n, σ1, rfl, hN, hb, hto⟩
  simp only [Int.reducePow] at hb
  have hr1 := hto.2.heap HR0.out NX.out
  have hto1 := MqTo.pre HO0.out hto
  obtain ⟨⟨k1, e1, hm⟩, _⟩ := hto
  have q2 := cell_blk hm.blk 2
  simp at q2
  obtain ⟨f0, f1, f2, f3, f4⟩ := marks5T hr1
  obtain ⟨c0, c1, c2, c3, c4⟩ := cells5T hr1
  have HN := Lib.hid hN
  have HTO := Lib.hid hto1
  have HM := Lib.hid hm
  have HR1 := Lib.hid hr1
  clear hN hto1 hr1 CN hm HR0 HO0
  cases σ1 with
  | error y =>
    obtain ⟨rfl, hy⟩ := HM.out.e_no
    have hyb : (e1 != 0) = true := by simpa using hy
    clear hy
    go_wp2
    exact bodyPost_ret (type_alone (t := zeroT) (b := w.heap.size) Tryd.results35 (store5T HR1.out) rfl) rfl ⟨zeroT, _, rfl, HN.out.bind (Nx.bad _ _ _ _), MqTo.newer HM0.out HTO.out (only5T (S := fun j => w.heap.size ≤ j) (Only.refl _ _) (fun _ => Nat.le_refl _))⟩
  | ok k' =>
    obtain ⟨rfl, rfl⟩ := HM.out.e_ok
    by_cases h0 : n = 0
    · subst h0
      have HT := Lib.hid (show Nx (if (0 : Int) = 0 then retP zeroT else if (0 : Int) = 1 then retP ⟨1, ⟨#[]⟩, 0, 0, 0⟩ else if (0 : Int) = 4 then retP ⟨2, ⟨#[]⟩, 0, 0, 0⟩ else if (0 : Int) = 5 then retP ⟨3, ⟨#[]⟩, 0, 0, 0⟩
  else if (0 : Int) = 6 then retP ⟨7, ⟨#[]⟩, 0, 0, 0⟩ else if (0 : Int) = 7 then classM cs else if (0 : Int) = 8 then bindP (placeM 0) fun a => retP ⟨6, ⟨#[]⟩, 0, 0, a⟩ else failP 100) zs (.ok k') zeroT (.ok k') by rw [if_pos rfl]; exact Nx.ret _ _ _)
      go_wp2
      exact bodyPost_ret (type_alone (t := zeroT) (b := w.heap.size) Tryd.results35 (store5T HR1.out) rfl) rfl ⟨zeroT, _, rfl, HN.out.bind HT.out, MqTo.newer HM0.out HTO.out (only5T (S := fun j => w.heap.size ≤ j) (Only.refl _ _) (fun _ => Nat.le_refl _))⟩
    by_cases h1 : n = 1
    · subst h1
      have HT := Lib.hid (show Nx (if (1 : Int) = 0 then retP zeroT else if (1 : Int) = 1 then retP ⟨1, ⟨#[]⟩, 0, 0, 0⟩ else if (1 : Int) = 4 then retP ⟨2, ⟨#[]⟩, 0, 0, 0⟩ else if (1 : Int) = 5 then retP ⟨3, ⟨#[]⟩, 0, 0, 0⟩
  else if (1 : Int) = 6 then retP ⟨7, ⟨#[]⟩, 0, 0, 0⟩ else if (1 : Int) = 7 then classM cs else if (1 : Int) = 8 then bindP (placeM 0) fun a => retP ⟨6, ⟨#[]⟩, 0, 0, a⟩ else failP 100) zs (.ok k') ⟨1, ⟨#[]⟩, 0, 0, 0⟩ (.ok k') by rw [if_neg (by decide), if_pos rfl]; exact Nx.ret _ _ _)
      go_wp2
      exact bodyPost_ret (type_alone (t := ⟨1, ⟨#[]⟩, 0, 0, 0⟩) (b := w.heap.size) Tryd.results35 (store5T HR1.out) rfl) rfl ⟨⟨1, ⟨#[]⟩, 0, 0, 0⟩, _, rfl, HN.out.bind HT.out, MqTo.newer HM0.out HTO.out (only5T (S := fun j => w.heap.size ≤ j) (Only.refl _ _) (fun _ => Nat.le_refl _))⟩
    by_cases h4 : n = 4
    · subst h4
      have HT := Lib.hid (show Nx (if (4 : Int) = 0 then retP zeroT else if (4 : Int) = 1 then retP ⟨1, ⟨#[]⟩, 0, 0, 0⟩ else if (4 : Int) = 4 then retP ⟨2, ⟨#[]⟩, 0, 0, 0⟩ else if (4 : Int) = 5 then retP ⟨3, ⟨#[]⟩, 0, 0, 0⟩
  else if (4 : Int) = 6 then retP ⟨7, ⟨#[]⟩, 0, 0, 0⟩ else if (4 : Int) = 7 then classM cs else if (4 : Int) = 8 then bindP (placeM 0) fun a => retP ⟨6, ⟨#[]⟩, 0, 0, a⟩ else failP 100) zs (.ok k') ⟨2, ⟨#[]⟩, 0, 0, 0⟩ (.ok k') by rw [if_neg (by decide), if_neg (by decide), if_pos rfl]; exact Nx.ret _ _ _)
      go_wp2
      exact bodyPost_ret (type_alone (t := ⟨2, ⟨#[]⟩, 0, 0, 0⟩) (b := w.heap.size) Tryd.results35 (store5T HR1.out) rfl) rfl ⟨⟨2, ⟨#[]⟩, 0, 0, 0⟩, _, rfl, HN.out.bind HT.out, MqTo.newer HM0.out HTO.out (only5T (S := fun j => w.heap.size ≤ j) (Only.refl _ _) (fun _ => Nat.le_refl _))⟩
    by_cases h5 : n = 5
    · subst h5
      have HT := Lib.hid (show Nx (if (5 : Int) = 0 then retP zeroT else if (5 : Int) = 1 then retP ⟨1, ⟨#[]⟩, 0, 0, 0⟩ else if (5 : Int) = 4 then retP ⟨2, ⟨#[]⟩, 0, 0, 0⟩ else if (5 : Int) = 5 then retP ⟨3, ⟨#[]⟩, 0, 0, 0⟩
  else if (5 : Int) = 6 then retP ⟨7, ⟨#[]⟩, 0, 0, 0⟩ else if (5 : Int) = 7 then classM cs else if (5 : Int) = 8 then bindP (placeM 0) fun a => retP ⟨6, ⟨#[]⟩, 0, 0, a⟩ else failP 100) zs (.ok k') ⟨3, ⟨#[]⟩, 0, 0, 0⟩ (.ok k') by rw [if_neg (by decide), if_neg (by decide), if_neg (by decide), if_pos rfl]; exact Nx.ret _ _ _)
      go_wp2
      exact bodyPost_ret (type_alone (t := ⟨3, ⟨#[]⟩, 0, 0, 0⟩) (b := w.heap.size) Tryd.results35 (store5T HR1.out) rfl) rfl ⟨⟨3, ⟨#[]⟩, 0, 0, 0⟩, _, rfl, HN.out.bind HT.out, MqTo.newer HM0.out HTO.out (only5T (S := fun j => w.heap.size ≤ j) (Only.refl _ _) (fun _ => Nat.le_refl _))⟩
    by_cases h6 : n = 6
    · subst h6
      have HT := Lib.hid (show Nx (if (6 : Int) = 0 then retP zeroT else if (6 : Int) = 1 then retP ⟨1, ⟨#[]⟩, 0, 0, 0⟩ else if (6 : Int) = 4 then retP ⟨2, ⟨#[]⟩, 0, 0, 0⟩ else if (6 : Int) = 5 then retP ⟨3, ⟨#[]⟩, 0, 0, 0⟩
  else if (6 : Int) = 6 then retP ⟨7, ⟨#[]⟩, 0, 0, 0⟩ else if (6 : Int) = 7 then classM cs else if (6 : Int) = 8 then bindP (placeM 0) fun a => retP ⟨6, ⟨#[]⟩, 0, 0, a⟩ else failP 100) zs (.ok k') ⟨7, ⟨#[]⟩, 0, 0, 0⟩ (.ok k') by rw [if_neg (by decide), if_neg (by decide), if_neg (by decide), if_neg (by decide), if_pos rfl]; exact Nx.ret _ _ _)
      go_wp2
      exact bodyPost_ret (type_alone (t := ⟨7, ⟨#[]⟩, 0, 0, 0⟩) (b := w.heap.size) Tryd.results35 (store5T HR1.out) rfl) rfl ⟨⟨7, ⟨#[]⟩, 0, 0, 0⟩, _, rfl, HN.out.bind HT.out, MqTo.newer HM0.out HTO.out (only5T (S := fun j => w.heap.size ≤ j) (Only.refl _ _) (fun _ => Nat.le_refl _))⟩
    have b0 : (n == 0) = false := by rw [beq_eq_false_iff_ne]; exact h0
    have b1 : (n == 1) = false := by rw [beq_eq_false_iff_ne]; exact h1
    have b4 : (n == 4) = false := by rw [beq_eq_false_iff_ne]; exact h4
    have b5 : (n == 5) = false := by rw [beq_eq_false_iff_ne]; exact h5
    have b6 : (n == 6) = false := by rw [beq_eq_false_iff_ne]; exact h6
    by_cases h7 : n = 7
    · subst h7
      have HT0 := Lib.hid (fun (t : TypeV) (σ' : StZ) (h : Nx (classM cs) zs (.ok k') t σ') => (show Nx (if (7 : Int) = 0 then retP zeroT else if (7 : Int) = 1 then retP ⟨1, ⟨#[]⟩, 0, 0, 0⟩ else if (7 : Int) = 4 then retP ⟨2, ⟨#[]⟩, 0, 0, 0⟩ else if (7 : Int) = 5 then retP ⟨3, ⟨#[]⟩, 0, 0, 0⟩ else if (7 : Int) = 6 then retP ⟨7, ⟨#[]⟩, 0, 0, 0⟩ else if (7 : Int) = 7 then classM cs else if (7 : Int) = 8 then bindP (placeM 0) fun a => retP ⟨6, ⟨#[]⟩, 0, 0, a⟩ else failP 100) zs (.ok k') t σ' by rw [if_neg (by decide), if_neg (by decide), if_neg (by decide), if_neg (by decide), if_neg (by decide), if_pos rfl]; exact h))
      have hq1 := cell_blk HM.out.blk 1
      have hq0 : w1.cell? ⟨xb, 1, none⟩ = some (.slice ap np cp) := hq1
      clear h0 h1 h4 h5 h6 hq1 b0 b1 b4 b5 b6
      go_wp2_with (fail)
      refine wp_region_held_drew (S := fun wc => wc.cell? ⟨xb, 1, none⟩ = some (.slice ap np cp)) (by kernel_rfl) hq0 (fun hHeld => ?_)
      refine wpAnyH_take (i := 0) (v := ?_) (by simp only [List.getElem?_toArray, List.getElem?_cons_succ, List.getElem?_cons_zero]; rfl) (by kernel_rfl) (by kernel_rfl) (by kernel_rfl) (by exact fun _ _ _ h => h) (Or.inl ⟨by rfl, ?_⟩) (by assumption) ?_
      rotate_left 1
      · (intro w hSw; (try dsimp only at hSw); go_simp; try with_reducible rfl)
      try simp only [Act.put, List.setIfInBounds_toArray, List.set_cons_zero, List.set_cons_succ]
      refine wpAnyH_take (i := 1) (v := ?_) (by simp only [List.getElem?_toArray, List.getElem?_cons_succ, List.getElem?_cons_zero]; rfl) (by kernel_rfl) (by kernel_rfl) (by kernel_rfl) (by exact fun _ _ _ h => h) (Or.inl ⟨by rfl, ?_⟩) (by assumption) ?_
      rotate_left 1
      · (intro w hSw; (try dsimp only at hSw); go_simp; try with_reducible rfl)
      try simp only [Act.put, List.setIfInBounds_toArray, List.set_cons_zero, List.set_cons_succ]
      refine wpAnyH_take (i := 2) (v := ?_) (by simp only [List.getElem?_toArray, List.getElem?_cons_succ, List.getElem?_cons_zero]; rfl) (by kernel_rfl) (by kernel_rfl) (by kernel_rfl) (by exact fun _ _ _ h => h) (Or.inl ⟨by rfl, ?_⟩) (by assumption) ?_
      rotate_left 1
      · (intro w hSw; (try dsimp only at hSw); go_simp; try with_reducible rfl)
      try simp only [Act.put, List.setIfInBounds_toArray, List.set_cons_zero, List.set_cons_succ]
      refine wpAnyH_take (i := 3) (v := ?_) (by simp only [List.getElem?_toArray, List.getElem?_cons_succ, List.getElem?_cons_zero]; rfl) (by kernel_rfl) (by kernel_rfl) (by kernel_rfl) (by exact fun _ _ _ h => h) (Or.inl ⟨by rfl, ?_⟩) (by assumption) ?_
      rotate_left 1
      · (intro w hSw; (try dsimp only at hSw); go_simp; try with_reducible rfl)
      try simp only [Act.put, List.setIfInBounds_toArray, List.set_cons_zero, List.set_cons_succ]
      refine wpAnyH_take (i := 4) (v := ?_) (by simp only [List.getElem?_toArray, List.getElem?_cons_succ, List.getElem?_cons_zero]; rfl) (by kernel_rfl) (by kernel_rfl) (by kernel_rfl) (by exact fun _ _ _ h => h) (Or.inl ⟨by rfl, ?_⟩) (by assumption) ?_
      rotate_left 1
      · (intro w hSw; (try dsimp only at hSw); go_simp; try with_reducible rfl)
      try simp only [Act.put, List.setIfInBounds_toArray, List.set_cons_zero, List.set_cons_succ]
      refine wpAnyH_ready (rs := [5]) (by kernel_rfl) (by simp) ?_
      refine AllReadyH.cons (by simp only [List.getElem?_toArray, List.getElem?_cons_succ, List.getElem?_cons_zero]; rfl) (fun K hK => ?_) AllReadyH.nil
      go_simp
      (refine (mqNum xb rb v (.slice ap np cp) cs zs (.ok k') k' 0 _ 2 (by decide) (by decide) (HM.out.idle (Only.refl (fun _ => False) w1).drew)).mono ?_; rintro en w2 ⟨x2, σ2, rfl, hN2, hb2, hto2⟩; have hto3 := MqTo.pre (Only.refl (fun _ => False) w1).drew hto2; have HTO2 := Lib.hid (HTO.out.then hto3); have HR2 := Lib.hid (hto3.2.heap HR1.out NX.out); obtain ⟨⟨k2, e2, hm2⟩, _⟩ := hto2; have HN2 := Lib.hid hN2; have HM2 := Lib.hid hm2; have HP2 := Lib.hid hm2.pool; have HQ := Lib.hid (show w2.cell? ⟨xb, 1, none⟩ = some (.slice ap np cp) from cell_blk hm2.blk 1); clear hN2 hto3 hm2 HM HTO HR1)
      go_wp2_with fail
      refine hK.out _ _ ?_ (fun hHeld2 => ?_)
      · exact HQ.out
      clear hK K
      try simp only [Act.put, List.setIfInBounds_toArray, List.set_cons_zero, List.set_cons_succ]
      clear hHeld
      have hHeld := hHeld2
      clear hHeld2
      refine wpAnyH_ready (rs := [6]) (by kernel_rfl) (by simp) ?_
      refine AllReadyH.cons (by simp only [List.getElem?_toArray, List.getElem?_cons_succ, List.getElem?_cons_zero]; rfl) (fun K hK => ?_) AllReadyH.nil
      go_simp
      (refine (refClass _ cs x2 w2 HP2.out).mono ?_; rintro en w3 ⟨rfl, rfl⟩)
      go_wp2_with fail
      refine hK.out _ _ ?_ (fun hHeld2 => ?_)
      · exact HQ.out
      clear hK K
      try simp only [Act.put, List.setIfInBounds_toArray, List.set_cons_zero, List.set_cons_succ]
      clear hHeld
      have hHeld := hHeld2
      clear hHeld2
      refine wpAnyH_take (i := 7) (v := ?_) (by simp only [List.getElem?_toArray, List.getElem?_cons_succ, List.getElem?_cons_zero]; rfl) (by kernel_rfl) (by kernel_rfl) (by kernel_rfl) (by exact fun _ _ _ h => h) (Or.inl ⟨by rfl, ?_⟩) (by assumption) ?_
      rotate_left 1
      · (intro w hSw; (try dsimp only at hSw); go_simp; try with_reducible rfl)
      try simp only [Act.put, List.setIfInBounds_toArray, List.set_cons_zero, List.set_cons_succ]
      refine wpAnyH_take (i := 8) (v := ?_) (by simp only [List.getElem?_toArray, List.getElem?_cons_succ, List.getElem?_cons_zero]; rfl) (by kernel_rfl) (by kernel_rfl) (by kernel_rfl) (by exact fun _ _ _ h => h) (Or.inl ⟨by rfl, ?_⟩) (by assumption) ?_
      rotate_left 1
      · (intro w hSw; (try dsimp only at hSw); go_simp; try with_reducible rfl)
      try simp only [Act.put, List.setIfInBounds_toArray, List.set_cons_zero, List.set_cons_succ]
      refine wpAnyH_take (i := 9) (v := ?_) (by simp only [List.getElem?_toArray, List.getElem?_cons_succ, List.getElem?_cons_zero]; rfl) (by kernel_rfl) (by kernel_rfl) (by kernel_rfl) (by exact fun _ _ _ h => h) (Or.inl ⟨by rfl, ?_⟩) (by assumption) ?_
      rotate_left 1
      · (intro w hSw; (try dsimp only at hSw); go_simp; try with_reducible rfl)
      try simp only [Act.put, List.setIfInBounds_toArray, List.set_cons_zero, List.set_cons_succ]
      refine wpAnyH_take (i := 10) (v := ?_) (by simp only [List.getElem?_toArray, List.getElem?_cons_succ, List.getElem?_cons_zero]; rfl) (by kernel_rfl) (by kernel_rfl) (by kernel_rfl) (by exact fun _ _ _ h => h) (Or.inl ⟨by rfl, ?_⟩) (by assumption) ?_
      rotate_left 1
      · (intro w hSw; (try dsimp only at hSw); go_simp; try with_reducible rfl)
      try simp only [Act.put, List.setIfInBounds_toArray, List.set_cons_zero, List.set_cons_succ]
      refine wpAnyH_take (i := 11) (v := ?_) (by simp only [List.getElem?_toArray, List.getElem?_cons_succ, List.getElem?_cons_zero]; rfl) (by kernel_rfl) (by kernel_rfl) (by kernel_rfl) (by exact fun _ _ _ h => h) (Or.inl ⟨by rfl, ?_⟩) (by assumption) ?_
      rotate_left 1
      · (intro w hSw; (try dsimp only at hSw); go_simp; try with_reducible rfl)
      try simp only [Act.put, List.setIfInBounds_toArray, List.set_cons_zero, List.set_cons_succ]
      refine wpAnyH_done (by kernel_rfl) ?_ _
      have hbd := bad_class (cs := cs) (i := x2)
      have hsm := class_small HP2.out x2
      have hN2 : Nx (classM cs) zs (.ok k') (typO (typeN (classZ cs x2).1)) (if (!(typeN (classZ cs x2).1).isSome) = true then failS 100 σ2 else σ2) := HN2.out.bind (nx_class cs x2 zs σ2)
      obtain ⟨s, okb, hcz⟩ : ∃ s okb, classZ cs x2 = (s, okb) := ⟨_, _, rfl⟩
      rw [hcz] at hbd hsm hN2 ⊢
      simp only at hbd hsm hN2 ⊢
      have cT := fun w => refMType s w hsm
      unfold TypeTo at cT
      generalize typeN s = ot at *
      obtain ⟨isb, hib⟩ : ∃ b, ot.isSome = b := ⟨_, rfl⟩
      have hbb : okb = false → isb = false := fun h => by rw [← hib, hbd h]; rfl
      obtain ⟨t, ht⟩ : ∃ t, typO ot = t := ⟨_, rfl⟩
      rw [ht, hib] at hN2
      simp only [ht, hib] at cT
      have HN3 := Lib.hid hN2
      unfold valT at cT
      have CT := Lib.hid cT
      clear cT hN2 hib ht hbd hsm hcz HN2
      go_wp2_with (fail)
      refine (CT.out _).mono ?_
      rintro en w3 ⟨rfl, ho3⟩
      have hal := (Only.refl (fun _ => False) w3).alloc (.cells #[.int .i64 t.k, .string t.name, .int .i64 t.dims, .int .i64 t.elem, .int .i64 t.at_] 39)
      have hTB := heap_alloc_new w3 (.cells #[.int .i64 t.k, .string t.name, .int .i64 t.dims, .int .i64 t.elem, .int .i64 t.at_] 39)
      have HTO3 := Lib.hid ((HTO2.out.idle ho3).idle hal)
      have hr3 := hal.heap (ho3.heap HR2.out (fun h => h)) (fun h => h)
      have HR3 := Lib.hid hr3
      have HTB := Lib.hid hTB
      have HSZ := Lib.hid (show w.heap.size < w3.heap.size from by have a := heap_lt HR2.out; have b := ho3.size; omega)
      have HM3 := Lib.hid ((HM2.out.idle ho3).idle hal)
      clear ho3 hal hTB hr3 CT HM2 HR2 HTO2
      cases okb with
      | false =>
          obtain rfl := hbb rfl
          have hmb := mqBad xb rb v (.slice ap np cp) cs zs σ2 k2 e2 _ true HM3.out
          have HMB := Lib.hid hmb
          clear hmb
          go_wp2_with (fail)
          refine HMB.out.mono ?_
          rintro en w4 ⟨rfl, hto4⟩
          have hTB4 := hto4.2.heap HTB.out (fun h => by have a := HXL.out; have b := HSZ.out; omega)
          have hR4 := hto4.2.heap HR3.out NX.out
          obtain ⟨g0, g1, g2, g3, g4⟩ := marks5T hR4
          obtain ⟨c0, c1, c2, c3, c4⟩ := cells5T hR4
          obtain ⟨d0, d1, d2, d3, d4⟩ := cells5T hTB4
          have HR4 := Lib.hid hR4
          have HTO4 := Lib.hid (HTO3.out.then (show MqTo _ xb rb v (.slice ap np cp) cs zs (failS 100 σ2) w4 from hto4))
          have HN4 := Lib.hid (show Nx (classM cs) zs (.ok k') t (failS 100 σ2) from HN3.out)
          clear hTB4 hR4 hto4 HMB HM3 HTO3 HN3 HTB HR3 HP2
          go_wp2
          exact bodyPost_ret (type_alone (t := t) (b := w.heap.size) Tryd.results35 (store5T HR4.out) rfl) rfl ⟨t, _, rfl, HN.out.bind (HT0.out _ _ HN4.out), MqTo.newer HM0.out HTO4.out (only5T (S := fun j => w.heap.size ≤ j) (Only.refl _ _) (fun _ => Nat.le_refl _))⟩

      | true =>
        cases isb with
        | false =>
          have hmb := mqBad xb rb v (.slice ap np cp) cs zs σ2 k2 e2 _ true HM3.out
          have HMB := Lib.hid hmb
          clear hmb
          go_wp2_with (fail)
          refine HMB.out.mono ?_
          rintro en w4 ⟨rfl, hto4⟩
          have hTB4 := hto4.2.heap HTB.out (fun h => by have a := HXL.out; have b := HSZ.out; omega)
          have hR4 := hto4.2.heap HR3.out NX.out
          obtain ⟨g0, g1, g2, g3, g4⟩ := marks5T hR4
          obtain ⟨c0, c1, c2, c3, c4⟩ := cells5T hR4
          obtain ⟨d0, d1, d2, d3, d4⟩ := cells5T hTB4
          have HR4 := Lib.hid hR4
          have HTO4 := Lib.hid (HTO3.out.then (show MqTo _ xb rb v (.slice ap np cp) cs zs (failS 100 σ2) w4 from hto4))
          have HN4 := Lib.hid (show Nx (classM cs) zs (.ok k') t (failS 100 σ2) from HN3.out)
          clear hTB4 hR4 hto4 HMB HM3 HTO3 HN3 HTB HR3 HP2
          go_wp2
          exact bodyPost_ret (type_alone (t := t) (b := w.heap.size) Tryd.results35 (store5T HR4.out) rfl) rfl ⟨t, _, rfl, HN.out.bind (HT0.out _ _ HN4.out), MqTo.newer HM0.out HTO4.out (only5T (S := fun j => w.heap.size ≤ j) (Only.refl _ _) (fun _ => Nat.le_refl _))⟩

        | true =>
          have hmb := mqBad xb rb v (.slice ap np cp) cs zs σ2 k2 e2 _ false HM3.out
          have HMB := Lib.hid hmb
          clear hmb
          go_wp2_with (fail)
          refine HMB.out.mono ?_
          rintro en w4 ⟨rfl, hto4⟩
          have hTB4 := hto4.2.heap HTB.out (fun h => by have a := HXL.out; have b := HSZ.out; omega)
          have hR4 := hto4.2.heap HR3.out NX.out
          obtain ⟨g0, g1, g2, g3, g4⟩ := marks5T hR4
          obtain ⟨c0, c1, c2, c3, c4⟩ := cells5T hR4
          obtain ⟨d0, d1, d2, d3, d4⟩ := cells5T hTB4
          have HR4 := Lib.hid hR4
          have HTO4 := Lib.hid (HTO3.out.then (show MqTo _ xb rb v (.slice ap np cp) cs zs (σ2) w4 from hto4))
          have HN4 := Lib.hid (show Nx (classM cs) zs (.ok k') t (σ2) from HN3.out)
          clear hTB4 hR4 hto4 HMB HM3 HTO3 HN3 HTB HR3 HP2
          go_wp2
          exact bodyPost_ret (type_alone (t := t) (b := w.heap.size) Tryd.results35 (store5T HR4.out) rfl) rfl ⟨t, _, rfl, HN.out.bind (HT0.out _ _ HN4.out), MqTo.newer HM0.out HTO4.out (only5T (S := fun j => w.heap.size ≤ j) (Only.refl _ _) (fun _ => Nat.le_refl _))⟩

    have b7 : (n == 7) = false := by rw [beq_eq_false_iff_ne]; exact h7
    by_cases h8 : n = 8
    · subst h8
      have HT0 := Lib.hid (fun (t : TypeV) (σ' : StZ) (h : Nx (bindP (placeM 0) fun a => retP ⟨6, ⟨#[]⟩, 0, 0, a⟩) zs (.ok k') t σ') => (show Nx (if (8 : Int) = 0 then retP zeroT else if (8 : Int) = 1 then retP ⟨1, ⟨#[]⟩, 0, 0, 0⟩ else if (8 : Int) = 4 then retP ⟨2, ⟨#[]⟩, 0, 0, 0⟩ else if (8 : Int) = 5 then retP ⟨3, ⟨#[]⟩, 0, 0, 0⟩ else if (8 : Int) = 6 then retP ⟨7, ⟨#[]⟩, 0, 0, 0⟩ else if (8 : Int) = 7 then classM cs else if (8 : Int) = 8 then bindP (placeM 0) fun a => retP ⟨6, ⟨#[]⟩, 0, 0, a⟩ else failP 100) zs (.ok k') t σ' by rw [if_neg (by decide), if_neg (by decide), if_neg (by decide), if_neg (by decide), if_neg (by decide), if_neg (by decide), if_pos rfl]; exact h))
      clear h0 h1 h4 h5 h6 h7 b0 b1 b4 b5 b6 b7
      go_wp2_with (fail)
      refine (mqNum xb rb v (.slice ap np cp) cs zs (.ok k') k' 0 w1 2 (by decide) (by decide) HM.out).mono ?_
      rintro en w2 ⟨x2, σ2, rfl, hN2, hb2, hto2⟩
      simp only [Int.reducePow] at hb2
      have HTO2 := Lib.hid (HTO.out.then hto2)
      have hr2 := hto2.2.heap HR1.out NX.out
      have HR2 := Lib.hid hr2
      obtain ⟨⟨k2, e2, hm2⟩, _⟩ := hto2
      have hN3 : Nx (placeM 0) zs (.ok k') (0 + x2) (if decide (0 + x2 ≤ 4096) = true then σ2 else failS 100 σ2) := Nx.bind (f := fun n => bindP (mustM (decide (0 + n ≤ 4096))) fun _ => retP (0 + n)) hN2 (Nx.bind (f := fun _ => retP (0 + x2)) (Nx.mustM (decide (0 + x2 ≤ 4096))) (Nx.ret (0 + x2) zs _))
      have hN4 := Nx.bind (f := fun a => retP (⟨6, ⟨#[]⟩, 0, 0, a⟩ : TypeV)) hN3 (Nx.ret (⟨6, ⟨#[]⟩, 0, 0, 0 + x2⟩ : TypeV) zs _)
      rw [Int.zero_add] at hN4
      have HN4 := Lib.hid hN4
      have HM2 := Lib.hid hm2
      clear hN2 hr2 hm2 hN3 hN4 HM HTO
      by_cases hx : x2 ≤ 4096
      · have HN5 := Lib.hid (show Nx (bindP (placeM 0) fun a => retP (⟨6, ⟨#[]⟩, 0, 0, a⟩ : TypeV)) zs (.ok k') ⟨6, ⟨#[]⟩, 0, 0, x2⟩ σ2 by have := HN4.out; rw [decide_eq_true hx, if_pos rfl] at this; exact this)
        have hmb := mqBad xb rb v (.slice ap np cp) cs zs σ2 k2 e2 _ false HM2.out
        have hxz : ¬ (4096 : Int) < x2 := by omega
        have HMB := Lib.hid hmb
        clear hmb hx HN4
        go_wp2_with (fail)
        rw [show decide ((4096 : Int) < x2) = false from decide_eq_false (by omega)]
        refine HMB.out.mono ?_
        rintro en w4 ⟨rfl, hto4⟩
        have hR4 := hto4.2.heap HR2.out NX.out
        obtain ⟨g0, g1, g2, g3, g4⟩ := marks5T hR4
        obtain ⟨c0, c1, c2, c3, c4⟩ := cells5T hR4
        have HR4 := Lib.hid hR4
        have HTO4 := Lib.hid (HTO2.out.then (show MqTo _ xb rb v (.slice ap np cp) cs zs σ2 w4 from hto4))
        clear hR4 hto4 HMB HM2 HTO2 HR2
        go_wp2
        exact bodyPost_ret (type_alone (t := ⟨6, ⟨#[]⟩, 0, 0, x2⟩) (b := w.heap.size) Tryd.results35 (store5T HR4.out) rfl) rfl ⟨⟨6, ⟨#[]⟩, 0, 0, x2⟩, _, rfl, HN.out.bind (HT0.out _ _ HN5.out), MqTo.newer HM0.out HTO4.out (only5T (S := fun j => w.heap.size ≤ j) (Only.refl _ _) (fun _ => Nat.le_refl _))⟩
      · have HN5 := Lib.hid (show Nx (bindP (placeM 0) fun a => retP (⟨6, ⟨#[]⟩, 0, 0, a⟩ : TypeV)) zs (.ok k') ⟨6, ⟨#[]⟩, 0, 0, x2⟩ (failS 100 σ2) by have := HN4.out; rw [decide_eq_false hx, if_neg (by decide)] at this; exact this)
        have hmb := mqBad xb rb v (.slice ap np cp) cs zs σ2 k2 e2 _ true HM2.out
        have hxz : (4096 : Int) < x2 := by omega
        have HMB := Lib.hid hmb
        clear hmb hx HN4
        go_wp2_with (fail)
        refine HMB.out.mono ?_
        rintro en w4 ⟨rfl, hto4⟩
        have hR4 := hto4.2.heap HR2.out NX.out
        obtain ⟨g0, g1, g2, g3, g4⟩ := marks5T hR4
        obtain ⟨c0, c1, c2, c3, c4⟩ := cells5T hR4
        have HR4 := Lib.hid hR4
        have HTO4 := Lib.hid (HTO2.out.then (show MqTo _ xb rb v (.slice ap np cp) cs zs (failS 100 σ2) w4 from hto4))
        clear hR4 hto4 HMB HM2 HTO2 HR2
        go_wp2
        exact bodyPost_ret (type_alone (t := ⟨6, ⟨#[]⟩, 0, 0, x2⟩) (b := w.heap.size) Tryd.results35 (store5T HR4.out) rfl) rfl ⟨⟨6, ⟨#[]⟩, 0, 0, x2⟩, _, rfl, HN.out.bind (HT0.out _ _ HN5.out), MqTo.newer HM0.out HTO4.out (only5T (S := fun j => w.heap.size ≤ j) (Only.refl _ _) (fun _ => Nat.le_refl _))⟩
    · have b8 : (n == 8) = false := by rw [beq_eq_false_iff_ne]; exact h8
      have HT0 := Lib.hid (show Nx (if n = 0 then retP zeroT else if n = 1 then retP ⟨1, ⟨#[]⟩, 0, 0, 0⟩ else if n = 4 then retP ⟨2, ⟨#[]⟩, 0, 0, 0⟩ else if n = 5 then retP ⟨3, ⟨#[]⟩, 0, 0, 0⟩ else if n = 6 then retP ⟨7, ⟨#[]⟩, 0, 0, 0⟩ else if n = 7 then classM cs else if n = 8 then bindP (placeM 0) fun a => retP ⟨6, ⟨#[]⟩, 0, 0, a⟩ else failP 100) zs (.ok k') zeroT (failS 100 (.ok k')) by rw [if_neg h0, if_neg h1, if_neg h4, if_neg h5, if_neg h6, if_neg h7, if_neg h8]; exact Nx.fail _ (by decide))
      have hmb := mqBad xb rb v (.slice ap np cp) cs zs (.ok k') k' 0 _ true HM.out
      have HMB := Lib.hid hmb
      clear hmb h0 h1 h4 h5 h6 h7 h8
      go_wp2_with (fail)
      refine HMB.out.mono ?_
      rintro en w4 ⟨rfl, hto4⟩
      have hR4 := hto4.2.heap HR1.out NX.out
      obtain ⟨g0, g1, g2, g3, g4⟩ := marks5T hR4
      obtain ⟨c0, c1, c2, c3, c4⟩ := cells5T hR4
      have HR4 := Lib.hid hR4
      have HTO4 := Lib.hid (HTO.out.then (show MqTo _ xb rb v (.slice ap np cp) cs zs (failS 100 (.ok k')) w4 from hto4))
      clear hR4 hto4 HMB HM HTO
      go_wp2
      exact bodyPost_ret (type_alone (t := zeroT) (b := w.heap.size) Tryd.results35 (store5T HR4.out) rfl) rfl ⟨zeroT, _, rfl, HN.out.bind HT0.out, MqTo.newer HM0.out HTO4.out (only5T (S := fun j => w.heap.size ≤ j) (Only.refl _ _) (fun _ => Nat.le_refl _))⟩
end
end Go.Proofs.YtadgbkjjeigpjaaDoor
