/- The law's own tree: the same pairs, as the program's; and awake. No condition but a length that leaves room. -/
import Derived.Deep.RegionHeld3
import Derived.Test.YtcmceabkadgfiaaKndZ
import Derived.Test.YtcmceabkadgfiaaKndU
import Derived.Test.YtcmceabkadgfiaaKndT
namespace Go.Proofs.Ytcmceabkadgfiaa
open Go.RowKit
set_option linter.unusedVariables false
set_option linter.unusedSimpArgs false

def cellsPr (p : PairV) : List Value := [.string p.name, .string p.super]
def PRow (w : World) (B : Nat) (v : Value) (l : List PairV) : Prop := w.ownsRow B 62 2 v l.length (l.flatMap cellsPr)
theorem cellsPr_at : ∀ {cs : List PairV} {i d : Nat}, i < cs.length → d < 2 → (cs.flatMap cellsPr)[i * 2 + d]? = (cellsPr (cs.getD i default))[d]?
  | c :: r, 0, d, _, hd => by
    rw [List.flatMap_cons, List.getElem?_append_left (by simp [cellsPr]; omega)]
    simp
  | c :: r, i + 1, d, hi, hd => by
    rw [List.flatMap_cons, List.getElem?_append_right (by simp [cellsPr]; omega)]
    have : (i + 1) * 2 + d - (cellsPr c).length = i * 2 + d := by simp [cellsPr]; omega
    rw [this, cellsPr_at (by simpa using hi) hd]
    simp
theorem PRow.pairs {w : World} {B : Nat} {v : Value} {cs : List PairV} (h : PRow w B v cs) : Pairs w v cs := by
  rcases h.2 with ⟨rfl, hn⟩ | ⟨g, cap, cur, rfl, hb, hg, hnc, hcm, hcs, htake⟩
  · have : cs = [] := List.eq_nil_of_length_eq_zero hn
    subst this
    exact Sl.nil _
  · refine ⟨_, cap, rfl, hnc, by unfold maxLen at hcm; omega, (fun e => by cases e), fun x hx _ => ?_⟩
    cases hx
    refine ⟨g, 0, rfl, fun i hi => ?_⟩
    have hc : ∀ d, d < 2 → w.cell? ⟨g, 0 + i * 2 + d, none⟩ = (cellsPr (cs.getD i default))[d]? := fun d hd => by
      rw [Nat.zero_add, ← cellsPr_at hi hd]
      exact (show w.ownsRow B _ 2 _ _ _ from h).cellAt (g := g) (cap := cap) (i * 2 + d) (by omega)
    exact ⟨hc 0 (by decide), hc 1 (by decide)⟩
theorem PRow.only {S : Nat → Prop} {w w' : World} {B : Nat} {v : Value} {cs : List PairV} (h : PRow w B v cs) (ho : Only S w w') (hs : ∀ k, v.ownBlock = some k → ¬ S k) : PRow w' B v cs := ho.owns h hs
theorem PRow.ge {w : World} {B : Nat} {v : Value} {cs : List PairV} (h : PRow w B v cs) : ∀ k, v.ownBlock = some k → B ≤ k ∧ k < w.heap.size := fun k hk => World.ownsRow.lt h k hk
theorem PRow.nil (w : World) (B : Nat) : PRow w B (.slice none 0 0) [] := World.ownsRow_nil _ _ _ _
theorem Src.pair {w : World} {m : Nat} (c : PairV) (h : w.heap.size = m) : Src (w.alloc (.cells #[.string c.name, .string c.super] 62)) 2 (.slice (some ⟨m, 0, none⟩) 1 1) 1 (cellsPr c) := by
  subst h
  refine ⟨rfl, ?_, _, 1, rfl, (fun e => by cases e), fun ad hd j u hj => ?_⟩
  · intro x hx
    simp only [cellsPr, List.mem_cons, List.mem_nil_iff, or_false] at hx
    rcases hx with rfl | rfl <;> rfl
  · cases hd
    rw [add_lit, Nat.zero_add, cell_blk (heap_alloc_new w _)]
    simpa [cellsPr] using hj
theorem PRow.more {w3 : World} {B : Nat} {v' : Value} {cs : List PairV} {c : PairV} (hown : w3.ownsRow B 62 2 v' (cs.length + 1) (cs.flatMap cellsPr ++ cellsPr c)) : PRow w3 B v' (cs ++ [c]) := by
  unfold PRow
  rw [List.length_append, List.flatMap_append]
  simpa using hown
theorem info_pair : (Try.prog.info? 62).map (fun i => (i.zero, i.size, i.bytes)) = some (some (.agg #[.string ⟨#[]⟩, .string ⟨#[]⟩]), 2, 32) := by kernel_rfl
set_option maxHeartbeats 4000000 in
set_option maxRecDepth 100000 in
theorem lawTree (v : Value) (l : List PairV) (w : World) (hp : Pairs w v l) (hn : l.length ≤ 4398046511104) :
    Calls Try.prog 22 #[v] w fun e w' => ∃ v', e = .returned v' ∧ Pairs w' v' l ∧ Only (fun _ => False) w w' := by
  obtain ⟨i0, hi, hz0, hz1, hz2⟩ := info_parts info_pair
  obtain ⟨ao, cap, rfl, p1, p2, p3, -⟩ := id hp
  have HP := Lib.hid hp
  clear hp p3
  go_enter Try.func22, Try.ntmps22
  go_wp2
  go_loopw [3, 4] (fun lv iv wr => ∃ j : Nat, iv = .int .i64 j ∧ j ≤ l.length ∧ Hid (PRow wr w.heap.size lv (l.take j)) ∧ Hid (Only (fun _ => False) w wr)) (fun _ iv _ => l.length - (intOf iv).toNat)
  case atStart => exact ⟨0, rfl, Nat.zero_le _, Lib.hid (PRow.nil _ _), Lib.hid (Only.refl _ _)⟩
  case round =>
    obtain ⟨j, rfl, hj, HROW0, HON⟩ := hrel
    by_cases hlt : j < l.length
    · have hjz : (j : Int) < (l.length : Int) := by omega
      have hj0 : (0 : Int) ≤ (j : Int) := by omega
      obtain ⟨b, o, rfl, y⟩ := Sl.at (HP.out.only HON.out) hlt
      obtain ⟨x0, x1⟩ := y
      have hbl : b < w.heap.size := by
        obtain ⟨b', o', e, y'⟩ := Sl.at HP.out hlt
        injection e with e
        injection e with e1 _ _
        subst e1
        exact World.block_lt_of_cell? w _ y'.c0
      have HBLT := Lib.hid hbl
      have HTK := Lib.hid (show l.take (j + 1) = l.take j ++ [l.getD j default] by rw [List.take_succ_eq_append_getElem hlt]; simp [List.getD, hlt])
      have hul : (l.take j).length ≤ 4398046511103 := by rw [List.length_take]; omega
      have HUL := Lib.hid (show (l.take j).length = j by rw [List.length_take]; omega)
      generalize l.getD j default = p at *
      generalize l.take j = us at *
      obtain ⟨al, cl, rfl, l1, l2, l3, -⟩ := id HROW0.out.pairs
      have HROW := HROW0
      clear hbl HROW0 l3
      go_wp2
      refine wp_region_held_drew (S := fun wc => wc.cell? ⟨b, o + j * 2, none⟩ = some (.string p.name) ∧ wc.cell? ⟨b, o + j * 2 + 1, none⟩ = some (.string p.super)) (by kernel_rfl) ⟨x0, x1⟩ (fun hHeld => ?_)
      refine wpAnyH_take (i := 0) (v := ?_) (by simp only [List.getElem?_toArray, List.getElem?_cons_succ, List.getElem?_cons_zero]; rfl) (by kernel_rfl) (by kernel_rfl) (by kernel_rfl) (by exact fun _ _ _ h => h) (Or.inl ⟨by rfl, ?_⟩) (by assumption) ?_
      rotate_left 1
      · (intro w hSw; (try dsimp only at hSw); go_simp; try with_reducible rfl)
      try simp only [Act.put, List.setIfInBounds_toArray, List.set_cons_zero, List.set_cons_succ]
      refine wpAnyH_take (i := 1) (v := ?_) (by simp only [List.getElem?_toArray, List.getElem?_cons_succ, List.getElem?_cons_zero]; rfl) (by kernel_rfl) (by kernel_rfl) (by kernel_rfl) (by exact fun _ _ _ h => h) (Or.inl ⟨by rfl, ?_⟩) (by assumption) ?_
      rotate_left 1
      · (intro w hSw; (try dsimp only at hSw); go_simp; try with_reducible rfl)
      try simp only [Act.put, List.setIfInBounds_toArray, List.set_cons_zero, List.set_cons_succ]
      refine wpAnyH_take (i := 2) (v := ?_) (by simp only [List.getElem?_toArray, List.getElem?_cons_succ, List.getElem?_cons_zero]; rfl) (by kernel_rfl) (by kernel_rfl) (by kernel_rfl) (by exact fun _ _ _ h => h) (Or.inl ⟨by rfl, ?_⟩) (by assumption) ?_
      rotate_left 1
      · (intro w hSw; (try dsimp only at hSw); go_simp; try with_reducible rfl)
      try simp only [Act.put, List.setIfInBounds_toArray, List.set_cons_zero, List.set_cons_succ]
      refine wpAnyH_take (i := 3) (v := ?_) (by simp only [List.getElem?_toArray, List.getElem?_cons_succ, List.getElem?_cons_zero]; rfl) (by kernel_rfl) (by kernel_rfl) (by kernel_rfl) (by exact fun _ _ _ h => h) (Or.inl ⟨by rfl, ?_⟩) (by assumption) ?_
      rotate_left 1
      · (intro w hSw; (try dsimp only at hSw); go_simp; try with_reducible rfl)
      try simp only [Act.put, List.setIfInBounds_toArray, List.set_cons_zero, List.set_cons_succ]
      refine wpAnyH_take (i := 4) (v := ?_) (by simp only [List.getElem?_toArray, List.getElem?_cons_succ, List.getElem?_cons_zero]; rfl) (by kernel_rfl) (by kernel_rfl) (by kernel_rfl) (by exact fun _ _ _ h => h) (Or.inl ⟨by rfl, ?_⟩) (by assumption) ?_
      rotate_left 1
      · (intro w hSw; (try dsimp only at hSw); go_simp; try with_reducible rfl)
      try simp only [Act.put, List.setIfInBounds_toArray, List.set_cons_zero, List.set_cons_succ]
      refine wpAnyH_take (i := 5) (v := ?_) (by simp only [List.getElem?_toArray, List.getElem?_cons_succ, List.getElem?_cons_zero]; rfl) (by kernel_rfl) (by kernel_rfl) (by kernel_rfl) (by exact fun _ _ _ h => h) (Or.inl ⟨by rfl, ?_⟩) (by assumption) ?_
      rotate_left 1
      · (intro w hSw; (try dsimp only at hSw); go_simp; try with_reducible rfl)
      try simp only [Act.put, List.setIfInBounds_toArray, List.set_cons_zero, List.set_cons_succ]
      refine wpAnyH_take (i := 6) (v := ?_) (by simp only [List.getElem?_toArray, List.getElem?_cons_succ, List.getElem?_cons_zero]; rfl) (by kernel_rfl) (by kernel_rfl) (by kernel_rfl) (by exact fun _ _ _ h => h) (Or.inl ⟨by rfl, ?_⟩) (by assumption) ?_
      rotate_left 1
      · (intro w hSw; (try dsimp only at hSw); go_simp; try with_reducible rfl)
      try simp only [Act.put, List.setIfInBounds_toArray, List.set_cons_zero, List.set_cons_succ]
      refine wpAnyH_take (i := 7) (v := ?_) (by simp only [List.getElem?_toArray, List.getElem?_cons_succ, List.getElem?_cons_zero]; rfl) (by kernel_rfl) (by kernel_rfl) (by kernel_rfl) (by exact fun _ _ _ h => h) (Or.inl ⟨by rfl, ?_⟩) (by assumption) ?_
      rotate_left 1
      · (intro w hSw; (try dsimp only at hSw); go_simp; try with_reducible rfl)
      try simp only [Act.put, List.setIfInBounds_toArray, List.set_cons_zero, List.set_cons_succ]
      refine wpAnyH_take (i := 8) (v := ?_) (by simp only [List.getElem?_toArray, List.getElem?_cons_succ, List.getElem?_cons_zero]; rfl) (by kernel_rfl) (by kernel_rfl) (by kernel_rfl) (by exact fun _ _ _ h => h) (Or.inl ⟨by rfl, ?_⟩) (by assumption) ?_
      rotate_left 1
      · (intro w hSw; (try dsimp only at hSw); go_simp; try with_reducible rfl)
      try simp only [Act.put, List.setIfInBounds_toArray, List.set_cons_zero, List.set_cons_succ]
      refine wpAnyH_take (i := 9) (v := ?_) (by simp only [List.getElem?_toArray, List.getElem?_cons_succ, List.getElem?_cons_zero]; rfl) (by kernel_rfl) (by kernel_rfl) (by kernel_rfl) (by exact fun _ _ _ h => h) (Or.inl ⟨by rfl, ?_⟩) (by assumption) ?_
      rotate_left 1
      · (intro w hSw; (try dsimp only at hSw); go_simp; try with_reducible rfl)
      try simp only [Act.put, List.setIfInBounds_toArray, List.set_cons_zero, List.set_cons_succ]
      refine wpAnyH_take (i := 10) (v := ?_) (by simp only [List.getElem?_toArray, List.getElem?_cons_succ, List.getElem?_cons_zero]; rfl) (by kernel_rfl) (by kernel_rfl) (by kernel_rfl) (by exact fun _ _ _ h => h) (Or.inl ⟨by rfl, ?_⟩) (by assumption) ?_
      rotate_left 1
      · (intro w hSw; (try dsimp only at hSw); go_simp; try with_reducible rfl)
      try simp only [Act.put, List.setIfInBounds_toArray, List.set_cons_zero, List.set_cons_succ]
      refine wpAnyH_take (i := 11) (v := ?_) (by simp only [List.getElem?_toArray, List.getElem?_cons_succ, List.getElem?_cons_zero]; rfl) (by kernel_rfl) (by kernel_rfl) (by kernel_rfl) (by exact fun _ _ _ h => h) (Or.inl ⟨by rfl, ?_⟩) (by assumption) ?_
      rotate_left 1
      · (intro w hSw; (try dsimp only at hSw); go_simp; try with_reducible rfl)
      try simp only [Act.put, List.setIfInBounds_toArray, List.set_cons_zero, List.set_cons_succ]
      refine wpAnyH_ready (rs := [12]) (by kernel_rfl) (by simp) ?_
      refine AllReadyH.cons (by simp only [List.getElem?_toArray, List.getElem?_cons_succ, List.getElem?_cons_zero]; rfl) (fun K hK => ?_) AllReadyH.nil
      go_simp
      refine hK.out _ _ ?_ (fun hHeld2 => ?_)
      · exact ⟨((Only.refl (fun _ => False) wr).drew.alloc _).cell x0 (fun h => h), ((Only.refl (fun _ => False) wr).drew.alloc _).cell x1 (fun h => h)⟩
      clear hK K
      try simp only [Act.put, List.setIfInBounds_toArray, List.set_cons_zero, List.set_cons_succ]
      clear hHeld
      have hHeld := hHeld2
      clear hHeld2
      refine wpAnyH_ready (rs := [13]) (by kernel_rfl) (by simp) ?_
      refine AllReadyH.cons (by simp only [List.getElem?_toArray, List.getElem?_cons_succ, List.getElem?_cons_zero]; rfl) (fun K hK => ?_) AllReadyH.nil
      (refine step_append_src rfl (.tmp 11) (.tmp 23) 43 rfl 62 i0 (.agg #[.string ⟨#[]⟩, .string ⟨#[]⟩]) 2 32 Try.underlying43 hi hz0 hz1 hz2 rfl (by decide) w.heap.size (.slice al us.length cl) us.length (us.flatMap cellsPr) rfl (by exact HROW.out.only ((Only.refl (fun _ => False) wr).drew.alloc _) (fun _ _ h => h)) (by have := HON.out.size; simp; omega) (.slice (some ⟨wr.heap.size, 0, none⟩) 1 1) 1 (cellsPr p) rfl (by exact Src.pair (w := wr.drew) p rfl) (by unfold maxLen; omega) (by omega) ?_; intro v' w1 hown hgrow hnew; have hal := (Only.refl (fun _ => False) wr).drew.alloc (.cells #[.string p.name, .string p.super] 62); have hos := (Only.refl (fun k => (Value.slice al us.length cl).ownBlock = some k) _).grown hgrow (fun k hk _ => hk); have hrow6 := PRow.more hown; have hon6 := (HON.out.trans hal (fun _ h _ => h)).trans hos (fun i hi hl => by have := (HROW.out.ge _ hi).1; omega); have x0' := hos.cell (hal.cell x0 (fun h => h)) (fun h => by have h1 := (HROW.out.ge _ h).1; have h2 := HBLT.out; (have h3 : w.heap.size ≤ b := h1); omega); have x1' := hos.cell (hal.cell x1 (fun h => h)) (fun h => by have h1 := (HROW.out.ge _ h).1; have h2 := HBLT.out; (have h3 : w.heap.size ≤ b := h1); omega); have HROW6 := Lib.hid hrow6; have HON6 := Lib.hid hon6; clear hown hgrow hnew hal hos hrow6 hon6)
      refine hK.out _ _ ?_ (fun hHeld2 => ?_)
      · exact ⟨x0', x1'⟩
      clear hK K
      try simp only [Act.put, List.setIfInBounds_toArray, List.set_cons_zero, List.set_cons_succ]
      clear hHeld
      have hHeld := hHeld2
      clear hHeld2
      refine wpAnyH_take (i := 14) (v := ?_) (by simp only [List.getElem?_toArray, List.getElem?_cons_succ, List.getElem?_cons_zero]; rfl) (by kernel_rfl) (by kernel_rfl) (by kernel_rfl) (by exact fun _ _ _ h => h) (Or.inl ⟨by rfl, ?_⟩) (by assumption) ?_
      rotate_left 1
      · (intro w hSw; (try dsimp only at hSw); go_simp; try with_reducible rfl)
      try simp only [Act.put, List.setIfInBounds_toArray, List.set_cons_zero, List.set_cons_succ]
      refine wpAnyH_done (by kernel_rfl) ?_ _
      clear hHeld x0 x1 x0' x1'
      go_wp2
      go_roundw
      case rel => exact ⟨j + 1, by go_num, by omega, Lib.hid (by rw [HTK.out]; exact HROW6.out), HON6⟩
      case measure => simp [intOf]; omega
    · obtain rfl : j = l.length := by omega
      obtain ⟨al, cl, rfl, l1, l2, l3, -⟩ := id HROW0.out.pairs
      have HROW := HROW0
      clear hlt hj l3 HROW0
      go_wp2
      go_ret
      refine ⟨_, rfl, ?_, HON.out⟩
      have h1 := HROW.out.pairs
      have h2 : l.take l.length = l := List.take_length
      exact Eq.mp (congrArg (Pairs wr (.slice al (l.take l.length).length cl)) h2) h1

def lJ : ByteArray := ⟨#[91, 74]⟩
theorem field_lJ : oneZ8 (nums lJ) = some ⟨5, ⟨#[]⟩, 1, 2, 0⟩ := by rfl
set_option maxHeartbeats 2000000 in
set_option maxRecDepth 100000 in
theorem awake8 (w : World) : Calls Try.prog 13 #[] w fun e w' => e = .returned (.bool true) ∧ Only (fun _ => False) w w' := by
  have c1 := progField lJ w (by decide)
  rw [field_lJ] at c1
  unfold OneTo typO errO valT lJ at c1
  simp only at c1
  have C1 := Lib.hid c1
  clear c1
  go_enter Try.func13, Try.ntmps13
  go_wp2_with (fail)
  refine C1.out.mono ?_
  rintro e w1 ⟨rfl, ho1⟩
  have HO1 := Lib.hid ho1
  clear ho1 C1
  go_wp2
  go_ret
  exact ⟨rfl, HO1.out.alloc _⟩
end Go.Proofs.Ytcmceabkadgfiaa
