/- The program's heap: Copy, All. Condition: the heap is as it was laid. -/
import Derived.Test.YtebeoganblcblaaHpPe
import Derived.Test.YtebeoganblcblaaHpR
namespace Go.Proofs.Ytebeoganblcblaa
open Go.RowKit
set_option linter.unusedVariables false
set_option linter.unusedSimpArgs false

/-- A block of cells is an owned row. -/
theorem RowG.of_block {α : Type} {T : TypeId} {n : Nat} {cells : α → List Value} {w : World} {B g : Nat} {l : List α} (hn : ∀ a, (cells a).length = n) (hg : w.heap[g]? = some (.cells (l.flatMap cells).toArray T (0, 0))) (hb : B ≤ g) (hl : l.length ≤ 1048576) : RowG T n cells w B (.slice (some ⟨g, 0, none⟩) l.length l.length) l := by
  have e : (l.flatMap cells).length = l.length * n := by
    clear hg hl
    induction l with
    | nil => simp
    | cons a r ih => rw [List.flatMap_cons, List.length_append, hn, ih, List.length_cons, Nat.add_mul]; omega
  exact ⟨e, .inr ⟨g, l.length, _, rfl, hb, hg, Nat.le_refl _, by unfold maxLen; omega, by simp only [List.size_toArray]; exact e, by show (l.flatMap cells).take (l.length * n) = _; exact List.take_of_length_le (by rw [e]; exact Nat.le_refl _)⟩⟩
def zeroOx : ObX := ⟨zeroT, .slice none 0 0, []⟩
theorem made_objs (n : Nat) : (madeCells (Value.cells (.agg #[.int .i64 0, .string ⟨#[]⟩, .int .i64 0, .int .i64 0, .int .i64 0, .slice none 0 0])) (n * 6)).toList = (List.replicate n zeroOx).flatMap cellsOx := by
  apply List.ext_getElem?
  intro j
  have hlen : ∀ m, ((List.replicate m zeroOx).flatMap cellsOx).length = m * 6 := fun m => by
    induction m with
    | zero => rfl
    | succ m ih => rw [List.replicate_succ, List.flatMap_cons, List.length_append, ih, lenOx]; omega
  by_cases hj : j < n * 6
  · have hi : j / 6 < n := Nat.div_lt_of_lt_mul (by omega)
    have hd : j % 6 < 6 := Nat.mod_lt _ (by decide)
    have hat := cellsG_at (cells := cellsOx) lenOx (l := List.replicate n zeroOx) (i := j / 6) (d := j % 6) (by simpa using hi) hd
    rw [show j / 6 * 6 + j % 6 = j by omega] at hat
    rw [hat]
    have hz : (List.replicate n zeroOx).getD (j / 6) default = zeroOx := by simp [List.getD, hi]
    rw [hz]
    simp only [Array.getElem?_toList, madeCells, Array.getElem?_map, Array.getElem?_range, hj, if_true, Option.map_some]
    rcases (show j % 6 = 0 ∨ j % 6 = 1 ∨ j % 6 = 2 ∨ j % 6 = 3 ∨ j % 6 = 4 ∨ j % 6 = 5 by omega) with e | e | e | e | e | e <;> simp [e, cellsOx, zeroOx, zeroT, getElem!_def, Value.cells]
  · rw [List.getElem?_eq_none (by simp [madeCells]; omega), List.getElem?_eq_none (by rw [hlen]; omega)]
theorem flat_set6 : ∀ (l : List ObX) (i : Nat) (x : ObX), ((((((l.flatMap cellsOx).set (i * 6) (.int .i64 x.t.k)).set (i * 6 + 1) (.string x.t.name)).set (i * 6 + 2) (.int .i64 x.t.dims)).set (i * 6 + 3) (.int .i64 x.t.elem)).set (i * 6 + 4) (.int .i64 x.t.at_)).set (i * 6 + 5) x.d = (l.set i x).flatMap cellsOx
  | [], _, _ => rfl
  | y :: l, 0, x => rfl
  | y :: l, i + 1, x => by
    have h := flat_set6 l i x
    rw [List.flatMap_cons, show (i + 1) * 6 = i * 6 + 1 + 1 + 1 + 1 + 1 + 1 from by omega]
    simp only [cellsOx, List.cons_append, List.nil_append, List.set_cons_succ, Nat.add_assoc, List.flatMap_cons]
    rw [h]
theorem RowG.set6 {w : World} {B g cap : Nat} {l : List ObX} (h : RowG 56 6 cellsOx w B (.slice (some ⟨g, 0, none⟩) l.length cap) l) (i : Nat) (x : ObX) :
    RowG 56 6 cellsOx ((((((w.setCell ⟨g, i * 6, none⟩ (.int .i64 x.t.k)).setCell ⟨g, i * 6 + 1, none⟩ (.string x.t.name)).setCell ⟨g, i * 6 + 2, none⟩ (.int .i64 x.t.dims)).setCell ⟨g, i * 6 + 3, none⟩ (.int .i64 x.t.elem)).setCell ⟨g, i * 6 + 4, none⟩ (.int .i64 x.t.at_)).setCell ⟨g, i * 6 + 5, none⟩ x.d) B (.slice (some ⟨g, 0, none⟩) l.length cap) (l.set i x) := by
  unfold RowG
  rw [List.length_set, ← flat_set6]
  exact owns_set (owns_set (owns_set (owns_set (owns_set (owns_set h _ _) _ _) _ _) _ _) _ _) _ _

section
variable {w : World} {G : Nat → Prop} {p : Nat} {L V : Value} {ps : List ObP} {vs : List ValV} {most : Int} (h : HeapQ w G p L V ps vs most)
include h

set_option maxHeartbeats 16000000 in
set_option maxRecDepth 100000 in
theorem pCopy14 : Calls Try.prog 22 #[.pointer (some ⟨p, 0, none⟩)] w fun e w' => ∃ q H L' V', e = .returned (.pointer (some ⟨q, 0, none⟩)) ∧ HeapQ w' H q L' V' ps vs most ∧ Only (fun _ => False) w w' ∧ ∀ k, H k → w.heap.size ≤ k := by
  have C := Lib.hid (pIsZero14 h)
  have hrow := h.row
  have hval := h.val
  obtain ⟨ao, cap, av, cv, rfl, rfl, z0, z1, z2, z3⟩ := h.z
  have CO := Lib.hid (fun (W : World) (hW : Only (fun _ => False) w W) => pCopiedObj _ _ _ W (Src.of_row (RowG.only hrow hW (fun _ _ h => h)) one_op) (by have := h.few; omega))
  have CV := Lib.hid (fun (W : World) (hW : Only (fun _ => False) w W) => pCopiedValue _ _ _ W (Src.of_row (RowG.only hval hW (fun _ _ h => h)) one_va) h.fewV)
  have HH := Lib.hid h
  clear h z3 hrow hval
  go_enter Try.func22, Try.ntmps22
  go_wp2_with (fail)
  refine C.out.mono ?_
  rintro e w1 ⟨rfl, hww⟩
  subst hww
  go_wp2_with (fail)
  have hSd : (fun wc => wc.cell? ⟨p, 0, none⟩ = some (.int .i64 most) ∧ wc.cell? ⟨p, 1, none⟩ = some (.slice ao ps.length cap) ∧ wc.cell? ⟨p, 2, none⟩ = some (.slice av vs.length cv)) w.drew := ⟨z0, z1, z2⟩

  refine wp_till 16 (fun wc => wc.cell? ⟨p, 0, none⟩ = some (.int .i64 most) ∧ wc.cell? ⟨p, 1, none⟩ = some (.slice ao ps.length cap) ∧ wc.cell? ⟨p, 2, none⟩ = some (.slice av vs.length cv)) (by kernel_rfl) ?_
  refine Till.take (i := 0) (v := ?_) (by simp only [List.getElem?_toArray, List.getElem?_cons_succ, List.getElem?_cons_zero]; rfl) (by kernel_rfl) (by kernel_rfl) (by kernel_rfl) (by kernel_rfl) (by kernel_rfl) (by exact fun _ _ _ h => h) (Or.inl ⟨by rfl, ?_⟩) (by assumption) ?_
  rotate_left 1
  · (intro w hSw; (try dsimp only at hSw); go_simp; try with_reducible rfl)
  try simp only [Act.put, List.setIfInBounds_toArray, List.set_cons_zero, List.set_cons_succ]
  refine Till.take (i := 1) (v := ?_) (by simp only [List.getElem?_toArray, List.getElem?_cons_succ, List.getElem?_cons_zero]; rfl) (by kernel_rfl) (by kernel_rfl) (by kernel_rfl) (by kernel_rfl) (by kernel_rfl) (by exact fun _ _ _ h => h) (Or.inl ⟨by rfl, ?_⟩) (by assumption) ?_
  rotate_left 1
  · (intro w hSw; (try dsimp only at hSw); go_simp; try with_reducible rfl)
  try simp only [Act.put, List.setIfInBounds_toArray, List.set_cons_zero, List.set_cons_succ]
  refine Till.take (i := 2) (v := ?_) (by simp only [List.getElem?_toArray, List.getElem?_cons_succ, List.getElem?_cons_zero]; rfl) (by kernel_rfl) (by kernel_rfl) (by kernel_rfl) (by kernel_rfl) (by kernel_rfl) (by exact fun _ _ _ h => h) (Or.inl ⟨by rfl, ?_⟩) (by assumption) ?_
  rotate_left 1
  · (intro w hSw; (try dsimp only at hSw); go_simp; try with_reducible rfl)
  try simp only [Act.put, List.setIfInBounds_toArray, List.set_cons_zero, List.set_cons_succ]
  refine Till.take (i := 3) (v := ?_) (by simp only [List.getElem?_toArray, List.getElem?_cons_succ, List.getElem?_cons_zero]; rfl) (by kernel_rfl) (by kernel_rfl) (by kernel_rfl) (by kernel_rfl) (by kernel_rfl) (by exact fun _ _ _ h => h) (Or.inl ⟨by rfl, ?_⟩) (by assumption) ?_
  rotate_left 1
  · (intro w hSw; (try dsimp only at hSw); go_simp; try with_reducible rfl)
  try simp only [Act.put, List.setIfInBounds_toArray, List.set_cons_zero, List.set_cons_succ]
  refine Till.take (i := 4) (v := ?_) (by simp only [List.getElem?_toArray, List.getElem?_cons_succ, List.getElem?_cons_zero]; rfl) (by kernel_rfl) (by kernel_rfl) (by kernel_rfl) (by kernel_rfl) (by kernel_rfl) (by exact fun _ _ _ h => h) (Or.inl ⟨by rfl, ?_⟩) (by assumption) ?_
  rotate_left 1
  · (intro w hSw; (try dsimp only at hSw); go_simp; try with_reducible rfl)
  try simp only [Act.put, List.setIfInBounds_toArray, List.set_cons_zero, List.set_cons_succ]
  refine Till.take (i := 5) (v := ?_) (by simp only [List.getElem?_toArray, List.getElem?_cons_succ, List.getElem?_cons_zero]; rfl) (by kernel_rfl) (by kernel_rfl) (by kernel_rfl) (by kernel_rfl) (by kernel_rfl) (by exact fun _ _ _ h => h) (Or.inl ⟨by rfl, ?_⟩) (by assumption) ?_
  rotate_left 1
  · (intro w hSw; (try dsimp only at hSw); go_simp; try with_reducible rfl)
  try simp only [Act.put, List.setIfInBounds_toArray, List.set_cons_zero, List.set_cons_succ]
  refine Till.take (i := 6) (v := ?_) (by simp only [List.getElem?_toArray, List.getElem?_cons_succ, List.getElem?_cons_zero]; rfl) (by kernel_rfl) (by kernel_rfl) (by kernel_rfl) (by kernel_rfl) (by kernel_rfl) (by exact fun _ _ _ h => h) (Or.inl ⟨by rfl, ?_⟩) (by assumption) ?_
  rotate_left 1
  · (intro w hSw; (try dsimp only at hSw); go_simp; try with_reducible rfl)
  try simp only [Act.put, List.setIfInBounds_toArray, List.set_cons_zero, List.set_cons_succ]
  refine Till.take (i := 7) (v := ?_) (by simp only [List.getElem?_toArray, List.getElem?_cons_succ, List.getElem?_cons_zero]; rfl) (by kernel_rfl) (by kernel_rfl) (by kernel_rfl) (by kernel_rfl) (by kernel_rfl) (by exact fun _ _ _ h => h) (Or.inl ⟨by rfl, ?_⟩) (by assumption) ?_
  rotate_left 1
  · (intro w hSw; (try dsimp only at hSw); go_simp; try with_reducible rfl)
  try simp only [Act.put, List.setIfInBounds_toArray, List.set_cons_zero, List.set_cons_succ]
  refine Till.take (i := 9) (v := ?_) (by simp only [List.getElem?_toArray, List.getElem?_cons_succ, List.getElem?_cons_zero]; rfl) (by kernel_rfl) (by kernel_rfl) (by kernel_rfl) (by kernel_rfl) (by kernel_rfl) (by exact fun _ _ _ h => h) (Or.inl ⟨by rfl, ?_⟩) (by assumption) ?_
  rotate_left 1
  · (intro w hSw; (try dsimp only at hSw); go_simp; try with_reducible rfl)
  try simp only [Act.put, List.setIfInBounds_toArray, List.set_cons_zero, List.set_cons_succ]
  refine Till.take (i := 10) (v := ?_) (by simp only [List.getElem?_toArray, List.getElem?_cons_succ, List.getElem?_cons_zero]; rfl) (by kernel_rfl) (by kernel_rfl) (by kernel_rfl) (by kernel_rfl) (by kernel_rfl) (by exact fun _ _ _ h => h) (Or.inl ⟨by rfl, ?_⟩) (by assumption) ?_
  rotate_left 1
  · (intro w hSw; (try dsimp only at hSw); go_simp; try with_reducible rfl)
  try simp only [Act.put, List.setIfInBounds_toArray, List.set_cons_zero, List.set_cons_succ]
  refine Till.take (i := 11) (v := ?_) (by simp only [List.getElem?_toArray, List.getElem?_cons_succ, List.getElem?_cons_zero]; rfl) (by kernel_rfl) (by kernel_rfl) (by kernel_rfl) (by kernel_rfl) (by kernel_rfl) (by exact fun _ _ _ h => h) (Or.inl ⟨by rfl, ?_⟩) (by assumption) ?_
  rotate_left 1
  · (intro w hSw; (try dsimp only at hSw); go_simp; try with_reducible rfl)
  try simp only [Act.put, List.setIfInBounds_toArray, List.set_cons_zero, List.set_cons_succ]
  refine Till.take (i := 12) (v := ?_) (by simp only [List.getElem?_toArray, List.getElem?_cons_succ, List.getElem?_cons_zero]; rfl) (by kernel_rfl) (by kernel_rfl) (by kernel_rfl) (by kernel_rfl) (by kernel_rfl) (by exact fun _ _ _ h => h) (Or.inl ⟨by rfl, ?_⟩) (by assumption) ?_
  rotate_left 1
  · (intro w hSw; (try dsimp only at hSw); go_simp; try with_reducible rfl)
  try simp only [Act.put, List.setIfInBounds_toArray, List.set_cons_zero, List.set_cons_succ]
  refine Till.step (i := 8) (by kernel_rfl) (by simp only [List.getElem?_toArray, List.getElem?_cons_succ, List.getElem?_cons_zero]; rfl) (fun K hK => ?_)
  go_simp
  (refine (CO.out _ (Only.refl _ _).drew).mono ?_; rintro e1 w1 ⟨rfl, hb1, ho1, hs1⟩; have HB1 := Lib.hid hb1; have HA1 := Lib.hid ((Only.refl (fun _ => False) w).drew.trans ho1 (fun _ h _ => h)); have HS1 := Lib.hid hs1; clear hb1 ho1 hs1)
  go_wp2_with fail
  refine hK.out _ _ ?_ ?_
  · exact fun _ => ⟨HA1.out.cell z0 (fun h => h), HA1.out.cell z1 (fun h => h), HA1.out.cell z2 (fun h => h)⟩
  clear hK K
  try simp only [Act.put, List.setIfInBounds_toArray, List.set_cons_zero, List.set_cons_succ]
  refine Till.step (i := 13) (by kernel_rfl) (by simp only [List.getElem?_toArray, List.getElem?_cons_succ, List.getElem?_cons_zero]; rfl) (fun K hK => ?_)
  go_simp
  (refine (CV.out _ HA1.out).mono ?_; rintro e2 w2 ⟨rfl, hb2, ho2, hs2⟩; have HB2 := Lib.hid hb2; have HA2 := Lib.hid ho2; have HS2 := Lib.hid hs2; clear hb2 ho2 hs2)
  go_wp2_with fail
  refine hK.out _ _ ?_ ?_
  · exact fun _ => ⟨(HA1.out.trans HA2.out (fun _ h _ => h)).cell z0 (fun h => h), (HA1.out.trans HA2.out (fun _ h _ => h)).cell z1 (fun h => h), (HA1.out.trans HA2.out (fun _ h _ => h)).cell z2 (fun h => h)⟩
  clear hK K
  try simp only [Act.put, List.setIfInBounds_toArray, List.set_cons_zero, List.set_cons_succ]
  refine Till.step (i := 14) (by kernel_rfl) (by simp only [List.getElem?_toArray, List.getElem?_cons_succ, List.getElem?_cons_zero]; rfl) (fun K hK => ?_)
  go_simp
  refine hK.out _ _ ?_ ?_
  · exact fun _ => ⟨(HA1.out.trans HA2.out (fun _ h _ => h)).cell z0 (fun h => h), (HA1.out.trans HA2.out (fun _ h _ => h)).cell z1 (fun h => h), (HA1.out.trans HA2.out (fun _ h _ => h)).cell z2 (fun h => h)⟩
  clear hK K
  try simp only [Act.put, List.setIfInBounds_toArray, List.set_cons_zero, List.set_cons_succ]
  refine Till.step (i := 15) (by kernel_rfl) (by simp only [List.getElem?_toArray, List.getElem?_cons_succ, List.getElem?_cons_zero]; rfl) (fun K hK => ?_)
  go_simp
  refine hK.out _ _ ?_ ?_
  · exact fun _ => ⟨((HA1.out.trans HA2.out (fun _ h _ => h)).alloc _).cell z0 (fun h => h), ((HA1.out.trans HA2.out (fun _ h _ => h)).alloc _).cell z1 (fun h => h), ((HA1.out.trans HA2.out (fun _ h _ => h)).alloc _).cell z2 (fun h => h)⟩
  clear hK K
  try simp only [Act.put, List.setIfInBounds_toArray, List.set_cons_zero, List.set_cons_succ]
  refine Till.step (i := 16) (by kernel_rfl) (by simp only [List.getElem?_toArray, List.getElem?_cons_succ, List.getElem?_cons_zero]; rfl) (fun K hK => ?_)
  go_simp
  refine hK.out _ _ ?_ ?_
  · exact fun h => by cases h
  clear hK K
  try simp only [Act.put, List.setIfInBounds_toArray, List.set_cons_zero, List.set_cons_succ]
  refine Till.done (by kernel_rfl) ?_ _

  go_wp2
  go_ret
  have h9 := HH.out
  have h1 := HS1.out
  have h2 := HS2.out
  have ho9 := (HA1.out.trans HA2.out (fun _ h _ => h)).alloc (.cells #[.int .i64 most, .slice (some ⟨w.heap.size, 0, none⟩) ps.length ps.length, .slice (some ⟨w1.heap.size, 0, none⟩) vs.length vs.length, .bool true] 64)
  have hd : w.drew.heap.size = w.heap.size := rfl
  have hbO := ((Only.refl (fun _ => False) w2).alloc (.cells #[.int .i64 most, .slice (some ⟨w.heap.size, 0, none⟩) ps.length ps.length, .slice (some ⟨w1.heap.size, 0, none⟩) vs.length vs.length, .bool true] 64)).heap (HA2.out.heap HB1.out (fun h => h)) (fun h => h)
  have hbV := ((Only.refl (fun _ => False) w2).alloc (.cells #[.int .i64 most, .slice (some ⟨w.heap.size, 0, none⟩) ps.length ps.length, .slice (some ⟨w1.heap.size, 0, none⟩) vs.length vs.length, .bool true] 64)).heap HB2.out (fun h => h)
  refine ⟨w2.heap.size, fun k => w.heap.size ≤ k ∧ k < w2.heap.size + 1, _, _, rfl, ⟨heap_alloc_new _ _, RowG.of_block lenPo hbO (Nat.zero_le _) (by have := h9.few; omega), RowG.of_block lenVa hbV (Nat.zero_le _) h9.fewV, fun k hk => by simpa using hk.2, ⟨by omega, by omega⟩, fun k hk => ?_, fun k hk => ?_, h9.few, h9.fewV, h9.most0⟩, ho9, fun k hk => hk.1⟩
  · simp only [Value.ownBlock, Option.some.injEq] at hk
    exact ⟨⟨by omega, by omega⟩, by omega⟩
  · simp only [Value.ownBlock, Option.some.injEq] at hk
    refine ⟨⟨by omega, by omega⟩, by omega, fun e => ?_⟩
    simp only [Value.ownBlock, Option.some.injEq] at e
    omega

end

theorem getD_rep {xs : List ObX} {n j : Nat} (h : xs.length = j) (hj : j < n) : (xs ++ List.replicate (n - j) zeroOx).getD j default = zeroOx := by
  subst h
  obtain ⟨m, hm⟩ : ∃ m, n - xs.length = m + 1 := ⟨n - xs.length - 1, by omega⟩
  rw [hm, List.replicate_succ]
  simp [List.getD]
theorem row6_at {w : World} {B g c n i : Nat} {l : List ObX} (h : RowG 56 6 cellsOx w B (.slice (some ⟨g, 0, none⟩) n c) l) (hl : l.length = n) (hi : i < n) :
    (∀ d, d < 6 → w.cell? ⟨g, i * 6 + d, none⟩ = (cellsOx (l.getD i default))[d]?) ∧ ∀ k, w.frozen? ⟨g, k, none⟩ = false := by
  subst hl
  obtain ⟨ao', cap', e, q1, q2, q3, q4⟩ := RowG.sl lenOx h
  injection e with e1 e2 e3
  subst e1 e3
  obtain ⟨b', o, e, h5⟩ := q4 _ rfl (by omega)
  injection e with e1 e2
  subst e1 e2
  exact ⟨fun d hd => by have := h5 _ hi d hd; rwa [Nat.zero_add] at this, fun k => owns_len h k⟩
section
variable {w : World} {G : Nat → Prop} {p : Nat} {L V : Value} {os : List ObjV} {most : Int} (h : HeapQ w G p L V (spread 0 os) (allVs os) most) (hsm : ∀ x ∈ os, x.vs.length ≤ 1024)
include h hsm
set_option maxHeartbeats 16000000 in
set_option maxRecDepth 100000 in
theorem pAll14 : Calls Try.prog 14 #[.pointer (some ⟨p, 0, none⟩)] w fun e w' => ∃ v H, e = .returned v ∧ ObjsO w' H v os ∧ Only (fun _ => False) w w' ∧ ∀ k, H k → w.heap.size ≤ k := by
  obtain ⟨i1, ji, jz0, jz1, jz2⟩ := info_parts info_obj
  have C := Lib.hid (pCount14 h)
  have hn : os.length ≤ 1024 := by have := h.few; rwa [spread_len] at this
  rw [spread_len] at C
  obtain ⟨n, hnn⟩ : ∃ n, os.length = n := ⟨_, rfl⟩
  rw [hnn] at C hn
  have hmk := run_make (P := Try.prog) w 39 56 i1 _ Try.underlying39 ji jz0 .i64 .i64 (n : Int) (n : Int) (by omega) (Int.le_refl _) (by rw [jz2]; omega) (by omega)
  simp only [Int.toNat_natCast, jz1] at hmk
  have ho := (Only.refl (fun _ => False) w).alloc (.cells (madeCells (Value.cells (.agg #[.int .i64 0, .string ⟨#[]⟩, .int .i64 0, .int .i64 0, .int .i64 0, .slice none 0 0])) (n * 6)) 56)
  have hg0 := heap_alloc_new w (.cells (madeCells (Value.cells (.agg #[.int .i64 0, .string ⟨#[]⟩, .int .i64 0, .int .i64 0, .int .i64 0, .slice none 0 0])) (n * 6)) 56)
  have hsz : (w.alloc (.cells (madeCells (Value.cells (.agg #[.int .i64 0, .string ⟨#[]⟩, .int .i64 0, .int .i64 0, .int .i64 0, .slice none 0 0])) (n * 6)) 56)).heap.size = w.heap.size + 1 := by simp
  obtain ⟨W1, hW1⟩ : ∃ W1, w.alloc (.cells (madeCells (Value.cells (.agg #[.int .i64 0, .string ⟨#[]⟩, .int .i64 0, .int .i64 0, .int .i64 0, .slice none 0 0])) (n * 6)) 56) = W1 := ⟨_, rfl⟩
  rw [hW1] at hmk ho hg0 hsz
  have hcells : madeCells (Value.cells (.agg #[.int .i64 0, .string ⟨#[]⟩, .int .i64 0, .int .i64 0, .int .i64 0, .slice none 0 0])) (n * 6) = ((List.replicate n zeroOx).flatMap cellsOx).toArray := by rw [← made_objs]
  rw [hcells] at hg0
  have hrow0 : RowG 56 6 cellsOx W1 0 (.slice (some ⟨w.heap.size, 0, none⟩) n n) (List.replicate n zeroOx) := by
    have := RowG.of_block lenOx hg0 (Nat.zero_le _) (by rw [List.length_replicate]; omega)
    rwa [List.length_replicate] at this
  have HR0 := Lib.hid hrow0
  have HO := Lib.hid ho
  have HSZ := Lib.hid hsz
  have HN := Lib.hid hn
  have HNN := Lib.hid hnn
  have HH := Lib.hid h
  have HSM := Lib.hid hsm
  have hn0 : (0 : Int) ≤ (n : Int) := by omega
  clear h hsm hn hnn ho hg0 hsz hcells hrow0 hW1
  go_enter Try.func14, Try.ntmps14
  go_wp2_with (fail)
  refine C.out.mono ?_
  rintro e w1 ⟨rfl, hww⟩
  subst hww
  go_wp2_with (fail)
  clear hmk
  go_loopw [11] (fun iv wr => ∃ (j : Nat) (xs : List ObX), iv = .int .i64 j ∧ j ≤ n ∧ Hid (xs.length = j) ∧ Hid (RowG 56 6 cellsOx wr 0 (.slice (some ⟨w.heap.size, 0, none⟩) n n) (xs ++ List.replicate (n - j) zeroOx)) ∧ Hid (∀ i, i < xs.length → RowG 34 3 cellsVa wr (w.heap.size + 1) (xs.getD i default).d (xs.getD i default).vs) ∧ Hid (∀ i j, i < xs.length → j < xs.length → i ≠ j → ∀ k, (xs.getD i default).d.ownBlock = some k → (xs.getD j default).d.ownBlock ≠ some k) ∧ Hid (xs.map ObX.o = os.take j) ∧ Hid (Only (fun k => k = w.heap.size) W1 wr)) (fun iv _ => n - (intOf iv).toNat)
  case atStart => exact ⟨0, [], rfl, Nat.zero_le _, Lib.hid rfl, Lib.hid (by simpa using HR0.out), Lib.hid (fun i hi => absurd hi (Nat.not_lt_zero _)), Lib.hid (fun i j hi => absurd hi (Nat.not_lt_zero _)), Lib.hid (by simp), Lib.hid (Only.refl _ _)⟩
  case round =>
    obtain ⟨j, xs, rfl, hj, HXL, HROW, HDAT, HAP, HMAP, HON⟩ := hrel
    by_cases hlt : j < n
    · have hjz : (j : Int) < (n : Int) := by omega
      have hj0 : (0 : Int) ≤ (j : Int) := by omega
      have hjo : j < os.length := by rw [HNN.out]; exact hlt
      have hwr : Only (fun _ => False) w wr := HO.out.trans HON.out (fun i e hl => by omega)
      have h2 := HH.out.only hwr (fun _ _ h => h)
      have hps : j < (spread 0 os).length := by rw [spread_len]; exact hjo
      obtain ⟨bo, co, hLe, hcell⟩ := h2.ob hps
      rw [spread_at 0 os j hjo] at hcell
      rw [Nat.zero_add] at hcell
      have hcut := cut_end os j hjo
      have hall := cut_all os j hjo
      have hsj : (os.getD j default).vs.length ≤ 1024 := HSM.out _ (by rw [show os.getD j default = os[j] from by simp [List.getD, hjo]]; exact List.getElem_mem _)
      have hpl := spread_len 0 os
      obtain ⟨ob, hob⟩ : ∃ ob, os.getD j default = ob := ⟨_, rfl⟩
      rw [hob] at hcell hcut hall hsj
      obtain ⟨t, us⟩ := ob
      obtain ⟨xa, hxa⟩ : ∃ xa, offZ os j = xa := ⟨_, rfl⟩
      obtain ⟨xb, hxb⟩ : ∃ xb, xa + us.length = xb := ⟨_, rfl⟩
      simp only at hcell hcut hall hsj
      rw [hxa] at hcell hcut hall
      rw [hxb] at hcell hcut
      have y0 := hcell 0 (by decide)
      have y1 := hcell 1 (by decide)
      have y2 := hcell 2 (by decide)
      have y3 := hcell 3 (by decide)
      have y4 := hcell 4 (by decide)
      have y5 := hcell 5 (by decide)
      have y6 := hcell 6 (by decide)
      simp only [cellsPo, List.getElem?_cons_zero, List.getElem?_cons_succ, Nat.add_zero] at y0 y1 y2 y3 y4 y5 y6
      have z1 := cell_blk h2.blk 1
      simp only [List.getElem?_toArray, List.getElem?_cons_zero, List.getElem?_cons_succ] at z1
      rw [hLe, hpl, HNN.out] at z1
      obtain ⟨nb, hnb⟩ : ∃ nb, wr.heap.size = nb := ⟨_, rfl⟩
      have ho9 : Only (fun _ => False) wr (wr.alloc (.cells #[.int .i64 t.k, .string t.name, .int .i64 t.dims, .int .i64 t.elem, .int .i64 t.at_, .int .i64 (xa : Int), .int .i64 (xb : Int)] 78)) := (Only.refl (fun _ => False) wr).alloc (.cells #[.int .i64 t.k, .string t.name, .int .i64 t.dims, .int .i64 t.elem, .int .i64 t.at_, .int .i64 (xa : Int), .int .i64 (xb : Int)] 78)
      have hb9 := heap_alloc_new wr (.cells #[.int .i64 t.k, .string t.name, .int .i64 t.dims, .int .i64 t.elem, .int .i64 t.at_, .int .i64 (xa : Int), .int .i64 (xb : Int)] 78)
      have hs9 : (wr.alloc (.cells #[.int .i64 t.k, .string t.name, .int .i64 t.dims, .int .i64 t.elem, .int .i64 t.at_, .int .i64 (xa : Int), .int .i64 (xb : Int)] 78)).heap.size = wr.heap.size + 1 := by simp
      obtain ⟨W9, hW9⟩ : ∃ W9, wr.alloc (.cells #[.int .i64 t.k, .string t.name, .int .i64 t.dims, .int .i64 t.elem, .int .i64 t.at_, .int .i64 (xa : Int), .int .i64 (xb : Int)] 78) = W9 := ⟨_, rfl⟩
      rw [hW9] at ho9 hb9 hs9
      rw [hnb] at hb9
      obtain ⟨x0, x1, x2, x3, x4, x5, x6⟩ := cells7O hb9
      have h9 := h2.only ho9 (fun _ _ h => h)
      have hab : xa ≤ xb := by omega
      have CC := Lib.hid (fun (W : World) (hW : Only (fun _ => False) W9 W) => pCut14 (h9.only hW (fun _ _ h => h)) ⟨t, xa, xb⟩ hab hcut)
      have CV := Lib.hid (fun (W : World) (hW : Only (fun _ => False) W9 W) => pCopiedValue _ _ _ W ((h9.only hW (fun _ _ h => h)).cutSrc hab hcut) (by omega))
      rw [show xb - xa = us.length from by omega, hall] at CV
      unfold valPo at CC
      simp only at CC
      generalize cutO V xa xb = cv at *
      have HOB := Lib.hid hob
      have HWR := Lib.hid hwr
      have HO9 := Lib.hid ho9
      have HS9 := Lib.hid hs9
      have HSJ := Lib.hid hsj
      have HW9 := Lib.hid hW9
      have HNB := Lib.hid hnb
      have hrow9 := RowG.only HROW.out ho9 (fun _ _ h => h)
      have HROW9 := Lib.hid hrow9
      clear hps hcell hcut hall hpl hab hob hxa hxb h2 h9 hb9 ho9 hs9 hsj hLe hjo hwr hrow9
      go_wp2_with (fail)
      try rw [HW9.out]
      try rw [HNB.out]
      clear hW9 hnb y0 y1 y2 y3 y4 y5 y6 z1
      have hSd : (fun wc => wc.cell? ⟨nb, 0, none⟩ = some (.int .i64 t.k) ∧ wc.cell? ⟨nb, 1, none⟩ = some (.string t.name) ∧ wc.cell? ⟨nb, 2, none⟩ = some (.int .i64 t.dims) ∧ wc.cell? ⟨nb, 3, none⟩ = some (.int .i64 t.elem) ∧ wc.cell? ⟨nb, 4, none⟩ = some (.int .i64 t.at_) ∧ wc.cell? ⟨nb, 5, none⟩ = some (.int .i64 (xa : Int)) ∧ wc.cell? ⟨nb, 6, none⟩ = some (.int .i64 (xb : Int))) W9.drew := ⟨x0, x1, x2, x3, x4, x5, x6⟩

      refine wp_till 10 (fun wc => wc.cell? ⟨nb, 0, none⟩ = some (.int .i64 t.k) ∧ wc.cell? ⟨nb, 1, none⟩ = some (.string t.name) ∧ wc.cell? ⟨nb, 2, none⟩ = some (.int .i64 t.dims) ∧ wc.cell? ⟨nb, 3, none⟩ = some (.int .i64 t.elem) ∧ wc.cell? ⟨nb, 4, none⟩ = some (.int .i64 t.at_) ∧ wc.cell? ⟨nb, 5, none⟩ = some (.int .i64 (xa : Int)) ∧ wc.cell? ⟨nb, 6, none⟩ = some (.int .i64 (xb : Int))) (by kernel_rfl) ?_
      refine Till.take (i := 0) (v := ?_) (by simp only [List.getElem?_toArray, List.getElem?_cons_succ, List.getElem?_cons_zero]; rfl) (by kernel_rfl) (by kernel_rfl) (by kernel_rfl) (by kernel_rfl) (by kernel_rfl) (by exact fun _ _ _ h => h) (Or.inl ⟨by rfl, ?_⟩) (by assumption) ?_
      rotate_left 1
      · (intro w hSw; (try dsimp only at hSw); go_simp; try with_reducible rfl)
      try simp only [Act.put, List.setIfInBounds_toArray, List.set_cons_zero, List.set_cons_succ]
      refine Till.take (i := 1) (v := ?_) (by simp only [List.getElem?_toArray, List.getElem?_cons_succ, List.getElem?_cons_zero]; rfl) (by kernel_rfl) (by kernel_rfl) (by kernel_rfl) (by kernel_rfl) (by kernel_rfl) (by exact fun _ _ _ h => h) (Or.inl ⟨by rfl, ?_⟩) (by assumption) ?_
      rotate_left 1
      · (intro w hSw; (try dsimp only at hSw); go_simp; try with_reducible rfl)
      try simp only [Act.put, List.setIfInBounds_toArray, List.set_cons_zero, List.set_cons_succ]
      refine Till.take (i := 2) (v := ?_) (by simp only [List.getElem?_toArray, List.getElem?_cons_succ, List.getElem?_cons_zero]; rfl) (by kernel_rfl) (by kernel_rfl) (by kernel_rfl) (by kernel_rfl) (by kernel_rfl) (by exact fun _ _ _ h => h) (Or.inl ⟨by rfl, ?_⟩) (by assumption) ?_
      rotate_left 1
      · (intro w hSw; (try dsimp only at hSw); go_simp; try with_reducible rfl)
      try simp only [Act.put, List.setIfInBounds_toArray, List.set_cons_zero, List.set_cons_succ]
      refine Till.take (i := 3) (v := ?_) (by simp only [List.getElem?_toArray, List.getElem?_cons_succ, List.getElem?_cons_zero]; rfl) (by kernel_rfl) (by kernel_rfl) (by kernel_rfl) (by kernel_rfl) (by kernel_rfl) (by exact fun _ _ _ h => h) (Or.inl ⟨by rfl, ?_⟩) (by assumption) ?_
      rotate_left 1
      · (intro w hSw; (try dsimp only at hSw); go_simp; try with_reducible rfl)
      try simp only [Act.put, List.setIfInBounds_toArray, List.set_cons_zero, List.set_cons_succ]
      refine Till.take (i := 4) (v := ?_) (by simp only [List.getElem?_toArray, List.getElem?_cons_succ, List.getElem?_cons_zero]; rfl) (by kernel_rfl) (by kernel_rfl) (by kernel_rfl) (by kernel_rfl) (by kernel_rfl) (by exact fun _ _ _ h => h) (Or.inl ⟨by rfl, ?_⟩) (by assumption) ?_
      rotate_left 1
      · (intro w hSw; (try dsimp only at hSw); go_simp; try with_reducible rfl)
      try simp only [Act.put, List.setIfInBounds_toArray, List.set_cons_zero, List.set_cons_succ]
      refine Till.take (i := 5) (v := ?_) (by simp only [List.getElem?_toArray, List.getElem?_cons_succ, List.getElem?_cons_zero]; rfl) (by kernel_rfl) (by kernel_rfl) (by kernel_rfl) (by kernel_rfl) (by kernel_rfl) (by exact fun _ _ _ h => h) (Or.inl ⟨by rfl, ?_⟩) (by assumption) ?_
      rotate_left 1
      · (intro w hSw; (try dsimp only at hSw); go_simp; try with_reducible rfl)
      try simp only [Act.put, List.setIfInBounds_toArray, List.set_cons_zero, List.set_cons_succ]
      refine Till.step (i := 6) (by kernel_rfl) (by simp only [List.getElem?_toArray, List.getElem?_cons_succ, List.getElem?_cons_zero]; rfl) (fun K hK => ?_)
      go_simp
      (refine (CC.out _ (Only.refl _ _).drew).mono ?_; rintro e1 w1 ⟨rfl, ho1⟩; have HA1 := Lib.hid ((Only.refl (fun _ => False) W9).drew.trans ho1 (fun _ h _ => h)); clear ho1)
      go_wp2_with fail
      refine hK.out _ _ ?_ ?_
      · exact fun _ => ⟨HA1.out.cell x0 (fun h => h), HA1.out.cell x1 (fun h => h), HA1.out.cell x2 (fun h => h), HA1.out.cell x3 (fun h => h), HA1.out.cell x4 (fun h => h), HA1.out.cell x5 (fun h => h), HA1.out.cell x6 (fun h => h)⟩
      clear hK K
      try simp only [Act.put, List.setIfInBounds_toArray, List.set_cons_zero, List.set_cons_succ]
      refine Till.step (i := 7) (by kernel_rfl) (by simp only [List.getElem?_toArray, List.getElem?_cons_succ, List.getElem?_cons_zero]; rfl) (fun K hK => ?_)
      go_simp
      (refine (CV.out _ HA1.out).mono ?_; rintro e2 w2 ⟨rfl, hb2, ho2, hs2⟩; have HB2 := Lib.hid hb2; have HA2 := Lib.hid ho2; have HS2 := Lib.hid hs2; clear hb2 ho2 hs2; have HRW := Lib.hid (RowG.only HROW9.out (HA1.out.trans HA2.out (fun _ h _ => h)) (fun _ _ h => h)); obtain ⟨hcl, hfz⟩ := row6_at HRW.out (by rw [List.length_append, List.length_replicate, HXL.out]; omega) hlt; rw [show (xs ++ List.replicate (n - j) zeroOx).getD j default = zeroOx from getD_rep HXL.out hlt] at hcl; have c0 := hcl 0 (by decide); have c1 := hcl 1 (by decide); have c2 := hcl 2 (by decide); have c3 := hcl 3 (by decide); have c4 := hcl 4 (by decide); have c5 := hcl 5 (by decide); simp only [cellsOx, zeroOx, zeroT, List.getElem?_cons_zero, List.getElem?_cons_succ, Nat.add_zero] at c0 c1 c2 c3 c4 c5; have f0 := hfz (j * 6); have f1 := hfz (j * 6 + 1); have f2 := hfz (j * 6 + 2); have f3 := hfz (j * 6 + 3); have f4 := hfz (j * 6 + 4); have f5 := hfz (j * 6 + 5); clear hcl hfz)
      go_wp2_with fail
      refine hK.out _ _ ?_ ?_
      · exact fun _ => ⟨(HA1.out.trans HA2.out (fun _ h _ => h)).cell x0 (fun h => h), (HA1.out.trans HA2.out (fun _ h _ => h)).cell x1 (fun h => h), (HA1.out.trans HA2.out (fun _ h _ => h)).cell x2 (fun h => h), (HA1.out.trans HA2.out (fun _ h _ => h)).cell x3 (fun h => h), (HA1.out.trans HA2.out (fun _ h _ => h)).cell x4 (fun h => h), (HA1.out.trans HA2.out (fun _ h _ => h)).cell x5 (fun h => h), (HA1.out.trans HA2.out (fun _ h _ => h)).cell x6 (fun h => h)⟩
      clear hK K
      try simp only [Act.put, List.setIfInBounds_toArray, List.set_cons_zero, List.set_cons_succ]
      refine Till.step (i := 8) (by kernel_rfl) (by simp only [List.getElem?_toArray, List.getElem?_cons_succ, List.getElem?_cons_zero]; rfl) (fun K hK => ?_)
      go_simp
      refine hK.out _ _ ?_ ?_
      · exact fun _ => ⟨(HA1.out.trans HA2.out (fun _ h _ => h)).cell x0 (fun h => h), (HA1.out.trans HA2.out (fun _ h _ => h)).cell x1 (fun h => h), (HA1.out.trans HA2.out (fun _ h _ => h)).cell x2 (fun h => h), (HA1.out.trans HA2.out (fun _ h _ => h)).cell x3 (fun h => h), (HA1.out.trans HA2.out (fun _ h _ => h)).cell x4 (fun h => h), (HA1.out.trans HA2.out (fun _ h _ => h)).cell x5 (fun h => h), (HA1.out.trans HA2.out (fun _ h _ => h)).cell x6 (fun h => h)⟩
      clear hK K
      try simp only [Act.put, List.setIfInBounds_toArray, List.set_cons_zero, List.set_cons_succ]
      refine Till.step (i := 9) (by kernel_rfl) (by simp only [List.getElem?_toArray, List.getElem?_cons_succ, List.getElem?_cons_zero]; rfl) (fun K hK => ?_)
      go_simp
      refine hK.out _ _ ?_ ?_
      · exact fun _ => ⟨(HA1.out.trans HA2.out (fun _ h _ => h)).cell x0 (fun h => h), (HA1.out.trans HA2.out (fun _ h _ => h)).cell x1 (fun h => h), (HA1.out.trans HA2.out (fun _ h _ => h)).cell x2 (fun h => h), (HA1.out.trans HA2.out (fun _ h _ => h)).cell x3 (fun h => h), (HA1.out.trans HA2.out (fun _ h _ => h)).cell x4 (fun h => h), (HA1.out.trans HA2.out (fun _ h _ => h)).cell x5 (fun h => h), (HA1.out.trans HA2.out (fun _ h _ => h)).cell x6 (fun h => h)⟩
      clear hK K
      try simp only [Act.put, List.setIfInBounds_toArray, List.set_cons_zero, List.set_cons_succ]
      refine Till.step (i := 10) (by kernel_rfl) (by simp only [List.getElem?_toArray, List.getElem?_cons_succ, List.getElem?_cons_zero]; rfl) (fun K hK => ?_)
      go_simp
      refine hK.out _ _ ?_ ?_
      · exact fun h => by cases h
      clear hK K
      try simp only [Act.put, List.setIfInBounds_toArray, List.set_cons_zero, List.set_cons_succ]
      refine Till.done (by kernel_rfl) ?_ _

      have h1s := HA1.out.size
      have h2s := HS2.out
      have h9s := HS9.out
      have hwz := HON.out.size
      have hsz0 := HSZ.out
      have hset := RowG.set6 (show RowG 56 6 cellsOx w2 0 (.slice (some ⟨w.heap.size, 0, none⟩) (xs ++ List.replicate (n - j) zeroOx).length n) (xs ++ List.replicate (n - j) zeroOx) from by rw [show (xs ++ List.replicate (n - j) zeroOx).length = n from by rw [List.length_append, List.length_replicate, HXL.out]; omega]; exact HRW.out) j ⟨t, .slice (some ⟨w1.heap.size, 0, none⟩) us.length us.length, us⟩
      rw [show (xs ++ List.replicate (n - j) zeroOx).length = n from by rw [List.length_append, List.length_replicate, HXL.out]; omega] at hset
      have hlist : (xs ++ List.replicate (n - j) zeroOx).set j ⟨t, .slice (some ⟨w1.heap.size, 0, none⟩) us.length us.length, us⟩ = (xs ++ [⟨t, .slice (some ⟨w1.heap.size, 0, none⟩) us.length us.length, us⟩]) ++ List.replicate (n - (j + 1)) zeroOx := by
        rw [List.set_append_right _ _ (by rw [HXL.out]; exact Nat.le_refl _), HXL.out, Nat.sub_self, show n - j = (n - (j + 1)) + 1 from by omega, List.replicate_succ, List.set_cons_zero, List.append_assoc]
        rfl
      rw [hlist] at hset
      have hO5 : Only (fun k => k = w.heap.size) w2 ((((((w2.setCell ⟨w.heap.size, j * 6, none⟩ (.int .i64 t.k)).setCell ⟨w.heap.size, j * 6 + 1, none⟩ (.string t.name)).setCell ⟨w.heap.size, j * 6 + 2, none⟩ (.int .i64 t.dims)).setCell ⟨w.heap.size, j * 6 + 3, none⟩ (.int .i64 t.elem)).setCell ⟨w.heap.size, j * 6 + 4, none⟩ (.int .i64 t.at_)).setCell ⟨w.heap.size, j * 6 + 5, none⟩ (.slice (some ⟨w1.heap.size, 0, none⟩) us.length us.length)) := by
        iterate 6 (refine Only.setCell (S := fun k => k = w.heap.size) ?_ (fun _ => rfl) _)
        exact Only.refl _ _
      have hO25 : Only (fun k => k = w.heap.size) wr _ := ((HO9.out.trans (HA1.out.trans HA2.out (fun _ h _ => h)) (fun _ h _ => h)).mono (T := fun k => k = w.heap.size) (fun _ h _ => h.elim)).trans hO5 (fun k hk _ => hk)
      have hnewrow := RowG.only (S := fun k => k = w.heap.size) (RowG.of_block (B := w.heap.size + 1) lenVa HB2.out (by omega) (by have := HSJ.out; omega)) hO5 (fun k hk e => by simp only [Value.ownBlock, Option.some.injEq] at hk; omega)
      have hdat : ∀ i, i < (xs ++ [(⟨t, .slice (some ⟨w1.heap.size, 0, none⟩) us.length us.length, us⟩ : ObX)]).length → RowG 34 3 cellsVa _ (w.heap.size + 1) ((xs ++ [(⟨t, .slice (some ⟨w1.heap.size, 0, none⟩) us.length us.length, us⟩ : ObX)]).getD i default).d ((xs ++ [(⟨t, .slice (some ⟨w1.heap.size, 0, none⟩) us.length us.length, us⟩ : ObX)]).getD i default).vs := fun i hi => by
        rw [List.length_append, List.length_singleton] at hi
        by_cases e : i < xs.length
        · rw [show (xs ++ [(⟨t, .slice (some ⟨w1.heap.size, 0, none⟩) us.length us.length, us⟩ : ObX)]).getD i default = xs.getD i default from by simp [List.getD, List.getElem?_append_left e]]
          exact RowG.only (HDAT.out i e) hO25 (fun k hk e2 => by have := (RowG.ge (HDAT.out i e) k hk).1; omega)
        · obtain rfl : i = xs.length := by omega
          rw [show (xs ++ [(⟨t, .slice (some ⟨w1.heap.size, 0, none⟩) us.length us.length, us⟩ : ObX)]).getD xs.length default = ⟨t, .slice (some ⟨w1.heap.size, 0, none⟩) us.length us.length, us⟩ from by simp [List.getD]]
          exact hnewrow
      have hold : ∀ i, i < xs.length → ∀ k, (xs.getD i default).d.ownBlock = some k → k < w1.heap.size := fun i hi k hk => by have := (RowG.ge (HDAT.out i hi) k hk).2; omega
      have hap : ∀ i j', i < (xs ++ [(⟨t, .slice (some ⟨w1.heap.size, 0, none⟩) us.length us.length, us⟩ : ObX)]).length → j' < (xs ++ [(⟨t, .slice (some ⟨w1.heap.size, 0, none⟩) us.length us.length, us⟩ : ObX)]).length → i ≠ j' → ∀ k, ((xs ++ [(⟨t, .slice (some ⟨w1.heap.size, 0, none⟩) us.length us.length, us⟩ : ObX)]).getD i default).d.ownBlock = some k → ((xs ++ [(⟨t, .slice (some ⟨w1.heap.size, 0, none⟩) us.length us.length, us⟩ : ObX)]).getD j' default).d.ownBlock ≠ some k := fun i j' hi hj' hij k hk => by
        rw [List.length_append, List.length_singleton] at hi hj'
        by_cases e : i < xs.length
        · rw [show (xs ++ [(⟨t, .slice (some ⟨w1.heap.size, 0, none⟩) us.length us.length, us⟩ : ObX)]).getD i default = xs.getD i default from by simp [List.getD, List.getElem?_append_left e]] at hk
          by_cases f : j' < xs.length
          · rw [show (xs ++ [(⟨t, .slice (some ⟨w1.heap.size, 0, none⟩) us.length us.length, us⟩ : ObX)]).getD j' default = xs.getD j' default from by simp [List.getD, List.getElem?_append_left f]]
            exact HAP.out i j' e f hij k hk
          · obtain rfl : j' = xs.length := by omega
            rw [show (xs ++ [(⟨t, .slice (some ⟨w1.heap.size, 0, none⟩) us.length us.length, us⟩ : ObX)]).getD xs.length default = ⟨t, .slice (some ⟨w1.heap.size, 0, none⟩) us.length us.length, us⟩ from by simp [List.getD]]
            have := hold i e k hk
            simp only [Value.ownBlock, ne_eq, Option.some.injEq]
            omega
        · obtain rfl : i = xs.length := by omega
          have f : j' < xs.length := by omega
          rw [show (xs ++ [(⟨t, .slice (some ⟨w1.heap.size, 0, none⟩) us.length us.length, us⟩ : ObX)]).getD xs.length default = ⟨t, .slice (some ⟨w1.heap.size, 0, none⟩) us.length us.length, us⟩ from by simp [List.getD]] at hk
          rw [show (xs ++ [(⟨t, .slice (some ⟨w1.heap.size, 0, none⟩) us.length us.length, us⟩ : ObX)]).getD j' default = xs.getD j' default from by simp [List.getD, List.getElem?_append_left f]]
          simp only [Value.ownBlock, Option.some.injEq] at hk
          intro e2
          have := hold j' f k e2
          omega
      have hmap : (xs ++ [(⟨t, .slice (some ⟨w1.heap.size, 0, none⟩) us.length us.length, us⟩ : ObX)]).map ObX.o = os.take (j + 1) := by
        have hjo : j < os.length := by rw [HNN.out]; exact hlt
        rw [List.map_append, HMAP.out, List.take_succ_eq_append_getElem hjo, List.map_singleton]
        congr 2
        rw [show os[j] = os.getD j default from by simp [List.getD, hjo], HOB.out]
        rfl
      have HR5 := Lib.hid hset
      have HD5 := Lib.hid hdat
      have HAP5 := Lib.hid hap
      have HM5 := Lib.hid hmap
      have HON5 := Lib.hid (HON.out.trans hO25 (fun k hk _ => hk))
      have HL5 := Lib.hid (show (xs ++ [(⟨t, .slice (some ⟨w1.heap.size, 0, none⟩) us.length us.length, us⟩ : ObX)]).length = j + 1 from by rw [List.length_append, HXL.out]; rfl)
      clear hset hdat hap hmap hO5 hO25 hnewrow hold hlist h1s h2s h9s hwz hsz0 hSd c0 c1 c2 c3 c4 c5 f0 f1 f2 f3 f4 f5 x0 x1 x2 x3 x4 x5 x6
      have hn9 := HN.out
      go_wp2
      go_roundw
      case rel => exact ⟨j + 1, _, by go_num, by omega, HL5, HR5, HD5, HAP5, HM5, HON5⟩
      case measure => simp [intOf]; omega
    · have hje : j = n := by omega
      have hnj : ¬ ((j : Int) < (n : Int)) := by omega
      have HJ := Lib.hid hje
      clear hje hlt hj
      go_wp2
      go_ret
      have hrow := HROW.out
      rw [HJ.out, Nat.sub_self, List.replicate_zero, List.append_nil] at hrow
      have hsz0 := HSZ.out
      have hwz := HON.out.size
      refine ⟨_, rfl, fun k => w.heap.size ≤ k ∧ k < wr.heap.size, ⟨xs, ⟨hrow, fun i hi => RowG.base (HDAT.out i hi) (Nat.zero_le _), fun k hk => hk.2, fun k hk => ?_, fun i hi k hk => ?_, HAP.out⟩, by rw [HMAP.out, HJ.out, ← HNN.out]; exact List.take_length⟩, HO.out.trans HON.out (fun i e hl => by omega), fun k hk => hk.1⟩
      · have hk' : some w.heap.size = some k := hk
        injection hk' with hk'
        exact ⟨by omega, by omega⟩
      · have q := RowG.ge (HDAT.out i hi) k hk
        refine ⟨⟨by omega, q.2⟩, fun e => ?_⟩
        have e' : some w.heap.size = some k := e
        injection e' with e'
        omega

end
end Go.Proofs.Ytebeoganblcblaa
