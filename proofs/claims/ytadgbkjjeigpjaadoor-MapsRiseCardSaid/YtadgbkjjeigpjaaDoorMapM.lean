/- The law's own comparison of two lists of maps: of equal ones it answers true; its awake. No condition. -/
import Derived.Deep.RegionHeld3
import Derived.Test.YtadgbkjjeigpjaaDoorMapL
import Derived.Test.YtadgbkjjeigpjaaDoorMapV
import Derived.Test.YtadgbkjjeigpjaaDoorMapT
namespace Go.Proofs.YtadgbkjjeigpjaaDoor
open Go.RowKit
set_option linter.unusedVariables false
set_option linter.unusedSimpArgs false

set_option maxHeartbeats 8000000 in
set_option maxRecDepth 100000 in
theorem sameMp (v1 v2 : Value) (xs ys : List MapX) (w : World) (h1 : MapsX w v1 xs) (h2 : MapsX w v2 ys) (he : xs.map (·.1) = ys.map (·.1)) (hn : xs.length ≤ 9223372036854775806) (hs : ∀ x ∈ xs, x.1.locals.length ≤ 9223372036854775806 ∧ x.1.stack.length ≤ 9223372036854775806) :
    Calls Tryd.prog 7 #[v1, v2] w fun e w' => e = .returned (.bool true) ∧ Only (fun _ => False) w w' := by
  have hle : xs.length = ys.length := by have := congrArg List.length he; simpa using this
  obtain ⟨a1_, c1_, rfl, p1, p2, p3, _⟩ := id h1.1
  obtain ⟨a2_, c2_, rfl, s1, s2, s3, _⟩ := id h2.1
  have H1 := Lib.hid h1
  have H2 := Lib.hid h2
  have HE := Lib.hid he
  have HS := Lib.hid hs
  have HLE := Lib.hid hle
  have hleb : (((xs.length : Nat) : Int) != ((ys.length : Nat) : Int)) = false := by rw [hle]; simp
  clear h1 h2 p3 s3 he hs hle
  go_enter Tryd.func7, Tryd.ntmps7
  go_wp2
  go_loopw [5] (fun i wr => ∃ j : Nat, i = .int .i64 j ∧ j ≤ xs.length ∧ Only (fun _ => False) w wr) (fun i _ => xs.length - (intOf i).toNat)
  case atStart => exact ⟨0, rfl, Nat.zero_le _, Only.refl _ _⟩
  case round =>
    obtain ⟨j, rfl, hj, hon⟩ := hrel
    have HON := Lib.hid hon
    by_cases hlt : j < xs.length
    · have hlt2 : j < ys.length := by have := HLE.out; omega
      obtain ⟨b, o, rfl, c⟩ := Sl.at (H1.out.only hon).1 hlt
      obtain ⟨b2, o2, rfl, d⟩ := Sl.at (H2.out.only hon).1 hlt2
      have hjz : (j : Int) < (xs.length : Int) := by omega
      have hjz2 : (j : Int) < (ys.length : Int) := by omega
      obtain ⟨t1, t2⟩ := (H1.out.only hon).2 _ (getD_mem hlt)
      obtain ⟨t3, t4⟩ := (H2.out.only hon).2 _ (getD_mem hlt2)
      have hln := HS.out _ (getD_mem hlt)
      have hxy : (ys.getD j default).1 = (xs.getD j default).1 := by rw [← getD_fst hlt, ← getD_fst hlt2, HE.out]
      rw [hxy] at t3 t4
      obtain ⟨x0, x1, x2, x3⟩ := c
      obtain ⟨y0, y1, y2, y3⟩ := d
      rw [hxy] at y0 y3
      clear hxy
      obtain ⟨a1, n1, c1, e1⟩ : ∃ a n c, (xs.getD j default).2.1 = .slice a n c := by obtain ⟨x, c, e, -⟩ := t1.slice; exact ⟨_, _, _, e⟩
      obtain ⟨a2, n2, c2, e2⟩ : ∃ a n c, (xs.getD j default).2.2 = .slice a n c := by obtain ⟨x, c, e, -⟩ := t2.slice; exact ⟨_, _, _, e⟩
      obtain ⟨a3, n3, c3, e3⟩ : ∃ a n c, (ys.getD j default).2.1 = .slice a n c := by obtain ⟨x, c, e, -⟩ := t3.slice; exact ⟨_, _, _, e⟩
      obtain ⟨a4, n4, c4, e4⟩ : ∃ a n c, (ys.getD j default).2.2 = .slice a n c := by obtain ⟨x, c, e, -⟩ := t4.slice; exact ⟨_, _, _, e⟩
      rw [e1] at t1 x1
      rw [e2] at t2 x2
      rw [e3] at t3 y1
      rw [e4] at t4 y2
      generalize xs.getD j default = x at *
      generalize ys.getD j default = y at *
      clear e1 e2 e3 e4
      have ho1 := ((Only.refl (fun _ => False) wr).alloc (.cells #[.slice a1 n1 c1, .slice a2 n2 c2, .bool x.1.fresh] 35)).alloc (.cells #[.slice a3 n3 c3, .slice a4 n4 c4, .bool x.1.fresh] 35)
      have hX := ((Only.refl (fun _ => False) (wr.alloc (.cells #[.slice a1 n1 c1, .slice a2 n2 c2, .bool x.1.fresh] 35))).alloc (.cells #[.slice a3 n3 c3, .slice a4 n4 c4, .bool x.1.fresh] 35)).heap (heap_alloc_new wr (.cells #[.slice a1 n1 c1, .slice a2 n2 c2, .bool x.1.fresh] 35)) (fun h => h)
      have hY := heap_alloc_new (wr.alloc (.cells #[.slice a1 n1 c1, .slice a2 n2 c2, .bool x.1.fresh] 35)) (.cells #[.slice a3 n3 c3, .slice a4 n4 c4, .bool x.1.fresh] 35)
      have hs1 : (wr.alloc (.cells #[.slice a1 n1 c1, .slice a2 n2 c2, .bool x.1.fresh] 35)).heap.size = wr.heap.size + 1 := by simp
      rw [hs1] at hY
      have HS0 := Lib.hid (show (fun wc => wc.cell? ⟨b, o + j * 4, none⟩ = some (.int .i64 x.1.at_) ∧ wc.cell? ⟨b2, o2 + j * 4, none⟩ = some (.int .i64 x.1.at_) ∧ wc.cell? ⟨wr.heap.size, 0, none⟩ = some (.slice a1 n1 c1) ∧ wc.cell? ⟨wr.heap.size, 1, none⟩ = some (.slice a2 n2 c2) ∧ wc.cell? ⟨wr.heap.size, 2, none⟩ = some (.bool x.1.fresh) ∧ wc.cell? ⟨wr.heap.size + 1, 0, none⟩ = some (.slice a3 n3 c3) ∧ wc.cell? ⟨wr.heap.size + 1, 1, none⟩ = some (.slice a4 n4 c4) ∧ wc.cell? ⟨wr.heap.size + 1, 2, none⟩ = some (.bool x.1.fresh) ∧ Types wc (.slice a1 n1 c1) x.1.locals ∧ Types wc (.slice a3 n3 c3) x.1.locals ∧ Types wc (.slice a2 n2 c2) x.1.stack ∧ Types wc (.slice a4 n4 c4) x.1.stack ∧ Only (fun _ => False) w wc) (((wr.alloc (.cells #[.slice a1 n1 c1, .slice a2 n2 c2, .bool x.1.fresh] 35)).alloc (.cells #[.slice a3 n3 c3, .slice a4 n4 c4, .bool x.1.fresh] 35)).drewN 1) from by
        have hd := ho1.drewN 1
        have hX' := ((Only.refl (fun _ => False) ((wr.alloc (.cells #[.slice a1 n1 c1, .slice a2 n2 c2, .bool x.1.fresh] 35)).alloc (.cells #[.slice a3 n3 c3, .slice a4 n4 c4, .bool x.1.fresh] 35))).drewN 1).heap hX (fun h => h)
        have hY' := ((Only.refl (fun _ => False) ((wr.alloc (.cells #[.slice a1 n1 c1, .slice a2 n2 c2, .bool x.1.fresh] 35)).alloc (.cells #[.slice a3 n3 c3, .slice a4 n4 c4, .bool x.1.fresh] 35))).drewN 1).heap hY (fun h => h)
        exact ⟨hd.cell x0 (fun h => h), hd.cell y0 (fun h => h), cell_blk hX' 0, cell_blk hX' 1, cell_blk hX' 2, cell_blk hY' 0, cell_blk hY' 1, cell_blk hY' 2, t1.only hd, t3.only hd, t2.only hd, t4.only hd, HON.out.trans hd (fun _ h _ => h)⟩)
      have x1' := ((Only.refl (fun _ => False) wr).alloc (.cells #[.slice a1 n1 c1, .slice a2 n2 c2, .bool x.1.fresh] 35)).cell y1 (fun h => h)
      have x2' := ((Only.refl (fun _ => False) wr).alloc (.cells #[.slice a1 n1 c1, .slice a2 n2 c2, .bool x.1.fresh] 35)).cell y2 (fun h => h)
      have x3' := ((Only.refl (fun _ => False) wr).alloc (.cells #[.slice a1 n1 c1, .slice a2 n2 c2, .bool x.1.fresh] 35)).cell y3 (fun h => h)
      have HLN := Lib.hid hln
      clear hon t1 t2 t3 t4 ho1 hX hY hs1 hln
      go_wp2_with (fail)
      refine wp_region_held_drew (S := fun wc => wc.cell? ⟨b, o + j * 4, none⟩ = some (.int .i64 x.1.at_) ∧ wc.cell? ⟨b2, o2 + j * 4, none⟩ = some (.int .i64 x.1.at_) ∧ wc.cell? ⟨wr.heap.size, 0, none⟩ = some (.slice a1 n1 c1) ∧ wc.cell? ⟨wr.heap.size, 1, none⟩ = some (.slice a2 n2 c2) ∧ wc.cell? ⟨wr.heap.size, 2, none⟩ = some (.bool x.1.fresh) ∧ wc.cell? ⟨wr.heap.size + 1, 0, none⟩ = some (.slice a3 n3 c3) ∧ wc.cell? ⟨wr.heap.size + 1, 1, none⟩ = some (.slice a4 n4 c4) ∧ wc.cell? ⟨wr.heap.size + 1, 2, none⟩ = some (.bool x.1.fresh) ∧ Types wc (.slice a1 n1 c1) x.1.locals ∧ Types wc (.slice a3 n3 c3) x.1.locals ∧ Types wc (.slice a2 n2 c2) x.1.stack ∧ Types wc (.slice a4 n4 c4) x.1.stack ∧ Only (fun _ => False) w wc) (by kernel_rfl) HS0.out (fun hHeld => ?_)
      refine wpAnyH_take (i := 0) (v := ?_) (by simp only [List.getElem?_toArray, List.getElem?_cons_succ, List.getElem?_cons_zero]; rfl) (by kernel_rfl) (by kernel_rfl) (by kernel_rfl) (by exact fun _ _ _ h => h) (Or.inl ⟨by rfl, ?_⟩) (by assumption) ?_
      rotate_left 1
      · (intro w hSw; (try dsimp only at hSw); go_simp; try with_reducible rfl)
      try simp only [Act.put, List.setIfInBounds_toArray, List.set_cons_zero, List.set_cons_succ]
      refine wpAnyH_take (i := 1) (v := ?_) (by simp only [List.getElem?_toArray, List.getElem?_cons_succ, List.getElem?_cons_zero]; rfl) (by kernel_rfl) (by kernel_rfl) (by kernel_rfl) (by exact fun _ _ _ h => h) (Or.inl ⟨by rfl, ?_⟩) (by assumption) ?_
      rotate_left 1
      · (intro w hSw; (try dsimp only at hSw); go_simp; try with_reducible rfl)
      try simp only [Act.put, List.setIfInBounds_toArray, List.set_cons_zero, List.set_cons_succ]
      refine wpAnyH_take (i := 2) (v := ?_) (by simp only [List.getElem?_toArray, List.getElem?_cons_succ, List.getElem?_cons_zero]; rfl) (by kernel_rfl) (by kernel_rfl) (by kernel_rfl) (by exact fun _ _ _ h => h) (Or.inl ⟨by rfl, ?_⟩) (by assumption) ?_
      rotate_left 1
      · (intro w hSw; (try dsimp only at hSw); go_simp; try with_reducible rfl)
      try simp only [Act.put, List.setIfInBounds_toArray, List.set_cons_zero, List.set_cons_succ]
      refine wpAnyH_take (i := 3) (v := ?_) (by simp only [List.getElem?_toArray, List.getElem?_cons_succ, List.getElem?_cons_zero]; rfl) (by kernel_rfl) (by kernel_rfl) (by kernel_rfl) (by exact fun _ _ _ h => h) (Or.inl ⟨by rfl, ?_⟩) (by assumption) ?_
      rotate_left 1
      · (intro w hSw; (try dsimp only at hSw); go_simp; try with_reducible rfl)
      try simp only [Act.put, List.setIfInBounds_toArray, List.set_cons_zero, List.set_cons_succ]
      refine wpAnyH_take (i := 4) (v := ?_) (by simp only [List.getElem?_toArray, List.getElem?_cons_succ, List.getElem?_cons_zero]; rfl) (by kernel_rfl) (by kernel_rfl) (by kernel_rfl) (by exact fun _ _ _ h => h) (Or.inl ⟨by rfl, ?_⟩) (by assumption) ?_
      rotate_left 1
      · (intro w hSw; (try dsimp only at hSw); go_simp; try with_reducible rfl)
      try simp only [Act.put, List.setIfInBounds_toArray, List.set_cons_zero, List.set_cons_succ]
      refine wpAnyH_take (i := 5) (v := ?_) (by simp only [List.getElem?_toArray, List.getElem?_cons_succ, List.getElem?_cons_zero]; rfl) (by kernel_rfl) (by kernel_rfl) (by kernel_rfl) (by exact fun _ _ _ h => h) (Or.inl ⟨by rfl, ?_⟩) (by assumption) ?_
      rotate_left 1
      · (intro w hSw; (try dsimp only at hSw); go_simp; try with_reducible rfl)
      try simp only [Act.put, List.setIfInBounds_toArray, List.set_cons_zero, List.set_cons_succ]
      refine wpAnyH_take (i := 6) (v := ?_) (by simp only [List.getElem?_toArray, List.getElem?_cons_succ, List.getElem?_cons_zero]; rfl) (by kernel_rfl) (by kernel_rfl) (by kernel_rfl) (by exact fun _ _ _ h => h) (Or.inl ⟨by rfl, ?_⟩) (by assumption) ?_
      rotate_left 1
      · (intro w hSw; (try dsimp only at hSw); go_simp; try with_reducible rfl)
      try simp only [Act.put, List.setIfInBounds_toArray, List.set_cons_zero, List.set_cons_succ]
      refine wpAnyH_take (i := 7) (v := ?_) (by simp only [List.getElem?_toArray, List.getElem?_cons_succ, List.getElem?_cons_zero]; rfl) (by kernel_rfl) (by kernel_rfl) (by kernel_rfl) (by exact fun _ _ _ h => h) (Or.inl ⟨by rfl, ?_⟩) (by assumption) ?_
      rotate_left 1
      · (intro w hSw; (try dsimp only at hSw); go_simp; try with_reducible rfl)
      try simp only [Act.put, List.setIfInBounds_toArray, List.set_cons_zero, List.set_cons_succ]
      refine wpAnyH_take (i := 8) (v := ?_) (by simp only [List.getElem?_toArray, List.getElem?_cons_succ, List.getElem?_cons_zero]; rfl) (by kernel_rfl) (by kernel_rfl) (by kernel_rfl) (by exact fun _ _ _ h => h) (Or.inl ⟨by rfl, ?_⟩) (by assumption) ?_
      rotate_left 1
      · (intro w hSw; (try dsimp only at hSw); go_simp; try with_reducible rfl)
      try simp only [Act.put, List.setIfInBounds_toArray, List.set_cons_zero, List.set_cons_succ]
      refine wpAnyH_take (i := 9) (v := ?_) (by simp only [List.getElem?_toArray, List.getElem?_cons_succ, List.getElem?_cons_zero]; rfl) (by kernel_rfl) (by kernel_rfl) (by kernel_rfl) (by exact fun _ _ _ h => h) (Or.inl ⟨by rfl, ?_⟩) (by assumption) ?_
      rotate_left 1
      · (intro w hSw; (try dsimp only at hSw); go_simp; try with_reducible rfl)
      try simp only [Act.put, List.setIfInBounds_toArray, List.set_cons_zero, List.set_cons_succ]
      refine wpAnyH_take (i := 10) (v := ?_) (by simp only [List.getElem?_toArray, List.getElem?_cons_succ, List.getElem?_cons_zero]; rfl) (by kernel_rfl) (by kernel_rfl) (by kernel_rfl) (by exact fun _ _ _ h => h) (Or.inl ⟨by rfl, ?_⟩) (by assumption) ?_
      rotate_left 1
      · (intro w hSw; (try dsimp only at hSw); go_simp; try with_reducible rfl)
      try simp only [Act.put, List.setIfInBounds_toArray, List.set_cons_zero, List.set_cons_succ]
      refine wpAnyH_take (i := 11) (v := ?_) (by simp only [List.getElem?_toArray, List.getElem?_cons_succ, List.getElem?_cons_zero]; rfl) (by kernel_rfl) (by kernel_rfl) (by kernel_rfl) (by exact fun _ _ _ h => h) (Or.inl ⟨by rfl, ?_⟩) (by assumption) ?_
      rotate_left 1
      · (intro w hSw; (try dsimp only at hSw); go_simp; try with_reducible rfl)
      try simp only [Act.put, List.setIfInBounds_toArray, List.set_cons_zero, List.set_cons_succ]
      refine wpAnyH_take (i := 12) (v := ?_) (by simp only [List.getElem?_toArray, List.getElem?_cons_succ, List.getElem?_cons_zero]; rfl) (by kernel_rfl) (by kernel_rfl) (by kernel_rfl) (by exact fun _ _ _ h => h) (Or.inl ⟨by rfl, ?_⟩) (by assumption) ?_
      rotate_left 1
      · (intro w hSw; (try dsimp only at hSw); go_simp; try with_reducible rfl)
      try simp only [Act.put, List.setIfInBounds_toArray, List.set_cons_zero, List.set_cons_succ]
      refine wpAnyH_take (i := 13) (v := ?_) (by simp only [List.getElem?_toArray, List.getElem?_cons_succ, List.getElem?_cons_zero]; rfl) (by kernel_rfl) (by kernel_rfl) (by kernel_rfl) (by exact fun _ _ _ h => h) (Or.inl ⟨by rfl, ?_⟩) (by assumption) ?_
      rotate_left 1
      · (intro w hSw; (try dsimp only at hSw); go_simp; try with_reducible rfl)
      try simp only [Act.put, List.setIfInBounds_toArray, List.set_cons_zero, List.set_cons_succ]
      refine wpAnyH_take (i := 14) (v := ?_) (by simp only [List.getElem?_toArray, List.getElem?_cons_succ, List.getElem?_cons_zero]; rfl) (by kernel_rfl) (by kernel_rfl) (by kernel_rfl) (by exact fun _ _ _ h => h) (Or.inl ⟨by rfl, ?_⟩) (by assumption) ?_
      rotate_left 1
      · (intro w hSw; (try dsimp only at hSw); go_simp; try with_reducible rfl)
      try simp only [Act.put, List.setIfInBounds_toArray, List.set_cons_zero, List.set_cons_succ]
      refine wpAnyH_take (i := 15) (v := ?_) (by simp only [List.getElem?_toArray, List.getElem?_cons_succ, List.getElem?_cons_zero]; rfl) (by kernel_rfl) (by kernel_rfl) (by kernel_rfl) (by exact fun _ _ _ h => h) (Or.inl ⟨by rfl, ?_⟩) (by assumption) ?_
      rotate_left 1
      · (intro w hSw; (try dsimp only at hSw); go_simp; try with_reducible rfl)
      try simp only [Act.put, List.setIfInBounds_toArray, List.set_cons_zero, List.set_cons_succ]
      refine wpAnyH_take (i := 16) (v := ?_) (by simp only [List.getElem?_toArray, List.getElem?_cons_succ, List.getElem?_cons_zero]; rfl) (by kernel_rfl) (by kernel_rfl) (by kernel_rfl) (by exact fun _ _ _ h => h) (Or.inl ⟨by rfl, ?_⟩) (by assumption) ?_
      rotate_left 1
      · (intro w hSw; (try dsimp only at hSw); go_simp; try with_reducible rfl)
      try simp only [Act.put, List.setIfInBounds_toArray, List.set_cons_zero, List.set_cons_succ]
      refine wpAnyH_take (i := 17) (v := ?_) (by simp only [List.getElem?_toArray, List.getElem?_cons_succ, List.getElem?_cons_zero]; rfl) (by kernel_rfl) (by kernel_rfl) (by kernel_rfl) (by exact fun _ _ _ h => h) (Or.inl ⟨by rfl, ?_⟩) (by assumption) ?_
      rotate_left 1
      · (intro w hSw; (try dsimp only at hSw); go_simp; try with_reducible rfl)
      try simp only [Act.put, List.setIfInBounds_toArray, List.set_cons_zero, List.set_cons_succ]
      refine wpAnyH_take (i := 18) (v := ?_) (by simp only [List.getElem?_toArray, List.getElem?_cons_succ, List.getElem?_cons_zero]; rfl) (by kernel_rfl) (by kernel_rfl) (by kernel_rfl) (by exact fun _ _ _ h => h) (Or.inl ⟨by rfl, ?_⟩) (by assumption) ?_
      rotate_left 1
      · (intro w hSw; (try dsimp only at hSw); go_simp; try with_reducible rfl)
      try simp only [Act.put, List.setIfInBounds_toArray, List.set_cons_zero, List.set_cons_succ]
      refine wpAnyH_take (i := 19) (v := ?_) (by simp only [List.getElem?_toArray, List.getElem?_cons_succ, List.getElem?_cons_zero]; rfl) (by kernel_rfl) (by kernel_rfl) (by kernel_rfl) (by exact fun _ _ _ h => h) (Or.inl ⟨by rfl, ?_⟩) (by assumption) ?_
      rotate_left 1
      · (intro w hSw; (try dsimp only at hSw); go_simp; try with_reducible rfl)
      try simp only [Act.put, List.setIfInBounds_toArray, List.set_cons_zero, List.set_cons_succ]
      refine wpAnyH_take (i := 20) (v := ?_) (by simp only [List.getElem?_toArray, List.getElem?_cons_succ, List.getElem?_cons_zero]; rfl) (by kernel_rfl) (by kernel_rfl) (by kernel_rfl) (by exact fun _ _ _ h => h) (Or.inl ⟨by rfl, ?_⟩) (by assumption) ?_
      rotate_left 1
      · (intro w hSw; (try dsimp only at hSw); go_simp; try with_reducible rfl)
      try simp only [Act.put, List.setIfInBounds_toArray, List.set_cons_zero, List.set_cons_succ]
      refine wpAnyH_take (i := 21) (v := ?_) (by simp only [List.getElem?_toArray, List.getElem?_cons_succ, List.getElem?_cons_zero]; rfl) (by kernel_rfl) (by kernel_rfl) (by kernel_rfl) (by exact fun _ _ _ h => h) (Or.inl ⟨by rfl, ?_⟩) (by assumption) ?_
      rotate_left 1
      · (intro w hSw; (try dsimp only at hSw); go_simp; try with_reducible rfl)
      try simp only [Act.put, List.setIfInBounds_toArray, List.set_cons_zero, List.set_cons_succ]
      refine wpAnyH_take (i := 22) (v := ?_) (by simp only [List.getElem?_toArray, List.getElem?_cons_succ, List.getElem?_cons_zero]; rfl) (by kernel_rfl) (by kernel_rfl) (by kernel_rfl) (by exact fun _ _ _ h => h) (Or.inl ⟨by rfl, ?_⟩) (by assumption) ?_
      rotate_left 1
      · (intro w hSw; (try dsimp only at hSw); go_simp; try with_reducible rfl)
      try simp only [Act.put, List.setIfInBounds_toArray, List.set_cons_zero, List.set_cons_succ]
      refine wpAnyH_ready (rs := [23]) (by kernel_rfl) (by simp) ?_
      refine AllReadyH.cons (by simp only [List.getElem?_toArray, List.getElem?_cons_succ, List.getElem?_cons_zero]; rfl) (fun K hK => ?_) AllReadyH.nil
      go_simp
      (refine (sameTy10 _ _ x.1.locals _ hHeld.2.2.2.2.2.2.2.2.1 hHeld.2.2.2.2.2.2.2.2.2.1 HLN.out.1).mono ?_; rintro e w2 ⟨rfl, ho⟩; have HQ := Lib.hid (show (fun wc => wc.cell? ⟨b, o + j * 4, none⟩ = some (.int .i64 x.1.at_) ∧ wc.cell? ⟨b2, o2 + j * 4, none⟩ = some (.int .i64 x.1.at_) ∧ wc.cell? ⟨wr.heap.size, 0, none⟩ = some (.slice a1 n1 c1) ∧ wc.cell? ⟨wr.heap.size, 1, none⟩ = some (.slice a2 n2 c2) ∧ wc.cell? ⟨wr.heap.size, 2, none⟩ = some (.bool x.1.fresh) ∧ wc.cell? ⟨wr.heap.size + 1, 0, none⟩ = some (.slice a3 n3 c3) ∧ wc.cell? ⟨wr.heap.size + 1, 1, none⟩ = some (.slice a4 n4 c4) ∧ wc.cell? ⟨wr.heap.size + 1, 2, none⟩ = some (.bool x.1.fresh) ∧ Types wc (.slice a1 n1 c1) x.1.locals ∧ Types wc (.slice a3 n3 c3) x.1.locals ∧ Types wc (.slice a2 n2 c2) x.1.stack ∧ Types wc (.slice a4 n4 c4) x.1.stack ∧ Only (fun _ => False) w wc) w2 from ⟨ho.cell hHeld.1 (fun h => h), ho.cell hHeld.2.1 (fun h => h), ho.cell hHeld.2.2.1 (fun h => h), ho.cell hHeld.2.2.2.1 (fun h => h), ho.cell hHeld.2.2.2.2.1 (fun h => h), ho.cell hHeld.2.2.2.2.2.1 (fun h => h), ho.cell hHeld.2.2.2.2.2.2.1 (fun h => h), ho.cell hHeld.2.2.2.2.2.2.2.1 (fun h => h), Types.only hHeld.2.2.2.2.2.2.2.2.1 ho, Types.only hHeld.2.2.2.2.2.2.2.2.2.1 ho, Types.only hHeld.2.2.2.2.2.2.2.2.2.2.1 ho, Types.only hHeld.2.2.2.2.2.2.2.2.2.2.2.1 ho, hHeld.2.2.2.2.2.2.2.2.2.2.2.2.trans ho (fun _ h _ => h)⟩); clear ho)
      go_wp2_with fail
      refine hK.out _ _ ?_ (fun hHeld2 => ?_)
      · exact HQ.out
      clear hK K
      try simp only [Act.put, List.setIfInBounds_toArray, List.set_cons_zero, List.set_cons_succ]
      clear hHeld
      have hHeld := hHeld2
      clear hHeld2
      refine wpAnyH_take (i := 24) (v := ?_) (by simp only [List.getElem?_toArray, List.getElem?_cons_succ, List.getElem?_cons_zero]; rfl) (by kernel_rfl) (by kernel_rfl) (by kernel_rfl) (by exact fun _ _ _ h => h) (Or.inl ⟨by rfl, ?_⟩) (by assumption) ?_
      rotate_left 1
      · (intro w hSw; (try dsimp only at hSw); go_simp; try with_reducible rfl)
      try simp only [Act.put, List.setIfInBounds_toArray, List.set_cons_zero, List.set_cons_succ]
      refine wpAnyH_take (i := 25) (v := ?_) (by simp only [List.getElem?_toArray, List.getElem?_cons_succ, List.getElem?_cons_zero]; rfl) (by kernel_rfl) (by kernel_rfl) (by kernel_rfl) (by exact fun _ _ _ h => h) (Or.inl ⟨by rfl, ?_⟩) (by assumption) ?_
      rotate_left 1
      · (intro w hSw; (try dsimp only at hSw); go_simp; try with_reducible rfl)
      try simp only [Act.put, List.setIfInBounds_toArray, List.set_cons_zero, List.set_cons_succ]
      refine wpAnyH_take (i := 26) (v := ?_) (by simp only [List.getElem?_toArray, List.getElem?_cons_succ, List.getElem?_cons_zero]; rfl) (by kernel_rfl) (by kernel_rfl) (by kernel_rfl) (by exact fun _ _ _ h => h) (Or.inl ⟨by rfl, ?_⟩) (by assumption) ?_
      rotate_left 1
      · (intro w hSw; (try dsimp only at hSw); go_simp; try with_reducible rfl)
      try simp only [Act.put, List.setIfInBounds_toArray, List.set_cons_zero, List.set_cons_succ]
      refine wpAnyH_take (i := 27) (v := ?_) (by simp only [List.getElem?_toArray, List.getElem?_cons_succ, List.getElem?_cons_zero]; rfl) (by kernel_rfl) (by kernel_rfl) (by kernel_rfl) (by exact fun _ _ _ h => h) (Or.inl ⟨by rfl, ?_⟩) (by assumption) ?_
      rotate_left 1
      · (intro w hSw; (try dsimp only at hSw); go_simp; try with_reducible rfl)
      try simp only [Act.put, List.setIfInBounds_toArray, List.set_cons_zero, List.set_cons_succ]
      refine wpAnyH_take (i := 28) (v := ?_) (by simp only [List.getElem?_toArray, List.getElem?_cons_succ, List.getElem?_cons_zero]; rfl) (by kernel_rfl) (by kernel_rfl) (by kernel_rfl) (by exact fun _ _ _ h => h) (Or.inl ⟨by rfl, ?_⟩) (by assumption) ?_
      rotate_left 1
      · (intro w hSw; (try dsimp only at hSw); go_simp; try with_reducible rfl)
      try simp only [Act.put, List.setIfInBounds_toArray, List.set_cons_zero, List.set_cons_succ]
      refine wpAnyH_take (i := 29) (v := ?_) (by simp only [List.getElem?_toArray, List.getElem?_cons_succ, List.getElem?_cons_zero]; rfl) (by kernel_rfl) (by kernel_rfl) (by kernel_rfl) (by exact fun _ _ _ h => h) (Or.inl ⟨by rfl, ?_⟩) (by assumption) ?_
      rotate_left 1
      · (intro w hSw; (try dsimp only at hSw); go_simp; try with_reducible rfl)
      try simp only [Act.put, List.setIfInBounds_toArray, List.set_cons_zero, List.set_cons_succ]
      refine wpAnyH_take (i := 30) (v := ?_) (by simp only [List.getElem?_toArray, List.getElem?_cons_succ, List.getElem?_cons_zero]; rfl) (by kernel_rfl) (by kernel_rfl) (by kernel_rfl) (by exact fun _ _ _ h => h) (Or.inl ⟨by rfl, ?_⟩) (by assumption) ?_
      rotate_left 1
      · (intro w hSw; (try dsimp only at hSw); go_simp; try with_reducible rfl)
      try simp only [Act.put, List.setIfInBounds_toArray, List.set_cons_zero, List.set_cons_succ]
      refine wpAnyH_ready (rs := [31]) (by kernel_rfl) (by simp) ?_
      refine AllReadyH.cons (by simp only [List.getElem?_toArray, List.getElem?_cons_succ, List.getElem?_cons_zero]; rfl) (fun K hK => ?_) AllReadyH.nil
      go_simp
      (refine (sameTy10 _ _ x.1.stack _ hHeld.2.2.2.2.2.2.2.2.2.2.1 hHeld.2.2.2.2.2.2.2.2.2.2.2.1 HLN.out.2).mono ?_; rintro e w3 ⟨rfl, ho⟩; have HQ3 := Lib.hid (show (fun wc => wc.cell? ⟨b, o + j * 4, none⟩ = some (.int .i64 x.1.at_) ∧ wc.cell? ⟨b2, o2 + j * 4, none⟩ = some (.int .i64 x.1.at_) ∧ wc.cell? ⟨wr.heap.size, 0, none⟩ = some (.slice a1 n1 c1) ∧ wc.cell? ⟨wr.heap.size, 1, none⟩ = some (.slice a2 n2 c2) ∧ wc.cell? ⟨wr.heap.size, 2, none⟩ = some (.bool x.1.fresh) ∧ wc.cell? ⟨wr.heap.size + 1, 0, none⟩ = some (.slice a3 n3 c3) ∧ wc.cell? ⟨wr.heap.size + 1, 1, none⟩ = some (.slice a4 n4 c4) ∧ wc.cell? ⟨wr.heap.size + 1, 2, none⟩ = some (.bool x.1.fresh) ∧ Types wc (.slice a1 n1 c1) x.1.locals ∧ Types wc (.slice a3 n3 c3) x.1.locals ∧ Types wc (.slice a2 n2 c2) x.1.stack ∧ Types wc (.slice a4 n4 c4) x.1.stack ∧ Only (fun _ => False) w wc) w3 from ⟨ho.cell hHeld.1 (fun h => h), ho.cell hHeld.2.1 (fun h => h), ho.cell hHeld.2.2.1 (fun h => h), ho.cell hHeld.2.2.2.1 (fun h => h), ho.cell hHeld.2.2.2.2.1 (fun h => h), ho.cell hHeld.2.2.2.2.2.1 (fun h => h), ho.cell hHeld.2.2.2.2.2.2.1 (fun h => h), ho.cell hHeld.2.2.2.2.2.2.2.1 (fun h => h), Types.only hHeld.2.2.2.2.2.2.2.2.1 ho, Types.only hHeld.2.2.2.2.2.2.2.2.2.1 ho, Types.only hHeld.2.2.2.2.2.2.2.2.2.2.1 ho, Types.only hHeld.2.2.2.2.2.2.2.2.2.2.2.1 ho, hHeld.2.2.2.2.2.2.2.2.2.2.2.2.trans ho (fun _ h _ => h)⟩); clear ho)
      go_wp2_with fail
      refine hK.out _ _ ?_ (fun hHeld2 => ?_)
      · exact HQ3.out
      clear hK K
      try simp only [Act.put, List.setIfInBounds_toArray, List.set_cons_zero, List.set_cons_succ]
      clear hHeld
      have hHeld := hHeld2
      clear hHeld2
      refine wpAnyH_take (i := 32) (v := ?_) (by simp only [List.getElem?_toArray, List.getElem?_cons_succ, List.getElem?_cons_zero]; rfl) (by kernel_rfl) (by kernel_rfl) (by kernel_rfl) (by exact fun _ _ _ h => h) (Or.inl ⟨by rfl, ?_⟩) (by assumption) ?_
      rotate_left 1
      · (intro w hSw; (try dsimp only at hSw); go_simp; try with_reducible rfl)
      try simp only [Act.put, List.setIfInBounds_toArray, List.set_cons_zero, List.set_cons_succ]
      refine wpAnyH_take (i := 33) (v := ?_) (by simp only [List.getElem?_toArray, List.getElem?_cons_succ, List.getElem?_cons_zero]; rfl) (by kernel_rfl) (by kernel_rfl) (by kernel_rfl) (by exact fun _ _ _ h => h) (Or.inl ⟨by rfl, ?_⟩) (by assumption) ?_
      rotate_left 1
      · (intro w hSw; (try dsimp only at hSw); go_simp; try with_reducible rfl)
      try simp only [Act.put, List.setIfInBounds_toArray, List.set_cons_zero, List.set_cons_succ]
      refine wpAnyH_done (by kernel_rfl) ?_ _
      have HF := Lib.hid (HQ3.out.2.2.2.2.2.2.2.2.2.2.2.2)
      clear HQ HQ3 HS0
      go_wp2
      go_roundw
      case rel => exact ⟨j + 1, by go_num, by omega, HF.out⟩
      case measure => simp [intOf]; omega
    · obtain rfl : j = xs.length := by omega
      clear hlt hj hon
      go_wp2
      go_ret
      exact ⟨rfl, HON.out⟩
theorem typeN_A : typeN ⟨#[65]⟩ = some ⟨4, ⟨#[65]⟩, 0, 0, 0⟩ := rfl
theorem lit_A : (⟨#[65]⟩ : ByteArray).toList = [65] := by rw [ByteArray.toList_eq]
set_option maxHeartbeats 2000000 in
set_option maxRecDepth 100000 in
theorem awake10 (w : World) : Calls Tryd.prog 8 #[] w fun e w' => e = .returned (.bool true) ∧ Only (fun _ => False) w w' := by
  have cT := progMType ⟨#[65]⟩ w (by show 1 ≤ _; omega)
  unfold TypeTo valT at cT
  rw [typeN_A] at cT
  have CT : Hid (Calls Tryd.prog 19 #[.string ⟨#[65]⟩] w fun e w' => e = .returned (.tuple #[.agg #[.int .i64 4, .string ⟨#[65]⟩, .int .i64 0, .int .i64 0, .int .i64 0], .bool true]) ∧ Only (fun _ => False) w w') := Lib.hid cT
  have hlit := lit_A
  clear cT
  go_enter Tryd.func8, Tryd.ntmps8
  go_wp2_with (fail)
  refine CT.out.mono ?_
  rintro e w1 ⟨rfl, ho1⟩
  have HO := Lib.hid (ho1.alloc (.cells #[.int .i64 4, .string ⟨#[65]⟩, .int .i64 0, .int .i64 0, .int .i64 0] 39))
  clear ho1 CT
  go_wp2
  go_ret
  exact ⟨rfl, HO.out⟩
end Go.Proofs.YtadgbkjjeigpjaaDoor
