/- PROVED: the law HeapSets: a value that is set is told, and all else is as it was; what does not fit is refused; the arguments read as before. For every input. No condition. -/
import Derived.Test.YtebeoganblcblaaHpV
import Derived.Test.YtebeoganblcblaaHpU
import Derived.ProofKit
import Derived.ShutString
import Derived.ChangeOld
import Derived.Below
import Derived.SizedLaws
import Derived.PinnedBridge
import Derived.Deep.CondSized
import Derived.Deep.RegionHeld3
namespace Go.Proofs.Ytebeoganblcblaa.heapSets
open Go.ChangeShapes Go.WideShapes Go.ChangeAt Go.RowKit
set_option linter.unusedVariables false
set_option linter.unusedSimpArgs false

set_option maxHeartbeats 16000000 in
set_option maxRecDepth 100000 in
theorem walk (v0 : Value) (r i : Int) (v3 : Value) (w : World) (w0 : ∃ xs, Ops14 w v0 xs ∧ xs.length ≤ 140737488351232) (w1 : (Lit.int .i64 r).wf = true) (w2 : (Lit.int .i64 i).wf = true) (w3 : ∃ v : ValV, v3 = valVa v) :
    Calls Try.prog 5 #[v0, .int .i64 r, .int .i64 i, v3] w fun e w' => e = .returned (.bool true) ∧ Below w.heap.size w w' := by
  obtain ⟨xs, hx, hlen⟩ := w0
  obtain ⟨v, rfl⟩ := w3
  obtain ⟨ao, cap, rfl, -⟩ := id hx.1
  have ho := (Only.refl (fun _ => False) w).alloc (.cells #[.int .i64 v.k, .int .i64 v.n, .int .i64 v.r] 34)
  have hb := heap_alloc_new w (.cells #[.int .i64 v.k, .int .i64 v.n, .int .i64 v.r] 34)
  have hsz : (w.alloc (.cells #[.int .i64 v.k, .int .i64 v.n, .int .i64 v.r] 34)).heap.size = w.heap.size + 1 := by simp
  obtain ⟨W0, hW0⟩ : ∃ W0, w.alloc (.cells #[.int .i64 v.k, .int .i64 v.n, .int .i64 v.r] 34) = W0 := ⟨_, rfl⟩
  rw [hW0] at ho hb hsz
  have HX := Lib.hid hx
  have HV := Lib.hid hb
  have HO0 := Lib.hid ho
  have HSZ := Lib.hid hsz
  have HW0 := Lib.hid hW0
  clear hx w1 w2 ho hb hsz
  obtain ⟨n, hn⟩ : ∃ n, xs.length = n := ⟨_, rfl⟩
  rw [hn] at hlen
  have HN := Lib.hid hn
  have HLEN := Lib.hid hlen
  rw [hn]
  clear hn hlen
  have AW := Lib.hid awake14
  have C1 := Lib.hid (fun W => progNew14 100 (by decide) (by decide) W)
  unfold valVa
  go_enter Try.func5, Try.ntmps5
  go_wp2_with (fail)
  try rw [HW0.out]
  clear hW0
  refine (C1.out _).mono ?_
  rintro e w1 ⟨p, G, rfl, hp1, ho1, hg1⟩
  have H1 := Lib.hid hp1
  have HO1 := Lib.hid ho1
  have HG1 := Lib.hid hg1
  clear hp1 ho1 hg1 C1
  go_wp2
  go_loopw [11] (fun iv wr => ∃ (j : Nat) (G : Nat → Prop) (os : List ObjV), iv = .int .i64 j ∧ j ≤ n ∧ Hid (HeapP wr G p os 100) ∧ Hid (∀ k, G k → W0.heap.size ≤ k) ∧ Hid (Only (fun _ => False) W0 wr)) (fun iv _ => n - (intOf iv).toNat)
  case atStart => exact ⟨0, _, _, rfl, Nat.zero_le _, H1, HG1, HO1⟩
  case round =>
    clear G H1 HO1 HG1
    obtain ⟨j, G, os, rfl, hj, HP, HK, HON⟩ := hrel
    have hn9 := HLEN.out
    by_cases hlt : j < n
    · by_cases h60 : j < 60
      · have d60 : decide ((j : Int) < 60) = true := by simp only [decide_eq_true_eq]; omega
        as_aux_lemma =>
          have hjz : (j : Int) < (n : Int) := by omega
          have hj0 : (0 : Int) ≤ (j : Int) := by omega
          obtain ⟨x, hxe⟩ : ∃ x, x = xs.getD j default := ⟨_, rfl⟩
          obtain ⟨b9, o9, rfl, hat0⟩ := Sl.at (by have := HX.out.1; rw [HN.out] at this; exact this) hlt
          rw [← hxe] at hat0
          have HWN := Lib.hid (HO0.out.trans HON.out (fun _ h _ => h))
          have hat := hat0.only HWN.out
          have hty : Types w x.dv x.data := HX.out.2 x (by rw [hxe, show xs.getD j default = xs[j]'(by rw [HN.out]; exact hlt) from by simp [List.getD, HN.out, hlt]]; exact List.getElem_mem _)
          have HAT := Lib.hid (show ∀ W, Only (fun _ => False) w W → (fun wc : World => wc.cell? ⟨b9, o9 + j * 17, none⟩ = some (.int .i64 x.what) ∧ wc.cell? ⟨b9, o9 + j * 17 + 1, none⟩ = some (.int .i64 x.t.k) ∧ wc.cell? ⟨b9, o9 + j * 17 + 2, none⟩ = some (.string x.t.name) ∧ wc.cell? ⟨b9, o9 + j * 17 + 3, none⟩ = some (.int .i64 x.t.dims) ∧ wc.cell? ⟨b9, o9 + j * 17 + 4, none⟩ = some (.int .i64 x.t.elem) ∧ wc.cell? ⟨b9, o9 + j * 17 + 5, none⟩ = some (.int .i64 x.t.at_) ∧ wc.cell? ⟨b9, o9 + j * 17 + 6, none⟩ = some (.int .i64 x.of.k) ∧ wc.cell? ⟨b9, o9 + j * 17 + 7, none⟩ = some (.string x.of.name) ∧ wc.cell? ⟨b9, o9 + j * 17 + 8, none⟩ = some (.int .i64 x.of.dims) ∧ wc.cell? ⟨b9, o9 + j * 17 + 9, none⟩ = some (.int .i64 x.of.elem) ∧ wc.cell? ⟨b9, o9 + j * 17 + 10, none⟩ = some (.int .i64 x.of.at_) ∧ wc.cell? ⟨b9, o9 + j * 17 + 11, none⟩ = some (.int .i64 x.n) ∧ wc.cell? ⟨b9, o9 + j * 17 + 12, none⟩ = some (.int .i64 x.i) ∧ wc.cell? ⟨b9, o9 + j * 17 + 13, none⟩ = some (.int .i64 x.v.k) ∧ wc.cell? ⟨b9, o9 + j * 17 + 14, none⟩ = some (.int .i64 x.v.n) ∧ wc.cell? ⟨b9, o9 + j * 17 + 15, none⟩ = some (.int .i64 x.v.r) ∧ wc.cell? ⟨b9, o9 + j * 17 + 16, none⟩ = some (x.dv)) W from fun W hW => by have hq := hat0.only hW; exact ⟨hq.c0, hq.c1, hq.c2, hq.c3, hq.c4, hq.c5, hq.c6, hq.c7, hq.c8, hq.c9, hq.c10, hq.c11, hq.c12, hq.c13, hq.c14, hq.c15, hq.c16⟩)
          have hS : (fun wc : World => wc.cell? ⟨b9, o9 + j * 17, none⟩ = some (.int .i64 x.what) ∧ wc.cell? ⟨b9, o9 + j * 17 + 1, none⟩ = some (.int .i64 x.t.k) ∧ wc.cell? ⟨b9, o9 + j * 17 + 2, none⟩ = some (.string x.t.name) ∧ wc.cell? ⟨b9, o9 + j * 17 + 3, none⟩ = some (.int .i64 x.t.dims) ∧ wc.cell? ⟨b9, o9 + j * 17 + 4, none⟩ = some (.int .i64 x.t.elem) ∧ wc.cell? ⟨b9, o9 + j * 17 + 5, none⟩ = some (.int .i64 x.t.at_) ∧ wc.cell? ⟨b9, o9 + j * 17 + 6, none⟩ = some (.int .i64 x.of.k) ∧ wc.cell? ⟨b9, o9 + j * 17 + 7, none⟩ = some (.string x.of.name) ∧ wc.cell? ⟨b9, o9 + j * 17 + 8, none⟩ = some (.int .i64 x.of.dims) ∧ wc.cell? ⟨b9, o9 + j * 17 + 9, none⟩ = some (.int .i64 x.of.elem) ∧ wc.cell? ⟨b9, o9 + j * 17 + 10, none⟩ = some (.int .i64 x.of.at_) ∧ wc.cell? ⟨b9, o9 + j * 17 + 11, none⟩ = some (.int .i64 x.n) ∧ wc.cell? ⟨b9, o9 + j * 17 + 12, none⟩ = some (.int .i64 x.i) ∧ wc.cell? ⟨b9, o9 + j * 17 + 13, none⟩ = some (.int .i64 x.v.k) ∧ wc.cell? ⟨b9, o9 + j * 17 + 14, none⟩ = some (.int .i64 x.v.n) ∧ wc.cell? ⟨b9, o9 + j * 17 + 15, none⟩ = some (.int .i64 x.v.r) ∧ wc.cell? ⟨b9, o9 + j * 17 + 16, none⟩ = some (x.dv)) wr.drew := ⟨hat.c0, hat.c1, hat.c2, hat.c3, hat.c4, hat.c5, hat.c6, hat.c7, hat.c8, hat.c9, hat.c10, hat.c11, hat.c12, hat.c13, hat.c14, hat.c15, hat.c16⟩
          have k0 := hat.c0
          have HTY := Lib.hid (Types.far hty HWN.out (Only.refl (fun _ => False) wr).drew (fun _ _ h => h))
          have HPD := Lib.hid (HeapP.only HP.out (Only.refl (fun _ => False) wr).drew (fun _ _ h => h))
          have HFAR := Lib.hid (far_of_stay (w := wr.drew) (G := G) (fun W hW => Types.far hty HWN.out (S := G) ((Only.refl G wr).drew.trans hW (fun _ h _ => h)) (fun k hk hg => by have := HK.out k hg; have := HO0.out.size; omega)))
          clear hat hat0 hxe hty
          by_cases hw0 : x.what = 0
          · have e0 : (x.what == 0) = true := by simp [hw0]
            clear hw0
            have C2 := Lib.hid (progMakeR HPD.out x.t x.dv x.data HTY.out HFAR.out)
            obtain ⟨z, hz⟩ : ∃ z, makeZ os 100 x.t x.data = z := ⟨_, rfl⟩
            rw [hz] at C2
            unfold valT at C2
            clear hz
            go_wp2_with (fail)
            refine wp_region_held_drew (S := fun wc : World => wc.cell? ⟨b9, o9 + j * 17, none⟩ = some (.int .i64 x.what) ∧ wc.cell? ⟨b9, o9 + j * 17 + 1, none⟩ = some (.int .i64 x.t.k) ∧ wc.cell? ⟨b9, o9 + j * 17 + 2, none⟩ = some (.string x.t.name) ∧ wc.cell? ⟨b9, o9 + j * 17 + 3, none⟩ = some (.int .i64 x.t.dims) ∧ wc.cell? ⟨b9, o9 + j * 17 + 4, none⟩ = some (.int .i64 x.t.elem) ∧ wc.cell? ⟨b9, o9 + j * 17 + 5, none⟩ = some (.int .i64 x.t.at_) ∧ wc.cell? ⟨b9, o9 + j * 17 + 6, none⟩ = some (.int .i64 x.of.k) ∧ wc.cell? ⟨b9, o9 + j * 17 + 7, none⟩ = some (.string x.of.name) ∧ wc.cell? ⟨b9, o9 + j * 17 + 8, none⟩ = some (.int .i64 x.of.dims) ∧ wc.cell? ⟨b9, o9 + j * 17 + 9, none⟩ = some (.int .i64 x.of.elem) ∧ wc.cell? ⟨b9, o9 + j * 17 + 10, none⟩ = some (.int .i64 x.of.at_) ∧ wc.cell? ⟨b9, o9 + j * 17 + 11, none⟩ = some (.int .i64 x.n) ∧ wc.cell? ⟨b9, o9 + j * 17 + 12, none⟩ = some (.int .i64 x.i) ∧ wc.cell? ⟨b9, o9 + j * 17 + 13, none⟩ = some (.int .i64 x.v.k) ∧ wc.cell? ⟨b9, o9 + j * 17 + 14, none⟩ = some (.int .i64 x.v.n) ∧ wc.cell? ⟨b9, o9 + j * 17 + 15, none⟩ = some (.int .i64 x.v.r) ∧ wc.cell? ⟨b9, o9 + j * 17 + 16, none⟩ = some (x.dv)) (by kernel_rfl) hS (fun hHeld => ?_)
            refine wpAnyH_take (i := 0) (v := ?_) (by simp only [List.getElem?_toArray, List.getElem?_cons_succ, List.getElem?_cons_zero]; rfl) (by kernel_rfl) (by kernel_rfl) (by kernel_rfl) (by exact fun _ _ _ h => h) (Or.inl ⟨by rfl, ?_⟩) (by assumption) ?_
            rotate_left 1
            · (intro w hSw; (try dsimp only at hSw); go_simp; try with_reducible rfl)
            try simp only [Act.put, List.setIfInBounds_toArray, List.set_cons_zero, List.set_cons_succ]
            refine wpAnyH_take (i := 1) (v := ?_) (by simp only [List.getElem?_toArray, List.getElem?_cons_succ, List.getElem?_cons_zero]; rfl) (by kernel_rfl) (by kernel_rfl) (by kernel_rfl) (by exact fun _ _ _ h => h) (Or.inl ⟨by rfl, ?_⟩) (by assumption) ?_
            rotate_left 1
            · (intro w hSw; (try dsimp only at hSw); go_simp; try with_reducible rfl)
            try simp only [Act.put, List.setIfInBounds_toArray, List.set_cons_zero, List.set_cons_succ]
            refine wpAnyH_take (i := 2) (v := ?_) (by simp only [List.getElem?_toArray, List.getElem?_cons_succ, List.getElem?_cons_zero]; rfl) (by kernel_rfl) (by kernel_rfl) (by kernel_rfl) (by exact fun _ _ _ h => h) (Or.inl ⟨by rfl, ?_⟩) (by assumption) ?_
            rotate_left 1
            · (intro w hSw; (try dsimp only at hSw); go_simp; try with_reducible rfl)
            try simp only [Act.put, List.setIfInBounds_toArray, List.set_cons_zero, List.set_cons_succ]
            refine wpAnyH_take (i := 3) (v := ?_) (by simp only [List.getElem?_toArray, List.getElem?_cons_succ, List.getElem?_cons_zero]; rfl) (by kernel_rfl) (by kernel_rfl) (by kernel_rfl) (by exact fun _ _ _ h => h) (Or.inl ⟨by rfl, ?_⟩) (by assumption) ?_
            rotate_left 1
            · (intro w hSw; (try dsimp only at hSw); go_simp; try with_reducible rfl)
            try simp only [Act.put, List.setIfInBounds_toArray, List.set_cons_zero, List.set_cons_succ]
            refine wpAnyH_take (i := 4) (v := ?_) (by simp only [List.getElem?_toArray, List.getElem?_cons_succ, List.getElem?_cons_zero]; rfl) (by kernel_rfl) (by kernel_rfl) (by kernel_rfl) (by exact fun _ _ _ h => h) (Or.inl ⟨by rfl, ?_⟩) (by assumption) ?_
            rotate_left 1
            · (intro w hSw; (try dsimp only at hSw); go_simp; try with_reducible rfl)
            try simp only [Act.put, List.setIfInBounds_toArray, List.set_cons_zero, List.set_cons_succ]
            refine wpAnyH_take (i := 5) (v := ?_) (by simp only [List.getElem?_toArray, List.getElem?_cons_succ, List.getElem?_cons_zero]; rfl) (by kernel_rfl) (by kernel_rfl) (by kernel_rfl) (by exact fun _ _ _ h => h) (Or.inl ⟨by rfl, ?_⟩) (by assumption) ?_
            rotate_left 1
            · (intro w hSw; (try dsimp only at hSw); go_simp; try with_reducible rfl)
            try simp only [Act.put, List.setIfInBounds_toArray, List.set_cons_zero, List.set_cons_succ]
            refine wpAnyH_take (i := 6) (v := ?_) (by simp only [List.getElem?_toArray, List.getElem?_cons_succ, List.getElem?_cons_zero]; rfl) (by kernel_rfl) (by kernel_rfl) (by kernel_rfl) (by exact fun _ _ _ h => h) (Or.inl ⟨by rfl, ?_⟩) (by assumption) ?_
            rotate_left 1
            · (intro w hSw; (try dsimp only at hSw); go_simp; try with_reducible rfl)
            try simp only [Act.put, List.setIfInBounds_toArray, List.set_cons_zero, List.set_cons_succ]
            refine wpAnyH_take (i := 7) (v := ?_) (by simp only [List.getElem?_toArray, List.getElem?_cons_succ, List.getElem?_cons_zero]; rfl) (by kernel_rfl) (by kernel_rfl) (by kernel_rfl) (by exact fun _ _ _ h => h) (Or.inl ⟨by rfl, ?_⟩) (by assumption) ?_
            rotate_left 1
            · (intro w hSw; (try dsimp only at hSw); go_simp; try with_reducible rfl)
            try simp only [Act.put, List.setIfInBounds_toArray, List.set_cons_zero, List.set_cons_succ]
            refine wpAnyH_take (i := 8) (v := ?_) (by simp only [List.getElem?_toArray, List.getElem?_cons_succ, List.getElem?_cons_zero]; rfl) (by kernel_rfl) (by kernel_rfl) (by kernel_rfl) (by exact fun _ _ _ h => h) (Or.inl ⟨by rfl, ?_⟩) (by assumption) ?_
            rotate_left 1
            · (intro w hSw; (try dsimp only at hSw); go_simp; try with_reducible rfl)
            try simp only [Act.put, List.setIfInBounds_toArray, List.set_cons_zero, List.set_cons_succ]
            refine wpAnyH_take (i := 9) (v := ?_) (by simp only [List.getElem?_toArray, List.getElem?_cons_succ, List.getElem?_cons_zero]; rfl) (by kernel_rfl) (by kernel_rfl) (by kernel_rfl) (by exact fun _ _ _ h => h) (Or.inl ⟨by rfl, ?_⟩) (by assumption) ?_
            rotate_left 1
            · (intro w hSw; (try dsimp only at hSw); go_simp; try with_reducible rfl)
            try simp only [Act.put, List.setIfInBounds_toArray, List.set_cons_zero, List.set_cons_succ]
            refine wpAnyH_take (i := 10) (v := ?_) (by simp only [List.getElem?_toArray, List.getElem?_cons_succ, List.getElem?_cons_zero]; rfl) (by kernel_rfl) (by kernel_rfl) (by kernel_rfl) (by exact fun _ _ _ h => h) (Or.inl ⟨by rfl, ?_⟩) (by assumption) ?_
            rotate_left 1
            · (intro w hSw; (try dsimp only at hSw); go_simp; try with_reducible rfl)
            try simp only [Act.put, List.setIfInBounds_toArray, List.set_cons_zero, List.set_cons_succ]
            refine wpAnyH_ready (rs := [11]) (by kernel_rfl) (by simp) ?_
            refine AllReadyH.cons (by simp only [List.getElem?_toArray, List.getElem?_cons_succ, List.getElem?_cons_zero]; rfl) (fun K hK => ?_) AllReadyH.nil
            go_simp
            (refine C2.out.mono ?_; rintro e w3 ⟨rfl, G3, hp3, ho3, hg3⟩; have HP3 := Lib.hid hp3; have HON3 := Lib.hid (Only.trans (HON.out.trans (Only.refl (fun _ => False) wr).drew (fun _ h _ => h)) ho3 (fun k hk hl => by have := HK.out k hk; omega)); have HK3 := Lib.hid (show ∀ k, G3 k → W0.heap.size ≤ k from fun k hk => by rcases hg3 k hk with e | e; exact HK.out k e; have := HON.out.size; have : wr.drew.heap.size = wr.heap.size := rfl; omega); clear hp3 ho3 hg3)
            go_wp2_with fail
            refine hK.out _ _ ?_ (fun hHeld2 => ?_)
            · exact HAT.out _ (HO0.out.trans HON3.out (fun _ h _ => h))
            clear hK K
            try simp only [Act.put, List.setIfInBounds_toArray, List.set_cons_zero, List.set_cons_succ]
            clear hHeld
            have hHeld := hHeld2
            clear hHeld2
            refine wpAnyH_done (by kernel_rfl) ?_ _
            clear hHeld hS
            go_wp2
            go_roundw
            case rel => exact ⟨j + 1, G3, _, by go_num, by omega, HP3, HK3, HON3⟩
            case measure => simp [intOf]; omega
          · have e0 : (x.what == 0) = false := by rw [beq_eq_false_iff_ne]; exact hw0
            clear hw0
            have C2 := Lib.hid (progArrayR HPD.out x.t x.of x.n)
            obtain ⟨z, hz⟩ : ∃ z, arrayZ os 100 x.t x.of x.n = z := ⟨_, rfl⟩
            rw [hz] at C2
            unfold valT at C2
            clear hz
            go_wp2_with (fail)
            refine wp_region_held_drew (S := fun wc : World => wc.cell? ⟨b9, o9 + j * 17, none⟩ = some (.int .i64 x.what) ∧ wc.cell? ⟨b9, o9 + j * 17 + 1, none⟩ = some (.int .i64 x.t.k) ∧ wc.cell? ⟨b9, o9 + j * 17 + 2, none⟩ = some (.string x.t.name) ∧ wc.cell? ⟨b9, o9 + j * 17 + 3, none⟩ = some (.int .i64 x.t.dims) ∧ wc.cell? ⟨b9, o9 + j * 17 + 4, none⟩ = some (.int .i64 x.t.elem) ∧ wc.cell? ⟨b9, o9 + j * 17 + 5, none⟩ = some (.int .i64 x.t.at_) ∧ wc.cell? ⟨b9, o9 + j * 17 + 6, none⟩ = some (.int .i64 x.of.k) ∧ wc.cell? ⟨b9, o9 + j * 17 + 7, none⟩ = some (.string x.of.name) ∧ wc.cell? ⟨b9, o9 + j * 17 + 8, none⟩ = some (.int .i64 x.of.dims) ∧ wc.cell? ⟨b9, o9 + j * 17 + 9, none⟩ = some (.int .i64 x.of.elem) ∧ wc.cell? ⟨b9, o9 + j * 17 + 10, none⟩ = some (.int .i64 x.of.at_) ∧ wc.cell? ⟨b9, o9 + j * 17 + 11, none⟩ = some (.int .i64 x.n) ∧ wc.cell? ⟨b9, o9 + j * 17 + 12, none⟩ = some (.int .i64 x.i) ∧ wc.cell? ⟨b9, o9 + j * 17 + 13, none⟩ = some (.int .i64 x.v.k) ∧ wc.cell? ⟨b9, o9 + j * 17 + 14, none⟩ = some (.int .i64 x.v.n) ∧ wc.cell? ⟨b9, o9 + j * 17 + 15, none⟩ = some (.int .i64 x.v.r) ∧ wc.cell? ⟨b9, o9 + j * 17 + 16, none⟩ = some (x.dv)) (by kernel_rfl) hS (fun hHeld => ?_)
            refine wpAnyH_take (i := 0) (v := ?_) (by simp only [List.getElem?_toArray, List.getElem?_cons_succ, List.getElem?_cons_zero]; rfl) (by kernel_rfl) (by kernel_rfl) (by kernel_rfl) (by exact fun _ _ _ h => h) (Or.inl ⟨by rfl, ?_⟩) (by assumption) ?_
            rotate_left 1
            · (intro w hSw; (try dsimp only at hSw); go_simp; try with_reducible rfl)
            try simp only [Act.put, List.setIfInBounds_toArray, List.set_cons_zero, List.set_cons_succ]
            refine wpAnyH_take (i := 1) (v := ?_) (by simp only [List.getElem?_toArray, List.getElem?_cons_succ, List.getElem?_cons_zero]; rfl) (by kernel_rfl) (by kernel_rfl) (by kernel_rfl) (by exact fun _ _ _ h => h) (Or.inl ⟨by rfl, ?_⟩) (by assumption) ?_
            rotate_left 1
            · (intro w hSw; (try dsimp only at hSw); go_simp; try with_reducible rfl)
            try simp only [Act.put, List.setIfInBounds_toArray, List.set_cons_zero, List.set_cons_succ]
            refine wpAnyH_take (i := 2) (v := ?_) (by simp only [List.getElem?_toArray, List.getElem?_cons_succ, List.getElem?_cons_zero]; rfl) (by kernel_rfl) (by kernel_rfl) (by kernel_rfl) (by exact fun _ _ _ h => h) (Or.inl ⟨by rfl, ?_⟩) (by assumption) ?_
            rotate_left 1
            · (intro w hSw; (try dsimp only at hSw); go_simp; try with_reducible rfl)
            try simp only [Act.put, List.setIfInBounds_toArray, List.set_cons_zero, List.set_cons_succ]
            refine wpAnyH_take (i := 3) (v := ?_) (by simp only [List.getElem?_toArray, List.getElem?_cons_succ, List.getElem?_cons_zero]; rfl) (by kernel_rfl) (by kernel_rfl) (by kernel_rfl) (by exact fun _ _ _ h => h) (Or.inl ⟨by rfl, ?_⟩) (by assumption) ?_
            rotate_left 1
            · (intro w hSw; (try dsimp only at hSw); go_simp; try with_reducible rfl)
            try simp only [Act.put, List.setIfInBounds_toArray, List.set_cons_zero, List.set_cons_succ]
            refine wpAnyH_take (i := 4) (v := ?_) (by simp only [List.getElem?_toArray, List.getElem?_cons_succ, List.getElem?_cons_zero]; rfl) (by kernel_rfl) (by kernel_rfl) (by kernel_rfl) (by exact fun _ _ _ h => h) (Or.inl ⟨by rfl, ?_⟩) (by assumption) ?_
            rotate_left 1
            · (intro w hSw; (try dsimp only at hSw); go_simp; try with_reducible rfl)
            try simp only [Act.put, List.setIfInBounds_toArray, List.set_cons_zero, List.set_cons_succ]
            refine wpAnyH_take (i := 5) (v := ?_) (by simp only [List.getElem?_toArray, List.getElem?_cons_succ, List.getElem?_cons_zero]; rfl) (by kernel_rfl) (by kernel_rfl) (by kernel_rfl) (by exact fun _ _ _ h => h) (Or.inl ⟨by rfl, ?_⟩) (by assumption) ?_
            rotate_left 1
            · (intro w hSw; (try dsimp only at hSw); go_simp; try with_reducible rfl)
            try simp only [Act.put, List.setIfInBounds_toArray, List.set_cons_zero, List.set_cons_succ]
            refine wpAnyH_take (i := 6) (v := ?_) (by simp only [List.getElem?_toArray, List.getElem?_cons_succ, List.getElem?_cons_zero]; rfl) (by kernel_rfl) (by kernel_rfl) (by kernel_rfl) (by exact fun _ _ _ h => h) (Or.inl ⟨by rfl, ?_⟩) (by assumption) ?_
            rotate_left 1
            · (intro w hSw; (try dsimp only at hSw); go_simp; try with_reducible rfl)
            try simp only [Act.put, List.setIfInBounds_toArray, List.set_cons_zero, List.set_cons_succ]
            refine wpAnyH_take (i := 7) (v := ?_) (by simp only [List.getElem?_toArray, List.getElem?_cons_succ, List.getElem?_cons_zero]; rfl) (by kernel_rfl) (by kernel_rfl) (by kernel_rfl) (by exact fun _ _ _ h => h) (Or.inl ⟨by rfl, ?_⟩) (by assumption) ?_
            rotate_left 1
            · (intro w hSw; (try dsimp only at hSw); go_simp; try with_reducible rfl)
            try simp only [Act.put, List.setIfInBounds_toArray, List.set_cons_zero, List.set_cons_succ]
            refine wpAnyH_take (i := 8) (v := ?_) (by simp only [List.getElem?_toArray, List.getElem?_cons_succ, List.getElem?_cons_zero]; rfl) (by kernel_rfl) (by kernel_rfl) (by kernel_rfl) (by exact fun _ _ _ h => h) (Or.inl ⟨by rfl, ?_⟩) (by assumption) ?_
            rotate_left 1
            · (intro w hSw; (try dsimp only at hSw); go_simp; try with_reducible rfl)
            try simp only [Act.put, List.setIfInBounds_toArray, List.set_cons_zero, List.set_cons_succ]
            refine wpAnyH_take (i := 9) (v := ?_) (by simp only [List.getElem?_toArray, List.getElem?_cons_succ, List.getElem?_cons_zero]; rfl) (by kernel_rfl) (by kernel_rfl) (by kernel_rfl) (by exact fun _ _ _ h => h) (Or.inl ⟨by rfl, ?_⟩) (by assumption) ?_
            rotate_left 1
            · (intro w hSw; (try dsimp only at hSw); go_simp; try with_reducible rfl)
            try simp only [Act.put, List.setIfInBounds_toArray, List.set_cons_zero, List.set_cons_succ]
            refine wpAnyH_take (i := 10) (v := ?_) (by simp only [List.getElem?_toArray, List.getElem?_cons_succ, List.getElem?_cons_zero]; rfl) (by kernel_rfl) (by kernel_rfl) (by kernel_rfl) (by exact fun _ _ _ h => h) (Or.inl ⟨by rfl, ?_⟩) (by assumption) ?_
            rotate_left 1
            · (intro w hSw; (try dsimp only at hSw); go_simp; try with_reducible rfl)
            try simp only [Act.put, List.setIfInBounds_toArray, List.set_cons_zero, List.set_cons_succ]
            refine wpAnyH_take (i := 11) (v := ?_) (by simp only [List.getElem?_toArray, List.getElem?_cons_succ, List.getElem?_cons_zero]; rfl) (by kernel_rfl) (by kernel_rfl) (by kernel_rfl) (by exact fun _ _ _ h => h) (Or.inl ⟨by rfl, ?_⟩) (by assumption) ?_
            rotate_left 1
            · (intro w hSw; (try dsimp only at hSw); go_simp; try with_reducible rfl)
            try simp only [Act.put, List.setIfInBounds_toArray, List.set_cons_zero, List.set_cons_succ]
            refine wpAnyH_take (i := 12) (v := ?_) (by simp only [List.getElem?_toArray, List.getElem?_cons_succ, List.getElem?_cons_zero]; rfl) (by kernel_rfl) (by kernel_rfl) (by kernel_rfl) (by exact fun _ _ _ h => h) (Or.inl ⟨by rfl, ?_⟩) (by assumption) ?_
            rotate_left 1
            · (intro w hSw; (try dsimp only at hSw); go_simp; try with_reducible rfl)
            try simp only [Act.put, List.setIfInBounds_toArray, List.set_cons_zero, List.set_cons_succ]
            refine wpAnyH_take (i := 13) (v := ?_) (by simp only [List.getElem?_toArray, List.getElem?_cons_succ, List.getElem?_cons_zero]; rfl) (by kernel_rfl) (by kernel_rfl) (by kernel_rfl) (by exact fun _ _ _ h => h) (Or.inl ⟨by rfl, ?_⟩) (by assumption) ?_
            rotate_left 1
            · (intro w hSw; (try dsimp only at hSw); go_simp; try with_reducible rfl)
            try simp only [Act.put, List.setIfInBounds_toArray, List.set_cons_zero, List.set_cons_succ]
            refine wpAnyH_take (i := 14) (v := ?_) (by simp only [List.getElem?_toArray, List.getElem?_cons_succ, List.getElem?_cons_zero]; rfl) (by kernel_rfl) (by kernel_rfl) (by kernel_rfl) (by exact fun _ _ _ h => h) (Or.inl ⟨by rfl, ?_⟩) (by assumption) ?_
            rotate_left 1
            · (intro w hSw; (try dsimp only at hSw); go_simp; try with_reducible rfl)
            try simp only [Act.put, List.setIfInBounds_toArray, List.set_cons_zero, List.set_cons_succ]
            refine wpAnyH_take (i := 15) (v := ?_) (by simp only [List.getElem?_toArray, List.getElem?_cons_succ, List.getElem?_cons_zero]; rfl) (by kernel_rfl) (by kernel_rfl) (by kernel_rfl) (by exact fun _ _ _ h => h) (Or.inl ⟨by rfl, ?_⟩) (by assumption) ?_
            rotate_left 1
            · (intro w hSw; (try dsimp only at hSw); go_simp; try with_reducible rfl)
            try simp only [Act.put, List.setIfInBounds_toArray, List.set_cons_zero, List.set_cons_succ]
            refine wpAnyH_ready (rs := [16]) (by kernel_rfl) (by simp) ?_
            refine AllReadyH.cons (by simp only [List.getElem?_toArray, List.getElem?_cons_succ, List.getElem?_cons_zero]; rfl) (fun K hK => ?_) AllReadyH.nil
            go_simp
            (refine C2.out.mono ?_; rintro e w3 ⟨rfl, G3, hp3, ho3, hg3⟩; have HP3 := Lib.hid hp3; have HON3 := Lib.hid (Only.trans (HON.out.trans (Only.refl (fun _ => False) wr).drew (fun _ h _ => h)) ho3 (fun k hk hl => by have := HK.out k hk; omega)); have HK3 := Lib.hid (show ∀ k, G3 k → W0.heap.size ≤ k from fun k hk => by rcases hg3 k hk with e | e; exact HK.out k e; have := HON.out.size; have : wr.drew.heap.size = wr.heap.size := rfl; omega); clear hp3 ho3 hg3)
            go_wp2_with fail
            refine hK.out _ _ ?_ (fun hHeld2 => ?_)
            · exact HAT.out _ (HO0.out.trans HON3.out (fun _ h _ => h))
            clear hK K
            try simp only [Act.put, List.setIfInBounds_toArray, List.set_cons_zero, List.set_cons_succ]
            clear hHeld
            have hHeld := hHeld2
            clear hHeld2
            refine wpAnyH_done (by kernel_rfl) ?_ _
            clear hHeld hS
            go_wp2
            go_roundw
            case rel => exact ⟨j + 1, G3, _, by go_num, by omega, HP3, HK3, HON3⟩
            case measure => simp [intOf]; omega
      · have d60 : decide ((j : Int) < 60) = false := by simp only [decide_eq_false_iff_not]; omega
        have hjz : (j : Int) < (n : Int) := by omega
        as_aux_lemma =>
          have hok := @getZ_ok os r i
          have hput := @getZ_put os r i
          have hset : setZ os r i v = if (getZ os r i).2 = 0 then (if (getZ os r i).1.k = v.k then (putZ os r i v, 0) else (os, 1)) else (os, (getZ os r i).2) := rfl
          have hfew := HeapP.few HP.out
          have CG := Lib.hid (fun (W : World) (hq : HeapP W G p os 100) => progGetR hq r i)
          have CS := Lib.hid (fun (W : World) (hq : HeapP W G p os 100) => progSetR hq r i v)
          obtain ⟨g, hg⟩ : ∃ g, getZ os r i = g := ⟨_, rfl⟩
          rw [hg] at hok hput hset
          simp only [hg] at CG
          obtain ⟨a, ea⟩ := g
          simp only at hok hput hset CG
          unfold valVa at CG CS
          have HFEW := Lib.hid hfew
          clear hfew hg
          go_wp2_with (fail)
          refine (progAllR HP.out).mono ?_
          rintro e w3 ⟨vold, O, rfl, hold, ho3, hok3⟩
          have HOLD := Lib.hid hold
          have HO3 := Lib.hid ho3
          have HOK3 := Lib.hid hok3
          have HP3 := Lib.hid (HeapP.only HP.out ho3 (fun _ _ h => h))
          clear hold ho3 hok3
          obtain ⟨ov, oc, hovv⟩ : ∃ a c, vold = .slice a os.length c := by obtain ⟨zs, hz, he⟩ := HOLD.out.objs; obtain ⟨a, c, e, -⟩ := hz.1; exact ⟨a, c, by rw [e, ← he, List.length_map]⟩
          subst hovv
          go_wp2_with (fail)
          refine (CG.out _ HP3.out).mono ?_
          rintro e w4 ⟨rfl, ho4⟩
          have HO4 := Lib.hid ho4
          clear ho4
          have hal4 := (Only.refl (fun _ => False) w4).alloc (.cells #[.int .i64 a.k, .int .i64 a.n, .int .i64 a.r] 34)
          have hba := heap_alloc_new w4 (.cells #[.int .i64 a.k, .int .i64 a.n, .int .i64 a.r] 34)
          have HO34 := Lib.hid (HO4.out.trans hal4 (fun _ h _ => h))
          have hv4 := HO34.out.heap (HO3.out.heap (HON.out.heap HV.out (fun h => h)) (fun h => h)) (fun h => h)
          have HBA := Lib.hid hba
          have HV4 := Lib.hid hv4
          have HP4 := Lib.hid (HeapP.only HP3.out HO34.out (fun _ _ h => h))
          obtain ⟨t0, t1, t2⟩ := cells3V hv4
          clear hal4 hba hv4
          have HW3 := Lib.hid (HON.out.trans HO3.out (fun _ h _ => h))
          have HOL4 := Lib.hid (HOLD.out.only HO34.out (fun _ _ h => h))
          by_cases q : ea = 0
          · by_cases q2 : a.k = v.k
            · as_aux_lemma =>
                have HOL5lt := Lib.hid (show ∀ k, O k → ¬ (w4.alloc (.cells #[.int .i64 a.k, .int .i64 a.n, .int .i64 a.r] 34)).heap.size ≤ k from fun k hk hq => by obtain ⟨zs, hz, -⟩ := HOL4.out; have := hz.lt k hk; omega)
                rw [if_pos q, if_pos q2] at hset
                have dk : (a.k == v.k) = true := by simp [q2]
                obtain ⟨hr, g0, g1⟩ := hok q
                have hpv := hput q v
                subst q
                clear hok hput q2
                have CS2 := Lib.hid (CS.out _ HP4.out)
                rw [hset] at CS2
                clear hset CS
                go_wp2_with (fail)
                refine CS2.out.mono ?_
                rintro e w5 ⟨rfl, G5, hp5, ho5, hg5⟩
                have HP5 := Lib.hid hp5
                have HO5 := Lib.hid ho5
                have HG5 := Lib.hid hg5
                clear hp5 ho5 hg5 t0 t1 t2
                have HOL5 := Lib.hid (HOL4.out.only HO5.out (fun k hk hq => by have q1 := HOK3.out k hk; have q2 := HeapP.lt HP.out k hq; omega))
                have hv5 := HO5.out.heap HV4.out (show ¬ G w.heap.size from fun hq => by have := HK.out _ hq; have := HSZ.out; omega)
                have ha5 := HO5.out.heap HBA.out (show ¬ G w4.heap.size from fun hq => by have := HeapP.lt HP.out _ hq; have := HO3.out.size; have := HO4.out.size; omega)
                obtain ⟨t0, t1, t2⟩ := cells3V hv5
                obtain ⟨p0, p1, p2⟩ := cells3V ha5
                have HV5 := Lib.hid hv5
                have HFP := Lib.hid (HeapP.few HP5.out)
                clear hv5 ha5
                have CG2 := Lib.hid (progGetR HP5.out r i)
                rw [hpv] at CG2
                unfold valVa at CG2
                simp only at CG2
                clear hpv CG
                go_wp2_with (fail)
                refine CG2.out.mono ?_
                rintro e w6 ⟨rfl, ho6⟩
                clear t0 t1 t2 p0 p1 p2
                have hal6 := ho6.alloc (.cells #[.int .i64 v.k, .int .i64 v.n, .int .i64 v.r] 34)
                have hn6 := heap_alloc_new w6 (.cells #[.int .i64 v.k, .int .i64 v.n, .int .i64 v.r] 34)
                have hv6 := hal6.heap HV5.out (fun h => h)
                have HO6 := Lib.hid hal6
                have HOL6 := Lib.hid (HOL5.out.only hal6 (fun _ _ h => h))
                have HP6 := Lib.hid (HeapP.only HP5.out hal6 (fun _ _ h => h))
                obtain ⟨t0, t1, t2⟩ := cells3V hv6
                obtain ⟨p0, p1, p2⟩ := cells3V hn6
                clear ho6 hal6 hn6 hv6
                obtain ⟨zs, hz, hzo⟩ := HOL6.out
                have hzl : zs.length = os.length := by rw [← hzo, List.length_map]
                have hrz : isOb zs.length r = true := by rw [hzl]; exact hr
                have hr1 : 1 ≤ r ∧ r ≤ (zs.length : Int) := by simpa [isOb] using hrz
                have hri : obZ os r = (zs.getD (r.toNat - 1) default).o := by rw [← hzo]; exact ob_at (by omega)
                rw [hri] at g1
                replace g1 : i < ((zs.getD (r.toNat - 1) default).vs.length : Int) := g1
                obtain ⟨b, cp, g, c2, hL, hd, hGg, hi2, hri2, hc, hvv, hfz⟩ := hz.at_ hrz g0 g1
                have hput2 := hz.put hi2 hd (i := i.toNat) v rfl
                have hmap : (zs.set (r.toNat - 1) ⟨(zs.getD (r.toNat - 1) default).t, (zs.getD (r.toNat - 1) default).d, (zs.getD (r.toNat - 1) default).vs.set i.toNat v⟩).map ObX.o = putZ os r i v := by rw [putZ, hri, List.map_set, hzo]; rfl
                have HPUT := Lib.hid hput2
                have HMAP := Lib.hid hmap
                have HGG := Lib.hid hGg
                have y5 := hc 5 (by decide)
                have z0 := hvv 0 (by decide)
                have z1 := hvv 1 (by decide)
                have z2 := hvv 2 (by decide)
                simp only [cellsOx, cellsVa, List.getElem?_cons_zero, List.getElem?_cons_succ, Nat.add_zero, hd] at y5 z0 z1 z2
                have f0 := hfz (i.toNat * 3)
                have f1 := hfz (i.toNat * 3 + 1)
                have f2 := hfz (i.toNat * 3 + 2)
                have f3 := marks3V HV5.out
                injection hL with hL1 hL3 hL2
                clear hL3
                subst hL1 hL2
                have hk1 : (0 : Int) ≤ r - 1 := by omega
                have hk2 : r - 1 < (os.length : Int) := by omega
                have hw : wrap64 (r - 1) = r - 1 := IntWalk.wrap64_in _ (by have := HFEW.out.1; omega)
                have d1 : decide (r < 1) = false := by simp only [decide_eq_false_iff_not]; omega
                have d2 : decide ((os.length : Int) < r) = false := by simp only [decide_eq_false_iff_not]; omega
                have d3 : decide (i < 0) = false := by simp only [decide_eq_false_iff_not]; omega
                have d4 : decide (((zs.getD (r.toNat - 1) default).vs.length : Int) ≤ i) = false := by simp only [decide_eq_false_iff_not]; omega
                have n1 := neq_val v
                have gv := guard_val
                have HZ := Lib.hid hz
                generalize (zs.getD (r.toNat - 1) default).vs.length = ln at *
                clear hz hzo hzl hrz hr1 hri hd hGg hi2 hri2 hc hvv hfz hput2 hmap hr
                go_wp2
                go_region
                all_goals go_wp2_with (fail)
                have hst : Only O (w6.alloc (.cells #[.int .i64 v.k, .int .i64 v.n, .int .i64 v.r] 34)) (((((w6.alloc (.cells #[.int .i64 v.k, .int .i64 v.n, .int .i64 v.r] 34)).setCell ⟨g, i.toNat * 3, none⟩ (.int .i64 v.k)).setCell ⟨g, i.toNat * 3 + 1, none⟩ (.int .i64 v.n)).setCell ⟨g, i.toNat * 3 + 2, none⟩ (.int .i64 v.r)).drew) := by (refine Only.drew ?_; (iterate 3 (refine Only.setCell (S := O) ?_ (fun _ => HGG.out) _)); exact Only.refl _ _)
                have hol : ObjsO (((((w6.alloc (.cells #[.int .i64 v.k, .int .i64 v.n, .int .i64 v.r] 34)).setCell ⟨g, i.toNat * 3, none⟩ (.int .i64 v.k)).setCell ⟨g, i.toNat * 3 + 1, none⟩ (.int .i64 v.n)).setCell ⟨g, i.toNat * 3 + 2, none⟩ (.int .i64 v.r)).drew) O _ (putZ os r i v) := ⟨_, HPUT.out.only (S := fun _ => False) ((Only.refl _ _).drew) (fun _ _ h => h), HMAP.out⟩
                obtain ⟨w7, hw7⟩ : ∃ x, x = ((((w6.alloc (.cells #[.int .i64 v.k, .int .i64 v.n, .int .i64 v.r] 34)).setCell ⟨g, i.toNat * 3, none⟩ (.int .i64 v.k)).setCell ⟨g, i.toNat * 3 + 1, none⟩ (.int .i64 v.n)).setCell ⟨g, i.toNat * 3 + 2, none⟩ (.int .i64 v.r)).drew := ⟨_, rfl⟩
                rw [← hw7] at hst hol ⊢
                have HST := Lib.hid hst
                have HOL7 := Lib.hid hol.objs
                have hp7 : HeapP w7 G5 p (putZ os r i v) 100 := HeapP.only HP6.out hst (fun k hk ho => by have q1 := HOK3.out k ho; rcases HG5.out k hk with e | e; have := HeapP.lt HP.out k e; omega; exact HOL5lt.out k ho e)
                have HP7 := Lib.hid hp7
                clear hst hol hw7 hp7
                refine (progAllR HP7.out).mono ?_
                rintro e w8 ⟨v8, O8, rfl, hv8, hq8, -⟩
                have HV8 := Lib.hid hv8.objs
                have HQ8 := Lib.hid hq8
                clear hv8 hq8
                go_wp2_with (fail)
                have HB8 := Lib.hid (HOL7.out.none HQ8.out)
                have HFP1 := Lib.hid (show (putZ os r i v).length ≤ 1024 from HFP.out.1)
                have HFP2 := Lib.hid (show ∀ x ∈ putZ os r i v, x.vs.length ≤ 1024 from HFP.out.2)
                generalize putZ os r i v = oz at *
                refine (same14 _ _ oz _ HV8.out HB8.out HFP1.out HFP2.out).mono ?_
                rintro e w9 ⟨rfl, hq9⟩
                have HQ9 := Lib.hid (HQ8.out.trans hq9 (fun _ h _ => h))
                clear hq9
                go_wp2
                go_ret
                have B1 := Only.trans (HW3.out.trans HO34.out (fun _ h _ => h)) HO5.out (fun k hk hl => by have := HK.out k hk; omega)
                have B2 := Only.trans (B1.trans HO6.out (fun _ h _ => h)) HST.out (fun k hk hl => by have := HOK3.out k hk; have := HON.out.size; omega)
                exact ⟨rfl, (HO0.out.trans (B2.trans HQ9.out (fun _ h _ => h)) (fun _ h _ => h)).none⟩
            · as_aux_lemma =>
                rw [if_pos q, if_neg q2] at hset
                have dk : (a.k == v.k) = false := by rw [beq_eq_false_iff_ne]; exact q2
                subst q
                clear hok hput q2
                have CS2 := Lib.hid (CS.out _ HP4.out)
                rw [hset] at CS2
                clear hset CS
                go_wp2_with (fail)
                refine CS2.out.mono ?_
                rintro e w5 ⟨rfl, G5, hp5, ho5, hg5⟩
                have HP5 := Lib.hid hp5
                have HO5 := Lib.hid ho5
                have HG5 := Lib.hid hg5
                clear hp5 ho5 hg5 t0 t1 t2
                have HOL5 := Lib.hid (HOL4.out.only HO5.out (fun k hk hq => by have q1 := HOK3.out k hk; have q2 := HeapP.lt HP.out k hq; omega))
                have hv5 := HO5.out.heap HV4.out (show ¬ G w.heap.size from fun hq => by have := HK.out _ hq; have := HSZ.out; omega)
                have ha5 := HO5.out.heap HBA.out (show ¬ G w4.heap.size from fun hq => by have := HeapP.lt HP.out _ hq; have := HO3.out.size; have := HO4.out.size; omega)
                obtain ⟨t0, t1, t2⟩ := cells3V hv5
                obtain ⟨p0, p1, p2⟩ := cells3V ha5
                clear hv5 ha5
                go_wp2_with (fail)
                refine (progAllR (HP5.out)).mono ?_
                rintro e w6 ⟨v6, O6, rfl, hv6, hq6, -⟩
                have HV6 := Lib.hid hv6.objs
                have HQ6 := Lib.hid hq6
                clear hv6 hq6
                go_wp2_with (fail)
                refine (same14 _ _ os _ HV6.out (HOL5.out.objs.none HQ6.out) HFEW.out.1 HFEW.out.2).mono ?_
                rintro e w7 ⟨rfl, hq7⟩
                have HQ7 := Lib.hid (HQ6.out.trans hq7 (fun _ h _ => h))
                clear hq7
                go_wp2
                go_ret
                exact ⟨rfl, (HO0.out.trans (Only.trans (HW3.out.trans HO34.out (fun _ h _ => h)) (HO5.out.trans HQ7.out (fun _ h _ => h.elim)) (fun k hk hl => by have := HK.out k hk; omega)) (fun _ h _ => h)).none⟩
          · as_aux_lemma =>
              rw [if_neg q] at hset
              have dq : (ea == 0) = false := by rw [beq_eq_false_iff_ne]; exact q
              clear hok hput q
              have CS2 := Lib.hid (CS.out _ HP4.out)
              rw [hset] at CS2
              clear hset CS
              go_wp2_with (fail)
              refine CS2.out.mono ?_
              rintro e w5 ⟨rfl, G5, hp5, ho5, hg5⟩
              have HP5 := Lib.hid hp5
              have HO5 := Lib.hid ho5
              have HG5 := Lib.hid hg5
              clear hp5 ho5 hg5 t0 t1 t2
              have HOL5 := Lib.hid (HOL4.out.only HO5.out (fun k hk hq => by have q1 := HOK3.out k hk; have q2 := HeapP.lt HP.out k hq; omega))
              go_wp2_with (fail)
              refine (progAllR (HP5.out)).mono ?_
              rintro e w6 ⟨v6, O6, rfl, hv6, hq6, -⟩
              have HV6 := Lib.hid hv6.objs
              have HQ6 := Lib.hid hq6
              clear hv6 hq6
              go_wp2_with (fail)
              refine (same14 _ _ os _ HV6.out (HOL5.out.objs.none HQ6.out) HFEW.out.1 HFEW.out.2).mono ?_
              rintro e w7 ⟨rfl, hq7⟩
              have HQ7 := Lib.hid (HQ6.out.trans hq7 (fun _ h _ => h))
              clear hq7
              go_wp2_with (fail)
              refine (AW.out _).mono ?_
              rintro e w8 ⟨rfl, hq8⟩
              have HQ8 := Lib.hid (HQ7.out.trans hq8 (fun _ h _ => h))
              clear hq8
              go_wp2
              go_ret
              exact ⟨rfl, (HO0.out.trans (Only.trans (HW3.out.trans HO34.out (fun _ h _ => h)) (HO5.out.trans HQ8.out (fun _ h _ => h.elim)) (fun k hk hl => by have := HK.out k hk; omega)) (fun _ h _ => h)).none⟩
    · have hnj : ¬ ((j : Int) < (n : Int)) := by omega
      as_aux_lemma =>
        have hok := @getZ_ok os r i
        have hput := @getZ_put os r i
        have hset : setZ os r i v = if (getZ os r i).2 = 0 then (if (getZ os r i).1.k = v.k then (putZ os r i v, 0) else (os, 1)) else (os, (getZ os r i).2) := rfl
        have hfew := HeapP.few HP.out
        have CG := Lib.hid (fun (W : World) (hq : HeapP W G p os 100) => progGetR hq r i)
        have CS := Lib.hid (fun (W : World) (hq : HeapP W G p os 100) => progSetR hq r i v)
        obtain ⟨g, hg⟩ : ∃ g, getZ os r i = g := ⟨_, rfl⟩
        rw [hg] at hok hput hset
        simp only [hg] at CG
        obtain ⟨a, ea⟩ := g
        simp only at hok hput hset CG
        unfold valVa at CG CS
        have HFEW := Lib.hid hfew
        clear hfew hg
        go_wp2_with (fail)
        refine (progAllR HP.out).mono ?_
        rintro e w3 ⟨vold, O, rfl, hold, ho3, hok3⟩
        have HOLD := Lib.hid hold
        have HO3 := Lib.hid ho3
        have HOK3 := Lib.hid hok3
        have HP3 := Lib.hid (HeapP.only HP.out ho3 (fun _ _ h => h))
        clear hold ho3 hok3
        obtain ⟨ov, oc, hovv⟩ : ∃ a c, vold = .slice a os.length c := by obtain ⟨zs, hz, he⟩ := HOLD.out.objs; obtain ⟨a, c, e, -⟩ := hz.1; exact ⟨a, c, by rw [e, ← he, List.length_map]⟩
        subst hovv
        go_wp2_with (fail)
        refine (CG.out _ HP3.out).mono ?_
        rintro e w4 ⟨rfl, ho4⟩
        have HO4 := Lib.hid ho4
        clear ho4
        have hal4 := (Only.refl (fun _ => False) w4).alloc (.cells #[.int .i64 a.k, .int .i64 a.n, .int .i64 a.r] 34)
        have hba := heap_alloc_new w4 (.cells #[.int .i64 a.k, .int .i64 a.n, .int .i64 a.r] 34)
        have HO34 := Lib.hid (HO4.out.trans hal4 (fun _ h _ => h))
        have hv4 := HO34.out.heap (HO3.out.heap (HON.out.heap HV.out (fun h => h)) (fun h => h)) (fun h => h)
        have HBA := Lib.hid hba
        have HV4 := Lib.hid hv4
        have HP4 := Lib.hid (HeapP.only HP3.out HO34.out (fun _ _ h => h))
        obtain ⟨t0, t1, t2⟩ := cells3V hv4
        clear hal4 hba hv4
        have HW3 := Lib.hid (HON.out.trans HO3.out (fun _ h _ => h))
        have HOL4 := Lib.hid (HOLD.out.only HO34.out (fun _ _ h => h))
        by_cases q : ea = 0
        · by_cases q2 : a.k = v.k
          · as_aux_lemma =>
              have HOL5lt := Lib.hid (show ∀ k, O k → ¬ (w4.alloc (.cells #[.int .i64 a.k, .int .i64 a.n, .int .i64 a.r] 34)).heap.size ≤ k from fun k hk hq => by obtain ⟨zs, hz, -⟩ := HOL4.out; have := hz.lt k hk; omega)
              rw [if_pos q, if_pos q2] at hset
              have dk : (a.k == v.k) = true := by simp [q2]
              obtain ⟨hr, g0, g1⟩ := hok q
              have hpv := hput q v
              subst q
              clear hok hput q2
              have CS2 := Lib.hid (CS.out _ HP4.out)
              rw [hset] at CS2
              clear hset CS
              go_wp2_with (fail)
              refine CS2.out.mono ?_
              rintro e w5 ⟨rfl, G5, hp5, ho5, hg5⟩
              have HP5 := Lib.hid hp5
              have HO5 := Lib.hid ho5
              have HG5 := Lib.hid hg5
              clear hp5 ho5 hg5 t0 t1 t2
              have HOL5 := Lib.hid (HOL4.out.only HO5.out (fun k hk hq => by have q1 := HOK3.out k hk; have q2 := HeapP.lt HP.out k hq; omega))
              have hv5 := HO5.out.heap HV4.out (show ¬ G w.heap.size from fun hq => by have := HK.out _ hq; have := HSZ.out; omega)
              have ha5 := HO5.out.heap HBA.out (show ¬ G w4.heap.size from fun hq => by have := HeapP.lt HP.out _ hq; have := HO3.out.size; have := HO4.out.size; omega)
              obtain ⟨t0, t1, t2⟩ := cells3V hv5
              obtain ⟨p0, p1, p2⟩ := cells3V ha5
              have HV5 := Lib.hid hv5
              have HFP := Lib.hid (HeapP.few HP5.out)
              clear hv5 ha5
              have CG2 := Lib.hid (progGetR HP5.out r i)
              rw [hpv] at CG2
              unfold valVa at CG2
              simp only at CG2
              clear hpv CG
              go_wp2_with (fail)
              refine CG2.out.mono ?_
              rintro e w6 ⟨rfl, ho6⟩
              clear t0 t1 t2 p0 p1 p2
              have hal6 := ho6.alloc (.cells #[.int .i64 v.k, .int .i64 v.n, .int .i64 v.r] 34)
              have hn6 := heap_alloc_new w6 (.cells #[.int .i64 v.k, .int .i64 v.n, .int .i64 v.r] 34)
              have hv6 := hal6.heap HV5.out (fun h => h)
              have HO6 := Lib.hid hal6
              have HOL6 := Lib.hid (HOL5.out.only hal6 (fun _ _ h => h))
              have HP6 := Lib.hid (HeapP.only HP5.out hal6 (fun _ _ h => h))
              obtain ⟨t0, t1, t2⟩ := cells3V hv6
              obtain ⟨p0, p1, p2⟩ := cells3V hn6
              clear ho6 hal6 hn6 hv6
              obtain ⟨zs, hz, hzo⟩ := HOL6.out
              have hzl : zs.length = os.length := by rw [← hzo, List.length_map]
              have hrz : isOb zs.length r = true := by rw [hzl]; exact hr
              have hr1 : 1 ≤ r ∧ r ≤ (zs.length : Int) := by simpa [isOb] using hrz
              have hri : obZ os r = (zs.getD (r.toNat - 1) default).o := by rw [← hzo]; exact ob_at (by omega)
              rw [hri] at g1
              replace g1 : i < ((zs.getD (r.toNat - 1) default).vs.length : Int) := g1
              obtain ⟨b, cp, g, c2, hL, hd, hGg, hi2, hri2, hc, hvv, hfz⟩ := hz.at_ hrz g0 g1
              have hput2 := hz.put hi2 hd (i := i.toNat) v rfl
              have hmap : (zs.set (r.toNat - 1) ⟨(zs.getD (r.toNat - 1) default).t, (zs.getD (r.toNat - 1) default).d, (zs.getD (r.toNat - 1) default).vs.set i.toNat v⟩).map ObX.o = putZ os r i v := by rw [putZ, hri, List.map_set, hzo]; rfl
              have HPUT := Lib.hid hput2
              have HMAP := Lib.hid hmap
              have HGG := Lib.hid hGg
              have y5 := hc 5 (by decide)
              have z0 := hvv 0 (by decide)
              have z1 := hvv 1 (by decide)
              have z2 := hvv 2 (by decide)
              simp only [cellsOx, cellsVa, List.getElem?_cons_zero, List.getElem?_cons_succ, Nat.add_zero, hd] at y5 z0 z1 z2
              have f0 := hfz (i.toNat * 3)
              have f1 := hfz (i.toNat * 3 + 1)
              have f2 := hfz (i.toNat * 3 + 2)
              have f3 := marks3V HV5.out
              injection hL with hL1 hL3 hL2
              clear hL3
              subst hL1 hL2
              have hk1 : (0 : Int) ≤ r - 1 := by omega
              have hk2 : r - 1 < (os.length : Int) := by omega
              have hw : wrap64 (r - 1) = r - 1 := IntWalk.wrap64_in _ (by have := HFEW.out.1; omega)
              have d1 : decide (r < 1) = false := by simp only [decide_eq_false_iff_not]; omega
              have d2 : decide ((os.length : Int) < r) = false := by simp only [decide_eq_false_iff_not]; omega
              have d3 : decide (i < 0) = false := by simp only [decide_eq_false_iff_not]; omega
              have d4 : decide (((zs.getD (r.toNat - 1) default).vs.length : Int) ≤ i) = false := by simp only [decide_eq_false_iff_not]; omega
              have n1 := neq_val v
              have gv := guard_val
              have HZ := Lib.hid hz
              generalize (zs.getD (r.toNat - 1) default).vs.length = ln at *
              clear hz hzo hzl hrz hr1 hri hd hGg hi2 hri2 hc hvv hfz hput2 hmap hr
              go_wp2
              go_region
              all_goals go_wp2_with (fail)
              have hst : Only O (w6.alloc (.cells #[.int .i64 v.k, .int .i64 v.n, .int .i64 v.r] 34)) (((((w6.alloc (.cells #[.int .i64 v.k, .int .i64 v.n, .int .i64 v.r] 34)).setCell ⟨g, i.toNat * 3, none⟩ (.int .i64 v.k)).setCell ⟨g, i.toNat * 3 + 1, none⟩ (.int .i64 v.n)).setCell ⟨g, i.toNat * 3 + 2, none⟩ (.int .i64 v.r)).drew) := by (refine Only.drew ?_; (iterate 3 (refine Only.setCell (S := O) ?_ (fun _ => HGG.out) _)); exact Only.refl _ _)
              have hol : ObjsO (((((w6.alloc (.cells #[.int .i64 v.k, .int .i64 v.n, .int .i64 v.r] 34)).setCell ⟨g, i.toNat * 3, none⟩ (.int .i64 v.k)).setCell ⟨g, i.toNat * 3 + 1, none⟩ (.int .i64 v.n)).setCell ⟨g, i.toNat * 3 + 2, none⟩ (.int .i64 v.r)).drew) O _ (putZ os r i v) := ⟨_, HPUT.out.only (S := fun _ => False) ((Only.refl _ _).drew) (fun _ _ h => h), HMAP.out⟩
              obtain ⟨w7, hw7⟩ : ∃ x, x = ((((w6.alloc (.cells #[.int .i64 v.k, .int .i64 v.n, .int .i64 v.r] 34)).setCell ⟨g, i.toNat * 3, none⟩ (.int .i64 v.k)).setCell ⟨g, i.toNat * 3 + 1, none⟩ (.int .i64 v.n)).setCell ⟨g, i.toNat * 3 + 2, none⟩ (.int .i64 v.r)).drew := ⟨_, rfl⟩
              rw [← hw7] at hst hol ⊢
              have HST := Lib.hid hst
              have HOL7 := Lib.hid hol.objs
              have hp7 : HeapP w7 G5 p (putZ os r i v) 100 := HeapP.only HP6.out hst (fun k hk ho => by have q1 := HOK3.out k ho; rcases HG5.out k hk with e | e; have := HeapP.lt HP.out k e; omega; exact HOL5lt.out k ho e)
              have HP7 := Lib.hid hp7
              clear hst hol hw7 hp7
              refine (progAllR HP7.out).mono ?_
              rintro e w8 ⟨v8, O8, rfl, hv8, hq8, -⟩
              have HV8 := Lib.hid hv8.objs
              have HQ8 := Lib.hid hq8
              clear hv8 hq8
              go_wp2_with (fail)
              have HB8 := Lib.hid (HOL7.out.none HQ8.out)
              have HFP1 := Lib.hid (show (putZ os r i v).length ≤ 1024 from HFP.out.1)
              have HFP2 := Lib.hid (show ∀ x ∈ putZ os r i v, x.vs.length ≤ 1024 from HFP.out.2)
              generalize putZ os r i v = oz at *
              refine (same14 _ _ oz _ HV8.out HB8.out HFP1.out HFP2.out).mono ?_
              rintro e w9 ⟨rfl, hq9⟩
              have HQ9 := Lib.hid (HQ8.out.trans hq9 (fun _ h _ => h))
              clear hq9
              go_wp2
              go_ret
              have B1 := Only.trans (HW3.out.trans HO34.out (fun _ h _ => h)) HO5.out (fun k hk hl => by have := HK.out k hk; omega)
              have B2 := Only.trans (B1.trans HO6.out (fun _ h _ => h)) HST.out (fun k hk hl => by have := HOK3.out k hk; have := HON.out.size; omega)
              exact ⟨rfl, (HO0.out.trans (B2.trans HQ9.out (fun _ h _ => h)) (fun _ h _ => h)).none⟩
          · as_aux_lemma =>
              rw [if_pos q, if_neg q2] at hset
              have dk : (a.k == v.k) = false := by rw [beq_eq_false_iff_ne]; exact q2
              subst q
              clear hok hput q2
              have CS2 := Lib.hid (CS.out _ HP4.out)
              rw [hset] at CS2
              clear hset CS
              go_wp2_with (fail)
              refine CS2.out.mono ?_
              rintro e w5 ⟨rfl, G5, hp5, ho5, hg5⟩
              have HP5 := Lib.hid hp5
              have HO5 := Lib.hid ho5
              have HG5 := Lib.hid hg5
              clear hp5 ho5 hg5 t0 t1 t2
              have HOL5 := Lib.hid (HOL4.out.only HO5.out (fun k hk hq => by have q1 := HOK3.out k hk; have q2 := HeapP.lt HP.out k hq; omega))
              have hv5 := HO5.out.heap HV4.out (show ¬ G w.heap.size from fun hq => by have := HK.out _ hq; have := HSZ.out; omega)
              have ha5 := HO5.out.heap HBA.out (show ¬ G w4.heap.size from fun hq => by have := HeapP.lt HP.out _ hq; have := HO3.out.size; have := HO4.out.size; omega)
              obtain ⟨t0, t1, t2⟩ := cells3V hv5
              obtain ⟨p0, p1, p2⟩ := cells3V ha5
              clear hv5 ha5
              go_wp2_with (fail)
              refine (progAllR (HP5.out)).mono ?_
              rintro e w6 ⟨v6, O6, rfl, hv6, hq6, -⟩
              have HV6 := Lib.hid hv6.objs
              have HQ6 := Lib.hid hq6
              clear hv6 hq6
              go_wp2_with (fail)
              refine (same14 _ _ os _ HV6.out (HOL5.out.objs.none HQ6.out) HFEW.out.1 HFEW.out.2).mono ?_
              rintro e w7 ⟨rfl, hq7⟩
              have HQ7 := Lib.hid (HQ6.out.trans hq7 (fun _ h _ => h))
              clear hq7
              go_wp2
              go_ret
              exact ⟨rfl, (HO0.out.trans (Only.trans (HW3.out.trans HO34.out (fun _ h _ => h)) (HO5.out.trans HQ7.out (fun _ h _ => h.elim)) (fun k hk hl => by have := HK.out k hk; omega)) (fun _ h _ => h)).none⟩
        · as_aux_lemma =>
            rw [if_neg q] at hset
            have dq : (ea == 0) = false := by rw [beq_eq_false_iff_ne]; exact q
            clear hok hput q
            have CS2 := Lib.hid (CS.out _ HP4.out)
            rw [hset] at CS2
            clear hset CS
            go_wp2_with (fail)
            refine CS2.out.mono ?_
            rintro e w5 ⟨rfl, G5, hp5, ho5, hg5⟩
            have HP5 := Lib.hid hp5
            have HO5 := Lib.hid ho5
            have HG5 := Lib.hid hg5
            clear hp5 ho5 hg5 t0 t1 t2
            have HOL5 := Lib.hid (HOL4.out.only HO5.out (fun k hk hq => by have q1 := HOK3.out k hk; have q2 := HeapP.lt HP.out k hq; omega))
            go_wp2_with (fail)
            refine (progAllR (HP5.out)).mono ?_
            rintro e w6 ⟨v6, O6, rfl, hv6, hq6, -⟩
            have HV6 := Lib.hid hv6.objs
            have HQ6 := Lib.hid hq6
            clear hv6 hq6
            go_wp2_with (fail)
            refine (same14 _ _ os _ HV6.out (HOL5.out.objs.none HQ6.out) HFEW.out.1 HFEW.out.2).mono ?_
            rintro e w7 ⟨rfl, hq7⟩
            have HQ7 := Lib.hid (HQ6.out.trans hq7 (fun _ h _ => h))
            clear hq7
            go_wp2_with (fail)
            refine (AW.out _).mono ?_
            rintro e w8 ⟨rfl, hq8⟩
            have HQ8 := Lib.hid (HQ7.out.trans hq8 (fun _ h _ => h))
            clear hq8
            go_wp2
            go_ret
            exact ⟨rfl, (HO0.out.trans (Only.trans (HW3.out.trans HO34.out (fun _ h _ => h)) (HO5.out.trans HQ8.out (fun _ h _ => h.elim)) (fun k hk hl => by have := HK.out k hk; omega)) (fun _ h _ => h)).none⟩

theorem own : ownKnob Try.prog.godebug = none := by kernel_rfl
theorem laidOut : laidOutB Try.prog = true := by kernel_rfl

set_option maxRecDepth 100000 in
theorem lifted (os : Os) (started : os.Started) (H : Type) (enc : TypeId × Value → H) :
    ReturnsInHanded {} Try.checked os 5 .any (Rows.heapSetsSpec.pre6 enc Try.prog Try.f5 Rows.heapSetsRow.domain false) (Rows.heapSetsSpec.post enc Try.prog Try.f5 false true false false) := by
  refine returnsInHanded_of_change_sized (C := Try.checked) own started (by kernel_rfl) Try.func5
    (ChangeSpec.witness6 (enc := enc) (C := Try.checked) false ⟨#[], #[.slice none 0 0, .int .i64 0, .int .i64 0, .agg #[.int .i64 0, .int .i64 0, .int .i64 0]], []⟩ 8 (by kernel_rfl) (by kernel_rfl) (by kernel_rfl) (by kernel_rfl)) ?_
  intro W base args ds gs before hval0 hW hcnd hsz0 _
  have hsz : (DataW.weightsEach Try.prog (Try.f5.params.toList ++ Rows.heapSetsSpec.plain.varTypes Try.prog) (ds ++ gs)).all (· ≤ reachBytes) = true := hsz0
  clear hsz0
  have hval : ∀ (j : Nat) t v, Try.f5.params[j]? = some t → args[j]? = some v → Value.okWide Try.prog W .any base t v := hval0
  have hW' := hW
  obtain ⟨p, q, hA0, hV, rfl, hfz, hnd⟩ := hW
  have hA : DataW.TrodAll enc Try.prog W 0 (fun _ => true) true Try.f5.params.toList args.toList ds p := hA0
  rw [Try.params5] at hA hval hsz
  obtain ⟨v0, vs0, d0, ds0, p0, q0, hargs, rfl, rfl, h0, r0⟩ := trodAll_cons hA
  obtain ⟨v1, vs1, d1, ds1, p1, q1, rfl, rfl, rfl, h1, r1⟩ := trodAll_cons r0
  obtain ⟨v2, vs2, d2, ds2, p2, q2, rfl, rfl, rfl, h2, r2⟩ := trodAll_cons r1
  obtain ⟨v3, vs3, d3, ds3, p3, q3, rfl, rfl, rfl, h3, r3⟩ := trodAll_cons r2
  obtain ⟨rfl, rfl, rfl⟩ := trodAll_nil r3
  obtain rfl : args = #[v0, v1, v2, v3] := by cases args; simp_all
  obtain ⟨rfl, rfl⟩ := trodVars_none hV
  have k0 := h0
  have lt0 : ∀ x ∈ p0, x.block < W.heap.size := by obtain ⟨m, hm⟩ := k0; exact DataW.trod_lt m _ _ _ hm
  have w0 := arg_ops14 (hval 0 22 v0 rfl rfl) h0 (light_arg (j := 0) hsz rfl rfl)
  obtain ⟨a1, rfl, rfl, rfl, w1⟩ := open_int Try.underlying3 (hval 1 3 v1 rfl rfl) h1
  obtain ⟨a2, rfl, rfl, rfl, w2⟩ := open_int Try.underlying3 (hval 2 3 v2 rfl rfl) h2
  have k3 := h3
  have lt3 : ∀ x ∈ p3, x.block < W.heap.size := by obtain ⟨m, hm⟩ := k3; exact DataW.trod_lt m _ _ _ hm
  have w3 := arg_val14 (hval 3 34 v3 rfl rfl) h3 (light_arg (j := 3) hsz rfl rfl)
  clear hA0 hval0
  refine (walk v0 a1 a2 v3 W w0 w1 w2 w3).mono fun e W' ⟨he, bel⟩ => ?_
  subst he
  exact ⟨_, rfl, _, _, _, [], _, [], hW', trodAll_mk1 (shut_bool Try.underlying4 _), (trodAll_cons_mk (Below.trod laidOut (by kernel_rfl) (of_decide_eq_true (by kernel_rfl)) k0 bel lt0) (trodAll_cons_mk (shut_int Try.underlying3 w1) (trodAll_cons_mk (shut_int Try.underlying3 w2) (trodAll_cons_mk (Below.trod laidOut (by kernel_rfl) (of_decide_eq_true (by kernel_rfl)) k3 bel lt3) trodAll_mk0)))), rfl, bel.frame _, fun h => by cases h⟩

theorem over : Rows.heapSetsRow.holds Try.pinned (OpenSpec.ofChange Rows.heapSetsSpec) :=
  OpenClaim.holds_of_wide 5 Try.f5 rfl rfl rfl rfl rfl rfl rfl ⟨rfl, rfl, rfl, rfl, rfl⟩ rfl rfl rfl rfl rfl (by kernel_rfl) Try.func5 (by kernel_rfl)
    (of_decide_eq_true (by kernel_rfl)) (by unfold Func.isWrapper; first | (rw [if_pos (by decide +kernel)]; kernel_rfl) | (rw [if_neg (by decide +kernel)]; exact ⟨rfl, rfl⟩))
    (fun os started H enc _ => lifted os started H enc)

theorem proved : Rows.HeapSetsSaid := over
#print axioms proved
end Go.Proofs.Ytebeoganblcblaa.heapSets
