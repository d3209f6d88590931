/- PROVED: the law HeapPlays: under any script of calls the program's heap answers as the document's own; the arguments read as before. For every input. No condition. -/
import Derived.Test.YtebeoganblcblaaHpV
import Derived.Test.YtebeoganblcblaaHpU
import Derived.ProofKit
import Derived.ShutString
import Derived.ChangeOld
import Derived.Below
import Derived.SizedLaws
import Derived.PinnedBridge
import Derived.Deep.CondSized
import Derived.Deep.RegionHeld3
namespace Go.Proofs.Ytebeoganblcblaa.heapPlays
open Go.ChangeShapes Go.WideShapes Go.ChangeAt Go.RowKit
set_option linter.unusedVariables false
set_option linter.unusedSimpArgs false

set_option maxHeartbeats 16000000 in
set_option maxRecDepth 100000 in
theorem walk (a0 : Int) (v1 : Value) (w : World) (w0 : (Lit.int .i64 a0).wf = true) (w1 : ∃ xs, Ops14 w v1 xs ∧ xs.length ≤ 140737488351232) :
    Calls Try.prog 3 #[.int .i64 a0, v1] w fun e w' => e = .returned (.bool true) ∧ Below w.heap.size w w' := by
  obtain ⟨xs, hx, hlen⟩ := w1
  obtain ⟨ao, cap, rfl, -⟩ := id hx.1
  have HX := Lib.hid hx
  have HLEN := Lib.hid hlen
  clear hx hlen w0
  have AW := Lib.hid awake14
  by_cases hm : a0 < 0 ∨ 1024 < a0
  · have C1 := Lib.hid (fun W => progNewBad a0 hm W)
    have C2 := Lib.hid (fun W => refNewBad a0 hm W)
    clear hm
    go_enter Try.func3, Try.ntmps3
    go_wp2_with (fail)
    refine (C1.out _).mono ?_
    rintro e w1 ⟨rfl, h1⟩
    have HO1 := Lib.hid h1
    clear h1
    go_wp2_with (fail)
    refine (C2.out _).mono ?_
    rintro e w2 ⟨rfl, h2⟩
    subst h2
    go_wp2
    go_loopw [9] (fun iv wr => iv = .int .i64 0 ∧ wr = w1) (fun _ _ => 0)
    case atStart => exact ⟨rfl, rfl⟩
    case round =>
      obtain ⟨rfl, rfl⟩ := hrel
      go_wp2_with (fail)
      refine (AW.out _).mono ?_
      rintro e w3 ⟨rfl, h3⟩
      have HO3 := Lib.hid h3
      clear h3
      go_wp2
      go_ret
      exact ⟨rfl, (HO1.out.trans HO3.out (fun _ h _ => h)).none⟩
  have hm0 : 0 ≤ a0 := by omega
  have hm1 : a0 ≤ 1024 := by omega
  have C1 := Lib.hid (fun W => progNew14 a0 hm0 hm1 W)
  have C2 := Lib.hid (fun W => refNew14 a0 hm0 hm1 W)
  clear hm hm0 hm1
  go_enter Try.func3, Try.ntmps3
  go_wp2_with (fail)
  refine (C1.out _).mono ?_
  rintro e w1 ⟨p, G, rfl, hp1, ho1, hg1⟩
  have H1 := Lib.hid hp1
  have HO1 := Lib.hid ho1
  have HG1 := Lib.hid hg1
  clear hp1 ho1 hg1
  go_wp2_with (fail)
  refine (C2.out _).mono ?_
  rintro e w2 ⟨rfl, hr2, ho2⟩
  have HBO := Lib.hid (show Both14 w2 G (fun k => k = w1.heap.size) p w1.heap.size [] a0 from ⟨HeapP.only H1.out ho2 (fun _ _ h => h), hr2, fun k hk e => by have := HeapP.lt H1.out k hk; omega⟩)
  have HK := Lib.hid (show ∀ k, G k ∨ k = w1.heap.size → w.heap.size ≤ k from fun k hk => hk.elim (HG1.out k) (fun e => by have := HO1.out.size; omega))
  have HO2 := Lib.hid (HO1.out.trans ho2 (fun _ h _ => h))
  generalize w1.heap.size = q at *
  clear hr2 ho2
  obtain ⟨n, hn⟩ : ∃ n, xs.length = n := ⟨_, rfl⟩
  have HN := Lib.hid hn
  rw [hn]
  clear hn
  go_wp2
  go_loopw [9] (fun iv wr => ∃ (j : Nat) (G H : Nat → Prop) (os : List ObjV), iv = .int .i64 j ∧ j ≤ n ∧ Hid (Both14 wr G H p q os a0) ∧ Hid (∀ k, G k ∨ H k → w.heap.size ≤ k) ∧ Hid (Only (fun _ => False) w wr)) (fun iv _ => n - (intOf iv).toNat)
  case atStart => exact ⟨0, _, _, _, rfl, Nat.zero_le _, HBO, HK, HO2⟩
  case round =>
    obtain ⟨j, G, H, os, rfl, hj, HB, HKK, HON⟩ := hrel
    have hn9 : n ≤ 140737488351232 := by have := HLEN.out; rw [HN.out] at this; exact this
    by_cases hlt : j < n
    · have hjz : (j : Int) < (n : Int) := by omega
      have hj0 : (0 : Int) ≤ (j : Int) := by omega
      obtain ⟨x, hxe⟩ : ∃ x, x = xs.getD j default := ⟨_, rfl⟩
      obtain ⟨b9, o9, rfl, hat0⟩ := Sl.at (by have := HX.out.1; rw [HN.out] at this; exact this) hlt
      rw [← hxe] at hat0
      have hat := hat0.only (HON.out.trans (Only.refl (fun _ => False) wr).drew (fun _ h _ => h))
      have hty : Types w x.dv x.data := HX.out.2 x (by rw [hxe, show xs.getD j default = xs[j]'(by rw [HN.out]; exact hlt) from by simp [List.getD, HN.out, hlt]]; exact List.getElem_mem _)
      have hbd := HB.out.only (Only.refl (fun _ => False) wr).drew (fun _ _ h => h)
      have CP := Lib.hid (play14 hbd x (fun W hW => Types.far hty (HON.out.trans (Only.refl (fun _ => False) wr).drew (fun _ h _ => h)) hW (fun k hk hg => by have := HKK.out k (.inl hg); omega)))
      have hS : (fun wc : World => wc.cell? ⟨b9, o9 + j * 17, none⟩ = some (.int .i64 x.what) ∧ wc.cell? ⟨b9, o9 + j * 17 + 1, none⟩ = some (.int .i64 x.t.k) ∧ wc.cell? ⟨b9, o9 + j * 17 + 2, none⟩ = some (.string x.t.name) ∧ wc.cell? ⟨b9, o9 + j * 17 + 3, none⟩ = some (.int .i64 x.t.dims) ∧ wc.cell? ⟨b9, o9 + j * 17 + 4, none⟩ = some (.int .i64 x.t.elem) ∧ wc.cell? ⟨b9, o9 + j * 17 + 5, none⟩ = some (.int .i64 x.t.at_) ∧ wc.cell? ⟨b9, o9 + j * 17 + 6, none⟩ = some (.int .i64 x.of.k) ∧ wc.cell? ⟨b9, o9 + j * 17 + 7, none⟩ = some (.string x.of.name) ∧ wc.cell? ⟨b9, o9 + j * 17 + 8, none⟩ = some (.int .i64 x.of.dims) ∧ wc.cell? ⟨b9, o9 + j * 17 + 9, none⟩ = some (.int .i64 x.of.elem) ∧ wc.cell? ⟨b9, o9 + j * 17 + 10, none⟩ = some (.int .i64 x.of.at_) ∧ wc.cell? ⟨b9, o9 + j * 17 + 11, none⟩ = some (.int .i64 x.n) ∧ wc.cell? ⟨b9, o9 + j * 17 + 12, none⟩ = some (.int .i64 x.i) ∧ wc.cell? ⟨b9, o9 + j * 17 + 13, none⟩ = some (.int .i64 x.v.k) ∧ wc.cell? ⟨b9, o9 + j * 17 + 14, none⟩ = some (.int .i64 x.v.n) ∧ wc.cell? ⟨b9, o9 + j * 17 + 15, none⟩ = some (.int .i64 x.v.r) ∧ wc.cell? ⟨b9, o9 + j * 17 + 16, none⟩ = some (x.dv)) wr.drew := ⟨hat.c0, hat.c1, hat.c2, hat.c3, hat.c4, hat.c5, hat.c6, hat.c7, hat.c8, hat.c9, hat.c10, hat.c11, hat.c12, hat.c13, hat.c14, hat.c15, hat.c16⟩
      have HAT := Lib.hid (show ∀ W, Only (fun _ => False) w W → (fun wc : World => wc.cell? ⟨b9, o9 + j * 17, none⟩ = some (.int .i64 x.what) ∧ wc.cell? ⟨b9, o9 + j * 17 + 1, none⟩ = some (.int .i64 x.t.k) ∧ wc.cell? ⟨b9, o9 + j * 17 + 2, none⟩ = some (.string x.t.name) ∧ wc.cell? ⟨b9, o9 + j * 17 + 3, none⟩ = some (.int .i64 x.t.dims) ∧ wc.cell? ⟨b9, o9 + j * 17 + 4, none⟩ = some (.int .i64 x.t.elem) ∧ wc.cell? ⟨b9, o9 + j * 17 + 5, none⟩ = some (.int .i64 x.t.at_) ∧ wc.cell? ⟨b9, o9 + j * 17 + 6, none⟩ = some (.int .i64 x.of.k) ∧ wc.cell? ⟨b9, o9 + j * 17 + 7, none⟩ = some (.string x.of.name) ∧ wc.cell? ⟨b9, o9 + j * 17 + 8, none⟩ = some (.int .i64 x.of.dims) ∧ wc.cell? ⟨b9, o9 + j * 17 + 9, none⟩ = some (.int .i64 x.of.elem) ∧ wc.cell? ⟨b9, o9 + j * 17 + 10, none⟩ = some (.int .i64 x.of.at_) ∧ wc.cell? ⟨b9, o9 + j * 17 + 11, none⟩ = some (.int .i64 x.n) ∧ wc.cell? ⟨b9, o9 + j * 17 + 12, none⟩ = some (.int .i64 x.i) ∧ wc.cell? ⟨b9, o9 + j * 17 + 13, none⟩ = some (.int .i64 x.v.k) ∧ wc.cell? ⟨b9, o9 + j * 17 + 14, none⟩ = some (.int .i64 x.v.n) ∧ wc.cell? ⟨b9, o9 + j * 17 + 15, none⟩ = some (.int .i64 x.v.r) ∧ wc.cell? ⟨b9, o9 + j * 17 + 16, none⟩ = some (x.dv)) W from fun W hW => by have hq := hat0.only hW; exact ⟨hq.c0, hq.c1, hq.c2, hq.c3, hq.c4, hq.c5, hq.c6, hq.c7, hq.c8, hq.c9, hq.c10, hq.c11, hq.c12, hq.c13, hq.c14, hq.c15, hq.c16⟩)
      obtain ⟨os', hos⟩ : ∃ os', playZ os a0 x = os' := ⟨_, rfl⟩
      rw [hos] at CP
      unfold valOp at CP
      clear hat hat0 hxe hty hbd hos
      by_cases h30 : j < 30
      · have d30 : decide ((j : Int) < 30) = true := by simp only [decide_eq_true_eq]; omega
        go_wp2_with (fail)
        refine wp_region_held_drew (S := fun wc => wc.cell? ⟨b9, o9 + j * 17, none⟩ = some (.int .i64 x.what) ∧ wc.cell? ⟨b9, o9 + j * 17 + 1, none⟩ = some (.int .i64 x.t.k) ∧ wc.cell? ⟨b9, o9 + j * 17 + 2, none⟩ = some (.string x.t.name) ∧ wc.cell? ⟨b9, o9 + j * 17 + 3, none⟩ = some (.int .i64 x.t.dims) ∧ wc.cell? ⟨b9, o9 + j * 17 + 4, none⟩ = some (.int .i64 x.t.elem) ∧ wc.cell? ⟨b9, o9 + j * 17 + 5, none⟩ = some (.int .i64 x.t.at_) ∧ wc.cell? ⟨b9, o9 + j * 17 + 6, none⟩ = some (.int .i64 x.of.k) ∧ wc.cell? ⟨b9, o9 + j * 17 + 7, none⟩ = some (.string x.of.name) ∧ wc.cell? ⟨b9, o9 + j * 17 + 8, none⟩ = some (.int .i64 x.of.dims) ∧ wc.cell? ⟨b9, o9 + j * 17 + 9, none⟩ = some (.int .i64 x.of.elem) ∧ wc.cell? ⟨b9, o9 + j * 17 + 10, none⟩ = some (.int .i64 x.of.at_) ∧ wc.cell? ⟨b9, o9 + j * 17 + 11, none⟩ = some (.int .i64 x.n) ∧ wc.cell? ⟨b9, o9 + j * 17 + 12, none⟩ = some (.int .i64 x.i) ∧ wc.cell? ⟨b9, o9 + j * 17 + 13, none⟩ = some (.int .i64 x.v.k) ∧ wc.cell? ⟨b9, o9 + j * 17 + 14, none⟩ = some (.int .i64 x.v.n) ∧ wc.cell? ⟨b9, o9 + j * 17 + 15, none⟩ = some (.int .i64 x.v.r) ∧ wc.cell? ⟨b9, o9 + j * 17 + 16, none⟩ = some (x.dv)) (by kernel_rfl) hS (fun hHeld => ?_)
        refine wpAnyH_take (i := 0) (v := ?_) (by simp only [List.getElem?_toArray, List.getElem?_cons_succ, List.getElem?_cons_zero]; rfl) (by kernel_rfl) (by kernel_rfl) (by kernel_rfl) (by exact fun _ _ _ h => h) (Or.inl ⟨by rfl, ?_⟩) (by assumption) ?_
        rotate_left 1
        · (intro w hSw; (try dsimp only at hSw); go_simp; try with_reducible rfl)
        try simp only [Act.put, List.setIfInBounds_toArray, List.set_cons_zero, List.set_cons_succ]
        refine wpAnyH_take (i := 1) (v := ?_) (by simp only [List.getElem?_toArray, List.getElem?_cons_succ, List.getElem?_cons_zero]; rfl) (by kernel_rfl) (by kernel_rfl) (by kernel_rfl) (by exact fun _ _ _ h => h) (Or.inl ⟨by rfl, ?_⟩) (by assumption) ?_
        rotate_left 1
        · (intro w hSw; (try dsimp only at hSw); go_simp; try with_reducible rfl)
        try simp only [Act.put, List.setIfInBounds_toArray, List.set_cons_zero, List.set_cons_succ]
        refine wpAnyH_take (i := 2) (v := ?_) (by simp only [List.getElem?_toArray, List.getElem?_cons_succ, List.getElem?_cons_zero]; rfl) (by kernel_rfl) (by kernel_rfl) (by kernel_rfl) (by exact fun _ _ _ h => h) (Or.inl ⟨by rfl, ?_⟩) (by assumption) ?_
        rotate_left 1
        · (intro w hSw; (try dsimp only at hSw); go_simp; try with_reducible rfl)
        try simp only [Act.put, List.setIfInBounds_toArray, List.set_cons_zero, List.set_cons_succ]
        refine wpAnyH_take (i := 3) (v := ?_) (by simp only [List.getElem?_toArray, List.getElem?_cons_succ, List.getElem?_cons_zero]; rfl) (by kernel_rfl) (by kernel_rfl) (by kernel_rfl) (by exact fun _ _ _ h => h) (Or.inl ⟨by rfl, ?_⟩) (by assumption) ?_
        rotate_left 1
        · (intro w hSw; (try dsimp only at hSw); go_simp; try with_reducible rfl)
        try simp only [Act.put, List.setIfInBounds_toArray, List.set_cons_zero, List.set_cons_succ]
        refine wpAnyH_take (i := 4) (v := ?_) (by simp only [List.getElem?_toArray, List.getElem?_cons_succ, List.getElem?_cons_zero]; rfl) (by kernel_rfl) (by kernel_rfl) (by kernel_rfl) (by exact fun _ _ _ h => h) (Or.inl ⟨by rfl, ?_⟩) (by assumption) ?_
        rotate_left 1
        · (intro w hSw; (try dsimp only at hSw); go_simp; try with_reducible rfl)
        try simp only [Act.put, List.setIfInBounds_toArray, List.set_cons_zero, List.set_cons_succ]
        refine wpAnyH_take (i := 5) (v := ?_) (by simp only [List.getElem?_toArray, List.getElem?_cons_succ, List.getElem?_cons_zero]; rfl) (by kernel_rfl) (by kernel_rfl) (by kernel_rfl) (by exact fun _ _ _ h => h) (Or.inl ⟨by rfl, ?_⟩) (by assumption) ?_
        rotate_left 1
        · (intro w hSw; (try dsimp only at hSw); go_simp; try with_reducible rfl)
        try simp only [Act.put, List.setIfInBounds_toArray, List.set_cons_zero, List.set_cons_succ]
        refine wpAnyH_ready (rs := [6]) (by kernel_rfl) (by simp) ?_
        refine AllReadyH.cons (by simp only [List.getElem?_toArray, List.getElem?_cons_succ, List.getElem?_cons_zero]; rfl) (fun K hK => ?_) AllReadyH.nil
        go_simp
        (refine CP.out.mono ?_; rintro e w3 ⟨rfl, G3, H3, hb3, hk3, ho3⟩; have HON3 := Lib.hid (Only.trans (HON.out.trans (Only.refl (fun _ => False) wr).drew (fun _ h _ => h)) ho3 (fun k hk hl => by have := HKK.out k hk; omega)); have HB3 := Lib.hid hb3; have HK3 := Lib.hid (show ∀ k, G3 k ∨ H3 k → w.heap.size ≤ k from fun k hk => by rcases hk3 k hk with e | e; exact HKK.out k e; have := HON.out.size; have : wr.drew.heap.size = wr.heap.size := rfl; omega); obtain ⟨Lv, hL0, ⟨aL, cL, rfl⟩, hLR⟩ := hb3.hr.list; have HL0 := Lib.hid hL0; have HLR := Lib.hid hLR; clear hb3 hk3 ho3 hL0 hLR)
        go_wp2_with fail
        refine hK.out _ _ ?_ (fun hHeld2 => ?_)
        · exact HAT.out _ HON3.out
        clear hK K
        try simp only [Act.put, List.setIfInBounds_toArray, List.set_cons_zero, List.set_cons_succ]
        clear hHeld
        have hHeld := hHeld2
        clear hHeld2
        refine wpAnyH_take (i := 7) (v := ?_) (by simp only [List.getElem?_toArray, List.getElem?_cons_succ, List.getElem?_cons_zero]; rfl) (by kernel_rfl) (by kernel_rfl) (by kernel_rfl) (by exact fun _ _ _ h => h) (Or.inl ⟨by rfl, ?_⟩) (by assumption) ?_
        rotate_left 1
        · (intro w hSw; (try dsimp only at hSw); go_simp; try with_reducible rfl)
        try simp only [Act.put, List.setIfInBounds_toArray, List.set_cons_zero, List.set_cons_succ]
        refine wpAnyH_take (i := 8) (v := ?_) (by simp only [List.getElem?_toArray, List.getElem?_cons_succ, List.getElem?_cons_zero]; rfl) (by kernel_rfl) (by kernel_rfl) (by kernel_rfl) (by exact fun _ _ _ h => h) (Or.inl ⟨by rfl, ?_⟩) (by assumption) ?_
        rotate_left 1
        · (intro w hSw; (try dsimp only at hSw); go_simp; try with_reducible rfl)
        try simp only [Act.put, List.setIfInBounds_toArray, List.set_cons_zero, List.set_cons_succ]
        refine wpAnyH_more (S' := fun wc => ((fun wc => wc.cell? ⟨b9, o9 + j * 17, none⟩ = some (.int .i64 x.what) ∧ wc.cell? ⟨b9, o9 + j * 17 + 1, none⟩ = some (.int .i64 x.t.k) ∧ wc.cell? ⟨b9, o9 + j * 17 + 2, none⟩ = some (.string x.t.name) ∧ wc.cell? ⟨b9, o9 + j * 17 + 3, none⟩ = some (.int .i64 x.t.dims) ∧ wc.cell? ⟨b9, o9 + j * 17 + 4, none⟩ = some (.int .i64 x.t.elem) ∧ wc.cell? ⟨b9, o9 + j * 17 + 5, none⟩ = some (.int .i64 x.t.at_) ∧ wc.cell? ⟨b9, o9 + j * 17 + 6, none⟩ = some (.int .i64 x.of.k) ∧ wc.cell? ⟨b9, o9 + j * 17 + 7, none⟩ = some (.string x.of.name) ∧ wc.cell? ⟨b9, o9 + j * 17 + 8, none⟩ = some (.int .i64 x.of.dims) ∧ wc.cell? ⟨b9, o9 + j * 17 + 9, none⟩ = some (.int .i64 x.of.elem) ∧ wc.cell? ⟨b9, o9 + j * 17 + 10, none⟩ = some (.int .i64 x.of.at_) ∧ wc.cell? ⟨b9, o9 + j * 17 + 11, none⟩ = some (.int .i64 x.n) ∧ wc.cell? ⟨b9, o9 + j * 17 + 12, none⟩ = some (.int .i64 x.i) ∧ wc.cell? ⟨b9, o9 + j * 17 + 13, none⟩ = some (.int .i64 x.v.k) ∧ wc.cell? ⟨b9, o9 + j * 17 + 14, none⟩ = some (.int .i64 x.v.n) ∧ wc.cell? ⟨b9, o9 + j * 17 + 15, none⟩ = some (.int .i64 x.v.r) ∧ wc.cell? ⟨b9, o9 + j * 17 + 16, none⟩ = some (x.dv)) wc) ∧ wc.cell? ⟨q, 0, none⟩ = some (.slice aL os'.length cL)) (fun _ hq => hq.1) _ _ _ _ ?_
        replace hHeld := And.intro hHeld (HL0.out)
        refine wpAnyH_take (i := 9) (v := ?_) (by simp only [List.getElem?_toArray, List.getElem?_cons_succ, List.getElem?_cons_zero]; rfl) (by kernel_rfl) (by kernel_rfl) (by kernel_rfl) (by exact fun _ _ _ h => h) (Or.inl ⟨by rfl, ?_⟩) (by assumption) ?_
        rotate_left 1
        · (intro w hSw; (try dsimp only at hSw); go_simp; try with_reducible rfl)
        try simp only [Act.put, List.setIfInBounds_toArray, List.set_cons_zero, List.set_cons_succ]
        refine wpAnyH_take (i := 11) (v := ?_) (by simp only [List.getElem?_toArray, List.getElem?_cons_succ, List.getElem?_cons_zero]; rfl) (by kernel_rfl) (by kernel_rfl) (by kernel_rfl) (by exact fun _ _ _ h => h) (Or.inl ⟨by rfl, ?_⟩) (by assumption) ?_
        rotate_left 1
        · (intro w hSw; (try dsimp only at hSw); go_simp; try with_reducible rfl)
        try simp only [Act.put, List.setIfInBounds_toArray, List.set_cons_zero, List.set_cons_succ]
        refine wpAnyH_take (i := 12) (v := ?_) (by simp only [List.getElem?_toArray, List.getElem?_cons_succ, List.getElem?_cons_zero]; rfl) (by kernel_rfl) (by kernel_rfl) (by kernel_rfl) (by exact fun _ _ _ h => h) (Or.inl ⟨by rfl, ?_⟩) (by assumption) ?_
        rotate_left 1
        · (intro w hSw; (try dsimp only at hSw); go_simp; try with_reducible rfl)
        try simp only [Act.put, List.setIfInBounds_toArray, List.set_cons_zero, List.set_cons_succ]
        refine wpAnyH_take (i := 13) (v := ?_) (by simp only [List.getElem?_toArray, List.getElem?_cons_succ, List.getElem?_cons_zero]; rfl) (by kernel_rfl) (by kernel_rfl) (by kernel_rfl) (by exact fun _ _ _ h => h) (Or.inl ⟨by rfl, ?_⟩) (by assumption) ?_
        rotate_left 1
        · (intro w hSw; (try dsimp only at hSw); go_simp; try with_reducible rfl)
        try simp only [Act.put, List.setIfInBounds_toArray, List.set_cons_zero, List.set_cons_succ]
        refine wpAnyH_take (i := 14) (v := ?_) (by simp only [List.getElem?_toArray, List.getElem?_cons_succ, List.getElem?_cons_zero]; rfl) (by kernel_rfl) (by kernel_rfl) (by kernel_rfl) (by exact fun _ _ _ h => h) (Or.inl ⟨by rfl, ?_⟩) (by assumption) ?_
        rotate_left 1
        · (intro w hSw; (try dsimp only at hSw); go_simp; try with_reducible rfl)
        try simp only [Act.put, List.setIfInBounds_toArray, List.set_cons_zero, List.set_cons_succ]
        refine wpAnyH_take (i := 15) (v := ?_) (by simp only [List.getElem?_toArray, List.getElem?_cons_succ, List.getElem?_cons_zero]; rfl) (by kernel_rfl) (by kernel_rfl) (by kernel_rfl) (by exact fun _ _ _ h => h) (Or.inl ⟨by rfl, ?_⟩) (by assumption) ?_
        rotate_left 1
        · (intro w hSw; (try dsimp only at hSw); go_simp; try with_reducible rfl)
        try simp only [Act.put, List.setIfInBounds_toArray, List.set_cons_zero, List.set_cons_succ]
        refine wpAnyH_ready (rs := [10]) (by kernel_rfl) (by simp) ?_
        refine AllReadyH.cons (by simp only [List.getElem?_toArray, List.getElem?_cons_succ, List.getElem?_cons_zero]; rfl) (fun K hK => ?_) AllReadyH.nil
        go_simp
        (refine (progCountR HB3.out.hp).mono ?_; rintro e w4 ⟨rfl, hq⟩; have HQ4 := Lib.hid hq; clear hq)
        go_wp2_with fail
        refine hK.out _ _ ?_ (fun hHeld2 => ?_)
        · exact ⟨HAT.out _ (HON3.out.trans HQ4.out (fun _ h _ => h)), HQ4.out.cell HL0.out (fun h => h)⟩
        clear hK K
        try simp only [Act.put, List.setIfInBounds_toArray, List.set_cons_zero, List.set_cons_succ]
        clear hHeld
        have hHeld := hHeld2
        clear hHeld2
        refine wpAnyH_take (i := 16) (v := ?_) (by simp only [List.getElem?_toArray, List.getElem?_cons_succ, List.getElem?_cons_zero]; rfl) (by kernel_rfl) (by kernel_rfl) (by kernel_rfl) (by exact fun _ _ _ h => h) (Or.inl ⟨by rfl, ?_⟩) (by assumption) ?_
        rotate_left 1
        · (intro w hSw; (try dsimp only at hSw); go_simp; try with_reducible rfl)
        try simp only [Act.put, List.setIfInBounds_toArray, List.set_cons_zero, List.set_cons_succ]
        refine wpAnyH_take (i := 17) (v := ?_) (by simp only [List.getElem?_toArray, List.getElem?_cons_succ, List.getElem?_cons_zero]; rfl) (by kernel_rfl) (by kernel_rfl) (by kernel_rfl) (by exact fun _ _ _ h => h) (Or.inl ⟨by rfl, ?_⟩) (by assumption) ?_
        rotate_left 1
        · (intro w hSw; (try dsimp only at hSw); go_simp; try with_reducible rfl)
        try simp only [Act.put, List.setIfInBounds_toArray, List.set_cons_zero, List.set_cons_succ]
        refine wpAnyH_take (i := 18) (v := ?_) (by simp only [List.getElem?_toArray, List.getElem?_cons_succ, List.getElem?_cons_zero]; rfl) (by kernel_rfl) (by kernel_rfl) (by kernel_rfl) (by exact fun _ _ _ h => h) (Or.inl ⟨by rfl, ?_⟩) (by assumption) ?_
        rotate_left 1
        · (intro w hSw; (try dsimp only at hSw); go_simp; try with_reducible rfl)
        try simp only [Act.put, List.setIfInBounds_toArray, List.set_cons_zero, List.set_cons_succ]
        refine wpAnyH_take (i := 19) (v := ?_) (by simp only [List.getElem?_toArray, List.getElem?_cons_succ, List.getElem?_cons_zero]; rfl) (by kernel_rfl) (by kernel_rfl) (by kernel_rfl) (by exact fun _ _ _ h => h) (Or.inl ⟨by rfl, ?_⟩) (by assumption) ?_
        rotate_left 1
        · (intro w hSw; (try dsimp only at hSw); go_simp; try with_reducible rfl)
        try simp only [Act.put, List.setIfInBounds_toArray, List.set_cons_zero, List.set_cons_succ]
        refine wpAnyH_take (i := 20) (v := ?_) (by simp only [List.getElem?_toArray, List.getElem?_cons_succ, List.getElem?_cons_zero]; rfl) (by kernel_rfl) (by kernel_rfl) (by kernel_rfl) (by exact fun _ _ _ h => h) (Or.inl ⟨by rfl, ?_⟩) (by assumption) ?_
        rotate_left 1
        · (intro w hSw; (try dsimp only at hSw); go_simp; try with_reducible rfl)
        try simp only [Act.put, List.setIfInBounds_toArray, List.set_cons_zero, List.set_cons_succ]
        refine wpAnyH_take (i := 21) (v := ?_) (by simp only [List.getElem?_toArray, List.getElem?_cons_succ, List.getElem?_cons_zero]; rfl) (by kernel_rfl) (by kernel_rfl) (by kernel_rfl) (by exact fun _ _ _ h => h) (Or.inl ⟨by rfl, ?_⟩) (by assumption) ?_
        rotate_left 1
        · (intro w hSw; (try dsimp only at hSw); go_simp; try with_reducible rfl)
        try simp only [Act.put, List.setIfInBounds_toArray, List.set_cons_zero, List.set_cons_succ]
        refine wpAnyH_take (i := 22) (v := ?_) (by simp only [List.getElem?_toArray, List.getElem?_cons_succ, List.getElem?_cons_zero]; rfl) (by kernel_rfl) (by kernel_rfl) (by kernel_rfl) (by exact fun _ _ _ h => h) (Or.inl ⟨by rfl, ?_⟩) (by assumption) ?_
        rotate_left 1
        · (intro w hSw; (try dsimp only at hSw); go_simp; try with_reducible rfl)
        try simp only [Act.put, List.setIfInBounds_toArray, List.set_cons_zero, List.set_cons_succ]
        refine wpAnyH_take (i := 24) (v := ?_) (by simp only [List.getElem?_toArray, List.getElem?_cons_succ, List.getElem?_cons_zero]; rfl) (by kernel_rfl) (by kernel_rfl) (by kernel_rfl) (by exact fun _ _ _ h => h) (Or.inl ⟨by rfl, ?_⟩) (by assumption) ?_
        rotate_left 1
        · (intro w hSw; (try dsimp only at hSw); go_simp; try with_reducible rfl)
        try simp only [Act.put, List.setIfInBounds_toArray, List.set_cons_zero, List.set_cons_succ]
        refine wpAnyH_take (i := 25) (v := ?_) (by simp only [List.getElem?_toArray, List.getElem?_cons_succ, List.getElem?_cons_zero]; rfl) (by kernel_rfl) (by kernel_rfl) (by kernel_rfl) (by exact fun _ _ _ h => h) (Or.inl ⟨by rfl, ?_⟩) (by assumption) ?_
        rotate_left 1
        · (intro w hSw; (try dsimp only at hSw); go_simp; try with_reducible rfl)
        try simp only [Act.put, List.setIfInBounds_toArray, List.set_cons_zero, List.set_cons_succ]
        refine wpAnyH_take (i := 26) (v := ?_) (by simp only [List.getElem?_toArray, List.getElem?_cons_succ, List.getElem?_cons_zero]; rfl) (by kernel_rfl) (by kernel_rfl) (by kernel_rfl) (by exact fun _ _ _ h => h) (Or.inl ⟨by rfl, ?_⟩) (by assumption) ?_
        rotate_left 1
        · (intro w hSw; (try dsimp only at hSw); go_simp; try with_reducible rfl)
        try simp only [Act.put, List.setIfInBounds_toArray, List.set_cons_zero, List.set_cons_succ]
        refine wpAnyH_take (i := 27) (v := ?_) (by simp only [List.getElem?_toArray, List.getElem?_cons_succ, List.getElem?_cons_zero]; rfl) (by kernel_rfl) (by kernel_rfl) (by kernel_rfl) (by exact fun _ _ _ h => h) (Or.inl ⟨by rfl, ?_⟩) (by assumption) ?_
        rotate_left 1
        · (intro w hSw; (try dsimp only at hSw); go_simp; try with_reducible rfl)
        try simp only [Act.put, List.setIfInBounds_toArray, List.set_cons_zero, List.set_cons_succ]
        refine wpAnyH_ready (rs := [23]) (by kernel_rfl) (by simp) ?_
        refine AllReadyH.cons (by simp only [List.getElem?_toArray, List.getElem?_cons_succ, List.getElem?_cons_zero]; rfl) (fun K hK => ?_) AllReadyH.nil
        go_simp
        (refine (progAllR (HB3.out.only HQ4.out (fun _ _ h => h)).hp).mono ?_; rintro e w5 ⟨v5, H5, rfl, hv5, hq, hk5⟩; have HV5 := Lib.hid hv5.objs; have HQ5 := Lib.hid (HQ4.out.trans hq (fun _ h _ => h)); clear hv5 hq hk5)
        go_wp2_with fail
        refine hK.out _ _ ?_ (fun hHeld2 => ?_)
        · exact ⟨HAT.out _ (HON3.out.trans HQ5.out (fun _ h _ => h)), HQ5.out.cell HL0.out (fun h => h)⟩
        clear hK K
        try simp only [Act.put, List.setIfInBounds_toArray, List.set_cons_zero, List.set_cons_succ]
        clear hHeld
        have hHeld := hHeld2
        clear hHeld2
        refine wpAnyH_ready (rs := [28]) (by kernel_rfl) (by simp) ?_
        refine AllReadyH.cons (by simp only [List.getElem?_toArray, List.getElem?_cons_succ, List.getElem?_cons_zero]; rfl) (fun K hK => ?_) AllReadyH.nil
        go_simp
        (refine (same14 _ _ os' _ HV5.out (HLR.out.none HQ5.out) (HeapR.few HB3.out.hr).1 (HeapR.few HB3.out.hr).2).mono ?_; rintro e w6 ⟨rfl, hq⟩; have HQ6 := Lib.hid (HQ5.out.trans hq (fun _ h _ => h)); clear hq)
        go_wp2_with fail
        refine hK.out _ _ ?_ (fun hHeld2 => ?_)
        · exact ⟨HAT.out _ (HON3.out.trans HQ6.out (fun _ h _ => h)), HQ6.out.cell HL0.out (fun h => h)⟩
        clear hK K
        try simp only [Act.put, List.setIfInBounds_toArray, List.set_cons_zero, List.set_cons_succ]
        clear hHeld
        have hHeld := hHeld2
        clear hHeld2
        refine wpAnyH_take (i := 29) (v := ?_) (by simp only [List.getElem?_toArray, List.getElem?_cons_succ, List.getElem?_cons_zero]; rfl) (by kernel_rfl) (by kernel_rfl) (by kernel_rfl) (by exact fun _ _ _ h => h) (Or.inl ⟨by rfl, ?_⟩) (by assumption) ?_
        rotate_left 1
        · (intro w hSw; (try dsimp only at hSw); go_simp; try with_reducible rfl)
        try simp only [Act.put, List.setIfInBounds_toArray, List.set_cons_zero, List.set_cons_succ]
        refine wpAnyH_take (i := 30) (v := ?_) (by simp only [List.getElem?_toArray, List.getElem?_cons_succ, List.getElem?_cons_zero]; rfl) (by kernel_rfl) (by kernel_rfl) (by kernel_rfl) (by exact fun _ _ _ h => h) (Or.inl ⟨by rfl, ?_⟩) (by assumption) ?_
        rotate_left 1
        · (intro w hSw; (try dsimp only at hSw); go_simp; try with_reducible rfl)
        try simp only [Act.put, List.setIfInBounds_toArray, List.set_cons_zero, List.set_cons_succ]
        refine wpAnyH_take (i := 31) (v := ?_) (by simp only [List.getElem?_toArray, List.getElem?_cons_succ, List.getElem?_cons_zero]; rfl) (by kernel_rfl) (by kernel_rfl) (by kernel_rfl) (by exact fun _ _ _ h => h) (Or.inl ⟨by rfl, ?_⟩) (by assumption) ?_
        rotate_left 1
        · (intro w hSw; (try dsimp only at hSw); go_simp; try with_reducible rfl)
        try simp only [Act.put, List.setIfInBounds_toArray, List.set_cons_zero, List.set_cons_succ]
        refine wpAnyH_done (by kernel_rfl) ?_ _
        clear hHeld hS d30
        go_wp2
        go_roundw
        case rel => exact ⟨j + 1, G3, H3, os', by go_num, by omega, Lib.hid (HB3.out.only HQ6.out (fun _ _ h => h)), HK3, Lib.hid (HON3.out.trans HQ6.out (fun _ h _ => h))⟩
        case measure => simp [intOf]; omega
      · have d30 : decide ((j : Int) < 30) = false := by simp only [decide_eq_false_iff_not]; omega
        go_wp2_with (fail)
        refine wp_region_held_drew (S := fun wc => wc.cell? ⟨b9, o9 + j * 17, none⟩ = some (.int .i64 x.what) ∧ wc.cell? ⟨b9, o9 + j * 17 + 1, none⟩ = some (.int .i64 x.t.k) ∧ wc.cell? ⟨b9, o9 + j * 17 + 2, none⟩ = some (.string x.t.name) ∧ wc.cell? ⟨b9, o9 + j * 17 + 3, none⟩ = some (.int .i64 x.t.dims) ∧ wc.cell? ⟨b9, o9 + j * 17 + 4, none⟩ = some (.int .i64 x.t.elem) ∧ wc.cell? ⟨b9, o9 + j * 17 + 5, none⟩ = some (.int .i64 x.t.at_) ∧ wc.cell? ⟨b9, o9 + j * 17 + 6, none⟩ = some (.int .i64 x.of.k) ∧ wc.cell? ⟨b9, o9 + j * 17 + 7, none⟩ = some (.string x.of.name) ∧ wc.cell? ⟨b9, o9 + j * 17 + 8, none⟩ = some (.int .i64 x.of.dims) ∧ wc.cell? ⟨b9, o9 + j * 17 + 9, none⟩ = some (.int .i64 x.of.elem) ∧ wc.cell? ⟨b9, o9 + j * 17 + 10, none⟩ = some (.int .i64 x.of.at_) ∧ wc.cell? ⟨b9, o9 + j * 17 + 11, none⟩ = some (.int .i64 x.n) ∧ wc.cell? ⟨b9, o9 + j * 17 + 12, none⟩ = some (.int .i64 x.i) ∧ wc.cell? ⟨b9, o9 + j * 17 + 13, none⟩ = some (.int .i64 x.v.k) ∧ wc.cell? ⟨b9, o9 + j * 17 + 14, none⟩ = some (.int .i64 x.v.n) ∧ wc.cell? ⟨b9, o9 + j * 17 + 15, none⟩ = some (.int .i64 x.v.r) ∧ wc.cell? ⟨b9, o9 + j * 17 + 16, none⟩ = some (x.dv)) (by kernel_rfl) hS (fun hHeld => ?_)
        refine wpAnyH_take (i := 0) (v := ?_) (by simp only [List.getElem?_toArray, List.getElem?_cons_succ, List.getElem?_cons_zero]; rfl) (by kernel_rfl) (by kernel_rfl) (by kernel_rfl) (by exact fun _ _ _ h => h) (Or.inl ⟨by rfl, ?_⟩) (by assumption) ?_
        rotate_left 1
        · (intro w hSw; (try dsimp only at hSw); go_simp; try with_reducible rfl)
        try simp only [Act.put, List.setIfInBounds_toArray, List.set_cons_zero, List.set_cons_succ]
        refine wpAnyH_take (i := 1) (v := ?_) (by simp only [List.getElem?_toArray, List.getElem?_cons_succ, List.getElem?_cons_zero]; rfl) (by kernel_rfl) (by kernel_rfl) (by kernel_rfl) (by exact fun _ _ _ h => h) (Or.inl ⟨by rfl, ?_⟩) (by assumption) ?_
        rotate_left 1
        · (intro w hSw; (try dsimp only at hSw); go_simp; try with_reducible rfl)
        try simp only [Act.put, List.setIfInBounds_toArray, List.set_cons_zero, List.set_cons_succ]
        refine wpAnyH_take (i := 2) (v := ?_) (by simp only [List.getElem?_toArray, List.getElem?_cons_succ, List.getElem?_cons_zero]; rfl) (by kernel_rfl) (by kernel_rfl) (by kernel_rfl) (by exact fun _ _ _ h => h) (Or.inl ⟨by rfl, ?_⟩) (by assumption) ?_
        rotate_left 1
        · (intro w hSw; (try dsimp only at hSw); go_simp; try with_reducible rfl)
        try simp only [Act.put, List.setIfInBounds_toArray, List.set_cons_zero, List.set_cons_succ]
        refine wpAnyH_take (i := 3) (v := ?_) (by simp only [List.getElem?_toArray, List.getElem?_cons_succ, List.getElem?_cons_zero]; rfl) (by kernel_rfl) (by kernel_rfl) (by kernel_rfl) (by exact fun _ _ _ h => h) (Or.inl ⟨by rfl, ?_⟩) (by assumption) ?_
        rotate_left 1
        · (intro w hSw; (try dsimp only at hSw); go_simp; try with_reducible rfl)
        try simp only [Act.put, List.setIfInBounds_toArray, List.set_cons_zero, List.set_cons_succ]
        refine wpAnyH_take (i := 4) (v := ?_) (by simp only [List.getElem?_toArray, List.getElem?_cons_succ, List.getElem?_cons_zero]; rfl) (by kernel_rfl) (by kernel_rfl) (by kernel_rfl) (by exact fun _ _ _ h => h) (Or.inl ⟨by rfl, ?_⟩) (by assumption) ?_
        rotate_left 1
        · (intro w hSw; (try dsimp only at hSw); go_simp; try with_reducible rfl)
        try simp only [Act.put, List.setIfInBounds_toArray, List.set_cons_zero, List.set_cons_succ]
        refine wpAnyH_take (i := 5) (v := ?_) (by simp only [List.getElem?_toArray, List.getElem?_cons_succ, List.getElem?_cons_zero]; rfl) (by kernel_rfl) (by kernel_rfl) (by kernel_rfl) (by exact fun _ _ _ h => h) (Or.inl ⟨by rfl, ?_⟩) (by assumption) ?_
        rotate_left 1
        · (intro w hSw; (try dsimp only at hSw); go_simp; try with_reducible rfl)
        try simp only [Act.put, List.setIfInBounds_toArray, List.set_cons_zero, List.set_cons_succ]
        refine wpAnyH_ready (rs := [6]) (by kernel_rfl) (by simp) ?_
        refine AllReadyH.cons (by simp only [List.getElem?_toArray, List.getElem?_cons_succ, List.getElem?_cons_zero]; rfl) (fun K hK => ?_) AllReadyH.nil
        go_simp
        (refine CP.out.mono ?_; rintro e w3 ⟨rfl, G3, H3, hb3, hk3, ho3⟩; have HON3 := Lib.hid (Only.trans (HON.out.trans (Only.refl (fun _ => False) wr).drew (fun _ h _ => h)) ho3 (fun k hk hl => by have := HKK.out k hk; omega)); have HB3 := Lib.hid hb3; have HK3 := Lib.hid (show ∀ k, G3 k ∨ H3 k → w.heap.size ≤ k from fun k hk => by rcases hk3 k hk with e | e; exact HKK.out k e; have := HON.out.size; have : wr.drew.heap.size = wr.heap.size := rfl; omega); obtain ⟨Lv, hL0, ⟨aL, cL, rfl⟩, hLR⟩ := hb3.hr.list; have HL0 := Lib.hid hL0; have HLR := Lib.hid hLR; clear hb3 hk3 ho3 hL0 hLR)
        go_wp2_with fail
        refine hK.out _ _ ?_ (fun hHeld2 => ?_)
        · exact HAT.out _ HON3.out
        clear hK K
        try simp only [Act.put, List.setIfInBounds_toArray, List.set_cons_zero, List.set_cons_succ]
        clear hHeld
        have hHeld := hHeld2
        clear hHeld2
        refine wpAnyH_take (i := 7) (v := ?_) (by simp only [List.getElem?_toArray, List.getElem?_cons_succ, List.getElem?_cons_zero]; rfl) (by kernel_rfl) (by kernel_rfl) (by kernel_rfl) (by exact fun _ _ _ h => h) (Or.inl ⟨by rfl, ?_⟩) (by assumption) ?_
        rotate_left 1
        · (intro w hSw; (try dsimp only at hSw); go_simp; try with_reducible rfl)
        try simp only [Act.put, List.setIfInBounds_toArray, List.set_cons_zero, List.set_cons_succ]
        refine wpAnyH_take (i := 8) (v := ?_) (by simp only [List.getElem?_toArray, List.getElem?_cons_succ, List.getElem?_cons_zero]; rfl) (by kernel_rfl) (by kernel_rfl) (by kernel_rfl) (by exact fun _ _ _ h => h) (Or.inl ⟨by rfl, ?_⟩) (by assumption) ?_
        rotate_left 1
        · (intro w hSw; (try dsimp only at hSw); go_simp; try with_reducible rfl)
        try simp only [Act.put, List.setIfInBounds_toArray, List.set_cons_zero, List.set_cons_succ]
        refine wpAnyH_more (S' := fun wc => ((fun wc => wc.cell? ⟨b9, o9 + j * 17, none⟩ = some (.int .i64 x.what) ∧ wc.cell? ⟨b9, o9 + j * 17 + 1, none⟩ = some (.int .i64 x.t.k) ∧ wc.cell? ⟨b9, o9 + j * 17 + 2, none⟩ = some (.string x.t.name) ∧ wc.cell? ⟨b9, o9 + j * 17 + 3, none⟩ = some (.int .i64 x.t.dims) ∧ wc.cell? ⟨b9, o9 + j * 17 + 4, none⟩ = some (.int .i64 x.t.elem) ∧ wc.cell? ⟨b9, o9 + j * 17 + 5, none⟩ = some (.int .i64 x.t.at_) ∧ wc.cell? ⟨b9, o9 + j * 17 + 6, none⟩ = some (.int .i64 x.of.k) ∧ wc.cell? ⟨b9, o9 + j * 17 + 7, none⟩ = some (.string x.of.name) ∧ wc.cell? ⟨b9, o9 + j * 17 + 8, none⟩ = some (.int .i64 x.of.dims) ∧ wc.cell? ⟨b9, o9 + j * 17 + 9, none⟩ = some (.int .i64 x.of.elem) ∧ wc.cell? ⟨b9, o9 + j * 17 + 10, none⟩ = some (.int .i64 x.of.at_) ∧ wc.cell? ⟨b9, o9 + j * 17 + 11, none⟩ = some (.int .i64 x.n) ∧ wc.cell? ⟨b9, o9 + j * 17 + 12, none⟩ = some (.int .i64 x.i) ∧ wc.cell? ⟨b9, o9 + j * 17 + 13, none⟩ = some (.int .i64 x.v.k) ∧ wc.cell? ⟨b9, o9 + j * 17 + 14, none⟩ = some (.int .i64 x.v.n) ∧ wc.cell? ⟨b9, o9 + j * 17 + 15, none⟩ = some (.int .i64 x.v.r) ∧ wc.cell? ⟨b9, o9 + j * 17 + 16, none⟩ = some (x.dv)) wc) ∧ wc.cell? ⟨q, 0, none⟩ = some (.slice aL os'.length cL)) (fun _ hq => hq.1) _ _ _ _ ?_
        replace hHeld := And.intro hHeld (HL0.out)
        refine wpAnyH_take (i := 9) (v := ?_) (by simp only [List.getElem?_toArray, List.getElem?_cons_succ, List.getElem?_cons_zero]; rfl) (by kernel_rfl) (by kernel_rfl) (by kernel_rfl) (by exact fun _ _ _ h => h) (Or.inl ⟨by rfl, ?_⟩) (by assumption) ?_
        rotate_left 1
        · (intro w hSw; (try dsimp only at hSw); go_simp; try with_reducible rfl)
        try simp only [Act.put, List.setIfInBounds_toArray, List.set_cons_zero, List.set_cons_succ]
        refine wpAnyH_take (i := 11) (v := ?_) (by simp only [List.getElem?_toArray, List.getElem?_cons_succ, List.getElem?_cons_zero]; rfl) (by kernel_rfl) (by kernel_rfl) (by kernel_rfl) (by exact fun _ _ _ h => h) (Or.inl ⟨by rfl, ?_⟩) (by assumption) ?_
        rotate_left 1
        · (intro w hSw; (try dsimp only at hSw); go_simp; try with_reducible rfl)
        try simp only [Act.put, List.setIfInBounds_toArray, List.set_cons_zero, List.set_cons_succ]
        refine wpAnyH_take (i := 12) (v := ?_) (by simp only [List.getElem?_toArray, List.getElem?_cons_succ, List.getElem?_cons_zero]; rfl) (by kernel_rfl) (by kernel_rfl) (by kernel_rfl) (by exact fun _ _ _ h => h) (Or.inl ⟨by rfl, ?_⟩) (by assumption) ?_
        rotate_left 1
        · (intro w hSw; (try dsimp only at hSw); go_simp; try with_reducible rfl)
        try simp only [Act.put, List.setIfInBounds_toArray, List.set_cons_zero, List.set_cons_succ]
        refine wpAnyH_take (i := 13) (v := ?_) (by simp only [List.getElem?_toArray, List.getElem?_cons_succ, List.getElem?_cons_zero]; rfl) (by kernel_rfl) (by kernel_rfl) (by kernel_rfl) (by exact fun _ _ _ h => h) (Or.inl ⟨by rfl, ?_⟩) (by assumption) ?_
        rotate_left 1
        · (intro w hSw; (try dsimp only at hSw); go_simp; try with_reducible rfl)
        try simp only [Act.put, List.setIfInBounds_toArray, List.set_cons_zero, List.set_cons_succ]
        refine wpAnyH_take (i := 14) (v := ?_) (by simp only [List.getElem?_toArray, List.getElem?_cons_succ, List.getElem?_cons_zero]; rfl) (by kernel_rfl) (by kernel_rfl) (by kernel_rfl) (by exact fun _ _ _ h => h) (Or.inl ⟨by rfl, ?_⟩) (by assumption) ?_
        rotate_left 1
        · (intro w hSw; (try dsimp only at hSw); go_simp; try with_reducible rfl)
        try simp only [Act.put, List.setIfInBounds_toArray, List.set_cons_zero, List.set_cons_succ]
        refine wpAnyH_take (i := 15) (v := ?_) (by simp only [List.getElem?_toArray, List.getElem?_cons_succ, List.getElem?_cons_zero]; rfl) (by kernel_rfl) (by kernel_rfl) (by kernel_rfl) (by exact fun _ _ _ h => h) (Or.inl ⟨by rfl, ?_⟩) (by assumption) ?_
        rotate_left 1
        · (intro w hSw; (try dsimp only at hSw); go_simp; try with_reducible rfl)
        try simp only [Act.put, List.setIfInBounds_toArray, List.set_cons_zero, List.set_cons_succ]
        refine wpAnyH_ready (rs := [10]) (by kernel_rfl) (by simp) ?_
        refine AllReadyH.cons (by simp only [List.getElem?_toArray, List.getElem?_cons_succ, List.getElem?_cons_zero]; rfl) (fun K hK => ?_) AllReadyH.nil
        go_simp
        (refine (progCountR HB3.out.hp).mono ?_; rintro e w4 ⟨rfl, hq⟩; have HQ4 := Lib.hid hq; clear hq)
        go_wp2_with fail
        refine hK.out _ _ ?_ (fun hHeld2 => ?_)
        · exact ⟨HAT.out _ (HON3.out.trans HQ4.out (fun _ h _ => h)), HQ4.out.cell HL0.out (fun h => h)⟩
        clear hK K
        try simp only [Act.put, List.setIfInBounds_toArray, List.set_cons_zero, List.set_cons_succ]
        clear hHeld
        have hHeld := hHeld2
        clear hHeld2
        refine wpAnyH_take (i := 16) (v := ?_) (by simp only [List.getElem?_toArray, List.getElem?_cons_succ, List.getElem?_cons_zero]; rfl) (by kernel_rfl) (by kernel_rfl) (by kernel_rfl) (by exact fun _ _ _ h => h) (Or.inl ⟨by rfl, ?_⟩) (by assumption) ?_
        rotate_left 1
        · (intro w hSw; (try dsimp only at hSw); go_simp; try with_reducible rfl)
        try simp only [Act.put, List.setIfInBounds_toArray, List.set_cons_zero, List.set_cons_succ]
        refine wpAnyH_take (i := 17) (v := ?_) (by simp only [List.getElem?_toArray, List.getElem?_cons_succ, List.getElem?_cons_zero]; rfl) (by kernel_rfl) (by kernel_rfl) (by kernel_rfl) (by exact fun _ _ _ h => h) (Or.inl ⟨by rfl, ?_⟩) (by assumption) ?_
        rotate_left 1
        · (intro w hSw; (try dsimp only at hSw); go_simp; try with_reducible rfl)
        try simp only [Act.put, List.setIfInBounds_toArray, List.set_cons_zero, List.set_cons_succ]
        refine wpAnyH_take (i := 18) (v := ?_) (by simp only [List.getElem?_toArray, List.getElem?_cons_succ, List.getElem?_cons_zero]; rfl) (by kernel_rfl) (by kernel_rfl) (by kernel_rfl) (by exact fun _ _ _ h => h) (Or.inl ⟨by rfl, ?_⟩) (by assumption) ?_
        rotate_left 1
        · (intro w hSw; (try dsimp only at hSw); go_simp; try with_reducible rfl)
        try simp only [Act.put, List.setIfInBounds_toArray, List.set_cons_zero, List.set_cons_succ]
        refine wpAnyH_take (i := 19) (v := ?_) (by simp only [List.getElem?_toArray, List.getElem?_cons_succ, List.getElem?_cons_zero]; rfl) (by kernel_rfl) (by kernel_rfl) (by kernel_rfl) (by exact fun _ _ _ h => h) (Or.inl ⟨by rfl, ?_⟩) (by assumption) ?_
        rotate_left 1
        · (intro w hSw; (try dsimp only at hSw); go_simp; try with_reducible rfl)
        try simp only [Act.put, List.setIfInBounds_toArray, List.set_cons_zero, List.set_cons_succ]
        refine wpAnyH_take (i := 20) (v := ?_) (by simp only [List.getElem?_toArray, List.getElem?_cons_succ, List.getElem?_cons_zero]; rfl) (by kernel_rfl) (by kernel_rfl) (by kernel_rfl) (by exact fun _ _ _ h => h) (Or.inl ⟨by rfl, ?_⟩) (by assumption) ?_
        rotate_left 1
        · (intro w hSw; (try dsimp only at hSw); go_simp; try with_reducible rfl)
        try simp only [Act.put, List.setIfInBounds_toArray, List.set_cons_zero, List.set_cons_succ]
        refine wpAnyH_take (i := 21) (v := ?_) (by simp only [List.getElem?_toArray, List.getElem?_cons_succ, List.getElem?_cons_zero]; rfl) (by kernel_rfl) (by kernel_rfl) (by kernel_rfl) (by exact fun _ _ _ h => h) (Or.inl ⟨by rfl, ?_⟩) (by assumption) ?_
        rotate_left 1
        · (intro w hSw; (try dsimp only at hSw); go_simp; try with_reducible rfl)
        try simp only [Act.put, List.setIfInBounds_toArray, List.set_cons_zero, List.set_cons_succ]
        refine wpAnyH_take (i := 22) (v := undef) (by simp only [List.getElem?_toArray, List.getElem?_cons_succ, List.getElem?_cons_zero]; rfl) (by kernel_rfl) (by kernel_rfl) (by kernel_rfl) (by exact fun _ _ _ h => h) (Or.inr ⟨by rfl, rfl⟩) (by assumption) ?_
        try simp only [Act.put, List.setIfInBounds_toArray, List.set_cons_zero, List.set_cons_succ]
        refine wpAnyH_take (i := 23) (v := undef) (by simp only [List.getElem?_toArray, List.getElem?_cons_succ, List.getElem?_cons_zero]; rfl) (by kernel_rfl) (by kernel_rfl) (by kernel_rfl) (by exact fun _ _ _ h => h) (Or.inr ⟨by rfl, rfl⟩) (by assumption) ?_
        try simp only [Act.put, List.setIfInBounds_toArray, List.set_cons_zero, List.set_cons_succ]
        refine wpAnyH_take (i := 24) (v := undef) (by simp only [List.getElem?_toArray, List.getElem?_cons_succ, List.getElem?_cons_zero]; rfl) (by kernel_rfl) (by kernel_rfl) (by kernel_rfl) (by exact fun _ _ _ h => h) (Or.inr ⟨by rfl, rfl⟩) (by assumption) ?_
        try simp only [Act.put, List.setIfInBounds_toArray, List.set_cons_zero, List.set_cons_succ]
        refine wpAnyH_take (i := 25) (v := undef) (by simp only [List.getElem?_toArray, List.getElem?_cons_succ, List.getElem?_cons_zero]; rfl) (by kernel_rfl) (by kernel_rfl) (by kernel_rfl) (by exact fun _ _ _ h => h) (Or.inr ⟨by rfl, rfl⟩) (by assumption) ?_
        try simp only [Act.put, List.setIfInBounds_toArray, List.set_cons_zero, List.set_cons_succ]
        refine wpAnyH_take (i := 26) (v := undef) (by simp only [List.getElem?_toArray, List.getElem?_cons_succ, List.getElem?_cons_zero]; rfl) (by kernel_rfl) (by kernel_rfl) (by kernel_rfl) (by exact fun _ _ _ h => h) (Or.inr ⟨by rfl, rfl⟩) (by assumption) ?_
        try simp only [Act.put, List.setIfInBounds_toArray, List.set_cons_zero, List.set_cons_succ]
        refine wpAnyH_take (i := 27) (v := undef) (by simp only [List.getElem?_toArray, List.getElem?_cons_succ, List.getElem?_cons_zero]; rfl) (by kernel_rfl) (by kernel_rfl) (by kernel_rfl) (by exact fun _ _ _ h => h) (Or.inr ⟨by rfl, rfl⟩) (by assumption) ?_
        try simp only [Act.put, List.setIfInBounds_toArray, List.set_cons_zero, List.set_cons_succ]
        refine wpAnyH_take (i := 28) (v := undef) (by simp only [List.getElem?_toArray, List.getElem?_cons_succ, List.getElem?_cons_zero]; rfl) (by kernel_rfl) (by kernel_rfl) (by kernel_rfl) (by exact fun _ _ _ h => h) (Or.inr ⟨by rfl, rfl⟩) (by assumption) ?_
        try simp only [Act.put, List.setIfInBounds_toArray, List.set_cons_zero, List.set_cons_succ]
        refine wpAnyH_take (i := 29) (v := undef) (by simp only [List.getElem?_toArray, List.getElem?_cons_succ, List.getElem?_cons_zero]; rfl) (by kernel_rfl) (by kernel_rfl) (by kernel_rfl) (by exact fun _ _ _ h => h) (Or.inr ⟨by rfl, rfl⟩) (by assumption) ?_
        try simp only [Act.put, List.setIfInBounds_toArray, List.set_cons_zero, List.set_cons_succ]
        refine wpAnyH_take (i := 30) (v := ?_) (by simp only [List.getElem?_toArray, List.getElem?_cons_succ, List.getElem?_cons_zero]; rfl) (by kernel_rfl) (by kernel_rfl) (by kernel_rfl) (by exact fun _ _ _ h => h) (Or.inl ⟨by rfl, ?_⟩) (by assumption) ?_
        rotate_left 1
        · (intro w hSw; (try dsimp only at hSw); go_simp; try with_reducible rfl)
        try simp only [Act.put, List.setIfInBounds_toArray, List.set_cons_zero, List.set_cons_succ]
        refine wpAnyH_take (i := 31) (v := ?_) (by simp only [List.getElem?_toArray, List.getElem?_cons_succ, List.getElem?_cons_zero]; rfl) (by kernel_rfl) (by kernel_rfl) (by kernel_rfl) (by exact fun _ _ _ h => h) (Or.inl ⟨by rfl, ?_⟩) (by assumption) ?_
        rotate_left 1
        · (intro w hSw; (try dsimp only at hSw); go_simp; try with_reducible rfl)
        try simp only [Act.put, List.setIfInBounds_toArray, List.set_cons_zero, List.set_cons_succ]
        refine wpAnyH_done (by kernel_rfl) ?_ _
        clear hHeld hS d30
        go_wp2
        go_roundw
        case rel => exact ⟨j + 1, G3, H3, os', by go_num, by omega, Lib.hid (HB3.out.only HQ4.out (fun _ _ h => h)), HK3, Lib.hid (HON3.out.trans HQ4.out (fun _ h _ => h))⟩
        case measure => simp [intOf]; omega
    · have hnj : ¬ ((j : Int) < (n : Int)) := by omega
      clear hlt
      go_wp2_with (fail)
      refine (AW.out _).mono ?_
      rintro e w3 ⟨rfl, h3⟩
      have HO3 := Lib.hid h3
      clear h3
      go_wp2
      go_ret
      exact ⟨rfl, (HON.out.trans HO3.out (fun _ h _ => h)).none⟩

theorem own : ownKnob Try.prog.godebug = none := by kernel_rfl
theorem laidOut : laidOutB Try.prog = true := by kernel_rfl

set_option maxRecDepth 100000 in
theorem lifted (os : Os) (started : os.Started) (H : Type) (enc : TypeId × Value → H) :
    ReturnsInHanded {} Try.checked os 3 .any (Rows.heapPlaysSpec.pre6 enc Try.prog Try.f3 Rows.heapPlaysRow.domain false) (Rows.heapPlaysSpec.post enc Try.prog Try.f3 false true false false) := by
  refine returnsInHanded_of_change_sized (C := Try.checked) own started (by kernel_rfl) Try.func3
    (ChangeSpec.witness6 (enc := enc) (C := Try.checked) false ⟨#[], #[.int .i64 0, .slice none 0 0], []⟩ 8 (by kernel_rfl) (by kernel_rfl) (by kernel_rfl) (by kernel_rfl)) ?_
  intro W base args ds gs before hval0 hW hcnd hsz0 _
  have hsz : (DataW.weightsEach Try.prog (Try.f3.params.toList ++ Rows.heapPlaysSpec.plain.varTypes Try.prog) (ds ++ gs)).all (· ≤ reachBytes) = true := hsz0
  clear hsz0
  have hval : ∀ (j : Nat) t v, Try.f3.params[j]? = some t → args[j]? = some v → Value.okWide Try.prog W .any base t v := hval0
  have hW' := hW
  obtain ⟨p, q, hA0, hV, rfl, hfz, hnd⟩ := hW
  have hA : DataW.TrodAll enc Try.prog W 0 (fun _ => true) true Try.f3.params.toList args.toList ds p := hA0
  rw [Try.params3] at hA hval hsz
  obtain ⟨v0, vs0, d0, ds0, p0, q0, hargs, rfl, rfl, h0, r0⟩ := trodAll_cons hA
  obtain ⟨v1, vs1, d1, ds1, p1, q1, rfl, rfl, rfl, h1, r1⟩ := trodAll_cons r0
  obtain ⟨rfl, rfl, rfl⟩ := trodAll_nil r1
  obtain rfl : args = #[v0, v1] := by cases args; simp_all
  obtain ⟨rfl, rfl⟩ := trodVars_none hV
  obtain ⟨a0, rfl, rfl, rfl, w0⟩ := open_int Try.underlying3 (hval 0 3 v0 rfl rfl) h0
  have k1 := h1
  have lt1 : ∀ x ∈ p1, x.block < W.heap.size := by obtain ⟨m, hm⟩ := k1; exact DataW.trod_lt m _ _ _ hm
  have w1 := arg_ops14 (hval 1 22 v1 rfl rfl) h1 (light_arg (j := 1) hsz rfl rfl)
  clear hA0 hval0
  refine (walk a0 v1 W w0 w1).mono fun e W' ⟨he, bel⟩ => ?_
  subst he
  exact ⟨_, rfl, _, _, _, [], _, [], hW', trodAll_mk1 (shut_bool Try.underlying4 _), (trodAll_cons_mk (shut_int Try.underlying3 w0) (trodAll_cons_mk (Below.trod laidOut (by kernel_rfl) (of_decide_eq_true (by kernel_rfl)) k1 bel lt1) trodAll_mk0)), rfl, bel.frame _, fun h => by cases h⟩

theorem over : Rows.heapPlaysRow.holds Try.pinned (OpenSpec.ofChange Rows.heapPlaysSpec) :=
  OpenClaim.holds_of_wide 3 Try.f3 rfl rfl rfl rfl rfl rfl rfl ⟨rfl, rfl, rfl, rfl, rfl⟩ rfl rfl rfl rfl rfl (by kernel_rfl) Try.func3 (by kernel_rfl)
    (of_decide_eq_true (by kernel_rfl)) (by unfold Func.isWrapper; first | (rw [if_pos (by decide +kernel)]; kernel_rfl) | (rw [if_neg (by decide +kernel)]; exact ⟨rfl, rfl⟩))
    (fun os started H enc _ => lifted os started H enc)

theorem proved : Rows.HeapPlaysSaid := over
#print axioms proved
end Go.Proofs.Ytebeoganblcblaa.heapPlays
