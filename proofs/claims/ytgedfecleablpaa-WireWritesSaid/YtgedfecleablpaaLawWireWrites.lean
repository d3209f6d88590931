/- PROVED: the law WireWrites: a writer of any bound under any script of calls answers what the document's own writer answers, call by call, and holds the same bytes; the arguments read as before. For every int and every script. No condition. -/
import Derived.Test.YtgedfecleablpaaScrA
import Derived.Test.YtgedfecleablpaaRefV
import Derived.Test.YtgedfecleablpaaWireF
import Derived.ProofKit
import Derived.ShutString
import Derived.ChangeOld
import Derived.Below
import Derived.Deep.CutBlock
import Derived.Deep.RegionHeld
import Derived.Deep.DeepCutAuto
namespace Go.Proofs.Ytgedfecleablpaa.wireWrites
open Go.ChangeShapes Go.WideShapes Go.ChangeAt Go.RowKit
set_option linter.unusedVariables false
set_option linter.unusedSimpArgs false

/-- The program's writer and the reference's, side by side, each in blocks of its own from B on. -/
structure Two (B : Nat) (w0 : World) (most wp wf : Nat) (svp svr : Value) (bp br : List Int) (w : World) : Prop where
  p : Wr w wp svp most bp
  r : Wf w wf svr most br
  d1 : wp ≠ wf
  d2 : svp.ownBlock ≠ some wf
  d3 : svr.ownBlock ≠ some wp
  d4 : ∀ k, svp.ownBlock = some k → svr.ownBlock ≠ some k
  b1 : B ≤ wp
  b2 : B ≤ wf
  b3 : ∀ k, svp.ownBlock = some k → B ≤ k
  b4 : ∀ k, svr.ownBlock = some k → B ≤ k
  bel : Below B w0 w

theorem Two.stepP {B : Nat} {w0 w w' : World} {most wp wf : Nat} {svp svr : Value} {bp br bp' : List Int} (h : Two B w0 most wp wf svp svr bp br w) (hB : B ≤ w.heap.size) (ht : WrTo w wp svp most bp' w') :
    ∃ svp', Two B w0 most wp wf svp' svr bp' br w' := by
  obtain ⟨sv', hw, ho, hs⟩ := ht
  have hlr := h.r.lt
  have hlp := h.p.lt
  refine ⟨sv', hw, h.r.only ho ?_ ?_, h.d1, ?_, h.d3, ?_, h.b1, h.b2, ?_, h.b4, h.bel.trans (ho.below hB ?_)⟩
  · rintro (e | e)
    · exact h.d1 e.symm
    · exact h.d2 e
  · rintro k hk (e | e)
    · exact h.d3 (by rw [hk, e])
    · exact h.d4 k e hk
  · intro e
    rcases hs _ e with e2 | e2
    · exact h.d2 e2
    · omega
  · intro k hk e
    rcases hs k hk with e2 | e2
    · exact h.d4 k e2 e
    · have := hlr.2 k e; omega
  · intro k hk
    rcases hs k hk with e2 | e2
    · exact h.b3 k e2
    · omega
  · rintro i (rfl | e)
    · exact h.b1
    · exact h.b3 i e
theorem Two.stepR {B : Nat} {w0 w w' : World} {most wp wf : Nat} {svp svr : Value} {bp br br' : List Int} (h : Two B w0 most wp wf svp svr bp br w) (hB : B ≤ w.heap.size) (ht : WfTo w wf svr most br' w') :
    ∃ svr', Two B w0 most wp wf svp svr' bp br' w' := by
  obtain ⟨sv', hw, ho, hs⟩ := ht
  have hlr := h.r.lt
  have hlp := h.p.lt
  refine ⟨sv', h.p.only ho ?_ ?_, hw, h.d1, h.d2, ?_, ?_, h.b1, h.b2, h.b3, ?_, h.bel.trans (ho.below hB ?_)⟩
  · rintro (e | e)
    · exact h.d1 e
    · exact h.d3 e
  · rintro k hk (e | e)
    · exact h.d2 (by rw [hk, e])
    · exact h.d4 k hk e
  · intro e
    rcases hs _ e with e2 | e2
    · exact h.d3 e2
    · omega
  · intro k hk e
    rcases hs k e with e2 | e2
    · exact h.d4 k hk e2
    · have := hlp.2 k hk; omega
  · intro k hk
    rcases hs k hk with e2 | e2
    · exact h.b4 k e2
    · omega
  · rintro i (rfl | e)
    · exact h.b2
    · exact h.b4 i e
theorem Two.fresh {B : Nat} {w0 w w' : World} {most wp wf : Nat} {svp svr : Value} {bp br : List Int} (h : Two B w0 most wp wf svp svr bp br w) (hb : Below w.heap.size w w') (hB : B ≤ w.heap.size) : Two B w0 most wp wf svp svr bp br w' :=
  ⟨h.p.only (Only.of_below hb (fun _ => False)) (fun h => h) (fun _ _ h => h), h.r.only (Only.of_below hb (fun _ => False)) (fun h => h) (fun _ _ h => h), h.d1, h.d2, h.d3, h.d4, h.b1, h.b2, h.b3, h.b4, h.bel.trans (hb.mono hB)⟩
theorem Two.new (w : World) (m : Nat) (hm : m ≤ 1048576) :
    Two w.heap.size w m w.heap.size (w.heap.size + 1) (.slice none 0 0) (.slice none 0 0) [] [] ((w.alloc (.cells #[.slice none 0 0, .int .i64 m, .bool true] 69)).alloc (.cells #[.slice none 0 0, .int .i64 m] 61)) := by
  refine ⟨(Wr.new w m hm).only (Only.alloc (Only.refl (fun _ => False) _) _) (fun h => h) (fun _ _ h => h), ?_, by omega, by simp [Value.ownBlock], by simp [Value.ownBlock], by simp [Value.ownBlock], Nat.le_refl _, by omega, by simp [Value.ownBlock], by simp [Value.ownBlock], ((Below.refl _ _).alloc (Nat.le_refl _) _).alloc (by simp) _⟩
  have := Wf.new (w.alloc (.cells #[.slice none 0 0, .int .i64 m, .bool true] 69)) m hm
  simpa using this

theorem _root_.Go.Proofs.Ytgedfecleablpaa.Wr.drewN {w : World} {wb : Nat} {sv : Value} {most : Nat} {bs : List Int} (h : Wr w wb sv most bs) (n : Nat) : Wr (w.drewN n) wb sv most bs :=
  h.only (Only.drewN (Only.refl (fun _ => False) w) n) (fun h => h) (fun _ _ h => h)
theorem keepsP {w w1 : World} {o : Obj} {wb : Nat} {sv : Value} {most : Nat} {bs bs0 : List Int} (h : WrTo (w.alloc o) wb sv most bs w1) (hw : Wr w wb sv most bs0) : w1.heap[w.heap.size]? = some o := by
  obtain ⟨_, _, ho, _⟩ := h
  have hl := hw.lt
  refine ho.heap (heap_alloc_new w o) ?_
  rintro (e | e)
  · omega
  · have := hl.2 _ e; omega
theorem Two.size {B : Nat} {w0 w : World} {most wp wf : Nat} {svp svr : Value} {bp br : List Int} (h : Two B w0 most wp wf svp svr bp br w) : B ≤ w.heap.size := Nat.le_trans h.b1 (Nat.le_of_lt h.p.lt.1)

set_option maxHeartbeats 4000000 in
set_option maxRecDepth 100000 in
theorem walkOk (m : Nat) (v1 : Value) (len : Nat) (f : Nat → OpV) (w : World) (hm : m ≤ 1048576) (hsc : Script w v1 len f) :
    Calls Try.prog 4 #[.int .i64 m, v1] w fun e w' => e = .returned (.bool true) ∧ Below w.heap.size w w' := by
  obtain ⟨ao, cap, rfl, hlc, hcap, hnil, hops⟩ := hsc
  go_enter Try.func4, Try.ntmps4
  go_wp2_with (first | (go_at_call 18; refine (newWriterOk m _ hm).mono ?_; rintro e w' ⟨rfl, rfl⟩) | (go_at_call 19; refine (newRefOk m _ hm).mono ?_; rintro e w' ⟨rfl, rfl⟩))
  have hnew := Two.new w m hm
  go_loopw [9] (fun i wr => ∃ j : Nat, j ≤ len ∧ i = .int .i64 j ∧ ∃ svp svr bs, Two w.heap.size w m w.heap.size (w.heap.size + 1) svp svr bs bs wr) (fun i _ => len - (intOf i).toNat)
  case atStart => exact ⟨0, Nat.zero_le _, rfl, _, _, _, hnew⟩
  case round =>
    obtain ⟨j, hj, rfl, svp, svr, bs, htwo⟩ := hrel
    clear hnew
    by_cases hlt : j < len
    · obtain ⟨x, rfl⟩ : ∃ x, ao = some x := by cases ao with | none => have := hnil rfl; omega | some x => exact ⟨x, rfl⟩
      have hop := hops x rfl j hlt
      obtain ⟨xb, xo, rfl⟩ : ∃ xb xo, x = ⟨xb, xo, none⟩ := ⟨_, _, plain_of_cell (hops x rfl 0 (by omega)).c0⟩
      have hxb : xb < w.heap.size := by have := World.block_lt_of_cell? w _ hop.c0; rwa [add_block] at this
      have c0 := (htwo.bel.cell (by rw [add_block]; exact hxb)).trans hop.c0
      have c1 := (htwo.bel.cell (by rw [add_block]; exact hxb)).trans hop.c1
      have c2 := (htwo.bel.cell (by rw [add_block]; exact hxb)).trans hop.c2
      have c3 := (htwo.bel.cell (by rw [add_block]; exact hxb)).trans hop.c3
      have c4 := (htwo.bel.cell (by rw [add_block]; exact hxb)).trans hop.c4
      rw [add_lit] at c0 c1 c2 c3 c4
      simp only [← Nat.add_assoc, Nat.add_zero] at c0 c1 c2 c3 c4
      have H0 := Lib.hid hop.by_
      have hby := hop.by_.below htwo.bel (Nat.le_refl _)
      have hle := hop.le
      have rn := hop.rn
      have rx := hop.rx
      have ry := hop.ry
      clear hop
      generalize f j = o at *
      obtain ⟨what, n, X, Y, b, bz⟩ := o
      simp only at hby hle rn rx ry H0
      obtain ⟨bo, bcap, hbv, hb1, _⟩ := id hby
      subst hbv
      have hB := htwo.size
      have ht1 := fun o => htwo.fresh ((Below.refl wr.heap.size wr).alloc (Nat.le_refl _) o) hB
      have hby1 := fun o => hby.below ((Below.refl wr.heap.size wr).alloc (Nat.le_refl _) o) (Nat.le_refl _)
      clear hops hnil
      go_upto_block 2 with fail
      go_cut [11, 12] (fun s11 s12 wx => ∃ (e : Int) (svp svr : Value) (bs : List Int), s11 = .int .i64 e ∧ s12 = .int .i64 e ∧ Two w.heap.size w m w.heap.size (w.heap.size + 1) svp svr bs bs wx)
      case first =>
        go_wp2_with (first | (go_at_call 20; refine (wrUint w.heap.size svp m bs n X _ (by exact (ht1 _).p)).mono ?_; rintro e w1 ⟨rfl, hto⟩; have hob := keepsP hto htwo.p; have d1 := cell_blk hob 1; have d2 := cell_blk hob 2; simp at d1 d2; obtain ⟨svp1, ht2⟩ := (ht1 _).stepP (by simp; omega) hto; clear hto hob) | (go_at_call 22; refine (wrInt w.heap.size svp m bs n Y _ (by exact (ht1 _).p)).mono ?_; rintro e w1 ⟨rfl, hto⟩; have hob := keepsP hto htwo.p; have d1 := cell_blk hob 1; have d3 := cell_blk hob 3; simp at d1 d3; obtain ⟨svp1, ht2⟩ := (ht1 _).stepP (by simp; omega) hto; clear hto hob) | (go_at_call 24; refine (wrBytes w.heap.size svp m bs _ bz _ (by exact (ht1 _).p) (by exact hby1 _)).mono ?_; rintro e w1 ⟨rfl, hto⟩; have hob := keepsP hto htwo.p; have d4 := cell_blk hob 4; simp at d4; obtain ⟨svp1, ht2⟩ := (ht1 _).stepP (by simp; omega) hto; clear hto hob) | (go_at_call 21; refine (refUint (w.heap.size + 1) svr m bs n X _ (by exact ht2.r) rx.1 rx.2).mono ?_; rintro e w2 ⟨rfl, hto2⟩; obtain ⟨svr1, ht3⟩ := ht2.stepR ht2.size hto2; clear hto2) | (go_at_call 23; refine (refInt (w.heap.size + 1) svr m bs n Y _ (by exact ht2.r) ry.1 ry.2).mono ?_; rintro e w2 ⟨rfl, hto2⟩; obtain ⟨svr1, ht3⟩ := ht2.stepR ht2.size hto2; clear hto2) | (go_at_call 25; refine (refBytes (w.heap.size + 1) svr m bs _ bz _ (by exact ht2.r) (by exact H0.out.below ht2.bel (Nat.le_refl _))).mono ?_; rintro e w2 ⟨rfl, hto2⟩; obtain ⟨svr1, ht3⟩ := ht2.stepR ht2.size hto2; clear hto2))
        all_goals
          go_meet
          case rel => exact ⟨_, _, _, _, rfl, rfl, ht3⟩
      case rest =>
        clear htwo ht1 hby1 c0 c1 c2 c3 c4 H0 rn rx ry
        obtain ⟨e, svp, svr, bs, rfl, rfl, htwo⟩ := hcut
        have h0 := cell_blk htwo.r.blk 0
        obtain ⟨ao2, cap2, rfl, hq1, hq2⟩ := slice_of_owns htwo.r.own
        simp at h0
        go_upto_region 20 with fail
        go_cut [112] (fun s112 wx => s112 = .bool false ∧ ∃ (svp svr : Value) (bs : List Int), Two w.heap.size w m w.heap.size (w.heap.size + 1) svp svr bs bs wx)
        case first =>
          by_cases hj100 : j < 100
          · have hji : ((j : Int) < 100) := by omega
            have hP : Wr wc.drew w.heap.size svp m bs := htwo.p.only (Only.drew (Only.refl (fun _ => False) wc)) (fun h => h) (fun _ _ h => h)
            have hcr : (convert 22 9 (.slice ao2 bs.length cap2)).run Try.prog wc.drew = .ok (.string (strOfNums bs)) wc.drew :=
              conv_bytes wc.drew 22 5 9 Try.underlying22 Try.underlying5 Try.underlying9 (Bytes.of_owns htwo.r.own htwo.r.byt)
            refine wp_region_held_drew (S := fun w' => w'.cell? ⟨w.heap.size + 1, 0, none⟩ = some (.slice ao2 bs.length cap2) ∧ (convert 22 9 (.slice ao2 bs.length cap2)).run Try.prog w' = .ok (.string (strOfNums bs)) w') (by kernel_rfl) ⟨h0, hcr⟩ (fun hHeld => ?_)
            refine wpAnyH_take (i := 0) (v := ?_) (by simp only [List.getElem?_toArray, List.getElem?_cons_succ, List.getElem?_cons_zero]; rfl) (by kernel_rfl) (by kernel_rfl) (by kernel_rfl) (by exact fun _ _ _ h => h) (Or.inl ⟨by rfl, ?_⟩) (by assumption) ?_
            rotate_left 1
            · (intro w hSw; (try dsimp only at hSw); go_simp; try with_reducible rfl)
            try simp only [Act.put, List.setIfInBounds_toArray, List.set_cons_zero, List.set_cons_succ]
            refine wpAnyH_take (i := 1) (v := ?_) (by simp only [List.getElem?_toArray, List.getElem?_cons_succ, List.getElem?_cons_zero]; rfl) (by kernel_rfl) (by kernel_rfl) (by kernel_rfl) (by exact fun _ _ _ h => h) (Or.inl ⟨by rfl, ?_⟩) (by assumption) ?_
            rotate_left 1
            · (intro w hSw; (try dsimp only at hSw); go_simp; try with_reducible rfl)
            try simp only [Act.put, List.setIfInBounds_toArray, List.set_cons_zero, List.set_cons_succ]
            refine wpAnyH_take (i := 2) (v := ?_) (by simp only [List.getElem?_toArray, List.getElem?_cons_succ, List.getElem?_cons_zero]; rfl) (by kernel_rfl) (by kernel_rfl) (by kernel_rfl) (by exact fun _ _ _ h => h) (Or.inl ⟨by rfl, ?_⟩) (by assumption) ?_
            rotate_left 1
            · (intro w hSw; (try dsimp only at hSw); go_simp; try with_reducible rfl)
            try simp only [Act.put, List.setIfInBounds_toArray, List.set_cons_zero, List.set_cons_succ]
            refine wpAnyH_take (i := 3) (v := ?_) (by simp only [List.getElem?_toArray, List.getElem?_cons_succ, List.getElem?_cons_zero]; rfl) (by kernel_rfl) (by kernel_rfl) (by kernel_rfl) (by exact fun _ _ _ h => h) (Or.inl ⟨by rfl, ?_⟩) (by assumption) ?_
            rotate_left 1
            · (intro w hSw; (try dsimp only at hSw); go_simp; try with_reducible rfl)
            try simp only [Act.put, List.setIfInBounds_toArray, List.set_cons_zero, List.set_cons_succ]
            refine wpAnyH_take (i := 4) (v := ?_) (by simp only [List.getElem?_toArray, List.getElem?_cons_succ, List.getElem?_cons_zero]; rfl) (by kernel_rfl) (by kernel_rfl) (by kernel_rfl) (by exact fun _ _ _ h => h) (Or.inl ⟨by rfl, ?_⟩) (by assumption) ?_
            rotate_left 1
            · (intro w hSw; (try dsimp only at hSw); go_simp; try with_reducible rfl)
            try simp only [Act.put, List.setIfInBounds_toArray, List.set_cons_zero, List.set_cons_succ]
            refine wpAnyH_take (i := 6) (v := ?_) (by simp only [List.getElem?_toArray, List.getElem?_cons_succ, List.getElem?_cons_zero]; rfl) (by kernel_rfl) (by kernel_rfl) (by kernel_rfl) (by exact fun _ _ _ h => h) (Or.inl ⟨by rfl, ?_⟩) (by assumption) ?_
            rotate_left 1
            · (intro w hSw; (try dsimp only at hSw); go_simp; try with_reducible rfl)
            try simp only [Act.put, List.setIfInBounds_toArray, List.set_cons_zero, List.set_cons_succ]
            refine wpAnyH_take (i := 7) (v := ?_) (by simp only [List.getElem?_toArray, List.getElem?_cons_succ, List.getElem?_cons_zero]; rfl) (by kernel_rfl) (by kernel_rfl) (by kernel_rfl) (by exact fun _ _ _ h => h) (Or.inl ⟨by rfl, ?_⟩) (by assumption) ?_
            rotate_left 1
            · (intro w hSw; (try dsimp only at hSw); go_simp; try with_reducible rfl)
            try simp only [Act.put, List.setIfInBounds_toArray, List.set_cons_zero, List.set_cons_succ]
            refine wpAnyH_take (i := 8) (v := ?_) (by simp only [List.getElem?_toArray, List.getElem?_cons_succ, List.getElem?_cons_zero]; rfl) (by kernel_rfl) (by kernel_rfl) (by kernel_rfl) (by exact fun _ _ _ h => h) (Or.inl ⟨by rfl, ?_⟩) (by assumption) ?_
            rotate_left 1
            · (intro w hSw; (try dsimp only at hSw); go_simp; try with_reducible rfl)
            try simp only [Act.put, List.setIfInBounds_toArray, List.set_cons_zero, List.set_cons_succ]
            refine wpAnyH_take (i := 9) (v := ?_) (by simp only [List.getElem?_toArray, List.getElem?_cons_succ, List.getElem?_cons_zero]; rfl) (by kernel_rfl) (by kernel_rfl) (by kernel_rfl) (by exact fun _ _ _ h => h) (Or.inl ⟨by rfl, ?_⟩) (by assumption) ?_
            rotate_left 1
            · (intro w hSw; (try dsimp only at hSw); go_simp; try with_reducible rfl)
            try simp only [Act.put, List.setIfInBounds_toArray, List.set_cons_zero, List.set_cons_succ]
            refine wpAnyH_take (i := 10) (v := ?_) (by simp only [List.getElem?_toArray, List.getElem?_cons_succ, List.getElem?_cons_zero]; rfl) (by kernel_rfl) (by kernel_rfl) (by kernel_rfl) (by exact fun _ _ _ h => h) (Or.inl ⟨by rfl, ?_⟩) (by assumption) ?_
            rotate_left 1
            · (intro w hSw; (try dsimp only at hSw); go_simp; try with_reducible rfl)
            try simp only [Act.put, List.setIfInBounds_toArray, List.set_cons_zero, List.set_cons_succ]
            refine wpAnyH_ready (rs := [5]) (by kernel_rfl) (by simp) ?_
            refine AllReadyH.cons (by simp only [List.getElem?_toArray, List.getElem?_cons_succ, List.getElem?_cons_zero]; rfl) (fun K hK => ?_) AllReadyH.nil
            go_simp
            (refine (wrLen w.heap.size svp m bs _ hP).mono ?_; rintro e w' ⟨rfl, rfl⟩)
            go_wp2_with fail
            refine hK.out _ _ ?_ (fun hHeld2 => ?_)
            · exact hHeld
            clear hK K
            try simp only [Act.put, List.setIfInBounds_toArray, List.set_cons_zero, List.set_cons_succ]
            clear hHeld
            have hHeld := hHeld2
            clear hHeld2
            refine wpAnyH_take (i := 11) (v := ?_) (by simp only [List.getElem?_toArray, List.getElem?_cons_succ, List.getElem?_cons_zero]; rfl) (by kernel_rfl) (by kernel_rfl) (by kernel_rfl) (by exact fun _ _ _ h => h) (Or.inl ⟨by rfl, ?_⟩) (by assumption) ?_
            rotate_left 1
            · (intro w hSw; (try dsimp only at hSw); go_simp; try with_reducible rfl)
            try simp only [Act.put, List.setIfInBounds_toArray, List.set_cons_zero, List.set_cons_succ]
            refine wpAnyH_take (i := 12) (v := ?_) (by simp only [List.getElem?_toArray, List.getElem?_cons_succ, List.getElem?_cons_zero]; rfl) (by kernel_rfl) (by kernel_rfl) (by kernel_rfl) (by exact fun _ _ _ h => h) (Or.inl ⟨by rfl, ?_⟩) (by assumption) ?_
            rotate_left 1
            · (intro w hSw; (try dsimp only at hSw); go_simp; try with_reducible rfl)
            try simp only [Act.put, List.setIfInBounds_toArray, List.set_cons_zero, List.set_cons_succ]
            refine wpAnyH_take (i := 13) (v := ?_) (by simp only [List.getElem?_toArray, List.getElem?_cons_succ, List.getElem?_cons_zero]; rfl) (by kernel_rfl) (by kernel_rfl) (by kernel_rfl) (by exact fun _ _ _ h => h) (Or.inl ⟨by rfl, ?_⟩) (by assumption) ?_
            rotate_left 1
            · (intro w hSw; (try dsimp only at hSw); go_simp; try with_reducible rfl)
            try simp only [Act.put, List.setIfInBounds_toArray, List.set_cons_zero, List.set_cons_succ]
            refine wpAnyH_take (i := 14) (v := ?_) (by simp only [List.getElem?_toArray, List.getElem?_cons_succ, List.getElem?_cons_zero]; rfl) (by kernel_rfl) (by kernel_rfl) (by kernel_rfl) (by exact fun _ _ _ h => h) (Or.inl ⟨by rfl, ?_⟩) (by assumption) ?_
            rotate_left 1
            · (intro w hSw; (try dsimp only at hSw); go_simp; try with_reducible rfl)
            try simp only [Act.put, List.setIfInBounds_toArray, List.set_cons_zero, List.set_cons_succ]
            refine wpAnyH_take (i := 15) (v := ?_) (by simp only [List.getElem?_toArray, List.getElem?_cons_succ, List.getElem?_cons_zero]; rfl) (by kernel_rfl) (by kernel_rfl) (by kernel_rfl) (by exact fun _ _ _ h => h) (Or.inl ⟨by rfl, ?_⟩) (by assumption) ?_
            rotate_left 1
            · (intro w hSw; (try dsimp only at hSw); go_simp; try with_reducible rfl)
            try simp only [Act.put, List.setIfInBounds_toArray, List.set_cons_zero, List.set_cons_succ]
            refine wpAnyH_take (i := 16) (v := ?_) (by simp only [List.getElem?_toArray, List.getElem?_cons_succ, List.getElem?_cons_zero]; rfl) (by kernel_rfl) (by kernel_rfl) (by kernel_rfl) (by exact fun _ _ _ h => h) (Or.inl ⟨by rfl, ?_⟩) (by assumption) ?_
            rotate_left 1
            · (intro w hSw; (try dsimp only at hSw); go_simp; try with_reducible rfl)
            try simp only [Act.put, List.setIfInBounds_toArray, List.set_cons_zero, List.set_cons_succ]
            refine wpAnyH_take (i := 17) (v := ?_) (by simp only [List.getElem?_toArray, List.getElem?_cons_succ, List.getElem?_cons_zero]; rfl) (by kernel_rfl) (by kernel_rfl) (by kernel_rfl) (by exact fun _ _ _ h => h) (Or.inl ⟨by rfl, ?_⟩) (by assumption) ?_
            rotate_left 1
            · (intro w hSw; (try dsimp only at hSw); go_simp; try with_reducible rfl)
            try simp only [Act.put, List.setIfInBounds_toArray, List.set_cons_zero, List.set_cons_succ]
            refine wpAnyH_take (i := 20) (v := ?_) (by simp only [List.getElem?_toArray, List.getElem?_cons_succ, List.getElem?_cons_zero]; rfl) (by kernel_rfl) (by kernel_rfl) (by kernel_rfl) (by exact fun _ _ _ h => h) (Or.inl ⟨by rfl, ?_⟩) (by assumption) ?_
            rotate_left 1
            · (intro w hSw; (try dsimp only at hSw); go_simp; try with_reducible rfl)
            try simp only [Act.put, List.setIfInBounds_toArray, List.set_cons_zero, List.set_cons_succ]
            refine wpAnyH_take (i := 21) (v := ?_) (by simp only [List.getElem?_toArray, List.getElem?_cons_succ, List.getElem?_cons_zero]; rfl) (by kernel_rfl) (by kernel_rfl) (by kernel_rfl) (by exact fun _ _ _ h => h) (Or.inl ⟨by rfl, ?_⟩) (by assumption) ?_
            rotate_left 1
            · (intro w hSw; (try dsimp only at hSw); go_simp; try with_reducible rfl)
            try simp only [Act.put, List.setIfInBounds_toArray, List.set_cons_zero, List.set_cons_succ]
            refine wpAnyH_take (i := 22) (v := ?_) (by simp only [List.getElem?_toArray, List.getElem?_cons_succ, List.getElem?_cons_zero]; rfl) (by kernel_rfl) (by kernel_rfl) (by kernel_rfl) (by exact fun _ _ _ h => h) (Or.inl ⟨by rfl, ?_⟩) (by assumption) ?_
            rotate_left 1
            · (intro w hSw; (try dsimp only at hSw); go_simp; try with_reducible rfl)
            try simp only [Act.put, List.setIfInBounds_toArray, List.set_cons_zero, List.set_cons_succ]
            refine wpAnyH_take (i := 23) (v := ?_) (by simp only [List.getElem?_toArray, List.getElem?_cons_succ, List.getElem?_cons_zero]; rfl) (by kernel_rfl) (by kernel_rfl) (by kernel_rfl) (by exact fun _ _ _ h => h) (Or.inl ⟨by rfl, ?_⟩) (by assumption) ?_
            rotate_left 1
            · (intro w hSw; (try dsimp only at hSw); go_simp; try with_reducible rfl)
            try simp only [Act.put, List.setIfInBounds_toArray, List.set_cons_zero, List.set_cons_succ]
            refine wpAnyH_take (i := 24) (v := ?_) (by simp only [List.getElem?_toArray, List.getElem?_cons_succ, List.getElem?_cons_zero]; rfl) (by kernel_rfl) (by kernel_rfl) (by kernel_rfl) (by exact fun _ _ _ h => h) (Or.inl ⟨by rfl, ?_⟩) (by assumption) ?_
            rotate_left 1
            · (intro w hSw; (try dsimp only at hSw); go_simp; try with_reducible rfl)
            try simp only [Act.put, List.setIfInBounds_toArray, List.set_cons_zero, List.set_cons_succ]
            refine wpAnyH_ready (rs := [18]) (by kernel_rfl) (by simp) ?_
            refine AllReadyH.cons (by simp only [List.getElem?_toArray, List.getElem?_cons_succ, List.getElem?_cons_zero]; rfl) (fun K hK => ?_) AllReadyH.nil
            go_simp
            (refine (wrOut w.heap.size svp m bs _ hP).mono ?_; rintro e w' ⟨v', rfl, hown, hbel⟩; have hx0 := (hbel.cell (p := ⟨w.heap.size + 1, 0, none⟩) (by exact htwo.r.lt.1)).trans h0; have hcp := conv_bytes (P := Try.prog) w' 22 5 9 Try.underlying22 Try.underlying5 Try.underlying9 (Bytes.of_owns hown htwo.p.byt); have hcr2 := conv_bytes (P := Try.prog) w' 22 5 9 Try.underlying22 Try.underlying5 Try.underlying9 ((Bytes.of_owns htwo.r.own htwo.r.byt).below (w' := w') (B := wc.heap.size) ((Below.drew (Below.refl _ wc)).trans hbel) (Nat.le_refl _)))
            go_wp2_with fail
            refine hK.out _ _ ?_ (fun hHeld2 => ?_)
            · exact ⟨hx0, hcr2⟩
            clear hK K
            try simp only [Act.put, List.setIfInBounds_toArray, List.set_cons_zero, List.set_cons_succ]
            clear hHeld
            have hHeld := hHeld2
            clear hHeld2
            refine wpAnyH_ready (rs := [19]) (by kernel_rfl) (by simp) ?_
            refine AllReadyH.cons (by simp only [List.getElem?_toArray, List.getElem?_cons_succ, List.getElem?_cons_zero]; rfl) (fun K hK => ?_) AllReadyH.nil
            go_simp
            refine hK.out _ _ ?_ (fun hHeld2 => ?_)
            · exact hHeld
            clear hK K
            try simp only [Act.put, List.setIfInBounds_toArray, List.set_cons_zero, List.set_cons_succ]
            clear hHeld
            have hHeld := hHeld2
            clear hHeld2
            refine wpAnyH_take (i := 25) (v := ?_) (by simp only [List.getElem?_toArray, List.getElem?_cons_succ, List.getElem?_cons_zero]; rfl) (by kernel_rfl) (by kernel_rfl) (by kernel_rfl) (by exact fun _ _ _ h => h) (Or.inl ⟨by rfl, ?_⟩) (by assumption) ?_
            rotate_left 1
            · (intro w hSw; (try dsimp only at hSw); go_simp; try with_reducible rfl)
            try simp only [Act.put, List.setIfInBounds_toArray, List.set_cons_zero, List.set_cons_succ]
            refine wpAnyH_take (i := 26) (v := ?_) (by simp only [List.getElem?_toArray, List.getElem?_cons_succ, List.getElem?_cons_zero]; rfl) (by kernel_rfl) (by kernel_rfl) (by kernel_rfl) (by exact fun _ _ _ h => h) (Or.inl ⟨by rfl, ?_⟩) (by assumption) ?_
            rotate_left 1
            · (intro w hSw; (try dsimp only at hSw); go_simp; try with_reducible rfl)
            try simp only [Act.put, List.setIfInBounds_toArray, List.set_cons_zero, List.set_cons_succ]
            refine wpAnyH_take (i := 27) (v := ?_) (by simp only [List.getElem?_toArray, List.getElem?_cons_succ, List.getElem?_cons_zero]; rfl) (by kernel_rfl) (by kernel_rfl) (by kernel_rfl) (by exact fun _ _ _ h => h) (Or.inl ⟨by rfl, ?_⟩) (by assumption) ?_
            rotate_left 1
            · (intro w hSw; (try dsimp only at hSw); go_simp; try with_reducible rfl)
            try simp only [Act.put, List.setIfInBounds_toArray, List.set_cons_zero, List.set_cons_succ]
            refine wpAnyH_done (by kernel_rfl) ?_ _
            all_goals
              go_wp2_with fail
              go_meet
              case rel => exact ⟨rfl, svp, _, bs, htwo.fresh ((Below.drew (Below.refl _ wc)).trans hbel) htwo.size⟩
          · have hd : decide ((j : Int) < 100) = false := decide_eq_false (by omega)
            go_quiet ((go_at_call 26; exact Calls.quiet_of_same ((wrLen w.heap.size svp m bs _ (htwo.p.drewN _)).mono (fun _ _ h => ⟨h.1, h.2.symm⟩))))
            go_wp2_with fail
            go_meet
            case rel => exact ⟨rfl, svp, _, bs, htwo.fresh (below_drewN (Below.refl _ _) _) htwo.size⟩
        case rest =>
          obtain ⟨rfl, svp, svr, bs, htwo⟩ := hcut
          go_wp2
          go_roundw
          case rel => exact ⟨j + 1, by omega, by go_num, svp, svr, bs, htwo⟩
          case measure => simp [intOf]; omega
    · have : j = len := by omega
      subst this
      go_wp2_with (go_at_call 17; refine (awake _).mono ?_; rintro e w1 ⟨rfl, hbel⟩)
      go_ret
      exact ⟨rfl, htwo.bel.trans (hbel.mono htwo.size)⟩

set_option maxRecDepth 100000 in
theorem walkErr (m : Int) (v1 : Value) (w : World) (hm : m < 0 ∨ 1048576 < m) :
    Calls Try.prog 4 #[.int .i64 m, v1] w fun e w' => e = .returned (.bool true) ∧ Below w.heap.size w w' := by
  go_enter Try.func4, Try.ntmps4
  go_wp2_with (first | (go_at_call 18; refine (newWriterErr m _ hm).mono ?_; rintro e w' ⟨rfl, rfl⟩) | (go_at_call 19; refine (newRefErr m _ hm).mono ?_; rintro e w' ⟨rfl, rfl⟩))
  go_loop [9] (fun i => i = .int .i64 0) (fun _ => 0)
  case atStart => rfl
  case round =>
    subst hrel
    go_wp2_with (go_at_call 17; refine (awake _).mono ?_; rintro e w1 ⟨rfl, hbel⟩)
    go_ret
    exact ⟨rfl, hbel⟩

theorem own : ownKnob Try.prog.godebug = none := by kernel_rfl
theorem laidOut : laidOutB Try.prog = true := by kernel_rfl

theorem walk (m : Int) (v1 : Value) (w : World) (w0 : (Lit.int .i64 m).wf = true) (w1 : ∃ len f, Script w v1 len f) :
    Calls Try.prog 4 #[.int .i64 m, v1] w fun e w' => e = .returned (.bool true) ∧ Below w.heap.size w w' := by
  obtain ⟨len, f, hs⟩ := w1
  by_cases hm : m < 0 ∨ 1048576 < m
  · exact walkErr m v1 w hm
  · obtain ⟨k, rfl⟩ := Int.eq_ofNat_of_zero_le (show 0 ≤ m by omega)
    exact walkOk k v1 len f w (by omega) hs

set_option maxRecDepth 100000 in
theorem lifted (os : Os) (started : os.Started) (H : Type) (enc : TypeId × Value → H) :
    ReturnsInHanded {} Try.checked os 4 .any (Rows.wireWritesSpec.pre6 enc Try.prog Try.f4 Rows.wireWritesRow.domain false) (Rows.wireWritesSpec.post enc Try.prog Try.f4 false true false false) := by
  refine returnsInHanded_of_change_sized (C := Try.checked) own started (by kernel_rfl) Try.func4
    (ChangeSpec.witness6 (enc := enc) (C := Try.checked) false ⟨#[], #[.int .i64 0, .slice none 0 0], []⟩ 8 (by kernel_rfl) (by kernel_rfl) (by kernel_rfl) (by kernel_rfl)) ?_
  intro W base args ds gs before hval0 hW hcnd hsz0 _
  have hsz : (DataW.weightsEach Try.prog (Try.f4.params.toList ++ Rows.wireWritesSpec.plain.varTypes Try.prog) (ds ++ gs)).all (· ≤ reachBytes) = true := hsz0
  clear hsz0
  have hval : ∀ (j : Nat) t v, Try.f4.params[j]? = some t → args[j]? = some v → Value.okWide Try.prog W .any base t v := hval0
  have hW' := hW
  obtain ⟨p, q, hA0, hV, rfl, hfz, hnd⟩ := hW
  have hA : DataW.TrodAll enc Try.prog W 0 (fun _ => true) true Try.f4.params.toList args.toList ds p := hA0
  rw [Try.params4] at hA hval hsz
  obtain ⟨v0, vs0, d0, ds0, p0, q0, hargs, rfl, rfl, h0, r0⟩ := trodAll_cons hA
  obtain ⟨v1, vs1, d1, ds1, p1, q1, rfl, rfl, rfl, h1, r1⟩ := trodAll_cons r0
  obtain ⟨rfl, rfl, rfl⟩ := trodAll_nil r1
  obtain rfl : args = #[v0, v1] := by cases args; simp_all
  obtain ⟨rfl, rfl⟩ := trodVars_none hV
  obtain ⟨a0, rfl, rfl, rfl, w0⟩ := open_int Try.underlying3 (hval 0 3 v0 rfl rfl) h0
  have k1 := h1
  have lt1 : ∀ x ∈ p1, x.block < W.heap.size := by obtain ⟨m, hm⟩ := k1; exact DataW.trod_lt m _ _ _ hm
  have w1 := arg_script (hval 1 23 v1 rfl rfl) h1 (light_arg (j := 1) hsz rfl rfl)
  clear hA0 hval0
  refine (walk a0 v1 W w0 w1).mono fun e W' ⟨he, bel⟩ => ?_
  subst he
  exact ⟨_, rfl, _, _, _, [], _, [], hW', trodAll_mk1 (shut_bool Try.underlying4 _), (trodAll_cons_mk (shut_int Try.underlying3 w0) (trodAll_cons_mk (Below.trod laidOut (by kernel_rfl) (of_decide_eq_true (by kernel_rfl)) k1 bel lt1) trodAll_mk0)), rfl, bel.frame _, fun h => by cases h⟩

theorem over : Rows.wireWritesRow.holds Try.pinned (OpenSpec.ofChange Rows.wireWritesSpec) :=
  OpenClaim.holds_of_wide 4 Try.f4 rfl rfl rfl rfl rfl rfl rfl ⟨rfl, rfl, rfl, rfl, rfl⟩ rfl rfl rfl rfl rfl (by kernel_rfl) Try.func4 (by kernel_rfl)
    (of_decide_eq_true (by kernel_rfl)) (by unfold Func.isWrapper; first | (rw [if_pos (by decide +kernel)]; kernel_rfl) | (rw [if_neg (by decide +kernel)]; exact ⟨rfl, rfl⟩))
    (fun os started H enc _ => lifted os started H enc)

theorem proved : Rows.WireWritesSaid := over
#print axioms proved
end Go.Proofs.Ytgedfecleablpaa.wireWrites
