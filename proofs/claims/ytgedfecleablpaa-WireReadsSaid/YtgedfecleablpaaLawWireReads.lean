/- PROVED: the law WireReads: a reader of any bytes under any script of calls answers what the document's own reader answers, call by call, and stands where it stands; the arguments read as before. For every list of bytes and every script. No condition. -/
import Derived.Test.YtgedfecleablpaaScrA
import Derived.Test.YtgedfecleablpaaRefR
import Derived.ProofKit
import Derived.ShutString
import Derived.ChangeOld
import Derived.Below
import Derived.Deep.CutBlock
import Derived.Deep.DeepCutAuto
import Derived.Deep.RegionHeld
namespace Go.Proofs.Ytgedfecleablpaa.wireReads
open Go.ChangeShapes Go.WideShapes Go.ChangeAt Go.RowKit
set_option linter.unusedVariables false
set_option linter.unusedSimpArgs false

/-- The program's reader and the reference's, side by side, each in blocks of its own from B on. -/
structure Two (B : Nat) (w0 : World) (rb rf : Nat) (sv v : Value) (zs : List Int) (k : Nat) (k' : Nat) (w : World) : Prop where
  p : Rd w rb sv zs k
  r : Rf w rf v zs k'
  d1 : rb ≠ rf
  d2 : sv.ownBlock ≠ some rf
  b1 : B ≤ rb
  b2 : B ≤ rf
  b3 : ∀ k, sv.ownBlock = some k → B ≤ k
  b4 : ∀ b, v.ownBlock = some b → zs ≠ [] → b < B
  bel : Below B w0 w

theorem Two.size {B : Nat} {w0 w : World} {rb rf : Nat} {sv v : Value} {zs : List Int} {k k' : Nat} (h : Two B w0 rb rf sv v zs k k' w) : B ≤ w.heap.size := Nat.le_trans h.b1 (Nat.le_of_lt h.p.lt.1)
theorem Two.stepP {B : Nat} {w0 w w' : World} {rb rf : Nat} {sv v : Value} {zs : List Int} {k k' k2 : Nat} (h : Two B w0 rb rf sv v zs k k' w) (ht : RdTo w rb sv zs k2 w') : Two B w0 rb rf sv v zs k2 k' w' :=
  ⟨ht.1, h.r.only ht.2 (fun e => h.d1 e.symm) (fun b hb hz e => by have := h.b4 b hb hz; have := h.b1; omega), h.d1, h.d2, h.b1, h.b2, h.b3, h.b4, h.bel.trans (ht.2.below h.size (fun i hi => by subst hi; exact h.b1))⟩
theorem Two.stepR {B : Nat} {w0 w w' : World} {rb rf : Nat} {sv v : Value} {zs : List Int} {k k' k2 : Nat} (h : Two B w0 rb rf sv v zs k k' w) (ht : RfTo w rf v zs k2 w') : Two B w0 rb rf sv v zs k k2 w' :=
  ⟨h.p.only ht.2 h.d1 (fun b hb e => h.d2 (by rw [hb, e])), ht.1, h.d1, h.d2, h.b1, h.b2, h.b3, h.b4, h.bel.trans (ht.2.below h.size (fun i hi => by subst hi; exact h.b2))⟩
theorem Two.fresh {B : Nat} {w0 w w' : World} {rb rf : Nat} {sv v : Value} {zs : List Int} {k k' : Nat} (h : Two B w0 rb rf sv v zs k k' w) (hb : Below w.heap.size w w') : Two B w0 rb rf sv v zs k k' w' :=
  ⟨h.p.only (Only.of_below hb (fun _ => False)) (fun h => h) (fun _ _ h => h), h.r.only (Only.of_below hb (fun _ => False)) (fun h => h) (fun _ _ _ h => h), h.d1, h.d2, h.b1, h.b2, h.b3, h.b4, h.bel.trans (hb.mono h.size)⟩

theorem rdPart_byt {zs : List Int} (h : Bytish zs) (k : Nat) (n err : Int) : Bytish (rdPart zs k n err) := by
  unfold rdPart
  split
  · exact (h.drop k).take _
  · exact Bytish.nil
theorem keeps {w w1 : World} {o : Obj} {rb : Nat} (h : Only (fun b => b = rb) (w.alloc o) w1) (hl : rb < w.heap.size) : w1.heap[w.heap.size]? = some o :=
  h.heap (heap_alloc_new w o) (by omega)

set_option maxHeartbeats 4000000 in
set_option maxRecDepth 100000 in
theorem walkB (v0 v1 : Value) (zs : List Int) (len : Nat) (f : Nat → OpV) (w : World) (hb : Bytes w v0 zs) (hl : zs.length ≤ 140737488351232) (hsc : Script w v1 len f) :
    Calls Try.prog 3 #[v0, v1] w fun e w' => e = .returned (.bool true) ∧ Below w.heap.size w w' := by
  obtain ⟨i0, hi, hz0, hz1, hz2⟩ := info_parts info_u8
  obtain ⟨ao, cap, rfl, hlc, hcap, hnil, hops⟩ := hsc
  obtain ⟨bo, bcap, rfl, hb1, hb2, hb3, hbz, hbc⟩ := id hb
  have Hb := Lib.hid hb
  clear hb hbc
  go_enter Try.func3, Try.ntmps3
  go_wp2_with (first | (at_builtin; refine wpList_append_src rfl (.tmp 21) (.tmp 22) 22 rfl 5 i0 (.int .u8 0) 1 1 Try.underlying22 hi hz0 hz1 hz2 rfl (by decide) w.heap.size (.slice (some ⟨w.heap.size, 0, none⟩) 0 0) 0 [] rfl (by exact World.ownsRow_made _ #[] 0 (Nat.le_refl _) (Nat.zero_le _) rfl) (by simp) (.slice bo zs.length bcap) zs.length (zs.map (Value.int .u8)) rfl (by exact (Src.of_bytes Hb.out).alloc _) (by unfold maxLen; omega) (by omega) ?_; intro v' w1 hown1 hgrow1 hnew1) | (go_at_call 8; refine (newReader _ zs _ (by exact Bytes.of_owns (by simpa using hown1) hbz) (by omega)).mono ?_; rintro e w2 ⟨rb, sv, rfl, hrd, hbel2, hge1, hge2⟩))
  have hbel1 : Below w.heap.size w w1 := Below.grown (B := w.heap.size) ((Below.refl _ _).alloc (Nat.le_refl _) _) hgrow1 (by simp) (fun k hk => by simp [Value.ownBlock] at hk; omega)
  have hbel12 : Below w.heap.size w w2 := hbel1.trans (hbel2.mono hbel1.size)
  have hbyt2 := (Hb.out).below hbel12 (Nat.le_refl _)
  have hlt2 := hrd.lt
  have hstart : Two w.heap.size w rb w2.heap.size sv (.slice bo zs.length bcap) zs 0 0 (w2.alloc (.cells #[.slice bo zs.length bcap, .int .i64 0] 28)) := by
    have hn := Hb.out.lt
    refine ⟨hrd.only (Only.alloc (Only.refl (fun _ => False) _) _) (fun h => h) (fun _ _ h => h), ⟨heap_alloc_new w2 _, hbyt2.only (Only.alloc (Only.refl (fun _ => False) _) _) (fun _ _ _ h => h), fun b hb hz => ?_, Nat.zero_le _, by omega⟩, by omega, fun e => ?_, ?_, hbel12.size, fun k hk => ?_, hn, hbel12.trans ((Below.refl _ _).alloc hbel12.size _)⟩
    · have := hn b hb hz; have := hbel12.size; omega
    · have := hlt2.2 _ e; omega
    · have := hbel1.size; omega
    · have := hge2 k hk; have := hbel1.size; omega
  clear hown1 hgrow1 hnew1 hrd hbel2 hge1 hge2 hbel1 hbel12 hbyt2 hlt2
  go_loopw [7] (fun i wr => ∃ j k : Nat, j ≤ len ∧ i = .int .i64 j ∧ Two w.heap.size w rb w2.heap.size sv (.slice bo zs.length bcap) zs k k wr) (fun i _ => len - (intOf i).toNat)
  case atStart => exact ⟨0, 0, Nat.zero_le _, rfl, hstart⟩
  case round =>
    obtain ⟨j, k, hj, rfl, htwo⟩ := hrel
    clear hstart
    by_cases hlt : j < len
    · obtain ⟨x, rfl⟩ : ∃ x, ao = some x := by cases ao with | none => have := hnil rfl; omega | some x => exact ⟨x, rfl⟩
      have hop := hops x rfl j hlt
      obtain ⟨xb, xo, rfl⟩ : ∃ xb xo, x = ⟨xb, xo, none⟩ := ⟨_, _, plain_of_cell (hops x rfl 0 (by omega)).c0⟩
      have hxb : xb < w.heap.size := by have := World.block_lt_of_cell? w _ hop.c0; rwa [add_block] at this
      have c0 := (htwo.bel.cell (by rw [add_block]; exact hxb)).trans hop.c0
      have c1 := (htwo.bel.cell (by rw [add_block]; exact hxb)).trans hop.c1
      have c2 := (htwo.bel.cell (by rw [add_block]; exact hxb)).trans hop.c2
      have c3 := (htwo.bel.cell (by rw [add_block]; exact hxb)).trans hop.c3
      have c4 := (htwo.bel.cell (by rw [add_block]; exact hxb)).trans hop.c4
      rw [add_lit] at c0 c1 c2 c3 c4
      simp only [← Nat.add_assoc, Nat.add_zero] at c0 c1 c2 c3 c4
      have hby := hop.by_
      have rn := hop.rn
      clear hop
      generalize f j = o at *
      obtain ⟨what, n, X, Y, b, bz⟩ := o
      simp only at hby rn
      obtain ⟨bo2, bcap2, hbv, _⟩ := id hby
      subst hbv
      clear hby hops hnil
      have ht1 := fun o => htwo.fresh ((Below.refl wr.heap.size wr).alloc (Nat.le_refl _) o)
      go_upto_block 2 with fail
      go_cut [] (fun wx => ∃ k : Nat, Two w.heap.size w rb w2.heap.size sv (.slice bo zs.length bcap) zs k k wx)
      case first =>
        go_wp2_with (first | (go_at_call 9; refine (rdUint rb sv zs k n _ (by exact (ht1 _).p) rn.1 rn.2).mono ?_; rintro e w3 ⟨rfl, hto⟩; have ht2 := (ht1 _).stepP hto; have hob := keeps hto.2 htwo.p.lt.1; have d1 := cell_blk hob 1; simp at d1; clear hto hob) | (go_at_call 11; refine (rdInt rb sv zs k n _ (by exact (ht1 _).p) rn.1 rn.2).mono ?_; rintro e w3 ⟨rfl, hto⟩; have ht2 := (ht1 _).stepP hto; have hob := keeps hto.2 htwo.p.lt.1; have d1 := cell_blk hob 1; simp at d1; clear hto hob) | (go_at_call 10; refine (rfUint w2.heap.size (.slice bo zs.length bcap) zs k n _ (by exact ht2.r)).mono ?_; rintro e w4 ⟨rfl, hto2⟩; have ht3 := ht2.stepR hto2; clear hto2) | (go_at_call 12; refine (rfInt w2.heap.size (.slice bo zs.length bcap) zs k n _ (by exact ht2.r)).mono ?_; rintro e w4 ⟨rfl, hto2⟩; have ht3 := ht2.stepR hto2; clear hto2) | (go_at_call 13; refine (rdBytes rb sv zs k n _ (by exact (ht1 _).p) rn.1 rn.2).mono ?_; rintro e w3 ⟨vp, rfl, hto, hownp⟩; have ht2 := (ht1 _).stepP hto; have hob := keeps hto.2 htwo.p.lt.1; have d1 := cell_blk hob 1; simp at d1; clear hto hob) | (go_at_call 14; refine (rfBytes w2.heap.size (.slice bo zs.length bcap) zs k n _ (by exact ht2.r)).mono ?_; rintro e w4 ⟨vr, rfl, hto2, hownr⟩; have ht3 := ht2.stepR hto2; have hcp := conv_bytes (P := Try.prog) w4 22 5 9 Try.underlying22 Try.underlying5 Try.underlying9 ((Bytes.of_owns hownp (rdPart_byt htwo.p.byt _ _ _)).only hto2.2 (fun b hb _ e => by have q1 := (hownp.lt b hb).1; have q2 := htwo.r.lt; rw [World.size_alloc] at q1; omega)); have hcr := conv_bytes (P := Try.prog) w4 22 5 9 Try.underlying22 Try.underlying5 Try.underlying9 (Bytes.of_owns hownr (rdPart_byt htwo.p.byt _ _ _)); clear hto2 hownp hownr))
        all_goals
          go_meet
          case rel => exact ⟨_, ht3⟩
      case rest =>
        clear htwo ht1 c0 c1 c2 c3 c4 rn
        obtain ⟨k, htwo⟩ := hcut
        have g1 := cell_blk htwo.r.blk 1
        simp at g1
        have hk := htwo.p.le
        have hlen : ((zs.length : Int) - k != (zs.length : Int) - k) = false := by simp
        go_upto_region 24 with fail
        go_cut [132] (fun s132 wx => s132 = .bool false ∧ ∃ k : Nat, Two w.heap.size w rb w2.heap.size sv (.slice bo zs.length bcap) zs k k wx)
        case first =>
          have hP : Rd wc.drew rb sv zs k := htwo.p.drawn ⟨1, rfl⟩
          have hws : IntKind.i64.wrap ((zs.length : Int) - k) = (zs.length : Int) - k := IntWalk.i64_in _ (by omega)
          refine wp_region_held_drew (S := fun w' => w'.cell? ⟨w2.heap.size, 1, none⟩ = some (.int .i64 k)) (by kernel_rfl) g1 (fun hHeld => ?_)
          refine wpAnyH_take (i := 0) (v := ?_) (by simp only [List.getElem?_toArray, List.getElem?_cons_succ, List.getElem?_cons_zero]; rfl) (by kernel_rfl) (by kernel_rfl) (by kernel_rfl) (by exact fun _ _ _ h => h) (Or.inl ⟨by rfl, ?_⟩) (by assumption) ?_
          rotate_left 1
          · (intro w hSw; (try dsimp only at hSw); go_simp; try with_reducible rfl)
          try simp only [Act.put, List.setIfInBounds_toArray, List.set_cons_zero, List.set_cons_succ]
          refine wpAnyH_take (i := 2) (v := ?_) (by simp only [List.getElem?_toArray, List.getElem?_cons_succ, List.getElem?_cons_zero]; rfl) (by kernel_rfl) (by kernel_rfl) (by kernel_rfl) (by exact fun _ _ _ h => h) (Or.inl ⟨by rfl, ?_⟩) (by assumption) ?_
          rotate_left 1
          · (intro w hSw; (try dsimp only at hSw); go_simp; try with_reducible rfl)
          try simp only [Act.put, List.setIfInBounds_toArray, List.set_cons_zero, List.set_cons_succ]
          refine wpAnyH_take (i := 3) (v := ?_) (by simp only [List.getElem?_toArray, List.getElem?_cons_succ, List.getElem?_cons_zero]; rfl) (by kernel_rfl) (by kernel_rfl) (by kernel_rfl) (by exact fun _ _ _ h => h) (Or.inl ⟨by rfl, ?_⟩) (by assumption) ?_
          rotate_left 1
          · (intro w hSw; (try dsimp only at hSw); go_simp; try with_reducible rfl)
          try simp only [Act.put, List.setIfInBounds_toArray, List.set_cons_zero, List.set_cons_succ]
          refine wpAnyH_take (i := 4) (v := ?_) (by simp only [List.getElem?_toArray, List.getElem?_cons_succ, List.getElem?_cons_zero]; rfl) (by kernel_rfl) (by kernel_rfl) (by kernel_rfl) (by exact fun _ _ _ h => h) (Or.inl ⟨by rfl, ?_⟩) (by assumption) ?_
          rotate_left 1
          · (intro w hSw; (try dsimp only at hSw); go_simp; try with_reducible rfl)
          try simp only [Act.put, List.setIfInBounds_toArray, List.set_cons_zero, List.set_cons_succ]
          refine wpAnyH_take (i := 5) (v := ?_) (by simp only [List.getElem?_toArray, List.getElem?_cons_succ, List.getElem?_cons_zero]; rfl) (by kernel_rfl) (by kernel_rfl) (by kernel_rfl) (by exact fun _ _ _ h => h) (Or.inl ⟨by rfl, ?_⟩) (by assumption) ?_
          rotate_left 1
          · (intro w hSw; (try dsimp only at hSw); go_simp; try with_reducible rfl)
          try simp only [Act.put, List.setIfInBounds_toArray, List.set_cons_zero, List.set_cons_succ]
          refine wpAnyH_ready (rs := [1]) (by kernel_rfl) (by simp) ?_
          refine AllReadyH.cons (by simp only [List.getElem?_toArray, List.getElem?_cons_succ, List.getElem?_cons_zero]; rfl) (fun K hK => ?_) AllReadyH.nil
          go_simp
          (refine (rdAtM rb sv zs k _ hP).mono ?_; rintro e w' ⟨rfl, rfl⟩)
          go_wp2_with fail
          refine hK.out _ _ ?_ (fun hHeld2 => ?_)
          · exact hHeld
          clear hK K
          try simp only [Act.put, List.setIfInBounds_toArray, List.set_cons_zero, List.set_cons_succ]
          clear hHeld
          have hHeld := hHeld2
          clear hHeld2
          refine wpAnyH_take (i := 6) (v := ?_) (by simp only [List.getElem?_toArray, List.getElem?_cons_succ, List.getElem?_cons_zero]; rfl) (by kernel_rfl) (by kernel_rfl) (by kernel_rfl) (by exact fun _ _ _ h => h) (Or.inl ⟨by rfl, ?_⟩) (by assumption) ?_
          rotate_left 1
          · (intro w hSw; (try dsimp only at hSw); go_simp; try with_reducible rfl)
          try simp only [Act.put, List.setIfInBounds_toArray, List.set_cons_zero, List.set_cons_succ]
          refine wpAnyH_take (i := 7) (v := ?_) (by simp only [List.getElem?_toArray, List.getElem?_cons_succ, List.getElem?_cons_zero]; rfl) (by kernel_rfl) (by kernel_rfl) (by kernel_rfl) (by exact fun _ _ _ h => h) (Or.inl ⟨by rfl, ?_⟩) (by assumption) ?_
          rotate_left 1
          · (intro w hSw; (try dsimp only at hSw); go_simp; try with_reducible rfl)
          try simp only [Act.put, List.setIfInBounds_toArray, List.set_cons_zero, List.set_cons_succ]
          refine wpAnyH_take (i := 8) (v := ?_) (by simp only [List.getElem?_toArray, List.getElem?_cons_succ, List.getElem?_cons_zero]; rfl) (by kernel_rfl) (by kernel_rfl) (by kernel_rfl) (by exact fun _ _ _ h => h) (Or.inl ⟨by rfl, ?_⟩) (by assumption) ?_
          rotate_left 1
          · (intro w hSw; (try dsimp only at hSw); go_simp; try with_reducible rfl)
          try simp only [Act.put, List.setIfInBounds_toArray, List.set_cons_zero, List.set_cons_succ]
          refine wpAnyH_take (i := 10) (v := ?_) (by simp only [List.getElem?_toArray, List.getElem?_cons_succ, List.getElem?_cons_zero]; rfl) (by kernel_rfl) (by kernel_rfl) (by kernel_rfl) (by exact fun _ _ _ h => h) (Or.inl ⟨by rfl, ?_⟩) (by assumption) ?_
          rotate_left 1
          · (intro w hSw; (try dsimp only at hSw); go_simp; try with_reducible rfl)
          try simp only [Act.put, List.setIfInBounds_toArray, List.set_cons_zero, List.set_cons_succ]
          refine wpAnyH_take (i := 11) (v := ?_) (by simp only [List.getElem?_toArray, List.getElem?_cons_succ, List.getElem?_cons_zero]; rfl) (by kernel_rfl) (by kernel_rfl) (by kernel_rfl) (by exact fun _ _ _ h => h) (Or.inl ⟨by rfl, ?_⟩) (by assumption) ?_
          rotate_left 1
          · (intro w hSw; (try dsimp only at hSw); go_simp; try with_reducible rfl)
          try simp only [Act.put, List.setIfInBounds_toArray, List.set_cons_zero, List.set_cons_succ]
          refine wpAnyH_take (i := 12) (v := ?_) (by simp only [List.getElem?_toArray, List.getElem?_cons_succ, List.getElem?_cons_zero]; rfl) (by kernel_rfl) (by kernel_rfl) (by kernel_rfl) (by exact fun _ _ _ h => h) (Or.inl ⟨by rfl, ?_⟩) (by assumption) ?_
          rotate_left 1
          · (intro w hSw; (try dsimp only at hSw); go_simp; try with_reducible rfl)
          try simp only [Act.put, List.setIfInBounds_toArray, List.set_cons_zero, List.set_cons_succ]
          refine wpAnyH_take (i := 13) (v := ?_) (by simp only [List.getElem?_toArray, List.getElem?_cons_succ, List.getElem?_cons_zero]; rfl) (by kernel_rfl) (by kernel_rfl) (by kernel_rfl) (by exact fun _ _ _ h => h) (Or.inl ⟨by rfl, ?_⟩) (by assumption) ?_
          rotate_left 1
          · (intro w hSw; (try dsimp only at hSw); go_simp; try with_reducible rfl)
          try simp only [Act.put, List.setIfInBounds_toArray, List.set_cons_zero, List.set_cons_succ]
          refine wpAnyH_take (i := 14) (v := ?_) (by simp only [List.getElem?_toArray, List.getElem?_cons_succ, List.getElem?_cons_zero]; rfl) (by kernel_rfl) (by kernel_rfl) (by kernel_rfl) (by exact fun _ _ _ h => h) (Or.inl ⟨by rfl, ?_⟩) (by assumption) ?_
          rotate_left 1
          · (intro w hSw; (try dsimp only at hSw); go_simp; try with_reducible rfl)
          try simp only [Act.put, List.setIfInBounds_toArray, List.set_cons_zero, List.set_cons_succ]
          refine wpAnyH_take (i := 15) (v := ?_) (by simp only [List.getElem?_toArray, List.getElem?_cons_succ, List.getElem?_cons_zero]; rfl) (by kernel_rfl) (by kernel_rfl) (by kernel_rfl) (by exact fun _ _ _ h => h) (Or.inl ⟨by rfl, ?_⟩) (by assumption) ?_
          rotate_left 1
          · (intro w hSw; (try dsimp only at hSw); go_simp; try with_reducible rfl)
          try simp only [Act.put, List.setIfInBounds_toArray, List.set_cons_zero, List.set_cons_succ]
          refine wpAnyH_take (i := 16) (v := ?_) (by simp only [List.getElem?_toArray, List.getElem?_cons_succ, List.getElem?_cons_zero]; rfl) (by kernel_rfl) (by kernel_rfl) (by kernel_rfl) (by exact fun _ _ _ h => h) (Or.inl ⟨by rfl, ?_⟩) (by assumption) ?_
          rotate_left 1
          · (intro w hSw; (try dsimp only at hSw); go_simp; try with_reducible rfl)
          try simp only [Act.put, List.setIfInBounds_toArray, List.set_cons_zero, List.set_cons_succ]
          refine wpAnyH_ready (rs := [9]) (by kernel_rfl) (by simp) ?_
          refine AllReadyH.cons (by simp only [List.getElem?_toArray, List.getElem?_cons_succ, List.getElem?_cons_zero]; rfl) (fun K hK => ?_) AllReadyH.nil
          go_simp
          (refine (rdLeftM rb sv zs k _ hP).mono ?_; rintro e w' ⟨rfl, hdr⟩)
          go_wp2_with fail
          refine hK.out _ _ ?_ (fun hHeld2 => ?_)
          · exact (hdr.cell _).trans g1
          clear hK K
          try simp only [Act.put, List.setIfInBounds_toArray, List.set_cons_zero, List.set_cons_succ]
          clear hHeld
          have hHeld := hHeld2
          clear hHeld2
          refine wpAnyH_take (i := 17) (v := ?_) (by simp only [List.getElem?_toArray, List.getElem?_cons_succ, List.getElem?_cons_zero]; rfl) (by kernel_rfl) (by kernel_rfl) (by kernel_rfl) (by exact fun _ _ _ h => h) (Or.inl ⟨by rfl, ?_⟩) (by assumption) ?_
          rotate_left 1
          · (intro w hSw; (try dsimp only at hSw); go_simp; try with_reducible rfl)
          try simp only [Act.put, List.setIfInBounds_toArray, List.set_cons_zero, List.set_cons_succ]
          refine wpAnyH_take (i := 18) (v := ?_) (by simp only [List.getElem?_toArray, List.getElem?_cons_succ, List.getElem?_cons_zero]; rfl) (by kernel_rfl) (by kernel_rfl) (by kernel_rfl) (by exact fun _ _ _ h => h) (Or.inl ⟨by rfl, ?_⟩) (by assumption) ?_
          rotate_left 1
          · (intro w hSw; (try dsimp only at hSw); go_simp; try with_reducible rfl)
          try simp only [Act.put, List.setIfInBounds_toArray, List.set_cons_zero, List.set_cons_succ]
          refine wpAnyH_done (by kernel_rfl) ?_ _
          go_wp2_with fail
          go_meet
          case rel => exact ⟨rfl, k, htwo.fresh (by obtain ⟨q, rfl⟩ := hdr; exact below_drewN (Below.drew (Below.refl _ _)) _)⟩
        case rest =>
          obtain ⟨rfl, k, htwo⟩ := hcut
          go_wp2
          go_roundw
          case rel => exact ⟨j + 1, k, by omega, by go_num, htwo⟩
          case measure => simp [intOf]; omega
    · have : j = len := by omega
      subst this
      go_wp2_with (go_at_call 17; refine (awake _).mono ?_; rintro e w1 ⟨rfl, hbel⟩)
      go_ret
      exact ⟨rfl, htwo.bel.trans (hbel.mono htwo.size)⟩

theorem own : ownKnob Try.prog.godebug = none := by kernel_rfl
theorem laidOut : laidOutB Try.prog = true := by kernel_rfl

theorem walk (v0 v1 : Value) (w : World) (w0 : ∃ zs, Bytes w v0 zs ∧ zs.length ≤ 140737488351232) (w1 : ∃ len f, Script w v1 len f) :
    Calls Try.prog 3 #[v0, v1] w fun e w' => e = .returned (.bool true) ∧ Below w.heap.size w w' := by
  obtain ⟨zs, hb, hl⟩ := w0
  obtain ⟨len, f, hs⟩ := w1
  exact walkB v0 v1 zs len f w hb hl hs

set_option maxRecDepth 100000 in
theorem lifted (os : Os) (started : os.Started) (H : Type) (enc : TypeId × Value → H) :
    ReturnsInHanded {} Try.checked os 3 .any (Rows.wireReadsSpec.pre6 enc Try.prog Try.f3 Rows.wireReadsRow.domain false) (Rows.wireReadsSpec.post enc Try.prog Try.f3 false true false false) := by
  refine returnsInHanded_of_change_sized (C := Try.checked) own started (by kernel_rfl) Try.func3
    (ChangeSpec.witness6 (enc := enc) (C := Try.checked) false ⟨#[], #[.slice none 0 0, .slice none 0 0], []⟩ 8 (by kernel_rfl) (by kernel_rfl) (by kernel_rfl) (by kernel_rfl)) ?_
  intro W base args ds gs before hval0 hW hcnd hsz0 _
  have hsz : (DataW.weightsEach Try.prog (Try.f3.params.toList ++ Rows.wireReadsSpec.plain.varTypes Try.prog) (ds ++ gs)).all (· ≤ reachBytes) = true := hsz0
  clear hsz0
  have hval : ∀ (j : Nat) t v, Try.f3.params[j]? = some t → args[j]? = some v → Value.okWide Try.prog W .any base t v := hval0
  have hW' := hW
  obtain ⟨p, q, hA0, hV, rfl, hfz, hnd⟩ := hW
  have hA : DataW.TrodAll enc Try.prog W 0 (fun _ => true) true Try.f3.params.toList args.toList ds p := hA0
  rw [Try.params3] at hA hval hsz
  obtain ⟨v0, vs0, d0, ds0, p0, q0, hargs, rfl, rfl, h0, r0⟩ := trodAll_cons hA
  obtain ⟨v1, vs1, d1, ds1, p1, q1, rfl, rfl, rfl, h1, r1⟩ := trodAll_cons r0
  obtain ⟨rfl, rfl, rfl⟩ := trodAll_nil r1
  obtain rfl : args = #[v0, v1] := by cases args; simp_all
  obtain ⟨rfl, rfl⟩ := trodVars_none hV
  have k0 := h0
  have lt0 : ∀ x ∈ p0, x.block < W.heap.size := by obtain ⟨m, hm⟩ := k0; exact DataW.trod_lt m _ _ _ hm
  have w0 := arg_bytes (hval 0 22 v0 rfl rfl) h0 (light_arg (j := 0) hsz rfl rfl)
  have k1 := h1
  have lt1 : ∀ x ∈ p1, x.block < W.heap.size := by obtain ⟨m, hm⟩ := k1; exact DataW.trod_lt m _ _ _ hm
  have w1 := arg_script (hval 1 23 v1 rfl rfl) h1 (light_arg (j := 1) hsz rfl rfl)
  clear hA0 hval0
  refine (walk v0 v1 W w0 w1).mono fun e W' ⟨he, bel⟩ => ?_
  subst he
  exact ⟨_, rfl, _, _, _, [], _, [], hW', trodAll_mk1 (shut_bool Try.underlying4 _), (trodAll_cons_mk (Below.trod laidOut (by kernel_rfl) (of_decide_eq_true (by kernel_rfl)) k0 bel lt0) (trodAll_cons_mk (Below.trod laidOut (by kernel_rfl) (of_decide_eq_true (by kernel_rfl)) k1 bel lt1) trodAll_mk0)), rfl, bel.frame _, fun h => by cases h⟩

theorem over : Rows.wireReadsRow.holds Try.pinned (OpenSpec.ofChange Rows.wireReadsSpec) :=
  OpenClaim.holds_of_wide 3 Try.f3 rfl rfl rfl rfl rfl rfl rfl ⟨rfl, rfl, rfl, rfl, rfl⟩ rfl rfl rfl rfl rfl (by kernel_rfl) Try.func3 (by kernel_rfl)
    (of_decide_eq_true (by kernel_rfl)) (by unfold Func.isWrapper; first | (rw [if_pos (by decide +kernel)]; kernel_rfl) | (rw [if_neg (by decide +kernel)]; exact ⟨rfl, rfl⟩))
    (fun os started H enc _ => lifted os started H enc)

theorem proved : Rows.WireReadsSaid := over
#print axioms proved
end Go.Proofs.Ytgedfecleablpaa.wireReads
