/- The document's own Decode of a pool. The bound is the form's own reach. -/
import Derived.Test.YtpiandkiijienaaDoorPolJ
import Derived.Test.YtpiandkiijienaaDoorPolH
namespace Go.Proofs.YtpiandkiijienaaDoor
open Go.RowKit
set_option linter.unusedVariables false
set_option linter.unusedSimpArgs false

theorem refRead (rb : Nat) (v : Value) (zs : List Int) (k : Nat) (tag : Int) (w : World) (h : Rf w rb v zs k) :
    Calls Tryd.prog 32 #[.pointer (some ⟨rb, 0, none⟩), .int .i64 tag] w (ReadTo w rb v zs k tag) := by
  by_cases h1 : tag = 1
  · subst h1
    by_cases hk : zs.length < k + 2
    · exact refReadTextShort rb v zs k w h hk
    by_cases hu : 256 < uAt zs k 2
    · exact refReadTextLong rb v zs k w h (by omega) hu
    by_cases hc : zs.length < k + 2 + (uAt zs k 2).toNat
    · exact refReadTextCut rb v zs k w h (by omega) (by omega) hc
    · exact refReadTextOk rb v zs k w h (by omega) (by omega) (by omega)
  by_cases h3 : tag = 3
  · subst h3
    by_cases hk : zs.length < k + 4
    · exact refReadIntShort rb v zs k w h hk
    · exact refReadIntOk rb v zs k w h (by omega)
  by_cases h5 : tag = 5
  · subst h5
    by_cases hk : zs.length < k + 8
    · exact refReadLongShort rb v zs k w h hk
    · exact refReadLongOk rb v zs k w h (by omega)
  by_cases h7 : tag = 7
  · subst h7
    by_cases hk : zs.length < k + 2
    · exact refReadClassShort rb v zs k w h hk
    · exact refReadClassOk rb v zs k w h (by omega)
  by_cases h9 : tag = 9
  · subst h9
    by_cases hk : zs.length < k + 2
    · exact refReadPair9Short rb v zs k w h hk
    by_cases hk2 : zs.length < k + 4
    · exact refReadPair9Cut rb v zs k w h (by omega) hk2
    · exact refReadPair9Ok rb v zs k w h (by omega)
  by_cases h10 : tag = 10
  · subst h10
    by_cases hk : zs.length < k + 2
    · exact refReadPair10Short rb v zs k w h hk
    by_cases hk2 : zs.length < k + 4
    · exact refReadPair10Cut rb v zs k w h (by omega) hk2
    · exact refReadPair10Ok rb v zs k w h (by omega)
  by_cases h12 : tag = 12
  · subst h12
    by_cases hk : zs.length < k + 2
    · exact refReadPair12Short rb v zs k w h hk
    by_cases hk2 : zs.length < k + 4
    · exact refReadPair12Cut rb v zs k w h (by omega) hk2
    · exact refReadPair12Ok rb v zs k w h (by omega)
  exact refReadNone rb v zs k tag w h h1 h3 h5 h7 (by omega)

theorem info_const : (Tryd.prog.info? 45).map (fun i => (i.zero, i.size, i.bytes)) = some (some (.agg #[.int .i64 0, .string ⟨#[]⟩, .int .i64 0, .int .i64 0, .int .i64 0]), 5, 48) := by kernel_rfl

/-- A reader made new. -/
theorem Rf.new {w : World} {v : Value} {zs : List Int} (hb : Bytes w v zs) (hl : zs.length ≤ 140737488355328) : Rf (w.alloc (.cells #[v, .int .i64 0] 68)) w.heap.size v zs 0 :=
  ⟨heap_alloc_new w _, hb.only ((Only.refl (fun _ => False) w).alloc _) (fun _ _ _ h => h), fun b hv hz e => by have := hb.lt b hv hz; omega, Nat.zero_le _, hl⟩

/-- A new row of one constant, as what is appended. -/
theorem Src.const {w : World} {m : Nat} (c : ConstV) (h : w.heap.size = m) : Src (w.alloc (.cells #[.int .i64 c.tag, .string c.text, .int .i64 c.n, .int .i64 c.a, .int .i64 c.b] 45)) 5 (.slice (some ⟨m, 0, none⟩) 1 1) 1 (cellsC c) := by
  subst h
  refine ⟨rfl, ?_, _, 1, rfl, (fun e => by cases e), fun ad hd j u hj => ?_⟩
  · intro x hx
    simp only [cellsC, List.mem_cons, List.mem_nil_iff, or_false] at hx
    rcases hx with rfl | rfl | rfl | rfl | rfl <;> rfl
  · cases hd
    rw [add_lit, Nat.zero_add, cell_blk (heap_alloc_new w _)]
    simpa [cellsC] using hj
/-- One constant more. -/
theorem RowC.more {w3 : World} {B : Nat} {v' : Value} {cs : List ConstV} {c : ConstV} (hown : w3.ownsRow B 45 5 v' (cs.length + 1) (cs.flatMap cellsC ++ cellsC c)) : RowC w3 B v' (cs ++ [c]) := by
  unfold RowC
  rw [List.length_append, List.flatMap_append]
  simpa using hown
theorem only_grown {w2 w3 : World} {v : Value} (hg : w2.grownBy w3 v.ownBlock) : Only (fun k => v.ownBlock = some k) w2 w3 := (Only.refl _ _).grown hg (fun k hk _ => hk)

/-- What Decode leaves. -/
def PoolTo (w : World) (zs : List Int) (e : Ending) (w' : World) : Prop :=
  ∃ v' cs n e0, e = .returned (.tuple #[v', .int .i64 n, .int .i64 e0]) ∧ DecP zs cs n e0 ∧ Only (fun _ => False) w w' ∧ RowC w' w.heap.size v' cs ∧ ∀ c ∈ cs, Fits c
theorem PoolTo.none {w w' : World} {zs : List Int} {e0 : Int} (h : DecP zs [] 0 e0) (ho : Only (fun _ => False) w w') : PoolTo w zs (.returned (.tuple #[.slice .none 0 0, .int .i64 0, .int .i64 e0])) w' :=
  ⟨_, [], 0, e0, rfl, h, ho, World.ownsRow_nil _ _ _ _, fun c hc => by cases hc⟩

set_option maxHeartbeats 4000000 in
set_option maxRecDepth 100000 in
theorem refPoolDecode (v : Value) (zs : List Int) (w : World) (hb : Bytes w v zs) (hl : zs.length ≤ 140737488351232) :
    Calls Tryd.prog 14 #[v] w (PoolTo w zs) := by
  obtain ⟨i0, hi, hz0, hz1, hz2⟩ := info_parts info_const
  obtain ⟨ao, cap, rfl, hq1, hq2, hq3, hbz, hcells⟩ := id hb
  have hrf := Rf.new hb (by omega)
  have Hrf := Lib.hid hrf
  have hon0 : Only (fun _ => False) w (w.alloc (.cells #[.slice ao zs.length cap, .int .i64 0] 68)) := (Only.refl _ w).alloc _
  have Hon0 := Lib.hid hon0
  clear hb hcells hq3 hrf hon0
  by_cases h2 : zs.length < 2
  · have hdec : DecP zs [] 0 3 := .inl ⟨h2, rfl, rfl, rfl⟩
    have Hdec := Lib.hid hdec
    clear hdec
    go_enter Tryd.func14, Tryd.ntmps14
    go_wp2_with (go_at_call 31; refine (rfU_short w.heap.size _ zs 0 2 _ Hrf.out (by decide) (by decide) (by omega)).mono ?_; rintro e w1 ⟨rfl, hto⟩)
    go_ret3
    exact PoolTo.none Hdec.out (Hon0.out.trans hto.2 (fun k hk hl => by omega))
  have hub := uAt_lt hbz 0 2 (by omega)
  simp only [Int.reducePow] at hub
  obtain ⟨N, hN⟩ : ∃ N : Nat, uAt zs 0 2 = (N : Int) := ⟨(uAt zs 0 2).toNat, by omega⟩
  have hrfU := rfU_ok w.heap.size (.slice ao zs.length cap) zs 0 2 _ Hrf.out (by decide) (by decide) (by omega)
  rw [hN, Nat.zero_add] at hrfU
  by_cases hbig : 1024 < N
  · have hdec : DecP zs [] 0 2 := .inr (.inl ⟨by omega, by omega, rfl, rfl, rfl⟩)
    have Hdec := Lib.hid hdec
    have hbz2 : (1024 : Int) < (N : Int) := by omega
    clear hdec hN hub
    go_enter Tryd.func14, Tryd.ntmps14
    go_wp2_with (go_at_call 31; refine hrfU.mono ?_; rintro e w1 ⟨rfl, hto⟩)
    go_ret3
    exact PoolTo.none Hdec.out (Hon0.out.trans hto.2 (fun k hk hl => by omega))
  by_cases hzero : N = 0
  · subst hzero
    have hdec : DecP zs [] 0 40 := .inr (.inr (.inl ⟨by omega, by omega, rfl, rfl, rfl⟩))
    have Hdec := Lib.hid hdec
    clear hdec hN hub
    go_enter Tryd.func14, Tryd.ntmps14
    go_wp2_with (go_at_call 31; refine hrfU.mono ?_; rintro e w1 ⟨rfl, hto⟩)
    go_ret3
    exact PoolTo.none Hdec.out (Hon0.out.trans hto.2 (fun k hk hl => by omega))
  have hNz : (N : Int) ≤ 1024 := by omega
  have hNp : ¬ (N : Int) = 0 := by omega
  have h2' : 2 ≤ zs.length := by omega
  have HN := Lib.hid hN
  have hNb : ((N : Int) == 0) = false := by simpa using hNp
  have hNd : decide ((1024 : Int) < (N : Int)) = false := decide_eq_false (by omega)
  clear hN hub
  go_enter Tryd.func14, Tryd.ntmps14
  go_wp2_with (go_at_call 31; refine hrfU.mono ?_; rintro e w1 ⟨rfl, hto⟩)
  have hon1 := Hon0.out.trans hto.2 (fun k hk hl => by omega)
  have hs1 : w.heap.size < w1.heap.size := hto.1.lt
  have hrowS : RowC (w1.alloc (.cells #[.int .i64 0, .string { data := #[] }, .int .i64 0, .int .i64 0, .int .i64 0] 45)) w1.heap.size (.slice (some ⟨w1.heap.size, 0, none⟩) 1 1) [zeroK] :=
    ⟨rfl, .inr ⟨w1.heap.size, 1, _, rfl, Nat.le_refl _, heap_alloc_new w1 _, Nat.le_refl _, by decide, rfl, rfl⟩⟩
  have hrfS := hto.1.only ((Only.refl (fun _ => False) w1).alloc (.cells #[.int .i64 0, .string { data := #[] }, .int .i64 0, .int .i64 0, .int .i64 0] 45)) (fun h => h) (fun _ _ _ h => h)
  have honS := hon1.trans ((Only.refl (fun _ => False) w1).alloc (.cells #[.int .i64 0, .string { data := #[] }, .int .i64 0, .int .i64 0, .int .i64 0] 45)) (fun _ h => h.elim)
  clear hto hon1 hrfU
  go_loopw [8, 9] (fun p i wr => ∃ (ds : List ConstV) (k : Nat), Reads zs ds k ∧ ds.length ≤ N ∧ i = .int .i64 ds.length ∧ RowC wr w1.heap.size p ds ∧ Rf wr w.heap.size (.slice ao zs.length cap) zs k ∧ Only (fun _ => False) w wr ∧ w1.heap.size ≤ wr.heap.size) (fun _ i _ => N - (intOf i).toNat)
  case atStart => exact ⟨[zeroK], 2, .start, by simp; omega, rfl, hrowS, hrfS, honS, by simp⟩
  case round =>
    obtain ⟨ds, k, hrd, hdl, rfl, hrow, hrf, hon, hsz⟩ := hrel
    clear hrowS hrfS honS
    have Hrd := Lib.hid hrd
    have hge := hrow.ge
    obtain ⟨aP, cP, rfl, _, _⟩ := slice_of_owns hrow
    by_cases hlt : ds.length < N
    · have hltz : (ds.length : Int) < (N : Int) := by omega
      by_cases hk : zs.length < k + 1
      · have hdec : DecP zs [] 0 3 := .inr (.inr (.inr ⟨h2', by rw [HN.out]; omega, by rw [HN.out]; omega, .inl ⟨3, .inl ⟨ds, k, zeroK, k, 3, Hrd.out, by rw [HN.out]; omega, .inl ⟨hk, rfl⟩, by decide, rfl⟩, rfl, rfl, rfl⟩⟩))
        have Hdec := Lib.hid hdec
        clear hdec hrd
        go_wp2_with (go_at_call 31; refine (rfU_short w.heap.size _ zs k 1 _ hrf (by decide) (by decide) (by omega)).mono ?_; rintro e w2 ⟨rfl, hto⟩)
        go_ret3
        exact PoolTo.none Hdec.out (hon.trans hto.2 (fun j hj hl => by omega))
      have hub := uAt_lt hbz k 1 (by omega)
      simp only [Int.reducePow] at hub
      obtain ⟨hu0, hu1⟩ := hub
      clear hrd
      go_wp2_with (fail)
      refine (rfU_ok w.heap.size _ zs k 1 _ hrf (by decide) (by decide) (by omega)).mono ?_
      rintro e w2 ⟨rfl, hto⟩
      have hon2 := hon.trans hto.2 (fun j hj hl => by omega)
      have hrow2 := hrow.only hto.2 (fun j hj e => by have := hge j hj; omega)
      clear hrow hrf
      go_wp2_with (fail)
      refine (refRead w.heap.size _ zs (k + 1) (uAt zs k 1) w2 hto.1).mono ?_
      rintro e w3 ⟨c, k', e0, rfl, hrc, ho3, hrf3⟩
      have hon3 := hon2.trans ho3 (fun j hj hl => by omega)
      have hrow3 := hrow2.only ho3 (fun j hj e => by have := hge j hj; omega)
      have hsz3 : w1.heap.size ≤ w3.heap.size := Nat.le_trans hsz (Nat.le_trans hto.2.size ho3.size)
      have hone : RdOne zs k c k' e0 := .inr ⟨by omega, hrc⟩
      clear hrow2 hto
      by_cases he0 : e0 = 0
      · subst he0
        have hrf3' := hrf3 rfl
        have Hone := Lib.hid hone
        have Hrow3 := Lib.hid hrow3
        have Hrf3 := Lib.hid hrf3'
        obtain ⟨ct, cx, cn, ca, cb⟩ := c
        clear hrf3 hrf3' hone hrow3 hrc
        have hgoC : ∀ o o', Only (fun _ => False) w3 ((w3.alloc o).alloc o') := fun o o' => ((Only.refl _ _).alloc o).alloc o'
        have HgoC := Lib.hid hgoC
        clear hgoC
        go_wp2_with (at_builtin; go_loud (refine wpList_append_src rfl (.tmp 54) (.tmp 56) 22 rfl 45 i0 _ 5 48 Tryd.underlying22 hi hz0 hz1 hz2 rfl (by decide) w1.heap.size (.slice aP ds.length cP) ds.length (ds.flatMap cellsC) rfl (by exact (Hrow3.out).only (HgoC.out _ _) (fun _ _ h => h)) (by exact Nat.le_trans hsz3 (HgoC.out _ _).size) (.slice (some ⟨w3.heap.size + 1, 0, none⟩) 1 1) 1 (cellsC ⟨ct, cx, cn, ca, cb⟩) rfl (by exact Src.const ⟨ct, cx, cn, ca, cb⟩ (by simp)) (by unfold maxLen; omega) (by omega) ?_); intro v' w4 hown hgrow hnew)
        have hog := only_grown hgrow
        have hrow4 := RowC.more (c := ⟨ct, cx, cn, ca, cb⟩) hown
        have hon4 : Only (fun _ => False) w w4 := (hon3.trans (HgoC.out _ _) (fun _ h => h.elim)).trans hog (fun j hj hl => by have := hge j hj; omega)
        have hrf4 := ((Hrf3.out).only (HgoC.out _ _) (fun h => h) (fun _ _ _ h => h)).only hog (fun hj => by have := hge _ hj; omega) (fun b hb hz hj => by
          have h1 := (Hrf.out).byt.lt b hb hz
          simp at h1
          have h2 := hge b hj
          omega)
        have hsz4 : w1.heap.size ≤ w4.heap.size := Nat.le_trans hsz3 (Nat.le_trans (HgoC.out _ _).size hog.size)
        clear hown hgrow hnew hog
        go_roundw
        case rel => exact ⟨ds ++ [⟨ct, cx, cn, ca, cb⟩], k', .more Hrd.out Hone.out, by simp; omega, by simp, hrow4, hrf4, hon4, hsz4⟩
        case measure => simp [intOf]; omega
      · have hdec : DecP zs [] 0 e0 := .inr (.inr (.inr ⟨h2', by rw [HN.out]; omega, by rw [HN.out]; omega, .inl ⟨e0, .inl ⟨ds, k, c, k', e0, Hrd.out, by rw [HN.out]; omega, hone, he0, rfl⟩, rfl, rfl, rfl⟩⟩))
        have Hdec := Lib.hid hdec
        have he0b : (e0 == 0) = false := by simpa using he0
        have he0c : (e0 != 0) = true := by simpa using he0
        clear hdec hrf3 hone hrc he0
        go_wp2
        go_ret3
        exact PoolTo.none Hdec.out (hon3.trans ((Only.refl (fun _ => False) w3).alloc _) (fun _ h => h.elim))
    · have hdn : ds.length = N := by omega
      have hfit := (hrd.fits hbz h2').1
      have hto : ReadsTo zs (uAt zs 0 2).toNat (.inl (ds, k)) := .inr ⟨ds, k, Hrd.out, by rw [HN.out]; omega, rfl⟩
      have hp := hrow.pool (fun c hc => (hfit c hc).1)
      have htx : Texts ds := fun c hc => Nat.le_trans (hfit c hc).2 (by decide)
      have hck := refCheck _ ds wr hp htx
      obtain ⟨e0, he0⟩ : ∃ e0, checkZ ds = e0 := ⟨_, rfl⟩
      rw [he0] at hck
      have hN1 : 1 ≤ uAt zs 0 2 ∧ uAt zs 0 2 ≤ 1024 := by rw [HN.out]; omega
      have Hto := Lib.hid hto
      have Hfit := Lib.hid hfit
      have Hrow := Lib.hid hrow
      have Hck := Lib.hid hck
      have He0 := Lib.hid he0
      have HN1 := Lib.hid hN1
      have Hrfk := Lib.hid hrf
      have hnl : (N : Int) ≤ (ds.length : Int) := by omega
      clear hfit hto hp htx hck hrow hrd he0 hN1 hrf hdn
      by_cases hz : e0 = 0
      · subst hz
        have hdec : DecP zs ds k 0 := .inr (.inr (.inr ⟨h2', HN1.out.1, HN1.out.2, .inr ⟨ds, k, Hto.out, .inr ⟨He0.out, rfl, rfl, rfl⟩⟩⟩))
        have Hdec := Lib.hid hdec
        clear hdec
        go_wp2_with (go_at_call 9; refine (Hck.out).mono ?_; rintro e w2 ⟨rfl, ho2⟩)
        have hon2 := hon.trans ho2 (fun _ h => h.elim)
        have hrf2 := (Hrfk.out).only ho2 (fun h => h) (fun _ _ _ h => h)
        have g1 := cell_blk hrf2.blk 1
        simp at g1
        have Hr2 := Lib.hid ((Hrow.out).only ho2 (fun _ _ h => h))
        clear hrf2
        go_quiet (fail)
        go_wp2
        go_ret3
        refine ⟨_, ds, k, 0, rfl, Hdec.out, hon2.drewN _, ?_, Hfit.out⟩
        have hd : Only (fun _ => False) w2 (w2.drewN nq) := (Only.refl _ _).drewN _
        exact owns_base ((Hr2.out).only hd (fun _ _ h => h)) (fun j hj => by have := hge j hj; omega)
      · have hdec : DecP zs [] 0 e0 := .inr (.inr (.inr ⟨h2', HN1.out.1, HN1.out.2, .inr ⟨ds, k, Hto.out, .inl ⟨by rw [He0.out]; exact hz, rfl, rfl, He0.out.symm⟩⟩⟩))
        have Hdec := Lib.hid hdec
        have he0b : (e0 == 0) = false := by simpa using hz
        have he0c : (e0 != 0) = true := by simpa using hz
        clear hdec hz
        go_wp2_with (go_at_call 9; refine (Hck.out).mono ?_; rintro e w2 ⟨rfl, ho2⟩)
        go_ret3
        exact PoolTo.none Hdec.out (hon.trans ho2 (fun _ h => h.elim))
end Go.Proofs.YtpiandkiijienaaDoor
