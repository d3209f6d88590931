/- The program's Decode of a pool: what the document says. No condition but the form's own reach. -/
import Derived.Test.YtpiandkiijienaaDoorPolH
import Derived.Test.YtpiandkiijienaaDoorPolRd
import Derived.Test.YtpiandkiijienaaDoorPolN
import Derived.Test.YtpiandkiijienaaDoorPolK
import Derived.Laws.MakeOwn
import Derived.Test.YtpiandkiijienaaDoorPart
import Derived.WalkLawsBesides
namespace Go.Proofs.YtpiandkiijienaaDoor
open Go.RowKit
set_option linter.unusedVariables false
set_option linter.unusedSimpArgs false

theorem drop_take_take {zs : List Int} {M k n : Nat} (h : k + n ≤ M) : ((zs.take M).drop k).take n = (zs.drop k).take n := by
  rw [List.drop_take, List.take_take, Nat.min_eq_left (by omega)]
theorem uAt_take {zs : List Int} {M k n : Nat} (h : k + n ≤ M) : uAt (zs.take M) k n = uAt zs k n := by unfold uAt; rw [drop_take_take h]
theorem RdC.take {zs : List Int} {M k : Nat} {tag : Int} {c : ConstV} {k' : Nat} {e : Int} (hM : M ≤ zs.length) (hk : k + 258 ≤ M) (h : RdC (zs.take M) k tag c k' e) : RdC zs k tag c k' e := by
  have hl : (zs.take M).length = M := by rw [List.length_take, Nat.min_eq_left hM]
  unfold RdC at *
  by_cases h1 : tag = 1
  · rw [if_pos h1] at *
    unfold TextRd at h
    rw [hl, uAt_take (by omega)] at h
    rcases h with ⟨h, _⟩ | ⟨h, h2, h3⟩ | ⟨h, h2, h3, h4⟩ | ⟨h, h2, h3, ys, hd, h5, h6⟩
    · omega
    · exact .inr (.inl ⟨by omega, h2, h3⟩)
    · omega
    · rw [drop_take_take (by omega)] at hd
      exact .inr (.inr (.inr ⟨by omega, h2, by omega, ys, hd, h5, h6⟩))
  rw [if_neg h1] at *
  have num : ∀ n mk, n ≤ 8 → NumRd (zs.take M) k n mk c k' e → NumRd zs k n mk c k' e := fun n mk hn h => by
    unfold NumRd at h
    rw [hl, uAt_take (by omega)] at h
    rcases h with ⟨h, _⟩ | ⟨h, h2, h3, h4⟩
    · omega
    · exact .inr ⟨by omega, h2, h3, h4⟩
  by_cases h3 : tag = 3
  · rw [if_pos h3] at *; exact num _ _ (by decide) h
  rw [if_neg h3] at *
  by_cases h5 : tag = 5
  · rw [if_pos h5] at *; exact num _ _ (by decide) h
  rw [if_neg h5] at *
  by_cases h7 : tag = 7
  · rw [if_pos h7] at *; exact num _ _ (by decide) h
  rw [if_neg h7] at *
  by_cases h9 : tag = 9 ∨ tag = 10 ∨ tag = 12
  · rw [if_pos h9] at *
    unfold PairRd at h
    rw [hl, uAt_take (by omega), uAt_take (by omega)] at h
    rcases h with ⟨h, _⟩ | ⟨h, h2, h3, h4⟩
    · omega
    · exact .inr ⟨by omega, h2, h3, h4⟩
  rw [if_neg h9] at *
  exact h
theorem RdOne.take {zs : List Int} {M k : Nat} {c : ConstV} {k' : Nat} {e : Int} (hM : M ≤ zs.length) (hk : k + 259 ≤ M) (h : RdOne (zs.take M) k c k' e) : RdOne zs k c k' e := by
  have hl : (zs.take M).length = M := by rw [List.length_take, Nat.min_eq_left hM]
  unfold RdOne at h
  rw [hl, uAt_take (by omega)] at h
  rcases h with ⟨h, _⟩ | ⟨h, h2⟩
  · omega
  · exact .inr ⟨by omega, h2.take hM (by omega)⟩
theorem RdC.far {zs : List Int} {k : Nat} {tag : Int} {c : ConstV} {k' : Nat} (h : RdC zs k tag c k' 0) : k' ≤ k + 258 := by
  unfold RdC at h
  by_cases h1 : tag = 1
  · rw [if_pos h1] at h
    rcases h with ⟨h, h2⟩ | ⟨h, h2, h3⟩ | ⟨h, h2, h3, h4⟩ | ⟨h, h2, h3, ys, hd, h5, h6⟩
    · exact absurd h2 (by decide)
    · exact absurd h3 (by decide)
    · exact absurd h4 (by decide)
    · omega
  rw [if_neg h1] at h
  have num : ∀ n mk, n ≤ 8 → NumRd zs k n mk c k' 0 → k' ≤ k + 258 := fun n mk hn h => by
    rcases h with ⟨h, h2⟩ | ⟨h, h2, h3, h4⟩
    · exact absurd h2 (by decide)
    · omega
  by_cases h3 : tag = 3
  · rw [if_pos h3] at h; exact num _ _ (by decide) h
  rw [if_neg h3] at h
  by_cases h5 : tag = 5
  · rw [if_pos h5] at h; exact num _ _ (by decide) h
  rw [if_neg h5] at h
  by_cases h7 : tag = 7
  · rw [if_pos h7] at h; exact num _ _ (by decide) h
  rw [if_neg h7] at h
  by_cases h9 : tag = 9 ∨ tag = 10 ∨ tag = 12
  · rw [if_pos h9] at h
    rcases h with ⟨h, h2⟩ | ⟨h, h2, h3, h4⟩
    · exact absurd h2 (by decide)
    · omega
  rw [if_neg h9] at h
  exact absurd h (by decide)
theorem RdOne.far {zs : List Int} {k : Nat} {c : ConstV} {k' : Nat} (h : RdOne zs k c k' 0) : k' ≤ k + 259 := by
  rcases h with ⟨_, h2⟩ | ⟨_, h2⟩
  · exact absurd h2 (by decide)
  · have := h2.far; omega
theorem Reads.take {zs : List Int} {M : Nat} (hM : M ≤ zs.length) (hm : 264959 ≤ M) {ds : List ConstV} {k : Nat} (h : Reads (zs.take M) ds k) : ds.length ≤ 1024 → Reads zs ds k ∧ k ≤ 2 + 259 * (ds.length - 1) := by
  induction h with
  | start => intro _; exact ⟨.start, by simp⟩
  | @more cs k k' c h1 r1 ih =>
    intro hl
    simp only [List.length_append, List.length_cons, List.length_nil] at hl ⊢
    obtain ⟨h2, h3⟩ := ih (by omega)
    have h0 := h1.ne_nil
    have r2 := r1.take hM (by omega)
    have := r2.far
    exact ⟨.more h2 r2, by omega⟩
theorem ReadsTo.take {zs : List Int} {M : Nat} (hM : M ≤ zs.length) (hm : 264959 ≤ M) {N : Nat} (hN : N ≤ 1024) {r : (List ConstV × Nat) ⊕ Int} (h : ReadsTo (zs.take M) N r) : ReadsTo zs N r := by
  rcases h with ⟨ds, k, c, k', e, h1, h2, h3, h4, rfl⟩ | ⟨ds, k, h1, h2, rfl⟩
  · obtain ⟨r1, r2⟩ := h1.take hM hm (by omega)
    have h0 := h1.ne_nil
    exact .inl ⟨ds, k, c, k', e, r1, h2, h3.take hM (by omega), h4, rfl⟩
  · exact .inr ⟨ds, k, (h1.take hM hm (by omega)).1, h2, rfl⟩
/-- Decode looks no further. -/
theorem DecP.take {zs : List Int} {M : Nat} (hm : 264959 ≤ M) {cs : List ConstV} {n e : Int} (h : DecP (zs.take M) cs n e) : DecP zs cs n e := by
  by_cases hM : zs.length ≤ M
  · rwa [List.take_of_length_le hM] at h
  have hM' : M ≤ zs.length := by omega
  have hl : (zs.take M).length = M := by rw [List.length_take, Nat.min_eq_left hM']
  unfold DecP at h
  rw [hl, uAt_take (by omega)] at h
  rcases h with ⟨h1, _⟩ | ⟨h1, h2⟩ | ⟨h1, h2⟩ | ⟨h1, h2, h3, hr⟩
  · omega
  · exact .inr (.inl ⟨by omega, h2⟩)
  · exact .inr (.inr (.inl ⟨by omega, h2⟩))
  · refine .inr (.inr (.inr ⟨by omega, h2, h3, ?_⟩))
    rcases hr with ⟨e0, hr, h4⟩ | ⟨ds, k, hr, h4⟩
    · exact .inl ⟨e0, hr.take hM' hm (by omega), h4⟩
    · exact .inr ⟨ds, k, hr.take hM' hm (by omega), h4⟩


/-- A block of n constants, the first of them es, the others zero. -/
def PW (w : World) (pb n : Nat) (es : List ConstV) : Prop :=
  ∃ arr : Array Value, w.heap[pb]? = some (.cells arr 45 (0, 0)) ∧ arr.size = n * 5 ∧ ∀ j, j < n → ∀ d, d < 5 → arr[j * 5 + d]? = (cellsC (es.getD j zeroK))[d]?
theorem PW.only {S : Nat → Prop} {w w' : World} {pb n : Nat} {es : List ConstV} (h : PW w pb n es) (ho : Only S w w') (hs : ¬ S pb) : PW w' pb n es := by
  obtain ⟨arr, h1, h2, h3⟩ := h
  exact ⟨arr, ho.heap h1 hs, h2, h3⟩
theorem PW.lt {w : World} {pb n : Nat} {es : List ConstV} (h : PW w pb n es) : pb < w.heap.size := by
  obtain ⟨arr, h1, _⟩ := h
  exact heap_lt h1
theorem made_at {n j d : Nat} (hj : j < n) (hd : d < 5) : (madeCells #[.int .i64 0, .string ⟨#[]⟩, .int .i64 0, .int .i64 0, .int .i64 0] (n * 5))[j * 5 + d]? = (cellsC zeroK)[d]? := by
  have hlt : j * 5 + d < n * 5 := by omega
  unfold madeCells
  rw [Array.getElem?_map, Array.getElem?_eq_getElem (by simpa using hlt)]
  simp only [Array.getElem_range, Option.map_some, List.size_toArray, List.length_cons, List.length_nil, Nat.zero_add, Nat.reduceAdd]
  rw [show (j * 5 + d) % 5 = d by omega]
  match d, hd with
  | 0, _ => rfl
  | 1, _ => rfl
  | 2, _ => rfl
  | 3, _ => rfl
  | 4, _ => rfl
theorem PW.new (w : World) (n : Nat) : PW (w.alloc (.cells (madeCells #[.int .i64 0, .string ⟨#[]⟩, .int .i64 0, .int .i64 0, .int .i64 0] (n * 5)) 45)) w.heap.size n [zeroK] := by
  refine ⟨_, heap_alloc_new w _, size_madeCells _ _, fun j hj d hd => ?_⟩
  rw [made_at hj hd]
  cases j with
  | zero => rfl
  | succ j => simp [List.getD]
/-- The cells into which one constant is stored. -/
theorem PW.spot {w : World} {pb n : Nat} {es : List ConstV} (h : PW w pb n es) {i : Nat} (hi : i < n) (d : Nat) (hd : d < 5) : w.cell? ⟨pb, i * 5 + d, none⟩ = (cellsC (es.getD i zeroK))[d]? ∧ w.frozen? ⟨pb, i * 5 + d, none⟩ = false := by
  obtain ⟨arr, h1, h2, h3⟩ := h
  exact ⟨by rw [cell_blk h1]; exact h3 i hi d hd, frozen_blk h1 _⟩
theorem PW.store {w : World} {pb n : Nat} {es : List ConstV} (h : PW w pb n es) (hi : es.length < n) (c : ConstV) :
    PW (((((w.setCell ⟨pb, es.length * 5, none⟩ (.int .i64 c.tag)).setCell ⟨pb, es.length * 5 + 1, none⟩ (.string c.text)).setCell ⟨pb, es.length * 5 + 2, none⟩ (.int .i64 c.n)).setCell ⟨pb, es.length * 5 + 3, none⟩ (.int .i64 c.a)).setCell ⟨pb, es.length * 5 + 4, none⟩ (.int .i64 c.b)) pb n (es ++ [c]) := by
  obtain ⟨arr, h1, h2, h3⟩ := h
  refine ⟨_, heap_setCell_at (heap_setCell_at (heap_setCell_at (heap_setCell_at (heap_setCell_at h1)))), by simpa using h2, fun j hj d hd => ?_⟩
  simp only [Array.getElem?_setIfInBounds, Array.size_setIfInBounds, h2]
  by_cases e : j = es.length
  · subst e
    have hg : (es ++ [c]).getD es.length zeroK = c := by simp [List.getD]
    rw [hg]
    match d, hd with
    | 0, _ => simp [cellsC]; omega
    | 1, _ => simp [cellsC]; omega
    | 2, _ => simp [cellsC]; omega
    | 3, _ => simp [cellsC]; omega
    | 4, _ => simp [cellsC]; omega
  · have hg : (es ++ [c]).getD j zeroK = es.getD j zeroK := by
      by_cases hl : j < es.length
      · simp [List.getD, List.getElem?_append_left hl]
      · have h5 : ∀ l : List ConstV, l.length ≤ j → l.getD j zeroK = zeroK := fun l hl => by simp [List.getD, List.getElem?_eq_none hl]
        rw [h5 _ (by simp; omega), h5 _ (by omega)]
    rw [hg, if_neg (by omega), if_neg (by omega), if_neg (by omega), if_neg (by omega), if_neg (by omega)]
    exact h3 j hj d hd
theorem PW.pool {w : World} {pb n : Nat} {es : List ConstV} (h : PW w pb n es) (hn : es.length = n) (hl : n ≤ 1024) (hr : ∀ c ∈ es, ConstR c) : Pool w (.slice (some ⟨pb, 0, none⟩) n n) es := by
  subst hn
  obtain ⟨arr, h1, h2, h3⟩ := h
  refine ⟨_, es.length, rfl, Nat.le_refl _, by omega, (fun e => by cases e), hr, fun x hx _ => ?_⟩
  cases hx
  refine ⟨pb, 0, rfl, fun i hi => ?_⟩
  have hg : es.getD i zeroK = es.getD i default := by simp [List.getD, hi]
  have hc : ∀ d, d < 5 → w.cell? ⟨pb, 0 + i * 5 + d, none⟩ = (cellsC (es.getD i default))[d]? := fun d hd => by
    rw [Nat.zero_add, cell_blk h1, h3 i hi d hd, hg]
  exact ⟨hc 0 (by decide), hc 1 (by decide), hc 2 (by decide), hc 3 (by decide), hc 4 (by decide)⟩

/-- What reading a pool leaves. -/
def RPTo (rb : Nat) (sv : Value) (zs : List Int) (w : World) (e : Ending) (w' : World) : Prop :=
  ∃ v' ve e0, e = .returned (.tuple #[v', ve]) ∧ ErrOf e0 ve ∧ Only (fun j => j = rb) w w' ∧
    ((e0 ≠ 0 ∧ DecP zs [] 0 e0) ∨ (e0 = 0 ∧ ∃ (ds : List ConstV) (k : Nat), DecP zs ds (k : Int) 0 ∧ Rd w' rb sv zs k ∧ Pool w' v' ds ∧ ∀ c ∈ ds, Fits c))

set_option maxHeartbeats 8000000 in
set_option maxRecDepth 100000 in
theorem progReadPool (rb : Nat) (sv : Value) (zs : List Int) (w : World) (h : Rd w rb sv zs 0) (hl : zs.length ≤ 140737488351232) (hT : Tabs w) (h3 : 3 ≤ rb) :
    Calls Tryd.prog 29 #[.pointer (some ⟨rb, 0, none⟩)] w (RPTo rb sv zs w) := by
  have HL := Lib.hid hl
  have HT := Lib.hid hT
  have H0 := Lib.hid h
  have hrb := h.lt.1
  have hbz := h.bytish
  have HZ := Lib.hid hbz
  by_cases hk : zs.length < 2
  · have cC := cntShort rb sv zs 0 w h (by omega)
    have CC := Lib.hid cC
    have HD := Lib.hid (show DecP zs [] 0 3 from .inl ⟨hk, rfl, rfl, rfl⟩)
    clear cC h hl hT hbz hk
    go_enter Tryd.func29, Tryd.ntmps29
    go_wp2_with (fail)
    refine CC.out.mono ?_
    rintro e w1 ⟨rfl, hto⟩
    have HTO := Lib.hid hto
    clear hto CC
    go_wp2
    go_ret2
    exact ⟨_, _, 3, rfl, ErrOf.some (by decide), HTO.out.2, .inl ⟨by decide, HD.out⟩⟩
  have cC := cntOk rb sv zs 0 w h (by omega)
  obtain ⟨u0, u1⟩ := uAt_lt' hbz 0 2 (by omega)
  simp only [Int.reducePow] at u1
  obtain ⟨n, hn⟩ : ∃ n : Nat, uAt zs 0 2 = (n : Int) := ⟨(uAt zs 0 2).toNat, by omega⟩
  rw [hn] at cC u0 u1
  have HN := Lib.hid hn
  have CC := Lib.hid cC
  have HK := Lib.hid (show 2 ≤ zs.length by omega)
  clear cC h hl hT hbz hk hn u0
  by_cases hbig : 1024 < n
  · have HD := Lib.hid (show DecP zs [] 0 2 from .inr (.inl ⟨HK.out, by rw [HN.out]; omega, rfl, rfl, rfl⟩))
    have hb2 : (1024 : Int) < (n : Int) := by omega
    go_enter Tryd.func29, Tryd.ntmps29
    go_wp2_with (fail)
    refine CC.out.mono ?_
    rintro e w1 ⟨rfl, hto⟩
    have HTO := Lib.hid hto
    clear hto CC
    go_wp2_with (fail)
    refine (countLong _ _ hb2).mono ?_
    rintro e w' ⟨rfl, rfl⟩
    go_wp2
    go_ret2
    exact ⟨_, _, 2, rfl, ErrOf.some (by decide), HTO.out.2, .inl ⟨by decide, HD.out⟩⟩
  by_cases hzero : n = 0
  · subst hzero
    have HD := Lib.hid (show DecP zs [] 0 40 from .inr (.inr (.inl ⟨HK.out, by rw [HN.out]; rfl, rfl, rfl, rfl⟩)))
    go_enter Tryd.func29, Tryd.ntmps29
    go_wp2_with (fail)
    refine CC.out.mono ?_
    rintro e w1 ⟨rfl, hto⟩
    have HTO := Lib.hid hto
    clear hto CC
    go_wp2_with (fail)
    refine (countZero _).mono ?_
    rintro e w' ⟨rfl, rfl⟩
    go_wp2
    go_ret2
    exact ⟨_, _, 40, rfl, ErrOf.some (by decide), HTO.out.2, .inl ⟨by decide, HD.out⟩⟩
  have h1z : (1 : Int) ≤ (n : Int) := by omega
  have h2z : (n : Int) ≤ 1024 := by omega
  have hmk : ∀ w, (Instr.makeSlice 22 (.int .i64 (n : Int)) (.int .i64 (n : Int))).run Tryd.prog w = .ok (.slice (some ⟨w.heap.size, 0, none⟩) n n) (w.alloc (.cells (madeCells #[.int .i64 0, .string ⟨#[]⟩, .int .i64 0, .int .i64 0, .int .i64 0] (n * 5)) 45)) := fun w => by
    obtain ⟨i0, hi, hz0, hz1, hz2⟩ := info_parts info_const
    have := run_make (P := Tryd.prog) w 22 45 i0 _ Tryd.underlying22 hi hz0 .i64 .i64 (n : Int) (n : Int) (by omega) (Int.le_refl _) (by rw [hz2]; omega) (by omega)
    simp only [Int.toNat_natCast, hz1] at this
    exact this
  go_enter Tryd.func29, Tryd.ntmps29
  go_wp2_with (fail)
  refine CC.out.mono ?_
  rintro e w1 ⟨rfl, hto⟩
  rw [Nat.zero_add] at hto
  have hpw := PW.new w1 n
  have hrd1 := hto.1.only ((Only.refl (fun _ => False) w1).alloc (.cells (madeCells #[.int .i64 0, .string ⟨#[]⟩, .int .i64 0, .int .i64 0, .int .i64 0] (n * 5)) 45)) (fun h => h) (fun _ _ h => h)
  have hon1 := hto.2.alloc (.cells (madeCells #[.int .i64 0, .string ⟨#[]⟩, .int .i64 0, .int .i64 0, .int .i64 0] (n * 5)) 45)
  have hs1 := hto.2.size
  have HPW := Lib.hid hpw
  have HRD1 := Lib.hid hrd1
  have HON1 := Lib.hid hon1
  clear hto CC hpw hrd1 hon1
  go_wp2_with (fail)
  refine (countOk _ _ h2z h1z).mono ?_
  rintro e w' ⟨rfl, rfl⟩
  go_wp2
  generalize w1.alloc (.cells (madeCells #[.int .i64 0, .string ⟨#[]⟩, .int .i64 0, .int .i64 0, .int .i64 0] (n * 5)) 45) = wm at *
  clear hmk
  go_loopw [8] (fun i wr => ∃ (ds : List ConstV) (k : Nat), i = .int .i64 ds.length ∧ Reads zs ds k ∧ ds.length ≤ n ∧ PW wr w1.heap.size n ds ∧ Rd wr rb sv zs k ∧ Only (fun j => j = rb) w wr) (fun i _ => n - (intOf i).toNat)
  case atStart => exact ⟨[zeroK], 2, rfl, .start, by simp; omega, HPW.out, HRD1.out, HON1.out⟩
  case round =>
    obtain ⟨ds, k, rfl, hrd, hdl, hpw, hr, hon⟩ := hrel
    have HRDS := Lib.hid hrd
    have HON := Lib.hid hon
    have HPW2 := Lib.hid hpw
    have HR2 := Lib.hid hr
    clear hrd hon hpw hr
    by_cases hlt : ds.length < n
    · have hltz : (ds.length : Int) < (n : Int) := by omega
      have cK := progReadConst rb sv zs k wr HR2.out HL.out
      have CK := Lib.hid cK
      clear cK
      go_wp2_with (fail)
      refine CK.out.mono ?_
      rintro e w3 ⟨c, k', e0, rfl, hone, ho3, hr3⟩
      have hp3 := HPW2.out.only ho3 (by omega)
      obtain ⟨s0, f0⟩ := hp3.spot hlt 0 (by decide)
      obtain ⟨s1, f1⟩ := hp3.spot hlt 1 (by decide)
      obtain ⟨s2, f2⟩ := hp3.spot hlt 2 (by decide)
      obtain ⟨s3, f3⟩ := hp3.spot hlt 3 (by decide)
      obtain ⟨s4, f4⟩ := hp3.spot hlt 4 (by decide)
      simp only [cellsC, List.getElem?_cons_zero, List.getElem?_cons_succ, Nat.add_zero] at s0 s1 s2 s3 s4 f0
      have hp4 := hp3.store hlt c
      have HP4 := Lib.hid hp4
      have HONE := Lib.hid hone
      have HO3 := Lib.hid ho3
      have HR3 := Lib.hid hr3
      obtain ⟨ct, cx, cn, ca, cb⟩ := c
      clear hp3 hp4 hone ho3 hr3 CK
      simp only at HP4
      by_cases he0 : e0 = 0
      · subst he0
        go_wp2
        go_roundw
        case rel =>
          refine ⟨ds ++ [⟨ct, cx, cn, ca, cb⟩], k', by simp, .more HRDS.out HONE.out, by simp; omega, HP4.out, ?_, ?_⟩
          · refine H0.out.high (HR3.out (by trivial)) ?_
            repeat (refine Only.setCell ?_ (fun _ => by (try simp) <;> omega) _)
            exact Only.refl _ _
          · repeat (refine Only.setCell ?_ (fun hl => absurd hl (by (try simp) <;> omega)) _)
            exact HON.out.trans HO3.out (fun _ h _ => h)
        case measure => simp [intOf]; omega
      · have he1 : (e0 == 0) = false := by simpa using he0
        have he2 : (e0 != 0) = true := by simpa using he0
        have HD := Lib.hid (show DecP zs [] 0 e0 from .inr (.inr (.inr ⟨HK.out, by rw [HN.out]; omega, by rw [HN.out]; omega, .inl ⟨e0, .inl ⟨ds, k, _, k', e0, HRDS.out, by rw [HN.out]; omega, HONE.out, he0, rfl⟩, rfl, rfl, rfl⟩⟩)))
        go_wp2
        go_ret2
        refine ⟨_, _, e0, rfl, ErrOf.some he0, ?_, .inl ⟨he0, HD.out⟩⟩
        repeat (refine Only.setCell ?_ (fun hl => absurd hl (by (try simp) <;> omega)) _)
        exact HON.out.trans HO3.out (fun _ h _ => h)
    · have hdn : ds.length = n := by omega
      have hnz : (n : Int) ≤ (ds.length : Int) := by omega
      have hfit := (HRDS.out.fits HZ.out HK.out).1
      have hp := HPW2.out.pool hdn (by omega) (fun c hc => (hfit c hc).1)
      have hTr := HT.out.only HON.out (by omega) (by omega)
      have cP := progPool _ ds wr hp hTr
      have hto : ReadsTo zs (uAt zs 0 2).toNat (.inl (ds, k)) := .inr ⟨ds, k, HRDS.out, by rw [HN.out]; omega, rfl⟩
      have hdec : ∀ z, checkZ ds = z → (z ≠ 0 → DecP zs [] 0 z) ∧ (z = 0 → DecP zs ds k 0) := fun z hz => by
        refine ⟨fun h0 => .inr (.inr (.inr ⟨HK.out, by rw [HN.out]; omega, by rw [HN.out]; omega, .inr ⟨ds, k, hto, .inl ⟨by rw [hz]; exact h0, rfl, rfl, hz.symm⟩⟩⟩)), fun h0 => .inr (.inr (.inr ⟨HK.out, by rw [HN.out]; omega, by rw [HN.out]; omega, .inr ⟨ds, k, hto, .inr ⟨by rw [hz]; exact h0, rfl, rfl, rfl⟩⟩⟩))⟩
      have HDEC := Lib.hid hdec
      have HP := Lib.hid hp
      have HFIT := Lib.hid hfit
      obtain ⟨z, hz⟩ : ∃ z, checkZ ds = z := ⟨_, rfl⟩
      rw [hz] at cP
      have HZZ := Lib.hid hz
      have CP := Lib.hid cP
      clear hdec hp hfit hz cP hto hTr hdn
      go_wp2_with (fail)
      refine CP.out.mono ?_
      rintro e w3 ⟨ve, rfl, hve, ho3⟩
      have HVE := Lib.hid hve
      have HO3 := Lib.hid ho3
      clear hve ho3 CP
      go_wp2
      go_ret2
      obtain ⟨d1, d2⟩ := HDEC.out z HZZ.out
      refine ⟨_, ve, z, rfl, HVE.out, HON.out.trans HO3.out (fun _ h => h.elim), ?_⟩
      by_cases h0 : z = 0
      · exact .inr ⟨h0, ds, k, d2 h0, HR2.out.only HO3.out (fun h => h) (fun _ _ h => h), HP.out.only HO3.out (fun _ _ h => h), HFIT.out⟩
      · exact .inl ⟨h0, d1 h0⟩


/-- What the program's Decode leaves. -/
def DecTo (w : World) (zs : List Int) (e : Ending) (w' : World) : Prop :=
  ∃ v' cs n e0, e = .returned (.tuple #[v', .int .i64 n, .int .i64 e0]) ∧ DecP zs cs n e0 ∧ Only (fun _ => False) w w' ∧ Pool w' v' cs ∧ ∀ c ∈ cs, Fits c
theorem Pool.nil (w : World) : Pool w (.slice none 0 0) [] := ⟨Option.none, 0, rfl, Nat.le_refl _, by omega, fun _ => rfl, (fun c hc => by cases hc), fun x hx _ => by cases hx⟩

set_option maxHeartbeats 4000000 in
set_option maxRecDepth 100000 in
theorem progDecode (v : Value) (zs : List Int) (w : World) (hb : Bytes w v zs) (hl : zs.length ≤ 281474976710656) (hT : Tabs w) (hg : ErrV w) :
    Calls Tryd.prog 13 #[v] w (DecTo w zs) := by
  obtain ⟨ao, cap, rfl, hq1, hq2, hq3, hbz, hcells⟩ := id hb
  have h3w := hT.lt3
  have hM : (min (264959 : Int) (zs.length : Int)).toNat = (zs.take 264959).length := by rw [List.length_take]; omega
  have hml : (zs.take 264959).length ≤ zs.length := by rw [List.length_take]; omega
  have htk : zs.take (zs.take 264959).length = zs.take 264959 := by
    rw [List.length_take]
    by_cases h : zs.length ≤ 264959
    · rw [Nat.min_eq_right h, List.take_of_length_le (Nat.le_refl _), List.take_of_length_le h]
    · rw [Nat.min_eq_left (by omega)]
  have hb1 := Bytes.first hb _ hml
  rw [htk] at hb1
  have cN := newReader _ (zs.take 264959) w hb1 (by rw [List.length_take]; omega)
  have hDec : ∀ cs n e, DecP (zs.take 264959) cs n e → DecP zs cs n e := fun _ _ _ h => h.take (Nat.le_refl _)
  have hl2 : (zs.take 264959).length ≤ 140737488351232 := by rw [List.length_take]; omega
  obtain ⟨ys, hys⟩ : ∃ ys, zs.take 264959 = ys := ⟨_, rfl⟩
  rw [hys] at hM cN hl2
  simp only [hys] at hDec
  have CN := Lib.hid cN
  have HD := Lib.hid hDec
  have HT := Lib.hid hT
  have HG := Lib.hid hg
  have HM := Lib.hid hM
  have HL2 := Lib.hid hl2
  clear hb hcells hq3 hml htk hb1 cN hDec hys hT hg hbz hM hl2
  go_enter Tryd.func13, Tryd.ntmps13
  go_wp2_with (fail)
  rw [HM.out]
  refine CN.out.mono ?_
  rintro e w1 ⟨rb, sv, rfl, hrd, hbel, hge, hsv⟩
  have ho1 := Only.of_below hbel (fun _ => False)
  have cR := progReadPool rb sv ys w1 hrd HL2.out (HT.out.only ho1 (fun h => h) (fun h => h)) (by omega)
  have CR := Lib.hid cR
  have HO1 := Lib.hid ho1
  clear hrd hbel hsv ho1 cR CN
  go_wp2_with (fail)
  refine CR.out.mono ?_
  rintro e w2 ⟨v', ve, e0, rfl, hve, ho2, hres⟩
  have hon2 : Only (fun _ => False) w w2 := HO1.out.trans ho2 (fun k hk hl => by omega)
  have HON2 := Lib.hid hon2
  have HO2 := Lib.hid ho2
  clear CR ho2 hon2
  rcases hres with ⟨h0, hd⟩ | ⟨h0, ds, k, hd, hr2, hp2, hf2⟩
  · rcases hve with ⟨h1, _⟩ | ⟨_, p, rfl⟩
    · exact absurd h1 h0
    have cW := whichFault p e0 w2 (HG.out.only HON2.out (fun h => h))
    have CW := Lib.hid cW
    have HDD := Lib.hid (HD.out _ _ _ hd)
    clear cW hd h0
    go_wp2_with (fail)
    refine CW.out.mono ?_
    rintro e w3 ⟨rfl, ho3⟩
    have HO3 := Lib.hid ho3
    clear ho3 CW
    go_wp2
    go_ret3
    exact ⟨_, [], 0, e0, rfl, HDD.out, HON2.out.trans HO3.out (fun _ h => h.elim), Pool.nil _, fun c hc => by cases hc⟩
  · subst h0
    rcases hve with ⟨_, rfl⟩ | ⟨h1, _⟩
    · have cA := rdAtM rb sv ys k w2 hr2
      have CA := Lib.hid cA
      have HDD := Lib.hid (HD.out _ _ _ hd)
      have HP := Lib.hid hp2
      have HF := Lib.hid hf2
      obtain ⟨av, cv, rfl, _, _, _, _, _⟩ := id hp2
      clear cA hd hr2 hp2 hf2
      go_wp2_with (fail)
      refine CA.out.mono ?_
      rintro e w3 ⟨rfl, rfl⟩
      clear CA
      go_wp2
      go_ret3
      exact ⟨_, ds, k, 0, rfl, HDD.out, HON2.out, HP.out, HF.out⟩
    · exact absurd rfl h1
end Go.Proofs.YtpiandkiijienaaDoor
