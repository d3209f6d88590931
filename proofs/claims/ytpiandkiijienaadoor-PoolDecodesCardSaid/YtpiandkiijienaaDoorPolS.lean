/- The program reads the places of a constant. No condition beyond a reader that was made. -/
import Derived.Test.YtpiandkiijienaaDoorPolR
namespace Go.Proofs.YtpiandkiijienaaDoor
open Go.RowKit
set_option linter.unusedVariables false
set_option linter.unusedSimpArgs false

/-- A block of two places. -/
def P2 (w : World) (b : Nat) (x y : Int) : Prop := w.heap[b]? = some (.cells #[.int .i64 x, .int .i64 y] 87 (0, 0))
theorem P2.cells {w : World} {b : Nat} {x y : Int} (h : P2 w b x y) : w.cell? ⟨b, 0, none⟩ = some (.int .i64 x) ∧ w.cell? ⟨b, 1, none⟩ = some (.int .i64 y) := ⟨by rw [cell_blk h]; rfl, by rw [cell_blk h]; rfl⟩
theorem P2.free {w : World} {b : Nat} {x y : Int} (h : P2 w b x y) : w.frozen? ⟨b, 0, none⟩ = false ∧ w.frozen? ⟨b, 1, none⟩ = false := ⟨frozen_blk h 0, frozen_blk h 1⟩
theorem P2.only {S : Nat → Prop} {w w' : World} {b : Nat} {x y : Int} (h : P2 w b x y) (ho : Only S w w') (hs : ¬ S b) : P2 w' b x y := ho.heap h hs
theorem P2.set0 {w : World} {b : Nat} {x y : Int} (h : P2 w b x y) (p : Int) : P2 (w.setCell ⟨b, 0, none⟩ (.int .i64 p)) b p y := heap_setCell_at h
theorem P2.set1 {w : World} {b : Nat} {x y : Int} (h : P2 w b x y) (p : Int) : P2 (w.setCell ⟨b, 1, none⟩ (.int .i64 p)) b x p := heap_setCell_at h

/-- The world in which the three blocks are laid: the shape, the result, the places. -/
theorem three_laid (w : World) (tx : Bool) (sz la lb : Int) :
    let W := ((w.alloc (.cells #[.bool tx, .int .i64 sz, .int .i64 la, .int .i64 lb] 89)).alloc (.cells #[.int .i64 0, .int .i64 0] 87)).alloc (.cells #[.int .i64 0, .int .i64 0] 87)
    P2 W (w.heap.size + 1) 0 0 ∧ P2 W (w.heap.size + 1 + 1) 0 0 ∧ Only (fun _ => False) w W := by
  refine ⟨?_, ?_, (((Only.refl _ w).alloc _).alloc _).alloc _⟩
  · refine ((Only.refl (fun _ => False) _).alloc _).heap ?_ (fun h => h)
    have := heap_alloc_new (w.alloc (.cells #[.bool tx, .int .i64 sz, .int .i64 la, .int .i64 lb] 89)) (.cells #[.int .i64 0, .int .i64 0] 87)
    simpa using this
  · have := heap_alloc_new ((w.alloc (.cells #[.bool tx, .int .i64 sz, .int .i64 la, .int .i64 lb] 89)).alloc (.cells #[.int .i64 0, .int .i64 0] 87)) (.cells #[.int .i64 0, .int .i64 0] 87)
    simpa [P2] using this

/-- What reading the places leaves. -/
def PlacesTo (rb : Nat) (sv : Value) (zs : List Int) (k : Nat) (w : World) (tag : Int) (e : Ending) (w' : World) : Prop :=
  ∃ p q k' e0, e = .returned (.tuple #[.agg #[.int .i64 p, .int .i64 q], .int .i64 e0]) ∧ RdC zs k tag ⟨tag, noText, 0, p, q⟩ k' e0 ∧ Only (fun j => j = rb) w w' ∧ (e0 = 0 → Rd w' rb sv zs k')
theorem Rd.high {w w1 w' : World} {rb : Nat} {sv : Value} {zs : List Int} {k k' : Nat} (h0 : Rd w rb sv zs k) (h : Rd w1 rb sv zs k') (ho : Only (fun j => w.heap.size ≤ j) w1 w') : Rd w' rb sv zs k' :=
  h.only ho (by have := h0.lt; omega) (fun b hb => by have := h0.lt.2 b hb; omega)

set_option maxHeartbeats 4000000 in
set_option maxRecDepth 100000 in
theorem placesOne (rb : Nat) (sv : Value) (zs : List Int) (k : Nat) (w : World) (tx : Bool) (sz la : Int) (hla : la ≠ 0) (h : Rd w rb sv zs k) (hrd : ∀ p k' e0, NumRd zs k 2 (fun u => ⟨7, noText, 0, u, 0⟩) ⟨7, noText, 0, p, 0⟩ k' e0 → RdC zs k 7 ⟨7, noText, 0, p, 0⟩ k' e0) :
    Calls Tryd.prog 71 #[.pointer (some ⟨rb, 0, none⟩), .agg #[.bool tx, .int .i64 sz, .int .i64 la, .int .i64 0]] w (PlacesTo rb sv zs k w 7) := by
  have hrb := h.lt.1
  obtain ⟨hA, hB, ho⟩ := three_laid w tx sz la 0
  have h1 := h.only ho (fun h => h) (fun _ _ h => h)
  have i0 : ∀ w, (Instr.index 87 (.agg #[.int .i64 la, .int .i64 0]) (.int .i64 0)).run Tryd.prog w = .ok (.int .i64 la) w := fun _ => by kernel_rfl
  have i1 : ∀ w, (Instr.index 87 (.agg #[.int .i64 la, .int .i64 0]) (.int .i64 1)).run Tryd.prog w = .ok (.int .i64 0) w := fun _ => by kernel_rfl
  have a1 : (la == 0) = false := by simpa using hla
  have HA := Lib.hid hA
  have HB := Lib.hid hB
  have HO := Lib.hid (ho.mono (T := fun j => j = rb) (fun _ h _ => h.elim))
  have HRD := Lib.hid hrd
  have H0 := Lib.hid h
  by_cases hk : zs.length < k + 2
  · have cC := cntShort rb sv zs k _ h1 hk
    have CC := Lib.hid cC
    have HK := Lib.hid hk
    clear cC h1 hA hB ho hrd h hla hk
    go_enter Tryd.func71, Tryd.ntmps71
    go_wp2
    refine wp_loop_rounds 3 ?_
    rw [rounds_succ]
    go_wp2_with (fail)
    refine CC.out.mono ?_
    rintro e w1 ⟨rfl, hto⟩
    obtain ⟨k0, k1⟩ := (HA.out.only hto.2 (by omega)).cells
    obtain ⟨l0, l1⟩ := (HB.out.only hto.2 (by omega)).cells
    obtain ⟨f0, f1⟩ := (HA.out.only hto.2 (by omega)).free
    have HTO := Lib.hid hto
    clear hto CC
    go_wp2
    refine bodyPost_ret (v := .tuple #[.agg #[.int .i64 0, .int .i64 0], .int .i64 3]) (by simp [results, Tryd.results71, go_sem, k0, k1, l0, l1]) rfl ?_
    refine ⟨0, 0, k, 3, rfl, HRD.out _ _ _ (.inl ⟨HK.out, rfl⟩), ?_, fun h => absurd h (by decide)⟩
    repeat (refine Only.setCell ?_ (fun hl => absurd hl (by (try simp) <;> omega)) _)
    exact HO.out.trans HTO.out.2 (fun _ h _ => h)
  · have cC := cntOk rb sv zs k _ h1 (by omega)
    obtain ⟨u0, u1⟩ := uAt_lt' h.bytish k 2 (by omega)
    simp only [Int.reducePow] at u1
    have HN := Lib.hid (HRD.out (uAt zs k 2) (k + 2) 0 (.inr ⟨by omega, rfl, rfl, rfl⟩))
    generalize uAt zs k 2 = u at *
    have CC := Lib.hid cC
    clear cC h1 hA hB ho hrd h hla hk HRD
    go_enter Tryd.func71, Tryd.ntmps71
    go_wp2
    refine wp_loop_rounds 3 ?_
    rw [rounds_succ]
    go_wp2_with (fail)
    refine CC.out.mono ?_
    rintro e w1 ⟨rfl, hto⟩
    obtain ⟨k0, k1⟩ := (HA.out.only hto.2 (by omega)).cells
    obtain ⟨l0, l1⟩ := (HB.out.only hto.2 (by omega)).cells
    obtain ⟨f0, f1⟩ := (HA.out.only hto.2 (by omega)).free
    obtain ⟨g0, g1⟩ := (HB.out.only hto.2 (by omega)).free
    have HTO := Lib.hid hto
    clear hto CC
    go_wp2
    rw [rounds_succ]
    go_wp2
    rw [rounds_succ]
    go_wp2
    refine bodyPost_ret (v := .tuple #[.agg #[.int .i64 u, .int .i64 0], .int .i64 0]) (by simp [results, Tryd.results71, go_sem, k0, k1, l0, l1]) rfl ?_
    refine ⟨u, 0, k + 2, 0, rfl, HN.out, ?_, fun _ => ?_⟩
    · repeat (refine Only.setCell ?_ (fun hl => absurd hl (by (try simp) <;> omega)) _)
      exact HO.out.trans HTO.out.2 (fun _ h _ => h)
    · refine H0.out.high HTO.out.1 ?_
      repeat (refine Only.setCell ?_ (fun _ => by (try simp) <;> omega) _)
      exact Only.refl _ _

set_option maxHeartbeats 8000000 in
set_option maxRecDepth 100000 in
theorem placesTwo (rb : Nat) (sv : Value) (zs : List Int) (k : Nat) (w : World) (tag : Int) (tx : Bool) (sz la lb : Int) (hla : la ≠ 0) (hlb : lb ≠ 0) (h : Rd w rb sv zs k) (hrd : ∀ p q k' e0, PairRd zs k tag ⟨tag, noText, 0, p, q⟩ k' e0 → RdC zs k tag ⟨tag, noText, 0, p, q⟩ k' e0) :
    Calls Tryd.prog 71 #[.pointer (some ⟨rb, 0, none⟩), .agg #[.bool tx, .int .i64 sz, .int .i64 la, .int .i64 lb]] w (PlacesTo rb sv zs k w tag) := by
  have hrb := h.lt.1
  obtain ⟨hA, hB, ho⟩ := three_laid w tx sz la lb
  have h1 := h.only ho (fun h => h) (fun _ _ h => h)
  have i0 : ∀ w, (Instr.index 87 (.agg #[.int .i64 la, .int .i64 lb]) (.int .i64 0)).run Tryd.prog w = .ok (.int .i64 la) w := fun _ => by kernel_rfl
  have i1 : ∀ w, (Instr.index 87 (.agg #[.int .i64 la, .int .i64 lb]) (.int .i64 1)).run Tryd.prog w = .ok (.int .i64 lb) w := fun _ => by kernel_rfl
  have a1 : (la == 0) = false := by simpa using hla
  have a2 : (lb == 0) = false := by simpa using hlb
  have HA := Lib.hid hA
  have HB := Lib.hid hB
  have HO := Lib.hid (ho.mono (T := fun j => j = rb) (fun _ h _ => h.elim))
  have HRD := Lib.hid hrd
  have H0 := Lib.hid h
  by_cases hk : zs.length < k + 2
  · have cC := cntShort rb sv zs k _ h1 hk
    have CC := Lib.hid cC
    have HK := Lib.hid hk
    clear cC h1 hA hB ho hrd h hla hlb hk
    go_enter Tryd.func71, Tryd.ntmps71
    go_wp2
    refine wp_loop_rounds 3 ?_
    rw [rounds_succ]
    go_wp2_with (fail)
    refine CC.out.mono ?_
    rintro e w1 ⟨rfl, hto⟩
    obtain ⟨k0, k1⟩ := (HA.out.only hto.2 (by omega)).cells
    obtain ⟨l0, l1⟩ := (HB.out.only hto.2 (by omega)).cells
    obtain ⟨f0, f1⟩ := (HA.out.only hto.2 (by omega)).free
    have HTO := Lib.hid hto
    clear hto CC
    go_wp2
    refine bodyPost_ret (v := .tuple #[.agg #[.int .i64 0, .int .i64 0], .int .i64 3]) (by simp [results, Tryd.results71, go_sem, k0, k1, l0, l1]) rfl ?_
    refine ⟨0, 0, k, 3, rfl, HRD.out _ _ _ _ (.inl ⟨by have := HK.out; omega, rfl⟩), ?_, fun h => absurd h (by decide)⟩
    repeat (refine Only.setCell ?_ (fun hl => absurd hl (by (try simp) <;> omega)) _)
    exact HO.out.trans HTO.out.2 (fun _ h _ => h)
  have cC := cntOk rb sv zs k _ h1 (by omega)
  obtain ⟨u0, u1⟩ := uAt_lt' h.bytish k 2 (by omega)
  simp only [Int.reducePow] at u1
  have hbz := h.bytish
  have CC := Lib.hid cC
  have HK := Lib.hid hk
  have HZ := Lib.hid hbz
  have HU0 := Lib.hid u0
  have HU1 := Lib.hid u1
  clear cC h1 hA hB ho hrd h hla hlb hk hbz u0 u1
  obtain ⟨u, hu⟩ : ∃ u, uAt zs k 2 = u := ⟨_, rfl⟩
  rw [hu] at CC
  have HU := Lib.hid hu
  clear hu
  go_enter Tryd.func71, Tryd.ntmps71
  go_wp2
  refine wp_loop_rounds 3 ?_
  rw [rounds_succ]
  go_wp2_with (fail)
  refine CC.out.mono ?_
  rintro e w1 ⟨rfl, hto⟩
  have pA := HA.out.only hto.2 (by omega)
  have pB := (HB.out.only hto.2 (by omega)).set0 u
  obtain ⟨k0, k1⟩ := pA.cells
  obtain ⟨f0, f1⟩ := pA.free
  obtain ⟨l0, l1⟩ := (HB.out.only hto.2 (by omega)).cells
  obtain ⟨g0, g1⟩ := (HB.out.only hto.2 (by omega)).free
  have hset : Only (fun j => w.heap.size ≤ j) w1 (w1.setCell ⟨w.heap.size + 1 + 1, 0, none⟩ (.int .i64 u)) := Only.setCell (Only.refl _ _) (fun _ => by (try simp) <;> omega) _
  have hset2 : Only (fun j => j = w.heap.size + 1 + 1) w1 (w1.setCell ⟨w.heap.size + 1 + 1, 0, none⟩ (.int .i64 u)) := Only.setCell (S := fun j => j = w.heap.size + 1 + 1) (Only.refl _ _) (fun _ => rfl) _
  have hr2 := H0.out.high hto.1 hset
  have pA2 := pA.only hset2 (by omega)
  have ho2 : Only (fun j => j = rb) w (w1.setCell ⟨w.heap.size + 1 + 1, 0, none⟩ (.int .i64 u)) := (HO.out.trans hto.2 (fun _ h _ => h)).setCell (fun hl => absurd hl (by (try simp) <;> omega)) _
  have HR2 := Lib.hid hr2
  have HPA := Lib.hid pA2
  have HPB := Lib.hid pB
  have HO2 := Lib.hid ho2
  clear hto CC pA pB hset hset2 hr2 pA2 ho2
  go_wp2
  rw [rounds_succ]
  by_cases hk2 : zs.length < k + 4
  · have cC := cntShort rb sv zs (k + 2) _ HR2.out (by omega)
    have CC := Lib.hid cC
    have HK2 := Lib.hid hk2
    clear cC hk2
    go_wp2_with (fail)
    refine CC.out.mono ?_
    rintro e w2 ⟨rfl, hto⟩
    obtain ⟨k0, k1⟩ := (HPA.out.only hto.2 (by omega)).cells
    obtain ⟨l0, l1⟩ := (HPB.out.only hto.2 (by omega)).cells
    obtain ⟨f0, f1⟩ := (HPA.out.only hto.2 (by omega)).free
    have HTO := Lib.hid hto
    clear hto CC
    go_wp2
    refine bodyPost_ret (v := .tuple #[.agg #[.int .i64 u, .int .i64 0], .int .i64 3]) (by simp [results, Tryd.results71, go_sem, k0, k1, l0, l1]) rfl ?_
    refine ⟨u, 0, k, 3, rfl, HRD.out _ _ _ _ (.inl ⟨HK2.out, rfl⟩), ?_, fun h => absurd h (by decide)⟩
    repeat (refine Only.setCell ?_ (fun hl => absurd hl (by (try simp) <;> omega)) _)
    exact HO2.out.trans HTO.out.2 (fun _ h _ => h)
  · have cC := cntOk rb sv zs (k + 2) _ HR2.out (by omega)
    obtain ⟨u0, u1⟩ := uAt_lt' HZ.out (k + 2) 2 (by omega)
    simp only [Int.reducePow] at u1
    have HN := Lib.hid (HRD.out (uAt zs k 2) (uAt zs (k + 2) 2) (k + 4) 0 (.inr ⟨by omega, rfl, rfl, rfl⟩))
    generalize uAt zs (k + 2) 2 = u2 at *
    have CC := Lib.hid cC
    clear cC hk2 u0 u1 HRD
    go_wp2_with (fail)
    refine CC.out.mono ?_
    rintro e w2 ⟨rfl, hto⟩
    obtain ⟨k0, k1⟩ := (HPA.out.only hto.2 (by omega)).cells
    obtain ⟨l0, l1⟩ := (HPB.out.only hto.2 (by omega)).cells
    obtain ⟨f0, f1⟩ := (HPA.out.only hto.2 (by omega)).free
    obtain ⟨g0, g1⟩ := (HPB.out.only hto.2 (by omega)).free
    have HTO := Lib.hid hto
    clear hto CC
    go_wp2
    rw [rounds_succ]
    go_wp2
    refine bodyPost_ret (v := .tuple #[.agg #[.int .i64 u, .int .i64 u2], .int .i64 0]) (by simp [results, Tryd.results71, go_sem, k0, k1, l0, l1]) rfl ?_
    refine ⟨u, u2, k + 4, 0, rfl, by rw [← HU.out]; exact HN.out, ?_, fun _ => ?_⟩
    · repeat (refine Only.setCell ?_ (fun hl => absurd hl (by (try simp) <;> omega)) _)
      exact HO2.out.trans HTO.out.2 (fun _ h _ => h)
    · refine H0.out.high HTO.out.1 ?_
      repeat (refine Only.setCell ?_ (fun _ => by (try simp) <;> omega) _)
      exact Only.refl _ _
end Go.Proofs.YtpiandkiijienaaDoor
