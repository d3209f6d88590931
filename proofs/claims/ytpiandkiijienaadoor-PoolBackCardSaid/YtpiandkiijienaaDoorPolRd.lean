/- The program reads counts, texts, places and constants. No condition beyond a reader that was made. -/
import Derived.Test.YtpiandkiijienaaDoorWireF
import Derived.Test.YtpiandkiijienaaDoorPolG
import Derived.Test.YtpiandkiijienaaDoorPolV
import Derived.Test.YtpiandkiijienaaDoorTxtK
import Derived.Test.YtpiandkiijienaaDoorPolJ
import Derived.RegionTactic
import Derived.ChangeAlike
namespace Go.Proofs.YtpiandkiijienaaDoor
open Go.RowKit
set_option linter.unusedVariables false
set_option linter.unusedSimpArgs false

theorem Rd.bytish {w : World} {rb : Nat} {sv : Value} {zs : List Int} {k : Nat} (h : Rd w rb sv zs k) : Bytish zs := h.byt
theorem uAt_lt' {zs : List Int} (hz : Bytish zs) (k n : Nat) (h : k + n ≤ zs.length) : 0 ≤ uAt zs k n ∧ uAt zs k n < 256 ^ n := valB_lt n _ (by simp; omega) ((hz.drop k).take n)
section
variable (rb : Nat) (sv : Value) (zs : List Int) (k n : Nat) (w : World)
theorem pdU_ok (h : Rd w rb sv zs k) (hn1 : 1 ≤ n) (hn8 : n ≤ 8) (hroom : k + n ≤ zs.length) :
    Calls Tryd.prog 68 #[.pointer (some ⟨rb, 0, none⟩), .int .i64 n] w fun e w' => e = .returned (.tuple #[.int .u64 (uAt zs k n), .int .i64 0]) ∧ RdTo w rb sv zs (k + n) w' := by
  have he : rdErr0 n ((zs.length : Int) - k) = 0 := by unfold rdErr0; rw [if_neg (by omega), if_neg (by omega)]
  have := rdUint rb sv zs k n w h (by omega) (by omega)
  rw [he] at this
  simp only [rdU, rdK, if_true, Int.toNat_natCast] at this
  exact this
theorem pdU_short (h : Rd w rb sv zs k) (hn1 : 1 ≤ n) (hn8 : n ≤ 8) (hroom : zs.length < k + n) :
    Calls Tryd.prog 68 #[.pointer (some ⟨rb, 0, none⟩), .int .i64 n] w fun e w' => e = .returned (.tuple #[.int .u64 0, .int .i64 3]) ∧ RdTo w rb sv zs k w' := by
  have he : rdErr0 n ((zs.length : Int) - k) = 3 := by unfold rdErr0; rw [if_neg (by omega), if_pos (by omega)]
  have := rdUint rb sv zs k n w h (by omega) (by omega)
  rw [he] at this
  simp only [rdU, rdK, show ¬ ((3 : Int) = 0) by decide, if_false] at this
  exact this
theorem pdI_ok (h : Rd w rb sv zs k) (hn1 : 1 ≤ n) (hn8 : n ≤ 8) (hroom : k + n ≤ zs.length) :
    Calls Tryd.prog 70 #[.pointer (some ⟨rb, 0, none⟩), .int .i64 n] w fun e w' => e = .returned (.tuple #[.int .i64 (sgn n (uAt zs k n)), .int .i64 0]) ∧ RdTo w rb sv zs (k + n) w' := by
  have he : rdErr0 n ((zs.length : Int) - k) = 0 := by unfold rdErr0; rw [if_neg (by omega), if_neg (by omega)]
  have := rdInt rb sv zs k n w h (by omega) (by omega)
  rw [he] at this
  simp only [rdI, rdK, if_true, Int.toNat_natCast] at this
  exact this
theorem pdI_short (h : Rd w rb sv zs k) (hn1 : 1 ≤ n) (hn8 : n ≤ 8) (hroom : zs.length < k + n) :
    Calls Tryd.prog 70 #[.pointer (some ⟨rb, 0, none⟩), .int .i64 n] w fun e w' => e = .returned (.tuple #[.int .i64 0, .int .i64 3]) ∧ RdTo w rb sv zs k w' := by
  have he : rdErr0 n ((zs.length : Int) - k) = 3 := by unfold rdErr0; rw [if_neg (by omega), if_pos (by omega)]
  have := rdInt rb sv zs k n w h (by omega) (by omega)
  rw [he] at this
  simp only [rdI, rdK, show ¬ ((3 : Int) = 0) by decide, if_false] at this
  exact this
theorem pdB_ok (h : Rd w rb sv zs k) (hroom : k + n ≤ zs.length) (hn : n ≤ 65536) :
    Calls Tryd.prog 85 #[.pointer (some ⟨rb, 0, none⟩), .int .i64 n] w fun e w' => ∃ v', e = .returned (.tuple #[v', .int .i64 0]) ∧ RdTo w rb sv zs (k + n) w' ∧ Row w' w.heap.size v' ((zs.drop k).take n) := by
  have he : rdErr1 n ((zs.length : Int) - k) = 0 := by unfold rdErr1; rw [if_neg (by omega), if_neg (by omega)]
  have := rdBytes rb sv zs k n w h (by omega) (by omega)
  rw [he] at this
  simp only [rdPart, rdK, if_true, Int.toNat_natCast] at this
  exact this
theorem pdB_short (h : Rd w rb sv zs k) (hroom : zs.length < k + n) (hn : n ≤ 65536) :
    Calls Tryd.prog 85 #[.pointer (some ⟨rb, 0, none⟩), .int .i64 n] w fun e w' => ∃ v', e = .returned (.tuple #[v', .int .i64 3]) ∧ RdTo w rb sv zs k w' := by
  have he : rdErr1 n ((zs.length : Int) - k) = 3 := by unfold rdErr1; rw [if_neg (by omega), if_pos (by omega)]
  have := rdBytes rb sv zs k n w h (by omega) (by omega)
  rw [he] at this
  simp only [rdPart, rdK, show ¬ ((3 : Int) = 0) by decide, if_false] at this
  exact this.mono fun e w' ⟨v', h1, h2, _⟩ => ⟨v', h1, h2⟩
set_option maxHeartbeats 1000000 in
theorem cntOk (h : Rd w rb sv zs k) (hroom : k + 2 ≤ zs.length) :
    Calls Tryd.prog 49 #[.pointer (some ⟨rb, 0, none⟩)] w fun e w' => e = .returned (.tuple #[.int .i64 (uAt zs k 2), .int .i64 0]) ∧ RdTo w rb sv zs (k + 2) w' := by
  obtain ⟨u0, u1⟩ := uAt_lt' h.bytish k 2 hroom
  simp only [Int.reducePow] at u1
  have cU := pdU_ok rb sv zs k 2 w h (by decide) (by decide) hroom
  generalize uAt zs k 2 = u at *
  have CU := Lib.hid cU
  clear cU h
  go_enter Tryd.func49, Tryd.ntmps49
  go_wp2_with (fail)
  refine CU.out.mono ?_
  rintro e w1 ⟨rfl, hto⟩
  have HTO := Lib.hid hto
  clear CU hto
  go_wp2
  go_ret2
  exact ⟨rfl, HTO.out⟩
set_option maxHeartbeats 1000000 in
theorem cntShort (h : Rd w rb sv zs k) (hroom : zs.length < k + 2) :
    Calls Tryd.prog 49 #[.pointer (some ⟨rb, 0, none⟩)] w fun e w' => e = .returned (.tuple #[.int .i64 0, .int .i64 3]) ∧ RdTo w rb sv zs k w' := by
  have cU := pdU_short rb sv zs k 2 w h (by decide) (by decide) hroom
  have CU := Lib.hid cU
  clear cU h
  go_enter Tryd.func49, Tryd.ntmps49
  go_wp2_with (fail)
  refine CU.out.mono ?_
  rintro e w1 ⟨rfl, hto⟩
  have HTO := Lib.hid hto
  clear CU hto
  go_wp2
  go_ret2
  exact ⟨rfl, HTO.out⟩

/-- What reading a text leaves. -/
def TextTo (e : Ending) (w' : World) : Prop :=
  ∃ s k' e0, e = .returned (.tuple #[.string s, .int .i64 e0]) ∧ RdC zs k 1 ⟨1, s, 0, 0, 0⟩ k' e0 ∧ Only (fun j => j = rb) w w' ∧ (e0 = 0 → Rd w' rb sv zs k')
set_option maxHeartbeats 2000000 in
set_option maxRecDepth 100000 in
theorem progReadText (h : Rd w rb sv zs k) (hl : zs.length ≤ 140737488351232) :
    Calls Tryd.prog 69 #[.pointer (some ⟨rb, 0, none⟩)] w (TextTo rb sv zs k w) := by
  have rdc : ∀ c k' e0, TextRd zs k c k' e0 → RdC zs k 1 c k' e0 := fun c k' e0 h => by unfold RdC; rw [if_pos rfl]; exact h
  by_cases h2 : zs.length < k + 2
  · have cC := cntShort rb sv zs k w h h2
    have HR := Lib.hid (rdc ⟨1, noText, 0, 0, 0⟩ k 3 (.inl ⟨h2, rfl⟩))
    have CC := Lib.hid cC
    clear cC h rdc
    go_enter Tryd.func69, Tryd.ntmps69
    go_wp2_with (fail)
    refine CC.out.mono ?_
    rintro e w1 ⟨rfl, hto⟩
    have HTO := Lib.hid hto
    clear CC hto
    go_wp2
    go_ret2
    exact ⟨noText, k, 3, rfl, HR.out, HTO.out.2, fun h => absurd h (by decide)⟩
  obtain ⟨u0, u1⟩ := uAt_lt' h.bytish k 2 (by omega)
  simp only [Int.reducePow] at u1
  have cC := cntOk rb sv zs k w h (by omega)
  have hbz := h.bytish
  obtain ⟨u, hu⟩ : ∃ u : Nat, uAt zs k 2 = (u : Int) := ⟨(uAt zs k 2).toNat, by omega⟩
  rw [hu] at cC u0 u1
  have HU := Lib.hid hu
  have CC := Lib.hid cC
  have HZ := Lib.hid hbz
  clear cC h hu hbz
  by_cases hbig : 256 < u
  · have hbz : (256 : Int) < (u : Int) := by omega
    have HR := Lib.hid (rdc ⟨1, noText, 0, 0, 0⟩ k 20 (.inr (.inl ⟨by omega, by rw [HU.out]; exact hbz, rfl⟩)))
    clear rdc
    go_enter Tryd.func69, Tryd.ntmps69
    go_wp2_with (fail)
    refine CC.out.mono ?_
    rintro e w1 ⟨rfl, hto⟩
    have HTO := Lib.hid hto
    clear CC hto
    go_wp2
    go_ret2
    exact ⟨noText, k, 20, rfl, HR.out, HTO.out.2, fun h => absurd h (by decide)⟩
  have hsm : (u : Int) ≤ 256 := by omega
  by_cases hcut : zs.length < k + 2 + u
  · have HR := Lib.hid (rdc ⟨1, noText, 0, 0, 0⟩ k 3 (.inr (.inr (.inl ⟨by omega, by rw [HU.out]; exact hsm, by rw [HU.out, Int.toNat_natCast]; exact hcut, rfl⟩))))
    have HCUT := Lib.hid hcut
    have HL := Lib.hid hl
    have hd : decide ((256 : Int) < (u : Int)) = false := decide_eq_false (by omega)
    clear rdc hcut hbig hl h2 hsm u1 u0
    go_enter Tryd.func69, Tryd.ntmps69
    go_wp2_with (fail)
    refine CC.out.mono ?_
    rintro e w1 ⟨rfl, hto⟩
    have cB := pdB_short rb sv zs (k + 2) u w1 hto.1 HCUT.out (by simp at hd; omega)
    have CB := Lib.hid cB
    have HTO := Lib.hid hto
    clear CC hto cB
    go_wp2_with (fail)
    refine CB.out.mono ?_
    rintro e w2 ⟨v', rfl, hto2⟩
    have HTO2 := Lib.hid hto2
    clear CB hto2
    go_wp2
    go_ret2
    exact ⟨noText, k, 3, rfl, HR.out, HTO.out.2.trans HTO2.out.2 (fun _ h _ => h), fun h => absurd h (by decide)⟩
  · have HR := Lib.hid (fun ys e (hd : Dec ((zs.drop (k + 2)).take u) ys e) => rdc ⟨1, strOfNums ys, 0, 0, 0⟩ (k + 2 + u) e (.inr (.inr (.inr ⟨by omega, by rw [HU.out]; exact hsm, by rw [HU.out, Int.toNat_natCast]; omega, ys, by rw [HU.out, Int.toNat_natCast]; exact hd, rfl, by rw [HU.out, Int.toNat_natCast]⟩))))
    have HCUT := Lib.hid hcut
    have HL := Lib.hid hl
    have hd : decide ((256 : Int) < (u : Int)) = false := decide_eq_false (by omega)
    clear rdc hcut hbig hl h2 hsm u1 u0
    go_enter Tryd.func69, Tryd.ntmps69
    go_wp2_with (fail)
    refine CC.out.mono ?_
    rintro e w1 ⟨rfl, hto⟩
    have cB := pdB_ok rb sv zs (k + 2) u w1 hto.1 (by have := HCUT.out; omega) (by simp at hd; omega)
    have CB := Lib.hid cB
    have HTO := Lib.hid hto
    clear CC hto cB
    go_wp2_with (fail)
    refine CB.out.mono ?_
    rintro e w2 ⟨v', rfl, hto2, hrow⟩
    have hbyt := (HZ.out.drop (k + 2)).take u
    have hxl : ((zs.drop (k + 2)).take u).length ≤ 140737488351232 := by have := HL.out; simp; omega
    obtain ⟨xs, hxs⟩ : ∃ xs, (zs.drop (k + 2)).take u = xs := ⟨_, rfl⟩
    rw [hxs] at hrow hbyt hxl
    have cD := decode v' xs w2 (hrow.bytes hbyt) hxl
    have HXS := Lib.hid hxs
    clear hxs hbyt hxl
    obtain ⟨av, cv, rfl, _, _⟩ := slice_of_owns hrow
    have CD := Lib.hid cD
    have HTO2 := Lib.hid hto2
    clear CB hto2 cD hrow
    go_wp2_with (fail)
    refine CD.out.mono ?_
    rintro e w3 ⟨ys, e0, rfl, hdec, ho3⟩
    have HD := Lib.hid hdec
    have HO3 := Lib.hid ho3
    clear CD hdec ho3
    go_wp2
    go_ret2
    exact ⟨strOfNums ys, k + 2 + u, e0, rfl, HR.out _ _ (by rw [HXS.out]; exact HD.out), (HTO.out.2.trans HTO2.out.2 (fun _ h _ => h)).trans HO3.out (fun _ h => h.elim), fun _ => HTO2.out.1.only HO3.out (fun h => h) (fun _ _ h => h)⟩
end


/-- A block of two places. -/
def P2 (w : World) (b : Nat) (x y : Int) : Prop := w.heap[b]? = some (.cells #[.int .i64 x, .int .i64 y] 87 (0, 0))
theorem P2.cells {w : World} {b : Nat} {x y : Int} (h : P2 w b x y) : w.cell? ⟨b, 0, none⟩ = some (.int .i64 x) ∧ w.cell? ⟨b, 1, none⟩ = some (.int .i64 y) := ⟨by rw [cell_blk h]; rfl, by rw [cell_blk h]; rfl⟩
theorem P2.free {w : World} {b : Nat} {x y : Int} (h : P2 w b x y) : w.frozen? ⟨b, 0, none⟩ = false ∧ w.frozen? ⟨b, 1, none⟩ = false := ⟨frozen_blk h 0, frozen_blk h 1⟩
theorem P2.only {S : Nat → Prop} {w w' : World} {b : Nat} {x y : Int} (h : P2 w b x y) (ho : Only S w w') (hs : ¬ S b) : P2 w' b x y := ho.heap h hs
theorem P2.set0 {w : World} {b : Nat} {x y : Int} (h : P2 w b x y) (p : Int) : P2 (w.setCell ⟨b, 0, none⟩ (.int .i64 p)) b p y := heap_setCell_at h
theorem P2.set1 {w : World} {b : Nat} {x y : Int} (h : P2 w b x y) (p : Int) : P2 (w.setCell ⟨b, 1, none⟩ (.int .i64 p)) b x p := heap_setCell_at h

/-- The world in which the three blocks are laid: the shape, the result, the places. -/
theorem three_laid (w : World) (tx : Bool) (sz la lb : Int) :
    let W := ((w.alloc (.cells #[.bool tx, .int .i64 sz, .int .i64 la, .int .i64 lb] 89)).alloc (.cells #[.int .i64 0, .int .i64 0] 87)).alloc (.cells #[.int .i64 0, .int .i64 0] 87)
    P2 W (w.heap.size + 1) 0 0 ∧ P2 W (w.heap.size + 1 + 1) 0 0 ∧ Only (fun _ => False) w W := by
  refine ⟨?_, ?_, (((Only.refl _ w).alloc _).alloc _).alloc _⟩
  · refine ((Only.refl (fun _ => False) _).alloc _).heap ?_ (fun h => h)
    have := heap_alloc_new (w.alloc (.cells #[.bool tx, .int .i64 sz, .int .i64 la, .int .i64 lb] 89)) (.cells #[.int .i64 0, .int .i64 0] 87)
    simpa using this
  · have := heap_alloc_new ((w.alloc (.cells #[.bool tx, .int .i64 sz, .int .i64 la, .int .i64 lb] 89)).alloc (.cells #[.int .i64 0, .int .i64 0] 87)) (.cells #[.int .i64 0, .int .i64 0] 87)
    simpa [P2] using this

/-- What reading the places leaves. -/
def PlacesTo (rb : Nat) (sv : Value) (zs : List Int) (k : Nat) (w : World) (tag : Int) (e : Ending) (w' : World) : Prop :=
  ∃ p q k' e0, e = .returned (.tuple #[.agg #[.int .i64 p, .int .i64 q], .int .i64 e0]) ∧ RdC zs k tag ⟨tag, noText, 0, p, q⟩ k' e0 ∧ Only (fun j => j = rb) w w' ∧ (e0 = 0 → Rd w' rb sv zs k')
theorem Rd.high {w w1 w' : World} {rb : Nat} {sv : Value} {zs : List Int} {k k' : Nat} (h0 : Rd w rb sv zs k) (h : Rd w1 rb sv zs k') (ho : Only (fun j => w.heap.size ≤ j) w1 w') : Rd w' rb sv zs k' :=
  h.only ho (by have := h0.lt; omega) (fun b hb => by have := h0.lt.2 b hb; omega)

set_option maxHeartbeats 4000000 in
set_option maxRecDepth 100000 in
theorem placesOne (rb : Nat) (sv : Value) (zs : List Int) (k : Nat) (w : World) (tx : Bool) (sz la : Int) (hla : la ≠ 0) (h : Rd w rb sv zs k) (hrd : ∀ p k' e0, NumRd zs k 2 (fun u => ⟨7, noText, 0, u, 0⟩) ⟨7, noText, 0, p, 0⟩ k' e0 → RdC zs k 7 ⟨7, noText, 0, p, 0⟩ k' e0) :
    Calls Tryd.prog 71 #[.pointer (some ⟨rb, 0, none⟩), .agg #[.bool tx, .int .i64 sz, .int .i64 la, .int .i64 0]] w (PlacesTo rb sv zs k w 7) := by
  have hrb := h.lt.1
  obtain ⟨hA, hB, ho⟩ := three_laid w tx sz la 0
  have h1 := h.only ho (fun h => h) (fun _ _ h => h)
  have i0 : ∀ w, (Instr.index 87 (.agg #[.int .i64 la, .int .i64 0]) (.int .i64 0)).run Tryd.prog w = .ok (.int .i64 la) w := fun _ => by kernel_rfl
  have i1 : ∀ w, (Instr.index 87 (.agg #[.int .i64 la, .int .i64 0]) (.int .i64 1)).run Tryd.prog w = .ok (.int .i64 0) w := fun _ => by kernel_rfl
  have a1 : (la == 0) = false := by simpa using hla
  have HA := Lib.hid hA
  have HB := Lib.hid hB
  have HO := Lib.hid (ho.mono (T := fun j => j = rb) (fun _ h _ => h.elim))
  have HRD := Lib.hid hrd
  have H0 := Lib.hid h
  by_cases hk : zs.length < k + 2
  · have cC := cntShort rb sv zs k _ h1 hk
    have CC := Lib.hid cC
    have HK := Lib.hid hk
    clear cC h1 hA hB ho hrd h hla hk
    go_enter Tryd.func71, Tryd.ntmps71
    go_wp2
    refine wp_loop_rounds 3 ?_
    rw [rounds_succ]
    go_wp2_with (fail)
    refine CC.out.mono ?_
    rintro e w1 ⟨rfl, hto⟩
    obtain ⟨k0, k1⟩ := (HA.out.only hto.2 (by omega)).cells
    obtain ⟨l0, l1⟩ := (HB.out.only hto.2 (by omega)).cells
    obtain ⟨f0, f1⟩ := (HA.out.only hto.2 (by omega)).free
    have HTO := Lib.hid hto
    clear hto CC
    go_wp2
    refine bodyPost_ret (v := .tuple #[.agg #[.int .i64 0, .int .i64 0], .int .i64 3]) (by simp [results, Tryd.results71, go_sem, k0, k1, l0, l1]) rfl ?_
    refine ⟨0, 0, k, 3, rfl, HRD.out _ _ _ (.inl ⟨HK.out, rfl⟩), ?_, fun h => absurd h (by decide)⟩
    repeat (refine Only.setCell ?_ (fun hl => absurd hl (by (try simp) <;> omega)) _)
    exact HO.out.trans HTO.out.2 (fun _ h _ => h)
  · have cC := cntOk rb sv zs k _ h1 (by omega)
    obtain ⟨u0, u1⟩ := uAt_lt' h.bytish k 2 (by omega)
    simp only [Int.reducePow] at u1
    have HN := Lib.hid (HRD.out (uAt zs k 2) (k + 2) 0 (.inr ⟨by omega, rfl, rfl, rfl⟩))
    generalize uAt zs k 2 = u at *
    have CC := Lib.hid cC
    clear cC h1 hA hB ho hrd h hla hk HRD
    go_enter Tryd.func71, Tryd.ntmps71
    go_wp2
    refine wp_loop_rounds 3 ?_
    rw [rounds_succ]
    go_wp2_with (fail)
    refine CC.out.mono ?_
    rintro e w1 ⟨rfl, hto⟩
    obtain ⟨k0, k1⟩ := (HA.out.only hto.2 (by omega)).cells
    obtain ⟨l0, l1⟩ := (HB.out.only hto.2 (by omega)).cells
    obtain ⟨f0, f1⟩ := (HA.out.only hto.2 (by omega)).free
    obtain ⟨g0, g1⟩ := (HB.out.only hto.2 (by omega)).free
    have HTO := Lib.hid hto
    clear hto CC
    go_wp2
    rw [rounds_succ]
    go_wp2
    rw [rounds_succ]
    go_wp2
    refine bodyPost_ret (v := .tuple #[.agg #[.int .i64 u, .int .i64 0], .int .i64 0]) (by simp [results, Tryd.results71, go_sem, k0, k1, l0, l1]) rfl ?_
    refine ⟨u, 0, k + 2, 0, rfl, HN.out, ?_, fun _ => ?_⟩
    · repeat (refine Only.setCell ?_ (fun hl => absurd hl (by (try simp) <;> omega)) _)
      exact HO.out.trans HTO.out.2 (fun _ h _ => h)
    · refine H0.out.high HTO.out.1 ?_
      repeat (refine Only.setCell ?_ (fun _ => by (try simp) <;> omega) _)
      exact Only.refl _ _

set_option maxHeartbeats 8000000 in
set_option maxRecDepth 100000 in
theorem placesTwo (rb : Nat) (sv : Value) (zs : List Int) (k : Nat) (w : World) (tag : Int) (tx : Bool) (sz la lb : Int) (hla : la ≠ 0) (hlb : lb ≠ 0) (h : Rd w rb sv zs k) (hrd : ∀ p q k' e0, PairRd zs k tag ⟨tag, noText, 0, p, q⟩ k' e0 → RdC zs k tag ⟨tag, noText, 0, p, q⟩ k' e0) :
    Calls Tryd.prog 71 #[.pointer (some ⟨rb, 0, none⟩), .agg #[.bool tx, .int .i64 sz, .int .i64 la, .int .i64 lb]] w (PlacesTo rb sv zs k w tag) := by
  have hrb := h.lt.1
  obtain ⟨hA, hB, ho⟩ := three_laid w tx sz la lb
  have h1 := h.only ho (fun h => h) (fun _ _ h => h)
  have i0 : ∀ w, (Instr.index 87 (.agg #[.int .i64 la, .int .i64 lb]) (.int .i64 0)).run Tryd.prog w = .ok (.int .i64 la) w := fun _ => by kernel_rfl
  have i1 : ∀ w, (Instr.index 87 (.agg #[.int .i64 la, .int .i64 lb]) (.int .i64 1)).run Tryd.prog w = .ok (.int .i64 lb) w := fun _ => by kernel_rfl
  have a1 : (la == 0) = false := by simpa using hla
  have a2 : (lb == 0) = false := by simpa using hlb
  have HA := Lib.hid hA
  have HB := Lib.hid hB
  have HO := Lib.hid (ho.mono (T := fun j => j = rb) (fun _ h _ => h.elim))
  have HRD := Lib.hid hrd
  have H0 := Lib.hid h
  by_cases hk : zs.length < k + 2
  · have cC := cntShort rb sv zs k _ h1 hk
    have CC := Lib.hid cC
    have HK := Lib.hid hk
    clear cC h1 hA hB ho hrd h hla hlb hk
    go_enter Tryd.func71, Tryd.ntmps71
    go_wp2
    refine wp_loop_rounds 3 ?_
    rw [rounds_succ]
    go_wp2_with (fail)
    refine CC.out.mono ?_
    rintro e w1 ⟨rfl, hto⟩
    obtain ⟨k0, k1⟩ := (HA.out.only hto.2 (by omega)).cells
    obtain ⟨l0, l1⟩ := (HB.out.only hto.2 (by omega)).cells
    obtain ⟨f0, f1⟩ := (HA.out.only hto.2 (by omega)).free
    have HTO := Lib.hid hto
    clear hto CC
    go_wp2
    refine bodyPost_ret (v := .tuple #[.agg #[.int .i64 0, .int .i64 0], .int .i64 3]) (by simp [results, Tryd.results71, go_sem, k0, k1, l0, l1]) rfl ?_
    refine ⟨0, 0, k, 3, rfl, HRD.out _ _ _ _ (.inl ⟨by have := HK.out; omega, rfl⟩), ?_, fun h => absurd h (by decide)⟩
    repeat (refine Only.setCell ?_ (fun hl => absurd hl (by (try simp) <;> omega)) _)
    exact HO.out.trans HTO.out.2 (fun _ h _ => h)
  have cC := cntOk rb sv zs k _ h1 (by omega)
  obtain ⟨u0, u1⟩ := uAt_lt' h.bytish k 2 (by omega)
  simp only [Int.reducePow] at u1
  have hbz := h.bytish
  have CC := Lib.hid cC
  have HK := Lib.hid hk
  have HZ := Lib.hid hbz
  have HU0 := Lib.hid u0
  have HU1 := Lib.hid u1
  clear cC h1 hA hB ho hrd h hla hlb hk hbz u0 u1
  obtain ⟨u, hu⟩ : ∃ u, uAt zs k 2 = u := ⟨_, rfl⟩
  rw [hu] at CC
  have HU := Lib.hid hu
  clear hu
  go_enter Tryd.func71, Tryd.ntmps71
  go_wp2
  refine wp_loop_rounds 3 ?_
  rw [rounds_succ]
  go_wp2_with (fail)
  refine CC.out.mono ?_
  rintro e w1 ⟨rfl, hto⟩
  have pA := HA.out.only hto.2 (by omega)
  have pB := (HB.out.only hto.2 (by omega)).set0 u
  obtain ⟨k0, k1⟩ := pA.cells
  obtain ⟨f0, f1⟩ := pA.free
  obtain ⟨l0, l1⟩ := (HB.out.only hto.2 (by omega)).cells
  obtain ⟨g0, g1⟩ := (HB.out.only hto.2 (by omega)).free
  have hset : Only (fun j => w.heap.size ≤ j) w1 (w1.setCell ⟨w.heap.size + 1 + 1, 0, none⟩ (.int .i64 u)) := Only.setCell (Only.refl _ _) (fun _ => by (try simp) <;> omega) _
  have hset2 : Only (fun j => j = w.heap.size + 1 + 1) w1 (w1.setCell ⟨w.heap.size + 1 + 1, 0, none⟩ (.int .i64 u)) := Only.setCell (S := fun j => j = w.heap.size + 1 + 1) (Only.refl _ _) (fun _ => rfl) _
  have hr2 := H0.out.high hto.1 hset
  have pA2 := pA.only hset2 (by omega)
  have ho2 : Only (fun j => j = rb) w (w1.setCell ⟨w.heap.size + 1 + 1, 0, none⟩ (.int .i64 u)) := (HO.out.trans hto.2 (fun _ h _ => h)).setCell (fun hl => absurd hl (by (try simp) <;> omega)) _
  have HR2 := Lib.hid hr2
  have HPA := Lib.hid pA2
  have HPB := Lib.hid pB
  have HO2 := Lib.hid ho2
  clear hto CC pA pB hset hset2 hr2 pA2 ho2
  go_wp2
  rw [rounds_succ]
  by_cases hk2 : zs.length < k + 4
  · have cC := cntShort rb sv zs (k + 2) _ HR2.out (by omega)
    have CC := Lib.hid cC
    have HK2 := Lib.hid hk2
    clear cC hk2
    go_wp2_with (fail)
    refine CC.out.mono ?_
    rintro e w2 ⟨rfl, hto⟩
    obtain ⟨k0, k1⟩ := (HPA.out.only hto.2 (by omega)).cells
    obtain ⟨l0, l1⟩ := (HPB.out.only hto.2 (by omega)).cells
    obtain ⟨f0, f1⟩ := (HPA.out.only hto.2 (by omega)).free
    have HTO := Lib.hid hto
    clear hto CC
    go_wp2
    refine bodyPost_ret (v := .tuple #[.agg #[.int .i64 u, .int .i64 0], .int .i64 3]) (by simp [results, Tryd.results71, go_sem, k0, k1, l0, l1]) rfl ?_
    refine ⟨u, 0, k, 3, rfl, HRD.out _ _ _ _ (.inl ⟨HK2.out, rfl⟩), ?_, fun h => absurd h (by decide)⟩
    repeat (refine Only.setCell ?_ (fun hl => absurd hl (by (try simp) <;> omega)) _)
    exact HO2.out.trans HTO.out.2 (fun _ h _ => h)
  · have cC := cntOk rb sv zs (k + 2) _ HR2.out (by omega)
    obtain ⟨u0, u1⟩ := uAt_lt' HZ.out (k + 2) 2 (by omega)
    simp only [Int.reducePow] at u1
    have HN := Lib.hid (HRD.out (uAt zs k 2) (uAt zs (k + 2) 2) (k + 4) 0 (.inr ⟨by omega, rfl, rfl, rfl⟩))
    generalize uAt zs (k + 2) 2 = u2 at *
    have CC := Lib.hid cC
    clear cC hk2 u0 u1 HRD
    go_wp2_with (fail)
    refine CC.out.mono ?_
    rintro e w2 ⟨rfl, hto⟩
    obtain ⟨k0, k1⟩ := (HPA.out.only hto.2 (by omega)).cells
    obtain ⟨l0, l1⟩ := (HPB.out.only hto.2 (by omega)).cells
    obtain ⟨f0, f1⟩ := (HPA.out.only hto.2 (by omega)).free
    obtain ⟨g0, g1⟩ := (HPB.out.only hto.2 (by omega)).free
    have HTO := Lib.hid hto
    clear hto CC
    go_wp2
    rw [rounds_succ]
    go_wp2
    refine bodyPost_ret (v := .tuple #[.agg #[.int .i64 u, .int .i64 u2], .int .i64 0]) (by simp [results, Tryd.results71, go_sem, k0, k1, l0, l1]) rfl ?_
    refine ⟨u, u2, k + 4, 0, rfl, by rw [← HU.out]; exact HN.out, ?_, fun _ => ?_⟩
    · repeat (refine Only.setCell ?_ (fun hl => absurd hl (by (try simp) <;> omega)) _)
      exact HO2.out.trans HTO.out.2 (fun _ h _ => h)
    · refine H0.out.high HTO.out.1 ?_
      repeat (refine Only.setCell ?_ (fun _ => by (try simp) <;> omega) _)
      exact Only.refl _ _


/-- What reading a constant leaves. -/
def ConstTo (rb : Nat) (sv : Value) (zs : List Int) (k : Nat) (w : World) (e : Ending) (w' : World) : Prop :=
  ∃ c k' e0, e = .returned (.tuple #[.agg #[.int .i64 c.tag, .string c.text, .int .i64 c.n, .int .i64 c.a, .int .i64 c.b], .int .i64 e0]) ∧ RdOne zs k c k' e0 ∧ Only (fun j => j = rb) w w' ∧ (e0 = 0 → Rd w' rb sv zs k')
theorem C5.zero (w : World) : C5 (w.alloc (.cells #[.int .i64 0, .string ⟨#[]⟩, .int .i64 0, .int .i64 0, .int .i64 0] 45)) w.heap.size ⟨0, noText, 0, 0, 0⟩ := heap_alloc_new w _

set_option maxHeartbeats 4000000 in
set_option maxRecDepth 100000 in
theorem readConstShort (rb : Nat) (sv : Value) (zs : List Int) (k : Nat) (w : World) (h : Rd w rb sv zs k) (hk : zs.length < k + 1) :
    Calls Tryd.prog 50 #[.pointer (some ⟨rb, 0, none⟩)] w (ConstTo rb sv zs k w) := by
  have hrb := h.lt.1
  have ho0 : Only (fun _ => False) w (w.alloc (.cells #[.int .i64 0, .string ⟨#[]⟩, .int .i64 0, .int .i64 0, .int .i64 0] 45)) := (Only.refl _ _).alloc _
  have cU := pdU_short rb sv zs k 1 _ (h.only ho0 (fun h => h) (fun _ _ h => h)) (by decide) (by decide) hk
  have hR := C5.zero w
  have CU := Lib.hid cU
  have HR := Lib.hid hR
  have HK := Lib.hid hk
  have HO := Lib.hid (ho0.mono (T := fun j => j = rb) (fun _ h _ => h.elim))
  clear cU hR hk ho0 h
  go_enter Tryd.func50, Tryd.ntmps50
  go_wp2_with (fail)
  refine CU.out.mono ?_
  rintro e w1 ⟨rfl, hto⟩
  have hR1 := HR.out.only hto.2 (by omega)
  obtain ⟨k0, k1, k2, k3, k4⟩ := hR1.cells
  obtain ⟨f0, f1, f2, f3, f4⟩ := hR1.free
  have HTO := Lib.hid hto
  clear hto CU hR1
  go_wp2
  refine bodyPost_ret (v := .tuple #[.agg #[.int .i64 0, .string noText, .int .i64 0, .int .i64 0, .int .i64 0], .int .i64 3]) (by simp [results, Tryd.results50, go_sem, noText, k0, k1, k2, k3, k4]) rfl ?_
  refine ⟨⟨0, noText, 0, 0, 0⟩, k, 3, rfl, .inl ⟨HK.out, rfl⟩, ?_, fun h => absurd h (by decide)⟩
  repeat (refine Only.setCell ?_ (fun hl => absurd hl (by (try simp) <;> omega)) _)
  exact HO.out.trans HTO.out.2 (fun _ h _ => h)

set_option maxHeartbeats 8000000 in
set_option maxRecDepth 100000 in
theorem readConstNone (rb : Nat) (sv : Value) (zs : List Int) (k : Nat) (w : World) (h : Rd w rb sv zs k) (hk : k + 1 ≤ zs.length) (t : Int) (ht : uAt zs k 1 = t) (hs : (shapeZ t).2 = false) (hn : ∀ c k', RdC zs (k + 1) t c k' 40) :
    Calls Tryd.prog 50 #[.pointer (some ⟨rb, 0, none⟩)] w (ConstTo rb sv zs k w) := by
  have hrb := h.lt.1
  have ho0 : Only (fun _ => False) w (w.alloc (.cells #[.int .i64 0, .string ⟨#[]⟩, .int .i64 0, .int .i64 0, .int .i64 0] 45)) := (Only.refl _ _).alloc _
  have cU := pdU_ok rb sv zs k 1 _ (h.only ho0 (fun h => h) (fun _ _ h => h)) (by decide) (by decide) hk
  have hR := C5.zero w
  obtain ⟨u0, u1⟩ := uAt_lt' h.bytish k 1 hk
  simp only [Int.reducePow] at u1
  rw [ht] at cU u0 u1
  have hone : ∀ c k' e0, RdC zs (k + 1) t c k' e0 → RdOne zs k c k' e0 := fun c k' e0 hc => .inr ⟨hk, by rw [ht]; exact hc⟩
  have HONE := Lib.hid hone
  have CU := Lib.hid cU
  have HR := Lib.hid hR
  have HO := Lib.hid (ho0.mono (T := fun j => j = rb) (fun _ h _ => h.elim))
  have H0 := Lib.hid h
  have hn2 := HONE.out ⟨0, noText, 0, 0, 0⟩ k 40 (hn _ _)
  have HN := Lib.hid hn2
  have cS := fun w => progShape t w
  rw [hs] at cS
  obtain ⟨sh, hsh⟩ : ∃ sh, (shapeZ t).1 = sh := ⟨_, rfl⟩
  rw [hsh] at cS
  obtain ⟨tx, sz, la, lb⟩ := sh
  simp only at cS
  have CS := Lib.hid cS
  clear hs hn hn2 cS hsh
  clear cU hR hk ho0 h hone ht
  go_enter Tryd.func50, Tryd.ntmps50
  go_wp2_with (fail)
  refine CU.out.mono ?_
  rintro e w1 ⟨rfl, hto⟩
  have hR1 := HR.out.only hto.2 (by omega)
  have hz1 := hto.2.size
  simp at hz1
  have HTO := Lib.hid hto
  have HR1 := Lib.hid hR1
  clear hto CU hR1
  go_wp2_with (fail)
  refine (CS.out w1).mono ?_
  rintro e w2 ⟨rfl, ho2⟩
  have hz2 := ho2.size
  have HO2 := Lib.hid ho2
  clear ho2
  have hoS : Only (fun _ => False) w1 (w2.alloc (.cells #[.bool tx, .int .i64 sz, .int .i64 la, .int .i64 lb] 89)) := HO2.out.alloc _
  have hR2 := HR1.out.only hoS (fun h => h)
  obtain ⟨k0, k1, k2, k3, k4⟩ := hR2.cells
  obtain ⟨f0, f1, f2, f3, f4⟩ := hR2.free
  have HOS := Lib.hid hoS
  clear hoS hR2
  go_wp2
  refine bodyPost_ret (v := .tuple #[.agg #[.int .i64 0, .string noText, .int .i64 0, .int .i64 0, .int .i64 0], .int .i64 40]) (by simp [results, Tryd.results50, go_sem, noText, k0, k1, k2, k3, k4]) rfl ?_
  refine ⟨⟨0, noText, 0, 0, 0⟩, k, 40, rfl, HN.out, ?_, fun h => absurd h (by decide)⟩
  repeat (refine Only.setCell ?_ (fun hl => absurd hl (by (try simp) <;> omega)) _)
  exact (HO.out.trans HTO.out.2 (fun _ h _ => h)).trans HOS.out (fun _ h => h.elim)

set_option maxHeartbeats 8000000 in
set_option maxRecDepth 100000 in
theorem readConstText (rb : Nat) (sv : Value) (zs : List Int) (k : Nat) (w : World) (h : Rd w rb sv zs k) (hk : k + 1 ≤ zs.length) (t : Int) (ht : uAt zs k 1 = t) (ht2 : t = 1) (hl : zs.length ≤ 140737488351232) :
    Calls Tryd.prog 50 #[.pointer (some ⟨rb, 0, none⟩)] w (ConstTo rb sv zs k w) := by
  have hrb := h.lt.1
  have ho0 : Only (fun _ => False) w (w.alloc (.cells #[.int .i64 0, .string ⟨#[]⟩, .int .i64 0, .int .i64 0, .int .i64 0] 45)) := (Only.refl _ _).alloc _
  have cU := pdU_ok rb sv zs k 1 _ (h.only ho0 (fun h => h) (fun _ _ h => h)) (by decide) (by decide) hk
  have hR := C5.zero w
  obtain ⟨u0, u1⟩ := uAt_lt' h.bytish k 1 hk
  simp only [Int.reducePow] at u1
  rw [ht] at cU u0 u1
  have hone : ∀ c k' e0, RdC zs (k + 1) t c k' e0 → RdOne zs k c k' e0 := fun c k' e0 hc => .inr ⟨hk, by rw [ht]; exact hc⟩
  have HONE := Lib.hid hone
  have CU := Lib.hid cU
  have HR := Lib.hid hR
  have HO := Lib.hid (ho0.mono (T := fun j => j = rb) (fun _ h _ => h.elim))
  have H0 := Lib.hid h
  have cS := fun w => progShape t w
  subst ht2
  rw [show shapeZ 1 = (⟨true, 0, 0, 0⟩, true) from rfl] at cS
  simp only at cS
  have CS := Lib.hid cS
  have HL := Lib.hid hl
  clear cS hl
  clear cU hR hk ho0 h hone ht
  go_enter Tryd.func50, Tryd.ntmps50
  go_wp2_with (fail)
  refine CU.out.mono ?_
  rintro e w1 ⟨rfl, hto⟩
  have hR1 := HR.out.only hto.2 (by omega)
  have hz1 := hto.2.size
  simp at hz1
  have HTO := Lib.hid hto
  have HR1 := Lib.hid hR1
  clear hto CU hR1
  go_wp2_with (fail)
  refine (CS.out w1).mono ?_
  rintro e w2 ⟨rfl, ho2⟩
  have hz2 := ho2.size
  have HO2 := Lib.hid ho2
  clear ho2
  have hoW : Only (fun _ => False) w1 ((w2.alloc (.cells #[.bool true, .int .i64 0, .int .i64 0, .int .i64 0] 89)).alloc (.cells #[.int .i64 1, .string ⟨#[]⟩, .int .i64 0, .int .i64 0, .int .i64 0] 45)) := ((HO2.out.alloc _).alloc _)
  have hC : C5 ((w2.alloc (.cells #[.bool true, .int .i64 0, .int .i64 0, .int .i64 0] 89)).alloc (.cells #[.int .i64 1, .string ⟨#[]⟩, .int .i64 0, .int .i64 0, .int .i64 0] 45)) (w2.heap.size + 1) ⟨1, noText, 0, 0, 0⟩ := by
    have := heap_alloc_new (w2.alloc (.cells #[.bool true, .int .i64 0, .int .i64 0, .int .i64 0] 89)) (.cells #[.int .i64 1, .string ⟨#[]⟩, .int .i64 0, .int .i64 0, .int .i64 0] 45)
    simp only [World.size_alloc] at this
    exact this
  have hRW := HR1.out.only hoW (fun h => h)
  have hrW := HTO.out.1.only hoW (fun h => h) (fun _ _ h => h)
  have HOW := Lib.hid hoW
  have HC := Lib.hid hC
  have HRW := Lib.hid hRW
  have HrW := Lib.hid hrW
  clear hoW hC hRW hrW
  have cT := progReadText rb sv zs (k + 1) _ HrW.out HL.out
  have CT := Lib.hid cT
  clear cT
  go_wp2_with (fail)
  refine CT.out.mono ?_
  rintro e w3 ⟨s, k', e0, rfl, hrc, hon3, hr3⟩
  have hC3 := HC.out.only hon3 (by omega)
  have hR3 := HRW.out.only hon3 (by omega)
  obtain ⟨k0, k1, k2, k3, k4⟩ := hR3.cells
  obtain ⟨f0, f1, f2, f3, f4⟩ := hR3.free
  obtain ⟨l0, l1, l2, l3, l4⟩ := hC3.cells
  obtain ⟨g0, g1, g2, g3, g4⟩ := hC3.free
  have HRC := Lib.hid hrc
  have HON3 := Lib.hid hon3
  have HR3 := Lib.hid hr3
  clear hrc hon3 hr3 CT hC3 hR3
  go_wp2
  refine bodyPost_ret (v := .tuple #[.agg #[.int .i64 1, .string s, .int .i64 0, .int .i64 0, .int .i64 0], .int .i64 e0]) (by simp [results, Tryd.results50, go_sem, noText, k0, k1, k2, k3, k4, l0, l1, l2, l3, l4]) rfl ?_
  refine ⟨⟨1, s, 0, 0, 0⟩, k', e0, rfl, HONE.out _ _ _ HRC.out, ?_, fun he => ?_⟩
  · repeat (refine Only.setCell ?_ (fun hl => absurd hl (by (try simp) <;> omega)) _)
    exact ((HO.out.trans HTO.out.2 (fun _ h _ => h)).trans HOW.out (fun _ h => h.elim)).trans HON3.out (fun _ h _ => h)
  · refine H0.out.high (HR3.out he) ?_
    repeat (refine Only.setCell ?_ (fun _ => by (try simp) <;> omega) _)
    exact Only.refl _ _

set_option maxHeartbeats 8000000 in
set_option maxRecDepth 100000 in
theorem readConstInt (rb : Nat) (sv : Value) (zs : List Int) (k : Nat) (w : World) (h : Rd w rb sv zs k) (hk : k + 1 ≤ zs.length) (t : Int) (ht : uAt zs k 1 = t) (ht2 : t = 3) (hrd : ∀ c k' e0, NumRd zs (k + 1) 4 (fun u => ⟨3, noText, sgn 4 u, 0, 0⟩) c k' e0 → RdC zs (k + 1) 3 c k' e0) :
    Calls Tryd.prog 50 #[.pointer (some ⟨rb, 0, none⟩)] w (ConstTo rb sv zs k w) := by
  have hrb := h.lt.1
  have ho0 : Only (fun _ => False) w (w.alloc (.cells #[.int .i64 0, .string ⟨#[]⟩, .int .i64 0, .int .i64 0, .int .i64 0] 45)) := (Only.refl _ _).alloc _
  have cU := pdU_ok rb sv zs k 1 _ (h.only ho0 (fun h => h) (fun _ _ h => h)) (by decide) (by decide) hk
  have hR := C5.zero w
  obtain ⟨u0, u1⟩ := uAt_lt' h.bytish k 1 hk
  simp only [Int.reducePow] at u1
  rw [ht] at cU u0 u1
  have hone : ∀ c k' e0, RdC zs (k + 1) t c k' e0 → RdOne zs k c k' e0 := fun c k' e0 hc => .inr ⟨hk, by rw [ht]; exact hc⟩
  have HONE := Lib.hid hone
  have CU := Lib.hid cU
  have HR := Lib.hid hR
  have HO := Lib.hid (ho0.mono (T := fun j => j = rb) (fun _ h _ => h.elim))
  have H0 := Lib.hid h
  have cS := fun w => progShape t w
  subst ht2
  rw [show shapeZ 3 = (⟨false, 4, 0, 0⟩, true) from rfl] at cS
  simp only at cS
  have CS := Lib.hid cS
  have HRD := Lib.hid hrd
  clear cS hrd
  clear cU hR hk ho0 h hone ht
  go_enter Tryd.func50, Tryd.ntmps50
  go_wp2_with (fail)
  refine CU.out.mono ?_
  rintro e w1 ⟨rfl, hto⟩
  have hR1 := HR.out.only hto.2 (by omega)
  have hz1 := hto.2.size
  simp at hz1
  have HTO := Lib.hid hto
  have HR1 := Lib.hid hR1
  clear hto CU hR1
  go_wp2_with (fail)
  refine (CS.out w1).mono ?_
  rintro e w2 ⟨rfl, ho2⟩
  have hz2 := ho2.size
  have HO2 := Lib.hid ho2
  clear ho2
  have hoW : Only (fun _ => False) w1 ((w2.alloc (.cells #[.bool false, .int .i64 4, .int .i64 0, .int .i64 0] 89)).alloc (.cells #[.int .i64 3, .string ⟨#[]⟩, .int .i64 0, .int .i64 0, .int .i64 0] 45)) := ((HO2.out.alloc _).alloc _)
  have hC : C5 ((w2.alloc (.cells #[.bool false, .int .i64 4, .int .i64 0, .int .i64 0] 89)).alloc (.cells #[.int .i64 3, .string ⟨#[]⟩, .int .i64 0, .int .i64 0, .int .i64 0] 45)) (w2.heap.size + 1) ⟨3, noText, 0, 0, 0⟩ := by
    have := heap_alloc_new (w2.alloc (.cells #[.bool false, .int .i64 4, .int .i64 0, .int .i64 0] 89)) (.cells #[.int .i64 3, .string ⟨#[]⟩, .int .i64 0, .int .i64 0, .int .i64 0] 45)
    simp only [World.size_alloc] at this
    exact this
  have hRW := HR1.out.only hoW (fun h => h)
  have hrW := HTO.out.1.only hoW (fun h => h) (fun _ _ h => h)
  have HOW := Lib.hid hoW
  have HC := Lib.hid hC
  have HRW := Lib.hid hRW
  have HrW := Lib.hid hrW
  clear hoW hC hRW hrW
  have cI : ∀ W, Rd W rb sv zs (k + 1) → Calls Tryd.prog 70 #[.pointer (some ⟨rb, 0, none⟩), .int .i64 4] W fun e w' => ∃ (n : Int) (k' : Nat) (e0 : Int), e = .returned (.tuple #[.int .i64 n, .int .i64 e0]) ∧ RdOne zs k ⟨3, noText, n, 0, 0⟩ k' e0 ∧ RdTo W rb sv zs k' w' := by
    intro W hW
    by_cases hk2 : zs.length < k + 1 + 4
    · exact (pdI_short rb sv zs (k + 1) 4 W hW (by decide) (by decide) hk2).mono fun e w' ⟨h1, h2⟩ => ⟨0, k + 1, 3, h1, HONE.out _ _ _ (HRD.out _ _ _ (.inl ⟨hk2, rfl⟩)), h2⟩
    · exact (pdI_ok rb sv zs (k + 1) 4 W hW (by decide) (by decide) (by omega)).mono fun e w' ⟨h1, h2⟩ => ⟨_, k + 1 + 4, 0, h1, HONE.out _ _ _ (HRD.out _ _ _ (.inr ⟨by omega, rfl, rfl, rfl⟩)), h2⟩
  have CI := Lib.hid cI
  clear cI HRD
  go_wp2_with (fail)
  refine (CI.out _ HrW.out).mono ?_
  rintro e w3 ⟨n, k', e0, rfl, hrc, hr3, hon3⟩
  have hC3 := HC.out.only hon3 (by omega)
  have hR3 := HRW.out.only hon3 (by omega)
  obtain ⟨k0, k1, k2, k3, k4⟩ := hR3.cells
  obtain ⟨f0, f1, f2, f3, f4⟩ := hR3.free
  obtain ⟨l0, l1, l2, l3, l4⟩ := hC3.cells
  obtain ⟨g0, g1, g2, g3, g4⟩ := hC3.free
  have HRC := Lib.hid hrc
  have HON3 := Lib.hid hon3
  have HR3 := Lib.hid (fun (_ : e0 = 0) => hr3)
  clear hrc hon3 hr3 CI hC3 hR3
  go_wp2
  refine bodyPost_ret (v := .tuple #[.agg #[.int .i64 3, .string noText, .int .i64 n, .int .i64 0, .int .i64 0], .int .i64 e0]) (by simp [results, Tryd.results50, go_sem, noText, k0, k1, k2, k3, k4, l0, l1, l2, l3, l4]) rfl ?_
  refine ⟨⟨3, noText, n, 0, 0⟩, k', e0, rfl, HRC.out, ?_, fun he => ?_⟩
  · repeat (refine Only.setCell ?_ (fun hl => absurd hl (by (try simp) <;> omega)) _)
    exact ((HO.out.trans HTO.out.2 (fun _ h _ => h)).trans HOW.out (fun _ h => h.elim)).trans HON3.out (fun _ h _ => h)
  · refine H0.out.high (HR3.out he) ?_
    repeat (refine Only.setCell ?_ (fun _ => by (try simp) <;> omega) _)
    exact Only.refl _ _

set_option maxHeartbeats 8000000 in
set_option maxRecDepth 100000 in
theorem readConstLong (rb : Nat) (sv : Value) (zs : List Int) (k : Nat) (w : World) (h : Rd w rb sv zs k) (hk : k + 1 ≤ zs.length) (t : Int) (ht : uAt zs k 1 = t) (ht2 : t = 5) (hrd : ∀ c k' e0, NumRd zs (k + 1) 8 (fun u => ⟨5, noText, sgn 8 u, 0, 0⟩) c k' e0 → RdC zs (k + 1) 5 c k' e0) :
    Calls Tryd.prog 50 #[.pointer (some ⟨rb, 0, none⟩)] w (ConstTo rb sv zs k w) := by
  have hrb := h.lt.1
  have ho0 : Only (fun _ => False) w (w.alloc (.cells #[.int .i64 0, .string ⟨#[]⟩, .int .i64 0, .int .i64 0, .int .i64 0] 45)) := (Only.refl _ _).alloc _
  have cU := pdU_ok rb sv zs k 1 _ (h.only ho0 (fun h => h) (fun _ _ h => h)) (by decide) (by decide) hk
  have hR := C5.zero w
  obtain ⟨u0, u1⟩ := uAt_lt' h.bytish k 1 hk
  simp only [Int.reducePow] at u1
  rw [ht] at cU u0 u1
  have hone : ∀ c k' e0, RdC zs (k + 1) t c k' e0 → RdOne zs k c k' e0 := fun c k' e0 hc => .inr ⟨hk, by rw [ht]; exact hc⟩
  have HONE := Lib.hid hone
  have CU := Lib.hid cU
  have HR := Lib.hid hR
  have HO := Lib.hid (ho0.mono (T := fun j => j = rb) (fun _ h _ => h.elim))
  have H0 := Lib.hid h
  have cS := fun w => progShape t w
  subst ht2
  rw [show shapeZ 5 = (⟨false, 8, 0, 0⟩, true) from rfl] at cS
  simp only at cS
  have CS := Lib.hid cS
  have HRD := Lib.hid hrd
  clear cS hrd
  clear cU hR hk ho0 h hone ht
  go_enter Tryd.func50, Tryd.ntmps50
  go_wp2_with (fail)
  refine CU.out.mono ?_
  rintro e w1 ⟨rfl, hto⟩
  have hR1 := HR.out.only hto.2 (by omega)
  have hz1 := hto.2.size
  simp at hz1
  have HTO := Lib.hid hto
  have HR1 := Lib.hid hR1
  clear hto CU hR1
  go_wp2_with (fail)
  refine (CS.out w1).mono ?_
  rintro e w2 ⟨rfl, ho2⟩
  have hz2 := ho2.size
  have HO2 := Lib.hid ho2
  clear ho2
  have hoW : Only (fun _ => False) w1 ((w2.alloc (.cells #[.bool false, .int .i64 8, .int .i64 0, .int .i64 0] 89)).alloc (.cells #[.int .i64 5, .string ⟨#[]⟩, .int .i64 0, .int .i64 0, .int .i64 0] 45)) := ((HO2.out.alloc _).alloc _)
  have hC : C5 ((w2.alloc (.cells #[.bool false, .int .i64 8, .int .i64 0, .int .i64 0] 89)).alloc (.cells #[.int .i64 5, .string ⟨#[]⟩, .int .i64 0, .int .i64 0, .int .i64 0] 45)) (w2.heap.size + 1) ⟨5, noText, 0, 0, 0⟩ := by
    have := heap_alloc_new (w2.alloc (.cells #[.bool false, .int .i64 8, .int .i64 0, .int .i64 0] 89)) (.cells #[.int .i64 5, .string ⟨#[]⟩, .int .i64 0, .int .i64 0, .int .i64 0] 45)
    simp only [World.size_alloc] at this
    exact this
  have hRW := HR1.out.only hoW (fun h => h)
  have hrW := HTO.out.1.only hoW (fun h => h) (fun _ _ h => h)
  have HOW := Lib.hid hoW
  have HC := Lib.hid hC
  have HRW := Lib.hid hRW
  have HrW := Lib.hid hrW
  clear hoW hC hRW hrW
  have cI : ∀ W, Rd W rb sv zs (k + 1) → Calls Tryd.prog 70 #[.pointer (some ⟨rb, 0, none⟩), .int .i64 8] W fun e w' => ∃ (n : Int) (k' : Nat) (e0 : Int), e = .returned (.tuple #[.int .i64 n, .int .i64 e0]) ∧ RdOne zs k ⟨5, noText, n, 0, 0⟩ k' e0 ∧ RdTo W rb sv zs k' w' := by
    intro W hW
    by_cases hk2 : zs.length < k + 1 + 8
    · exact (pdI_short rb sv zs (k + 1) 8 W hW (by decide) (by decide) hk2).mono fun e w' ⟨h1, h2⟩ => ⟨0, k + 1, 3, h1, HONE.out _ _ _ (HRD.out _ _ _ (.inl ⟨hk2, rfl⟩)), h2⟩
    · exact (pdI_ok rb sv zs (k + 1) 8 W hW (by decide) (by decide) (by omega)).mono fun e w' ⟨h1, h2⟩ => ⟨_, k + 1 + 8, 0, h1, HONE.out _ _ _ (HRD.out _ _ _ (.inr ⟨by omega, rfl, rfl, rfl⟩)), h2⟩
  have CI := Lib.hid cI
  clear cI HRD
  go_wp2_with (fail)
  refine (CI.out _ HrW.out).mono ?_
  rintro e w3 ⟨n, k', e0, rfl, hrc, hr3, hon3⟩
  have hC3 := HC.out.only hon3 (by omega)
  have hR3 := HRW.out.only hon3 (by omega)
  obtain ⟨k0, k1, k2, k3, k4⟩ := hR3.cells
  obtain ⟨f0, f1, f2, f3, f4⟩ := hR3.free
  obtain ⟨l0, l1, l2, l3, l4⟩ := hC3.cells
  obtain ⟨g0, g1, g2, g3, g4⟩ := hC3.free
  have HRC := Lib.hid hrc
  have HON3 := Lib.hid hon3
  have HR3 := Lib.hid (fun (_ : e0 = 0) => hr3)
  clear hrc hon3 hr3 CI hC3 hR3
  go_wp2
  refine bodyPost_ret (v := .tuple #[.agg #[.int .i64 5, .string noText, .int .i64 n, .int .i64 0, .int .i64 0], .int .i64 e0]) (by simp [results, Tryd.results50, go_sem, noText, k0, k1, k2, k3, k4, l0, l1, l2, l3, l4]) rfl ?_
  refine ⟨⟨5, noText, n, 0, 0⟩, k', e0, rfl, HRC.out, ?_, fun he => ?_⟩
  · repeat (refine Only.setCell ?_ (fun hl => absurd hl (by (try simp) <;> omega)) _)
    exact ((HO.out.trans HTO.out.2 (fun _ h _ => h)).trans HOW.out (fun _ h => h.elim)).trans HON3.out (fun _ h _ => h)
  · refine H0.out.high (HR3.out he) ?_
    repeat (refine Only.setCell ?_ (fun _ => by (try simp) <;> omega) _)
    exact Only.refl _ _

set_option maxHeartbeats 8000000 in
set_option maxRecDepth 100000 in
theorem readConstPlaces (rb : Nat) (sv : Value) (zs : List Int) (k : Nat) (w : World) (h : Rd w rb sv zs k) (hk : k + 1 ≤ zs.length) (t : Int) (ht : uAt zs k 1 = t) (la lb : Int) (hs : shapeZ t = (⟨false, 0, la, lb⟩, true)) (hpl : ∀ w', Rd w' rb sv zs (k + 1) → Calls Tryd.prog 71 #[.pointer (some ⟨rb, 0, none⟩), .agg #[.bool false, .int .i64 0, .int .i64 la, .int .i64 lb]] w' (PlacesTo rb sv zs (k + 1) w' t)) :
    Calls Tryd.prog 50 #[.pointer (some ⟨rb, 0, none⟩)] w (ConstTo rb sv zs k w) := by
  have hrb := h.lt.1
  have ho0 : Only (fun _ => False) w (w.alloc (.cells #[.int .i64 0, .string ⟨#[]⟩, .int .i64 0, .int .i64 0, .int .i64 0] 45)) := (Only.refl _ _).alloc _
  have cU := pdU_ok rb sv zs k 1 _ (h.only ho0 (fun h => h) (fun _ _ h => h)) (by decide) (by decide) hk
  have hR := C5.zero w
  obtain ⟨u0, u1⟩ := uAt_lt' h.bytish k 1 hk
  simp only [Int.reducePow] at u1
  rw [ht] at cU u0 u1
  have hone : ∀ c k' e0, RdC zs (k + 1) t c k' e0 → RdOne zs k c k' e0 := fun c k' e0 hc => .inr ⟨hk, by rw [ht]; exact hc⟩
  have HONE := Lib.hid hone
  have CU := Lib.hid cU
  have HR := Lib.hid hR
  have HO := Lib.hid (ho0.mono (T := fun j => j = rb) (fun _ h _ => h.elim))
  have H0 := Lib.hid h
  have cS := fun w => progShape t w
  rw [hs] at cS
  simp only at cS
  have CS := Lib.hid cS
  have HPL := Lib.hid hpl
  clear cS hs hpl
  clear cU hR hk ho0 h hone ht
  go_enter Tryd.func50, Tryd.ntmps50
  go_wp2_with (fail)
  refine CU.out.mono ?_
  rintro e w1 ⟨rfl, hto⟩
  have hR1 := HR.out.only hto.2 (by omega)
  have hz1 := hto.2.size
  simp at hz1
  have HTO := Lib.hid hto
  have HR1 := Lib.hid hR1
  clear hto CU hR1
  go_wp2_with (fail)
  refine (CS.out w1).mono ?_
  rintro e w2 ⟨rfl, ho2⟩
  have hz2 := ho2.size
  have HO2 := Lib.hid ho2
  clear ho2
  have hoW : Only (fun _ => False) w1 (((w2.alloc (.cells #[.bool false, .int .i64 0, .int .i64 la, .int .i64 lb] 89)).alloc (.cells #[.int .i64 t, .string ⟨#[]⟩, .int .i64 0, .int .i64 0, .int .i64 0] 45)).alloc (.cells #[.int .i64 0, .int .i64 0] 87)) := ((HO2.out.alloc _).alloc _).alloc _
  have hC : C5 (((w2.alloc (.cells #[.bool false, .int .i64 0, .int .i64 la, .int .i64 lb] 89)).alloc (.cells #[.int .i64 t, .string ⟨#[]⟩, .int .i64 0, .int .i64 0, .int .i64 0] 45)).alloc (.cells #[.int .i64 0, .int .i64 0] 87)) (w2.heap.size + 1) ⟨t, noText, 0, 0, 0⟩ := by
    have := heap_alloc_new (w2.alloc (.cells #[.bool false, .int .i64 0, .int .i64 la, .int .i64 lb] 89)) (.cells #[.int .i64 t, .string ⟨#[]⟩, .int .i64 0, .int .i64 0, .int .i64 0] 45)
    simp only [World.size_alloc] at this
    exact ((Only.refl (fun _ => False) _).alloc _).heap this (fun h => h)
  have hP : P2 (((w2.alloc (.cells #[.bool false, .int .i64 0, .int .i64 la, .int .i64 lb] 89)).alloc (.cells #[.int .i64 t, .string ⟨#[]⟩, .int .i64 0, .int .i64 0, .int .i64 0] 45)).alloc (.cells #[.int .i64 0, .int .i64 0] 87)) (w2.heap.size + 1 + 1) 0 0 := by
    have := heap_alloc_new ((w2.alloc (.cells #[.bool false, .int .i64 0, .int .i64 la, .int .i64 lb] 89)).alloc (.cells #[.int .i64 t, .string ⟨#[]⟩, .int .i64 0, .int .i64 0, .int .i64 0] 45)) (.cells #[.int .i64 0, .int .i64 0] 87)
    simp only [World.size_alloc] at this
    exact this
  have HP := Lib.hid hP
  clear hP
  have hRW := HR1.out.only hoW (fun h => h)
  have hrW := HTO.out.1.only hoW (fun h => h) (fun _ _ h => h)
  have HOW := Lib.hid hoW
  have HC := Lib.hid hC
  have HRW := Lib.hid hRW
  have HrW := Lib.hid hrW
  clear hoW hC hRW hrW
  have cP := HPL.out _ HrW.out
  have CP := Lib.hid cP
  clear cP HPL
  go_wp2_with (fail)
  refine CP.out.mono ?_
  rintro e w3 ⟨p, q, k', e0, rfl, hrc, hon3, hr3⟩
  have hC3 := HC.out.only hon3 (by omega)
  have hR3 := HRW.out.only hon3 (by omega)
  obtain ⟨k0, k1, k2, k3, k4⟩ := hR3.cells
  obtain ⟨f0, f1, f2, f3, f4⟩ := hR3.free
  obtain ⟨l0, l1, l2, l3, l4⟩ := hC3.cells
  obtain ⟨g0, g1, g2, g3, g4⟩ := hC3.free
  have hP3 := HP.out.only hon3 (by omega)
  obtain ⟨m0, m1⟩ := hP3.cells
  obtain ⟨j0, j1⟩ := hP3.free
  have hset : Only (fun j => j = w2.heap.size + 1 + 1) w3 ((w3.setCell ⟨w2.heap.size + 1 + 1, 0, none⟩ (.int .i64 p)).setCell ⟨w2.heap.size + 1 + 1, 1, none⟩ (.int .i64 q)) :=
    Only.setCell (S := fun j => j = w2.heap.size + 1 + 1) (Only.setCell (S := fun j => j = w2.heap.size + 1 + 1) (Only.refl _ _) (fun _ => rfl) _) (fun _ => rfl) _
  have hP4 := (hP3.set0 p).set1 q
  have hC4 := hC3.only hset (by omega)
  have hR4 := hR3.only hset (by omega)
  have HRC := Lib.hid hrc
  have HON3 := Lib.hid hon3
  have HR3 := Lib.hid hr3
  have HSET := Lib.hid hset
  have HP4 := Lib.hid hP4
  have HC4 := Lib.hid hC4
  have HR4 := Lib.hid hR4
  clear hrc hon3 hr3 CP hC3 hR3 hP3 hset hP4 hC4 hR4
  go_wp2
  clear k0 k1 k2 k3 k4 f0 f1 f2 f3 f4 l0 l1 l2 l3 l4 g0 g1 g2 g3 g4 m0 m1 j0 j1
  generalize ((w3.setCell ⟨w2.heap.size + 1 + 1, 0, none⟩ (.int .i64 p)).setCell ⟨w2.heap.size + 1 + 1, 1, none⟩ (.int .i64 q)) = w4 at *
  obtain ⟨k0, k1, k2, k3, k4⟩ := HR4.out.cells
  obtain ⟨f0, f1, f2, f3, f4⟩ := HR4.out.free
  obtain ⟨l0, l1, l2, l3, l4⟩ := HC4.out.cells
  obtain ⟨g0, g1, g2, g3, g4⟩ := HC4.out.free
  obtain ⟨m0, m1⟩ := HP4.out.cells
  obtain ⟨j0, j1⟩ := HP4.out.free
  go_region
  all_goals go_wp2
  refine bodyPost_ret (v := .tuple #[.agg #[.int .i64 t, .string noText, .int .i64 0, .int .i64 p, .int .i64 q], .int .i64 e0]) (by simp [results, Tryd.results50, go_sem, noText, k0, k1, k2, k3, k4, l0, l1, l2, l3, l4]) rfl ?_
  refine ⟨⟨t, noText, 0, p, q⟩, k', e0, rfl, HONE.out _ _ _ HRC.out, ?_, fun he => ?_⟩
  · refine Only.drew ?_
    repeat (refine Only.setCell ?_ (fun hl => absurd hl (by (try simp) <;> omega)) _)
    exact (((HO.out.trans HTO.out.2 (fun _ h _ => h)).trans HOW.out (fun _ h => h.elim)).trans HON3.out (fun _ h _ => h)).trans HSET.out (fun i hi hl => by omega)
  · refine H0.out.high (HR3.out he) ?_
    refine Only.drew ?_
    repeat (refine Only.setCell ?_ (fun _ => by (try simp) <;> omega) _)
    exact HSET.out.mono (fun i hi _ => by omega)

/-- A constant, whatever stands there. -/
theorem progReadConst (rb : Nat) (sv : Value) (zs : List Int) (k : Nat) (w : World) (h : Rd w rb sv zs k) (hl : zs.length ≤ 140737488351232) :
    Calls Tryd.prog 50 #[.pointer (some ⟨rb, 0, none⟩)] w (ConstTo rb sv zs k w) := by
  by_cases hk : zs.length < k + 1
  · exact readConstShort rb sv zs k w h hk
  have hk' : k + 1 ≤ zs.length := by omega
  by_cases h1 : uAt zs k 1 = 1
  · exact readConstText rb sv zs k w h hk' _ rfl h1 hl
  by_cases h3 : uAt zs k 1 = 3
  · exact readConstInt rb sv zs k w h hk' _ rfl h3 (fun c k' e0 hn => by unfold RdC; rw [if_neg (by decide), if_pos rfl]; exact hn)
  by_cases h5 : uAt zs k 1 = 5
  · exact readConstLong rb sv zs k w h hk' _ rfl h5 (fun c k' e0 hn => by unfold RdC; rw [if_neg (by decide), if_neg (by decide), if_pos rfl]; exact hn)
  by_cases h7 : uAt zs k 1 = 7
  · exact readConstPlaces rb sv zs k w h hk' 7 h7 1 0 rfl (fun w' hw => placesOne rb sv zs (k + 1) w' false 0 1 (by decide) hw (fun p k' e0 hn => by unfold RdC; rw [if_neg (by decide), if_neg (by decide), if_neg (by decide), if_pos rfl]; exact hn))
  by_cases h9 : uAt zs k 1 = 9
  · exact readConstPlaces rb sv zs k w h hk' 9 h9 7 12 rfl (fun w' hw => placesTwo rb sv zs (k + 1) w' 9 false 0 7 12 (by decide) (by decide) hw (fun p q k' e0 hn => by unfold RdC; rw [if_neg (by decide), if_neg (by decide), if_neg (by decide), if_neg (by decide), if_pos (by decide)]; exact hn))
  by_cases h10 : uAt zs k 1 = 10
  · exact readConstPlaces rb sv zs k w h hk' 10 h10 7 12 rfl (fun w' hw => placesTwo rb sv zs (k + 1) w' 10 false 0 7 12 (by decide) (by decide) hw (fun p q k' e0 hn => by unfold RdC; rw [if_neg (by decide), if_neg (by decide), if_neg (by decide), if_neg (by decide), if_pos (by decide)]; exact hn))
  by_cases h12 : uAt zs k 1 = 12
  · exact readConstPlaces rb sv zs k w h hk' 12 h12 1 1 rfl (fun w' hw => placesTwo rb sv zs (k + 1) w' 12 false 0 1 1 (by decide) (by decide) hw (fun p q k' e0 hn => by unfold RdC; rw [if_neg (by decide), if_neg (by decide), if_neg (by decide), if_neg (by decide), if_pos (by decide)]; exact hn))
  · refine readConstNone rb sv zs k w h hk' _ rfl ?_ ?_
    · unfold shapeZ; rw [if_neg h1, if_neg h5, if_neg h3, if_neg h12, if_neg h7, if_neg (by omega)]
    · intro c k'; unfold RdC; rw [if_neg h1, if_neg h3, if_neg h5, if_neg h7, if_neg (by omega)]
end Go.Proofs.YtpiandkiijienaaDoor
