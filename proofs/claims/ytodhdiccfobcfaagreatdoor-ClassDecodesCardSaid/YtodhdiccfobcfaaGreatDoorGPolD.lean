/- The program reads counts, texts, places and constants. No condition beyond a reader that was made. The program's Decode of a pool: what the document says. No condition but the form's own reach. -/
import Derived.Test.YtodhdiccfobcfaaGreatDoorGWire
import Derived.Test.YtodhdiccfobcfaaGreatDoorGPolR
import Derived.Test.YtodhdiccfobcfaaGreatDoorGPolP
import Derived.Test.YtodhdiccfobcfaaGreatDoorGTxtR
import Derived.RegionTactic
import Derived.ChangeAlike
import Derived.Test.YtodhdiccfobcfaaGreatDoorPolN
import Derived.Laws.MakeOwn
import Derived.Test.YtodhdiccfobcfaaGreatDoorPart
import Derived.WalkLawsBesides
namespace Go.Proofs.YtodhdiccfobcfaaGreatDoor
open Go.RowKit
set_option linter.unusedVariables false
set_option linter.unusedSimpArgs false

theorem Rd.bytish {w : World} {rb : Nat} {sv : Value} {zs : List Int} {k : Nat} (h : Rd w rb sv zs k) : Bytish zs := h.byt
theorem uAt_lt' {zs : List Int} (hz : Bytish zs) (k n : Nat) (h : k + n ≤ zs.length) : 0 ≤ uAt zs k n ∧ uAt zs k n < 256 ^ n := valB_lt n _ (by simp; omega) ((hz.drop k).take n)
section
variable (rb : Nat) (sv : Value) (zs : List Int) (k n : Nat) (w : World)
theorem pdU_ok (h : Rd w rb sv zs k) (hn1 : 1 ≤ n) (hn8 : n ≤ 8) (hroom : k + n ≤ zs.length) :
    Calls Tryz.prog 114 #[.pointer (some ⟨rb, 0, none⟩), .int .i64 n] w fun e w' => e = .returned (.tuple #[.int .u64 (uAt zs k n), .int .i64 0]) ∧ RdTo w rb sv zs (k + n) w' := by
  have he : rdErr0 n ((zs.length : Int) - k) = 0 := by unfold rdErr0; rw [if_neg (by omega), if_neg (by omega)]
  have := rdUint rb sv zs k n w h (by omega) (by omega)
  rw [he] at this
  simp only [rdU, rdK, if_true, Int.toNat_natCast] at this
  exact this
theorem pdU_short (h : Rd w rb sv zs k) (hn1 : 1 ≤ n) (hn8 : n ≤ 8) (hroom : zs.length < k + n) :
    Calls Tryz.prog 114 #[.pointer (some ⟨rb, 0, none⟩), .int .i64 n] w fun e w' => e = .returned (.tuple #[.int .u64 0, .int .i64 3]) ∧ RdTo w rb sv zs k w' := by
  have he : rdErr0 n ((zs.length : Int) - k) = 3 := by unfold rdErr0; rw [if_neg (by omega), if_pos (by omega)]
  have := rdUint rb sv zs k n w h (by omega) (by omega)
  rw [he] at this
  simp only [rdU, rdK, show ¬ ((3 : Int) = 0) by decide, if_false] at this
  exact this
theorem pdI_ok (h : Rd w rb sv zs k) (hn1 : 1 ≤ n) (hn8 : n ≤ 8) (hroom : k + n ≤ zs.length) :
    Calls Tryz.prog 143 #[.pointer (some ⟨rb, 0, none⟩), .int .i64 n] w fun e w' => e = .returned (.tuple #[.int .i64 (sgn n (uAt zs k n)), .int .i64 0]) ∧ RdTo w rb sv zs (k + n) w' := by
  have he : rdErr0 n ((zs.length : Int) - k) = 0 := by unfold rdErr0; rw [if_neg (by omega), if_neg (by omega)]
  have := rdInt rb sv zs k n w h (by omega) (by omega)
  rw [he] at this
  simp only [rdI, rdK, if_true, Int.toNat_natCast] at this
  exact this
theorem pdI_short (h : Rd w rb sv zs k) (hn1 : 1 ≤ n) (hn8 : n ≤ 8) (hroom : zs.length < k + n) :
    Calls Tryz.prog 143 #[.pointer (some ⟨rb, 0, none⟩), .int .i64 n] w fun e w' => e = .returned (.tuple #[.int .i64 0, .int .i64 3]) ∧ RdTo w rb sv zs k w' := by
  have he : rdErr0 n ((zs.length : Int) - k) = 3 := by unfold rdErr0; rw [if_neg (by omega), if_pos (by omega)]
  have := rdInt rb sv zs k n w h (by omega) (by omega)
  rw [he] at this
  simp only [rdI, rdK, show ¬ ((3 : Int) = 0) by decide, if_false] at this
  exact this
theorem pdB_ok (h : Rd w rb sv zs k) (hroom : k + n ≤ zs.length) (hn : n ≤ 65536) :
    Calls Tryz.prog 112 #[.pointer (some ⟨rb, 0, none⟩), .int .i64 n] w fun e w' => ∃ v', e = .returned (.tuple #[v', .int .i64 0]) ∧ RdTo w rb sv zs (k + n) w' ∧ Row w' w.heap.size v' ((zs.drop k).take n) := by
  have he : rdErr1 n ((zs.length : Int) - k) = 0 := by unfold rdErr1; rw [if_neg (by omega), if_neg (by omega)]
  have := rdBytes rb sv zs k n w h (by omega) (by omega)
  rw [he] at this
  simp only [rdPart, rdK, if_true, Int.toNat_natCast] at this
  exact this
theorem pdB_short (h : Rd w rb sv zs k) (hroom : zs.length < k + n) (hn : n ≤ 65536) :
    Calls Tryz.prog 112 #[.pointer (some ⟨rb, 0, none⟩), .int .i64 n] w fun e w' => ∃ v', e = .returned (.tuple #[v', .int .i64 3]) ∧ RdTo w rb sv zs k w' := by
  have he : rdErr1 n ((zs.length : Int) - k) = 3 := by unfold rdErr1; rw [if_neg (by omega), if_pos (by omega)]
  have := rdBytes rb sv zs k n w h (by omega) (by omega)
  rw [he] at this
  simp only [rdPart, rdK, show ¬ ((3 : Int) = 0) by decide, if_false] at this
  exact this.mono fun e w' ⟨v', h1, h2, _⟩ => ⟨v', h1, h2⟩
set_option maxHeartbeats 1000000 in
theorem cntOk (h : Rd w rb sv zs k) (hroom : k + 2 ≤ zs.length) :
    Calls Tryz.prog 126 #[.pointer (some ⟨rb, 0, none⟩)] w fun e w' => e = .returned (.tuple #[.int .i64 (uAt zs k 2), .int .i64 0]) ∧ RdTo w rb sv zs (k + 2) w' := by
  obtain ⟨u0, u1⟩ := uAt_lt' h.bytish k 2 hroom
  simp only [Int.reducePow] at u1
  have cU := pdU_ok rb sv zs k 2 w h (by decide) (by decide) hroom
  generalize uAt zs k 2 = u at *
  have CU := Lib.hid cU
  clear cU h
  go_enter Tryz.func126, Tryz.ntmps126
  go_wp2_with (fail)
  refine CU.out.mono ?_
  rintro e w1 ⟨rfl, hto⟩
  have HTO := Lib.hid hto
  clear CU hto
  go_wp2
  go_ret2
  exact ⟨rfl, HTO.out⟩
set_option maxHeartbeats 1000000 in
theorem cntShort (h : Rd w rb sv zs k) (hroom : zs.length < k + 2) :
    Calls Tryz.prog 126 #[.pointer (some ⟨rb, 0, none⟩)] w fun e w' => e = .returned (.tuple #[.int .i64 0, .int .i64 3]) ∧ RdTo w rb sv zs k w' := by
  have cU := pdU_short rb sv zs k 2 w h (by decide) (by decide) hroom
  have CU := Lib.hid cU
  clear cU h
  go_enter Tryz.func126, Tryz.ntmps126
  go_wp2_with (fail)
  refine CU.out.mono ?_
  rintro e w1 ⟨rfl, hto⟩
  have HTO := Lib.hid hto
  clear CU hto
  go_wp2
  go_ret2
  exact ⟨rfl, HTO.out⟩

/-- What reading a text leaves. -/
def TextTo (e : Ending) (w' : World) : Prop :=
  ∃ s k' e0, e = .returned (.tuple #[.string s, .int .i64 e0]) ∧ RdC zs k 1 ⟨1, s, 0, 0, 0⟩ k' e0 ∧ Only (fun j => j = rb) w w' ∧ (e0 = 0 → Rd w' rb sv zs k')
set_option maxHeartbeats 2000000 in
set_option maxRecDepth 100000 in
theorem progReadText (h : Rd w rb sv zs k) (hl : zs.length ≤ 140737488351232) :
    Calls Tryz.prog 142 #[.pointer (some ⟨rb, 0, none⟩)] w (TextTo rb sv zs k w) := by
  have rdc : ∀ c k' e0, TextRd zs k c k' e0 → RdC zs k 1 c k' e0 := fun c k' e0 h => by unfold RdC; rw [if_pos rfl]; exact h
  by_cases h2 : zs.length < k + 2
  · have cC := cntShort rb sv zs k w h h2
    have HR := Lib.hid (rdc ⟨1, noText, 0, 0, 0⟩ k 3 (.inl ⟨h2, rfl⟩))
    have CC := Lib.hid cC
    clear cC h rdc
    go_enter Tryz.func142, Tryz.ntmps142
    go_wp2_with (fail)
    refine CC.out.mono ?_
    rintro e w1 ⟨rfl, hto⟩
    have HTO := Lib.hid hto
    clear CC hto
    go_wp2
    go_ret2
    exact ⟨noText, k, 3, rfl, HR.out, HTO.out.2, fun h => absurd h (by decide)⟩
  obtain ⟨u0, u1⟩ := uAt_lt' h.bytish k 2 (by omega)
  simp only [Int.reducePow] at u1
  have cC := cntOk rb sv zs k w h (by omega)
  have hbz := h.bytish
  obtain ⟨u, hu⟩ : ∃ u : Nat, uAt zs k 2 = (u : Int) := ⟨(uAt zs k 2).toNat, by omega⟩
  rw [hu] at cC u0 u1
  have HU := Lib.hid hu
  have CC := Lib.hid cC
  have HZ := Lib.hid hbz
  clear cC h hu hbz
  by_cases hbig : 256 < u
  · have hbz : (256 : Int) < (u : Int) := by omega
    have HR := Lib.hid (rdc ⟨1, noText, 0, 0, 0⟩ k 20 (.inr (.inl ⟨by omega, by rw [HU.out]; exact hbz, rfl⟩)))
    clear rdc
    go_enter Tryz.func142, Tryz.ntmps142
    go_wp2_with (fail)
    refine CC.out.mono ?_
    rintro e w1 ⟨rfl, hto⟩
    have HTO := Lib.hid hto
    clear CC hto
    go_wp2
    go_ret2
    exact ⟨noText, k, 20, rfl, HR.out, HTO.out.2, fun h => absurd h (by decide)⟩
  have hsm : (u : Int) ≤ 256 := by omega
  by_cases hcut : zs.length < k + 2 + u
  · have HR := Lib.hid (rdc ⟨1, noText, 0, 0, 0⟩ k 3 (.inr (.inr (.inl ⟨by omega, by rw [HU.out]; exact hsm, by rw [HU.out, Int.toNat_natCast]; exact hcut, rfl⟩))))
    have HCUT := Lib.hid hcut
    have HL := Lib.hid hl
    have hd : decide ((256 : Int) < (u : Int)) = false := decide_eq_false (by omega)
    clear rdc hcut hbig hl h2 hsm u1 u0
    go_enter Tryz.func142, Tryz.ntmps142
    go_wp2_with (fail)
    refine CC.out.mono ?_
    rintro e w1 ⟨rfl, hto⟩
    have cB := pdB_short rb sv zs (k + 2) u w1 hto.1 HCUT.out (by simp at hd; omega)
    have CB := Lib.hid cB
    have HTO := Lib.hid hto
    clear CC hto cB
    go_wp2_with (fail)
    refine CB.out.mono ?_
    rintro e w2 ⟨v', rfl, hto2⟩
    have HTO2 := Lib.hid hto2
    clear CB hto2
    go_wp2
    go_ret2
    exact ⟨noText, k, 3, rfl, HR.out, HTO.out.2.trans HTO2.out.2 (fun _ h _ => h), fun h => absurd h (by decide)⟩
  · have HR := Lib.hid (fun ys e (hd : Dec ((zs.drop (k + 2)).take u) ys e) => rdc ⟨1, strOfNums ys, 0, 0, 0⟩ (k + 2 + u) e (.inr (.inr (.inr ⟨by omega, by rw [HU.out]; exact hsm, by rw [HU.out, Int.toNat_natCast]; omega, ys, by rw [HU.out, Int.toNat_natCast]; exact hd, rfl, by rw [HU.out, Int.toNat_natCast]⟩))))
    have HCUT := Lib.hid hcut
    have HL := Lib.hid hl
    have hd : decide ((256 : Int) < (u : Int)) = false := decide_eq_false (by omega)
    clear rdc hcut hbig hl h2 hsm u1 u0
    go_enter Tryz.func142, Tryz.ntmps142
    go_wp2_with (fail)
    refine CC.out.mono ?_
    rintro e w1 ⟨rfl, hto⟩
    have cB := pdB_ok rb sv zs (k + 2) u w1 hto.1 (by have := HCUT.out; omega) (by simp at hd; omega)
    have CB := Lib.hid cB
    have HTO := Lib.hid hto
    clear CC hto cB
    go_wp2_with (fail)
    refine CB.out.mono ?_
    rintro e w2 ⟨v', rfl, hto2, hrow⟩
    have hbyt := (HZ.out.drop (k + 2)).take u
    have hxl : ((zs.drop (k + 2)).take u).length ≤ 140737488351232 := by have := HL.out; simp; omega
    obtain ⟨xs, hxs⟩ : ∃ xs, (zs.drop (k + 2)).take u = xs := ⟨_, rfl⟩
    rw [hxs] at hrow hbyt hxl
    have cD := decode v' xs w2 (hrow.bytes hbyt) hxl
    have HXS := Lib.hid hxs
    clear hxs hbyt hxl
    obtain ⟨av, cv, rfl, _, _⟩ := slice_of_owns hrow
    have CD := Lib.hid cD
    have HTO2 := Lib.hid hto2
    clear CB hto2 cD hrow
    go_wp2_with (fail)
    refine CD.out.mono ?_
    rintro e w3 ⟨ys, e0, rfl, hdec, ho3⟩
    have HD := Lib.hid hdec
    have HO3 := Lib.hid ho3
    clear CD hdec ho3
    go_wp2
    go_ret2
    exact ⟨strOfNums ys, k + 2 + u, e0, rfl, HR.out _ _ (by rw [HXS.out]; exact HD.out), (HTO.out.2.trans HTO2.out.2 (fun _ h _ => h)).trans HO3.out (fun _ h => h.elim), fun _ => HTO2.out.1.only HO3.out (fun h => h) (fun _ _ h => h)⟩
end


/-- A block of two places. -/
def P2 (w : World) (b : Nat) (x y : Int) : Prop := w.heap[b]? = some (.cells #[.int .i64 x, .int .i64 y] 150 (0, 0))
theorem P2.cells {w : World} {b : Nat} {x y : Int} (h : P2 w b x y) : w.cell? ⟨b, 0, none⟩ = some (.int .i64 x) ∧ w.cell? ⟨b, 1, none⟩ = some (.int .i64 y) := ⟨by rw [cell_blk h]; rfl, by rw [cell_blk h]; rfl⟩
theorem P2.free {w : World} {b : Nat} {x y : Int} (h : P2 w b x y) : w.frozen? ⟨b, 0, none⟩ = false ∧ w.frozen? ⟨b, 1, none⟩ = false := ⟨frozen_blk h 0, frozen_blk h 1⟩
theorem P2.only {S : Nat → Prop} {w w' : World} {b : Nat} {x y : Int} (h : P2 w b x y) (ho : Only S w w') (hs : ¬ S b) : P2 w' b x y := ho.heap h hs
theorem P2.set0 {w : World} {b : Nat} {x y : Int} (h : P2 w b x y) (p : Int) : P2 (w.setCell ⟨b, 0, none⟩ (.int .i64 p)) b p y := heap_setCell_at h
theorem P2.set1 {w : World} {b : Nat} {x y : Int} (h : P2 w b x y) (p : Int) : P2 (w.setCell ⟨b, 1, none⟩ (.int .i64 p)) b x p := heap_setCell_at h

/-- The world in which the three blocks are laid: the shape, the result, the places. -/
theorem three_laid (w : World) (tx : Bool) (sz la lb : Int) :
    let W := ((w.alloc (.cells #[.bool tx, .int .i64 sz, .int .i64 la, .int .i64 lb] 152)).alloc (.cells #[.int .i64 0, .int .i64 0] 150)).alloc (.cells #[.int .i64 0, .int .i64 0] 150)
    P2 W (w.heap.size + 1) 0 0 ∧ P2 W (w.heap.size + 1 + 1) 0 0 ∧ Only (fun _ => False) w W := by
  refine ⟨?_, ?_, (((Only.refl _ w).alloc _).alloc _).alloc _⟩
  · refine ((Only.refl (fun _ => False) _).alloc _).heap ?_ (fun h => h)
    have := heap_alloc_new (w.alloc (.cells #[.bool tx, .int .i64 sz, .int .i64 la, .int .i64 lb] 152)) (.cells #[.int .i64 0, .int .i64 0] 150)
    simpa using this
  · have := heap_alloc_new ((w.alloc (.cells #[.bool tx, .int .i64 sz, .int .i64 la, .int .i64 lb] 152)).alloc (.cells #[.int .i64 0, .int .i64 0] 150)) (.cells #[.int .i64 0, .int .i64 0] 150)
    simpa [P2] using this

/-- What reading the places leaves. -/
def PlacesTo (rb : Nat) (sv : Value) (zs : List Int) (k : Nat) (w : World) (tag : Int) (e : Ending) (w' : World) : Prop :=
  ∃ p q k' e0, e = .returned (.tuple #[.agg #[.int .i64 p, .int .i64 q], .int .i64 e0]) ∧ RdC zs k tag ⟨tag, noText, 0, p, q⟩ k' e0 ∧ Only (fun j => j = rb) w w' ∧ (e0 = 0 → Rd w' rb sv zs k')
theorem Rd.high {w w1 w' : World} {rb : Nat} {sv : Value} {zs : List Int} {k k' : Nat} (h0 : Rd w rb sv zs k) (h : Rd w1 rb sv zs k') (ho : Only (fun j => w.heap.size ≤ j) w1 w') : Rd w' rb sv zs k' :=
  h.only ho (by have := h0.lt; omega) (fun b hb => by have := h0.lt.2 b hb; omega)

set_option maxHeartbeats 4000000 in
set_option maxRecDepth 100000 in
theorem placesOne (rb : Nat) (sv : Value) (zs : List Int) (k : Nat) (w : World) (tx : Bool) (sz la : Int) (hla : la ≠ 0) (h : Rd w rb sv zs k) (hrd : ∀ p k' e0, NumRd zs k 2 (fun u => ⟨7, noText, 0, u, 0⟩) ⟨7, noText, 0, p, 0⟩ k' e0 → RdC zs k 7 ⟨7, noText, 0, p, 0⟩ k' e0) :
    Calls Tryz.prog 144 #[.pointer (some ⟨rb, 0, none⟩), .agg #[.bool tx, .int .i64 sz, .int .i64 la, .int .i64 0]] w (PlacesTo rb sv zs k w 7) := by
  have hrb := h.lt.1
  obtain ⟨hA, hB, ho⟩ := three_laid w tx sz la 0
  have h1 := h.only ho (fun h => h) (fun _ _ h => h)
  have i0 : ∀ w, (Instr.index 150 (.agg #[.int .i64 la, .int .i64 0]) (.int .i64 0)).run Tryz.prog w = .ok (.int .i64 la) w := fun _ => by kernel_rfl
  have i1 : ∀ w, (Instr.index 150 (.agg #[.int .i64 la, .int .i64 0]) (.int .i64 1)).run Tryz.prog w = .ok (.int .i64 0) w := fun _ => by kernel_rfl
  have a1 : (la == 0) = false := by simpa using hla
  have HA := Lib.hid hA
  have HB := Lib.hid hB
  have HO := Lib.hid (ho.mono (T := fun j => j = rb) (fun _ h _ => h.elim))
  have HRD := Lib.hid hrd
  have H0 := Lib.hid h
  by_cases hk : zs.length < k + 2
  · have cC := cntShort rb sv zs k _ h1 hk
    have CC := Lib.hid cC
    have HK := Lib.hid hk
    clear cC h1 hA hB ho hrd h hla hk
    go_enter Tryz.func144, Tryz.ntmps144
    go_wp2
    refine wp_loop_rounds 3 ?_
    rw [rounds_succ]
    go_wp2_with (fail)
    refine CC.out.mono ?_
    rintro e w1 ⟨rfl, hto⟩
    obtain ⟨k0, k1⟩ := (HA.out.only hto.2 (by omega)).cells
    obtain ⟨l0, l1⟩ := (HB.out.only hto.2 (by omega)).cells
    obtain ⟨f0, f1⟩ := (HA.out.only hto.2 (by omega)).free
    have HTO := Lib.hid hto
    clear hto CC
    go_wp2
    refine bodyPost_ret (v := .tuple #[.agg #[.int .i64 0, .int .i64 0], .int .i64 3]) (by simp [results, Tryz.results144, go_sem, k0, k1, l0, l1]) rfl ?_
    refine ⟨0, 0, k, 3, rfl, HRD.out _ _ _ (.inl ⟨HK.out, rfl⟩), ?_, fun h => absurd h (by decide)⟩
    repeat (refine Only.setCell ?_ (fun hl => absurd hl (by (try simp) <;> omega)) _)
    exact HO.out.trans HTO.out.2 (fun _ h _ => h)
  · have cC := cntOk rb sv zs k _ h1 (by omega)
    obtain ⟨u0, u1⟩ := uAt_lt' h.bytish k 2 (by omega)
    simp only [Int.reducePow] at u1
    have HN := Lib.hid (HRD.out (uAt zs k 2) (k + 2) 0 (.inr ⟨by omega, rfl, rfl, rfl⟩))
    generalize uAt zs k 2 = u at *
    have CC := Lib.hid cC
    clear cC h1 hA hB ho hrd h hla hk HRD
    go_enter Tryz.func144, Tryz.ntmps144
    go_wp2
    refine wp_loop_rounds 3 ?_
    rw [rounds_succ]
    go_wp2_with (fail)
    refine CC.out.mono ?_
    rintro e w1 ⟨rfl, hto⟩
    obtain ⟨k0, k1⟩ := (HA.out.only hto.2 (by omega)).cells
    obtain ⟨l0, l1⟩ := (HB.out.only hto.2 (by omega)).cells
    obtain ⟨f0, f1⟩ := (HA.out.only hto.2 (by omega)).free
    obtain ⟨g0, g1⟩ := (HB.out.only hto.2 (by omega)).free
    have HTO := Lib.hid hto
    clear hto CC
    go_wp2
    rw [rounds_succ]
    go_wp2
    rw [rounds_succ]
    go_wp2
    refine bodyPost_ret (v := .tuple #[.agg #[.int .i64 u, .int .i64 0], .int .i64 0]) (by simp [results, Tryz.results144, go_sem, k0, k1, l0, l1]) rfl ?_
    refine ⟨u, 0, k + 2, 0, rfl, HN.out, ?_, fun _ => ?_⟩
    · repeat (refine Only.setCell ?_ (fun hl => absurd hl (by (try simp) <;> omega)) _)
      exact HO.out.trans HTO.out.2 (fun _ h _ => h)
    · refine H0.out.high HTO.out.1 ?_
      repeat (refine Only.setCell ?_ (fun _ => by (try simp) <;> omega) _)
      exact Only.refl _ _

set_option maxHeartbeats 8000000 in
set_option maxRecDepth 100000 in
theorem placesTwo (rb : Nat) (sv : Value) (zs : List Int) (k : Nat) (w : World) (tag : Int) (tx : Bool) (sz la lb : Int) (hla : la ≠ 0) (hlb : lb ≠ 0) (h : Rd w rb sv zs k) (hrd : ∀ p q k' e0, PairRd zs k tag ⟨tag, noText, 0, p, q⟩ k' e0 → RdC zs k tag ⟨tag, noText, 0, p, q⟩ k' e0) :
    Calls Tryz.prog 144 #[.pointer (some ⟨rb, 0, none⟩), .agg #[.bool tx, .int .i64 sz, .int .i64 la, .int .i64 lb]] w (PlacesTo rb sv zs k w tag) := by
  have hrb := h.lt.1
  obtain ⟨hA, hB, ho⟩ := three_laid w tx sz la lb
  have h1 := h.only ho (fun h => h) (fun _ _ h => h)
  have i0 : ∀ w, (Instr.index 150 (.agg #[.int .i64 la, .int .i64 lb]) (.int .i64 0)).run Tryz.prog w = .ok (.int .i64 la) w := fun _ => by kernel_rfl
  have i1 : ∀ w, (Instr.index 150 (.agg #[.int .i64 la, .int .i64 lb]) (.int .i64 1)).run Tryz.prog w = .ok (.int .i64 lb) w := fun _ => by kernel_rfl
  have a1 : (la == 0) = false := by simpa using hla
  have a2 : (lb == 0) = false := by simpa using hlb
  have HA := Lib.hid hA
  have HB := Lib.hid hB
  have HO := Lib.hid (ho.mono (T := fun j => j = rb) (fun _ h _ => h.elim))
  have HRD := Lib.hid hrd
  have H0 := Lib.hid h
  by_cases hk : zs.length < k + 2
  · have cC := cntShort rb sv zs k _ h1 hk
    have CC := Lib.hid cC
    have HK := Lib.hid hk
    clear cC h1 hA hB ho hrd h hla hlb hk
    go_enter Tryz.func144, Tryz.ntmps144
    go_wp2
    refine wp_loop_rounds 3 ?_
    rw [rounds_succ]
    go_wp2_with (fail)
    refine CC.out.mono ?_
    rintro e w1 ⟨rfl, hto⟩
    obtain ⟨k0, k1⟩ := (HA.out.only hto.2 (by omega)).cells
    obtain ⟨l0, l1⟩ := (HB.out.only hto.2 (by omega)).cells
    obtain ⟨f0, f1⟩ := (HA.out.only hto.2 (by omega)).free
    have HTO := Lib.hid hto
    clear hto CC
    go_wp2
    refine bodyPost_ret (v := .tuple #[.agg #[.int .i64 0, .int .i64 0], .int .i64 3]) (by simp [results, Tryz.results144, go_sem, k0, k1, l0, l1]) rfl ?_
    refine ⟨0, 0, k, 3, rfl, HRD.out _ _ _ _ (.inl ⟨by have := HK.out; omega, rfl⟩), ?_, fun h => absurd h (by decide)⟩
    repeat (refine Only.setCell ?_ (fun hl => absurd hl (by (try simp) <;> omega)) _)
    exact HO.out.trans HTO.out.2 (fun _ h _ => h)
  have cC := cntOk rb sv zs k _ h1 (by omega)
  obtain ⟨u0, u1⟩ := uAt_lt' h.bytish k 2 (by omega)
  simp only [Int.reducePow] at u1
  have hbz := h.bytish
  have CC := Lib.hid cC
  have HK := Lib.hid hk
  have HZ := Lib.hid hbz
  have HU0 := Lib.hid u0
  have HU1 := Lib.hid u1
  clear cC h1 hA hB ho hrd h hla hlb hk hbz u0 u1
  obtain ⟨u, hu⟩ : ∃ u, uAt zs k 2 = u := ⟨_, rfl⟩
  rw [hu] at CC
  have HU := Lib.hid hu
  clear hu
  go_enter Tryz.func144, Tryz.ntmps144
  go_wp2
  refine wp_loop_rounds 3 ?_
  rw [rounds_succ]
  go_wp2_with (fail)
  refine CC.out.mono ?_
  rintro e w1 ⟨rfl, hto⟩
  have pA := HA.out.only hto.2 (by omega)
  have pB := (HB.out.only hto.2 (by omega)).set0 u
  obtain ⟨k0, k1⟩ := pA.cells
  obtain ⟨f0, f1⟩ := pA.free
  obtain ⟨l0, l1⟩ := (HB.out.only hto.2 (by omega)).cells
  obtain ⟨g0, g1⟩ := (HB.out.only hto.2 (by omega)).free
  have hset : Only (fun j => w.heap.size ≤ j) w1 (w1.setCell ⟨w.heap.size + 1 + 1, 0, none⟩ (.int .i64 u)) := Only.setCell (Only.refl _ _) (fun _ => by (try simp) <;> omega) _
  have hset2 : Only (fun j => j = w.heap.size + 1 + 1) w1 (w1.setCell ⟨w.heap.size + 1 + 1, 0, none⟩ (.int .i64 u)) := Only.setCell (S := fun j => j = w.heap.size + 1 + 1) (Only.refl _ _) (fun _ => rfl) _
  have hr2 := H0.out.high hto.1 hset
  have pA2 := pA.only hset2 (by omega)
  have ho2 : Only (fun j => j = rb) w (w1.setCell ⟨w.heap.size + 1 + 1, 0, none⟩ (.int .i64 u)) := (HO.out.trans hto.2 (fun _ h _ => h)).setCell (fun hl => absurd hl (by (try simp) <;> omega)) _
  have HR2 := Lib.hid hr2
  have HPA := Lib.hid pA2
  have HPB := Lib.hid pB
  have HO2 := Lib.hid ho2
  clear hto CC pA pB hset hset2 hr2 pA2 ho2
  go_wp2
  rw [rounds_succ]
  by_cases hk2 : zs.length < k + 4
  · have cC := cntShort rb sv zs (k + 2) _ HR2.out (by omega)
    have CC := Lib.hid cC
    have HK2 := Lib.hid hk2
    clear cC hk2
    go_wp2_with (fail)
    refine CC.out.mono ?_
    rintro e w2 ⟨rfl, hto⟩
    obtain ⟨k0, k1⟩ := (HPA.out.only hto.2 (by omega)).cells
    obtain ⟨l0, l1⟩ := (HPB.out.only hto.2 (by omega)).cells
    obtain ⟨f0, f1⟩ := (HPA.out.only hto.2 (by omega)).free
    have HTO := Lib.hid hto
    clear hto CC
    go_wp2
    refine bodyPost_ret (v := .tuple #[.agg #[.int .i64 u, .int .i64 0], .int .i64 3]) (by simp [results, Tryz.results144, go_sem, k0, k1, l0, l1]) rfl ?_
    refine ⟨u, 0, k, 3, rfl, HRD.out _ _ _ _ (.inl ⟨HK2.out, rfl⟩), ?_, fun h => absurd h (by decide)⟩
    repeat (refine Only.setCell ?_ (fun hl => absurd hl (by (try simp) <;> omega)) _)
    exact HO2.out.trans HTO.out.2 (fun _ h _ => h)
  · have cC := cntOk rb sv zs (k + 2) _ HR2.out (by omega)
    obtain ⟨u0, u1⟩ := uAt_lt' HZ.out (k + 2) 2 (by omega)
    simp only [Int.reducePow] at u1
    have HN := Lib.hid (HRD.out (uAt zs k 2) (uAt zs (k + 2) 2) (k + 4) 0 (.inr ⟨by omega, rfl, rfl, rfl⟩))
    generalize uAt zs (k + 2) 2 = u2 at *
    have CC := Lib.hid cC
    clear cC hk2 u0 u1 HRD
    go_wp2_with (fail)
    refine CC.out.mono ?_
    rintro e w2 ⟨rfl, hto⟩
    obtain ⟨k0, k1⟩ := (HPA.out.only hto.2 (by omega)).cells
    obtain ⟨l0, l1⟩ := (HPB.out.only hto.2 (by omega)).cells
    obtain ⟨f0, f1⟩ := (HPA.out.only hto.2 (by omega)).free
    obtain ⟨g0, g1⟩ := (HPB.out.only hto.2 (by omega)).free
    have HTO := Lib.hid hto
    clear hto CC
    go_wp2
    rw [rounds_succ]
    go_wp2
    refine bodyPost_ret (v := .tuple #[.agg #[.int .i64 u, .int .i64 u2], .int .i64 0]) (by simp [results, Tryz.results144, go_sem, k0, k1, l0, l1]) rfl ?_
    refine ⟨u, u2, k + 4, 0, rfl, by rw [← HU.out]; exact HN.out, ?_, fun _ => ?_⟩
    · repeat (refine Only.setCell ?_ (fun hl => absurd hl (by (try simp) <;> omega)) _)
      exact HO2.out.trans HTO.out.2 (fun _ h _ => h)
    · refine H0.out.high HTO.out.1 ?_
      repeat (refine Only.setCell ?_ (fun _ => by (try simp) <;> omega) _)
      exact Only.refl _ _


/-- What reading a constant leaves. -/
def ConstTo (rb : Nat) (sv : Value) (zs : List Int) (k : Nat) (w : World) (e : Ending) (w' : World) : Prop :=
  ∃ c k' e0, e = .returned (.tuple #[.agg #[.int .i64 c.tag, .string c.text, .int .i64 c.n, .int .i64 c.a, .int .i64 c.b], .int .i64 e0]) ∧ RdOne zs k c k' e0 ∧ Only (fun j => j = rb) w w' ∧ (e0 = 0 → Rd w' rb sv zs k')
theorem C5.zero (w : World) : C5 (w.alloc (.cells #[.int .i64 0, .string ⟨#[]⟩, .int .i64 0, .int .i64 0, .int .i64 0] 67)) w.heap.size ⟨0, noText, 0, 0, 0⟩ := heap_alloc_new w _

set_option maxHeartbeats 4000000 in
set_option maxRecDepth 100000 in
theorem readConstShort (rb : Nat) (sv : Value) (zs : List Int) (k : Nat) (w : World) (h : Rd w rb sv zs k) (hk : zs.length < k + 1) :
    Calls Tryz.prog 127 #[.pointer (some ⟨rb, 0, none⟩)] w (ConstTo rb sv zs k w) := by
  have hrb := h.lt.1
  have ho0 : Only (fun _ => False) w (w.alloc (.cells #[.int .i64 0, .string ⟨#[]⟩, .int .i64 0, .int .i64 0, .int .i64 0] 67)) := (Only.refl _ _).alloc _
  have cU := pdU_short rb sv zs k 1 _ (h.only ho0 (fun h => h) (fun _ _ h => h)) (by decide) (by decide) hk
  have hR := C5.zero w
  have CU := Lib.hid cU
  have HR := Lib.hid hR
  have HK := Lib.hid hk
  have HO := Lib.hid (ho0.mono (T := fun j => j = rb) (fun _ h _ => h.elim))
  clear cU hR hk ho0 h
  go_enter Tryz.func127, Tryz.ntmps127
  go_wp2_with (fail)
  refine CU.out.mono ?_
  rintro e w1 ⟨rfl, hto⟩
  have hR1 := HR.out.only hto.2 (by omega)
  obtain ⟨k0, k1, k2, k3, k4⟩ := hR1.cells
  obtain ⟨f0, f1, f2, f3, f4⟩ := hR1.free
  have HTO := Lib.hid hto
  clear hto CU hR1
  go_wp2
  refine bodyPost_ret (v := .tuple #[.agg #[.int .i64 0, .string noText, .int .i64 0, .int .i64 0, .int .i64 0], .int .i64 3]) (by simp [results, Tryz.results127, go_sem, noText, k0, k1, k2, k3, k4]) rfl ?_
  refine ⟨⟨0, noText, 0, 0, 0⟩, k, 3, rfl, .inl ⟨HK.out, rfl⟩, ?_, fun h => absurd h (by decide)⟩
  repeat (refine Only.setCell ?_ (fun hl => absurd hl (by (try simp) <;> omega)) _)
  exact HO.out.trans HTO.out.2 (fun _ h _ => h)

set_option maxHeartbeats 8000000 in
set_option maxRecDepth 100000 in
theorem readConstNone (rb : Nat) (sv : Value) (zs : List Int) (k : Nat) (w : World) (h : Rd w rb sv zs k) (hk : k + 1 ≤ zs.length) (t : Int) (ht : uAt zs k 1 = t) (hs : (shapeZ t).2 = false) (hn : ∀ c k', RdC zs (k + 1) t c k' 40) :
    Calls Tryz.prog 127 #[.pointer (some ⟨rb, 0, none⟩)] w (ConstTo rb sv zs k w) := by
  have hrb := h.lt.1
  have ho0 : Only (fun _ => False) w (w.alloc (.cells #[.int .i64 0, .string ⟨#[]⟩, .int .i64 0, .int .i64 0, .int .i64 0] 67)) := (Only.refl _ _).alloc _
  have cU := pdU_ok rb sv zs k 1 _ (h.only ho0 (fun h => h) (fun _ _ h => h)) (by decide) (by decide) hk
  have hR := C5.zero w
  obtain ⟨u0, u1⟩ := uAt_lt' h.bytish k 1 hk
  simp only [Int.reducePow] at u1
  rw [ht] at cU u0 u1
  have hone : ∀ c k' e0, RdC zs (k + 1) t c k' e0 → RdOne zs k c k' e0 := fun c k' e0 hc => .inr ⟨hk, by rw [ht]; exact hc⟩
  have HONE := Lib.hid hone
  have CU := Lib.hid cU
  have HR := Lib.hid hR
  have HO := Lib.hid (ho0.mono (T := fun j => j = rb) (fun _ h _ => h.elim))
  have H0 := Lib.hid h
  have hn2 := HONE.out ⟨0, noText, 0, 0, 0⟩ k 40 (hn _ _)
  have HN := Lib.hid hn2
  have cS := fun w => progShape t w
  rw [hs] at cS
  obtain ⟨sh, hsh⟩ : ∃ sh, (shapeZ t).1 = sh := ⟨_, rfl⟩
  rw [hsh] at cS
  obtain ⟨tx, sz, la, lb⟩ := sh
  simp only at cS
  have CS := Lib.hid cS
  clear hs hn hn2 cS hsh
  clear cU hR hk ho0 h hone ht
  go_enter Tryz.func127, Tryz.ntmps127
  go_wp2_with (fail)
  refine CU.out.mono ?_
  rintro e w1 ⟨rfl, hto⟩
  have hR1 := HR.out.only hto.2 (by omega)
  have hz1 := hto.2.size
  simp at hz1
  have HTO := Lib.hid hto
  have HR1 := Lib.hid hR1
  clear hto CU hR1
  go_wp2_with (fail)
  refine (CS.out w1).mono ?_
  rintro e w2 ⟨rfl, ho2⟩
  have hz2 := ho2.size
  have HO2 := Lib.hid ho2
  clear ho2
  have hoS : Only (fun _ => False) w1 (w2.alloc (.cells #[.bool tx, .int .i64 sz, .int .i64 la, .int .i64 lb] 152)) := HO2.out.alloc _
  have hR2 := HR1.out.only hoS (fun h => h)
  obtain ⟨k0, k1, k2, k3, k4⟩ := hR2.cells
  obtain ⟨f0, f1, f2, f3, f4⟩ := hR2.free
  have HOS := Lib.hid hoS
  clear hoS hR2
  go_wp2
  refine bodyPost_ret (v := .tuple #[.agg #[.int .i64 0, .string noText, .int .i64 0, .int .i64 0, .int .i64 0], .int .i64 40]) (by simp [results, Tryz.results127, go_sem, noText, k0, k1, k2, k3, k4]) rfl ?_
  refine ⟨⟨0, noText, 0, 0, 0⟩, k, 40, rfl, HN.out, ?_, fun h => absurd h (by decide)⟩
  repeat (refine Only.setCell ?_ (fun hl => absurd hl (by (try simp) <;> omega)) _)
  exact (HO.out.trans HTO.out.2 (fun _ h _ => h)).trans HOS.out (fun _ h => h.elim)

set_option maxHeartbeats 8000000 in
set_option maxRecDepth 100000 in
theorem readConstText (rb : Nat) (sv : Value) (zs : List Int) (k : Nat) (w : World) (h : Rd w rb sv zs k) (hk : k + 1 ≤ zs.length) (t : Int) (ht : uAt zs k 1 = t) (ht2 : t = 1) (hl : zs.length ≤ 140737488351232) :
    Calls Tryz.prog 127 #[.pointer (some ⟨rb, 0, none⟩)] w (ConstTo rb sv zs k w) := by
  have hrb := h.lt.1
  have ho0 : Only (fun _ => False) w (w.alloc (.cells #[.int .i64 0, .string ⟨#[]⟩, .int .i64 0, .int .i64 0, .int .i64 0] 67)) := (Only.refl _ _).alloc _
  have cU := pdU_ok rb sv zs k 1 _ (h.only ho0 (fun h => h) (fun _ _ h => h)) (by decide) (by decide) hk
  have hR := C5.zero w
  obtain ⟨u0, u1⟩ := uAt_lt' h.bytish k 1 hk
  simp only [Int.reducePow] at u1
  rw [ht] at cU u0 u1
  have hone : ∀ c k' e0, RdC zs (k + 1) t c k' e0 → RdOne zs k c k' e0 := fun c k' e0 hc => .inr ⟨hk, by rw [ht]; exact hc⟩
  have HONE := Lib.hid hone
  have CU := Lib.hid cU
  have HR := Lib.hid hR
  have HO := Lib.hid (ho0.mono (T := fun j => j = rb) (fun _ h _ => h.elim))
  have H0 := Lib.hid h
  have cS := fun w => progShape t w
  subst ht2
  rw [show shapeZ 1 = (⟨true, 0, 0, 0⟩, true) from rfl] at cS
  simp only at cS
  have CS := Lib.hid cS
  have HL := Lib.hid hl
  clear cS hl
  clear cU hR hk ho0 h hone ht
  go_enter Tryz.func127, Tryz.ntmps127
  go_wp2_with (fail)
  refine CU.out.mono ?_
  rintro e w1 ⟨rfl, hto⟩
  have hR1 := HR.out.only hto.2 (by omega)
  have hz1 := hto.2.size
  simp at hz1
  have HTO := Lib.hid hto
  have HR1 := Lib.hid hR1
  clear hto CU hR1
  go_wp2_with (fail)
  refine (CS.out w1).mono ?_
  rintro e w2 ⟨rfl, ho2⟩
  have hz2 := ho2.size
  have HO2 := Lib.hid ho2
  clear ho2
  have hoW : Only (fun _ => False) w1 ((w2.alloc (.cells #[.bool true, .int .i64 0, .int .i64 0, .int .i64 0] 152)).alloc (.cells #[.int .i64 1, .string ⟨#[]⟩, .int .i64 0, .int .i64 0, .int .i64 0] 67)) := ((HO2.out.alloc _).alloc _)
  have hC : C5 ((w2.alloc (.cells #[.bool true, .int .i64 0, .int .i64 0, .int .i64 0] 152)).alloc (.cells #[.int .i64 1, .string ⟨#[]⟩, .int .i64 0, .int .i64 0, .int .i64 0] 67)) (w2.heap.size + 1) ⟨1, noText, 0, 0, 0⟩ := by
    have := heap_alloc_new (w2.alloc (.cells #[.bool true, .int .i64 0, .int .i64 0, .int .i64 0] 152)) (.cells #[.int .i64 1, .string ⟨#[]⟩, .int .i64 0, .int .i64 0, .int .i64 0] 67)
    simp only [World.size_alloc] at this
    exact this
  have hRW := HR1.out.only hoW (fun h => h)
  have hrW := HTO.out.1.only hoW (fun h => h) (fun _ _ h => h)
  have HOW := Lib.hid hoW
  have HC := Lib.hid hC
  have HRW := Lib.hid hRW
  have HrW := Lib.hid hrW
  clear hoW hC hRW hrW
  have cT := progReadText rb sv zs (k + 1) _ HrW.out HL.out
  have CT := Lib.hid cT
  clear cT
  go_wp2_with (fail)
  refine CT.out.mono ?_
  rintro e w3 ⟨s, k', e0, rfl, hrc, hon3, hr3⟩
  have hC3 := HC.out.only hon3 (by omega)
  have hR3 := HRW.out.only hon3 (by omega)
  obtain ⟨k0, k1, k2, k3, k4⟩ := hR3.cells
  obtain ⟨f0, f1, f2, f3, f4⟩ := hR3.free
  obtain ⟨l0, l1, l2, l3, l4⟩ := hC3.cells
  obtain ⟨g0, g1, g2, g3, g4⟩ := hC3.free
  have HRC := Lib.hid hrc
  have HON3 := Lib.hid hon3
  have HR3 := Lib.hid hr3
  clear hrc hon3 hr3 CT hC3 hR3
  go_wp2
  refine bodyPost_ret (v := .tuple #[.agg #[.int .i64 1, .string s, .int .i64 0, .int .i64 0, .int .i64 0], .int .i64 e0]) (by simp [results, Tryz.results127, go_sem, noText, k0, k1, k2, k3, k4, l0, l1, l2, l3, l4]) rfl ?_
  refine ⟨⟨1, s, 0, 0, 0⟩, k', e0, rfl, HONE.out _ _ _ HRC.out, ?_, fun he => ?_⟩
  · repeat (refine Only.setCell ?_ (fun hl => absurd hl (by (try simp) <;> omega)) _)
    exact ((HO.out.trans HTO.out.2 (fun _ h _ => h)).trans HOW.out (fun _ h => h.elim)).trans HON3.out (fun _ h _ => h)
  · refine H0.out.high (HR3.out he) ?_
    repeat (refine Only.setCell ?_ (fun _ => by (try simp) <;> omega) _)
    exact Only.refl _ _

set_option maxHeartbeats 8000000 in
set_option maxRecDepth 100000 in
theorem readConstInt (rb : Nat) (sv : Value) (zs : List Int) (k : Nat) (w : World) (h : Rd w rb sv zs k) (hk : k + 1 ≤ zs.length) (t : Int) (ht : uAt zs k 1 = t) (ht2 : t = 3) (hrd : ∀ c k' e0, NumRd zs (k + 1) 4 (fun u => ⟨3, noText, sgn 4 u, 0, 0⟩) c k' e0 → RdC zs (k + 1) 3 c k' e0) :
    Calls Tryz.prog 127 #[.pointer (some ⟨rb, 0, none⟩)] w (ConstTo rb sv zs k w) := by
  have hrb := h.lt.1
  have ho0 : Only (fun _ => False) w (w.alloc (.cells #[.int .i64 0, .string ⟨#[]⟩, .int .i64 0, .int .i64 0, .int .i64 0] 67)) := (Only.refl _ _).alloc _
  have cU := pdU_ok rb sv zs k 1 _ (h.only ho0 (fun h => h) (fun _ _ h => h)) (by decide) (by decide) hk
  have hR := C5.zero w
  obtain ⟨u0, u1⟩ := uAt_lt' h.bytish k 1 hk
  simp only [Int.reducePow] at u1
  rw [ht] at cU u0 u1
  have hone : ∀ c k' e0, RdC zs (k + 1) t c k' e0 → RdOne zs k c k' e0 := fun c k' e0 hc => .inr ⟨hk, by rw [ht]; exact hc⟩
  have HONE := Lib.hid hone
  have CU := Lib.hid cU
  have HR := Lib.hid hR
  have HO := Lib.hid (ho0.mono (T := fun j => j = rb) (fun _ h _ => h.elim))
  have H0 := Lib.hid h
  have cS := fun w => progShape t w
  subst ht2
  rw [show shapeZ 3 = (⟨false, 4, 0, 0⟩, true) from rfl] at cS
  simp only at cS
  have CS := Lib.hid cS
  have HRD := Lib.hid hrd
  clear cS hrd
  clear cU hR hk ho0 h hone ht
  go_enter Tryz.func127, Tryz.ntmps127
  go_wp2_with (fail)
  refine CU.out.mono ?_
  rintro e w1 ⟨rfl, hto⟩
  have hR1 := HR.out.only hto.2 (by omega)
  have hz1 := hto.2.size
  simp at hz1
  have HTO := Lib.hid hto
  have HR1 := Lib.hid hR1
  clear hto CU hR1
  go_wp2_with (fail)
  refine (CS.out w1).mono ?_
  rintro e w2 ⟨rfl, ho2⟩
  have hz2 := ho2.size
  have HO2 := Lib.hid ho2
  clear ho2
  have hoW : Only (fun _ => False) w1 ((w2.alloc (.cells #[.bool false, .int .i64 4, .int .i64 0, .int .i64 0] 152)).alloc (.cells #[.int .i64 3, .string ⟨#[]⟩, .int .i64 0, .int .i64 0, .int .i64 0] 67)) := ((HO2.out.alloc _).alloc _)
  have hC : C5 ((w2.alloc (.cells #[.bool false, .int .i64 4, .int .i64 0, .int .i64 0] 152)).alloc (.cells #[.int .i64 3, .string ⟨#[]⟩, .int .i64 0, .int .i64 0, .int .i64 0] 67)) (w2.heap.size + 1) ⟨3, noText, 0, 0, 0⟩ := by
    have := heap_alloc_new (w2.alloc (.cells #[.bool false, .int .i64 4, .int .i64 0, .int .i64 0] 152)) (.cells #[.int .i64 3, .string ⟨#[]⟩, .int .i64 0, .int .i64 0, .int .i64 0] 67)
    simp only [World.size_alloc] at this
    exact this
  have hRW := HR1.out.only hoW (fun h => h)
  have hrW := HTO.out.1.only hoW (fun h => h) (fun _ _ h => h)
  have HOW := Lib.hid hoW
  have HC := Lib.hid hC
  have HRW := Lib.hid hRW
  have HrW := Lib.hid hrW
  clear hoW hC hRW hrW
  have cI : ∀ W, Rd W rb sv zs (k + 1) → Calls Tryz.prog 143 #[.pointer (some ⟨rb, 0, none⟩), .int .i64 4] W fun e w' => ∃ (n : Int) (k' : Nat) (e0 : Int), e = .returned (.tuple #[.int .i64 n, .int .i64 e0]) ∧ RdOne zs k ⟨3, noText, n, 0, 0⟩ k' e0 ∧ RdTo W rb sv zs k' w' := by
    intro W hW
    by_cases hk2 : zs.length < k + 1 + 4
    · exact (pdI_short rb sv zs (k + 1) 4 W hW (by decide) (by decide) hk2).mono fun e w' ⟨h1, h2⟩ => ⟨0, k + 1, 3, h1, HONE.out _ _ _ (HRD.out _ _ _ (.inl ⟨hk2, rfl⟩)), h2⟩
    · exact (pdI_ok rb sv zs (k + 1) 4 W hW (by decide) (by decide) (by omega)).mono fun e w' ⟨h1, h2⟩ => ⟨_, k + 1 + 4, 0, h1, HONE.out _ _ _ (HRD.out _ _ _ (.inr ⟨by omega, rfl, rfl, rfl⟩)), h2⟩
  have CI := Lib.hid cI
  clear cI HRD
  go_wp2_with (fail)
  refine (CI.out _ HrW.out).mono ?_
  rintro e w3 ⟨n, k', e0, rfl, hrc, hr3, hon3⟩
  have hC3 := HC.out.only hon3 (by omega)
  have hR3 := HRW.out.only hon3 (by omega)
  obtain ⟨k0, k1, k2, k3, k4⟩ := hR3.cells
  obtain ⟨f0, f1, f2, f3, f4⟩ := hR3.free
  obtain ⟨l0, l1, l2, l3, l4⟩ := hC3.cells
  obtain ⟨g0, g1, g2, g3, g4⟩ := hC3.free
  have HRC := Lib.hid hrc
  have HON3 := Lib.hid hon3
  have HR3 := Lib.hid (fun (_ : e0 = 0) => hr3)
  clear hrc hon3 hr3 CI hC3 hR3
  go_wp2
  refine bodyPost_ret (v := .tuple #[.agg #[.int .i64 3, .string noText, .int .i64 n, .int .i64 0, .int .i64 0], .int .i64 e0]) (by simp [results, Tryz.results127, go_sem, noText, k0, k1, k2, k3, k4, l0, l1, l2, l3, l4]) rfl ?_
  refine ⟨⟨3, noText, n, 0, 0⟩, k', e0, rfl, HRC.out, ?_, fun he => ?_⟩
  · repeat (refine Only.setCell ?_ (fun hl => absurd hl (by (try simp) <;> omega)) _)
    exact ((HO.out.trans HTO.out.2 (fun _ h _ => h)).trans HOW.out (fun _ h => h.elim)).trans HON3.out (fun _ h _ => h)
  · refine H0.out.high (HR3.out he) ?_
    repeat (refine Only.setCell ?_ (fun _ => by (try simp) <;> omega) _)
    exact Only.refl _ _

set_option maxHeartbeats 8000000 in
set_option maxRecDepth 100000 in
theorem readConstLong (rb : Nat) (sv : Value) (zs : List Int) (k : Nat) (w : World) (h : Rd w rb sv zs k) (hk : k + 1 ≤ zs.length) (t : Int) (ht : uAt zs k 1 = t) (ht2 : t = 5) (hrd : ∀ c k' e0, NumRd zs (k + 1) 8 (fun u => ⟨5, noText, sgn 8 u, 0, 0⟩) c k' e0 → RdC zs (k + 1) 5 c k' e0) :
    Calls Tryz.prog 127 #[.pointer (some ⟨rb, 0, none⟩)] w (ConstTo rb sv zs k w) := by
  have hrb := h.lt.1
  have ho0 : Only (fun _ => False) w (w.alloc (.cells #[.int .i64 0, .string ⟨#[]⟩, .int .i64 0, .int .i64 0, .int .i64 0] 67)) := (Only.refl _ _).alloc _
  have cU := pdU_ok rb sv zs k 1 _ (h.only ho0 (fun h => h) (fun _ _ h => h)) (by decide) (by decide) hk
  have hR := C5.zero w
  obtain ⟨u0, u1⟩ := uAt_lt' h.bytish k 1 hk
  simp only [Int.reducePow] at u1
  rw [ht] at cU u0 u1
  have hone : ∀ c k' e0, RdC zs (k + 1) t c k' e0 → RdOne zs k c k' e0 := fun c k' e0 hc => .inr ⟨hk, by rw [ht]; exact hc⟩
  have HONE := Lib.hid hone
  have CU := Lib.hid cU
  have HR := Lib.hid hR
  have HO := Lib.hid (ho0.mono (T := fun j => j = rb) (fun _ h _ => h.elim))
  have H0 := Lib.hid h
  have cS := fun w => progShape t w
  subst ht2
  rw [show shapeZ 5 = (⟨false, 8, 0, 0⟩, true) from rfl] at cS
  simp only at cS
  have CS := Lib.hid cS
  have HRD := Lib.hid hrd
  clear cS hrd
  clear cU hR hk ho0 h hone ht
  go_enter Tryz.func127, Tryz.ntmps127
  go_wp2_with (fail)
  refine CU.out.mono ?_
  rintro e w1 ⟨rfl, hto⟩
  have hR1 := HR.out.only hto.2 (by omega)
  have hz1 := hto.2.size
  simp at hz1
  have HTO := Lib.hid hto
  have HR1 := Lib.hid hR1
  clear hto CU hR1
  go_wp2_with (fail)
  refine (CS.out w1).mono ?_
  rintro e w2 ⟨rfl, ho2⟩
  have hz2 := ho2.size
  have HO2 := Lib.hid ho2
  clear ho2
  have hoW : Only (fun _ => False) w1 ((w2.alloc (.cells #[.bool false, .int .i64 8, .int .i64 0, .int .i64 0] 152)).alloc (.cells #[.int .i64 5, .string ⟨#[]⟩, .int .i64 0, .int .i64 0, .int .i64 0] 67)) := ((HO2.out.alloc _).alloc _)
  have hC : C5 ((w2.alloc (.cells #[.bool false, .int .i64 8, .int .i64 0, .int .i64 0] 152)).alloc (.cells #[.int .i64 5, .string ⟨#[]⟩, .int .i64 0, .int .i64 0, .int .i64 0] 67)) (w2.heap.size + 1) ⟨5, noText, 0, 0, 0⟩ := by
    have := heap_alloc_new (w2.alloc (.cells #[.bool false, .int .i64 8, .int .i64 0, .int .i64 0] 152)) (.cells #[.int .i64 5, .string ⟨#[]⟩, .int .i64 0, .int .i64 0, .int .i64 0] 67)
    simp only [World.size_alloc] at this
    exact this
  have hRW := HR1.out.only hoW (fun h => h)
  have hrW := HTO.out.1.only hoW (fun h => h) (fun _ _ h => h)
  have HOW := Lib.hid hoW
  have HC := Lib.hid hC
  have HRW := Lib.hid hRW
  have HrW := Lib.hid hrW
  clear hoW hC hRW hrW
  have cI : ∀ W, Rd W rb sv zs (k + 1) → Calls Tryz.prog 143 #[.pointer (some ⟨rb, 0, none⟩), .int .i64 8] W fun e w' => ∃ (n : Int) (k' : Nat) (e0 : Int), e = .returned (.tuple #[.int .i64 n, .int .i64 e0]) ∧ RdOne zs k ⟨5, noText, n, 0, 0⟩ k' e0 ∧ RdTo W rb sv zs k' w' := by
    intro W hW
    by_cases hk2 : zs.length < k + 1 + 8
    · exact (pdI_short rb sv zs (k + 1) 8 W hW (by decide) (by decide) hk2).mono fun e w' ⟨h1, h2⟩ => ⟨0, k + 1, 3, h1, HONE.out _ _ _ (HRD.out _ _ _ (.inl ⟨hk2, rfl⟩)), h2⟩
    · exact (pdI_ok rb sv zs (k + 1) 8 W hW (by decide) (by decide) (by omega)).mono fun e w' ⟨h1, h2⟩ => ⟨_, k + 1 + 8, 0, h1, HONE.out _ _ _ (HRD.out _ _ _ (.inr ⟨by omega, rfl, rfl, rfl⟩)), h2⟩
  have CI := Lib.hid cI
  clear cI HRD
  go_wp2_with (fail)
  refine (CI.out _ HrW.out).mono ?_
  rintro e w3 ⟨n, k', e0, rfl, hrc, hr3, hon3⟩
  have hC3 := HC.out.only hon3 (by omega)
  have hR3 := HRW.out.only hon3 (by omega)
  obtain ⟨k0, k1, k2, k3, k4⟩ := hR3.cells
  obtain ⟨f0, f1, f2, f3, f4⟩ := hR3.free
  obtain ⟨l0, l1, l2, l3, l4⟩ := hC3.cells
  obtain ⟨g0, g1, g2, g3, g4⟩ := hC3.free
  have HRC := Lib.hid hrc
  have HON3 := Lib.hid hon3
  have HR3 := Lib.hid (fun (_ : e0 = 0) => hr3)
  clear hrc hon3 hr3 CI hC3 hR3
  go_wp2
  refine bodyPost_ret (v := .tuple #[.agg #[.int .i64 5, .string noText, .int .i64 n, .int .i64 0, .int .i64 0], .int .i64 e0]) (by simp [results, Tryz.results127, go_sem, noText, k0, k1, k2, k3, k4, l0, l1, l2, l3, l4]) rfl ?_
  refine ⟨⟨5, noText, n, 0, 0⟩, k', e0, rfl, HRC.out, ?_, fun he => ?_⟩
  · repeat (refine Only.setCell ?_ (fun hl => absurd hl (by (try simp) <;> omega)) _)
    exact ((HO.out.trans HTO.out.2 (fun _ h _ => h)).trans HOW.out (fun _ h => h.elim)).trans HON3.out (fun _ h _ => h)
  · refine H0.out.high (HR3.out he) ?_
    repeat (refine Only.setCell ?_ (fun _ => by (try simp) <;> omega) _)
    exact Only.refl _ _

set_option maxHeartbeats 8000000 in
set_option maxRecDepth 100000 in
theorem readConstPlaces (rb : Nat) (sv : Value) (zs : List Int) (k : Nat) (w : World) (h : Rd w rb sv zs k) (hk : k + 1 ≤ zs.length) (t : Int) (ht : uAt zs k 1 = t) (la lb : Int) (hs : shapeZ t = (⟨false, 0, la, lb⟩, true)) (hpl : ∀ w', Rd w' rb sv zs (k + 1) → Calls Tryz.prog 144 #[.pointer (some ⟨rb, 0, none⟩), .agg #[.bool false, .int .i64 0, .int .i64 la, .int .i64 lb]] w' (PlacesTo rb sv zs (k + 1) w' t)) :
    Calls Tryz.prog 127 #[.pointer (some ⟨rb, 0, none⟩)] w (ConstTo rb sv zs k w) := by
  have hrb := h.lt.1
  have ho0 : Only (fun _ => False) w (w.alloc (.cells #[.int .i64 0, .string ⟨#[]⟩, .int .i64 0, .int .i64 0, .int .i64 0] 67)) := (Only.refl _ _).alloc _
  have cU := pdU_ok rb sv zs k 1 _ (h.only ho0 (fun h => h) (fun _ _ h => h)) (by decide) (by decide) hk
  have hR := C5.zero w
  obtain ⟨u0, u1⟩ := uAt_lt' h.bytish k 1 hk
  simp only [Int.reducePow] at u1
  rw [ht] at cU u0 u1
  have hone : ∀ c k' e0, RdC zs (k + 1) t c k' e0 → RdOne zs k c k' e0 := fun c k' e0 hc => .inr ⟨hk, by rw [ht]; exact hc⟩
  have HONE := Lib.hid hone
  have CU := Lib.hid cU
  have HR := Lib.hid hR
  have HO := Lib.hid (ho0.mono (T := fun j => j = rb) (fun _ h _ => h.elim))
  have H0 := Lib.hid h
  have cS := fun w => progShape t w
  rw [hs] at cS
  simp only at cS
  have CS := Lib.hid cS
  have HPL := Lib.hid hpl
  clear cS hs hpl
  clear cU hR hk ho0 h hone ht
  go_enter Tryz.func127, Tryz.ntmps127
  go_wp2_with (fail)
  refine CU.out.mono ?_
  rintro e w1 ⟨rfl, hto⟩
  have hR1 := HR.out.only hto.2 (by omega)
  have hz1 := hto.2.size
  simp at hz1
  have HTO := Lib.hid hto
  have HR1 := Lib.hid hR1
  clear hto CU hR1
  go_wp2_with (fail)
  refine (CS.out w1).mono ?_
  rintro e w2 ⟨rfl, ho2⟩
  have hz2 := ho2.size
  have HO2 := Lib.hid ho2
  clear ho2
  have hoW : Only (fun _ => False) w1 (((w2.alloc (.cells #[.bool false, .int .i64 0, .int .i64 la, .int .i64 lb] 152)).alloc (.cells #[.int .i64 t, .string ⟨#[]⟩, .int .i64 0, .int .i64 0, .int .i64 0] 67)).alloc (.cells #[.int .i64 0, .int .i64 0] 150)) := ((HO2.out.alloc _).alloc _).alloc _
  have hC : C5 (((w2.alloc (.cells #[.bool false, .int .i64 0, .int .i64 la, .int .i64 lb] 152)).alloc (.cells #[.int .i64 t, .string ⟨#[]⟩, .int .i64 0, .int .i64 0, .int .i64 0] 67)).alloc (.cells #[.int .i64 0, .int .i64 0] 150)) (w2.heap.size + 1) ⟨t, noText, 0, 0, 0⟩ := by
    have := heap_alloc_new (w2.alloc (.cells #[.bool false, .int .i64 0, .int .i64 la, .int .i64 lb] 152)) (.cells #[.int .i64 t, .string ⟨#[]⟩, .int .i64 0, .int .i64 0, .int .i64 0] 67)
    simp only [World.size_alloc] at this
    exact ((Only.refl (fun _ => False) _).alloc _).heap this (fun h => h)
  have hP : P2 (((w2.alloc (.cells #[.bool false, .int .i64 0, .int .i64 la, .int .i64 lb] 152)).alloc (.cells #[.int .i64 t, .string ⟨#[]⟩, .int .i64 0, .int .i64 0, .int .i64 0] 67)).alloc (.cells #[.int .i64 0, .int .i64 0] 150)) (w2.heap.size + 1 + 1) 0 0 := by
    have := heap_alloc_new ((w2.alloc (.cells #[.bool false, .int .i64 0, .int .i64 la, .int .i64 lb] 152)).alloc (.cells #[.int .i64 t, .string ⟨#[]⟩, .int .i64 0, .int .i64 0, .int .i64 0] 67)) (.cells #[.int .i64 0, .int .i64 0] 150)
    simp only [World.size_alloc] at this
    exact this
  have HP := Lib.hid hP
  clear hP
  have hRW := HR1.out.only hoW (fun h => h)
  have hrW := HTO.out.1.only hoW (fun h => h) (fun _ _ h => h)
  have HOW := Lib.hid hoW
  have HC := Lib.hid hC
  have HRW := Lib.hid hRW
  have HrW := Lib.hid hrW
  clear hoW hC hRW hrW
  have cP := HPL.out _ HrW.out
  have CP := Lib.hid cP
  clear cP HPL
  go_wp2_with (fail)
  refine CP.out.mono ?_
  rintro e w3 ⟨p, q, k', e0, rfl, hrc, hon3, hr3⟩
  have hC3 := HC.out.only hon3 (by omega)
  have hR3 := HRW.out.only hon3 (by omega)
  obtain ⟨k0, k1, k2, k3, k4⟩ := hR3.cells
  obtain ⟨f0, f1, f2, f3, f4⟩ := hR3.free
  obtain ⟨l0, l1, l2, l3, l4⟩ := hC3.cells
  obtain ⟨g0, g1, g2, g3, g4⟩ := hC3.free
  have hP3 := HP.out.only hon3 (by omega)
  obtain ⟨m0, m1⟩ := hP3.cells
  obtain ⟨j0, j1⟩ := hP3.free
  have hset : Only (fun j => j = w2.heap.size + 1 + 1) w3 ((w3.setCell ⟨w2.heap.size + 1 + 1, 0, none⟩ (.int .i64 p)).setCell ⟨w2.heap.size + 1 + 1, 1, none⟩ (.int .i64 q)) :=
    Only.setCell (S := fun j => j = w2.heap.size + 1 + 1) (Only.setCell (S := fun j => j = w2.heap.size + 1 + 1) (Only.refl _ _) (fun _ => rfl) _) (fun _ => rfl) _
  have hP4 := (hP3.set0 p).set1 q
  have hC4 := hC3.only hset (by omega)
  have hR4 := hR3.only hset (by omega)
  have HRC := Lib.hid hrc
  have HON3 := Lib.hid hon3
  have HR3 := Lib.hid hr3
  have HSET := Lib.hid hset
  have HP4 := Lib.hid hP4
  have HC4 := Lib.hid hC4
  have HR4 := Lib.hid hR4
  clear hrc hon3 hr3 CP hC3 hR3 hP3 hset hP4 hC4 hR4
  go_wp2
  clear k0 k1 k2 k3 k4 f0 f1 f2 f3 f4 l0 l1 l2 l3 l4 g0 g1 g2 g3 g4 m0 m1 j0 j1
  generalize ((w3.setCell ⟨w2.heap.size + 1 + 1, 0, none⟩ (.int .i64 p)).setCell ⟨w2.heap.size + 1 + 1, 1, none⟩ (.int .i64 q)) = w4 at *
  obtain ⟨k0, k1, k2, k3, k4⟩ := HR4.out.cells
  obtain ⟨f0, f1, f2, f3, f4⟩ := HR4.out.free
  obtain ⟨l0, l1, l2, l3, l4⟩ := HC4.out.cells
  obtain ⟨g0, g1, g2, g3, g4⟩ := HC4.out.free
  obtain ⟨m0, m1⟩ := HP4.out.cells
  obtain ⟨j0, j1⟩ := HP4.out.free
  go_region
  all_goals go_wp2
  refine bodyPost_ret (v := .tuple #[.agg #[.int .i64 t, .string noText, .int .i64 0, .int .i64 p, .int .i64 q], .int .i64 e0]) (by simp [results, Tryz.results127, go_sem, noText, k0, k1, k2, k3, k4, l0, l1, l2, l3, l4]) rfl ?_
  refine ⟨⟨t, noText, 0, p, q⟩, k', e0, rfl, HONE.out _ _ _ HRC.out, ?_, fun he => ?_⟩
  · refine Only.drew ?_
    repeat (refine Only.setCell ?_ (fun hl => absurd hl (by (try simp) <;> omega)) _)
    exact (((HO.out.trans HTO.out.2 (fun _ h _ => h)).trans HOW.out (fun _ h => h.elim)).trans HON3.out (fun _ h _ => h)).trans HSET.out (fun i hi hl => by omega)
  · refine H0.out.high (HR3.out he) ?_
    refine Only.drew ?_
    repeat (refine Only.setCell ?_ (fun _ => by (try simp) <;> omega) _)
    exact HSET.out.mono (fun i hi _ => by omega)

/-- A constant, whatever stands there. -/
theorem progReadConst (rb : Nat) (sv : Value) (zs : List Int) (k : Nat) (w : World) (h : Rd w rb sv zs k) (hl : zs.length ≤ 140737488351232) :
    Calls Tryz.prog 127 #[.pointer (some ⟨rb, 0, none⟩)] w (ConstTo rb sv zs k w) := by
  by_cases hk : zs.length < k + 1
  · exact readConstShort rb sv zs k w h hk
  have hk' : k + 1 ≤ zs.length := by omega
  by_cases h1 : uAt zs k 1 = 1
  · exact readConstText rb sv zs k w h hk' _ rfl h1 hl
  by_cases h3 : uAt zs k 1 = 3
  · exact readConstInt rb sv zs k w h hk' _ rfl h3 (fun c k' e0 hn => by unfold RdC; rw [if_neg (by decide), if_pos rfl]; exact hn)
  by_cases h5 : uAt zs k 1 = 5
  · exact readConstLong rb sv zs k w h hk' _ rfl h5 (fun c k' e0 hn => by unfold RdC; rw [if_neg (by decide), if_neg (by decide), if_pos rfl]; exact hn)
  by_cases h7 : uAt zs k 1 = 7
  · exact readConstPlaces rb sv zs k w h hk' 7 h7 1 0 rfl (fun w' hw => placesOne rb sv zs (k + 1) w' false 0 1 (by decide) hw (fun p k' e0 hn => by unfold RdC; rw [if_neg (by decide), if_neg (by decide), if_neg (by decide), if_pos rfl]; exact hn))
  by_cases h9 : uAt zs k 1 = 9
  · exact readConstPlaces rb sv zs k w h hk' 9 h9 7 12 rfl (fun w' hw => placesTwo rb sv zs (k + 1) w' 9 false 0 7 12 (by decide) (by decide) hw (fun p q k' e0 hn => by unfold RdC; rw [if_neg (by decide), if_neg (by decide), if_neg (by decide), if_neg (by decide), if_pos (by decide)]; exact hn))
  by_cases h10 : uAt zs k 1 = 10
  · exact readConstPlaces rb sv zs k w h hk' 10 h10 7 12 rfl (fun w' hw => placesTwo rb sv zs (k + 1) w' 10 false 0 7 12 (by decide) (by decide) hw (fun p q k' e0 hn => by unfold RdC; rw [if_neg (by decide), if_neg (by decide), if_neg (by decide), if_neg (by decide), if_pos (by decide)]; exact hn))
  by_cases h12 : uAt zs k 1 = 12
  · exact readConstPlaces rb sv zs k w h hk' 12 h12 1 1 rfl (fun w' hw => placesTwo rb sv zs (k + 1) w' 12 false 0 1 1 (by decide) (by decide) hw (fun p q k' e0 hn => by unfold RdC; rw [if_neg (by decide), if_neg (by decide), if_neg (by decide), if_neg (by decide), if_pos (by decide)]; exact hn))
  · refine readConstNone rb sv zs k w h hk' _ rfl ?_ ?_
    · unfold shapeZ; rw [if_neg h1, if_neg h5, if_neg h3, if_neg h12, if_neg h7, if_neg (by omega)]
    · intro c k'; unfold RdC; rw [if_neg h1, if_neg h3, if_neg h5, if_neg h7, if_neg (by omega)]
end Go.Proofs.YtodhdiccfobcfaaGreatDoor
namespace Go.Proofs.YtodhdiccfobcfaaGreatDoor
open Go.RowKit
set_option linter.unusedVariables false
set_option linter.unusedSimpArgs false

theorem drop_take_take {zs : List Int} {M k n : Nat} (h : k + n ≤ M) : ((zs.take M).drop k).take n = (zs.drop k).take n := by
  rw [List.drop_take, List.take_take, Nat.min_eq_left (by omega)]
theorem uAt_take {zs : List Int} {M k n : Nat} (h : k + n ≤ M) : uAt (zs.take M) k n = uAt zs k n := by unfold uAt; rw [drop_take_take h]
theorem RdC.take {zs : List Int} {M k : Nat} {tag : Int} {c : ConstV} {k' : Nat} {e : Int} (hM : M ≤ zs.length) (hk : k + 258 ≤ M) (h : RdC (zs.take M) k tag c k' e) : RdC zs k tag c k' e := by
  have hl : (zs.take M).length = M := by rw [List.length_take, Nat.min_eq_left hM]
  unfold RdC at *
  by_cases h1 : tag = 1
  · rw [if_pos h1] at *
    unfold TextRd at h
    rw [hl, uAt_take (by omega)] at h
    rcases h with ⟨h, _⟩ | ⟨h, h2, h3⟩ | ⟨h, h2, h3, h4⟩ | ⟨h, h2, h3, ys, hd, h5, h6⟩
    · omega
    · exact .inr (.inl ⟨by omega, h2, h3⟩)
    · omega
    · rw [drop_take_take (by omega)] at hd
      exact .inr (.inr (.inr ⟨by omega, h2, by omega, ys, hd, h5, h6⟩))
  rw [if_neg h1] at *
  have num : ∀ n mk, n ≤ 8 → NumRd (zs.take M) k n mk c k' e → NumRd zs k n mk c k' e := fun n mk hn h => by
    unfold NumRd at h
    rw [hl, uAt_take (by omega)] at h
    rcases h with ⟨h, _⟩ | ⟨h, h2, h3, h4⟩
    · omega
    · exact .inr ⟨by omega, h2, h3, h4⟩
  by_cases h3 : tag = 3
  · rw [if_pos h3] at *; exact num _ _ (by decide) h
  rw [if_neg h3] at *
  by_cases h5 : tag = 5
  · rw [if_pos h5] at *; exact num _ _ (by decide) h
  rw [if_neg h5] at *
  by_cases h7 : tag = 7
  · rw [if_pos h7] at *; exact num _ _ (by decide) h
  rw [if_neg h7] at *
  by_cases h9 : tag = 9 ∨ tag = 10 ∨ tag = 12
  · rw [if_pos h9] at *
    unfold PairRd at h
    rw [hl, uAt_take (by omega), uAt_take (by omega)] at h
    rcases h with ⟨h, _⟩ | ⟨h, h2, h3, h4⟩
    · omega
    · exact .inr ⟨by omega, h2, h3, h4⟩
  rw [if_neg h9] at *
  exact h
theorem RdOne.take {zs : List Int} {M k : Nat} {c : ConstV} {k' : Nat} {e : Int} (hM : M ≤ zs.length) (hk : k + 259 ≤ M) (h : RdOne (zs.take M) k c k' e) : RdOne zs k c k' e := by
  have hl : (zs.take M).length = M := by rw [List.length_take, Nat.min_eq_left hM]
  unfold RdOne at h
  rw [hl, uAt_take (by omega)] at h
  rcases h with ⟨h, _⟩ | ⟨h, h2⟩
  · omega
  · exact .inr ⟨by omega, h2.take hM (by omega)⟩
theorem RdC.far {zs : List Int} {k : Nat} {tag : Int} {c : ConstV} {k' : Nat} (h : RdC zs k tag c k' 0) : k' ≤ k + 258 := by
  unfold RdC at h
  by_cases h1 : tag = 1
  · rw [if_pos h1] at h
    rcases h with ⟨h, h2⟩ | ⟨h, h2, h3⟩ | ⟨h, h2, h3, h4⟩ | ⟨h, h2, h3, ys, hd, h5, h6⟩
    · exact absurd h2 (by decide)
    · exact absurd h3 (by decide)
    · exact absurd h4 (by decide)
    · omega
  rw [if_neg h1] at h
  have num : ∀ n mk, n ≤ 8 → NumRd zs k n mk c k' 0 → k' ≤ k + 258 := fun n mk hn h => by
    rcases h with ⟨h, h2⟩ | ⟨h, h2, h3, h4⟩
    · exact absurd h2 (by decide)
    · omega
  by_cases h3 : tag = 3
  · rw [if_pos h3] at h; exact num _ _ (by decide) h
  rw [if_neg h3] at h
  by_cases h5 : tag = 5
  · rw [if_pos h5] at h; exact num _ _ (by decide) h
  rw [if_neg h5] at h
  by_cases h7 : tag = 7
  · rw [if_pos h7] at h; exact num _ _ (by decide) h
  rw [if_neg h7] at h
  by_cases h9 : tag = 9 ∨ tag = 10 ∨ tag = 12
  · rw [if_pos h9] at h
    rcases h with ⟨h, h2⟩ | ⟨h, h2, h3, h4⟩
    · exact absurd h2 (by decide)
    · omega
  rw [if_neg h9] at h
  exact absurd h (by decide)
theorem RdOne.far {zs : List Int} {k : Nat} {c : ConstV} {k' : Nat} (h : RdOne zs k c k' 0) : k' ≤ k + 259 := by
  rcases h with ⟨_, h2⟩ | ⟨_, h2⟩
  · exact absurd h2 (by decide)
  · have := h2.far; omega
theorem Reads.take {zs : List Int} {M : Nat} (hM : M ≤ zs.length) (hm : 264959 ≤ M) {ds : List ConstV} {k : Nat} (h : Reads (zs.take M) ds k) : ds.length ≤ 1024 → Reads zs ds k ∧ k ≤ 2 + 259 * (ds.length - 1) := by
  induction h with
  | start => intro _; exact ⟨.start, by simp⟩
  | @more cs k k' c h1 r1 ih =>
    intro hl
    simp only [List.length_append, List.length_cons, List.length_nil] at hl ⊢
    obtain ⟨h2, h3⟩ := ih (by omega)
    have h0 := h1.ne_nil
    have r2 := r1.take hM (by omega)
    have := r2.far
    exact ⟨.more h2 r2, by omega⟩
theorem ReadsTo.take {zs : List Int} {M : Nat} (hM : M ≤ zs.length) (hm : 264959 ≤ M) {N : Nat} (hN : N ≤ 1024) {r : (List ConstV × Nat) ⊕ Int} (h : ReadsTo (zs.take M) N r) : ReadsTo zs N r := by
  rcases h with ⟨ds, k, c, k', e, h1, h2, h3, h4, rfl⟩ | ⟨ds, k, h1, h2, rfl⟩
  · obtain ⟨r1, r2⟩ := h1.take hM hm (by omega)
    have h0 := h1.ne_nil
    exact .inl ⟨ds, k, c, k', e, r1, h2, h3.take hM (by omega), h4, rfl⟩
  · exact .inr ⟨ds, k, (h1.take hM hm (by omega)).1, h2, rfl⟩
/-- Decode looks no further. -/
theorem DecP.take {zs : List Int} {M : Nat} (hm : 264959 ≤ M) {cs : List ConstV} {n e : Int} (h : DecP (zs.take M) cs n e) : DecP zs cs n e := by
  by_cases hM : zs.length ≤ M
  · rwa [List.take_of_length_le hM] at h
  have hM' : M ≤ zs.length := by omega
  have hl : (zs.take M).length = M := by rw [List.length_take, Nat.min_eq_left hM']
  unfold DecP at h
  rw [hl, uAt_take (by omega)] at h
  rcases h with ⟨h1, _⟩ | ⟨h1, h2⟩ | ⟨h1, h2⟩ | ⟨h1, h2, h3, hr⟩
  · omega
  · exact .inr (.inl ⟨by omega, h2⟩)
  · exact .inr (.inr (.inl ⟨by omega, h2⟩))
  · refine .inr (.inr (.inr ⟨by omega, h2, h3, ?_⟩))
    rcases hr with ⟨e0, hr, h4⟩ | ⟨ds, k, hr, h4⟩
    · exact .inl ⟨e0, hr.take hM' hm (by omega), h4⟩
    · exact .inr ⟨ds, k, hr.take hM' hm (by omega), h4⟩


/-- A block of n constants, the first of them es, the others zero. -/
def PW (w : World) (pb n : Nat) (es : List ConstV) : Prop :=
  ∃ arr : Array Value, w.heap[pb]? = some (.cells arr 67 (0, 0)) ∧ arr.size = n * 5 ∧ ∀ j, j < n → ∀ d, d < 5 → arr[j * 5 + d]? = (cellsC (es.getD j zeroK))[d]?
theorem PW.only {S : Nat → Prop} {w w' : World} {pb n : Nat} {es : List ConstV} (h : PW w pb n es) (ho : Only S w w') (hs : ¬ S pb) : PW w' pb n es := by
  obtain ⟨arr, h1, h2, h3⟩ := h
  exact ⟨arr, ho.heap h1 hs, h2, h3⟩
theorem PW.lt {w : World} {pb n : Nat} {es : List ConstV} (h : PW w pb n es) : pb < w.heap.size := by
  obtain ⟨arr, h1, _⟩ := h
  exact heap_lt h1
theorem made_at {n j d : Nat} (hj : j < n) (hd : d < 5) : (madeCells #[.int .i64 0, .string ⟨#[]⟩, .int .i64 0, .int .i64 0, .int .i64 0] (n * 5))[j * 5 + d]? = (cellsC zeroK)[d]? := by
  have hlt : j * 5 + d < n * 5 := by omega
  unfold madeCells
  rw [Array.getElem?_map, Array.getElem?_eq_getElem (by simpa using hlt)]
  simp only [Array.getElem_range, Option.map_some, List.size_toArray, List.length_cons, List.length_nil, Nat.zero_add, Nat.reduceAdd]
  rw [show (j * 5 + d) % 5 = d by omega]
  match d, hd with
  | 0, _ => rfl
  | 1, _ => rfl
  | 2, _ => rfl
  | 3, _ => rfl
  | 4, _ => rfl
theorem PW.new (w : World) (n : Nat) : PW (w.alloc (.cells (madeCells #[.int .i64 0, .string ⟨#[]⟩, .int .i64 0, .int .i64 0, .int .i64 0] (n * 5)) 67)) w.heap.size n [zeroK] := by
  refine ⟨_, heap_alloc_new w _, size_madeCells _ _, fun j hj d hd => ?_⟩
  rw [made_at hj hd]
  cases j with
  | zero => rfl
  | succ j => simp [List.getD]
/-- The cells into which one constant is stored. -/
theorem PW.spot {w : World} {pb n : Nat} {es : List ConstV} (h : PW w pb n es) {i : Nat} (hi : i < n) (d : Nat) (hd : d < 5) : w.cell? ⟨pb, i * 5 + d, none⟩ = (cellsC (es.getD i zeroK))[d]? ∧ w.frozen? ⟨pb, i * 5 + d, none⟩ = false := by
  obtain ⟨arr, h1, h2, h3⟩ := h
  exact ⟨by rw [cell_blk h1]; exact h3 i hi d hd, frozen_blk h1 _⟩
theorem PW.store {w : World} {pb n : Nat} {es : List ConstV} (h : PW w pb n es) (hi : es.length < n) (c : ConstV) :
    PW (((((w.setCell ⟨pb, es.length * 5, none⟩ (.int .i64 c.tag)).setCell ⟨pb, es.length * 5 + 1, none⟩ (.string c.text)).setCell ⟨pb, es.length * 5 + 2, none⟩ (.int .i64 c.n)).setCell ⟨pb, es.length * 5 + 3, none⟩ (.int .i64 c.a)).setCell ⟨pb, es.length * 5 + 4, none⟩ (.int .i64 c.b)) pb n (es ++ [c]) := by
  obtain ⟨arr, h1, h2, h3⟩ := h
  refine ⟨_, heap_setCell_at (heap_setCell_at (heap_setCell_at (heap_setCell_at (heap_setCell_at h1)))), by simpa using h2, fun j hj d hd => ?_⟩
  simp only [Array.getElem?_setIfInBounds, Array.size_setIfInBounds, h2]
  by_cases e : j = es.length
  · subst e
    have hg : (es ++ [c]).getD es.length zeroK = c := by simp [List.getD]
    rw [hg]
    match d, hd with
    | 0, _ => simp [cellsC]; omega
    | 1, _ => simp [cellsC]; omega
    | 2, _ => simp [cellsC]; omega
    | 3, _ => simp [cellsC]; omega
    | 4, _ => simp [cellsC]; omega
  · have hg : (es ++ [c]).getD j zeroK = es.getD j zeroK := by
      by_cases hl : j < es.length
      · simp [List.getD, List.getElem?_append_left hl]
      · have h5 : ∀ l : List ConstV, l.length ≤ j → l.getD j zeroK = zeroK := fun l hl => by simp [List.getD, List.getElem?_eq_none hl]
        rw [h5 _ (by simp; omega), h5 _ (by omega)]
    rw [hg, if_neg (by omega), if_neg (by omega), if_neg (by omega), if_neg (by omega), if_neg (by omega)]
    exact h3 j hj d hd
theorem PW.pool {w : World} {pb n : Nat} {es : List ConstV} (h : PW w pb n es) (hn : es.length = n) (hl : n ≤ 1024) (hr : ∀ c ∈ es, ConstR c) : Pool w (.slice (some ⟨pb, 0, none⟩) n n) es := by
  subst hn
  obtain ⟨arr, h1, h2, h3⟩ := h
  refine ⟨_, es.length, rfl, Nat.le_refl _, by omega, (fun e => by cases e), hr, fun x hx _ => ?_⟩
  cases hx
  refine ⟨pb, 0, rfl, fun i hi => ?_⟩
  have hg : es.getD i zeroK = es.getD i default := by simp [List.getD, hi]
  have hc : ∀ d, d < 5 → w.cell? ⟨pb, 0 + i * 5 + d, none⟩ = (cellsC (es.getD i default))[d]? := fun d hd => by
    rw [Nat.zero_add, cell_blk h1, h3 i hi d hd, hg]
  exact ⟨hc 0 (by decide), hc 1 (by decide), hc 2 (by decide), hc 3 (by decide), hc 4 (by decide)⟩

/-- What reading a pool leaves. -/
def RPTo (rb : Nat) (sv : Value) (zs : List Int) (w : World) (e : Ending) (w' : World) : Prop :=
  ∃ v' ve e0, e = .returned (.tuple #[v', ve]) ∧ ErrOf e0 ve ∧ Only (fun j => j = rb) w w' ∧
    ((e0 ≠ 0 ∧ DecP zs [] 0 e0) ∨ (e0 = 0 ∧ ∃ (ds : List ConstV) (k : Nat), DecP zs ds (k : Int) 0 ∧ Rd w' rb sv zs k ∧ Pool w' v' ds ∧ ∀ c ∈ ds, Fits c))

set_option maxHeartbeats 8000000 in
set_option maxRecDepth 100000 in
theorem progReadPool (rb : Nat) (sv : Value) (zs : List Int) (w : World) (h : Rd w rb sv zs 0) (hl : zs.length ≤ 140737488351232) (hT : Tabs w) (h3 : 3 ≤ rb) :
    Calls Tryz.prog 110 #[.pointer (some ⟨rb, 0, none⟩)] w (RPTo rb sv zs w) := by
  have HL := Lib.hid hl
  have HT := Lib.hid hT
  have H0 := Lib.hid h
  have hrb := h.lt.1
  have hbz := h.bytish
  have HZ := Lib.hid hbz
  by_cases hk : zs.length < 2
  · have cC := cntShort rb sv zs 0 w h (by omega)
    have CC := Lib.hid cC
    have HD := Lib.hid (show DecP zs [] 0 3 from .inl ⟨hk, rfl, rfl, rfl⟩)
    clear cC h hl hT hbz hk
    go_enter Tryz.func110, Tryz.ntmps110
    go_wp2_with (fail)
    refine CC.out.mono ?_
    rintro e w1 ⟨rfl, hto⟩
    have HTO := Lib.hid hto
    clear hto CC
    go_wp2
    go_ret2
    exact ⟨_, _, 3, rfl, ErrOf.some (by decide), HTO.out.2, .inl ⟨by decide, HD.out⟩⟩
  have cC := cntOk rb sv zs 0 w h (by omega)
  obtain ⟨u0, u1⟩ := uAt_lt' hbz 0 2 (by omega)
  simp only [Int.reducePow] at u1
  obtain ⟨n, hn⟩ : ∃ n : Nat, uAt zs 0 2 = (n : Int) := ⟨(uAt zs 0 2).toNat, by omega⟩
  rw [hn] at cC u0 u1
  have HN := Lib.hid hn
  have CC := Lib.hid cC
  have HK := Lib.hid (show 2 ≤ zs.length by omega)
  clear cC h hl hT hbz hk hn u0
  by_cases hbig : 1024 < n
  · have HD := Lib.hid (show DecP zs [] 0 2 from .inr (.inl ⟨HK.out, by rw [HN.out]; omega, rfl, rfl, rfl⟩))
    have hb2 : (1024 : Int) < (n : Int) := by omega
    go_enter Tryz.func110, Tryz.ntmps110
    go_wp2_with (fail)
    refine CC.out.mono ?_
    rintro e w1 ⟨rfl, hto⟩
    have HTO := Lib.hid hto
    clear hto CC
    go_wp2_with (fail)
    refine (countLong _ _ hb2).mono ?_
    rintro e w' ⟨rfl, rfl⟩
    go_wp2
    go_ret2
    exact ⟨_, _, 2, rfl, ErrOf.some (by decide), HTO.out.2, .inl ⟨by decide, HD.out⟩⟩
  by_cases hzero : n = 0
  · subst hzero
    have HD := Lib.hid (show DecP zs [] 0 40 from .inr (.inr (.inl ⟨HK.out, by rw [HN.out]; rfl, rfl, rfl, rfl⟩)))
    go_enter Tryz.func110, Tryz.ntmps110
    go_wp2_with (fail)
    refine CC.out.mono ?_
    rintro e w1 ⟨rfl, hto⟩
    have HTO := Lib.hid hto
    clear hto CC
    go_wp2_with (fail)
    refine (countZero _).mono ?_
    rintro e w' ⟨rfl, rfl⟩
    go_wp2
    go_ret2
    exact ⟨_, _, 40, rfl, ErrOf.some (by decide), HTO.out.2, .inl ⟨by decide, HD.out⟩⟩
  have h1z : (1 : Int) ≤ (n : Int) := by omega
  have h2z : (n : Int) ≤ 1024 := by omega
  have hmk : ∀ w, (Instr.makeSlice 22 (.int .i64 (n : Int)) (.int .i64 (n : Int))).run Tryz.prog w = .ok (.slice (some ⟨w.heap.size, 0, none⟩) n n) (w.alloc (.cells (madeCells #[.int .i64 0, .string ⟨#[]⟩, .int .i64 0, .int .i64 0, .int .i64 0] (n * 5)) 67)) := fun w => by
    obtain ⟨i0, hi, hz0, hz1, hz2⟩ := info_parts info_const
    have := run_make (P := Tryz.prog) w 22 67 i0 _ Tryz.underlying22 hi hz0 .i64 .i64 (n : Int) (n : Int) (by omega) (Int.le_refl _) (by rw [hz2]; omega) (by omega)
    simp only [Int.toNat_natCast, hz1] at this
    exact this
  go_enter Tryz.func110, Tryz.ntmps110
  go_wp2_with (fail)
  refine CC.out.mono ?_
  rintro e w1 ⟨rfl, hto⟩
  rw [Nat.zero_add] at hto
  have hpw := PW.new w1 n
  have hrd1 := hto.1.only ((Only.refl (fun _ => False) w1).alloc (.cells (madeCells #[.int .i64 0, .string ⟨#[]⟩, .int .i64 0, .int .i64 0, .int .i64 0] (n * 5)) 67)) (fun h => h) (fun _ _ h => h)
  have hon1 := hto.2.alloc (.cells (madeCells #[.int .i64 0, .string ⟨#[]⟩, .int .i64 0, .int .i64 0, .int .i64 0] (n * 5)) 67)
  have hs1 := hto.2.size
  have HPW := Lib.hid hpw
  have HRD1 := Lib.hid hrd1
  have HON1 := Lib.hid hon1
  clear hto CC hpw hrd1 hon1
  go_wp2_with (fail)
  refine (countOk _ _ h2z h1z).mono ?_
  rintro e w' ⟨rfl, rfl⟩
  go_wp2
  generalize w1.alloc (.cells (madeCells #[.int .i64 0, .string ⟨#[]⟩, .int .i64 0, .int .i64 0, .int .i64 0] (n * 5)) 67) = wm at *
  clear hmk
  go_loopw [8] (fun i wr => ∃ (ds : List ConstV) (k : Nat), i = .int .i64 ds.length ∧ Reads zs ds k ∧ ds.length ≤ n ∧ PW wr w1.heap.size n ds ∧ Rd wr rb sv zs k ∧ Only (fun j => j = rb) w wr) (fun i _ => n - (intOf i).toNat)
  case atStart => exact ⟨[zeroK], 2, rfl, .start, by simp; omega, HPW.out, HRD1.out, HON1.out⟩
  case round =>
    obtain ⟨ds, k, rfl, hrd, hdl, hpw, hr, hon⟩ := hrel
    have HRDS := Lib.hid hrd
    have HON := Lib.hid hon
    have HPW2 := Lib.hid hpw
    have HR2 := Lib.hid hr
    clear hrd hon hpw hr
    by_cases hlt : ds.length < n
    · have hltz : (ds.length : Int) < (n : Int) := by omega
      have cK := progReadConst rb sv zs k wr HR2.out HL.out
      have CK := Lib.hid cK
      clear cK
      go_wp2_with (fail)
      refine CK.out.mono ?_
      rintro e w3 ⟨c, k', e0, rfl, hone, ho3, hr3⟩
      have hp3 := HPW2.out.only ho3 (by omega)
      obtain ⟨s0, f0⟩ := hp3.spot hlt 0 (by decide)
      obtain ⟨s1, f1⟩ := hp3.spot hlt 1 (by decide)
      obtain ⟨s2, f2⟩ := hp3.spot hlt 2 (by decide)
      obtain ⟨s3, f3⟩ := hp3.spot hlt 3 (by decide)
      obtain ⟨s4, f4⟩ := hp3.spot hlt 4 (by decide)
      simp only [cellsC, List.getElem?_cons_zero, List.getElem?_cons_succ, Nat.add_zero] at s0 s1 s2 s3 s4 f0
      have hp4 := hp3.store hlt c
      have HP4 := Lib.hid hp4
      have HONE := Lib.hid hone
      have HO3 := Lib.hid ho3
      have HR3 := Lib.hid hr3
      obtain ⟨ct, cx, cn, ca, cb⟩ := c
      clear hp3 hp4 hone ho3 hr3 CK
      simp only at HP4
      by_cases he0 : e0 = 0
      · subst he0
        go_wp2
        go_roundw
        case rel =>
          refine ⟨ds ++ [⟨ct, cx, cn, ca, cb⟩], k', by simp, .more HRDS.out HONE.out, by simp; omega, HP4.out, ?_, ?_⟩
          · refine H0.out.high (HR3.out (by trivial)) ?_
            repeat (refine Only.setCell ?_ (fun _ => by (try simp) <;> omega) _)
            exact Only.refl _ _
          · repeat (refine Only.setCell ?_ (fun hl => absurd hl (by (try simp) <;> omega)) _)
            exact HON.out.trans HO3.out (fun _ h _ => h)
        case measure => simp [intOf]; omega
      · have he1 : (e0 == 0) = false := by simpa using he0
        have he2 : (e0 != 0) = true := by simpa using he0
        have HD := Lib.hid (show DecP zs [] 0 e0 from .inr (.inr (.inr ⟨HK.out, by rw [HN.out]; omega, by rw [HN.out]; omega, .inl ⟨e0, .inl ⟨ds, k, _, k', e0, HRDS.out, by rw [HN.out]; omega, HONE.out, he0, rfl⟩, rfl, rfl, rfl⟩⟩)))
        go_wp2
        go_ret2
        refine ⟨_, _, e0, rfl, ErrOf.some he0, ?_, .inl ⟨he0, HD.out⟩⟩
        repeat (refine Only.setCell ?_ (fun hl => absurd hl (by (try simp) <;> omega)) _)
        exact HON.out.trans HO3.out (fun _ h _ => h)
    · have hdn : ds.length = n := by omega
      have hnz : (n : Int) ≤ (ds.length : Int) := by omega
      have hfit := (HRDS.out.fits HZ.out HK.out).1
      have hp := HPW2.out.pool hdn (by omega) (fun c hc => (hfit c hc).1)
      have hTr := HT.out.only HON.out (by omega) (by omega)
      have cP := progPool _ ds wr hp hTr
      have hto : ReadsTo zs (uAt zs 0 2).toNat (.inl (ds, k)) := .inr ⟨ds, k, HRDS.out, by rw [HN.out]; omega, rfl⟩
      have hdec : ∀ z, checkZ ds = z → (z ≠ 0 → DecP zs [] 0 z) ∧ (z = 0 → DecP zs ds k 0) := fun z hz => by
        refine ⟨fun h0 => .inr (.inr (.inr ⟨HK.out, by rw [HN.out]; omega, by rw [HN.out]; omega, .inr ⟨ds, k, hto, .inl ⟨by rw [hz]; exact h0, rfl, rfl, hz.symm⟩⟩⟩)), fun h0 => .inr (.inr (.inr ⟨HK.out, by rw [HN.out]; omega, by rw [HN.out]; omega, .inr ⟨ds, k, hto, .inr ⟨by rw [hz]; exact h0, rfl, rfl, rfl⟩⟩⟩))⟩
      have HDEC := Lib.hid hdec
      have HP := Lib.hid hp
      have HFIT := Lib.hid hfit
      obtain ⟨z, hz⟩ : ∃ z, checkZ ds = z := ⟨_, rfl⟩
      rw [hz] at cP
      have HZZ := Lib.hid hz
      have CP := Lib.hid cP
      clear hdec hp hfit hz cP hto hTr hdn
      go_wp2_with (fail)
      refine CP.out.mono ?_
      rintro e w3 ⟨ve, rfl, hve, ho3⟩
      have HVE := Lib.hid hve
      have HO3 := Lib.hid ho3
      clear hve ho3 CP
      go_wp2
      go_ret2
      obtain ⟨d1, d2⟩ := HDEC.out z HZZ.out
      refine ⟨_, ve, z, rfl, HVE.out, HON.out.trans HO3.out (fun _ h => h.elim), ?_⟩
      by_cases h0 : z = 0
      · exact .inr ⟨h0, ds, k, d2 h0, HR2.out.only HO3.out (fun h => h) (fun _ _ h => h), HP.out.only HO3.out (fun _ _ h => h), HFIT.out⟩
      · exact .inl ⟨h0, d1 h0⟩


/-- What the program's Decode leaves. -/
def DecTo (w : World) (zs : List Int) (e : Ending) (w' : World) : Prop :=
  ∃ v' cs n e0, e = .returned (.tuple #[v', .int .i64 n, .int .i64 e0]) ∧ DecP zs cs n e0 ∧ Only (fun _ => False) w w' ∧ Pool w' v' cs ∧ ∀ c ∈ cs, Fits c
theorem Pool.nil (w : World) : Pool w (.slice none 0 0) [] := ⟨Option.none, 0, rfl, Nat.le_refl _, by omega, fun _ => rfl, (fun c hc => by cases hc), fun x hx _ => by cases hx⟩

set_option maxHeartbeats 4000000 in
set_option maxRecDepth 100000 in
theorem progDecode (v : Value) (zs : List Int) (w : World) (hb : Bytes w v zs) (hl : zs.length ≤ 281474976710656) (hT : Tabs w) (hg : ErrV w) :
    Calls Tryz.prog 86 #[v] w (DecTo w zs) := by
  obtain ⟨ao, cap, rfl, hq1, hq2, hq3, hbz, hcells⟩ := id hb
  have h3w := hT.lt3
  have hM : (min (264959 : Int) (zs.length : Int)).toNat = (zs.take 264959).length := by rw [List.length_take]; omega
  have hml : (zs.take 264959).length ≤ zs.length := by rw [List.length_take]; omega
  have htk : zs.take (zs.take 264959).length = zs.take 264959 := by
    rw [List.length_take]
    by_cases h : zs.length ≤ 264959
    · rw [Nat.min_eq_right h, List.take_of_length_le (Nat.le_refl _), List.take_of_length_le h]
    · rw [Nat.min_eq_left (by omega)]
  have hb1 := Bytes.first hb _ hml
  rw [htk] at hb1
  have cN := newReader _ (zs.take 264959) w hb1 (by rw [List.length_take]; omega)
  have hDec : ∀ cs n e, DecP (zs.take 264959) cs n e → DecP zs cs n e := fun _ _ _ h => h.take (Nat.le_refl _)
  have hl2 : (zs.take 264959).length ≤ 140737488351232 := by rw [List.length_take]; omega
  obtain ⟨ys, hys⟩ : ∃ ys, zs.take 264959 = ys := ⟨_, rfl⟩
  rw [hys] at hM cN hl2
  simp only [hys] at hDec
  have CN := Lib.hid cN
  have HD := Lib.hid hDec
  have HT := Lib.hid hT
  have HG := Lib.hid hg
  have HM := Lib.hid hM
  have HL2 := Lib.hid hl2
  clear hb hcells hq3 hml htk hb1 cN hDec hys hT hg hbz hM hl2
  go_enter Tryz.func86, Tryz.ntmps86
  go_wp2_with (fail)
  rw [HM.out]
  refine CN.out.mono ?_
  rintro e w1 ⟨rb, sv, rfl, hrd, hbel, hge, hsv⟩
  have ho1 := Only.of_below hbel (fun _ => False)
  have cR := progReadPool rb sv ys w1 hrd HL2.out (HT.out.only ho1 (fun h => h) (fun h => h)) (by omega)
  have CR := Lib.hid cR
  have HO1 := Lib.hid ho1
  clear hrd hbel hsv ho1 cR CN
  go_wp2_with (fail)
  refine CR.out.mono ?_
  rintro e w2 ⟨v', ve, e0, rfl, hve, ho2, hres⟩
  have hon2 : Only (fun _ => False) w w2 := HO1.out.trans ho2 (fun k hk hl => by omega)
  have HON2 := Lib.hid hon2
  have HO2 := Lib.hid ho2
  clear CR ho2 hon2
  rcases hres with ⟨h0, hd⟩ | ⟨h0, ds, k, hd, hr2, hp2, hf2⟩
  · rcases hve with ⟨h1, _⟩ | ⟨_, p, rfl⟩
    · exact absurd h1 h0
    have cW := whichFault p e0 w2 (HG.out.only HON2.out (fun h => h))
    have CW := Lib.hid cW
    have HDD := Lib.hid (HD.out _ _ _ hd)
    clear cW hd h0
    go_wp2_with (fail)
    refine CW.out.mono ?_
    rintro e w3 ⟨rfl, ho3⟩
    have HO3 := Lib.hid ho3
    clear ho3 CW
    go_wp2
    go_ret3
    exact ⟨_, [], 0, e0, rfl, HDD.out, HON2.out.trans HO3.out (fun _ h => h.elim), Pool.nil _, fun c hc => by cases hc⟩
  · subst h0
    rcases hve with ⟨_, rfl⟩ | ⟨h1, _⟩
    · have cA := rdAtM rb sv ys k w2 hr2
      have CA := Lib.hid cA
      have HDD := Lib.hid (HD.out _ _ _ hd)
      have HP := Lib.hid hp2
      have HF := Lib.hid hf2
      obtain ⟨av, cv, rfl, _, _, _, _, _⟩ := id hp2
      clear cA hd hr2 hp2 hf2
      go_wp2_with (fail)
      refine CA.out.mono ?_
      rintro e w3 ⟨rfl, rfl⟩
      clear CA
      go_wp2
      go_ret3
      exact ⟨_, ds, k, 0, rfl, HDD.out, HON2.out, HP.out, HF.out⟩
    · exact absurd rfl h1
end Go.Proofs.YtodhdiccfobcfaaGreatDoor
