/- The program reads counts, texts and places of constants. No condition beyond a reader that was made. -/
import Derived.Test.YtpiandkiijienaaDoorWireF
import Derived.Test.YtpiandkiijienaaDoorPolG
import Derived.Test.YtpiandkiijienaaDoorPolV
import Derived.Test.YtpiandkiijienaaDoorTxtK
namespace Go.Proofs.YtpiandkiijienaaDoor
open Go.RowKit
set_option linter.unusedVariables false
set_option linter.unusedSimpArgs false

theorem Rd.bytish {w : World} {rb : Nat} {sv : Value} {zs : List Int} {k : Nat} (h : Rd w rb sv zs k) : Bytish zs := h.byt
theorem uAt_lt' {zs : List Int} (hz : Bytish zs) (k n : Nat) (h : k + n ≤ zs.length) : 0 ≤ uAt zs k n ∧ uAt zs k n < 256 ^ n := valB_lt n _ (by simp; omega) ((hz.drop k).take n)
section
variable (rb : Nat) (sv : Value) (zs : List Int) (k n : Nat) (w : World)
theorem pdU_ok (h : Rd w rb sv zs k) (hn1 : 1 ≤ n) (hn8 : n ≤ 8) (hroom : k + n ≤ zs.length) :
    Calls Tryd.prog 68 #[.pointer (some ⟨rb, 0, none⟩), .int .i64 n] w fun e w' => e = .returned (.tuple #[.int .u64 (uAt zs k n), .int .i64 0]) ∧ RdTo w rb sv zs (k + n) w' := by
  have he : rdErr0 n ((zs.length : Int) - k) = 0 := by unfold rdErr0; rw [if_neg (by omega), if_neg (by omega)]
  have := rdUint rb sv zs k n w h (by omega) (by omega)
  rw [he] at this
  simp only [rdU, rdK, if_true, Int.toNat_natCast] at this
  exact this
theorem pdU_short (h : Rd w rb sv zs k) (hn1 : 1 ≤ n) (hn8 : n ≤ 8) (hroom : zs.length < k + n) :
    Calls Tryd.prog 68 #[.pointer (some ⟨rb, 0, none⟩), .int .i64 n] w fun e w' => e = .returned (.tuple #[.int .u64 0, .int .i64 3]) ∧ RdTo w rb sv zs k w' := by
  have he : rdErr0 n ((zs.length : Int) - k) = 3 := by unfold rdErr0; rw [if_neg (by omega), if_pos (by omega)]
  have := rdUint rb sv zs k n w h (by omega) (by omega)
  rw [he] at this
  simp only [rdU, rdK, show ¬ ((3 : Int) = 0) by decide, if_false] at this
  exact this
theorem pdI_ok (h : Rd w rb sv zs k) (hn1 : 1 ≤ n) (hn8 : n ≤ 8) (hroom : k + n ≤ zs.length) :
    Calls Tryd.prog 70 #[.pointer (some ⟨rb, 0, none⟩), .int .i64 n] w fun e w' => e = .returned (.tuple #[.int .i64 (sgn n (uAt zs k n)), .int .i64 0]) ∧ RdTo w rb sv zs (k + n) w' := by
  have he : rdErr0 n ((zs.length : Int) - k) = 0 := by unfold rdErr0; rw [if_neg (by omega), if_neg (by omega)]
  have := rdInt rb sv zs k n w h (by omega) (by omega)
  rw [he] at this
  simp only [rdI, rdK, if_true, Int.toNat_natCast] at this
  exact this
theorem pdI_short (h : Rd w rb sv zs k) (hn1 : 1 ≤ n) (hn8 : n ≤ 8) (hroom : zs.length < k + n) :
    Calls Tryd.prog 70 #[.pointer (some ⟨rb, 0, none⟩), .int .i64 n] w fun e w' => e = .returned (.tuple #[.int .i64 0, .int .i64 3]) ∧ RdTo w rb sv zs k w' := by
  have he : rdErr0 n ((zs.length : Int) - k) = 3 := by unfold rdErr0; rw [if_neg (by omega), if_pos (by omega)]
  have := rdInt rb sv zs k n w h (by omega) (by omega)
  rw [he] at this
  simp only [rdI, rdK, show ¬ ((3 : Int) = 0) by decide, if_false] at this
  exact this
theorem pdB_ok (h : Rd w rb sv zs k) (hroom : k + n ≤ zs.length) (hn : n ≤ 65536) :
    Calls Tryd.prog 85 #[.pointer (some ⟨rb, 0, none⟩), .int .i64 n] w fun e w' => ∃ v', e = .returned (.tuple #[v', .int .i64 0]) ∧ RdTo w rb sv zs (k + n) w' ∧ Row w' w.heap.size v' ((zs.drop k).take n) := by
  have he : rdErr1 n ((zs.length : Int) - k) = 0 := by unfold rdErr1; rw [if_neg (by omega), if_neg (by omega)]
  have := rdBytes rb sv zs k n w h (by omega) (by omega)
  rw [he] at this
  simp only [rdPart, rdK, if_true, Int.toNat_natCast] at this
  exact this
theorem pdB_short (h : Rd w rb sv zs k) (hroom : zs.length < k + n) (hn : n ≤ 65536) :
    Calls Tryd.prog 85 #[.pointer (some ⟨rb, 0, none⟩), .int .i64 n] w fun e w' => ∃ v', e = .returned (.tuple #[v', .int .i64 3]) ∧ RdTo w rb sv zs k w' := by
  have he : rdErr1 n ((zs.length : Int) - k) = 3 := by unfold rdErr1; rw [if_neg (by omega), if_pos (by omega)]
  have := rdBytes rb sv zs k n w h (by omega) (by omega)
  rw [he] at this
  simp only [rdPart, rdK, show ¬ ((3 : Int) = 0) by decide, if_false] at this
  exact this.mono fun e w' ⟨v', h1, h2, _⟩ => ⟨v', h1, h2⟩
set_option maxHeartbeats 1000000 in
theorem cntOk (h : Rd w rb sv zs k) (hroom : k + 2 ≤ zs.length) :
    Calls Tryd.prog 49 #[.pointer (some ⟨rb, 0, none⟩)] w fun e w' => e = .returned (.tuple #[.int .i64 (uAt zs k 2), .int .i64 0]) ∧ RdTo w rb sv zs (k + 2) w' := by
  obtain ⟨u0, u1⟩ := uAt_lt' h.bytish k 2 hroom
  simp only [Int.reducePow] at u1
  have cU := pdU_ok rb sv zs k 2 w h (by decide) (by decide) hroom
  generalize uAt zs k 2 = u at *
  have CU := Lib.hid cU
  clear cU h
  go_enter Tryd.func49, Tryd.ntmps49
  go_wp2_with (fail)
  refine CU.out.mono ?_
  rintro e w1 ⟨rfl, hto⟩
  have HTO := Lib.hid hto
  clear CU hto
  go_wp2
  go_ret2
  exact ⟨rfl, HTO.out⟩
set_option maxHeartbeats 1000000 in
theorem cntShort (h : Rd w rb sv zs k) (hroom : zs.length < k + 2) :
    Calls Tryd.prog 49 #[.pointer (some ⟨rb, 0, none⟩)] w fun e w' => e = .returned (.tuple #[.int .i64 0, .int .i64 3]) ∧ RdTo w rb sv zs k w' := by
  have cU := pdU_short rb sv zs k 2 w h (by decide) (by decide) hroom
  have CU := Lib.hid cU
  clear cU h
  go_enter Tryd.func49, Tryd.ntmps49
  go_wp2_with (fail)
  refine CU.out.mono ?_
  rintro e w1 ⟨rfl, hto⟩
  have HTO := Lib.hid hto
  clear CU hto
  go_wp2
  go_ret2
  exact ⟨rfl, HTO.out⟩

/-- What reading a text leaves. -/
def TextTo (e : Ending) (w' : World) : Prop :=
  ∃ s k' e0, e = .returned (.tuple #[.string s, .int .i64 e0]) ∧ RdC zs k 1 ⟨1, s, 0, 0, 0⟩ k' e0 ∧ Only (fun j => j = rb) w w' ∧ (e0 = 0 → Rd w' rb sv zs k')
set_option maxHeartbeats 2000000 in
set_option maxRecDepth 100000 in
theorem progReadText (h : Rd w rb sv zs k) (hl : zs.length ≤ 140737488351232) :
    Calls Tryd.prog 69 #[.pointer (some ⟨rb, 0, none⟩)] w (TextTo rb sv zs k w) := by
  have rdc : ∀ c k' e0, TextRd zs k c k' e0 → RdC zs k 1 c k' e0 := fun c k' e0 h => by unfold RdC; rw [if_pos rfl]; exact h
  by_cases h2 : zs.length < k + 2
  · have cC := cntShort rb sv zs k w h h2
    have HR := Lib.hid (rdc ⟨1, noText, 0, 0, 0⟩ k 3 (.inl ⟨h2, rfl⟩))
    have CC := Lib.hid cC
    clear cC h rdc
    go_enter Tryd.func69, Tryd.ntmps69
    go_wp2_with (fail)
    refine CC.out.mono ?_
    rintro e w1 ⟨rfl, hto⟩
    have HTO := Lib.hid hto
    clear CC hto
    go_wp2
    go_ret2
    exact ⟨noText, k, 3, rfl, HR.out, HTO.out.2, fun h => absurd h (by decide)⟩
  obtain ⟨u0, u1⟩ := uAt_lt' h.bytish k 2 (by omega)
  simp only [Int.reducePow] at u1
  have cC := cntOk rb sv zs k w h (by omega)
  have hbz := h.bytish
  obtain ⟨u, hu⟩ : ∃ u : Nat, uAt zs k 2 = (u : Int) := ⟨(uAt zs k 2).toNat, by omega⟩
  rw [hu] at cC u0 u1
  have HU := Lib.hid hu
  have CC := Lib.hid cC
  have HZ := Lib.hid hbz
  clear cC h hu hbz
  by_cases hbig : 256 < u
  · have hbz : (256 : Int) < (u : Int) := by omega
    have HR := Lib.hid (rdc ⟨1, noText, 0, 0, 0⟩ k 20 (.inr (.inl ⟨by omega, by rw [HU.out]; exact hbz, rfl⟩)))
    clear rdc
    go_enter Tryd.func69, Tryd.ntmps69
    go_wp2_with (fail)
    refine CC.out.mono ?_
    rintro e w1 ⟨rfl, hto⟩
    have HTO := Lib.hid hto
    clear CC hto
    go_wp2
    go_ret2
    exact ⟨noText, k, 20, rfl, HR.out, HTO.out.2, fun h => absurd h (by decide)⟩
  have hsm : (u : Int) ≤ 256 := by omega
  by_cases hcut : zs.length < k + 2 + u
  · have HR := Lib.hid (rdc ⟨1, noText, 0, 0, 0⟩ k 3 (.inr (.inr (.inl ⟨by omega, by rw [HU.out]; exact hsm, by rw [HU.out, Int.toNat_natCast]; exact hcut, rfl⟩))))
    have HCUT := Lib.hid hcut
    have HL := Lib.hid hl
    have hd : decide ((256 : Int) < (u : Int)) = false := decide_eq_false (by omega)
    clear rdc hcut hbig hl h2 hsm u1 u0
    go_enter Tryd.func69, Tryd.ntmps69
    go_wp2_with (fail)
    refine CC.out.mono ?_
    rintro e w1 ⟨rfl, hto⟩
    have cB := pdB_short rb sv zs (k + 2) u w1 hto.1 HCUT.out (by simp at hd; omega)
    have CB := Lib.hid cB
    have HTO := Lib.hid hto
    clear CC hto cB
    go_wp2_with (fail)
    refine CB.out.mono ?_
    rintro e w2 ⟨v', rfl, hto2⟩
    have HTO2 := Lib.hid hto2
    clear CB hto2
    go_wp2
    go_ret2
    exact ⟨noText, k, 3, rfl, HR.out, HTO.out.2.trans HTO2.out.2 (fun _ h _ => h), fun h => absurd h (by decide)⟩
  · have HR := Lib.hid (fun ys e (hd : Dec ((zs.drop (k + 2)).take u) ys e) => rdc ⟨1, strOfNums ys, 0, 0, 0⟩ (k + 2 + u) e (.inr (.inr (.inr ⟨by omega, by rw [HU.out]; exact hsm, by rw [HU.out, Int.toNat_natCast]; omega, ys, by rw [HU.out, Int.toNat_natCast]; exact hd, rfl, by rw [HU.out, Int.toNat_natCast]⟩))))
    have HCUT := Lib.hid hcut
    have HL := Lib.hid hl
    have hd : decide ((256 : Int) < (u : Int)) = false := decide_eq_false (by omega)
    clear rdc hcut hbig hl h2 hsm u1 u0
    go_enter Tryd.func69, Tryd.ntmps69
    go_wp2_with (fail)
    refine CC.out.mono ?_
    rintro e w1 ⟨rfl, hto⟩
    have cB := pdB_ok rb sv zs (k + 2) u w1 hto.1 (by have := HCUT.out; omega) (by simp at hd; omega)
    have CB := Lib.hid cB
    have HTO := Lib.hid hto
    clear CC hto cB
    go_wp2_with (fail)
    refine CB.out.mono ?_
    rintro e w2 ⟨v', rfl, hto2, hrow⟩
    have hbyt := (HZ.out.drop (k + 2)).take u
    have hxl : ((zs.drop (k + 2)).take u).length ≤ 140737488351232 := by have := HL.out; simp; omega
    obtain ⟨xs, hxs⟩ : ∃ xs, (zs.drop (k + 2)).take u = xs := ⟨_, rfl⟩
    rw [hxs] at hrow hbyt hxl
    have cD := decode v' xs w2 (hrow.bytes hbyt) hxl
    have HXS := Lib.hid hxs
    clear hxs hbyt hxl
    obtain ⟨av, cv, rfl, _, _⟩ := slice_of_owns hrow
    have CD := Lib.hid cD
    have HTO2 := Lib.hid hto2
    clear CB hto2 cD hrow
    go_wp2_with (fail)
    refine CD.out.mono ?_
    rintro e w3 ⟨ys, e0, rfl, hdec, ho3⟩
    have HD := Lib.hid hdec
    have HO3 := Lib.hid ho3
    clear CD hdec ho3
    go_wp2
    go_ret2
    exact ⟨strOfNums ys, k + 2 + u, e0, rfl, HR.out _ _ (by rw [HXS.out]; exact HD.out), (HTO.out.2.trans HTO2.out.2 (fun _ h _ => h)).trans HO3.out (fun _ h => h.elim), fun _ => HTO2.out.1.only HO3.out (fun h => h) (fun _ _ h => h)⟩
end
end Go.Proofs.YtpiandkiijienaaDoor
