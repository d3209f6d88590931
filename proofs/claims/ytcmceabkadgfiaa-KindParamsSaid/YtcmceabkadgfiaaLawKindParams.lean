/- PROVED: the law KindParams: a method's descriptor made of right fields' descriptors takes their types in order; the arguments read as before. For every input. No condition. -/
import Derived.Test.YtcmceabkadgfiaaKndV
import Derived.Test.YtcmceabkadgfiaaKndJ
import Derived.Test.YtcmceabkadgfiaaKndS
import Derived.Test.YtcmceabkadgfiaaKndX
import Derived.Test.YtcmceabkadgfiaaKndN
import Derived.Test.YtcmceabkadgfiaaKndK
import Derived.Test.YtcmceabkadgfiaaKndY
import Derived.ProofKit
import Derived.ShutString
import Derived.ChangeOld
import Derived.Below
import Derived.SizedLaws
import Derived.PinnedBridge
import Derived.Deep.CondSized
import Derived.Deep.RegionHeld3
namespace Go.Proofs.Ytcmceabkadgfiaa.kindParams
open Go.ChangeShapes Go.WideShapes Go.ChangeAt Go.RowKit
set_option linter.unusedVariables false
set_option linter.unusedSimpArgs false

theorem one_size {s : ByteArray} {t : TypeV} (h : oneZ8 (nums s) = some t) : s.size ≤ 262 := by
  have h1 := one_text h
  unfold oneZ8 at h
  cases hf : fieldZ (nums s) with
  | none => rw [hf] at h; cases h
  | some q =>
    obtain ⟨u, r⟩ := q
    rw [hf] at h
    cases r with
    | cons c r => cases h
    | nil =>
      cases h
      obtain ⟨_, d, k, nm, hd, hk, rfl⟩ := field_text (nums_byte s) hf
      rw [← h1, hk.arr hd, preB_size]
      have h2 := base_size ⟨k, nm, 0, 0, 0⟩
      simp only at h2
      have h3 : nm.size ≤ 256 := by
        rcases hk with ⟨_, rfl⟩ | ⟨_, rfl⟩ | ⟨_, hp⟩
        · exact Nat.zero_le _
        · exact Nat.zero_le _
        · unfold plainN at hp
          simp only [Bool.and_eq_true, decide_eq_true_eq, nums_len] at hp
          omega
      omega
theorem flatP_snoc (P : List (ByteArray × TypeV)) (x : ByteArray) (t : TypeV) : flatP (P ++ [(x, t)]) = flatP P ++ nums x := by rw [flatP_append]; simp [flatP]
theorem typesP_snoc (P : List (ByteArray × TypeV)) (x : ByteArray) (t : TypeV) : typesP (P ++ [(x, t)]) = typesP P ++ [t] := by simp [typesP]
theorem rightK_snoc {P : List (ByteArray × TypeV)} {x : ByteArray} {t : TypeV} (h : RightK P) (hx : oneZ8 (nums x) = some t) : RightK (P ++ [(x, t)]) := by
  intro p hp
  rcases List.mem_append.1 hp with hp | hp
  · exact h p hp
  · simp at hp
    subst hp
    exact hx
theorem typesP_len (P : List (ByteArray × TypeV)) : (typesP P).length = P.length := by simp [typesP]
theorem paramsZ_many {P : List (ByteArray × TypeV)} (h : ¬ P.length ≤ 16) (r : List Int) : paramsZ P r = ([], zeroT, 80) := by unfold paramsZ; rw [if_neg h]
theorem lit_brV : (⟨#[41, 86]⟩ : ByteArray).toList = [41, 86] := by rw [ByteArray.toList_eq]
theorem head1 (s r : ByteArray) (q : List Int) (h : nums s = 40 :: q) : nums (s ++ ⟨#[41]⟩ ++ r) = 40 :: (q ++ 41 :: nums r) := by
  rw [nums_cat, nums_cat, h]
  simp [show nums ⟨#[41]⟩ = [41] from rfl]
theorem head2 (s : ByteArray) (q : List Int) (h : nums s = 40 :: q) : nums (s ++ ⟨#[41, 86]⟩) = 40 :: (q ++ 41 :: [86]) := by
  rw [nums_cat, h]
  simp [show nums ⟨#[41, 86]⟩ = [41, 86] from rfl]
theorem neq_self8 (t : TypeV) (w : World) : (binOp .neq 23 (valT t) (valT t)).run Try.prog w = .ok (.bool false) w := by rw [neq_any, eqT_self]; rfl
theorem cell_str {w : World} {v : Value} {l : List ByteArray} {ao : Option Addr} {cap : Nat} (h : TextsB w (.slice ao l.length cap) l) {j : Nat} (hj : j < l.length) : ∃ b o, ao = some ⟨b, o, none⟩ ∧ w.cell? ⟨b, o + j, none⟩ = some (.string (l.getD j ⟨#[]⟩)) := by
  obtain ⟨b, o, e, c⟩ := Sl.at h hj
  exact ⟨b, o, e, c⟩
theorem textsB_only {w w' : World} {v : Value} {l : List ByteArray} (h : TextsB w v l) (ho : Only (fun _ => False) w w') : TextsB w' v l := h.imp (fun _ _ _ _ _ h => ho.cell h (fun h => h))
set_option maxHeartbeats 16000000 in
set_option maxRecDepth 100000 in
theorem walk (v : Value) (ret : ByteArray) (w : World) (hp : ∃ l, TextsB w v l ∧ ∀ s ∈ l, s.size ≤ 140737488351232) (hr : ret.size ≤ 140737488351232) :
    Calls Try.prog 10 #[v, .string ret] w fun e w' => e = .returned (.bool true) ∧ Below w.heap.size w w' := by
  obtain ⟨l, hp, hl⟩ := hp
  obtain ⟨i0, hi, hz0, hz1, hz2⟩ := info_parts info_type
  obtain ⟨ao, cap, rfl, p1, p2, p3, -⟩ := id hp
  have HP := Lib.hid hp
  have HL := Lib.hid hl
  have CA := Lib.hid awake8
  have g1 := guard_type
  clear hp hl p3
  go_enter Try.func10, Try.ntmps10
  go_wp2
  go_loopw [5, 6, 7] (fun sv wv iv wr => ∃ (P : List (ByteArray × TypeV)) (s : ByteArray) (j : Nat), sv = .string s ∧ iv = .int .i64 j ∧ j ≤ 40 ∧ j ≤ l.length ∧ s.size ≤ 1 + 262 * j ∧ Hid (P.length = j) ∧ Hid (RightK P) ∧ Hid (nums s = 40 :: flatP P) ∧ Hid (TRow wr w.heap.size wv (typesP P)) ∧ Hid (Only (fun _ => False) w wr)) (fun _ _ iv _ => 40 - (intOf iv).toNat)
  case atStart => exact ⟨[], ⟨#[40]⟩, 0, rfl, rfl, by omega, by omega, by decide, Lib.hid rfl, Lib.hid (fun p hp => by cases hp), Lib.hid rfl, Lib.hid (TRow.nil _ _), Lib.hid (Only.refl _ _)⟩
  case round =>
    obtain ⟨P, s, j, rfl, rfl, hj40, hjl, hss, HPL, HRK, HNS, HROW, HON⟩ := hrel
    obtain ⟨ts, hts⟩ : ∃ ts, typesP P = ts := ⟨_, rfl⟩
    have HTS := Lib.hid hts
    have HROW := Lib.hid (by have := HROW.out; rw [hts] at this; exact this)
    have htl : ts.length ≤ j ∧ j ≤ ts.length := by rw [← hts, typesP_len, HPL.out]; omega
    obtain ⟨htl1, htl2⟩ := htl
    obtain ⟨al, cl, rfl, l1, l2, l3, -⟩ := id HROW.out.types
    have HTY := Lib.hid HROW.out.types
    clear hts l3
    by_cases hc : j < l.length ∧ j < 40
    · obtain ⟨hjl2, hj402⟩ := hc
      have hjz : (j : Int) < (l.length : Int) := by omega
      have hjz4 : (j : Int) < 40 := by omega
      have hj0 : (0 : Int) ≤ (j : Int) := by omega
      obtain ⟨b, o, rfl, y0⟩ := cell_str (v := .slice ao l.length cap) (textsB_only HP.out HON.out) hjl2
      have hxs : (l.getD j ⟨#[]⟩).size ≤ 140737488351232 := by
        have hm : l.getD j ⟨#[]⟩ ∈ l := by simp [List.getD, hjl2]
        exact HL.out _ hm
      have HBLT : Hid (b < w.heap.size) := Lib.hid (by
        obtain ⟨b', o', e, y⟩ := cell_str (v := .slice (some ⟨b, o, none⟩) l.length cap) HP.out hjl2
        injection e with e
        injection e with e1 _ _
        subst e1
        exact World.block_lt_of_cell? w _ y)
      generalize l.getD j ⟨#[]⟩ = x at *
      have cf := fun w => progField x w (by omega)
      unfold OneTo at cf
      cases ho : oneZ8 (nums x) with
      | none =>
        rw [ho] at cf
        unfold typO errO zeroT valT at cf
        simp only at cf
        have CF := Lib.hid cf
        clear cf ho
        go_wp2_with (fail)
        refine (CF.out _).mono ?_
        rintro e w2 ⟨rfl, ho2⟩
        have HO2 := Lib.hid ((HON.out.trans ho2 (fun _ h _ => h)).alloc (.cells #[.int .i64 0, .string ⟨#[]⟩, .int .i64 0, .int .i64 0, .int .i64 0] 23))
        clear ho2 CF
        go_wp2_with (fail)
        refine (CA.out _).mono ?_
        rintro e w3 ⟨rfl, ho3⟩
        have HO3 := Lib.hid (HO2.out.trans ho3 (fun _ h _ => h))
        clear ho3
        go_wp2
        go_ret
        exact ⟨rfl, HO3.out.none⟩
      | some u =>
        have hx262 := one_size ho
        have HRK2 := Lib.hid (rightK_snoc HRK.out ho)
        have HNS2 : Hid (nums (s ++ x) = 40 :: flatP (P ++ [(x, u)])) := Lib.hid (by rw [nums_cat, HNS.out, flatP_snoc]; rfl)
        have hsz2 : (s ++ x).size ≤ 1 + 262 * (j + 1) := by rw [ByteArray.size_append]; omega
        have HSZ2 := Lib.hid hsz2
        have HTS2 : Hid (typesP (P ++ [(x, u)]) = ts ++ [u]) := Lib.hid (by rw [typesP_snoc, HTS.out])
        have HPL2 : Hid ((P ++ [(x, u)]).length = j + 1) := Lib.hid (by rw [List.length_append, HPL.out]; rfl)
        rw [ho] at cf
        unfold typO errO valT at cf
        simp only at cf
        have CF := Lib.hid cf
        clear cf ho hsz2
        go_wp2_with (fail)
        refine (CF.out _).mono ?_
        rintro e w3 ⟨rfl, ho3⟩
        have hal := (Only.refl (fun _ => False) w3).alloc (.cells #[.int .i64 u.k, .string u.name, .int .i64 u.dims, .int .i64 u.elem, .int .i64 u.at_] 23)
        have hal2 := hal.alloc (.cells #[.int .i64 u.k, .string u.name, .int .i64 u.dims, .int .i64 u.elem, .int .i64 u.at_] 23)
        have y0' := hal2.cell (ho3.cell y0 (fun h => h)) (fun h => h)
        have HY := Lib.hid y0'
        have HON4 := Lib.hid ((HON.out.trans ho3 (fun _ h _ => h)).trans hal2 (fun _ h _ => h))
        have HROW5 := Lib.hid ((HROW.out.only ho3 (fun _ _ h => h)).only hal2 (fun _ _ h => h))
        have HSRC := Lib.hid (Src.type (w := w3.alloc (.cells #[.int .i64 u.k, .string u.name, .int .i64 u.dims, .int .i64 u.elem, .int .i64 u.at_] 23)) (m := w3.heap.size + 1) u (by simp))
        have HGE := Lib.hid ((HROW.out.only ho3 (fun _ _ h => h)).ge)
        have HBASE := Lib.hid (show w.heap.size ≤ ((w3.alloc (.cells #[.int .i64 u.k, .string u.name, .int .i64 u.dims, .int .i64 u.elem, .int .i64 u.at_] 23)).alloc (.cells #[.int .i64 u.k, .string u.name, .int .i64 u.dims, .int .i64 u.elem, .int .i64 u.at_] 23)).heap.size by have := HON.out.size; have := ho3.size; simp; omega)
        clear ho3 hal hal2 CF y0 y0'
        go_wp2_with (at_builtin; go_loud (refine wpList_append_src rfl (.tmp 39) (.tmp 41) 31 rfl 23 i0 (.agg #[.int .i64 0, .string ⟨#[]⟩, .int .i64 0, .int .i64 0, .int .i64 0]) 5 48 Try.underlying31 hi hz0 hz1 hz2 rfl (by decide) w.heap.size (.slice al ts.length cl) ts.length (ts.flatMap cellsTy) rfl (by exact HROW5.out) (by exact HBASE.out) (.slice (some ⟨w3.heap.size + 1, 0, none⟩) 1 1) 1 (cellsTy u) rfl (by exact HSRC.out) (by unfold maxLen; omega) (by omega) ?_); intro v' w5 hown hgrow hnew; have hos := only_grownT hgrow; have hrow6 := TRow.more hown; have hon6 := HON4.out.trans hos (fun j hj hl => by have := (HGE.out _ hj).1; omega); have yy := hos.cell HY.out (fun h => by have h1 := (HGE.out _ h).1; have h2 := HBLT.out; (have h3 : w.heap.size ≤ b := h1); omega); clear hown hgrow hnew hos; have HROW6 := Lib.hid hrow6; have HON6 := Lib.hid hon6; clear hrow6 hon6)
        go_roundw
        case rel => exact ⟨P ++ [(x, u)], s ++ x, j + 1, rfl, by go_num, by omega, by omega, HSZ2.out, HPL2, HRK2, HNS2, Lib.hid (by rw [HTS2.out]; exact HROW6.out), HON6⟩
        case measure => simp [intOf]; omega
    · have hcc : (¬ (j : Int) < (l.length : Int)) ∨ ((j : Int) < (l.length : Int) ∧ ¬ (j : Int) < 40) := by omega
      have hsz40 : s.size ≤ 10481 := by omega
      obtain ⟨x1, hx1⟩ : ∃ x1, x1 = s ++ ⟨#[41]⟩ ++ ret := ⟨_, rfl⟩
      obtain ⟨x2, hx2⟩ : ∃ x2, x2 = s ++ ⟨#[41, 86]⟩ := ⟨_, rfl⟩
      have h41 : (⟨#[41]⟩ : ByteArray).size = 1 := rfl
      have h4186 : (⟨#[41, 86]⟩ : ByteArray).size = 2 := rfl
      have hx1s : x1.size ≤ 281474976710656 := by rw [hx1, ByteArray.size_append, ByteArray.size_append]; omega
      have hx2s : x2.size ≤ 281474976710656 := by rw [hx2, ByteArray.size_append]; omega
      have hM1 : Meth (nums x1) (paramsZ P (nums ret)) := by rw [hx1, head1 _ _ _ HNS.out]; exact meth_params HRK.out _
      have hM2 : Meth (nums x2) (paramsZ P [86]) := by rw [hx2, head2 _ _ HNS.out]; exact meth_params HRK.out _
      have hsum1 : s.size + 1 ≤ 140737488355328 := by omega
      have hsum2 : s.size + 1 + ret.size ≤ 281474976710656 := by omega
      have hsum3 : s.size + 2 ≤ 140737488355328 := by omega
      have cf := fun w => progField ret w (by omega)
      have cm1 := fun w => progMethod x1 w hx1s
      have cm2 := fun w => progMethod x2 w hx2s
      unfold OneTo at cf
      have CM1 := Lib.hid cm1
      have CM2 := Lib.hid cm2
      have HM1 := Lib.hid hM1
      have HM2 := Lib.hid hM2
      clear cm1 cm2 hM1 hM2 hx1s hx2s hc
      rcases hcc with hj1 | ⟨hj1, hj2⟩
      · by_cases hmany : ¬ P.length ≤ 16
        · have hm1 := paramsZ_many hmany (nums ret)
          have hm2 := paramsZ_many hmany [86]
          rw [hm1] at HM1
          rw [hm2] at HM2
          have h16 : (16 : Int) < (ts.length : Int) := by have := HPL.out; omega
          generalize typO (oneZ8 (nums ret)) = rt at *
          generalize errO (oneZ8 (nums ret)) = re at *
          unfold valT at cf
          have CF := Lib.hid cf
          clear cf hm1 hm2
          go_wp2_with (fail)
          refine (CF.out _).mono ?_
          rintro e w2 ⟨rfl, ho2⟩
          have hal2 := (Only.refl (fun _ => False) w2).alloc (.cells #[.int .i64 rt.k, .string rt.name, .int .i64 rt.dims, .int .i64 rt.elem, .int .i64 rt.at_] 23)
          have hb2 := heap_alloc_new w2 (.cells #[.int .i64 rt.k, .string rt.name, .int .i64 rt.dims, .int .i64 rt.elem, .int .i64 rt.at_] 23)
          have HO2 := Lib.hid ((HON.out.trans ho2 (fun _ h _ => h)).trans hal2 (fun _ h _ => h))
          have HT2 := Lib.hid ((HTY.out.only ho2).only hal2)
          have HB2 := Lib.hid hb2
          clear ho2 hal2 hb2 CF
          go_wp2_with (fail)
          rw [← hx1]
          refine (CM1.out _).mono ?_
          rintro e w3 ⟨v3, y3, rfl, hm3, ho3, ht3⟩
          obtain rfl : y3 = ([], zeroT, 80) := hm3.unique HM1.out
          simp only at ht3
          obtain ⟨a3, k3, rfl, -, -, -, -⟩ := id ht3
          have hal3 := (Only.refl (fun _ => False) w3).alloc (.cells #[.int .i64 0, .string ⟨#[]⟩, .int .i64 0, .int .i64 0, .int .i64 0] 23)
          have hb3 := heap_alloc_new w3 (.cells #[.int .i64 0, .string ⟨#[]⟩, .int .i64 0, .int .i64 0, .int .i64 0] 23)
          have HO3 := Lib.hid ((HO2.out.trans ho3 (fun _ h _ => h)).trans hal3 (fun _ h _ => h))
          have HT3 := Lib.hid ((HT2.out.only ho3).only hal3)
          have HR3 := Lib.hid (ht3.only hal3)
          have HB23 := Lib.hid (hal3.heap (ho3.heap HB2.out (fun h => h)) (fun h => h))
          have HB3 := Lib.hid hb3
          unfold valT
          unfold zeroT
          simp only
          clear ho3 hal3 hb3 CM1 hm3 ht3
          go_wp2_with (fail)
          rw [← hx2]
          refine (CM2.out _).mono ?_
          rintro e w4 ⟨v4, y4, rfl, hm4, ho4, ht4⟩
          obtain rfl : y4 = ([], zeroT, 80) := hm4.unique HM2.out
          simp only at ht4
          obtain ⟨a4, k4, rfl, -, -, -, -⟩ := id ht4
          have hal4 := (Only.refl (fun _ => False) w4).alloc (.cells #[.int .i64 0, .string ⟨#[]⟩, .int .i64 0, .int .i64 0, .int .i64 0] 23)
          have hb4 := heap_alloc_new w4 (.cells #[.int .i64 0, .string ⟨#[]⟩, .int .i64 0, .int .i64 0, .int .i64 0] 23)
          have HO4 := Lib.hid ((HO3.out.trans ho4 (fun _ h _ => h)).trans hal4 (fun _ h _ => h))
          have HT4 := Lib.hid ((HT3.out.only ho4).only hal4)
          have HR34 := Lib.hid ((HR3.out.only ho4).only hal4)
          have HR4 := Lib.hid (ht4.only hal4)
          have HB24 := Lib.hid (hal4.heap (ho4.heap HB23.out (fun h => h)) (fun h => h))
          have HB34 := Lib.hid (hal4.heap (ho4.heap HB3.out (fun h => h)) (fun h => h))
          have HB4 := Lib.hid hb4
          unfold valT
          unfold zeroT
          simp only
          clear ho4 hal4 hb4 CM2 hm4 ht4
          go_wp2
          go_ret
          exact ⟨rfl, HO4.out.none⟩
        · have hfew : P.length ≤ 16 := Classical.not_not.1 hmany
          have h16 : (ts.length : Int) ≤ 16 := by have := HPL.out; omega
          have hm2 := paramsZ_void P hfew
          rw [HTS.out] at hm2
          rw [hm2] at HM2
          clear hm2 hmany
          by_cases hv : nums ret = [86]
          · obtain rfl : ret = ⟨#[86]⟩ := nums_inj (hv.trans nums_V.symm)
            have hm1 := paramsZ_void P hfew
            rw [HTS.out] at hm1
            rw [hv, hm1] at HM1
            rw [hv] at cf
            have hlv := lit_V
            have cf' : ∀ w, Calls Try.prog 11 #[.string ⟨#[86]⟩] w fun e w' => e = .returned (.tuple #[.agg #[.int .i64 0, .string ⟨#[]⟩, .int .i64 0, .int .i64 0, .int .i64 0], .int .i64 80]) ∧ Only (fun _ => False) w w' := cf
            have CF := Lib.hid cf'
            clear cf cf' hm1 hv hfew
            go_wp2_with (fail)
            refine (CF.out _).mono ?_
            rintro e w2 ⟨rfl, ho2⟩
            have hal2 := (Only.refl (fun _ => False) w2).alloc (.cells #[.int .i64 0, .string ⟨#[]⟩, .int .i64 0, .int .i64 0, .int .i64 0] 23)
            have hb2 := heap_alloc_new w2 (.cells #[.int .i64 0, .string ⟨#[]⟩, .int .i64 0, .int .i64 0, .int .i64 0] 23)
            have HO2 := Lib.hid ((HON.out.trans ho2 (fun _ h _ => h)).trans hal2 (fun _ h _ => h))
            have HT2 := Lib.hid ((HTY.out.only ho2).only hal2)
            have HB2 := Lib.hid hb2
            clear ho2 hal2 hb2 CF
            go_wp2_with (fail)
            rw [← hx1]
            refine (CM1.out _).mono ?_
            rintro e w3 ⟨v3, y3, rfl, hm3, ho3, ht3⟩
            obtain rfl : y3 = (ts, voidT, 0) := hm3.unique HM1.out
            simp only at ht3
            obtain ⟨a3, k3, rfl, -, -, -, -⟩ := id ht3
            have hal3 := (Only.refl (fun _ => False) w3).alloc (.cells #[.int .i64 8, .string ⟨#[]⟩, .int .i64 0, .int .i64 0, .int .i64 0] 23)
            have hb3 := heap_alloc_new w3 (.cells #[.int .i64 8, .string ⟨#[]⟩, .int .i64 0, .int .i64 0, .int .i64 0] 23)
            have HO3 := Lib.hid ((HO2.out.trans ho3 (fun _ h _ => h)).trans hal3 (fun _ h _ => h))
            have HT3 := Lib.hid ((HT2.out.only ho3).only hal3)
            have HR3 := Lib.hid (ht3.only hal3)
            have HB23 := Lib.hid (hal3.heap (ho3.heap HB2.out (fun h => h)) (fun h => h))
            have HB3 := Lib.hid hb3
            unfold valT
            unfold voidT
            simp only
            clear ho3 hal3 hb3 CM1 hm3 ht3
            go_wp2_with (fail)
            rw [← hx2]
            refine (CM2.out _).mono ?_
            rintro e w4 ⟨v4, y4, rfl, hm4, ho4, ht4⟩
            obtain rfl : y4 = (ts, voidT, 0) := hm4.unique HM2.out
            simp only at ht4
            obtain ⟨a4, k4, rfl, -, -, -, -⟩ := id ht4
            have hal4 := (Only.refl (fun _ => False) w4).alloc (.cells #[.int .i64 8, .string ⟨#[]⟩, .int .i64 0, .int .i64 0, .int .i64 0] 23)
            have hb4 := heap_alloc_new w4 (.cells #[.int .i64 8, .string ⟨#[]⟩, .int .i64 0, .int .i64 0, .int .i64 0] 23)
            have HO4 := Lib.hid ((HO3.out.trans ho4 (fun _ h _ => h)).trans hal4 (fun _ h _ => h))
            have HT4 := Lib.hid ((HT3.out.only ho4).only hal4)
            have HR34 := Lib.hid ((HR3.out.only ho4).only hal4)
            have HR4 := Lib.hid (ht4.only hal4)
            have HB24 := Lib.hid (hal4.heap (ho4.heap HB23.out (fun h => h)) (fun h => h))
            have HB34 := Lib.hid (hal4.heap (ho4.heap HB3.out (fun h => h)) (fun h => h))
            have HB4 := Lib.hid hb4
            unfold valT
            unfold voidT
            simp only
            clear ho4 hal4 hb4 CM2 hm4 ht4
            have c5 := sameTy _ _ ts _ HR4.out HT4.out (by omega)
            have C5 := Lib.hid c5
            clear c5
            go_wp2_with (fail)
            refine C5.out.mono ?_
            rintro e w5 ⟨rfl, ho5⟩
            have HO5 := Lib.hid (HO4.out.trans ho5 (fun _ h _ => h))
            obtain ⟨d0, d1, d2, d3, d4⟩ := cells5T (ho5.heap HB4.out (fun h => h))
            have nv := fun w => neq_self8 voidT w
            unfold valT voidT at nv
            simp only at nv
            clear ho5 C5
            go_wp2
            go_ret
            exact ⟨rfl, HO5.out.none⟩
          · obtain ⟨v1, v2⟩ := toList_ne_of (s := ret) (t := ⟨#[86]⟩) (by rw [nums_V]; exact hv)
            rw [lit_V] at v1 v2
            have hm1 := paramsZ_ret hfew hv
            rw [HTS.out] at hm1
            rw [hm1] at HM1
            clear hm1 hv hfew
            cases ho : oneZ8 (nums ret) with
            | none =>
              rw [ho] at HM1 cf
              simp only at HM1
              unfold typO errO zeroT valT at cf
              simp only at cf
              have CF := Lib.hid cf
              clear cf ho
              go_wp2_with (fail)
              refine (CF.out _).mono ?_
              rintro e w2 ⟨rfl, ho2⟩
              have hal2 := (Only.refl (fun _ => False) w2).alloc (.cells #[.int .i64 0, .string ⟨#[]⟩, .int .i64 0, .int .i64 0, .int .i64 0] 23)
              have hb2 := heap_alloc_new w2 (.cells #[.int .i64 0, .string ⟨#[]⟩, .int .i64 0, .int .i64 0, .int .i64 0] 23)
              have HO2 := Lib.hid ((HON.out.trans ho2 (fun _ h _ => h)).trans hal2 (fun _ h _ => h))
              have HT2 := Lib.hid ((HTY.out.only ho2).only hal2)
              have HB2 := Lib.hid hb2
              clear ho2 hal2 hb2 CF
              go_wp2_with (fail)
              rw [← hx1]
              refine (CM1.out _).mono ?_
              rintro e w3 ⟨v3, y3, rfl, hm3, ho3, ht3⟩
              obtain rfl : y3 = ([], zeroT, 80) := hm3.unique HM1.out
              simp only at ht3
              obtain ⟨a3, k3, rfl, -, -, -, -⟩ := id ht3
              have hal3 := (Only.refl (fun _ => False) w3).alloc (.cells #[.int .i64 0, .string ⟨#[]⟩, .int .i64 0, .int .i64 0, .int .i64 0] 23)
              have hb3 := heap_alloc_new w3 (.cells #[.int .i64 0, .string ⟨#[]⟩, .int .i64 0, .int .i64 0, .int .i64 0] 23)
              have HO3 := Lib.hid ((HO2.out.trans ho3 (fun _ h _ => h)).trans hal3 (fun _ h _ => h))
              have HT3 := Lib.hid ((HT2.out.only ho3).only hal3)
              have HR3 := Lib.hid (ht3.only hal3)
              have HB23 := Lib.hid (hal3.heap (ho3.heap HB2.out (fun h => h)) (fun h => h))
              have HB3 := Lib.hid hb3
              unfold valT
              unfold zeroT
              simp only
              clear ho3 hal3 hb3 CM1 hm3 ht3
              go_wp2_with (fail)
              rw [← hx2]
              refine (CM2.out _).mono ?_
              rintro e w4 ⟨v4, y4, rfl, hm4, ho4, ht4⟩
              obtain rfl : y4 = (ts, voidT, 0) := hm4.unique HM2.out
              simp only at ht4
              obtain ⟨a4, k4, rfl, -, -, -, -⟩ := id ht4
              have hal4 := (Only.refl (fun _ => False) w4).alloc (.cells #[.int .i64 8, .string ⟨#[]⟩, .int .i64 0, .int .i64 0, .int .i64 0] 23)
              have hb4 := heap_alloc_new w4 (.cells #[.int .i64 8, .string ⟨#[]⟩, .int .i64 0, .int .i64 0, .int .i64 0] 23)
              have HO4 := Lib.hid ((HO3.out.trans ho4 (fun _ h _ => h)).trans hal4 (fun _ h _ => h))
              have HT4 := Lib.hid ((HT3.out.only ho4).only hal4)
              have HR34 := Lib.hid ((HR3.out.only ho4).only hal4)
              have HR4 := Lib.hid (ht4.only hal4)
              have HB24 := Lib.hid (hal4.heap (ho4.heap HB23.out (fun h => h)) (fun h => h))
              have HB34 := Lib.hid (hal4.heap (ho4.heap HB3.out (fun h => h)) (fun h => h))
              have HB4 := Lib.hid hb4
              unfold valT
              unfold voidT
              simp only
              clear ho4 hal4 hb4 CM2 hm4 ht4
              have c5 := sameTy _ _ ts _ HR4.out HT4.out (by omega)
              have C5 := Lib.hid c5
              clear c5
              go_wp2_with (fail)
              refine C5.out.mono ?_
              rintro e w5 ⟨rfl, ho5⟩
              have HO5 := Lib.hid (HO4.out.trans ho5 (fun _ h _ => h))
              obtain ⟨d0, d1, d2, d3, d4⟩ := cells5T (ho5.heap HB4.out (fun h => h))
              have nv := fun w => neq_self8 voidT w
              unfold valT voidT at nv
              simp only at nv
              clear ho5 C5
              go_wp2
              go_ret
              exact ⟨rfl, HO5.out.none⟩
            | some t =>
              rw [ho] at HM1 cf
              simp only at HM1
              unfold typO errO valT at cf
              simp only at cf
              have CF := Lib.hid cf
              clear cf ho
              go_wp2_with (fail)
              refine (CF.out _).mono ?_
              rintro e w2 ⟨rfl, ho2⟩
              have hal2 := (Only.refl (fun _ => False) w2).alloc (.cells #[.int .i64 t.k, .string t.name, .int .i64 t.dims, .int .i64 t.elem, .int .i64 t.at_] 23)
              have hb2 := heap_alloc_new w2 (.cells #[.int .i64 t.k, .string t.name, .int .i64 t.dims, .int .i64 t.elem, .int .i64 t.at_] 23)
              have HO2 := Lib.hid ((HON.out.trans ho2 (fun _ h _ => h)).trans hal2 (fun _ h _ => h))
              have HT2 := Lib.hid ((HTY.out.only ho2).only hal2)
              have HB2 := Lib.hid hb2
              clear ho2 hal2 hb2 CF
              go_wp2_with (fail)
              rw [← hx1]
              refine (CM1.out _).mono ?_
              rintro e w3 ⟨v3, y3, rfl, hm3, ho3, ht3⟩
              obtain rfl : y3 = (ts, t, 0) := hm3.unique HM1.out
              simp only at ht3
              obtain ⟨a3, k3, rfl, -, -, -, -⟩ := id ht3
              have hal3 := (Only.refl (fun _ => False) w3).alloc (.cells #[.int .i64 t.k, .string t.name, .int .i64 t.dims, .int .i64 t.elem, .int .i64 t.at_] 23)
              have hb3 := heap_alloc_new w3 (.cells #[.int .i64 t.k, .string t.name, .int .i64 t.dims, .int .i64 t.elem, .int .i64 t.at_] 23)
              have HO3 := Lib.hid ((HO2.out.trans ho3 (fun _ h _ => h)).trans hal3 (fun _ h _ => h))
              have HT3 := Lib.hid ((HT2.out.only ho3).only hal3)
              have HR3 := Lib.hid (ht3.only hal3)
              have HB23 := Lib.hid (hal3.heap (ho3.heap HB2.out (fun h => h)) (fun h => h))
              have HB3 := Lib.hid hb3
              unfold valT
              skip
              simp only
              clear ho3 hal3 hb3 CM1 hm3 ht3
              go_wp2_with (fail)
              rw [← hx2]
              refine (CM2.out _).mono ?_
              rintro e w4 ⟨v4, y4, rfl, hm4, ho4, ht4⟩
              obtain rfl : y4 = (ts, voidT, 0) := hm4.unique HM2.out
              simp only at ht4
              obtain ⟨a4, k4, rfl, -, -, -, -⟩ := id ht4
              have hal4 := (Only.refl (fun _ => False) w4).alloc (.cells #[.int .i64 8, .string ⟨#[]⟩, .int .i64 0, .int .i64 0, .int .i64 0] 23)
              have hb4 := heap_alloc_new w4 (.cells #[.int .i64 8, .string ⟨#[]⟩, .int .i64 0, .int .i64 0, .int .i64 0] 23)
              have HO4 := Lib.hid ((HO3.out.trans ho4 (fun _ h _ => h)).trans hal4 (fun _ h _ => h))
              have HT4 := Lib.hid ((HT3.out.only ho4).only hal4)
              have HR34 := Lib.hid ((HR3.out.only ho4).only hal4)
              have HR4 := Lib.hid (ht4.only hal4)
              have HB24 := Lib.hid (hal4.heap (ho4.heap HB23.out (fun h => h)) (fun h => h))
              have HB34 := Lib.hid (hal4.heap (ho4.heap HB3.out (fun h => h)) (fun h => h))
              have HB4 := Lib.hid hb4
              unfold valT
              unfold voidT
              simp only
              clear ho4 hal4 hb4 CM2 hm4 ht4
              have c5 := sameTy _ _ ts _ HR4.out HT4.out (by omega)
              have C5 := Lib.hid c5
              clear c5
              go_wp2_with (fail)
              refine C5.out.mono ?_
              rintro e w5 ⟨rfl, ho5⟩
              have HO5 := Lib.hid (HO4.out.trans ho5 (fun _ h _ => h))
              obtain ⟨d0, d1, d2, d3, d4⟩ := cells5T (ho5.heap HB4.out (fun h => h))
              have nv := fun w => neq_self8 voidT w
              unfold valT voidT at nv
              simp only at nv
              have HR35 := Lib.hid (HR34.out.only ho5)
              have HT5 := Lib.hid (HT4.out.only ho5)
              have HB25 := Lib.hid (ho5.heap HB24.out (fun h => h))
              have HB35 := Lib.hid (ho5.heap HB34.out (fun h => h))
              clear ho5 C5
              have c6 := sameTy _ _ ts _ HR35.out HT5.out (by omega)
              have C6 := Lib.hid c6
              clear c6
              go_wp2_with (fail)
              refine C6.out.mono ?_
              rintro e w6 ⟨rfl, ho6⟩
              have HO6 := Lib.hid (HO5.out.trans ho6 (fun _ h _ => h))
              obtain ⟨q0, q1, q2, q3, q4⟩ := cells5T (ho6.heap HB25.out (fun h => h))
              obtain ⟨r0, r1, r2, r3, r4⟩ := cells5T (ho6.heap HB35.out (fun h => h))
              have eq1 := fun w => eql_type t t w
              rw [eqT_self] at eq1
              unfold valT at eq1
              clear ho6 C6
              go_wp2
              go_ret
              exact ⟨rfl, HO6.out.none⟩
      · have hmany : ¬ P.length ≤ 16 := by have := HPL.out; omega
        have hm1 := paramsZ_many hmany (nums ret)
        have hm2 := paramsZ_many hmany [86]
        rw [hm1] at HM1
        rw [hm2] at HM2
        have h16 : (16 : Int) < (ts.length : Int) := by have := HPL.out; omega
        generalize typO (oneZ8 (nums ret)) = rt at *
        generalize errO (oneZ8 (nums ret)) = re at *
        unfold valT at cf
        have CF := Lib.hid cf
        clear cf hm1 hm2
        go_wp2_with (fail)
        refine (CF.out _).mono ?_
        rintro e w2 ⟨rfl, ho2⟩
        have hal2 := (Only.refl (fun _ => False) w2).alloc (.cells #[.int .i64 rt.k, .string rt.name, .int .i64 rt.dims, .int .i64 rt.elem, .int .i64 rt.at_] 23)
        have hb2 := heap_alloc_new w2 (.cells #[.int .i64 rt.k, .string rt.name, .int .i64 rt.dims, .int .i64 rt.elem, .int .i64 rt.at_] 23)
        have HO2 := Lib.hid ((HON.out.trans ho2 (fun _ h _ => h)).trans hal2 (fun _ h _ => h))
        have HT2 := Lib.hid ((HTY.out.only ho2).only hal2)
        have HB2 := Lib.hid hb2
        clear ho2 hal2 hb2 CF
        go_wp2_with (fail)
        rw [← hx1]
        refine (CM1.out _).mono ?_
        rintro e w3 ⟨v3, y3, rfl, hm3, ho3, ht3⟩
        obtain rfl : y3 = ([], zeroT, 80) := hm3.unique HM1.out
        simp only at ht3
        obtain ⟨a3, k3, rfl, -, -, -, -⟩ := id ht3
        have hal3 := (Only.refl (fun _ => False) w3).alloc (.cells #[.int .i64 0, .string ⟨#[]⟩, .int .i64 0, .int .i64 0, .int .i64 0] 23)
        have hb3 := heap_alloc_new w3 (.cells #[.int .i64 0, .string ⟨#[]⟩, .int .i64 0, .int .i64 0, .int .i64 0] 23)
        have HO3 := Lib.hid ((HO2.out.trans ho3 (fun _ h _ => h)).trans hal3 (fun _ h _ => h))
        have HT3 := Lib.hid ((HT2.out.only ho3).only hal3)
        have HR3 := Lib.hid (ht3.only hal3)
        have HB23 := Lib.hid (hal3.heap (ho3.heap HB2.out (fun h => h)) (fun h => h))
        have HB3 := Lib.hid hb3
        unfold valT
        unfold zeroT
        simp only
        clear ho3 hal3 hb3 CM1 hm3 ht3
        go_wp2_with (fail)
        rw [← hx2]
        refine (CM2.out _).mono ?_
        rintro e w4 ⟨v4, y4, rfl, hm4, ho4, ht4⟩
        obtain rfl : y4 = ([], zeroT, 80) := hm4.unique HM2.out
        simp only at ht4
        obtain ⟨a4, k4, rfl, -, -, -, -⟩ := id ht4
        have hal4 := (Only.refl (fun _ => False) w4).alloc (.cells #[.int .i64 0, .string ⟨#[]⟩, .int .i64 0, .int .i64 0, .int .i64 0] 23)
        have hb4 := heap_alloc_new w4 (.cells #[.int .i64 0, .string ⟨#[]⟩, .int .i64 0, .int .i64 0, .int .i64 0] 23)
        have HO4 := Lib.hid ((HO3.out.trans ho4 (fun _ h _ => h)).trans hal4 (fun _ h _ => h))
        have HT4 := Lib.hid ((HT3.out.only ho4).only hal4)
        have HR34 := Lib.hid ((HR3.out.only ho4).only hal4)
        have HR4 := Lib.hid (ht4.only hal4)
        have HB24 := Lib.hid (hal4.heap (ho4.heap HB23.out (fun h => h)) (fun h => h))
        have HB34 := Lib.hid (hal4.heap (ho4.heap HB3.out (fun h => h)) (fun h => h))
        have HB4 := Lib.hid hb4
        unfold valT
        unfold zeroT
        simp only
        clear ho4 hal4 hb4 CM2 hm4 ht4
        go_wp2
        go_ret
        exact ⟨rfl, HO4.out.none⟩

theorem own : ownKnob Try.prog.godebug = none := by kernel_rfl
theorem laidOut : laidOutB Try.prog = true := by kernel_rfl

set_option maxRecDepth 100000 in
theorem lifted (os : Os) (started : os.Started) (H : Type) (enc : TypeId × Value → H) :
    ReturnsInHanded {} Try.checked os 10 .any (Rows.kindParamsSpec.pre6 enc Try.prog Try.f10 Rows.kindParamsRow.domain false) (Rows.kindParamsSpec.post enc Try.prog Try.f10 false true false false) := by
  refine returnsInHanded_of_change_sized (C := Try.checked) own started (by kernel_rfl) Try.func10
    (ChangeSpec.witness6 (enc := enc) (C := Try.checked) false ⟨#[], #[.slice none 0 0, .string ⟨#[]⟩], []⟩ 8 (by kernel_rfl) (by kernel_rfl) (by kernel_rfl) (by kernel_rfl)) ?_
  intro W base args ds gs before hval0 hW hcnd hsz0 _
  have hsz : (DataW.weightsEach Try.prog (Try.f10.params.toList ++ Rows.kindParamsSpec.plain.varTypes Try.prog) (ds ++ gs)).all (· ≤ reachBytes) = true := hsz0
  clear hsz0
  have hval : ∀ (j : Nat) t v, Try.f10.params[j]? = some t → args[j]? = some v → Value.okWide Try.prog W .any base t v := hval0
  have hW' := hW
  obtain ⟨p, q, hA0, hV, rfl, hfz, hnd⟩ := hW
  have hA : DataW.TrodAll enc Try.prog W 0 (fun _ => true) true Try.f10.params.toList args.toList ds p := hA0
  rw [Try.params10] at hA hval hsz
  obtain ⟨v0, vs0, d0, ds0, p0, q0, hargs, rfl, rfl, h0, r0⟩ := trodAll_cons hA
  obtain ⟨v1, vs1, d1, ds1, p1, q1, rfl, rfl, rfl, h1, r1⟩ := trodAll_cons r0
  obtain ⟨rfl, rfl, rfl⟩ := trodAll_nil r1
  obtain rfl : args = #[v0, v1] := by cases args; simp_all
  obtain ⟨rfl, rfl⟩ := trodVars_none hV
  have k0 := h0
  have lt0 : ∀ x ∈ p0, x.block < W.heap.size := by obtain ⟨m, hm⟩ := k0; exact DataW.trod_lt m _ _ _ hm
  have w0 := arg_texts (hval 0 51 v0 rfl rfl) h0 (light_arg (j := 0) hsz rfl rfl)
  obtain ⟨a1, rfl, rfl, rfl, w1⟩ := ChangeMaps.open_string Try.underlying9 (hval 1 9 v1 rfl rfl) h1
  have z1 : a1.size ≤ 140737488351232 := by have := sized_string hsz (j := 1) rfl rfl; unfold reachBytes at this; rw [Lib.size_eq]; omega
  clear hA0 hval0
  refine (walk v0 a1 W w0 z1).mono fun e W' ⟨he, bel⟩ => ?_
  subst he
  exact ⟨_, rfl, _, _, _, [], _, [], hW', trodAll_mk1 (shut_bool Try.underlying4 _), (trodAll_cons_mk (Below.trod laidOut (by kernel_rfl) (of_decide_eq_true (by kernel_rfl)) k0 bel lt0) (trodAll_cons_mk (ChangeMaps.shut_string Try.underlying9 w1) trodAll_mk0)), rfl, bel.frame _, fun h => by cases h⟩

theorem over : Rows.kindParamsRow.holds Try.pinned (OpenSpec.ofChange Rows.kindParamsSpec) :=
  OpenClaim.holds_of_wide 10 Try.f10 rfl rfl rfl rfl rfl rfl rfl ⟨rfl, rfl, rfl, rfl, rfl⟩ rfl rfl rfl rfl rfl (by kernel_rfl) Try.func10 (by kernel_rfl)
    (of_decide_eq_true (by kernel_rfl)) (by unfold Func.isWrapper; first | (rw [if_pos (by decide +kernel)]; kernel_rfl) | (rw [if_neg (by decide +kernel)]; exact ⟨rfl, rfl⟩))
    (fun os started H enc _ => lifted os started H enc)

theorem proved : Rows.KindParamsSaid := over
#print axioms proved
end Go.Proofs.Ytcmceabkadgfiaa.kindParams
