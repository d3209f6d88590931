/- The walk of the law LinkBuiltIn. Condition: the argument reads as a list of classes. -/
import Derived.Test.YtgdgffnaknkbcaaGreatDoorMjClsJLpX
import Derived.Test.YtgdgffnaknkbcaaGreatDoorMjLpYLnkMc
namespace Go.Proofs.YtgdgffnaknkbcaaGreatDoor
open Go.RowKit
set_option linter.unusedVariables false
set_option linter.unusedSimpArgs false
theorem slots_built {cs : List ClassV} (he : EndsAll (kindsZ cs)) : ∀ n : Nat, n < 13 → slotsAny (kindsZ cs) (n : Int) = [] := by
  have hl := kindsZ_len cs
  have hf : ∀ n, n < 13 → (builtK.getD n default).fields = [] := by decide
  have z : slotsAny (kindsZ cs) 0 = [] := by
    have := slots_super he (j := 0) (by omega)
    rw [show ((0 : Nat) : Int) = 0 from rfl, super_zero, kindsZ_built (show 0 < 13 by decide), hf 0 (by decide)] at this
    rw [this]
    unfold slotsAny
    rw [if_neg (by omega), slotsZ_end (by decide)]
    rfl
  have o : slotsAny (kindsZ cs) 1 = [] := by
    have := slots_super he (j := 1) (by omega)
    rw [show ((1 : Nat) : Int) = 1 from rfl, super_one, z, kindsZ_built (show 1 < 13 by decide), hf 1 (by decide)] at this
    rw [this]; rfl
  intro n hn
  by_cases h0 : n = 0
  · subst h0; exact z
  have := slots_super he (j := n) (by omega)
  rw [kindsZ_built hn, hf n hn] at this
  rw [this]
  rcases super_built (cs := cs) (show 1 ≤ n by omega) hn with e | e
  · rw [e, z]; rfl
  · rw [e, o]; rfl
theorem look_run {cs : List ClassV} (he : EndsAll (kindsZ cs)) : lookZ (kindsZ cs) thdB runB voidB = some ⟨2, 3, voidB, false, 0⟩ := by
  have hl := kindsZ_len cs
  unfold lookZ
  rw [if_neg (by decide), show findZ (kindsZ cs) thdB = 2 from find_built (cs := cs) (j := 2) (by decide)]
  have := upZ_step he (x := 2) (by omega)
  rw [show ((2 : Nat) : Int) = 2 from rfl] at this
  rw [this, firstO]
  unfold ownAt
  rw [kindsZ_built (show 2 < 13 by decide)]
  rfl
theorem look_wait {cs : List ClassV} (he : EndsAll (kindsZ cs)) : lookZ (kindsZ cs) divB waitB voidB = some ⟨0, 1, voidB, false, 0⟩ := by
  have hl := kindsZ_len cs
  unfold lookZ
  rw [if_neg (by decide), show findZ (kindsZ cs) divB = 7 from find_built (cs := cs) (j := 7) (by decide)]
  have h7 := upZ_step he (x := 7) (by omega)
  have s7 : superZ (kindsZ cs) 7 = 1 := by
    have := super_list (ks := kindsZ cs) (j := 7) (by omega) (by omega)
    rw [kindsZ_built (show 7 < 13 by decide)] at this
    exact this.trans (find_thr cs)
  have h1 := upZ_step he (x := 1) (by omega)
  have h0 := upZ_step he (x := 0) (by omega)
  rw [show ((7 : Nat) : Int) = 7 from rfl, s7] at h7
  rw [show ((1 : Nat) : Int) = 1 from rfl, super_one] at h1
  rw [show ((0 : Nat) : Int) = 0 from rfl, super_zero, upZ_end (x := -1) (by decide)] at h0
  rw [h7, h1, h0]
  have e7 : ownAt (kindsZ cs) 7 waitB voidB = none := by unfold ownAt; rw [kindsZ_built (show 7 < 13 by decide)]; rfl
  have e1 : ownAt (kindsZ cs) 1 waitB voidB = none := by unfold ownAt; rw [kindsZ_built (show 1 < 13 by decide)]; rfl
  have e0 : ownAt (kindsZ cs) 0 waitB voidB = some ⟨0, 1, voidB, false, 0⟩ := by unfold ownAt; rw [kindsZ_built (show 0 < 13 by decide)]; rfl
  simp only [firstO, e7, e1, e0]
theorem built_has : ∀ n, n < 13 → 0 < (builtK.getD n default).meths.length ∧ (builtK.getD n default).meths.length ≤ 64 := by decide
def namesB : List ByteArray := [⟨#[79, 98, 106, 101, 99, 116]⟩, ⟨#[84, 104, 114, 111, 119, 97, 98, 108, 101]⟩, ⟨#[84, 104, 114, 101, 97, 100]⟩, ⟨#[83, 121, 115]⟩, ⟨#[78, 117, 108, 108, 69, 114, 114, 111, 114]⟩, ⟨#[66, 111, 117, 110, 100, 115, 69, 114, 114, 111, 114]⟩, ⟨#[67, 97, 115, 116, 69, 114, 114, 111, 114]⟩, ⟨#[68, 105, 118, 69, 114, 114, 111, 114]⟩, ⟨#[79, 119, 110, 101, 114, 69, 114, 114, 111, 114]⟩, ⟨#[77, 101, 109, 111, 114, 121, 69, 114, 114, 111, 114]⟩, ⟨#[68, 101, 112, 116, 104, 69, 114, 114, 111, 114]⟩, ⟨#[83, 105, 122, 101, 69, 114, 114, 111, 114]⟩, ⟨#[83, 116, 111, 114, 101, 69, 114, 114, 111, 114]⟩]
theorem names_built : ∀ n, n < 13 → (builtK.getD n default).name = namesB.getD n ⟨#[]⟩ := by decide
set_option maxHeartbeats 32000000 in
set_option maxRecDepth 100000 in
theorem walkBuiltIn (v : Value) (cs : List ClassV) (w : World) (hc : Classes w v cs) (hT : Tabs w) (hE : ErrV w) :
    Calls Tryz.prog 7 #[v] w fun e w' => e = .returned (.bool true) ∧ Only (fun _ => False) w w' := by
  have CB := Lib.hid (pBuild v cs w hc hT hE)
  have CA := Lib.hid awake9
  obtain ⟨aov, capv, rfl, -⟩ := id hc.choose_spec.1
  clear hc hT hE
  go_enter Tryz.func7, Tryz.ntmps7
  go_wp2_with (fail)
  refine CB.out.mono ?_
  rintro e w1 ⟨ho1, hcase⟩
  have HO1 := Lib.hid ho1
  clear ho1 CB
  rcases hcase with ⟨hz, rfl⟩ | ⟨hz, pb, fv, cl, rfl, hm⟩
  · have hzb : (buildZ cs != 0) = true := by simpa using hz
    generalize buildZ cs = bz at *
    clear hz
    go_wp2_with (fail)
    refine (CA.out _).mono ?_
    rintro e w2 ⟨rfl, ho2⟩
    have HO2 := Lib.hid (HO1.out.trans ho2 (fun _ h _ => h))
    clear ho2
    go_wp2
    go_ret
    exact ⟨rfl, HO2.out⟩
  · obtain ⟨hl16, h0, hR⟩ := build_zero hz
    have HG := Lib.hid (right_good h0 hl16 hR)
    have HP := Lib.hid hm.prog
    have HSB := Lib.hid (slots_built (cs := cs) HG.out.ends)
    have HLR := Lib.hid (look_run (cs := cs) HG.out.ends)
    have HLW := Lib.hid (look_wait (cs := cs) HG.out.ends)
    have HKB := Lib.hid (fun j (h : j < 13) => kindsZ_built (cs := cs) h)
    have HFB := Lib.hid (fun j (h : j < 13) => find_built (cs := cs) h)
    have HKL := Lib.hid (kindsZ_len cs)
    clear hm hz h0 hR
    generalize kindsZ cs = ks at *
    have hkl := HG.out.small.1
    have hk13 := HG.out.pos
    have hkz : ((ks.length : Nat) : Int) ≤ 64 := by omega
    have hcz : ((cs.length : Nat) : Int) ≤ 16 := by omega
    have hna := (Only.refl (fun _ => False) w1).alloc (.cells #[.string ⟨#[79, 98, 106, 101, 99, 116]⟩, .string ⟨#[84, 104, 114, 111, 119, 97, 98, 108, 101]⟩, .string ⟨#[84, 104, 114, 101, 97, 100]⟩, .string ⟨#[83, 121, 115]⟩, .string ⟨#[78, 117, 108, 108, 69, 114, 114, 111, 114]⟩, .string ⟨#[66, 111, 117, 110, 100, 115, 69, 114, 114, 111, 114]⟩, .string ⟨#[67, 97, 115, 116, 69, 114, 114, 111, 114]⟩, .string ⟨#[68, 105, 118, 69, 114, 114, 111, 114]⟩, .string ⟨#[79, 119, 110, 101, 114, 69, 114, 114, 111, 114]⟩, .string ⟨#[77, 101, 109, 111, 114, 121, 69, 114, 114, 111, 114]⟩, .string ⟨#[68, 101, 112, 116, 104, 69, 114, 114, 111, 114]⟩, .string ⟨#[83, 105, 122, 101, 69, 114, 114, 111, 114]⟩, .string ⟨#[83, 116, 111, 114, 101, 69, 114, 114, 111, 114]⟩] 9)
    have hst := (show StrS (w1.alloc (.cells #[.string ⟨#[79, 98, 106, 101, 99, 116]⟩, .string ⟨#[84, 104, 114, 111, 119, 97, 98, 108, 101]⟩, .string ⟨#[84, 104, 114, 101, 97, 100]⟩, .string ⟨#[83, 121, 115]⟩, .string ⟨#[78, 117, 108, 108, 69, 114, 114, 111, 114]⟩, .string ⟨#[66, 111, 117, 110, 100, 115, 69, 114, 114, 111, 114]⟩, .string ⟨#[67, 97, 115, 116, 69, 114, 114, 111, 114]⟩, .string ⟨#[68, 105, 118, 69, 114, 114, 111, 114]⟩, .string ⟨#[79, 119, 110, 101, 114, 69, 114, 114, 111, 114]⟩, .string ⟨#[77, 101, 109, 111, 114, 121, 69, 114, 114, 111, 114]⟩, .string ⟨#[68, 101, 112, 116, 104, 69, 114, 114, 111, 114]⟩, .string ⟨#[83, 105, 122, 101, 69, 114, 114, 111, 114]⟩, .string ⟨#[83, 116, 111, 114, 101, 69, 114, 114, 111, 114]⟩] 9)) (.slice (some ⟨w1.heap.size, 0, none⟩) 13 13) namesB from StrS.new (ns := namesB) (by decide))
    obtain ⟨wN, hwN⟩ : ∃ x, w1.alloc (.cells #[.string ⟨#[79, 98, 106, 101, 99, 116]⟩, .string ⟨#[84, 104, 114, 111, 119, 97, 98, 108, 101]⟩, .string ⟨#[84, 104, 114, 101, 97, 100]⟩, .string ⟨#[83, 121, 115]⟩, .string ⟨#[78, 117, 108, 108, 69, 114, 114, 111, 114]⟩, .string ⟨#[66, 111, 117, 110, 100, 115, 69, 114, 114, 111, 114]⟩, .string ⟨#[67, 97, 115, 116, 69, 114, 114, 111, 114]⟩, .string ⟨#[68, 105, 118, 69, 114, 114, 111, 114]⟩, .string ⟨#[79, 119, 110, 101, 114, 69, 114, 114, 111, 114]⟩, .string ⟨#[77, 101, 109, 111, 114, 121, 69, 114, 114, 111, 114]⟩, .string ⟨#[68, 101, 112, 116, 104, 69, 114, 114, 111, 114]⟩, .string ⟨#[83, 105, 122, 101, 69, 114, 114, 111, 114]⟩, .string ⟨#[83, 116, 111, 114, 101, 69, 114, 114, 111, 114]⟩] 9) = x := ⟨_, rfl⟩
    obtain ⟨NB, hNB⟩ : ∃ x, w1.heap.size = x := ⟨_, rfl⟩
    rw [hwN] at hna hst
    rw [hNB] at hst
    have HST := Lib.hid hst
    have HPN := Lib.hid (HP.out.only hna)
    have HN1 := Lib.hid (HO1.out.trans hna (fun _ h _ => h))
    have HWN := Lib.hid hwN
    have HNB := Lib.hid hNB
    have CL := Lib.hid (fun W (hW : Only (fun _ => False) wN W) => pLen (HPN.out.only hW) (by omega))
    clear hna hst hwN hNB hl16
    go_wp2
    rw [HNB.out, HWN.out]
    clear HP
    go_loopw [6, 7, 8, 9, 10, 11, 12] (fun iv _ _ _ _ _ _ wr => ∃ n : Nat, iv = .int .i64 n ∧ n ≤ 13 ∧ Hid (Only (fun _ => False) wN wr)) (fun iv _ _ _ _ _ _ _ => 13 - (intOf iv).toNat)
    case atStart => exact ⟨0, rfl, Nat.zero_le _, Lib.hid (Only.refl _ _)⟩
    case round =>
      obtain ⟨n, rfl, hn, HON⟩ := hrel
      by_cases hlt : n < 13
      · have hnz : (n : Int) < 13 := by omega
        have hn0 : (0 : Int) ≤ (n : Int) := by omega
        have hbh := built_has n hlt
        rw [← HKB.out n hlt] at hbh
        have hnn := names_built n hlt
        rw [← HKB.out n hlt] at hnn
        obtain ⟨bq, oq, hbo, y⟩ := Sl.at (show Sl (.slice (some ⟨NB, 0, none⟩) 13 13) 13 _ from HST.out.only HON.out) hlt
        injection hbo with hbo
        injection hbo with hb1 ho1 _
        subst hb1
        subst ho1
        simp only [Nat.zero_add] at y
        have CM := Lib.hid (pMethod (HPN.out.only HON.out) n 0 (by omega) hbh.1 hbh.2 (fun h => by omega))
        have CC := Lib.hid (fun W (hW : Only (fun _ => False) wN W) => pClassNo (HPN.out.only hW) (by omega) (n : Int) (.inl (by omega)))
        have CN := Lib.hid (fun W (hW : Only (fun _ => False) wN W) => pName (HPN.out.only hW) (by omega) (n : Int))
        have CF := Lib.hid (fun W (hW : Only (fun _ => False) wN W) => pFind (HPN.out.only hW) (by omega) (namesB.getD n ⟨#[]⟩) (by rw [← hnn]; have := (HG.out.fine _ (getD_memK (show n < ks.length by omega))).name; unfold maxLen; omega))
        have CS := Lib.hid (fun W (hW : Only (fun _ => False) wN W) => pSlotsAny HG.out _ (n : Int) rfl W (HPN.out.only hW))
        rw [HSB.out n hlt] at CS
        rw [show nameZ ks (n : Int) = namesB.getD n ⟨#[]⟩ by unfold nameZ; rw [if_neg (by omega), Int.toNat_natCast]; exact hnn] at CN
        rw [← hnn, HFB.out n hlt, hnn] at CF
        rw [show methP n (ks.getD n default) (cl n) 0 = bareM ((ks.getD n default).meths.getD 0 default).flags by unfold methP; rw [if_pos hlt]] at CM
        generalize ((ks.getD n default).meths.getD 0 default).flags = fg at *
        generalize ((ks.getD n default).meths.getD 0 default).name = mn at *
        generalize ((ks.getD n default).meths.getD 0 default).desc = md at *
        generalize namesB.getD n ⟨#[]⟩ = nm at *
        have Y := Lib.hid y
        clear hbh hnn y
        go_wp2_with (fail)
        refine CM.out.mono ?_
        rintro e w3 ⟨ma, mb, mc, rfl, hin, ho3⟩
        obtain ⟨ac, cc, rfl, -⟩ := id hin.1
        obtain ⟨at_, ct, rfl, -⟩ := id hin.2.1.1
        obtain ⟨am, cm, rfl, -⟩ := id hin.2.2
        have HO3 := Lib.hid (HON.out.trans ho3 (fun _ h _ => h))
        have HY3 := Lib.hid (ho3.cell Y.out (fun h => h))
        have hm3 := heap_alloc_new w3 (.cells #[.int .i64 fg, .int .i64 0, .int .i64 0, .int .i64 0, .int .i64 0, .slice ac 0 cc, .slice at_ 0 ct, .slice am 0 cm] 70)
        have ha3 := (Only.refl (fun _ => False) w3).alloc (.cells #[.int .i64 fg, .int .i64 0, .int .i64 0, .int .i64 0, .int .i64 0, .slice ac 0 cc, .slice at_ 0 ct, .slice am 0 cm] 70)
        obtain ⟨w4, hw4⟩ : ∃ x, w3.alloc (.cells #[.int .i64 fg, .int .i64 0, .int .i64 0, .int .i64 0, .int .i64 0, .slice ac 0 cc, .slice at_ 0 ct, .slice am 0 cm] 70) = x := ⟨_, rfl⟩
        rw [hw4] at hm3 ha3
        obtain ⟨M, hM⟩ : ∃ x, w3.heap.size = x := ⟨_, rfl⟩
        rw [hM] at hm3
        have HM3 := Lib.hid hm3
        have HO4 := Lib.hid (HO3.out.trans ha3 (fun _ h _ => h))
        have HY4 := Lib.hid (ha3.cell HY3.out (fun h => h))
        have HW4 := Lib.hid hw4
        have HMM := Lib.hid hM
        unfold valMth bareM
        clear hin ho3 hm3 ha3 hw4 hM
        go_wp2_with (fail)
        rw [HMM.out, HW4.out]
        refine (CC.out _ HO4.out).mono ?_
        rintro e w5 ⟨rfl, ho5⟩
        have HO5 := Lib.hid ((HO4.out.trans ho5 (fun _ h _ => h)).alloc (.cells #[.slice none 0 0, .int .i64 0, .int .i64 0, .slice none 0 0, .slice none 0 0] 77))
        have ha5 := ho5.alloc (.cells #[.slice none 0 0, .int .i64 0, .int .i64 0, .slice none 0 0, .slice none 0 0] 77)
        have hy5 := ha5.cell HY4.out (fun h => h)
        have hm5 := cell_blk (ha5.heap HM3.out (fun h => h)) 5
        obtain ⟨w6, hw6⟩ : ∃ x, w5.alloc (.cells #[.slice none 0 0, .int .i64 0, .int .i64 0, .slice none 0 0, .slice none 0 0] 77) = x := ⟨_, rfl⟩
        rw [hw6] at HO5 ha5 hy5 hm5
        have HS0 := Lib.hid (show (fun wc => (wc.cell? ⟨NB, n, none⟩ = some (.string nm) ∧ wc.cell? ⟨M, 5, none⟩ = some (.slice ac 0 cc)) ∧ Only (fun _ => False) wN wc) (w6.drewN 1) from ⟨⟨hy5, hm5⟩, HO5.out.drewN 1⟩)
        have HW6 := Lib.hid hw6
        clear ho5 ha5 hy5 hm5 hw6
        go_wp2
        rw [HW6.out]
        refine wp_region_held_drew (S := fun wc => (wc.cell? ⟨NB, n, none⟩ = some (.string nm) ∧ wc.cell? ⟨M, 5, none⟩ = some (.slice ac 0 cc)) ∧ Only (fun _ => False) wN wc) (by kernel_rfl) HS0.out (fun hHeld => ?_)
        refine wpAnyH_take (i := 0) (v := ?_) (by simp only [List.getElem?_toArray, List.getElem?_cons_succ, List.getElem?_cons_zero]; rfl) (by kernel_rfl) (by kernel_rfl) (by kernel_rfl) (by exact fun _ _ _ h => h) (Or.inl ⟨by rfl, ?_⟩) (by assumption) ?_
        rotate_left 1
        · (intro w hSw; (try dsimp only at hSw); go_simp; try with_reducible rfl)
        try simp only [Act.put, List.setIfInBounds_toArray, List.set_cons_zero, List.set_cons_succ]
        refine wpAnyH_take (i := 1) (v := ?_) (by simp only [List.getElem?_toArray, List.getElem?_cons_succ, List.getElem?_cons_zero]; rfl) (by kernel_rfl) (by kernel_rfl) (by kernel_rfl) (by exact fun _ _ _ h => h) (Or.inl ⟨by rfl, ?_⟩) (by assumption) ?_
        rotate_left 1
        · (intro w hSw; (try dsimp only at hSw); go_simp; try with_reducible rfl)
        try simp only [Act.put, List.setIfInBounds_toArray, List.set_cons_zero, List.set_cons_succ]
        refine wpAnyH_take (i := 3) (v := ?_) (by simp only [List.getElem?_toArray, List.getElem?_cons_succ, List.getElem?_cons_zero]; rfl) (by kernel_rfl) (by kernel_rfl) (by kernel_rfl) (by exact fun _ _ _ h => h) (Or.inl ⟨by rfl, ?_⟩) (by assumption) ?_
        rotate_left 1
        · (intro w hSw; (try dsimp only at hSw); go_simp; try with_reducible rfl)
        try simp only [Act.put, List.setIfInBounds_toArray, List.set_cons_zero, List.set_cons_succ]
        refine wpAnyH_take (i := 4) (v := ?_) (by simp only [List.getElem?_toArray, List.getElem?_cons_succ, List.getElem?_cons_zero]; rfl) (by kernel_rfl) (by kernel_rfl) (by kernel_rfl) (by exact fun _ _ _ h => h) (Or.inl ⟨by rfl, ?_⟩) (by assumption) ?_
        rotate_left 1
        · (intro w hSw; (try dsimp only at hSw); go_simp; try with_reducible rfl)
        try simp only [Act.put, List.setIfInBounds_toArray, List.set_cons_zero, List.set_cons_succ]
        refine wpAnyH_take (i := 5) (v := ?_) (by simp only [List.getElem?_toArray, List.getElem?_cons_succ, List.getElem?_cons_zero]; rfl) (by kernel_rfl) (by kernel_rfl) (by kernel_rfl) (by exact fun _ _ _ h => h) (Or.inl ⟨by rfl, ?_⟩) (by assumption) ?_
        rotate_left 1
        · (intro w hSw; (try dsimp only at hSw); go_simp; try with_reducible rfl)
        try simp only [Act.put, List.setIfInBounds_toArray, List.set_cons_zero, List.set_cons_succ]
        refine wpAnyH_take (i := 6) (v := ?_) (by simp only [List.getElem?_toArray, List.getElem?_cons_succ, List.getElem?_cons_zero]; rfl) (by kernel_rfl) (by kernel_rfl) (by kernel_rfl) (by exact fun _ _ _ h => h) (Or.inl ⟨by rfl, ?_⟩) (by assumption) ?_
        rotate_left 1
        · (intro w hSw; (try dsimp only at hSw); go_simp; try with_reducible rfl)
        try simp only [Act.put, List.setIfInBounds_toArray, List.set_cons_zero, List.set_cons_succ]
        refine wpAnyH_ready (rs := [2]) (by kernel_rfl) (by simp) ?_
        refine AllReadyH.cons (by simp only [List.getElem?_toArray, List.getElem?_cons_succ, List.getElem?_cons_zero]; rfl) (fun K hK => ?_) AllReadyH.nil
        go_simp
        (refine (CN.out _ hHeld.2).mono ?_; rintro e wn ⟨rfl, ho⟩; have HQ1 := Lib.hid (show (fun wc => (wc.cell? ⟨NB, n, none⟩ = some (.string nm) ∧ wc.cell? ⟨M, 5, none⟩ = some (.slice ac 0 cc)) ∧ Only (fun _ => False) wN wc) wn from ⟨⟨ho.cell hHeld.1.1 (fun h => h), ho.cell hHeld.1.2 (fun h => h)⟩, hHeld.2.trans ho (fun _ h _ => h)⟩); clear ho)
        go_wp2_with fail
        refine hK.out _ _ ?_ (fun hHeld2 => ?_)
        · exact HQ1.out
        clear hK K
        try simp only [Act.put, List.setIfInBounds_toArray, List.set_cons_zero, List.set_cons_succ]
        clear hHeld
        have hHeld := hHeld2
        clear hHeld2
        refine wpAnyH_take (i := 7) (v := ?_) (by simp only [List.getElem?_toArray, List.getElem?_cons_succ, List.getElem?_cons_zero]; rfl) (by kernel_rfl) (by kernel_rfl) (by kernel_rfl) (by exact fun _ _ _ h => h) (Or.inl ⟨by rfl, ?_⟩) (by assumption) ?_
        rotate_left 1
        · (intro w hSw; (try dsimp only at hSw); go_simp; try with_reducible rfl)
        try simp only [Act.put, List.setIfInBounds_toArray, List.set_cons_zero, List.set_cons_succ]
        refine wpAnyH_take (i := 8) (v := ?_) (by simp only [List.getElem?_toArray, List.getElem?_cons_succ, List.getElem?_cons_zero]; rfl) (by kernel_rfl) (by kernel_rfl) (by kernel_rfl) (by exact fun _ _ _ h => h) (Or.inl ⟨by rfl, ?_⟩) (by assumption) ?_
        rotate_left 1
        · (intro w hSw; (try dsimp only at hSw); go_simp; try with_reducible rfl)
        try simp only [Act.put, List.setIfInBounds_toArray, List.set_cons_zero, List.set_cons_succ]
        refine wpAnyH_take (i := 9) (v := ?_) (by simp only [List.getElem?_toArray, List.getElem?_cons_succ, List.getElem?_cons_zero]; rfl) (by kernel_rfl) (by kernel_rfl) (by kernel_rfl) (by exact fun _ _ _ h => h) (Or.inl ⟨by rfl, ?_⟩) (by assumption) ?_
        rotate_left 1
        · (intro w hSw; (try dsimp only at hSw); go_simp; try with_reducible rfl)
        try simp only [Act.put, List.setIfInBounds_toArray, List.set_cons_zero, List.set_cons_succ]
        refine wpAnyH_take (i := 10) (v := ?_) (by simp only [List.getElem?_toArray, List.getElem?_cons_succ, List.getElem?_cons_zero]; rfl) (by kernel_rfl) (by kernel_rfl) (by kernel_rfl) (by exact fun _ _ _ h => h) (Or.inl ⟨by rfl, ?_⟩) (by assumption) ?_
        rotate_left 1
        · (intro w hSw; (try dsimp only at hSw); go_simp; try with_reducible rfl)
        try simp only [Act.put, List.setIfInBounds_toArray, List.set_cons_zero, List.set_cons_succ]
        refine wpAnyH_take (i := 11) (v := ?_) (by simp only [List.getElem?_toArray, List.getElem?_cons_succ, List.getElem?_cons_zero]; rfl) (by kernel_rfl) (by kernel_rfl) (by kernel_rfl) (by exact fun _ _ _ h => h) (Or.inl ⟨by rfl, ?_⟩) (by assumption) ?_
        rotate_left 1
        · (intro w hSw; (try dsimp only at hSw); go_simp; try with_reducible rfl)
        try simp only [Act.put, List.setIfInBounds_toArray, List.set_cons_zero, List.set_cons_succ]
        refine wpAnyH_take (i := 12) (v := ?_) (by simp only [List.getElem?_toArray, List.getElem?_cons_succ, List.getElem?_cons_zero]; rfl) (by kernel_rfl) (by kernel_rfl) (by kernel_rfl) (by exact fun _ _ _ h => h) (Or.inl ⟨by rfl, ?_⟩) (by assumption) ?_
        rotate_left 1
        · (intro w hSw; (try dsimp only at hSw); go_simp; try with_reducible rfl)
        try simp only [Act.put, List.setIfInBounds_toArray, List.set_cons_zero, List.set_cons_succ]
        refine wpAnyH_take (i := 13) (v := ?_) (by simp only [List.getElem?_toArray, List.getElem?_cons_succ, List.getElem?_cons_zero]; rfl) (by kernel_rfl) (by kernel_rfl) (by kernel_rfl) (by exact fun _ _ _ h => h) (Or.inl ⟨by rfl, ?_⟩) (by assumption) ?_
        rotate_left 1
        · (intro w hSw; (try dsimp only at hSw); go_simp; try with_reducible rfl)
        try simp only [Act.put, List.setIfInBounds_toArray, List.set_cons_zero, List.set_cons_succ]
        refine wpAnyH_take (i := 15) (v := ?_) (by simp only [List.getElem?_toArray, List.getElem?_cons_succ, List.getElem?_cons_zero]; rfl) (by kernel_rfl) (by kernel_rfl) (by kernel_rfl) (by exact fun _ _ _ h => h) (Or.inl ⟨by rfl, ?_⟩) (by assumption) ?_
        rotate_left 1
        · (intro w hSw; (try dsimp only at hSw); go_simp; try with_reducible rfl)
        try simp only [Act.put, List.setIfInBounds_toArray, List.set_cons_zero, List.set_cons_succ]
        refine wpAnyH_ready (rs := [14]) (by kernel_rfl) (by simp) ?_
        refine AllReadyH.cons (by simp only [List.getElem?_toArray, List.getElem?_cons_succ, List.getElem?_cons_zero]; rfl) (fun K hK => ?_) AllReadyH.nil
        go_simp
        (refine (CF.out _ hHeld.2).mono ?_; rintro e wf ⟨rfl, hww⟩; subst hww; have HQ2 := Lib.hid hHeld)
        go_wp2_with fail
        refine hK.out _ _ ?_ (fun hHeld2 => ?_)
        · exact HQ2.out
        clear hK K
        try simp only [Act.put, List.setIfInBounds_toArray, List.set_cons_zero, List.set_cons_succ]
        clear hHeld
        have hHeld := hHeld2
        clear hHeld2
        refine wpAnyH_take (i := 16) (v := ?_) (by simp only [List.getElem?_toArray, List.getElem?_cons_succ, List.getElem?_cons_zero]; rfl) (by kernel_rfl) (by kernel_rfl) (by kernel_rfl) (by exact fun _ _ _ h => h) (Or.inl ⟨by rfl, ?_⟩) (by assumption) ?_
        rotate_left 1
        · (intro w hSw; (try dsimp only at hSw); go_simp; try with_reducible rfl)
        try simp only [Act.put, List.setIfInBounds_toArray, List.set_cons_zero, List.set_cons_succ]
        refine wpAnyH_take (i := 17) (v := ?_) (by simp only [List.getElem?_toArray, List.getElem?_cons_succ, List.getElem?_cons_zero]; rfl) (by kernel_rfl) (by kernel_rfl) (by kernel_rfl) (by exact fun _ _ _ h => h) (Or.inl ⟨by rfl, ?_⟩) (by assumption) ?_
        rotate_left 1
        · (intro w hSw; (try dsimp only at hSw); go_simp; try with_reducible rfl)
        try simp only [Act.put, List.setIfInBounds_toArray, List.set_cons_zero, List.set_cons_succ]
        refine wpAnyH_take (i := 18) (v := ?_) (by simp only [List.getElem?_toArray, List.getElem?_cons_succ, List.getElem?_cons_zero]; rfl) (by kernel_rfl) (by kernel_rfl) (by kernel_rfl) (by exact fun _ _ _ h => h) (Or.inl ⟨by rfl, ?_⟩) (by assumption) ?_
        rotate_left 1
        · (intro w hSw; (try dsimp only at hSw); go_simp; try with_reducible rfl)
        try simp only [Act.put, List.setIfInBounds_toArray, List.set_cons_zero, List.set_cons_succ]
        refine wpAnyH_take (i := 19) (v := ?_) (by simp only [List.getElem?_toArray, List.getElem?_cons_succ, List.getElem?_cons_zero]; rfl) (by kernel_rfl) (by kernel_rfl) (by kernel_rfl) (by exact fun _ _ _ h => h) (Or.inl ⟨by rfl, ?_⟩) (by assumption) ?_
        rotate_left 1
        · (intro w hSw; (try dsimp only at hSw); go_simp; try with_reducible rfl)
        try simp only [Act.put, List.setIfInBounds_toArray, List.set_cons_zero, List.set_cons_succ]
        refine wpAnyH_take (i := 20) (v := ?_) (by simp only [List.getElem?_toArray, List.getElem?_cons_succ, List.getElem?_cons_zero]; rfl) (by kernel_rfl) (by kernel_rfl) (by kernel_rfl) (by exact fun _ _ _ h => h) (Or.inl ⟨by rfl, ?_⟩) (by assumption) ?_
        rotate_left 1
        · (intro w hSw; (try dsimp only at hSw); go_simp; try with_reducible rfl)
        try simp only [Act.put, List.setIfInBounds_toArray, List.set_cons_zero, List.set_cons_succ]
        refine wpAnyH_take (i := 21) (v := ?_) (by simp only [List.getElem?_toArray, List.getElem?_cons_succ, List.getElem?_cons_zero]; rfl) (by kernel_rfl) (by kernel_rfl) (by kernel_rfl) (by exact fun _ _ _ h => h) (Or.inl ⟨by rfl, ?_⟩) (by assumption) ?_
        rotate_left 1
        · (intro w hSw; (try dsimp only at hSw); go_simp; try with_reducible rfl)
        try simp only [Act.put, List.setIfInBounds_toArray, List.set_cons_zero, List.set_cons_succ]
        refine wpAnyH_take (i := 22) (v := ?_) (by simp only [List.getElem?_toArray, List.getElem?_cons_succ, List.getElem?_cons_zero]; rfl) (by kernel_rfl) (by kernel_rfl) (by kernel_rfl) (by exact fun _ _ _ h => h) (Or.inl ⟨by rfl, ?_⟩) (by assumption) ?_
        rotate_left 1
        · (intro w hSw; (try dsimp only at hSw); go_simp; try with_reducible rfl)
        try simp only [Act.put, List.setIfInBounds_toArray, List.set_cons_zero, List.set_cons_succ]
        refine wpAnyH_take (i := 23) (v := ?_) (by simp only [List.getElem?_toArray, List.getElem?_cons_succ, List.getElem?_cons_zero]; rfl) (by kernel_rfl) (by kernel_rfl) (by kernel_rfl) (by exact fun _ _ _ h => h) (Or.inl ⟨by rfl, ?_⟩) (by assumption) ?_
        rotate_left 1
        · (intro w hSw; (try dsimp only at hSw); go_simp; try with_reducible rfl)
        try simp only [Act.put, List.setIfInBounds_toArray, List.set_cons_zero, List.set_cons_succ]
        refine wpAnyH_take (i := 24) (v := ?_) (by simp only [List.getElem?_toArray, List.getElem?_cons_succ, List.getElem?_cons_zero]; rfl) (by kernel_rfl) (by kernel_rfl) (by kernel_rfl) (by exact fun _ _ _ h => h) (Or.inl ⟨by rfl, ?_⟩) (by assumption) ?_
        rotate_left 1
        · (intro w hSw; (try dsimp only at hSw); go_simp; try with_reducible rfl)
        try simp only [Act.put, List.setIfInBounds_toArray, List.set_cons_zero, List.set_cons_succ]
        refine wpAnyH_take (i := 25) (v := ?_) (by simp only [List.getElem?_toArray, List.getElem?_cons_succ, List.getElem?_cons_zero]; rfl) (by kernel_rfl) (by kernel_rfl) (by kernel_rfl) (by exact fun _ _ _ h => h) (Or.inl ⟨by rfl, ?_⟩) (by assumption) ?_
        rotate_left 1
        · (intro w hSw; (try dsimp only at hSw); go_simp; try with_reducible rfl)
        try simp only [Act.put, List.setIfInBounds_toArray, List.set_cons_zero, List.set_cons_succ]
        refine wpAnyH_take (i := 26) (v := ?_) (by simp only [List.getElem?_toArray, List.getElem?_cons_succ, List.getElem?_cons_zero]; rfl) (by kernel_rfl) (by kernel_rfl) (by kernel_rfl) (by exact fun _ _ _ h => h) (Or.inl ⟨by rfl, ?_⟩) (by assumption) ?_
        rotate_left 1
        · (intro w hSw; (try dsimp only at hSw); go_simp; try with_reducible rfl)
        try simp only [Act.put, List.setIfInBounds_toArray, List.set_cons_zero, List.set_cons_succ]
        refine wpAnyH_take (i := 27) (v := ?_) (by simp only [List.getElem?_toArray, List.getElem?_cons_succ, List.getElem?_cons_zero]; rfl) (by kernel_rfl) (by kernel_rfl) (by kernel_rfl) (by exact fun _ _ _ h => h) (Or.inl ⟨by rfl, ?_⟩) (by assumption) ?_
        rotate_left 1
        · (intro w hSw; (try dsimp only at hSw); go_simp; try with_reducible rfl)
        try simp only [Act.put, List.setIfInBounds_toArray, List.set_cons_zero, List.set_cons_succ]
        refine wpAnyH_take (i := 28) (v := ?_) (by simp only [List.getElem?_toArray, List.getElem?_cons_succ, List.getElem?_cons_zero]; rfl) (by kernel_rfl) (by kernel_rfl) (by kernel_rfl) (by exact fun _ _ _ h => h) (Or.inl ⟨by rfl, ?_⟩) (by assumption) ?_
        rotate_left 1
        · (intro w hSw; (try dsimp only at hSw); go_simp; try with_reducible rfl)
        try simp only [Act.put, List.setIfInBounds_toArray, List.set_cons_zero, List.set_cons_succ]
        refine wpAnyH_take (i := 29) (v := ?_) (by simp only [List.getElem?_toArray, List.getElem?_cons_succ, List.getElem?_cons_zero]; rfl) (by kernel_rfl) (by kernel_rfl) (by kernel_rfl) (by exact fun _ _ _ h => h) (Or.inl ⟨by rfl, ?_⟩) (by assumption) ?_
        rotate_left 1
        · (intro w hSw; (try dsimp only at hSw); go_simp; try with_reducible rfl)
        try simp only [Act.put, List.setIfInBounds_toArray, List.set_cons_zero, List.set_cons_succ]
        refine wpAnyH_take (i := 30) (v := ?_) (by simp only [List.getElem?_toArray, List.getElem?_cons_succ, List.getElem?_cons_zero]; rfl) (by kernel_rfl) (by kernel_rfl) (by kernel_rfl) (by exact fun _ _ _ h => h) (Or.inl ⟨by rfl, ?_⟩) (by assumption) ?_
        rotate_left 1
        · (intro w hSw; (try dsimp only at hSw); go_simp; try with_reducible rfl)
        try simp only [Act.put, List.setIfInBounds_toArray, List.set_cons_zero, List.set_cons_succ]
        refine wpAnyH_take (i := 31) (v := ?_) (by simp only [List.getElem?_toArray, List.getElem?_cons_succ, List.getElem?_cons_zero]; rfl) (by kernel_rfl) (by kernel_rfl) (by kernel_rfl) (by exact fun _ _ _ h => h) (Or.inl ⟨by rfl, ?_⟩) (by assumption) ?_
        rotate_left 1
        · (intro w hSw; (try dsimp only at hSw); go_simp; try with_reducible rfl)
        try simp only [Act.put, List.setIfInBounds_toArray, List.set_cons_zero, List.set_cons_succ]
        refine wpAnyH_take (i := 32) (v := ?_) (by simp only [List.getElem?_toArray, List.getElem?_cons_succ, List.getElem?_cons_zero]; rfl) (by kernel_rfl) (by kernel_rfl) (by kernel_rfl) (by exact fun _ _ _ h => h) (Or.inl ⟨by rfl, ?_⟩) (by assumption) ?_
        rotate_left 1
        · (intro w hSw; (try dsimp only at hSw); go_simp; try with_reducible rfl)
        try simp only [Act.put, List.setIfInBounds_toArray, List.set_cons_zero, List.set_cons_succ]
        refine wpAnyH_take (i := 33) (v := ?_) (by simp only [List.getElem?_toArray, List.getElem?_cons_succ, List.getElem?_cons_zero]; rfl) (by kernel_rfl) (by kernel_rfl) (by kernel_rfl) (by exact fun _ _ _ h => h) (Or.inl ⟨by rfl, ?_⟩) (by assumption) ?_
        rotate_left 1
        · (intro w hSw; (try dsimp only at hSw); go_simp; try with_reducible rfl)
        try simp only [Act.put, List.setIfInBounds_toArray, List.set_cons_zero, List.set_cons_succ]
        refine wpAnyH_ready (rs := [34]) (by kernel_rfl) (by simp) ?_
        refine AllReadyH.cons (by simp only [List.getElem?_toArray, List.getElem?_cons_succ, List.getElem?_cons_zero]; rfl) (fun K hK => ?_) AllReadyH.nil
        go_simp
        (refine (CS.out _ hHeld.2).mono ?_; rintro e ws ⟨r5, rfl, hr5, ho⟩; obtain ⟨a5, c5, rfl, -, -, -, -⟩ := id hr5.types; have HQ3 := Lib.hid (show (fun wc => (wc.cell? ⟨NB, n, none⟩ = some (.string nm) ∧ wc.cell? ⟨M, 5, none⟩ = some (.slice ac 0 cc)) ∧ Only (fun _ => False) wN wc) ws from ⟨⟨ho.cell hHeld.1.1 (fun h => h), ho.cell hHeld.1.2 (fun h => h)⟩, hHeld.2.trans ho (fun _ h _ => h)⟩); clear ho hr5)
        go_wp2_with fail
        refine hK.out _ _ ?_ (fun hHeld2 => ?_)
        · exact HQ3.out
        clear hK K
        try simp only [Act.put, List.setIfInBounds_toArray, List.set_cons_zero, List.set_cons_succ]
        clear hHeld
        have hHeld := hHeld2
        clear hHeld2
        refine wpAnyH_take (i := 35) (v := ?_) (by simp only [List.getElem?_toArray, List.getElem?_cons_succ, List.getElem?_cons_zero]; rfl) (by kernel_rfl) (by kernel_rfl) (by kernel_rfl) (by exact fun _ _ _ h => h) (Or.inl ⟨by rfl, ?_⟩) (by assumption) ?_
        rotate_left 1
        · (intro w hSw; (try dsimp only at hSw); go_simp; try with_reducible rfl)
        try simp only [Act.put, List.setIfInBounds_toArray, List.set_cons_zero, List.set_cons_succ]
        refine wpAnyH_take (i := 36) (v := ?_) (by simp only [List.getElem?_toArray, List.getElem?_cons_succ, List.getElem?_cons_zero]; rfl) (by kernel_rfl) (by kernel_rfl) (by kernel_rfl) (by exact fun _ _ _ h => h) (Or.inl ⟨by rfl, ?_⟩) (by assumption) ?_
        rotate_left 1
        · (intro w hSw; (try dsimp only at hSw); go_simp; try with_reducible rfl)
        try simp only [Act.put, List.setIfInBounds_toArray, List.set_cons_zero, List.set_cons_succ]
        refine wpAnyH_take (i := 37) (v := ?_) (by simp only [List.getElem?_toArray, List.getElem?_cons_succ, List.getElem?_cons_zero]; rfl) (by kernel_rfl) (by kernel_rfl) (by kernel_rfl) (by exact fun _ _ _ h => h) (Or.inl ⟨by rfl, ?_⟩) (by assumption) ?_
        rotate_left 1
        · (intro w hSw; (try dsimp only at hSw); go_simp; try with_reducible rfl)
        try simp only [Act.put, List.setIfInBounds_toArray, List.set_cons_zero, List.set_cons_succ]
        refine wpAnyH_done (by kernel_rfl) ?_ _
        have HOZ := Lib.hid hHeld.2
        clear hHeld HQ1 HQ2 HQ3 HS0
        go_wp2
        go_roundw
        case rel => exact ⟨n + 1, by go_num, by omega, HOZ⟩
        case measure => simp [intOf]; omega
      · obtain rfl : n = 13 := by omega
        have hr : (runB : ByteArray) ≠ initB := by decide
        have C1 := Lib.hid ((pLook (HPN.out.only HON.out) HG.out thdB runB voidB (by decide) (by decide)).mono (fun e w' h => show e = .returned (.tuple #[.agg #[.int .i64 2, .int .i64 3, .string voidB, .bool false, .int .i64 0], .int .i64 0]) ∧ Only (fun _ => False) wr w' from ⟨h.1.trans (by rw [HLR.out]; rfl), h.2⟩))
        have C2 := Lib.hid (fun W (hW : Only (fun _ => False) wN W) => (pLook (HPN.out.only hW) HG.out divB waitB voidB (by decide) (by decide)).mono (fun e w' h => show e = .returned (.tuple #[.agg #[.int .i64 0, .int .i64 1, .string voidB, .bool false, .int .i64 0], .int .i64 0]) ∧ Only (fun _ => False) W w' from ⟨h.1.trans (by rw [HLW.out]; rfl), h.2⟩))
        have C3 := Lib.hid (fun W (hW : Only (fun _ => False) wN W) => (pLookI (HPN.out.only hW) HG.out objB voidB).mono (fun e w' h => show e = .returned (.tuple #[.agg #[.int .i64 0, .int .i64 0, .string ⟨#[]⟩, .bool false, .int .i64 0], .int .i64 91]) ∧ Only (fun _ => False) W w' from ⟨h.1.trans (by unfold lookZ; rw [if_pos rfl]; rfl), h.2⟩))
        unfold thdB runB voidB at C1
        unfold divB waitB voidB at C2
        unfold objB voidB at C3
        clear hlt hn hr
        go_wp2_with (fail)
        refine C1.out.mono ?_
        rintro e w3 ⟨rfl, ho3⟩
        have hm3 := heap_alloc_new w3 (.cells #[.int .i64 2, .int .i64 3, .string ⟨#[40, 41, 86]⟩, .bool false, .int .i64 0] 34)
        have HO4 := Lib.hid ((HON.out.trans ho3 (fun _ h _ => h)).alloc (.cells #[.int .i64 2, .int .i64 3, .string ⟨#[40, 41, 86]⟩, .bool false, .int .i64 0] 34))
        obtain ⟨w4, hw4⟩ : ∃ x, w3.alloc (.cells #[.int .i64 2, .int .i64 3, .string ⟨#[40, 41, 86]⟩, .bool false, .int .i64 0] 34) = x := ⟨_, rfl⟩
        obtain ⟨M1, hM1⟩ : ∃ x, w3.heap.size = x := ⟨_, rfl⟩
        rw [hw4] at hm3 HO4
        rw [hM1] at hm3
        have HM3 := Lib.hid hm3
        have HW4 := Lib.hid hw4
        have HM1 := Lib.hid hM1
        clear ho3 hm3 hw4 hM1
        go_wp2_with (fail)
        rw [HM1.out, HW4.out]
        refine (C2.out _ HO4.out).mono ?_
        rintro e w5 ⟨rfl, ho5⟩
        have hm5 := heap_alloc_new w5 (.cells #[.int .i64 0, .int .i64 1, .string ⟨#[40, 41, 86]⟩, .bool false, .int .i64 0] 34)
        have ha5 := ho5.alloc (.cells #[.int .i64 0, .int .i64 1, .string ⟨#[40, 41, 86]⟩, .bool false, .int .i64 0] 34)
        obtain ⟨w6, hw6⟩ : ∃ x, w5.alloc (.cells #[.int .i64 0, .int .i64 1, .string ⟨#[40, 41, 86]⟩, .bool false, .int .i64 0] 34) = x := ⟨_, rfl⟩
        obtain ⟨M2, hM2⟩ : ∃ x, w5.heap.size = x := ⟨_, rfl⟩
        rw [hw6] at hm5 ha5
        rw [hM2] at hm5
        have HM5 := Lib.hid hm5
        have HM35 := Lib.hid (ha5.heap HM3.out (fun h => h))
        have HO6 := Lib.hid (HO4.out.trans ha5 (fun _ h _ => h))
        have HW6 := Lib.hid hw6
        have HM2 := Lib.hid hM2
        clear ho5 hm5 ha5 hw6 hM2
        go_wp2_with (fail)
        rw [HM2.out, HW6.out]
        refine (C3.out _ HO6.out).mono ?_
        rintro e w7 ⟨rfl, ho7⟩
        have ha7 := ho7.alloc (.cells #[.int .i64 0, .int .i64 0, .string ⟨#[]⟩, .bool false, .int .i64 0] 34)
        have p0 := cell_blk (ha7.heap HM35.out (fun h => h)) 0
        have p1 := cell_blk (ha7.heap HM5.out (fun h => h)) 0
        have p2 := cell_blk (ha7.heap HM5.out (fun h => h)) 1
        obtain ⟨w8, hw8⟩ : ∃ x, w7.alloc (.cells #[.int .i64 0, .int .i64 0, .string ⟨#[]⟩, .bool false, .int .i64 0] 34) = x := ⟨_, rfl⟩
        rw [hw8] at ha7
        have HO8 := Lib.hid (HO6.out.trans ha7 (fun _ h _ => h))
        have HW8 := Lib.hid hw8
        have C9 := Lib.hid (CL.out w8 HO8.out)
        have hkc : ((ks.length : Nat) : Int) = 13 + (cs.length : Int) := by have := HKL.out; omega
        rw [hkc] at C9
        clear ha7 hw8 ho7 hkc
        go_wp2_with (fail)
        rw [HW8.out]
        refine C9.out.mono ?_
        rintro e w9 ⟨rfl, hww⟩
        subst hww
        have HOZ := Lib.hid (HN1.out.trans HO8.out (fun _ h _ => h))
        go_wp2
        go_ret
        exact ⟨rfl, HOZ.out⟩
end Go.Proofs.YtgdgffnaknkbcaaGreatDoor
