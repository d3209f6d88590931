/- The walk of the law LinkTree. Condition: the argument reads as a list of classes. -/
import Derived.Test.YtgdgffnaknkbcaaGreatDoorMtClsJLnkS
import Derived.Test.YtgdgffnaknkbcaaGreatDoorMtKndHLpRg
namespace Go.Proofs.YtgdgffnaknkbcaaGreatDoor
open Go.RowKit
set_option linter.unusedVariables false
set_option linter.unusedSimpArgs false
set_option maxHeartbeats 32000000 in
set_option maxRecDepth 100000 in
theorem walkTree (v : Value) (cs : List ClassV) (a b : Int) (w : World) (hc : Classes w v cs) (hT : Tabs w) (hE : ErrV w) (ha : 0 ≤ a ∧ a < 256) (hb : 0 ≤ b ∧ b < 256) :
    Calls Tryz.prog 5 #[v, .int .u8 a, .int .u8 b] w fun e w' => e = .returned (.bool true) ∧ Only (fun _ => False) w w' := by
  have CB := Lib.hid (pBuild v cs w hc hT hE)
  have CA := Lib.hid awake9
  obtain ⟨ha0, ha1⟩ := ha
  obtain ⟨hb0, hb1⟩ := hb
  clear hc hT hE
  go_enter Tryz.func5, Tryz.ntmps5
  go_wp2_with (fail)
  refine CB.out.mono ?_
  rintro e w1 ⟨ho1, hcase⟩
  have HO1 := Lib.hid ho1
  clear ho1 CB
  rcases hcase with ⟨hz, rfl⟩ | ⟨hz, pb, fv, cl, rfl, hm⟩
  · have hzb : (buildZ cs != 0) = true := by simpa using hz
    generalize buildZ cs = bz at *
    clear hz
    go_wp2_with (fail)
    refine (CA.out _).mono ?_
    rintro e w2 ⟨rfl, ho2⟩
    have HO2 := Lib.hid (HO1.out.trans ho2 (fun _ h _ => h))
    clear ho2
    go_wp2
    go_ret
    exact ⟨rfl, HO2.out⟩
  · obtain ⟨hl16, h0, hR⟩ := build_zero hz
    have HG := Lib.hid (right_good h0 hl16 hR)
    have HP := Lib.hid hm.prog
    have HTOP := Lib.hid (fun j (hj : j < (kindsZ cs).length) => sub_top h0 hl16 hR hj)
    have HSELF := Lib.hid (fun j (hj : j < (kindsZ cs).length) => sub_self h0 hl16 hR hj)
    have HSUP := Lib.hid (fun j (hj : j < (kindsZ cs).length) h1 => sub_super h0 hl16 hR hj h1)
    clear hm hz h0 hR hl16
    generalize kindsZ cs = ks at *
    have hkl := HG.out.small.1
    have hk13 := HG.out.pos
    have hkz : ((ks.length : Nat) : Int) ≤ 64 := by omega
    have hk1z : (13 : Int) ≤ ((ks.length : Nat) : Int) := by omega
    have CT := Lib.hid (fun W (hW : Only (fun _ => False) w1 W) => pTree (HP.out.only hW) (by omega) hkl)
    have CL := Lib.hid (fun W (hW : Only (fun _ => False) w1 W) => pLen (HP.out.only hW) (by omega))
    go_wp2_with (fail)
    refine (CT.out _ (Only.refl _ _)).mono ?_
    rintro e w2 ⟨tv, rfl, htv, ho2⟩
    have HTV := Lib.hid htv
    have HO2 := Lib.hid ho2
    clear htv ho2 CT
    go_wp2
    go_loopw [10, 11, 12, 13] (fun iv _ _ _ wr => ∃ n : Nat, iv = .int .i64 n ∧ n ≤ ks.length ∧ Hid (Only (fun _ => False) w1 wr) ∧ Hid (Only (fun _ => False) w2 wr)) (fun iv _ _ _ _ => ks.length - (intOf iv).toNat)
    case atStart => exact ⟨0, rfl, Nat.zero_le _, HO2, Lib.hid (Only.refl _ _)⟩
    case round =>
      obtain ⟨n, rfl, hn, HON, HON2⟩ := hrel
      have C0 := Lib.hid (CL.out _ HON.out)
      by_cases hlt : n < ks.length
      · have hnz : (n : Int) < (ks.length : Int) := by omega
        have hn0 : (0 : Int) ≤ (n : Int) := by omega
        have HPW := Lib.hid (HP.out.only HON.out)
        have C1 := Lib.hid (pSuper HPW.out (by omega) HG.out.root HG.out.fine (n : Int))
        have C2 := Lib.hid (fun x W (hW : Only (fun _ => False) wr W) => pSlotsAny HG.out _ x rfl W (HPW.out.only hW))
        have C3 := Lib.hid (fun x W (hW : Only (fun _ => False) wr W) => pSub (HPW.out.only hW) HG.out (n : Int) x)
        have h1 := HTOP.out n hlt
        have h2 := HSELF.out n hlt
        have h3 := HSUP.out n hlt
        have hss := slots_super HG.out.ends hlt
        have hsl := slotsAny_le HG.out (superZ ks (n : Int))
        have hsl2 := slotsAny_le HG.out (n : Int)
        have C2u := Lib.hid (C2.out (superZ ks (n : Int)))
        have C2n := Lib.hid (C2.out (n : Int))
        have C30 := Lib.hid (C3.out 0)
        have C3n := Lib.hid (C3.out (n : Int))
        have C3u := Lib.hid (C3.out (superZ ks (n : Int)))
        rw [h1] at C30
        rw [h2] at C3n
        have H3 := Lib.hid h3
        obtain ⟨up, hup⟩ : ∃ x, superZ ks (n : Int) = x := ⟨_, rfl⟩
        rw [hup] at C1 C2u C3u hss hsl H3
        obtain ⟨ts, hts⟩ : ∃ x, slotsAny ks up = x := ⟨_, rfl⟩
        rw [hts] at C2u hss hsl
        obtain ⟨us, hus⟩ : ∃ x, typesZ 0 (ks.getD n default).fields = x := ⟨_, rfl⟩
        rw [hus] at hss
        rw [hss] at C2n hsl2
        have hlen : (ts ++ us).length = ts.length + us.length := List.length_append
        have HLEN := Lib.hid hlen
        obtain ⟨la, hla⟩ : ∃ x, (ts ++ us).length = x := ⟨_, rfl⟩
        have HLA := Lib.hid hla
        obtain ⟨lt, hlt2⟩ : ∃ x, ts.length = x := ⟨_, rfl⟩
        have HLT := Lib.hid hlt2
        have hle : (lt : Int) ≤ (la : Int) := by omega
        have hle2 : ¬ (la : Int) < (lt : Int) := by omega
        have hlt0 : (0 : Int) ≤ (lt : Int) := by omega
        have hlaz : (la : Int) ≤ 4160 := by omega
        clear h1 h2 h3 hss hts hus hup hlen hla hlt2 hsl hsl2 C2 C3
        go_wp2_with (fail)
        refine C0.out.mono ?_
        rintro e w3 ⟨rfl, hww⟩
        subst hww
        go_wp2_with (fail)
        refine C1.out.mono ?_
        rintro e w4 ⟨rfl, ho4⟩
        have HO4 := Lib.hid ho4
        clear ho4
        go_wp2_with (fail)
        refine (C2u.out _ HO4.out).mono ?_
        rintro e w5 ⟨r5, rfl, hr5, ho5⟩
        obtain ⟨a5, c5, rfl, k1, k2, -, -⟩ := id hr5.types
        have HT5 := Lib.hid hr5.types
        rw [HLT.out] at k1 ⊢
        have HO5 := Lib.hid (HO4.out.trans ho5 (fun _ h _ => h))
        clear hr5 ho5
        go_wp2_with (fail)
        refine (C2n.out _ HO5.out).mono ?_
        rintro e w6 ⟨r6, rfl, hr6, ho6⟩
        obtain ⟨a6, c6, rfl, m1, m2, -, -⟩ := id hr6.types
        have HT6 := Lib.hid (types_take hr6.types)
        rw [HLA.out] at m1 ⊢
        have hcap : (lt : Int) ≤ (c6 : Int) := by omega
        have HO56 := Lib.hid ho6
        have HO6 := Lib.hid (HO5.out.trans ho6 (fun _ h _ => h))
        clear hr6 ho6
        go_wp2_with (fail)
        refine (C30.out _ HO6.out).mono ?_
        rintro e w7 ⟨rfl, ho7⟩
        have HO7 := Lib.hid (HO6.out.trans ho7 (fun _ h _ => h))
        have HO67 := Lib.hid ho7
        clear ho7
        go_wp2_with (fail)
        refine (C3n.out _ HO7.out).mono ?_
        rintro e w8 ⟨rfl, ho8⟩
        have HO8 := Lib.hid (HO7.out.trans ho8 (fun _ h _ => h))
        have HO68 := Lib.hid (HO67.out.trans ho8 (fun _ h _ => h))
        clear ho8
        by_cases hn00 : n = 0
        · have hng : ¬ (0 : Int) < (n : Int) := by omega
          have C9 := Lib.hid (fun W (hW : Only (fun _ => False) w6 W) => sameTy9 (.slice a6 lt c6) (.slice a5 lt c5) ts W (by rw [← HLT.out]; exact HT6.out.only hW) (by rw [← HLT.out]; exact HT5.out.only (HO56.out.trans hW (fun _ h _ => h))) (by have := HLT.out; omega))
          clear hn00
          go_wp2_with (fail)
          refine (C9.out _ HO68.out).mono ?_
          rintro e w9 ⟨rfl, ho9⟩
          have HO9 := Lib.hid (HON.out.trans (HO8.out.trans ho9 (fun _ h _ => h)) (fun _ h _ => h))
          have HO92 := Lib.hid (HON2.out.trans (HO8.out.trans ho9 (fun _ h _ => h)) (fun _ h _ => h))
          clear ho9
          go_wp2
          go_roundw
          case rel => exact ⟨n + 1, by go_num, by omega, HO9, HO92⟩
          case measure => simp [intOf]; omega
        · have hng : (0 : Int) < (n : Int) := by omega
          obtain ⟨i, hi, he, hsu⟩ := H3.out (by omega)
          rw [hsu] at C3u
          have C9 := Lib.hid (fun W (hW : Only (fun _ => False) w6 W) => sameTy9 (.slice a6 lt c6) (.slice a5 lt c5) ts W (by rw [← HLT.out]; exact HT6.out.only hW) (by rw [← HLT.out]; exact HT5.out.only (HO56.out.trans hW (fun _ h _ => h))) (by have := HLT.out; omega))
          clear hn00 hi he hsu
          go_wp2_with (fail)
          refine (C3u.out _ HO8.out).mono ?_
          rintro e wb ⟨rfl, hob⟩
          have HOB := Lib.hid (HO8.out.trans hob (fun _ h _ => h))
          have HO6B := Lib.hid (HO68.out.trans hob (fun _ h _ => h))
          clear hob
          go_wp2_with (fail)
          refine (C9.out _ HO6B.out).mono ?_
          rintro e w9 ⟨rfl, ho9⟩
          have HO9 := Lib.hid (HON.out.trans (HOB.out.trans ho9 (fun _ h _ => h)) (fun _ h _ => h))
          have HO92 := Lib.hid (HON2.out.trans (HOB.out.trans ho9 (fun _ h _ => h)) (fun _ h _ => h))
          clear ho9
          go_wp2
          go_roundw
          case rel => exact ⟨n + 1, by go_num, by omega, HO9, HO92⟩
          case measure => simp [intOf]; omega
      · obtain rfl : n = ks.length := by omega
        obtain ⟨wo, hwo⟩ : ∃ x, x = wr := ⟨_, rfl⟩
        subst hwo
        have hkne : ¬ ((ks.length : Nat) : Int) = 0 := by omega
        obtain ⟨x, hx⟩ : ∃ x : Nat, a.tmod (ks.length : Int) = (x : Int) := Int.eq_ofNat_of_zero_le (Int.tmod_nonneg _ ha0)
        obtain ⟨y, hy⟩ : ∃ x : Nat, b.tmod (ks.length : Int) = (x : Int) := Int.eq_ofNat_of_zero_le (Int.tmod_nonneg _ hb0)
        have hxl : x < ks.length := by have := Int.tmod_lt_of_pos a (show (0 : Int) < (ks.length : Int) by omega); omega
        have hyl : y < ks.length := by have := Int.tmod_lt_of_pos b (show (0 : Int) < (ks.length : Int) by omega); omega
        have HPW := Lib.hid (HP.out.only HON.out)
        have CX := Lib.hid (fun W (hW : Only (fun _ => False) wo W) => pSub (HPW.out.only hW) HG.out (x : Int) (y : Int))
        have CN1 := Lib.hid (fun W (hW : Only (fun _ => False) wo W) => pName (HPW.out.only hW) (by omega) (x : Int))
        have CN2 := Lib.hid (fun W (hW : Only (fun _ => False) wo W) => pName (HPW.out.only hW) (by omega) (y : Int))
        have hnx : nameZ ks (x : Int) = (ks.getD x default).name := by unfold nameZ; rw [if_neg (by omega), Int.toNat_natCast]
        have hny : nameZ ks (y : Int) = (ks.getD y default).name := by unfold nameZ; rw [if_neg (by omega), Int.toNat_natCast]
        rw [hnx] at CN1
        rw [hny] at CN2
        have hsb := sub_below HG.out hxl hyl
        have CBW := Lib.hid (fun W (hW : Only (fun _ => False) w2 W) => progBelow tv (treeZ ks) (ks.getD x default).name (ks.getD y default).name W (HTV.out.only hW) (by rw [treeZ_len]; omega) (names_all HG.out.fine) (by have := (HG.out.fine _ (getD_memK hxl)).name; unfold maxLen; omega))
        rw [← hsb] at CBW
        obtain ⟨at_, ct, rfl, -, -, -, -⟩ := id HTV.out
        have HTL := Lib.hid (treeZ_len ks)
        generalize subP ks (x : Int) (y : Int) = sv at *
        generalize (ks.getD x default).name = nx at *
        generalize (ks.getD y default).name = ny at *
        have CL2 := Lib.hid (fun W (hW : Only (fun _ => False) wo W) => CL.out W (HON.out.trans hW (fun _ h _ => h)))
        clear hlt hn hnx hny hsb hxl hyl
        go_wp2_with (fail)
        refine C0.out.mono ?_
        rintro e w3 ⟨rfl, hww⟩
        subst hww
        go_wp2_with (fail)
        refine C0.out.mono ?_
        rintro e w4 ⟨rfl, hww⟩
        subst hww
        go_wp2_with (fail)
        refine C0.out.mono ?_
        rintro e w5 ⟨rfl, hww⟩
        subst hww
        go_wp2_with (fail)
        refine (CX.out _ (Only.refl _ _)).mono ?_
        rintro e w6 ⟨rfl, ho6⟩
        have HO6 := Lib.hid ho6
        clear ho6
        go_wp2_with (fail)
        refine (CN1.out _ HO6.out).mono ?_
        rintro e w7 ⟨rfl, ho7⟩
        have HO7 := Lib.hid (HO6.out.trans ho7 (fun _ h _ => h))
        clear ho7
        go_wp2_with (fail)
        refine (CN2.out _ HO7.out).mono ?_
        rintro e w8 ⟨rfl, ho8⟩
        have HO8 := Lib.hid (HO7.out.trans ho8 (fun _ h _ => h))
        clear ho8
        go_wp2_with (fail)
        refine (CBW.out _ (HON2.out.trans HO8.out (fun _ h _ => h))).mono ?_
        rintro e w9 ⟨rfl, ho9⟩
        have HO9 := Lib.hid (HO8.out.trans ho9 (fun _ h _ => h))
        have hsvv : (sv == sv) = true := beq_self_eq_true sv
        have htt := HTL.out
        clear ho9
        go_wp2_with (fail)
        refine (CL2.out _ HO9.out).mono ?_
        rintro e wa ⟨rfl, hww⟩
        subst hww
        have HOZ := Lib.hid (HO1.out.trans (HON.out.trans HO9.out (fun _ h _ => h)) (fun _ h _ => h))
        go_wp2
        go_ret
        exact ⟨rfl, HOZ.out⟩
end Go.Proofs.YtgdgffnaknkbcaaGreatDoor
