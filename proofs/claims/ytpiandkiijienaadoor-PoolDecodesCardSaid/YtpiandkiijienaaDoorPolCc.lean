/- The program's Decode of a pool: what the document says. No condition but the form's own reach. -/
import Derived.Test.YtpiandkiijienaaDoorPolCb
import Derived.Test.YtpiandkiijienaaDoorPart
import Derived.WalkLawsBesides
namespace Go.Proofs.YtpiandkiijienaaDoor
open Go.RowKit
set_option linter.unusedVariables false
set_option linter.unusedSimpArgs false

/-- What the program's Decode leaves. -/
def DecTo (w : World) (zs : List Int) (e : Ending) (w' : World) : Prop :=
  ∃ v' cs n e0, e = .returned (.tuple #[v', .int .i64 n, .int .i64 e0]) ∧ DecP zs cs n e0 ∧ Only (fun _ => False) w w' ∧ Pool w' v' cs ∧ ∀ c ∈ cs, Fits c
theorem Pool.nil (w : World) : Pool w (.slice none 0 0) [] := ⟨Option.none, 0, rfl, Nat.le_refl _, by omega, fun _ => rfl, (fun c hc => by cases hc), fun x hx _ => by cases hx⟩

set_option maxHeartbeats 4000000 in
set_option maxRecDepth 100000 in
theorem progDecode (v : Value) (zs : List Int) (w : World) (hb : Bytes w v zs) (hl : zs.length ≤ 281474976710656) (hT : Tabs w) (hg : ErrV w) :
    Calls Tryd.prog 13 #[v] w (DecTo w zs) := by
  obtain ⟨ao, cap, rfl, hq1, hq2, hq3, hbz, hcells⟩ := id hb
  have h3w := hT.lt3
  have hM : (min (264959 : Int) (zs.length : Int)).toNat = (zs.take 264959).length := by rw [List.length_take]; omega
  have hml : (zs.take 264959).length ≤ zs.length := by rw [List.length_take]; omega
  have htk : zs.take (zs.take 264959).length = zs.take 264959 := by
    rw [List.length_take]
    by_cases h : zs.length ≤ 264959
    · rw [Nat.min_eq_right h, List.take_of_length_le (Nat.le_refl _), List.take_of_length_le h]
    · rw [Nat.min_eq_left (by omega)]
  have hb1 := Bytes.first hb _ hml
  rw [htk] at hb1
  have cN := newReader _ (zs.take 264959) w hb1 (by rw [List.length_take]; omega)
  have hDec : ∀ cs n e, DecP (zs.take 264959) cs n e → DecP zs cs n e := fun _ _ _ h => h.take (Nat.le_refl _)
  have hl2 : (zs.take 264959).length ≤ 140737488351232 := by rw [List.length_take]; omega
  obtain ⟨ys, hys⟩ : ∃ ys, zs.take 264959 = ys := ⟨_, rfl⟩
  rw [hys] at hM cN hl2
  simp only [hys] at hDec
  have CN := Lib.hid cN
  have HD := Lib.hid hDec
  have HT := Lib.hid hT
  have HG := Lib.hid hg
  have HM := Lib.hid hM
  have HL2 := Lib.hid hl2
  clear hb hcells hq3 hml htk hb1 cN hDec hys hT hg hbz hM hl2
  go_enter Tryd.func13, Tryd.ntmps13
  go_wp2_with (fail)
  rw [HM.out]
  refine CN.out.mono ?_
  rintro e w1 ⟨rb, sv, rfl, hrd, hbel, hge, hsv⟩
  have ho1 := Only.of_below hbel (fun _ => False)
  have cR := progReadPool rb sv ys w1 hrd HL2.out (HT.out.only ho1 (fun h => h) (fun h => h)) (by omega)
  have CR := Lib.hid cR
  have HO1 := Lib.hid ho1
  clear hrd hbel hsv ho1 cR CN
  go_wp2_with (fail)
  refine CR.out.mono ?_
  rintro e w2 ⟨v', ve, e0, rfl, hve, ho2, hres⟩
  have hon2 : Only (fun _ => False) w w2 := HO1.out.trans ho2 (fun k hk hl => by omega)
  have HON2 := Lib.hid hon2
  have HO2 := Lib.hid ho2
  clear CR ho2 hon2
  rcases hres with ⟨h0, hd⟩ | ⟨h0, ds, k, hd, hr2, hp2, hf2⟩
  · rcases hve with ⟨h1, _⟩ | ⟨_, p, rfl⟩
    · exact absurd h1 h0
    have cW := whichFault p e0 w2 (HG.out.only HON2.out (fun h => h))
    have CW := Lib.hid cW
    have HDD := Lib.hid (HD.out _ _ _ hd)
    clear cW hd h0
    go_wp2_with (fail)
    refine CW.out.mono ?_
    rintro e w3 ⟨rfl, ho3⟩
    have HO3 := Lib.hid ho3
    clear ho3 CW
    go_wp2
    go_ret3
    exact ⟨_, [], 0, e0, rfl, HDD.out, HON2.out.trans HO3.out (fun _ h => h.elim), Pool.nil _, fun c hc => by cases hc⟩
  · subst h0
    rcases hve with ⟨_, rfl⟩ | ⟨h1, _⟩
    · have cA := rdAtM rb sv ys k w2 hr2
      have CA := Lib.hid cA
      have HDD := Lib.hid (HD.out _ _ _ hd)
      have HP := Lib.hid hp2
      have HF := Lib.hid hf2
      obtain ⟨av, cv, rfl, _, _, _, _, _⟩ := id hp2
      clear cA hd hr2 hp2 hf2
      go_wp2_with (fail)
      refine CA.out.mono ?_
      rintro e w3 ⟨rfl, rfl⟩
      clear CA
      go_wp2
      go_ret3
      exact ⟨_, ds, k, 0, rfl, HDD.out, HON2.out, HP.out, HF.out⟩
    · exact absurd rfl h1
end Go.Proofs.YtpiandkiijienaaDoor
