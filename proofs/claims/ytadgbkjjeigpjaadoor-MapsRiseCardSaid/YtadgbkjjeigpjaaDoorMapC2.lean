/- The program's placesOf, and what may stand in a frame. Condition: the pool's own reach. -/
import Derived.Test.YtadgbkjjeigpjaaDoorMapC
import Derived.Test.YtadgbkjjeigpjaaDoorPolM
namespace Go.Proofs.YtadgbkjjeigpjaaDoor
open Go.RowKit Go.Maps
set_option linter.unusedVariables false
set_option linter.unusedSimpArgs false

theorem PlM.put {w1 : World} {mb j n : Nat} {cs : List ConstV} {D : DataW Unit} {t : TypeV} (h1 : n ≤ j) (h3 : IsMap D) (h4 : ∀ t, SmT t → (Maps.has D (keyT t) = true ↔ ∃ i : Nat, i < j ∧ typeN (classZ cs i).1 = some t))
    (h2 : w1.ownsMap Tryd.prog 39 (plainElem (H := Unit) Tryd.prog 3) mb (n + 1) (D.put (keyT t) (.lit (.int .i64 j)))) (ht : typeN (classZ cs j).1 = some t) (hs : SmT t) : PlM w1 mb cs (j + 1) := by
  refine ⟨n + 1, _, by omega, h2, h3.put _ _, fun u hu => ?_⟩
  by_cases he : u = t
  · subst he
    rw [has_put_same h3 (law_type.key (key_type hs))]
    exact ⟨fun _ => ⟨j, by omega, ht⟩, fun _ => rfl⟩
  · have hne : keyT u ≠ keyT t := fun e => he (keyT_inj hu hs e)
    rw [has_put_other hne, h4 u hu]
    constructor
    · rintro ⟨i, hi, e⟩; exact ⟨i, by omega, e⟩
    · rintro ⟨i, hi, e⟩
      by_cases hij : i = j
      · subst hij
        rw [ht] at e
        injection e with e
        exact absurd e.symm he
      · exact ⟨i, by omega, e⟩
set_option maxHeartbeats 8000000 in
set_option maxRecDepth 100000 in
theorem mPlacesOf (vp : Value) (cs : List ConstV) (w : World) (hp : Pool w vp cs) :
    Calls Tryd.prog 22 #[vp] w fun e w' => e = .returned (.map (some w.heap.size)) ∧ PlM w' w.heap.size cs (min cs.length 65536) ∧ Only (fun _ => False) w w' := by
  obtain ⟨ap, cp, rfl, hc1, hc2, -⟩ := id hp
  have HP := Lib.hid hp
  have hmm := make_typesK
  have hown0 := World.ownsMap_made w Tryd.prog 39 (plainElem (H := Unit) Tryd.prog 3)
  have hon0 := (Only.refl (fun _ => False) w).alloc (.map #[] 0)
  have HPL0 := Lib.hid (show PlM (w.alloc (.map #[] 0)) w.heap.size cs 0 from ⟨0, _, Nat.le_refl _, hown0, ⟨[], rfl⟩, fun t ht => by
    constructor
    · intro h; exact absurd h (by simp [Maps.has])
    · rintro ⟨i, hi, _⟩; omega⟩)
  have HON0 := Lib.hid hon0
  obtain ⟨mn, hmn⟩ : ∃ mn, min cs.length 65536 = mn := ⟨_, rfl⟩
  have hmnz : min ((cs.length : Nat) : Int) 65536 = ((mn : Nat) : Int) := by omega
  have hml : mn ≤ 65536 := by omega
  rw [hmn]
  clear hp hown0 hon0 hmn
  go_enter Tryd.func22, Tryd.ntmps22
  go_wp2
  go_loopw [15] (fun iv wr => ∃ j : Nat, iv = .int .i64 j ∧ j ≤ mn ∧ PlM wr w.heap.size cs j ∧ Only (fun _ => False) w wr) (fun iv _ => mn - (intOf iv).toNat)
  case atStart => exact ⟨0, rfl, Nat.zero_le _, HPL0.out, HON0.out⟩
  case round =>
    obtain ⟨j, rfl, hj, hpl, hon⟩ := hrel
    have HPM := Lib.hid hpl
    have HON := Lib.hid hon
    clear HPL0 HON0
    by_cases hlt : j < mn
    · have hjz : (j : Int) < (mn : Int) := by omega
      have cC := progClass _ cs (j : Int) wr (HP.out.only hon (fun _ _ h => h))
      have hsm := class_small (HP.out.only hon (fun _ _ h => h)) (j : Int)
      have HST := Lib.hid (show PlM wr w.heap.size cs j from hpl)
      obtain ⟨s, okb, hcz⟩ : ∃ s okb, classZ cs (j : Int) = (s, okb) := ⟨_, _, rfl⟩
      have hcs : (classZ cs (j : Int)).1 = s := by rw [hcz]
      rw [hcz] at cC hsm
      simp only at cC hsm
      have HCS := Lib.hid hcs
      have CC := Lib.hid cC
      have cT := fun w => progMType s w hsm
      have hts := typO_small hsm
      unfold TypeTo at cT
      obtain ⟨t, ht⟩ : ∃ t, typO (typeN s) = t := ⟨_, rfl⟩
      obtain ⟨isb, hib⟩ : ∃ b, (typeN s).isSome = b := ⟨_, rfl⟩
      have HTN := Lib.hid (show isb = true → typeN s = some t from fun h => by
        rw [← hib] at h
        cases hq : typeN s with
        | none => rw [hq] at h; cases h
        | some u => rw [hq] at ht; exact congrArg some ht)
      have HTF := Lib.hid (show isb = false → typeN s = none from fun h => by
        rw [← hib] at h
        cases hq : typeN s with
        | none => rfl
        | some u => rw [hq] at h; cases h)
      rw [ht] at hts
      simp only [ht, hib] at cT
      have HSM := Lib.hid hts
      have HKEY := Lib.hid (key_type hts)
      unfold valT at cT HKEY
      have CT := Lib.hid cT
      clear cC hsm hcz hcs cT ht hib hts hpl hon
      go_wp2_with (fail)
      refine CC.out.mono ?_
      rintro e w2 ⟨rfl, ho2⟩
      have HO2 := Lib.hid (HON.out.trans ho2 (fun _ h _ => h))
      have HM2 := Lib.hid (HPM.out.only ho2 (fun h => h))
      clear ho2 CC HON HPM HST
      go_wp2_with (fail)
      refine (CT.out _).mono ?_
      rintro e w3 ⟨rfl, ho3⟩
      have ho4 := ho3.alloc (.cells #[.int .i64 t.k, .string t.name, .int .i64 t.dims, .int .i64 t.elem, .int .i64 t.at_] 39)
      have hpl4 := HM2.out.only ho4 (fun h => h)
      obtain ⟨d0, d1, d2, d3, d4⟩ := cells5T (heap_alloc_new w3 (.cells #[.int .i64 t.k, .string t.name, .int .i64 t.dims, .int .i64 t.elem, .int .i64 t.at_] 39))
      have HO4 := Lib.hid (HO2.out.trans ho4 (fun _ h _ => h))
      have HM4 := Lib.hid hpl4
      obtain ⟨n, D, hn, hown, hD, hall⟩ := hpl4
      have HOWN := Lib.hid hown
      have HALL := Lib.hid (And.intro hD hall)
      clear ho3 ho4 hown hD hall CT HO2 HM2
      cases isb with
      | false =>
        have hnn : typeN (classZ cs (j : Int)).1 = none := by rw [HCS.out]; exact HTF.out rfl
        have HN := Lib.hid (HM4.out.skip (fun u hu => by rw [hnn] at hu; cases hu))
        clear HM4 hnn HTN HTF
        go_wp2_with (at_lookup; refine wpList_lookup_own_ok_int _ rfl _ _ 65 rfl 39 3 .i64 law_type under_places Tryd.underlying3 (zero_intK _) w.heap.size n D rfl (by exact HOWN.out) _ (keyT t) rfl (by exact HKEY.out) ?_; intro c hat hwc; clear hat hwc)
        go_roundw
        case rel => exact ⟨j + 1, by go_num, by omega, HN.out, HO4.out⟩
        case measure => simp [intOf]; omega
      | true =>
        have htt := HTN.out rfl
        cases hh : Maps.has D (keyT t) with
        | true =>
          have HN := Lib.hid (HM4.out.skip (fun u hu => by
            rw [HCS.out, htt] at hu
            injection hu with hu
            subst hu
            exact (HALL.out.2 t HSM.out).1 hh))
          have HH := Lib.hid hh
          clear HM4 hh htt HTN HTF
          go_wp2_with (at_lookup; refine wpList_lookup_own_ok_int _ rfl _ _ 65 rfl 39 3 .i64 law_type under_places Tryd.underlying3 (zero_intK _) w.heap.size n D rfl (by exact HOWN.out) _ (keyT t) rfl (by exact HKEY.out) ?_; intro c hat hwc; rw [HH.out]; clear hat hwc)
          go_roundw
          case rel => exact ⟨j + 1, by go_num, by omega, HN.out, HO4.out⟩
          case measure => simp [intOf]; omega
        | false =>
          have HH := Lib.hid hh
          have HTT := Lib.hid htt
          clear HM4 hh htt HTN HTF
          go_wp2_with (first | (at_lookup; refine wpList_lookup_own_ok_int _ rfl _ _ 65 rfl 39 3 .i64 law_type under_places Tryd.underlying3 (zero_intK _) w.heap.size n D rfl (by exact HOWN.out) _ (keyT t) rfl (by exact HKEY.out) ?_; intro c hat hwc; rw [HH.out]; clear hat hwc) | (at_mapUpdate; go_loud (refine wpList_mapUpdate_own _ rfl _ _ _ 65 rfl 39 3 law_type under_places _ w.heap.size n _ rfl (by exact HOWN.out) (by unfold maxLen; omega) (.agg #[.int .i64 t.k, .string t.name, .int .i64 t.dims, .int .i64 t.elem, .int .i64 t.at_]) (.int .i64 j) (keyT t) rfl rfl (by exact HKEY.out) _ [] (plainElem_int Tryd.underlying3 (WalkArith.wf_i64 (by omega))) ?_); intro w5 hown5 hgrow5))
          have HN := Lib.hid (PlM.put hn HALL.out.1 HALL.out.2 hown5 (by rw [HCS.out]; exact HTT.out) HSM.out)
          have HO5 := Lib.hid (HO4.out.grown hgrow5 (fun i hi hl => by cases hi; omega))
          clear hown5 hgrow5
          go_wp2
          go_roundw
          case rel => exact ⟨j + 1, by go_num, by omega, HN.out, HO5.out⟩
          case measure => simp [intOf]; omega
    · obtain rfl : j = mn := by omega
      clear hlt hj hpl hon
      go_wp2
      go_ret
      exact ⟨rfl, HPM.out, HON.out⟩
end Go.Proofs.YtadgbkjjeigpjaaDoor
