/- What a right method is, in plain words, and the document's own look at one. No condition but the form's own reach. -/
import Derived.Test.YtodhdiccfobcfaaGreatDoorGClsR
namespace Go.Proofs.YtodhdiccfobcfaaGreatDoor
open Go.RowKit
set_option linter.unusedVariables false
set_option linter.unusedSimpArgs false

/-- What a look at a method answers. -/
def IsTo (Q : Prop) (w : World) (e : Ending) (w' : World) : Prop := ∃ r, e = .returned (.bool r) ∧ (r = true ↔ Q) ∧ Only (fun _ => False) w w'
theorem IsTo.no {Q : Prop} {w w' : World} (h : ¬ Q) (ho : Only (fun _ => False) w w') : IsTo Q w (.returned (.bool false)) w' := ⟨false, rfl, by simp [h], ho⟩
theorem MethodP.mk {cs : List ConstV} {fl nm ds st lo : Int} {code maps : List Int} {traps : List TrapV} (h0 : fl = 0 ∨ fl = 8) (h1 : (textZ cs nm).2 = true) (h2 : (textZ cs ds).2 = true) (h3 : 0 ≤ st) (h4 : st ≤ 64) (h5 : 0 ≤ lo) (h6 : lo ≤ 64)
    (h7 : 1 ≤ (code.length : Int)) (h8 : (code.length : Int) ≤ 4096) (h9 : (maps.length : Int) ≤ 4096) (h10 : ¬ placeOf cs codeT = 0) (h11 : 0 < maps.length → ¬ placeOf cs mapsT = 0) : HeadP cs ⟨fl, nm, ds, st, lo, code, traps, maps⟩ ∧ BodyP cs ⟨fl, nm, ds, st, lo, code, traps, maps⟩ :=
  ⟨⟨h0, h1, h2, h3, h4, h5, h6⟩, ⟨show 1 ≤ code.length by omega, show code.length ≤ 4096 by omega, show maps.length ≤ 4096 by omega, h10, h11⟩⟩
theorem IsTo.yes {Q : Prop} {w w' : World} (h : Q) (ho : Only (fun _ => False) w w') : IsTo Q w (.returned (.bool true)) w' := ⟨true, rfl, by simp [h], ho⟩

set_option maxHeartbeats 8000000 in
set_option maxRecDepth 100000 in
theorem refMethod (v : Value) (cs : List ConstV) (m : MethodV) (vc vt vm : Value) (w : World) (hp : Pool w v cs) (hi : Inside w m vc vt vm) (hr : MethodR m) :
    Calls Tryz.prog 51 #[v, .agg #[.int .i64 m.flags, .int .i64 m.name, .int .i64 m.desc, .int .i64 m.stack, .int .i64 m.locals, vc, vt, vm]] w (IsTo (MethodP cs m) w) := by
  obtain ⟨ao, cap, rfl, _, _, _, _, _⟩ := id hp
  obtain ⟨hc, ht, hm⟩ := hi
  obtain ⟨ac, cc, rfl, hc1, hc2, _, _, _⟩ := id hc
  obtain ⟨am, cm, rfl, hm1, hm2, _, _, _⟩ := id hm
  obtain ⟨at_, ct, rfl, ht1, ht2⟩ := ht.1.slice
  have cU := fun i w' (ho : Only (fun _ => False) w w') => refUtf _ cs i w' (hp.only ho (fun _ _ h => h))
  have cC := fun i w' (ho : Only (fun _ => False) w w') => refCls _ cs i w' (hp.only ho (fun _ _ h => h))
  have cP := fun s w' (ho : Only (fun _ => False) w w') => refPlace _ cs s w' (hp.only ho (fun _ _ h => h))
  have HT := Lib.hid ht
  have CU := Lib.hid cU
  have CC := Lib.hid cC
  have CP := Lib.hid cP
  obtain ⟨fl, nm, ds, st, lo, code, traps, maps⟩ := m
  obtain ⟨r0, r1, r2, r3, r4⟩ := hr
  unfold I64 at r0 r1 r2 r3 r4
  simp only at *
  unfold maxLen at hc2 hm2
  have ho0 : ∀ o, Only (fun _ => False) w (w.alloc o) := fun o => (Only.refl _ w).alloc o
  have HO := Lib.hid ho0
  have hQ : MethodP cs ⟨fl, nm, ds, st, lo, code, traps, maps⟩ = (HeadP cs ⟨fl, nm, ds, st, lo, code, traps, maps⟩ ∧ BodyP cs ⟨fl, nm, ds, st, lo, code, traps, maps⟩ ∧ ∀ t ∈ traps, TrapP cs code.length t) := rfl
  have HQ := Lib.hid hQ
  have hbx := heap_alloc_new w (.cells #[.int .i64 fl, .int .i64 nm, .int .i64 ds, .int .i64 st, .int .i64 lo, .slice ac code.length cc, .slice at_ traps.length ct, .slice am maps.length cm] 62)
  have q6 := cell_blk hbx 6
  simp at q6
  have Q6 := Lib.hid q6
  clear hQ hp hc hm ht cU cC cP ho0 hbx q6
  go_enter Tryz.func51, Tryz.ntmps51
  go_wp2_with (first | (go_at_call 50; refine (CU.out _ _ (HO.out _)).mono ?_; rintro e w' ⟨rfl, rfl⟩) | (go_at_call 25; refine (CP.out _ _ (HO.out _)).mono ?_; rintro e w' ⟨rfl, rfl⟩))
  all_goals first
    | (go_ret; exact IsTo.no (fun h => by
        obtain ⟨⟨hf, h1, h2, h3, h4, h5, h6⟩, ⟨h7, h8, h9, h10, h11⟩, _⟩ := h
        unfold FlagsP at hf
        simp only [beq_iff_eq, codeT, mapsT] at *
        first
          | omega
          | exact absurd h1 (by assumption)
          | exact absurd h2 (by assumption)
          | exact absurd (by assumption) h10
          | (have h12 := h11 (by assumption); omega)) (HO.out _))
    | skip
  all_goals
    have hfl : fl = 0 ∨ fl = 8 := by omega
    have hHB := MethodP.mk (cs := cs) (fl := fl) (nm := nm) (ds := ds) (st := st) (lo := lo) (code := code) (maps := maps) (traps := traps) hfl (by assumption) (by assumption) (by omega) (by omega) (by omega) (by omega) (by omega) (by omega) (by omega) (by assumption)
      (fun hpos => by
        first
          | (exfalso; apply absurd hpos; assumption)
          | (simp_all; done))
    have HHB := Lib.hid hHB
    clear hHB
    rcases hfl with rfl | rfl
  all_goals first | (exfalso; omega) | skip
  all_goals
    have d1 : decide (st < 0) = false := decide_eq_false (by omega)
    have d2 : decide ((64 : Int) < st) = false := decide_eq_false (by omega)
    have d3 : decide (lo < 0) = false := decide_eq_false (by omega)
    have d4 : decide ((64 : Int) < lo) = false := decide_eq_false (by omega)
    have d5 : decide ((code.length : Int) < 1) = false := decide_eq_false (by omega)
    have d6 : decide ((4096 : Int) < (code.length : Int)) = false := decide_eq_false (by omega)
    have d7 : decide ((4096 : Int) < (maps.length : Int)) = false := decide_eq_false (by omega)
    have e1 : (placeOf cs ⟨#[67, 111, 100, 101]⟩ == 0) = false := beq_eq_false_iff_ne.2 HHB.out.2.2.2.2.1
    have e2 : 0 < maps.length → (placeOf cs ⟨#[83, 116, 97, 99, 107, 77, 97, 112, 84, 97, 98, 108, 101]⟩ == 0) = false := fun h => beq_eq_false_iff_ne.2 (HHB.out.2.2.2.2.2 h)
    try simp only [d1, d2, d3, d4, d5, d6, d7, e1, Bool.or_false, Bool.or_self]
    try simp only [e2 (by first | assumption | omega | (simp_all; done)), Bool.or_false, Bool.or_self]
    clear d1 d2 d3 d4 d5 d6 d7 e1 e2
  all_goals
    go_loopw [6] (fun i wr => ∃ j : Nat, j ≤ traps.length ∧ i = .int .i64 j ∧ (∀ t ∈ traps.take j, TrapP cs code.length t) ∧ wr.cell? ⟨w.heap.size, 6, none⟩ = some (.slice at_ traps.length ct) ∧ Only (fun _ => False) w wr) (fun i _ => traps.length - (intOf i).toNat)
    case atStart => exact ⟨0, Nat.zero_le _, rfl, (fun t ht => by simp at ht), (by first | (simp; done) | exact Q6.out), HO.out _⟩
    case round =>
      obtain ⟨j, hj, rfl, hall, q6, hwo⟩ := hrel
      have Q6R := Lib.hid q6
      have HALL := Lib.hid hall
      have HWO := Lib.hid hwo
      clear hall
      by_cases hlt : j < traps.length
      · have hjz : (j : Int) < (traps.length : Int) := by omega
        have hj0 : (0 : Int) ≤ (j : Int) := by omega
        obtain ⟨b, o, e2, hc⟩ := (Traps.only hwo HT.out).1.at hlt
        subst e2
        have htr := HT.out.2 _ (getD_mem hlt)
        have hmem := getD_mem hlt
        have htk : traps.take (j + 1) = traps.take j ++ [traps.getD j default] := by
          rw [List.take_succ_eq_append_getElem hlt]
          congr 1
          simp [List.getD, hlt]
        have HMEM := Lib.hid hmem
        have HTK := Lib.hid htk
        obtain ⟨k0, k1, k2, k3⟩ := hc
        clear hwo hmem htk
        obtain ⟨t, ht⟩ : ∃ t, traps.getD j default = t := ⟨_, rfl⟩
        rw [ht] at k0 k1 k2 k3 htr
        have HTJ := Lib.hid ht
        clear ht
        obtain ⟨tf, tt, th, ty⟩ := t
        obtain ⟨t0, t1, t2, t3⟩ := htr
        unfold I64 at t0 t1 t2 t3
        simp only at k0 k1 k2 k3 t0 t1 t2 t3
        go_wp2_with (go_at_call 49; refine (CC.out _ _ (HWO.out.alloc _)).mono ?_; rintro e w' ⟨rfl, rfl⟩)
        all_goals first
          | (go_ret; exact IsTo.no (fun h => by
              have h5 := h.2.2 _ HMEM.out
              rw [HTJ.out] at h5
              obtain ⟨h1, h2, h3, h4, h6, h7⟩ := h5
              simp only at h1 h2 h3 h4 h6 h7
              clear HALL HWO HTK HMEM HHB HQ HO CU CC CP
              first
                | (omega; done)
                | (rcases h7 with h7 | h7
                   · first
                       | (omega; done)
                       | (simp_all; done)
                       | (simp_all; omega)
                   · first
                       | (simp_all; done)
                       | (simp_all; omega))) (HWO.out.alloc _))
          | (go_roundw
             case rel =>
               first
                 | refine ⟨j + 1, by omega, by go_num, fun t ht => ?_, ((Only.refl (fun _ => False) wr).alloc _).cell Q6R.out (fun h => h), HWO.out.alloc _⟩
                 | (repeat apply Exists.intro
                    refine ⟨?_, rfl⟩
                    refine ⟨j + 1, by omega, by go_num, fun t ht => ?_, ((Only.refl (fun _ => False) wr).alloc _).cell Q6R.out (fun h => h), HWO.out.alloc _⟩)
               rw [HTK.out, HTJ.out] at ht
               rcases List.mem_append.1 ht with ht | ht
               · exact HALL.out t ht
               · simp only [List.mem_cons, List.mem_nil_iff, or_false] at ht
                 subst ht
                 clear HALL HWO HTK HMEM HHB HQ HO CU CC CP
                 refine ⟨?_, ?_, ?_, ?_, ?_, ?_⟩
                 all_goals first
                   | (omega; done)
                   | (simp_all; done)
                   | (simp_all; omega)
                   | exact .inl (by omega)
                   | exact .inr (by assumption)
             case measure => simp [intOf]; omega)
      · have hjn : j = traps.length := by omega
        have hnz : (traps.length : Int) ≤ (j : Int) := by omega
        clear hlt
        go_wp2
        go_ret
        refine IsTo.yes ⟨HHB.out.1, HHB.out.2, fun t ht => HALL.out t ?_⟩ HWO.out
        rw [hjn, List.take_of_length_le (Nat.le_refl _)]
        exact ht
end Go.Proofs.YtodhdiccfobcfaaGreatDoor
