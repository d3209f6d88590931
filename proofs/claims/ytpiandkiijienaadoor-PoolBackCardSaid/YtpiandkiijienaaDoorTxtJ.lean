/- The code point at the head of bytes, as the program reads it. No condition but the form's own reach. -/
import Derived.Test.YtpiandkiijienaaDoorTxtI
namespace Go.Proofs.YtpiandkiijienaaDoor
open Go.RowKit Go.Shelf
set_option linter.unusedVariables false
set_option linter.unusedSimpArgs false

theorem unit_inj {u v : Int} {r r' : List Int} (hu : Un u) (hv : Un v) (h : unitZ u ++ r = unitZ v ++ r') : u = v ∧ r = r' := by
  rcases unit_cases hu with ⟨a, b, e⟩ | ⟨a, a', b, e⟩ | ⟨a, b, e⟩ <;> rcases unit_cases hv with ⟨x, y, e'⟩ | ⟨x, x', y, e'⟩ | ⟨x, y, e'⟩ <;> rw [e, e'] at h <;> simp only [List.cons_append, List.nil_append, List.cons.injEq] at h <;> first | (exfalso; omega) | exact ⟨by omega, by simp_all⟩
theorem m8_units {c : Int} (h : Sc c) : (0 ≤ c ∧ c < 65536 ∧ (c < 55296 ∨ 57344 ≤ c) ∧ m8 c = unitZ c) ∨ (65536 ≤ c ∧ c ≤ 1114111 ∧ m8 c = unitZ (hiU c) ++ unitZ (loU c) ∧ 55296 ≤ hiU c ∧ hiU c ≤ 56319 ∧ 56320 ≤ loU c ∧ loU c ≤ 57343) := by
  unfold Sc at h
  by_cases hc : c < 65536
  · exact .inl ⟨by omega, hc, by omega, by unfold m8; rw [if_pos hc]⟩
  · refine .inr ⟨by omega, by omega, by unfold m8; rw [if_neg hc], ?_⟩
    unfold hiU loU
    omega

/-- What is said of the code point at the head of bytes. -/
def HeadTo (zs : List Int) (c : Int) (n : Nat) : Prop := (Sc c ∧ n = (m8 c).length ∧ ∃ r, zs = m8 c ++ r) ∨ ((∀ c r, Sc c → zs ≠ m8 c ++ r) ∧ n = 0)

theorem head_none {zs : List Int} (h : ∀ u r, Un u → zs ≠ unitZ u ++ r) : ∀ c r, Sc c → zs ≠ m8 c ++ r := by
  intro c r hc he
  rcases m8_units hc with ⟨a, b, _, e⟩ | ⟨a, b, e, h1, h2, _⟩
  · exact h c r ⟨a, by omega⟩ (by rw [he, e])
  · exact h (hiU c) (unitZ (loU c) ++ r) ⟨by omega, by omega⟩ (by rw [he, e, List.append_assoc])
theorem head_low {zs r : List Int} {u : Int} (hu : Un u) (hz : zs = unitZ u ++ r) (hl : 56320 ≤ u ∧ u ≤ 57343) : ∀ c r, Sc c → zs ≠ m8 c ++ r := by
  intro c r' hc he
  rw [hz] at he
  rcases m8_units hc with ⟨a, b, d, e⟩ | ⟨a, b, e, h1, h2, _⟩
  · rw [e] at he
    have := (unit_inj hu ⟨a, by omega⟩ he).1
    omega
  · rw [e, List.append_assoc] at he
    have := (unit_inj hu ⟨by omega, by omega⟩ he).1
    omega
theorem head_one {zs r : List Int} {u : Int} {n : Nat} (hu : Un u) (hn : n = (unitZ u).length) (hz : zs = unitZ u ++ r) (hl : u < 55296 ∨ 57344 ≤ u) : HeadTo zs u n := by
  have hs : Sc u := by unfold Sc; unfold Un at hu; omega
  have e : m8 u = unitZ u := by unfold m8; unfold Un at hu; rw [if_pos (by omega)]
  exact .inl ⟨hs, by rw [e]; exact hn, r, by rw [e]; exact hz⟩
theorem head_pair {zs r r2 : List Int} {u v : Int} (hu : Un u) (hz : zs = unitZ u ++ r) (hh : 55296 ≤ u ∧ u ≤ 56319) (hv : Un v) (hr : r = unitZ v ++ r2) (hl : 56320 ≤ v ∧ v ≤ 57343) (n : Nat) (hn : n = (unitZ u).length + (unitZ v).length) :
    HeadTo zs (65536 + (u - 55296) * 1024 + (v - 56320)) n := by
  have hs : Sc (65536 + (u - 55296) * 1024 + (v - 56320)) := by unfold Sc; omega
  have e1 : hiU (65536 + (u - 55296) * 1024 + (v - 56320)) = u := by unfold hiU; omega
  have e2 : loU (65536 + (u - 55296) * 1024 + (v - 56320)) = v := by unfold loU; omega
  have e : m8 (65536 + (u - 55296) * 1024 + (v - 56320)) = unitZ u ++ unitZ v := by unfold m8; rw [if_neg (by omega), e1, e2]
  exact .inl ⟨hs, by rw [e, List.length_append]; exact hn, r2, by rw [e, hz, hr, List.append_assoc]⟩
theorem head_half {zs r : List Int} {u : Int} (hu : Un u) (hz : zs = unitZ u ++ r) (hh : 55296 ≤ u ∧ u ≤ 56319) (h : ∀ v r2, Un v → r = unitZ v ++ r2 → ¬ (56320 ≤ v ∧ v ≤ 57343)) : ∀ c r, Sc c → zs ≠ m8 c ++ r := by
  intro c r' hc he
  rw [hz] at he
  rcases m8_units hc with ⟨a, b, d, e⟩ | ⟨a, b, e, h1, h2, h3, h4⟩
  · rw [e] at he
    have := (unit_inj hu ⟨a, by omega⟩ he).1
    omega
  · rw [e, List.append_assoc] at he
    have := (unit_inj hu ⟨by omega, by omega⟩ he).2
    exact h (loU c) r' ⟨by omega, by omega⟩ this ⟨h3, h4⟩

/-- The rest of bytes, behind the first so many. -/
theorem Bytes.rest {w : World} {ao : Option Addr} {cap : Nat} {zs : List Int} (hb : Bytes w (.slice ao zs.length cap) zs) (k : Nat) (hk : k ≤ zs.length) : Bytes w (.slice (ao.map fun x => x.add k) (zs.length - k) (cap - k)) (zs.drop k) := by
  obtain ⟨ao', cap', e, h1, h2, h3, h4, h⟩ := hb
  injection e with e1 _ e3
  subst e3 e1
  refine ⟨_, cap - k, by rw [List.length_drop], by rw [List.length_drop]; omega, by omega, (fun h => by have := h3 (by cases ao <;> simp_all); omega), h4.drop k, fun x hx j hj => ?_⟩
  rw [List.length_drop] at hj
  cases ao with
  | none => cases hx
  | some y =>
    cases hx
    have hp := plain_of_cell (h y rfl 0 (by omega))
    show w.cell? ((y.add k).add j) = _
    rw [hp, add_lit, add_lit, Nat.add_assoc]
    have := h y rfl (k + j) (by omega)
    rw [hp, add_lit] at this
    rw [this]
    simp [List.getD]
theorem Bytes.rest0 {w : World} {ao : Option Addr} {cap : Nat} {zs : List Int} (hb : Bytes w (.slice ao zs.length cap) zs) (k : Nat) (hk : k ≤ zs.length) (hc : cap = k) : Bytes w (.slice ao (zs.length - k) 0) (zs.drop k) := by
  obtain ⟨ao', cap', e, h1, h2, h3, h4, h⟩ := hb
  injection e with e1 _ e3
  have hlen : (zs.drop k).length = 0 := by rw [List.length_drop]; omega
  exact ⟨ao, 0, by rw [List.length_drop], by rw [hlen]; exact Nat.le_refl _, Nat.zero_le _, fun _ => rfl, h4.drop k, fun x hx j hj => by rw [hlen] at hj; omega⟩

set_option maxHeartbeats 4000000 in
set_option maxRecDepth 100000 in
theorem firstPoint (v : Value) (zs : List Int) (w : World) (hb : Bytes w v zs) (hl : zs.length ≤ 140737488355328) :
    Calls Tryd.prog 93 #[v] w fun e w' => (∃ (c : Int) (n : Nat), e = .returned (.tuple #[.int .i32 c, .int .i64 n]) ∧ HeadTo zs c n) ∧ Only (fun _ => False) w w' := by
  have hN : ∀ S : Nat → Prop, ∀ k, S k → ¬ (fun _ => False) k := fun _ _ _ h => h
  obtain ⟨ao, cap, rfl, hq1, hq2, hq3, hbz, hcells⟩ := id hb
  have Hb := Lib.hid hb
  clear hb hcells
  go_enter Tryd.func93, Tryd.ntmps93
  go_wp2_with (fail)
  refine (span _ _ _).mono ?_
  rintro e w1 ⟨f1, rfl, ⟨p1, q1, rfl, hp1, hq1'⟩, ho1⟩
  go_wp2_with (fail)
  refine (span _ _ _).mono ?_
  rintro e w2 ⟨f2, rfl, ⟨p2, q2, rfl, hp2, hq2'⟩, ho2⟩
  have hp1 := ho2.cell hp1 (fun h => h)
  have hq1' := ho2.cell hq1' (fun h => h)
  have ho12 := ho1.trans ho2 (fun _ h => h.elim)
  go_wp2_with (fail)
  refine (firstUnit _ zs _ ((Hb.out).only ho12 (fun _ _ _ h => h)) hl).mono ?_
  rintro e w3 ⟨⟨u, n, rfl, hu⟩, ho3⟩
  have ho13 := ho12.trans ho3 (fun _ h => h.elim)
  have hp1 := ho3.cell hp1 (fun h => h)
  have hq1' := ho3.cell hq1' (fun h => h)
  have hp2 := ho3.cell hp2 (fun h => h)
  have hq2' := ho3.cell hq2' (fun h => h)
  clear ho1 ho2 ho3 ho12
  rcases hu with ⟨hun, hn, r, hz⟩ | ⟨hno, rfl, rfl⟩
  · have hun2 := hun
    unfold Un at hun2
    have Hz := Lib.hid hz
    have Hn := Lib.hid hn
    have Hu := Lib.hid hun
    have hnl : n ≤ zs.length := by rw [hz, List.length_append]; omega
    have hn1 : 1 ≤ n := by rw [hn]; rcases unit_cases hun with ⟨_, _, e⟩ | ⟨_, _, _, e⟩ | ⟨_, _, e⟩ <;> rw [e] <;> simp
    clear hz hn hun
    by_cases hlow : 56320 ≤ u ∧ u ≤ 57343
    · obtain ⟨hlow1, hlow2⟩ := hlow
      go_wp2
      all_goals first | go_ret2 | skip
      all_goals try simp only [Bool.not_eq_true', Bool.not_eq_false', decide_eq_true_eq, decide_eq_false_iff_not] at *
      all_goals first | (exfalso; omega) | exact ⟨⟨_, 0, rfl, .inr ⟨head_low Hu.out Hz.out ⟨hlow1, hlow2⟩, rfl⟩⟩, ho13⟩
    by_cases hhi : 55296 ≤ u ∧ u ≤ 56319
    · obtain ⟨hhi1, hhi2⟩ := hhi
      have hlo' : u < 56320 := by omega
      have s1 := inSpan u 56320 57344 p2 q2 w3 hp2 hq2'
      rw [decide_eq_false (by omega)] at s1
      have s2 := inSpan u 55296 56320 p1 q1 w3 hp1 hq1'
      rw [decide_eq_true (by omega)] at s2
      have hnz : (n : Int) ≤ (zs.length : Int) := by omega
      have hncap : n ≤ cap := by omega
      go_wp2_with (fail)
      refine s1.mono ?_
      rintro e w4 ⟨rfl, rfl⟩
      go_wp2_with (fail)
      refine s2.mono ?_
      rintro e w4 ⟨rfl, rfl⟩
      clear s1 s2 hp1 hq1'
      go_wp2_with (fail)
      · have hb2 : Bytes w3 _ (zs.drop n) := Bytes.rest0 ((Hb.out).only ho13 (fun _ _ _ h => h)) n hnl (by omega)
        have hdr : zs.drop n = r := by rw [Hz.out, Hn.out, List.drop_left]
        refine (firstUnit _ (zs.drop n) _ hb2 (by rw [List.length_drop]; omega)).mono ?_
        rintro e w4 ⟨⟨u2, n2, rfl, hu2⟩, ho4⟩
        rw [hdr] at hu2
        have ho14 := ho13.trans ho4 (fun _ h => h.elim)
        have hp2 := ho4.cell hp2 (fun h => h)
        have hq2' := ho4.cell hq2' (fun h => h)
        clear ho4 ho13 hb2 hdr
        by_cases hl2 : 56320 ≤ u2 ∧ u2 ≤ 57343
        · obtain ⟨hl21, hl22⟩ := hl2
          rcases hu2 with ⟨hun3, hn3, r2, hr2⟩ | ⟨_, rfl, _⟩
          · have hn6 : n2 ≤ 3 := by rw [hn3]; rcases unit_cases hun3 with ⟨_, _, e⟩ | ⟨_, _, _, e⟩ | ⟨_, _, e⟩ <;> rw [e] <;> simp
            have hp := head_pair Hu.out Hz.out ⟨hhi1, hhi2⟩ hun3 hr2 ⟨hl21, hl22⟩ (n + n2) (by rw [← hn3, ← Hn.out])
            have Hp := Lib.hid hp
            clear hp hun3 hn3 hr2
            have hnn : IntKind.i64.wrap ((n : Int) + n2) = (n : Int) + n2 := IntWalk.i64_in _ (by omega)
            go_wp2
            all_goals first | go_ret2 | skip
            all_goals try simp only [Bool.not_eq_true', Bool.not_eq_false', decide_eq_true_eq, decide_eq_false_iff_not] at *
            all_goals first | (exfalso; omega) | exact ⟨⟨_, n + n2, by rw [Int.natCast_add]; rfl, Hp.out⟩, ho14⟩
          · exfalso; omega
        · have hno : ∀ v r2, Un v → r = unitZ v ++ r2 → ¬ (56320 ≤ v ∧ v ≤ 57343) := by
            intro v r2 hv he hvl
            rcases hu2 with ⟨hun3, _, r3, hr3⟩ | ⟨hn3, _, _⟩
            · rw [hr3] at he
              have := (unit_inj hun3 hv he).1
              subst this
              exact hl2 hvl
            · exact hn3 v r2 hv he
          have hf := head_half Hu.out Hz.out ⟨hhi1, hhi2⟩ hno
          clear hu2 hno
          have s3 := inSpan u2 56320 57344 p2 q2 w4 hp2 hq2'
          rw [decide_eq_false (by omega)] at s3
          go_wp2_with (fail)
          refine s3.mono ?_
          rintro e w5 ⟨rfl, rfl⟩
          clear s3
          go_wp2
          go_ret2
          exact ⟨⟨_, 0, rfl, .inr ⟨hf, rfl⟩⟩, ho14⟩
      · have hb2 : Bytes w3 _ (zs.drop n) := Bytes.rest ((Hb.out).only ho13 (fun _ _ _ h => h)) n hnl
        have hdr : zs.drop n = r := by rw [Hz.out, Hn.out, List.drop_left]
        refine (firstUnit _ (zs.drop n) _ hb2 (by rw [List.length_drop]; omega)).mono ?_
        rintro e w4 ⟨⟨u2, n2, rfl, hu2⟩, ho4⟩
        rw [hdr] at hu2
        have ho14 := ho13.trans ho4 (fun _ h => h.elim)
        have hp2 := ho4.cell hp2 (fun h => h)
        have hq2' := ho4.cell hq2' (fun h => h)
        clear ho4 ho13 hb2 hdr
        by_cases hl2 : 56320 ≤ u2 ∧ u2 ≤ 57343
        · obtain ⟨hl21, hl22⟩ := hl2
          rcases hu2 with ⟨hun3, hn3, r2, hr2⟩ | ⟨_, rfl, _⟩
          · have hn6 : n2 ≤ 3 := by rw [hn3]; rcases unit_cases hun3 with ⟨_, _, e⟩ | ⟨_, _, _, e⟩ | ⟨_, _, e⟩ <;> rw [e] <;> simp
            have hp := head_pair Hu.out Hz.out ⟨hhi1, hhi2⟩ hun3 hr2 ⟨hl21, hl22⟩ (n + n2) (by rw [← hn3, ← Hn.out])
            have Hp := Lib.hid hp
            clear hp hun3 hn3 hr2
            have hnn : IntKind.i64.wrap ((n : Int) + n2) = (n : Int) + n2 := IntWalk.i64_in _ (by omega)
            go_wp2
            all_goals first | go_ret2 | skip
            all_goals try simp only [Bool.not_eq_true', Bool.not_eq_false', decide_eq_true_eq, decide_eq_false_iff_not] at *
            all_goals first | (exfalso; omega) | exact ⟨⟨_, n + n2, by rw [Int.natCast_add]; rfl, Hp.out⟩, ho14⟩
          · exfalso; omega
        · have hno : ∀ v r2, Un v → r = unitZ v ++ r2 → ¬ (56320 ≤ v ∧ v ≤ 57343) := by
            intro v r2 hv he hvl
            rcases hu2 with ⟨hun3, _, r3, hr3⟩ | ⟨hn3, _, _⟩
            · rw [hr3] at he
              have := (unit_inj hun3 hv he).1
              subst this
              exact hl2 hvl
            · exact hn3 v r2 hv he
          have hf := head_half Hu.out Hz.out ⟨hhi1, hhi2⟩ hno
          clear hu2 hno
          have s3 := inSpan u2 56320 57344 p2 q2 w4 hp2 hq2'
          rw [decide_eq_false (by omega)] at s3
          go_wp2_with (fail)
          refine s3.mono ?_
          rintro e w5 ⟨rfl, rfl⟩
          clear s3
          go_wp2
          go_ret2
          exact ⟨⟨_, 0, rfl, .inr ⟨hf, rfl⟩⟩, ho14⟩
    · have hx : u < 55296 ∨ 57344 ≤ u := by omega
      rcases hx with hx | hx
      · go_wp2
        all_goals first | go_ret2 | skip
        all_goals try simp only [Bool.not_eq_true', Bool.not_eq_false', decide_eq_true_eq, decide_eq_false_iff_not] at *
        all_goals first | (exfalso; omega) | exact ⟨⟨_, n, rfl, head_one Hu.out Hn.out Hz.out (.inl hx)⟩, ho13⟩
      · go_wp2
        all_goals first | go_ret2 | skip
        all_goals try simp only [Bool.not_eq_true', Bool.not_eq_false', decide_eq_true_eq, decide_eq_false_iff_not] at *
        all_goals first | (exfalso; omega) | exact ⟨⟨_, n, rfl, head_one Hu.out Hn.out Hz.out (.inr hx)⟩, ho13⟩
  · go_wp2
    all_goals first | go_ret2 | skip
    all_goals exact ⟨⟨_, 0, rfl, .inr ⟨head_none hno, rfl⟩⟩, ho13⟩
end Go.Proofs.YtpiandkiijienaaDoor
