/- The unit at the head of bytes, as the program reads it. No condition but the form's own reach. The code point at the head of bytes, as the program reads it. No condition but the form's own reach. Decode: what it answers, at bytes within the form's own reach. -/
import Derived.Test.YtodhdiccfobcfaaGreatDoorGTxtP
import Derived.Deep.LoopGhost
namespace Go.Proofs.YtodhdiccfobcfaaGreatDoor
open Go.RowKit Go.Shelf
set_option linter.unusedVariables false
set_option linter.unusedSimpArgs false

def Un (u : Int) : Prop := 0 ≤ u ∧ u ≤ 65535
/-- What is said of the unit at the head of bytes. -/
def UnitTo (zs : List Int) (u : Int) (n : Nat) : Prop := (Un u ∧ n = (unitZ u).length ∧ ∃ r, zs = unitZ u ++ r) ∨ ((∀ u r, Un u → zs ≠ unitZ u ++ r) ∧ u = 0 ∧ n = 0)
theorem unit_cases {u : Int} (h : Un u) : (1 ≤ u ∧ u ≤ 127 ∧ unitZ u = [u]) ∨ ((u = 0 ∨ 128 ≤ u) ∧ 0 ≤ u ∧ u ≤ 2047 ∧ unitZ u = [192 + u / 64, 128 + u % 64]) ∨ (2048 ≤ u ∧ u ≤ 65535 ∧ unitZ u = [224 + u / 4096, 128 + u / 64 % 64, 128 + u % 64]) := by
  unfold Un at h
  by_cases c1 : 1 ≤ u ∧ u ≤ 127
  · exact .inl ⟨c1.1, c1.2, unitZ_one c1.1 c1.2⟩
  by_cases c2 : u ≤ 2047
  · exact .inr (.inl ⟨by omega, h.1, c2, unitZ_two (by omega) c2⟩)
  · exact .inr (.inr ⟨by omega, h.2, unitZ_three (by omega)⟩)
theorem unit_facts {zs r : List Int} {u : Int} (hu : Un u) (h : zs = unitZ u ++ r) :
    (1 ≤ u ∧ u ≤ 127 ∧ zs.getD 0 0 = u ∧ 1 ≤ zs.length) ∨ ((u = 0 ∨ 128 ≤ u) ∧ 0 ≤ u ∧ u ≤ 2047 ∧ zs.getD 0 0 = 192 + u / 64 ∧ zs.getD 1 0 = 128 + u % 64 ∧ 2 ≤ zs.length) ∨
    (2048 ≤ u ∧ u ≤ 65535 ∧ zs.getD 0 0 = 224 + u / 4096 ∧ zs.getD 1 0 = 128 + u / 64 % 64 ∧ zs.getD 2 0 = 128 + u % 64 ∧ 3 ≤ zs.length) := by
  subst h
  rcases unit_cases hu with ⟨a, b, e⟩ | ⟨a, a', b, e⟩ | ⟨a, b, e⟩ <;> rw [e]
  · exact .inl ⟨a, b, rfl, by simp⟩
  · exact .inr (.inl ⟨a, a', b, rfl, rfl, by simp⟩)
  · exact .inr (.inr ⟨a, b, rfl, rfl, rfl, by simp⟩)
theorem un1 {zs : List Int} (hl : 1 ≤ zs.length) (u : Int) (h0 : 1 ≤ u) (h1 : u ≤ 127) (e0 : zs.getD 0 0 = u) : UnitTo zs u 1 := by
  refine .inl ⟨by unfold Un; omega, by rw [unitZ_one h0 h1]; rfl, zs.drop 1, ?_⟩
  rw [unitZ_one h0 h1, ← e0]
  match zs, hl with
  | a :: t, _ => rfl
theorem un2 {zs : List Int} (hl : 2 ≤ zs.length) (u : Int) (h0 : u = 0 ∨ 128 ≤ u) (h1 : u ≤ 2047) (e0 : zs.getD 0 0 = 192 + u / 64) (e1 : zs.getD 1 0 = 128 + u % 64) : UnitTo zs u 2 := by
  refine .inl ⟨by unfold Un; omega, by rw [unitZ_two h0 h1]; rfl, zs.drop 2, ?_⟩
  rw [unitZ_two h0 h1, ← e0, ← e1]
  match zs, hl with
  | a :: b :: t, _ => rfl
theorem un3 {zs : List Int} (hl : 3 ≤ zs.length) (u : Int) (h0 : 2048 ≤ u) (h1 : u ≤ 65535) (e0 : zs.getD 0 0 = 224 + u / 4096) (e1 : zs.getD 1 0 = 128 + u / 64 % 64) (e2 : zs.getD 2 0 = 128 + u % 64) : UnitTo zs u 3 := by
  refine .inl ⟨by unfold Un; omega, by rw [unitZ_three h0]; rfl, zs.drop 3, ?_⟩
  rw [unitZ_three h0, ← e0, ← e1, ← e2]
  match zs, hl with
  | a :: b :: c :: t, _ => rfl

set_option maxHeartbeats 4000000 in
set_option maxRecDepth 100000 in
theorem firstUnit (v : Value) (zs : List Int) (w : World) (hb : Bytes w v zs) (hl : zs.length ≤ 140737488355328) :
    Calls Tryz.prog 158 #[v] w fun e w' => (∃ (u : Int) (n : Nat), e = .returned (.tuple #[.int .i32 u, .int .i64 n]) ∧ UnitTo zs u n) ∧ Only (fun _ => False) w w' := by
  obtain ⟨ao, cap, rfl, hq1, hq2, hq3, hbz, hcells⟩ := id hb
  by_cases hz : zs = []
  · subst hz
    clear hb hcells hq3
    go_enter Tryz.func158, Tryz.ntmps158
    go_wp2
    go_ret2
    refine ⟨⟨0, 0, rfl, .inr ⟨fun u r hu he => ?_, rfl, rfl⟩⟩, Only.refl _ _⟩
    have := unit_facts hu he
    simp at this
  obtain ⟨x, rfl⟩ : ∃ x, ao = some x := by cases ao with | none => have := hq3 rfl; exact absurd (List.eq_nil_of_length_eq_zero (by omega)) hz | some x => exact ⟨x, rfl⟩
  have hlen : 0 < zs.length := List.length_pos_iff.2 hz
  obtain ⟨b, o, rfl⟩ : ∃ b o, x = ⟨b, o, none⟩ := ⟨_, _, plain_of_cell (hcells x rfl 0 hlen)⟩
  have Hb := Lib.hid hb
  have c0 := cellOf hb 0 hlen
  rw [Nat.add_zero] at c0
  obtain ⟨x0, hx0⟩ : ∃ x0, zs.getD 0 0 = x0 := ⟨_, rfl⟩
  have hx0r := hbz.getD hlen
  rw [hx0] at c0 hx0r
  have Hx0 := Lib.hid hx0
  have hlz : (0 : Int) < (zs.length : Int) := by omega
  have hlb : ((zs.length : Int) == 0) = false := by simp; omega
  clear hb hcells hq3 hz hx0
  by_cases c1 : x0 < 128
  · have e1 : leadU x0 = x0 ∧ leadN x0 = 1 := by unfold leadU leadN; constructor <;> rw [if_pos (by omega)]
    have cL := lead x0 w hx0r.1 hx0r.2
    rw [e1.1, e1.2] at cL
    clear e1
    go_enter Tryz.func158, Tryz.ntmps158
    go_wp2_with (fail)
    refine cL.mono ?_
    rintro e w1 ⟨rfl, ho1⟩
    go_wp2_with (fail)
    refine (span _ _ _).mono ?_
    rintro e w2 ⟨f, rfl, ⟨p, q, rfl, hp, hq⟩, ho2⟩
    have ho12 := ho1.trans ho2 (fun _ h => h.elim)
    clear ho1 ho2 cL
    go_wp2
    go_rounds 2
    all_goals first | go_ret2 | skip
    all_goals try simp only [Bool.not_eq_true', Bool.not_eq_false', decide_eq_true_eq, decide_eq_false_iff_not] at *
    all_goals first | (exfalso; omega) | (refine ⟨⟨_, 0, rfl, .inr ⟨fun u r hu he => ?_, rfl, rfl⟩⟩, by repeat (first | exact ho12 | apply Only.alloc)⟩; have hf := unit_facts hu he; rw [Hx0.out] at hf; omega) | exact ⟨⟨_, 1, rfl, un1 (by omega) _ (by omega) (by omega) Hx0.out⟩, by repeat (first | exact ho12 | apply Only.alloc)⟩
  by_cases c2 : 192 ≤ x0 ∧ x0 < 224
  · have e1 : leadU x0 = x0 - 192 ∧ leadN x0 = 2 := by unfold leadU leadN; constructor <;> rw [if_neg (by omega), if_pos (by omega)]
    have cL := lead x0 w hx0r.1 hx0r.2
    rw [e1.1, e1.2] at cL
    clear e1
    by_cases l2 : zs.length < 2
    · have l2z : (zs.length : Int) < 2 := by omega
      go_enter Tryz.func158, Tryz.ntmps158
      go_wp2_with (fail)
      refine cL.mono ?_
      rintro e w1 ⟨rfl, ho1⟩
      go_wp2
      go_ret2
      refine ⟨⟨0, 0, rfl, .inr ⟨fun u r hu he => ?_, rfl, rfl⟩⟩, ho1⟩
      have hf := unit_facts hu he
      rw [Hx0.out] at hf
      omega
    have l2z : (2 : Int) ≤ (zs.length : Int) := by omega
    have hx1r := hbz.getD (j := 1) (by omega)
    have d1 := cellOf Hb.out 1 (by omega)
    obtain ⟨x1, hx1⟩ : ∃ x1, zs.getD 1 0 = x1 := ⟨_, rfl⟩
    rw [hx1] at hx1r d1
    have Hx1 := Lib.hid hx1
    have i1z : ((1 : Nat) : Int) < (zs.length : Int) := by omega
    clear hx1
    go_enter Tryz.func158, Tryz.ntmps158
    go_wp2_with (fail)
    refine cL.mono ?_
    rintro e w1 ⟨rfl, ho1⟩
    go_wp2_with (fail)
    refine (span _ _ _).mono ?_
    rintro e w2 ⟨f, rfl, ⟨p, q, rfl, hp, hq⟩, ho2⟩
    have ho12 := ho1.trans ho2 (fun _ h => h.elim)
    clear ho1 ho2 cL
    have g1 := ho12.cell d1 (fun h => h)
    clear d1 c0
    go_wp2
    go_rounds 3
    all_goals first | go_ret2 | skip
    all_goals try simp only [Bool.not_eq_true', Bool.not_eq_false', decide_eq_true_eq, decide_eq_false_iff_not] at *
    all_goals first | (exfalso; omega) | (refine ⟨⟨_, 0, rfl, .inr ⟨fun u r hu he => ?_, rfl, rfl⟩⟩, by repeat (first | exact ho12 | apply Only.alloc)⟩; have hf := unit_facts hu he; rw [Hx0.out, Hx1.out] at hf; omega) | exact ⟨⟨_, 2, rfl, un2 (by omega) _ (by omega) (by omega) (by rw [Hx0.out]; omega) (by rw [Hx1.out]; omega)⟩, by repeat (first | exact ho12 | apply Only.alloc)⟩
  by_cases c3 : 224 ≤ x0 ∧ x0 < 240
  · have e1 : leadU x0 = x0 - 224 ∧ leadN x0 = 3 := by unfold leadU leadN; constructor <;> rw [if_neg (by omega), if_neg (by omega), if_pos (by omega)]
    have cL := lead x0 w hx0r.1 hx0r.2
    rw [e1.1, e1.2] at cL
    clear e1
    by_cases l3 : zs.length < 3
    · have l3z : (zs.length : Int) < 3 := by omega
      go_enter Tryz.func158, Tryz.ntmps158
      go_wp2_with (fail)
      refine cL.mono ?_
      rintro e w1 ⟨rfl, ho1⟩
      go_wp2
      go_ret2
      refine ⟨⟨0, 0, rfl, .inr ⟨fun u r hu he => ?_, rfl, rfl⟩⟩, ho1⟩
      have hf := unit_facts hu he
      rw [Hx0.out] at hf
      omega
    have l3z : (3 : Int) ≤ (zs.length : Int) := by omega
    have hx1r := hbz.getD (j := 1) (by omega)
    have d1 := cellOf Hb.out 1 (by omega)
    obtain ⟨x1, hx1⟩ : ∃ x1, zs.getD 1 0 = x1 := ⟨_, rfl⟩
    rw [hx1] at hx1r d1
    have Hx1 := Lib.hid hx1
    have i1z : ((1 : Nat) : Int) < (zs.length : Int) := by omega
    clear hx1
    have hx2r := hbz.getD (j := 2) (by omega)
    have d2 := cellOf Hb.out 2 (by omega)
    obtain ⟨x2, hx2⟩ : ∃ x2, zs.getD 2 0 = x2 := ⟨_, rfl⟩
    rw [hx2] at hx2r d2
    have Hx2 := Lib.hid hx2
    have i2z : ((2 : Nat) : Int) < (zs.length : Int) := by omega
    clear hx2
    go_enter Tryz.func158, Tryz.ntmps158
    go_wp2_with (fail)
    refine cL.mono ?_
    rintro e w1 ⟨rfl, ho1⟩
    go_wp2_with (fail)
    refine (span _ _ _).mono ?_
    rintro e w2 ⟨f, rfl, ⟨p, q, rfl, hp, hq⟩, ho2⟩
    have ho12 := ho1.trans ho2 (fun _ h => h.elim)
    clear ho1 ho2 cL
    have g1 := ho12.cell d1 (fun h => h)
    have g2 := ho12.cell d2 (fun h => h)
    clear d1 d2 c0
    go_wp2
    go_rounds 4
    all_goals first | go_ret2 | skip
    all_goals try simp only [Bool.not_eq_true', Bool.not_eq_false', decide_eq_true_eq, decide_eq_false_iff_not] at *
    all_goals first | (exfalso; omega) | (refine ⟨⟨_, 0, rfl, .inr ⟨fun u r hu he => ?_, rfl, rfl⟩⟩, by repeat (first | exact ho12 | apply Only.alloc)⟩; have hf := unit_facts hu he; rw [Hx0.out, Hx1.out, Hx2.out] at hf; omega) | exact ⟨⟨_, 3, rfl, un3 (by omega) _ (by omega) (by omega) (by rw [Hx0.out]; omega) (by rw [Hx1.out]; omega) (by rw [Hx2.out]; omega)⟩, by repeat (first | exact ho12 | apply Only.alloc)⟩
  have e1 : leadU x0 = 0 ∧ leadN x0 = 0 := by unfold leadU leadN; constructor <;> rw [if_neg (by omega), if_neg (by omega), if_neg (by omega)]
  have cL := lead x0 w hx0r.1 hx0r.2
  rw [e1.1, e1.2] at cL
  clear e1
  go_enter Tryz.func158, Tryz.ntmps158
  go_wp2_with (fail)
  refine cL.mono ?_
  rintro e w1 ⟨rfl, ho1⟩
  go_wp2_with (fail)
  refine (span _ _ _).mono ?_
  rintro e w2 ⟨f, rfl, ⟨p, q, rfl, hp, hq⟩, ho2⟩
  have ho12 := ho1.trans ho2 (fun _ h => h.elim)
  clear ho1 ho2 cL
  go_wp2
  go_rounds 1
  all_goals first | go_ret2 | skip
  all_goals try simp only [Bool.not_eq_true', Bool.not_eq_false', decide_eq_true_eq, decide_eq_false_iff_not] at *
  all_goals first | (exfalso; omega) | (refine ⟨⟨_, 0, rfl, .inr ⟨fun u r hu he => ?_, rfl, rfl⟩⟩, by repeat (first | exact ho12 | apply Only.alloc)⟩; have hf := unit_facts hu he; rw [Hx0.out] at hf; omega)
end Go.Proofs.YtodhdiccfobcfaaGreatDoor
namespace Go.Proofs.YtodhdiccfobcfaaGreatDoor
open Go.RowKit Go.Shelf
set_option linter.unusedVariables false
set_option linter.unusedSimpArgs false

theorem unit_inj {u v : Int} {r r' : List Int} (hu : Un u) (hv : Un v) (h : unitZ u ++ r = unitZ v ++ r') : u = v ∧ r = r' := by
  rcases unit_cases hu with ⟨a, b, e⟩ | ⟨a, a', b, e⟩ | ⟨a, b, e⟩ <;> rcases unit_cases hv with ⟨x, y, e'⟩ | ⟨x, x', y, e'⟩ | ⟨x, y, e'⟩ <;> rw [e, e'] at h <;> simp only [List.cons_append, List.nil_append, List.cons.injEq] at h <;> first | (exfalso; omega) | exact ⟨by omega, by simp_all⟩
theorem m8_units {c : Int} (h : Sc c) : (0 ≤ c ∧ c < 65536 ∧ (c < 55296 ∨ 57344 ≤ c) ∧ m8 c = unitZ c) ∨ (65536 ≤ c ∧ c ≤ 1114111 ∧ m8 c = unitZ (hiU c) ++ unitZ (loU c) ∧ 55296 ≤ hiU c ∧ hiU c ≤ 56319 ∧ 56320 ≤ loU c ∧ loU c ≤ 57343) := by
  unfold Sc at h
  by_cases hc : c < 65536
  · exact .inl ⟨by omega, hc, by omega, by unfold m8; rw [if_pos hc]⟩
  · refine .inr ⟨by omega, by omega, by unfold m8; rw [if_neg hc], ?_⟩
    unfold hiU loU
    omega

/-- What is said of the code point at the head of bytes. -/
def HeadTo (zs : List Int) (c : Int) (n : Nat) : Prop := (Sc c ∧ n = (m8 c).length ∧ ∃ r, zs = m8 c ++ r) ∨ ((∀ c r, Sc c → zs ≠ m8 c ++ r) ∧ n = 0)

theorem head_none {zs : List Int} (h : ∀ u r, Un u → zs ≠ unitZ u ++ r) : ∀ c r, Sc c → zs ≠ m8 c ++ r := by
  intro c r hc he
  rcases m8_units hc with ⟨a, b, _, e⟩ | ⟨a, b, e, h1, h2, _⟩
  · exact h c r ⟨a, by omega⟩ (by rw [he, e])
  · exact h (hiU c) (unitZ (loU c) ++ r) ⟨by omega, by omega⟩ (by rw [he, e, List.append_assoc])
theorem head_low {zs r : List Int} {u : Int} (hu : Un u) (hz : zs = unitZ u ++ r) (hl : 56320 ≤ u ∧ u ≤ 57343) : ∀ c r, Sc c → zs ≠ m8 c ++ r := by
  intro c r' hc he
  rw [hz] at he
  rcases m8_units hc with ⟨a, b, d, e⟩ | ⟨a, b, e, h1, h2, _⟩
  · rw [e] at he
    have := (unit_inj hu ⟨a, by omega⟩ he).1
    omega
  · rw [e, List.append_assoc] at he
    have := (unit_inj hu ⟨by omega, by omega⟩ he).1
    omega
theorem head_one {zs r : List Int} {u : Int} {n : Nat} (hu : Un u) (hn : n = (unitZ u).length) (hz : zs = unitZ u ++ r) (hl : u < 55296 ∨ 57344 ≤ u) : HeadTo zs u n := by
  have hs : Sc u := by unfold Sc; unfold Un at hu; omega
  have e : m8 u = unitZ u := by unfold m8; unfold Un at hu; rw [if_pos (by omega)]
  exact .inl ⟨hs, by rw [e]; exact hn, r, by rw [e]; exact hz⟩
theorem head_pair {zs r r2 : List Int} {u v : Int} (hu : Un u) (hz : zs = unitZ u ++ r) (hh : 55296 ≤ u ∧ u ≤ 56319) (hv : Un v) (hr : r = unitZ v ++ r2) (hl : 56320 ≤ v ∧ v ≤ 57343) (n : Nat) (hn : n = (unitZ u).length + (unitZ v).length) :
    HeadTo zs (65536 + (u - 55296) * 1024 + (v - 56320)) n := by
  have hs : Sc (65536 + (u - 55296) * 1024 + (v - 56320)) := by unfold Sc; omega
  have e1 : hiU (65536 + (u - 55296) * 1024 + (v - 56320)) = u := by unfold hiU; omega
  have e2 : loU (65536 + (u - 55296) * 1024 + (v - 56320)) = v := by unfold loU; omega
  have e : m8 (65536 + (u - 55296) * 1024 + (v - 56320)) = unitZ u ++ unitZ v := by unfold m8; rw [if_neg (by omega), e1, e2]
  exact .inl ⟨hs, by rw [e, List.length_append]; exact hn, r2, by rw [e, hz, hr, List.append_assoc]⟩
theorem head_half {zs r : List Int} {u : Int} (hu : Un u) (hz : zs = unitZ u ++ r) (hh : 55296 ≤ u ∧ u ≤ 56319) (h : ∀ v r2, Un v → r = unitZ v ++ r2 → ¬ (56320 ≤ v ∧ v ≤ 57343)) : ∀ c r, Sc c → zs ≠ m8 c ++ r := by
  intro c r' hc he
  rw [hz] at he
  rcases m8_units hc with ⟨a, b, d, e⟩ | ⟨a, b, e, h1, h2, h3, h4⟩
  · rw [e] at he
    have := (unit_inj hu ⟨a, by omega⟩ he).1
    omega
  · rw [e, List.append_assoc] at he
    have := (unit_inj hu ⟨by omega, by omega⟩ he).2
    exact h (loU c) r' ⟨by omega, by omega⟩ this ⟨h3, h4⟩

/-- The rest of bytes, behind the first so many. -/
theorem Bytes.rest {w : World} {ao : Option Addr} {cap : Nat} {zs : List Int} (hb : Bytes w (.slice ao zs.length cap) zs) (k : Nat) (hk : k ≤ zs.length) : Bytes w (.slice (ao.map fun x => x.add k) (zs.length - k) (cap - k)) (zs.drop k) := by
  obtain ⟨ao', cap', e, h1, h2, h3, h4, h⟩ := hb
  injection e with e1 _ e3
  subst e3 e1
  refine ⟨_, cap - k, by rw [List.length_drop], by rw [List.length_drop]; omega, by omega, (fun h => by have := h3 (by cases ao <;> simp_all); omega), h4.drop k, fun x hx j hj => ?_⟩
  rw [List.length_drop] at hj
  cases ao with
  | none => cases hx
  | some y =>
    cases hx
    have hp := plain_of_cell (h y rfl 0 (by omega))
    show w.cell? ((y.add k).add j) = _
    rw [hp, add_lit, add_lit, Nat.add_assoc]
    have := h y rfl (k + j) (by omega)
    rw [hp, add_lit] at this
    rw [this]
    simp [List.getD]
theorem Bytes.rest0 {w : World} {ao : Option Addr} {cap : Nat} {zs : List Int} (hb : Bytes w (.slice ao zs.length cap) zs) (k : Nat) (hk : k ≤ zs.length) (hc : cap = k) : Bytes w (.slice ao (zs.length - k) 0) (zs.drop k) := by
  obtain ⟨ao', cap', e, h1, h2, h3, h4, h⟩ := hb
  injection e with e1 _ e3
  have hlen : (zs.drop k).length = 0 := by rw [List.length_drop]; omega
  exact ⟨ao, 0, by rw [List.length_drop], by rw [hlen]; exact Nat.le_refl _, Nat.zero_le _, fun _ => rfl, h4.drop k, fun x hx j hj => by rw [hlen] at hj; omega⟩

set_option maxHeartbeats 4000000 in
set_option maxRecDepth 100000 in
theorem firstPoint (v : Value) (zs : List Int) (w : World) (hb : Bytes w v zs) (hl : zs.length ≤ 140737488355328) :
    Calls Tryz.prog 155 #[v] w fun e w' => (∃ (c : Int) (n : Nat), e = .returned (.tuple #[.int .i32 c, .int .i64 n]) ∧ HeadTo zs c n) ∧ Only (fun _ => False) w w' := by
  have hN : ∀ S : Nat → Prop, ∀ k, S k → ¬ (fun _ => False) k := fun _ _ _ h => h
  obtain ⟨ao, cap, rfl, hq1, hq2, hq3, hbz, hcells⟩ := id hb
  have Hb := Lib.hid hb
  clear hb hcells
  go_enter Tryz.func155, Tryz.ntmps155
  go_wp2_with (fail)
  refine (span _ _ _).mono ?_
  rintro e w1 ⟨f1, rfl, ⟨p1, q1, rfl, hp1, hq1'⟩, ho1⟩
  go_wp2_with (fail)
  refine (span _ _ _).mono ?_
  rintro e w2 ⟨f2, rfl, ⟨p2, q2, rfl, hp2, hq2'⟩, ho2⟩
  have hp1 := ho2.cell hp1 (fun h => h)
  have hq1' := ho2.cell hq1' (fun h => h)
  have ho12 := ho1.trans ho2 (fun _ h => h.elim)
  go_wp2_with (fail)
  refine (firstUnit _ zs _ ((Hb.out).only ho12 (fun _ _ _ h => h)) hl).mono ?_
  rintro e w3 ⟨⟨u, n, rfl, hu⟩, ho3⟩
  have ho13 := ho12.trans ho3 (fun _ h => h.elim)
  have hp1 := ho3.cell hp1 (fun h => h)
  have hq1' := ho3.cell hq1' (fun h => h)
  have hp2 := ho3.cell hp2 (fun h => h)
  have hq2' := ho3.cell hq2' (fun h => h)
  clear ho1 ho2 ho3 ho12
  rcases hu with ⟨hun, hn, r, hz⟩ | ⟨hno, rfl, rfl⟩
  · have hun2 := hun
    unfold Un at hun2
    have Hz := Lib.hid hz
    have Hn := Lib.hid hn
    have Hu := Lib.hid hun
    have hnl : n ≤ zs.length := by rw [hz, List.length_append]; omega
    have hn1 : 1 ≤ n := by rw [hn]; rcases unit_cases hun with ⟨_, _, e⟩ | ⟨_, _, _, e⟩ | ⟨_, _, e⟩ <;> rw [e] <;> simp
    clear hz hn hun
    by_cases hlow : 56320 ≤ u ∧ u ≤ 57343
    · obtain ⟨hlow1, hlow2⟩ := hlow
      go_wp2
      all_goals first | go_ret2 | skip
      all_goals try simp only [Bool.not_eq_true', Bool.not_eq_false', decide_eq_true_eq, decide_eq_false_iff_not] at *
      all_goals first | (exfalso; omega) | exact ⟨⟨_, 0, rfl, .inr ⟨head_low Hu.out Hz.out ⟨hlow1, hlow2⟩, rfl⟩⟩, ho13⟩
    by_cases hhi : 55296 ≤ u ∧ u ≤ 56319
    · obtain ⟨hhi1, hhi2⟩ := hhi
      have hlo' : u < 56320 := by omega
      have s1 := inSpan u 56320 57344 p2 q2 w3 hp2 hq2'
      rw [decide_eq_false (by omega)] at s1
      have s2 := inSpan u 55296 56320 p1 q1 w3 hp1 hq1'
      rw [decide_eq_true (by omega)] at s2
      have hnz : (n : Int) ≤ (zs.length : Int) := by omega
      have hncap : n ≤ cap := by omega
      go_wp2_with (fail)
      refine s1.mono ?_
      rintro e w4 ⟨rfl, rfl⟩
      go_wp2_with (fail)
      refine s2.mono ?_
      rintro e w4 ⟨rfl, rfl⟩
      clear s1 s2 hp1 hq1'
      go_wp2_with (fail)
      · have hb2 : Bytes w3 _ (zs.drop n) := Bytes.rest0 ((Hb.out).only ho13 (fun _ _ _ h => h)) n hnl (by omega)
        have hdr : zs.drop n = r := by rw [Hz.out, Hn.out, List.drop_left]
        refine (firstUnit _ (zs.drop n) _ hb2 (by rw [List.length_drop]; omega)).mono ?_
        rintro e w4 ⟨⟨u2, n2, rfl, hu2⟩, ho4⟩
        rw [hdr] at hu2
        have ho14 := ho13.trans ho4 (fun _ h => h.elim)
        have hp2 := ho4.cell hp2 (fun h => h)
        have hq2' := ho4.cell hq2' (fun h => h)
        clear ho4 ho13 hb2 hdr
        by_cases hl2 : 56320 ≤ u2 ∧ u2 ≤ 57343
        · obtain ⟨hl21, hl22⟩ := hl2
          rcases hu2 with ⟨hun3, hn3, r2, hr2⟩ | ⟨_, rfl, _⟩
          · have hn6 : n2 ≤ 3 := by rw [hn3]; rcases unit_cases hun3 with ⟨_, _, e⟩ | ⟨_, _, _, e⟩ | ⟨_, _, e⟩ <;> rw [e] <;> simp
            have hp := head_pair Hu.out Hz.out ⟨hhi1, hhi2⟩ hun3 hr2 ⟨hl21, hl22⟩ (n + n2) (by rw [← hn3, ← Hn.out])
            have Hp := Lib.hid hp
            clear hp hun3 hn3 hr2
            have hnn : IntKind.i64.wrap ((n : Int) + n2) = (n : Int) + n2 := IntWalk.i64_in _ (by omega)
            go_wp2
            all_goals first | go_ret2 | skip
            all_goals try simp only [Bool.not_eq_true', Bool.not_eq_false', decide_eq_true_eq, decide_eq_false_iff_not] at *
            all_goals first | (exfalso; omega) | exact ⟨⟨_, n + n2, by rw [Int.natCast_add]; rfl, Hp.out⟩, ho14⟩
          · exfalso; omega
        · have hno : ∀ v r2, Un v → r = unitZ v ++ r2 → ¬ (56320 ≤ v ∧ v ≤ 57343) := by
            intro v r2 hv he hvl
            rcases hu2 with ⟨hun3, _, r3, hr3⟩ | ⟨hn3, _, _⟩
            · rw [hr3] at he
              have := (unit_inj hun3 hv he).1
              subst this
              exact hl2 hvl
            · exact hn3 v r2 hv he
          have hf := head_half Hu.out Hz.out ⟨hhi1, hhi2⟩ hno
          clear hu2 hno
          have s3 := inSpan u2 56320 57344 p2 q2 w4 hp2 hq2'
          rw [decide_eq_false (by omega)] at s3
          go_wp2_with (fail)
          refine s3.mono ?_
          rintro e w5 ⟨rfl, rfl⟩
          clear s3
          go_wp2
          go_ret2
          exact ⟨⟨_, 0, rfl, .inr ⟨hf, rfl⟩⟩, ho14⟩
      · have hb2 : Bytes w3 _ (zs.drop n) := Bytes.rest ((Hb.out).only ho13 (fun _ _ _ h => h)) n hnl
        have hdr : zs.drop n = r := by rw [Hz.out, Hn.out, List.drop_left]
        refine (firstUnit _ (zs.drop n) _ hb2 (by rw [List.length_drop]; omega)).mono ?_
        rintro e w4 ⟨⟨u2, n2, rfl, hu2⟩, ho4⟩
        rw [hdr] at hu2
        have ho14 := ho13.trans ho4 (fun _ h => h.elim)
        have hp2 := ho4.cell hp2 (fun h => h)
        have hq2' := ho4.cell hq2' (fun h => h)
        clear ho4 ho13 hb2 hdr
        by_cases hl2 : 56320 ≤ u2 ∧ u2 ≤ 57343
        · obtain ⟨hl21, hl22⟩ := hl2
          rcases hu2 with ⟨hun3, hn3, r2, hr2⟩ | ⟨_, rfl, _⟩
          · have hn6 : n2 ≤ 3 := by rw [hn3]; rcases unit_cases hun3 with ⟨_, _, e⟩ | ⟨_, _, _, e⟩ | ⟨_, _, e⟩ <;> rw [e] <;> simp
            have hp := head_pair Hu.out Hz.out ⟨hhi1, hhi2⟩ hun3 hr2 ⟨hl21, hl22⟩ (n + n2) (by rw [← hn3, ← Hn.out])
            have Hp := Lib.hid hp
            clear hp hun3 hn3 hr2
            have hnn : IntKind.i64.wrap ((n : Int) + n2) = (n : Int) + n2 := IntWalk.i64_in _ (by omega)
            go_wp2
            all_goals first | go_ret2 | skip
            all_goals try simp only [Bool.not_eq_true', Bool.not_eq_false', decide_eq_true_eq, decide_eq_false_iff_not] at *
            all_goals first | (exfalso; omega) | exact ⟨⟨_, n + n2, by rw [Int.natCast_add]; rfl, Hp.out⟩, ho14⟩
          · exfalso; omega
        · have hno : ∀ v r2, Un v → r = unitZ v ++ r2 → ¬ (56320 ≤ v ∧ v ≤ 57343) := by
            intro v r2 hv he hvl
            rcases hu2 with ⟨hun3, _, r3, hr3⟩ | ⟨hn3, _, _⟩
            · rw [hr3] at he
              have := (unit_inj hun3 hv he).1
              subst this
              exact hl2 hvl
            · exact hn3 v r2 hv he
          have hf := head_half Hu.out Hz.out ⟨hhi1, hhi2⟩ hno
          clear hu2 hno
          have s3 := inSpan u2 56320 57344 p2 q2 w4 hp2 hq2'
          rw [decide_eq_false (by omega)] at s3
          go_wp2_with (fail)
          refine s3.mono ?_
          rintro e w5 ⟨rfl, rfl⟩
          clear s3
          go_wp2
          go_ret2
          exact ⟨⟨_, 0, rfl, .inr ⟨hf, rfl⟩⟩, ho14⟩
    · have hx : u < 55296 ∨ 57344 ≤ u := by omega
      rcases hx with hx | hx
      · go_wp2
        all_goals first | go_ret2 | skip
        all_goals try simp only [Bool.not_eq_true', Bool.not_eq_false', decide_eq_true_eq, decide_eq_false_iff_not] at *
        all_goals first | (exfalso; omega) | exact ⟨⟨_, n, rfl, head_one Hu.out Hn.out Hz.out (.inl hx)⟩, ho13⟩
      · go_wp2
        all_goals first | go_ret2 | skip
        all_goals try simp only [Bool.not_eq_true', Bool.not_eq_false', decide_eq_true_eq, decide_eq_false_iff_not] at *
        all_goals first | (exfalso; omega) | exact ⟨⟨_, n, rfl, head_one Hu.out Hn.out Hz.out (.inr hx)⟩, ho13⟩
  · go_wp2
    all_goals first | go_ret2 | skip
    all_goals exact ⟨⟨_, 0, rfl, .inr ⟨head_none hno, rfl⟩⟩, ho13⟩
end Go.Proofs.YtodhdiccfobcfaaGreatDoor
namespace Go.Proofs.YtodhdiccfobcfaaGreatDoor
open Go.RowKit Go.Shelf
set_option linter.unusedVariables false
set_option linter.unusedSimpArgs false

/-- A builder that holds these bytes. -/
def Bld (B : Nat) (ys : List Int) (w : World) : Prop := Lib.IsBuilderF 232 5 B B (ys.map (Value.int .u8)) w
theorem bldAt_only {T e B b : Nat} {p : Value} {bs : List Value} {w w' : World} (h : Lib.BuilderAtF T e B b p bs w) (ho : Only (fun _ => False) w w') : Lib.BuilderAtF T e B b p bs w' := by
  obtain ⟨hB, v, hb, hown, hne⟩ := h
  refine ⟨hB, v, ho.heap hb (fun h => h), ⟨hown.1, ?_⟩, hne⟩
  rcases hown.2 with hn | ⟨g, cap, cur, fz, hv, hbg, hg, rest⟩
  · exact .inl hn
  · exact .inr ⟨g, cap, cur, fz, hv, hbg, ho.heap hg (fun h => h), rest⟩
theorem Bld.only {B : Nat} {ys : List Int} {w w' : World} (h : Bld B ys w) (ho : Only (fun _ => False) w w') : Bld B ys w' :=
  h.elim (fun x => .inl (bldAt_only x ho)) (fun x => .inr (bldAt_only x ho))
theorem rune_cells (c : Int) : Lib.runeCells c = (enc8 c).map (Value.int .u8) := rfl
theorem byte_cells {ys : List Int} (h : Bytish ys) : Lib.byteCells (ys.map fun n => UInt8.ofNat n.toNat) = ys.map (Value.int .u8) := by
  simp only [Lib.byteCells, List.map_map]
  apply List.map_congr_left
  intro z hz
  have := h z hz
  unfold IsByte at this
  simp [Function.comp]
  omega

theorem string_k (B : Nat) (ys : List Int) (hz : Bytish ys) (w : World) (h : Bld B ys w) (hBw : B ≤ w.heap.size) :
    Calls Tryz.prog 157 #[.pointer (some ⟨B, 0, none⟩)] w fun e w' => e = .returned (.string (strOfNums ys)) ∧ Below B w w' := by
  have h' : Lib.IsBuilderF 232 5 B B (Lib.byteCells (ys.map fun n => UInt8.ofNat n.toNat)) w := by rw [byte_cells hz]; exact h
  exact (Tryz.Builder_String_any_k B B _ w h' hBw).mono fun e w' h => ⟨h.1, h.2.2.1⟩

set_option maxHeartbeats 4000000 in
set_option maxRecDepth 100000 in
theorem decode (v : Value) (zs : List Int) (w : World) (hb : Bytes w v zs) (hl : zs.length ≤ 140737488351232) :
    Calls Tryz.prog 152 #[v] w fun e w' => ∃ ys k, e = .returned (.tuple #[.string (strOfNums ys), .int .i64 k]) ∧ Dec zs ys k ∧ Only (fun _ => False) w w' := by
  go_enter Tryz.func152, Tryz.ntmps152
  go_wp2
  go_loopg [0] (zs.length + 1) (fun gk b wr => ∃ (pre rest : List Int), Bytes w b rest ∧ AllSc pre ∧ zs = M8s pre ++ rest ∧ rest.length < gk ∧ Bld w.heap.size (U8s pre) wr ∧ Below w.heap.size w wr)
  case atStart => exact ⟨[], zs, hb, .nil, rfl, by omega, Lib.IsBuilderF.of (Lib.fresh_isBuilder 232 5 w), (Below.refl _ w).alloc (Nat.le_refl _) _⟩
  case round =>
    obtain ⟨pre, rest, hbr, hsc, hzs, hgk, hbld, hbel⟩ := hrel
    obtain ⟨ao, cap, rfl, hq1, hq2, _, hbz, _⟩ := id hbr
    have hlen : (M8s pre).length + rest.length = zs.length := by rw [hzs, List.length_append]
    have hml := (M8s_len hsc).1
    have Hzs := Lib.hid hzs
    have Hbr := Lib.hid hbr
    clear hzs hbr hb
    by_cases h0 : 0 < rest.length
    · obtain ⟨g', rfl⟩ : ∃ g', gk = g' + 1 := ⟨gk - 1, by omega⟩
      have h0z : (0 : Int) < (rest.length : Int) := by omega
      go_wp2_with (fail)
      refine (firstPoint _ rest _ ((Hbr.out).below hbel (Nat.le_refl _)) (by omega)).mono ?_
      rintro e w1 ⟨⟨c, n, rfl, hpt⟩, ho1⟩
      have hbel1 : Below w.heap.size w w1 := hbel.trans (ho1.below (hbel.size) (fun _ h => h.elim))
      have hbld1 := hbld.only ho1
      clear hbld hbel ho1
      rcases hpt with ⟨hc, hn, r, hr⟩ | ⟨hno, rfl⟩
      · have hn1 : 1 ≤ n := by rw [hn]; exact (m8_le hc).1
        have hnl : n ≤ rest.length := by rw [hr, List.length_append]; omega
        have hnb : ((n : Int) == 0) = false := by simp; omega
        have hnz : (n : Int) ≤ (rest.length : Int) := by omega
        have hcr : 0 ≤ c ∧ c ≤ 1114111 := by unfold Sc at hc; omega
        have hdr : rest.drop n = r := by rw [hr, hn, List.drop_left]
        have hzs2 : zs = M8s (pre ++ [c]) ++ r := by rw [M8s_append, M8s_cons, M8s_nil, List.append_nil, List.append_assoc, ← hr]; exact Hzs.out
        have hrl : r.length + n = rest.length := by rw [← hdr, List.length_drop]; omega
        have Hzs2 := Lib.hid hzs2
        have Hdr := Lib.hid hdr
        clear hr hn hdr hzs2
        have hsize : w.heap.size ≤ w1.heap.size := hbel1.size
        go_wp2_with (fail)
        refine (Tryz.Builder_WriteRune_k w.heap.size w.heap.size _ c (by omega) (by omega) _ hbld1 (by simp only [List.length_map]; omega) hsize).mono ?_
        rintro e w2 ⟨rfl, hb2, hbel2, _⟩
        have hbel12 := hbel1.trans hbel2
        have hbld2 : Bld w.heap.size (U8s (pre ++ [c])) w2 := by
          unfold Bld
          rw [U8s_append, U8s_cons, U8s_nil, List.append_nil, List.map_append, ← rune_cells]
          exact Or.inr hb2
        clear hb2 hbel2 hbel1 hbld1
        go_wp2
        · have hn := Bytes.rest0 Hbr.out n hnl (by omega)
          rw [Hdr.out] at hn
          go_roundg g'
          case measure => omega
          case rel => exact ⟨pre ++ [c], r, hn, hsc.append (.mk hc .nil), Hzs2.out, by omega, hbld2, hbel12⟩
        · have hn := Bytes.rest Hbr.out n hnl
          rw [Hdr.out] at hn
          go_roundg g'
          case measure => omega
          case rel => exact ⟨pre ++ [c], r, hn, hsc.append (.mk hc .nil), Hzs2.out, by omega, hbld2, hbel12⟩
      · have hnot : ¬ ∃ cs, IsMod zs cs := by
          rw [Hzs.out, mod_tails hsc]
          exact no_mod (by intro e; subst e; simp at h0) hno
        go_wp2
        go_ret2
        exact ⟨[], 20, rfl, .inr ⟨hnot, rfl, rfl⟩, Only.of_below hbel1 _⟩
    · have hr0 : rest = [] := List.eq_nil_of_length_eq_zero (by omega)
      subst hr0
      go_wp2_with (fail)
      refine (string_k w.heap.size (U8s pre) (U8s_byte pre) _ hbld hbel.size).mono ?_
      rintro e w1 ⟨rfl, hbel1⟩
      have hbel2 := hbel.trans hbel1
      clear hbel hbel1 hbld
      go_wp2
      go_ret2
      exact ⟨U8s pre, 0, rfl, .inl ⟨pre, ⟨hsc, by rw [Hzs.out, List.append_nil]⟩, rfl, rfl⟩, Only.of_below hbel2 _⟩
end Go.Proofs.YtodhdiccfobcfaaGreatDoor
