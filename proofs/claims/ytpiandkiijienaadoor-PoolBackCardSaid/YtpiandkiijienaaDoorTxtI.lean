/- The unit at the head of bytes, as the program reads it. No condition but the form's own reach. -/
import Derived.Test.YtpiandkiijienaaDoorTxtF
namespace Go.Proofs.YtpiandkiijienaaDoor
open Go.RowKit Go.Shelf
set_option linter.unusedVariables false
set_option linter.unusedSimpArgs false

def Un (u : Int) : Prop := 0 ≤ u ∧ u ≤ 65535
/-- What is said of the unit at the head of bytes. -/
def UnitTo (zs : List Int) (u : Int) (n : Nat) : Prop := (Un u ∧ n = (unitZ u).length ∧ ∃ r, zs = unitZ u ++ r) ∨ ((∀ u r, Un u → zs ≠ unitZ u ++ r) ∧ u = 0 ∧ n = 0)
theorem unit_cases {u : Int} (h : Un u) : (1 ≤ u ∧ u ≤ 127 ∧ unitZ u = [u]) ∨ ((u = 0 ∨ 128 ≤ u) ∧ 0 ≤ u ∧ u ≤ 2047 ∧ unitZ u = [192 + u / 64, 128 + u % 64]) ∨ (2048 ≤ u ∧ u ≤ 65535 ∧ unitZ u = [224 + u / 4096, 128 + u / 64 % 64, 128 + u % 64]) := by
  unfold Un at h
  by_cases c1 : 1 ≤ u ∧ u ≤ 127
  · exact .inl ⟨c1.1, c1.2, unitZ_one c1.1 c1.2⟩
  by_cases c2 : u ≤ 2047
  · exact .inr (.inl ⟨by omega, h.1, c2, unitZ_two (by omega) c2⟩)
  · exact .inr (.inr ⟨by omega, h.2, unitZ_three (by omega)⟩)
theorem unit_facts {zs r : List Int} {u : Int} (hu : Un u) (h : zs = unitZ u ++ r) :
    (1 ≤ u ∧ u ≤ 127 ∧ zs.getD 0 0 = u ∧ 1 ≤ zs.length) ∨ ((u = 0 ∨ 128 ≤ u) ∧ 0 ≤ u ∧ u ≤ 2047 ∧ zs.getD 0 0 = 192 + u / 64 ∧ zs.getD 1 0 = 128 + u % 64 ∧ 2 ≤ zs.length) ∨
    (2048 ≤ u ∧ u ≤ 65535 ∧ zs.getD 0 0 = 224 + u / 4096 ∧ zs.getD 1 0 = 128 + u / 64 % 64 ∧ zs.getD 2 0 = 128 + u % 64 ∧ 3 ≤ zs.length) := by
  subst h
  rcases unit_cases hu with ⟨a, b, e⟩ | ⟨a, a', b, e⟩ | ⟨a, b, e⟩ <;> rw [e]
  · exact .inl ⟨a, b, rfl, by simp⟩
  · exact .inr (.inl ⟨a, a', b, rfl, rfl, by simp⟩)
  · exact .inr (.inr ⟨a, b, rfl, rfl, rfl, by simp⟩)
theorem un1 {zs : List Int} (hl : 1 ≤ zs.length) (u : Int) (h0 : 1 ≤ u) (h1 : u ≤ 127) (e0 : zs.getD 0 0 = u) : UnitTo zs u 1 := by
  refine .inl ⟨by unfold Un; omega, by rw [unitZ_one h0 h1]; rfl, zs.drop 1, ?_⟩
  rw [unitZ_one h0 h1, ← e0]
  match zs, hl with
  | a :: t, _ => rfl
theorem un2 {zs : List Int} (hl : 2 ≤ zs.length) (u : Int) (h0 : u = 0 ∨ 128 ≤ u) (h1 : u ≤ 2047) (e0 : zs.getD 0 0 = 192 + u / 64) (e1 : zs.getD 1 0 = 128 + u % 64) : UnitTo zs u 2 := by
  refine .inl ⟨by unfold Un; omega, by rw [unitZ_two h0 h1]; rfl, zs.drop 2, ?_⟩
  rw [unitZ_two h0 h1, ← e0, ← e1]
  match zs, hl with
  | a :: b :: t, _ => rfl
theorem un3 {zs : List Int} (hl : 3 ≤ zs.length) (u : Int) (h0 : 2048 ≤ u) (h1 : u ≤ 65535) (e0 : zs.getD 0 0 = 224 + u / 4096) (e1 : zs.getD 1 0 = 128 + u / 64 % 64) (e2 : zs.getD 2 0 = 128 + u % 64) : UnitTo zs u 3 := by
  refine .inl ⟨by unfold Un; omega, by rw [unitZ_three h0]; rfl, zs.drop 3, ?_⟩
  rw [unitZ_three h0, ← e0, ← e1, ← e2]
  match zs, hl with
  | a :: b :: c :: t, _ => rfl

set_option maxHeartbeats 4000000 in
set_option maxRecDepth 100000 in
theorem firstUnit (v : Value) (zs : List Int) (w : World) (hb : Bytes w v zs) (hl : zs.length ≤ 140737488355328) :
    Calls Tryd.prog 98 #[v] w fun e w' => (∃ (u : Int) (n : Nat), e = .returned (.tuple #[.int .i32 u, .int .i64 n]) ∧ UnitTo zs u n) ∧ Only (fun _ => False) w w' := by
  obtain ⟨ao, cap, rfl, hq1, hq2, hq3, hbz, hcells⟩ := id hb
  by_cases hz : zs = []
  · subst hz
    clear hb hcells hq3
    go_enter Tryd.func98, Tryd.ntmps98
    go_wp2
    go_ret2
    refine ⟨⟨0, 0, rfl, .inr ⟨fun u r hu he => ?_, rfl, rfl⟩⟩, Only.refl _ _⟩
    have := unit_facts hu he
    simp at this
  obtain ⟨x, rfl⟩ : ∃ x, ao = some x := by cases ao with | none => have := hq3 rfl; exact absurd (List.eq_nil_of_length_eq_zero (by omega)) hz | some x => exact ⟨x, rfl⟩
  have hlen : 0 < zs.length := List.length_pos_iff.2 hz
  obtain ⟨b, o, rfl⟩ : ∃ b o, x = ⟨b, o, none⟩ := ⟨_, _, plain_of_cell (hcells x rfl 0 hlen)⟩
  have Hb := Lib.hid hb
  have c0 := cellOf hb 0 hlen
  rw [Nat.add_zero] at c0
  obtain ⟨x0, hx0⟩ : ∃ x0, zs.getD 0 0 = x0 := ⟨_, rfl⟩
  have hx0r := hbz.getD hlen
  rw [hx0] at c0 hx0r
  have Hx0 := Lib.hid hx0
  have hlz : (0 : Int) < (zs.length : Int) := by omega
  have hlb : ((zs.length : Int) == 0) = false := by simp; omega
  clear hb hcells hq3 hz hx0
  by_cases c1 : x0 < 128
  · have e1 : leadU x0 = x0 ∧ leadN x0 = 1 := by unfold leadU leadN; constructor <;> rw [if_pos (by omega)]
    have cL := lead x0 w hx0r.1 hx0r.2
    rw [e1.1, e1.2] at cL
    clear e1
    go_enter Tryd.func98, Tryd.ntmps98
    go_wp2_with (fail)
    refine cL.mono ?_
    rintro e w1 ⟨rfl, ho1⟩
    go_wp2_with (fail)
    refine (span _ _ _).mono ?_
    rintro e w2 ⟨f, rfl, ⟨p, q, rfl, hp, hq⟩, ho2⟩
    have ho12 := ho1.trans ho2 (fun _ h => h.elim)
    clear ho1 ho2 cL
    go_wp2
    go_rounds 2
    all_goals first | go_ret2 | skip
    all_goals try simp only [Bool.not_eq_true', Bool.not_eq_false', decide_eq_true_eq, decide_eq_false_iff_not] at *
    all_goals first | (exfalso; omega) | (refine ⟨⟨_, 0, rfl, .inr ⟨fun u r hu he => ?_, rfl, rfl⟩⟩, by repeat (first | exact ho12 | apply Only.alloc)⟩; have hf := unit_facts hu he; rw [Hx0.out] at hf; omega) | exact ⟨⟨_, 1, rfl, un1 (by omega) _ (by omega) (by omega) Hx0.out⟩, by repeat (first | exact ho12 | apply Only.alloc)⟩
  by_cases c2 : 192 ≤ x0 ∧ x0 < 224
  · have e1 : leadU x0 = x0 - 192 ∧ leadN x0 = 2 := by unfold leadU leadN; constructor <;> rw [if_neg (by omega), if_pos (by omega)]
    have cL := lead x0 w hx0r.1 hx0r.2
    rw [e1.1, e1.2] at cL
    clear e1
    by_cases l2 : zs.length < 2
    · have l2z : (zs.length : Int) < 2 := by omega
      go_enter Tryd.func98, Tryd.ntmps98
      go_wp2_with (fail)
      refine cL.mono ?_
      rintro e w1 ⟨rfl, ho1⟩
      go_wp2
      go_ret2
      refine ⟨⟨0, 0, rfl, .inr ⟨fun u r hu he => ?_, rfl, rfl⟩⟩, ho1⟩
      have hf := unit_facts hu he
      rw [Hx0.out] at hf
      omega
    have l2z : (2 : Int) ≤ (zs.length : Int) := by omega
    have hx1r := hbz.getD (j := 1) (by omega)
    have d1 := cellOf Hb.out 1 (by omega)
    obtain ⟨x1, hx1⟩ : ∃ x1, zs.getD 1 0 = x1 := ⟨_, rfl⟩
    rw [hx1] at hx1r d1
    have Hx1 := Lib.hid hx1
    have i1z : ((1 : Nat) : Int) < (zs.length : Int) := by omega
    clear hx1
    go_enter Tryd.func98, Tryd.ntmps98
    go_wp2_with (fail)
    refine cL.mono ?_
    rintro e w1 ⟨rfl, ho1⟩
    go_wp2_with (fail)
    refine (span _ _ _).mono ?_
    rintro e w2 ⟨f, rfl, ⟨p, q, rfl, hp, hq⟩, ho2⟩
    have ho12 := ho1.trans ho2 (fun _ h => h.elim)
    clear ho1 ho2 cL
    have g1 := ho12.cell d1 (fun h => h)
    clear d1 c0
    go_wp2
    go_rounds 3
    all_goals first | go_ret2 | skip
    all_goals try simp only [Bool.not_eq_true', Bool.not_eq_false', decide_eq_true_eq, decide_eq_false_iff_not] at *
    all_goals first | (exfalso; omega) | (refine ⟨⟨_, 0, rfl, .inr ⟨fun u r hu he => ?_, rfl, rfl⟩⟩, by repeat (first | exact ho12 | apply Only.alloc)⟩; have hf := unit_facts hu he; rw [Hx0.out, Hx1.out] at hf; omega) | exact ⟨⟨_, 2, rfl, un2 (by omega) _ (by omega) (by omega) (by rw [Hx0.out]; omega) (by rw [Hx1.out]; omega)⟩, by repeat (first | exact ho12 | apply Only.alloc)⟩
  by_cases c3 : 224 ≤ x0 ∧ x0 < 240
  · have e1 : leadU x0 = x0 - 224 ∧ leadN x0 = 3 := by unfold leadU leadN; constructor <;> rw [if_neg (by omega), if_neg (by omega), if_pos (by omega)]
    have cL := lead x0 w hx0r.1 hx0r.2
    rw [e1.1, e1.2] at cL
    clear e1
    by_cases l3 : zs.length < 3
    · have l3z : (zs.length : Int) < 3 := by omega
      go_enter Tryd.func98, Tryd.ntmps98
      go_wp2_with (fail)
      refine cL.mono ?_
      rintro e w1 ⟨rfl, ho1⟩
      go_wp2
      go_ret2
      refine ⟨⟨0, 0, rfl, .inr ⟨fun u r hu he => ?_, rfl, rfl⟩⟩, ho1⟩
      have hf := unit_facts hu he
      rw [Hx0.out] at hf
      omega
    have l3z : (3 : Int) ≤ (zs.length : Int) := by omega
    have hx1r := hbz.getD (j := 1) (by omega)
    have d1 := cellOf Hb.out 1 (by omega)
    obtain ⟨x1, hx1⟩ : ∃ x1, zs.getD 1 0 = x1 := ⟨_, rfl⟩
    rw [hx1] at hx1r d1
    have Hx1 := Lib.hid hx1
    have i1z : ((1 : Nat) : Int) < (zs.length : Int) := by omega
    clear hx1
    have hx2r := hbz.getD (j := 2) (by omega)
    have d2 := cellOf Hb.out 2 (by omega)
    obtain ⟨x2, hx2⟩ : ∃ x2, zs.getD 2 0 = x2 := ⟨_, rfl⟩
    rw [hx2] at hx2r d2
    have Hx2 := Lib.hid hx2
    have i2z : ((2 : Nat) : Int) < (zs.length : Int) := by omega
    clear hx2
    go_enter Tryd.func98, Tryd.ntmps98
    go_wp2_with (fail)
    refine cL.mono ?_
    rintro e w1 ⟨rfl, ho1⟩
    go_wp2_with (fail)
    refine (span _ _ _).mono ?_
    rintro e w2 ⟨f, rfl, ⟨p, q, rfl, hp, hq⟩, ho2⟩
    have ho12 := ho1.trans ho2 (fun _ h => h.elim)
    clear ho1 ho2 cL
    have g1 := ho12.cell d1 (fun h => h)
    have g2 := ho12.cell d2 (fun h => h)
    clear d1 d2 c0
    go_wp2
    go_rounds 4
    all_goals first | go_ret2 | skip
    all_goals try simp only [Bool.not_eq_true', Bool.not_eq_false', decide_eq_true_eq, decide_eq_false_iff_not] at *
    all_goals first | (exfalso; omega) | (refine ⟨⟨_, 0, rfl, .inr ⟨fun u r hu he => ?_, rfl, rfl⟩⟩, by repeat (first | exact ho12 | apply Only.alloc)⟩; have hf := unit_facts hu he; rw [Hx0.out, Hx1.out, Hx2.out] at hf; omega) | exact ⟨⟨_, 3, rfl, un3 (by omega) _ (by omega) (by omega) (by rw [Hx0.out]; omega) (by rw [Hx1.out]; omega) (by rw [Hx2.out]; omega)⟩, by repeat (first | exact ho12 | apply Only.alloc)⟩
  have e1 : leadU x0 = 0 ∧ leadN x0 = 0 := by unfold leadU leadN; constructor <;> rw [if_neg (by omega), if_neg (by omega), if_neg (by omega)]
  have cL := lead x0 w hx0r.1 hx0r.2
  rw [e1.1, e1.2] at cL
  clear e1
  go_enter Tryd.func98, Tryd.ntmps98
  go_wp2_with (fail)
  refine cL.mono ?_
  rintro e w1 ⟨rfl, ho1⟩
  go_wp2_with (fail)
  refine (span _ _ _).mono ?_
  rintro e w2 ⟨f, rfl, ⟨p, q, rfl, hp, hq⟩, ho2⟩
  have ho12 := ho1.trans ho2 (fun _ h => h.elim)
  clear ho1 ho2 cL
  go_wp2
  go_rounds 1
  all_goals first | go_ret2 | skip
  all_goals try simp only [Bool.not_eq_true', Bool.not_eq_false', decide_eq_true_eq, decide_eq_false_iff_not] at *
  all_goals first | (exfalso; omega) | (refine ⟨⟨_, 0, rfl, .inr ⟨fun u r hu he => ?_, rfl, rfl⟩⟩, by repeat (first | exact ho12 | apply Only.alloc)⟩; have hf := unit_facts hu he; rw [Hx0.out] at hf; omega)
end Go.Proofs.YtpiandkiijienaaDoor
