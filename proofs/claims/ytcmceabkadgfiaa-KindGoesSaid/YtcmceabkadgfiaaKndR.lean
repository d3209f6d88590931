/- The law's own look at a tree: rooted. Of what it takes each name stands once, its super ahead. -/
import Derived.Test.YtcmceabkadgfiaaKndG
import Derived.Deep.QuietTactic
import Derived.BigQuiet
namespace Go.Proofs.Ytcmceabkadgfiaa
open Go.RowKit
set_option linter.unusedVariables false
set_option linter.unusedSimpArgs false

def RootAt (l : List PairV) (i : Nat) : Prop := (l.getD i default).name ≠ ⟨#[]⟩ ∧ ((l.getD i default).super = ⟨#[]⟩ ∨ ∃ k, k < i ∧ (l.getD k default).name = (l.getD i default).super) ∧ ∀ k, k < l.length → k ≠ i → (l.getD k default).name ≠ (l.getD i default).name
theorem emptyB_toList : (⟨#[]⟩ : ByteArray).toList = [] := by rw [ByteArray.toList_eq]
set_option maxHeartbeats 16000000 in
set_option maxRecDepth 100000 in
theorem rooted_ (v : Value) (l : List PairV) (w : World) (hl : Pairs w v l) (hn : l.length ≤ 4611686018427387904) :
    Calls Try.prog 26 #[v] w fun e w' => ∃ r, e = .returned (.bool r) ∧ (r = true → RootedL l) ∧ Only (fun _ => False) w w' := by
  obtain ⟨ao, cap, rfl, p1, p2, p3, -⟩ := id hl
  have HL := Lib.hid hl
  have he := emptyB_toList
  clear hl p3
  go_enter Try.func26, Try.ntmps26
  go_wp2
  go_loopw [3] (fun i wr => ∃ j : Nat, i = .int .i64 j ∧ j ≤ l.length ∧ (∀ i, i < j → RootAt l i) ∧ Only (fun _ => False) w wr) (fun i _ => l.length - (intOf i).toNat)
  case atStart => exact ⟨0, rfl, Nat.zero_le _, fun i h => absurd h (by omega), Only.refl _ _⟩
  case round =>
    obtain ⟨j, rfl, hj, hr, hon⟩ := hrel
    have HON := Lib.hid hon
    have HRR := Lib.hid hr
    clear hr
    by_cases hlt : j < l.length
    · obtain ⟨b, o, rfl, x⟩ := Sl.at (HL.out.only hon) hlt
      obtain ⟨p, hp⟩ : ∃ p, p = l.getD j default := ⟨_, rfl⟩
      rw [← hp] at x
      have HP := Lib.hid hp
      obtain ⟨x0, x1⟩ := x
      have hjz : (j : Int) < (l.length : Int) := by omega
      clear hon hp
      go_wp2
      go_loopw [4, 5] (fun t k wr => ∃ (t' : Bool) (m : Nat), t = .bool t' ∧ k = .int .i64 m ∧ m ≤ l.length ∧ (t' = true → p.super = ⟨#[]⟩ ∨ ∃ k, k < j ∧ (l.getD k default).name = p.super) ∧ (∀ k, k < m → k ≠ j → (l.getD k default).name ≠ p.name) ∧ Only (fun _ => False) w wr) (fun _ k _ => l.length - (intOf k).toNat)
      case atStart =>
        refine ⟨_, 0, rfl, rfl, Nat.zero_le _, fun h => .inl ?_, fun k h => absurd h (by omega), HON.out⟩
        apply toList_inj'
        rw [he]
        simpa using h
      case round =>
        obtain ⟨t, m, rfl, rfl, hm, ht, hu, hon2⟩ := hrel
        have HON2 := Lib.hid hon2
        have HT := Lib.hid ht
        have HU := Lib.hid hu
        clear ht hu
        by_cases hml : m < l.length
        · obtain ⟨b2, o2, hbo, y⟩ := Sl.at (HL.out.only hon2) hlt
          injection hbo with hbo
          injection hbo with hb2 ho2 _
          subst hb2
          subst ho2
          rw [← HP.out] at y
          obtain ⟨y0, y1⟩ := y
          obtain ⟨b3, o3, hbo, z⟩ := Sl.at (HL.out.only hon2) hml
          injection hbo with hbo
          injection hbo with hb2 ho2 _
          subst hb2
          subst ho2
          obtain ⟨q, hq⟩ : ∃ q, q = l.getD m default := ⟨_, rfl⟩
          rw [← hq] at z
          have HQ := Lib.hid hq
          obtain ⟨z0, z1⟩ := z
          have hmz : (m : Int) < (l.length : Int) := by omega
          clear hon2 hq hm x0 x1
          by_cases hmj : m = j
          · have hm1 : (m : Int) = (j : Int) := by omega
            have hm2 : ((j : Int) != (j : Int)) = false := by simp
            have hm3 : ¬ (j : Int) < (j : Int) := by omega
            subst hmj
            cases t with
            | true =>
              go_wp2
              go_quiet (fail)
              go_wp2
              go_quiet (fail)
              go_wp2
              go_roundw
              case rel => exact ⟨true, m + 1, rfl, by go_num, by omega, (fun h => HT.out (by first | exact trivial | exact h)), fun k hk hne => HU.out k (by omega) hne, HON2.out.drewN _⟩
              case measure => simp [intOf]; omega
            | false =>
              go_wp2
              go_quiet (fail)
              go_wp2
              go_quiet (fail)
              go_wp2
              go_roundw
              case rel => exact ⟨false, m + 1, rfl, by go_num, by omega, (fun h => by cases h), fun k hk hne => HU.out k (by omega) hne, HON2.out.drewN _⟩
              case measure => simp [intOf]; omega
          · have hm2 : ((m : Int) == (j : Int)) = false := by rw [beq_eq_false_iff_ne]; omega
            have hm3 : ((m : Int) != (j : Int)) = true := by rw [bne, hm2]; rfl
            by_cases hnn : q.name = p.name
            · rw [hnn] at z0
              go_wp2
              go_quiet (fail)
              go_wp2
              go_ret
              exact ⟨false, rfl, (fun h => by cases h), HON2.out.drewN _⟩
            · have HN := Lib.hid hnn
              obtain ⟨n1, n2⟩ := toList_beq hnn
              clear hnn
              cases t with
              | true =>
                go_wp2
                go_quiet (fail)
                go_wp2
                go_quiet (fail)
                go_wp2
                go_roundw
                case rel => exact ⟨true, m + 1, rfl, by go_num, by omega, (fun h => HT.out (by first | exact trivial | exact h)), fun k hk hne => if e : k = m then by subst e; rw [← HQ.out]; exact HN.out else HU.out k (by omega) hne, HON2.out.drewN _⟩
                case measure => simp [intOf]; omega
              | false =>
                by_cases hmj2 : m < j
                · have hm4 : (m : Int) < (j : Int) := by omega
                  by_cases hns : q.name = p.super
                  · have HS := Lib.hid hns
                    rw [hns] at z0 n1 n2
                    clear hns
                    go_wp2
                    go_quiet (fail)
                    go_wp2
                    go_quiet (fail)
                    go_wp2
                    go_roundw
                    case rel => exact ⟨true, m + 1, rfl, by go_num, by omega, fun _ => .inr ⟨m, hmj2, by rw [← HQ.out]; exact HS.out⟩, fun k hk hne => if e : k = m then by subst e; rw [← HQ.out]; exact HN.out else HU.out k (by omega) hne, HON2.out.drewN _⟩
                    case measure => simp [intOf]; omega
                  · obtain ⟨n3, n4⟩ := toList_beq hns
                    clear hns
                    go_wp2
                    go_quiet (fail)
                    go_wp2
                    go_quiet (fail)
                    go_wp2
                    go_roundw
                    case rel => exact ⟨false, m + 1, rfl, by go_num, by omega, (fun h => by cases h), fun k hk hne => if e : k = m then by subst e; rw [← HQ.out]; exact HN.out else HU.out k (by omega) hne, HON2.out.drewN _⟩
                    case measure => simp [intOf]; omega
                · have hm4 : ¬ (m : Int) < (j : Int) := by omega
                  go_wp2
                  go_quiet (fail)
                  go_wp2
                  go_quiet (fail)
                  go_wp2
                  go_roundw
                  case rel => exact ⟨false, m + 1, rfl, by go_num, by omega, (fun h => by cases h), fun k hk hne => if e : k = m then by subst e; rw [← HQ.out]; exact HN.out else HU.out k (by omega) hne, HON2.out.drewN _⟩
                  case measure => simp [intOf]; omega
        · obtain rfl : m = l.length := by omega
          obtain ⟨b2, o2, hbo, y⟩ := Sl.at (HL.out.only hon2) hlt
          injection hbo with hbo
          injection hbo with hb2 ho2 _
          subst hb2
          subst ho2
          rw [← HP.out] at y
          obtain ⟨y0, y1⟩ := y
          clear hml hm hon2 x0 x1
          cases t with
          | false =>
            go_wp2
            go_ret
            exact .inl ⟨rfl, HON2.out⟩
          | true =>
            by_cases hpe : p.name = ⟨#[]⟩
            · rw [hpe] at y0
              clear hpe
              go_wp2
              go_ret
              exact .inl ⟨rfl, HON2.out⟩
            · have HPE := Lib.hid hpe
              obtain ⟨n1, n2⟩ := toList_beq hpe
              rw [he] at n1 n2
              clear hpe
              go_wp2
              go_roundw
              case rel =>
                refine ⟨j + 1, by go_num, by omega, fun i hi => ?_, HON2.out⟩
                by_cases e : i = j
                · subst e
                  unfold RootAt
                  rw [← HP.out]
                  exact ⟨HPE.out, HT.out (by first | exact trivial | rfl), HU.out⟩
                · exact HRR.out i (by omega)
              case measure => simp [intOf]; omega
    · obtain rfl : j = l.length := by omega
      clear hlt hj hon
      go_wp2
      go_ret
      exact ⟨true, rfl, fun _ => HRR.out, HON.out⟩
end Go.Proofs.Ytcmceabkadgfiaa
