/- The document's own Check of a method's code. No condition beyond a length that leaves room. -/
import Derived.Test.YtngoajhnnlnphaaFloL
namespace Go.Proofs.Ytngoajhnnlnphaa
open Go.RowKit
set_option linter.unusedVariables false
set_option linter.unusedSimpArgs false

theorem cells8 {w : World} {b : Nat} {c0 c1 c2 c3 c4 c5 c6 c7 : Value} {t : TypeId} {f : Nat × Nat} (h : w.heap[b]? = some (.cells #[c0, c1, c2, c3, c4, c5, c6, c7] t f)) :
    w.cell? ⟨b, 5, none⟩ = some c5 ∧ w.cell? ⟨b, 6, none⟩ = some c6 := ⟨cell_blk h 5, cell_blk h 6⟩
theorem right_empty (l : List InstrV) (n : Int) (ts : List TrapV) (h : l = []) : rightL l n ts = false := by subst h; rfl
theorem right_last (l : List InstrV) (n : Int) (ts : List TrapV) (h : lastFalls l = true) : rightL l n ts = false := by
  unfold rightL
  rw [h, Bool.or_true]
  rfl
theorem right_lead (l : List InstrV) (n : Int) (ts : List TrapV) {j : Nat} (hj : j < l.length) (h : badLead l (l.getD j default) = true) : rightL l n ts = false := by
  unfold rightL
  have : l.all (fun k => !badLead l k) = false := by
    rw [List.all_eq_false]
    exact ⟨_, getD_mem hj, by rw [h]; decide⟩
  rw [this]
  simp
theorem right_trap (l : List InstrV) (n : Int) (ts : List TrapV) {j : Nat} (hj : j < ts.length) (h : badTrap l n (ts.getD j default) = true) : rightL l n ts = false := by
  unfold rightL
  have : ts.all (fun t => !badTrap l n t) = false := by
    rw [List.all_eq_false]
    exact ⟨_, getD_mem hj, by rw [h]; decide⟩
  rw [this]
  simp
theorem right_yes (l : List InstrV) (n : Int) (ts : List TrapV) (h0 : l ≠ []) (h1 : lastFalls l = false) (h2 : ∀ j, j < l.length → badLead l (l.getD j default) = false) (h3 : ∀ j, j < ts.length → badTrap l n (ts.getD j default) = false) : rightL l n ts = true := by
  unfold rightL
  have e0 : l.isEmpty = false := by cases l with | nil => exact absurd rfl h0 | cons _ _ => rfl
  rw [h1, e0]
  simp only [Bool.or_self, Bool.not_false, Bool.true_and, Bool.and_eq_true, List.all_eq_true]
  refine ⟨fun k hk => ?_, fun t ht => ?_⟩
  · obtain ⟨j, hj, rfl⟩ := List.getElem_of_mem hk
    have := h2 j hj
    rw [show l.getD j default = l[j] by simp [List.getD, hj]] at this
    rw [this]; rfl
  · obtain ⟨j, hj, rfl⟩ := List.getElem_of_mem ht
    have := h3 j hj
    rw [show ts.getD j default = ts[j] by simp [List.getD, hj]] at this
    rw [this]; rfl
/-- What Check leaves. -/
def CheckTo (w : World) (m : MethodV) (e : Ending) (w' : World) : Prop := ∃ v l e0, e = .returned (.tuple #[v, .int .i64 e0]) ∧ Checked7 m.code m.traps l e0 ∧ Only (fun _ => False) w w' ∧ Instrs w' v l
theorem CheckTo.bad {w w' : World} {m : MethodV} {l : List InstrV} (hl : Listed m.code l 0) (hr : rightL l m.code.length m.traps = false) (ho : Only (fun _ => False) w w') : CheckTo w m (.returned (.tuple #[.slice none 0 0, .int .i64 70])) w' :=
  ⟨_, [], 70, rfl, ⟨l, 0, hl, .inr ⟨rfl, .inl ⟨hr, rfl, rfl⟩⟩⟩, ho, Instrs.nil _⟩
theorem lead_no {l : List InstrV} {k : InstrV} (h : isLead k = false) : badLead l k = false := by unfold badLead; rw [h]; rfl
theorem lead_yes {l : List InstrV} {k : InstrV} {b : Bool} (h : isLead k = true) (hb : decide (atZ l k.a < 0) = b) : badLead l k = b := by unfold badLead; rw [h, hb]; rfl
theorem leadZ_yes {k : InstrV} (h : isLead k = true) : leadZ k = k.a := by unfold leadZ; rw [if_pos h]

set_option maxHeartbeats 16000000 in
set_option maxRecDepth 100000 in
theorem refCheck7 (m : MethodV) (vc vt vm : Value) (w : World) (hm : Inside w m vc vt vm) (hl : m.code.length ≤ 4194304) :
    Calls Try.prog 14 #[.agg #[.int .i64 m.flags, .int .i64 m.name, .int .i64 m.desc, .int .i64 m.stack, .int .i64 m.locals, vc, vt, vm]] w (CheckTo w m) := by
  obtain ⟨hbc, ht, -⟩ := hm
  obtain ⟨ac, cc, rfl, p1, p2, p3, -, -⟩ := id hbc
  obtain ⟨at_, ct, rfl, s1, s2, s3, -⟩ := id ht.1
  have hb0 := heap_alloc_new w (.cells #[.int .i64 m.flags, .int .i64 m.name, .int .i64 m.desc, .int .i64 m.stack, .int .i64 m.locals, .slice ac m.code.length cc, .slice at_ m.traps.length ct, vm] 34)
  have ho0 := (Only.refl (fun _ => False) w).alloc (.cells #[.int .i64 m.flags, .int .i64 m.name, .int .i64 m.desc, .int .i64 m.stack, .int .i64 m.locals, .slice ac m.code.length cc, .slice at_ m.traps.length ct, vm] 34)
  have c1 := refList _ m.code _ (hbc.only ho0 (fun _ _ _ h => h)) hl
  have HT := Lib.hid ht.1
  have HB0 := Lib.hid hb0
  have HO0 := Lib.hid ho0
  have C1 := Lib.hid c1
  have HCL := Lib.hid p1
  unfold maxLen at p2
  clear hbc ht hb0 ho0 c1 p3 s3
  go_enter Try.func14, Try.ntmps14
  go_wp2_with (fail)
  refine C1.out.mono ?_
  rintro e w1 ⟨v, l, e0, rfl, hls, ho1, hrow⟩
  have hon1 := HO0.out.trans ho1 (fun _ h _ => h)
  have hb1 := ho1.heap HB0.out (fun h => h)
  obtain ⟨av, cv, rfl, g1, g2, g3, -⟩ := id hrow.instrs
  have HI1 := Lib.hid hrow.instrs
  have hln := hls.short
  have HON1 := Lib.hid hon1
  have HB1 := Lib.hid hb1
  clear hon1 hb1 hrow ho1 C1 HB0 HO0 g3
  by_cases he : e0 = 0
  · subst he
    have HLS := Lib.hid hls
    clear hls
    rcases List.eq_nil_or_concat l with hnil | ⟨l', kl, hcat⟩
    · have HR := Lib.hid (right_empty l m.code.length m.traps hnil)
      have hz : l.length = 0 := by rw [hnil]; rfl
      have hz2 : ((l.length : Int) == 0) = true := by rw [hz]; rfl
      clear hnil hz
      go_wp2
      go_ret2
      exact CheckTo.bad HLS.out HR.out HON1.out
    · have hlen : 0 < l.length := by rw [hcat]; simp
      have HNE : Hid (l ≠ []) := Lib.hid (fun h => by rw [h] at hlen; simp at hlen)
      clear hcat
      have hz2 : ((l.length : Int) == 0) = false := by rw [beq_eq_false_iff_ne]; omega
      have hl1 : (0 : Int) ≤ (l.length : Int) - 1 := by omega
      have hl2 : ((l.length : Int) - 1).toNat = l.length - 1 := by omega
      have hl3 : (l.length : Int) - 1 < (l.length : Int) := by omega
      obtain ⟨b, o, rfl, x⟩ := Sl.at HI1.out (show l.length - 1 < l.length by omega)
      obtain ⟨x0, x1, x2, x3, x4⟩ := x
      have cf := refFalls (l.getD (l.length - 1) default) w1
      obtain ⟨lf, hlf⟩ : ∃ lf, lf = lastFalls l := ⟨_, rfl⟩
      rw [show fallsZ (l.getD (l.length - 1) default).op = lf from hlf.symm] at cf
      have HLF := Lib.hid hlf.symm
      unfold valI at cf
      generalize l.getD (l.length - 1) default = kl at *
      have CF := Lib.hid cf
      clear hlf cf
      cases lf
      · go_wp2_with (fail)
        refine CF.out.mono ?_
        rintro e w2 ⟨rfl, ho2⟩
        have HON2 := Lib.hid (HON1.out.trans ho2 (fun _ h _ => h))
        have HB2 := Lib.hid (ho2.heap HB1.out (fun h => h))
        have HI2 := Lib.hid (HI1.out.only ho2)
        clear ho2 CF HON1 HB1 HI1 x0 x1 x2 x3 x4 hz2 hl1 hl2 hl3
        go_wp2
        go_loopw [6] (fun i wr => ∃ j : Nat, i = .int .i64 j ∧ j ≤ l.length ∧ (∀ n, n < j → badLead l (l.getD n default) = false) ∧ Only (fun _ => False) w2 wr) (fun i _ => l.length - (intOf i).toNat)
        case atStart => exact ⟨0, rfl, Nat.zero_le _, fun n hn => by omega, Only.refl _ _⟩
        case round =>
          obtain ⟨j, rfl, hj, hbef, hon⟩ := hrel
          have HON := Lib.hid hon
          have HBEF := Lib.hid hbef
          have HIr := Lib.hid (HI2.out.only hon)
          clear hon hbef
          by_cases hlt : j < l.length
          · obtain ⟨b2, o2, hbo, x⟩ := Sl.at HIr.out hlt
            injection hbo with hbo
            injection hbo with hbo1 hbo2
            subst hbo1 hbo2
            obtain ⟨x0, x1, x2, x3, x4⟩ := x
            have hjz : (j : Int) < (l.length : Int) := by omega
            have cl := refLeads (l.getD j default) wr
            have HNX : Hid (badLead l (l.getD j default) = false → ∀ n, n < j + 1 → badLead l (l.getD n default) = false) := by
              refine Lib.hid ?_
              intro hn n hnj
              by_cases hkj : n < j
              · exact HBEF.out n hkj
              · rw [show n = j by omega]; exact hn
            have HBAD := Lib.hid (fun h => right_lead l m.code.length m.traps hlt h)
            generalize l.getD j default = k at *
            cases hld : isLead k
            · have HG := Lib.hid (HNX.out (lead_no hld))
              have hlz : leadZ k = 0 := by unfold leadZ; rw [hld]; rfl
              rw [hld, hlz] at cl
              unfold valI at cl
              have CL := Lib.hid cl
              clear cl hld hlz
              go_wp2_with (fail)
              refine CL.out.mono ?_
              rintro e w3 ⟨rfl, ho3⟩
              have HON3 := Lib.hid (HON.out.trans ho3 (fun _ h _ => h))
              clear ho3 CL
              go_wp2
              go_roundw
              case rel => exact ⟨j + 1, by go_num, by omega, HG.out, HON3.out⟩
              case measure => simp [intOf]; omega
            · rw [hld, leadZ_yes hld] at cl
              unfold valI at cl
              have cA := fun w' (h : Instrs w' (.slice (some ⟨b, o, none⟩) l.length cv) l) => refAt _ l k.a w' h (by omega)
              have HLY := Lib.hid (fun b h => lead_yes (l := l) (k := k) (b := b) hld h)
              generalize hzz : atZ l k.a = z at *
              have CL := Lib.hid cl
              have CA := Lib.hid cA
              clear cl cA hld hzz
              go_wp2_with (fail)
              refine CL.out.mono ?_
              rintro e w3 ⟨rfl, ho3⟩
              have HON3 := Lib.hid (HON.out.trans ho3 (fun _ h _ => h))
              have HI3 := Lib.hid (HIr.out.only ho3)
              clear ho3 CL
              go_wp2_with (fail)
              refine (CA.out _ HI3.out).mono ?_
              rintro e w4 ⟨rfl, rfl⟩
              by_cases hz : z < 0
              · have HR := Lib.hid (HBAD.out (HLY.out true (by simpa using hz)))
                go_wp2
                go_ret2
                exact CheckTo.bad HLS.out HR.out (HON2.out.trans HON3.out (fun _ h _ => h))
              · have HG := Lib.hid (HNX.out (HLY.out false (by simpa using hz)))
                go_wp2
                go_roundw
                case rel => exact ⟨j + 1, by go_num, by omega, HG.out, HON3.out⟩
                case measure => simp [intOf]; omega
          · obtain rfl : j = l.length := by omega
            have HONA := Lib.hid (HON2.out.trans HON.out (fun _ h _ => h))
            have HBA := Lib.hid (HON.out.heap HB2.out (fun h => h))
            clear hlt hj
            obtain ⟨q5, q6⟩ := cells8 HBA.out
            go_wp2
            generalize hwA : wr = wA at *
            clear hwA
            go_loopw [9] (fun i wr => ∃ j : Nat, i = .int .i64 j ∧ j ≤ m.traps.length ∧ (∀ n, n < j → badTrap l m.code.length (m.traps.getD n default) = false) ∧ Only (fun _ => False) wA wr) (fun i _ => m.traps.length - (intOf i).toNat)
            case atStart => exact ⟨0, rfl, Nat.zero_le _, fun n hn => by omega, Only.refl _ _⟩
            case round =>
              obtain ⟨j, rfl, hj, hbt, hon⟩ := hrel
              have HBTR := Lib.hid hbt
              have HBB := Lib.hid (hon.heap HBA.out (fun h => h))
              have HIT := Lib.hid (HIr.out.only hon)
              have HOW := Lib.hid (HONA.out.trans hon (fun _ h _ => h))
              have HONT := Lib.hid hon
              have HTT := Lib.hid (HT.out.imp (fun _ _ _ _ _ h => h.only (HONA.out.trans hon (fun _ h _ => h))))
              clear hon hbt q5 q6
              obtain ⟨q5, q6⟩ := cells8 HBB.out
              by_cases hlt : j < m.traps.length
              · obtain ⟨bt, ot, rfl, y⟩ := Sl.at HTT.out hlt
                obtain ⟨y0, y1, y2, y3⟩ := y
                have hjz : (j : Int) < (m.traps.length : Int) := by omega
                have HNX : Hid (badTrap l m.code.length (m.traps.getD j default) = false → ∀ n, n < j + 1 → badTrap l m.code.length (m.traps.getD n default) = false) := by
                  refine Lib.hid ?_
                  intro hn n hnj
                  by_cases hkj : n < j
                  · exact HBTR.out n hkj
                  · rw [show n = j by omega]; exact hn
                have HBAD := Lib.hid (fun h => right_trap l m.code.length m.traps hlt h)
                generalize m.traps.getD j default = t at *
                have hal := (Only.refl (fun _ => False) wr).alloc (.cells #[.int .i64 t.from_, .int .i64 t.to_, .int .i64 t.hand, .int .i64 t.type] 48)
                have hbb2 := hal.heap HBB.out (fun h => h)
                have HIA := Lib.hid (HIT.out.only hal)
                have HAL := Lib.hid hal
                clear q5 q6
                obtain ⟨q5, q6⟩ := cells8 HBB.out
                obtain ⟨u5, u6⟩ := cells8 hbb2
                have cA := fun x w' (h : Instrs w' (.slice (some ⟨b, o, none⟩) l.length cv) l) => refAt _ l x w' h (by omega)
                have c1 := cA t.from_
                have c2 := cA t.to_
                have c3 := cA t.hand
                generalize hz1 : atZ l t.from_ = z1 at *
                generalize hz2 : atZ l t.to_ = z2 at *
                generalize hz3 : atZ l t.hand = z3 at *
                have K1 := Lib.hid c1
                have K2 := Lib.hid c2
                have K3 := Lib.hid c3
                have Z1 := Lib.hid hz1
                have Z2 := Lib.hid hz2
                have Z3 := Lib.hid hz3
                clear cA c1 c2 c3 hz1 hz2 hz3 hal hbb2
                go_wp2_with (fail)
                refine (K1.out _ HIA.out).mono ?_
                rintro e w9 ⟨rfl, rfl⟩
                by_cases h1 : z1 < 0
                · have D1 := Lib.hid (show decide (z1 < 0) = true by simpa using h1)
                  go_wp2
                  go_ret2
                  exact CheckTo.bad HLS.out (HBAD.out (by unfold badTrap; rw [Z1.out, D1.out]; rfl)) (HOW.out.trans HAL.out (fun _ h _ => h))
                · have D1 := Lib.hid (show decide (z1 < 0) = false by simpa using h1)
                  go_wp2_with (fail)
                  refine (K2.out _ HIA.out).mono ?_
                  rintro e w9 ⟨rfl, rfl⟩
                  by_cases h2 : z2 < 0
                  · have D2 := Lib.hid (show decide (z2 < 0) = true by simpa using h2)
                    by_cases h4 : t.to_ = (m.code.length : Int)
                    · have d4 : (t.to_ == (m.code.length : Int)) = true := by simpa using h4
                      have d4' : (t.to_ != (m.code.length : Int)) = false := by rw [bne, d4]; rfl
                      have D4 := Lib.hid d4'
                      clear h4
                      go_wp2_with (fail)
                      refine (K3.out _ HIA.out).mono ?_
                      rintro e w9 ⟨rfl, rfl⟩
                      by_cases h3 : z3 < 0
                      · have D3 := Lib.hid (show decide (z3 < 0) = true by simpa using h3)
                        go_wp2
                        go_ret2
                        exact CheckTo.bad HLS.out (HBAD.out (by unfold badTrap; rw [Z1.out, D1.out, Z2.out, D2.out, D4.out, Z3.out, D3.out]; rfl)) (HOW.out.trans HAL.out (fun _ h _ => h))
                      · have D3 := Lib.hid (show decide (z3 < 0) = false by simpa using h3)
                        go_wp2
                        go_roundw
                        case rel => exact ⟨j + 1, by go_num, by omega, HNX.out (by unfold badTrap; rw [Z1.out, D1.out, Z2.out, D2.out, D4.out, Z3.out, D3.out]; rfl), HONT.out.trans HAL.out (fun _ h _ => h)⟩
                        case measure => simp [intOf]; omega
                    · have d4 : (t.to_ == (m.code.length : Int)) = false := by rw [beq_eq_false_iff_ne]; exact h4
                      have d4' : (t.to_ != (m.code.length : Int)) = true := by rw [bne, d4]; rfl
                      have D4 := Lib.hid d4'
                      clear h4
                      go_wp2
                      go_ret2
                      exact CheckTo.bad HLS.out (HBAD.out (by unfold badTrap; rw [Z1.out, D1.out, Z2.out, D2.out, D4.out]; rfl)) (HOW.out.trans HAL.out (fun _ h _ => h))
                  · have D2 := Lib.hid (show decide (z2 < 0) = false by simpa using h2)
                    go_wp2_with (fail)
                    refine (K3.out _ HIA.out).mono ?_
                    rintro e w9 ⟨rfl, rfl⟩
                    by_cases h3 : z3 < 0
                    · have D3 := Lib.hid (show decide (z3 < 0) = true by simpa using h3)
                      go_wp2
                      go_ret2
                      exact CheckTo.bad HLS.out (HBAD.out (by unfold badTrap; rw [Z1.out, D1.out, Z2.out, D2.out, Z3.out, D3.out]; rfl)) (HOW.out.trans HAL.out (fun _ h _ => h))
                    · have D3 := Lib.hid (show decide (z3 < 0) = false by simpa using h3)
                      go_wp2
                      go_roundw
                      case rel => exact ⟨j + 1, by go_num, by omega, HNX.out (by unfold badTrap; rw [Z1.out, D1.out, Z2.out, D2.out, Z3.out, D3.out]; rfl), HONT.out.trans HAL.out (fun _ h _ => h)⟩
                      case measure => simp [intOf]; omega
              · have HR : Hid (rightL l m.code.length m.traps = true) := Lib.hid (right_yes l _ _ HNE.out HLF.out (fun n hn => HBEF.out n hn) (fun n hn => HBTR.out n (by omega)))
                obtain rfl : j = m.traps.length := by omega
                clear hlt hj
                go_wp2
                go_ret2
                exact ⟨_, l, 0, rfl, ⟨l, 0, HLS.out, .inr ⟨rfl, .inr ⟨HR.out, rfl, rfl⟩⟩⟩, HOW.out, HIT.out⟩
      · have HR := Lib.hid (right_last l m.code.length m.traps HLF.out)
        go_wp2_with (fail)
        refine CF.out.mono ?_
        rintro e w2 ⟨rfl, ho2⟩
        have HON2 := Lib.hid (HON1.out.trans ho2 (fun _ h _ => h))
        clear ho2 CF
        go_wp2
        go_ret2
        exact CheckTo.bad HLS.out HR.out HON2.out
  · have hl0 : l = [] := by
      rcases hls with ⟨h, _⟩ | ⟨h, _⟩
      · exact absurd h he
      · exact h
    have HC := Lib.hid (show Checked7 m.code m.traps [] e0 from ⟨l, e0, hls, .inl ⟨he, rfl, rfl⟩⟩)
    have heb : (e0 == 0) = false := by rw [beq_eq_false_iff_ne]; exact he
    have heb2 : (e0 != 0) = true := by rw [bne, heb]; rfl
    clear hls he hl0
    go_wp2
    go_ret2
    exact ⟨_, [], e0, rfl, HC.out, HON1.out, Instrs.nil _⟩
end Go.Proofs.Ytngoajhnnlnphaa
