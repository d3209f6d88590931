/- The program's Check of a method's code. No condition beyond a length that leaves room. -/
import Derived.Test.YtngoajhnnlnphaaFloQ
import Derived.Test.YtngoajhnnlnphaaFloP
namespace Go.Proofs.Ytngoajhnnlnphaa
open Go.RowKit
set_option linter.unusedVariables false
set_option linter.unusedSimpArgs false

theorem run_ranges {zs : List Int} {l : List InstrV} {p : Nat} (h : Run zs l p) (hb : Bytish zs) (hl : zs.length ≤ 4194304) : (∀ k ∈ l, I64 k.at_) ∧ ∀ k ∈ l, isLead k = true → I64 k.a := by
  have key : ∀ k ∈ l, I64 k.at_ ∧ (isLead k = true → I64 k.a) := by
    intro k hk
    obtain ⟨i, hi, rfl⟩ := List.getElem_of_mem hk
    obtain ⟨q, h1, h2, h3⟩ := Run.at_ h i hi
    rw [show l.getD i default = l[i] by simp [List.getD, hi]] at h3
    have hf := dec_fits h2 h3
    refine ⟨by unfold I64; omega, fun hld => ?_⟩
    obtain ⟨op, rest, c, hz, hc, hle, hk⟩ := dec_ok h3
    have hrest : Bytish rest := fun z hz' => hb z (List.mem_of_mem_drop (i := q) (by rw [hz]; exact List.mem_cons_of_mem _ hz'))
    have hs : c.shape = 116 := by
      rw [hk] at hld
      unfold isLead at hld
      rw [(shape_of hc).1] at hld
      simpa using hld
    rw [hk]
    unfold aZ numZ
    rw [hs] at hle ⊢
    have hlen : (rest.take 2).length = 2 := by
      rw [List.length_take]
      have : extraZ 116 = 2 := by decide
      omega
    have hv := valB_lt 2 (rest.take 2) hlen (fun z hz' => hrest z (List.mem_of_mem_take hz'))
    have e1 : lenA 116 = 2 := by decide
    have e2 : sgA 116 = true := by decide
    have e3 : leadsZ 116 = true := by decide
    rw [e1, e2, e3, if_neg (by decide), if_pos rfl, if_pos rfl, sgn2]
    unfold I64
    simp only
    split <;> omega
  exact ⟨fun k hk => (key k hk).1, fun k hk => (key k hk).2⟩

set_option maxHeartbeats 16000000 in
set_option maxRecDepth 100000 in
theorem progCheck7 (m : MethodV) (vc vt vm : Value) (w : World) (hm : Inside w m vc vt vm) (hl : m.code.length ≤ 4194304) (hnt : m.traps.length ≤ 9223372036854775806) :
    Calls Try.prog 13 #[.agg #[.int .i64 m.flags, .int .i64 m.name, .int .i64 m.desc, .int .i64 m.stack, .int .i64 m.locals, vc, vt, vm]] w (CheckTo w m) := by
  have HM := Lib.hid hm
  obtain ⟨hbc, ht, hbm⟩ := id hm
  obtain ⟨ac, cc, rfl, p1, p2, p3, hby, -⟩ := id hbc
  obtain ⟨at_, ct, rfl, s1, s2, s3, -⟩ := id ht.1
  obtain ⟨am, cm, rfl, -, -, -, -, -⟩ := id hbm
  have hb0 := heap_alloc_new w (.cells #[.int .i64 m.flags, .int .i64 m.name, .int .i64 m.desc, .int .i64 m.stack, .int .i64 m.locals, .slice ac m.code.length cc, .slice at_ m.traps.length ct, .slice am m.maps.length cm] 34)
  have ho0 := (Only.refl (fun _ => False) w).alloc (.cells #[.int .i64 m.flags, .int .i64 m.name, .int .i64 m.desc, .int .i64 m.stack, .int .i64 m.locals, .slice ac m.code.length cc, .slice at_ m.traps.length ct, .slice am m.maps.length cm] 34)
  have c1 := progList _ m.code _ (hbc.only ho0 (fun _ _ _ h => h)) hl
  have HB0 := Lib.hid hb0
  have HO0 := Lib.hid ho0
  have C1 := Lib.hid c1
  have HBY := Lib.hid hby
  unfold maxLen at p2
  clear hm hbc ht hbm hb0 ho0 c1 p3 s3 hby
  go_enter Try.func13, Try.ntmps13
  go_wp2_with (fail)
  refine C1.out.mono ?_
  rintro e w1 ⟨v, l, e0, rfl, hls, ho1, hrow⟩
  have hon1 := HO0.out.trans ho1 (fun _ h _ => h)
  have hb1 := ho1.heap HB0.out (fun h => h)
  obtain ⟨av, cv, rfl, g1, g2, g3, -⟩ := id hrow.instrs
  have HI1 := Lib.hid hrow.instrs
  have hln := hls.short
  have HON1 := Lib.hid hon1
  have HB1 := Lib.hid hb1
  clear hon1 hb1 hrow ho1 C1 HB0 HO0 g3
  by_cases he : e0 = 0
  · subst he
    have HLS := Lib.hid hls
    clear hls
    rcases List.eq_nil_or_concat l with hnil | ⟨l', kl, hcat⟩
    · have HR := Lib.hid (right_empty l m.code.length m.traps hnil)
      have hz : l.length = 0 := by rw [hnil]; rfl
      have hz2 : ((l.length : Int) == 0) = true := by rw [hz]; rfl
      clear hnil hz
      go_wp2
      go_ret2
      exact CheckTo.bad HLS.out HR.out HON1.out
    · have hlen : 0 < l.length := by rw [hcat]; simp
      have hne : l.isEmpty = false := by
        cases l with
        | nil => simp at hlen
        | cons _ _ => rfl
      clear hcat
      have hz2 : ((l.length : Int) == 0) = false := by rw [beq_eq_false_iff_ne]; omega
      have hl1 : (0 : Int) ≤ (l.length : Int) - 1 := by omega
      have hl2 : ((l.length : Int) - 1).toNat = l.length - 1 := by omega
      have hl3 : (l.length : Int) - 1 < (l.length : Int) := by omega
      obtain ⟨b, o, rfl, x⟩ := Sl.at HI1.out (show l.length - 1 < l.length by omega)
      obtain ⟨x0, x1, x2, x3, x4⟩ := x
      have cf := progFalls (l.getD (l.length - 1) default) w1
      obtain ⟨lf, hlf⟩ : ∃ lf, lf = lastFalls l := ⟨_, rfl⟩
      rw [show fallsZ (l.getD (l.length - 1) default).op = lf from hlf.symm] at cf
      have HLF := Lib.hid hlf.symm
      unfold valI at cf
      generalize l.getD (l.length - 1) default = kl at *
      have CF := Lib.hid cf
      clear hlf cf
      cases lf
      · have HRZ : Hid (rightL l m.code.length m.traps = !(namesZ l m.traps).any (strayZ l m.code.length)) := Lib.hid (by rw [rightL_names, HLF.out, hne]; rfl)
        have hrun : Run m.code l m.code.length := by
          rcases HLS.out with ⟨_, h⟩ | ⟨_, h, _⟩
          · exact h
          · exact absurd rfl h
        have hrr := run_ranges hrun HBY.out hl
        have HRR := Lib.hid hrr
        clear hrun hrr hne
        go_wp2_with (fail)
        refine CF.out.mono ?_
        rintro e w2 ⟨rfl, ho2⟩
        have hon2 := HON1.out.trans ho2 (fun _ h _ => h)
        have hb2 := ho2.heap HB1.out (fun h => h)
        have hi2 := HI1.out.only ho2
        have c2 := strays m _ _ _ _ l w2 hi2 (HM.out.only hon2) HRR.out.1 HRR.out.2 (by omega) hnt
        have HON2 := Lib.hid hon2
        have HI2 := Lib.hid hi2
        have q0 := cell_blk hb2 0
        have q1 := cell_blk hb2 1
        have q2 := cell_blk hb2 2
        have q3 := cell_blk hb2 3
        have q4 := cell_blk hb2 4
        have q5 := cell_blk hb2 5
        have q6 := cell_blk hb2 6
        have q7 := cell_blk hb2 7
        simp only [List.getElem?_toArray, List.getElem?_cons_succ, List.getElem?_cons_zero] at q0 q1 q2 q3 q4 q5 q6 q7
        cases hs : (namesZ l m.traps).any (strayZ l m.code.length)
        · rw [hs] at c2
          have HR := Lib.hid (show rightL l m.code.length m.traps = true by rw [HRZ.out, hs]; rfl)
          have C2 := Lib.hid c2
          clear hon2 ho2 hb2 hi2 c2 hs CF x0 x1 x2 x3 x4
          go_wp2_with (fail)
          refine C2.out.mono ?_
          rintro e w3 ⟨rfl, ho3⟩
          have HON3 := Lib.hid (HON2.out.trans ho3 (fun _ h _ => h))
          have HI3 := Lib.hid (HI2.out.only ho3)
          clear ho3 q0 q1 q2 q3 q4 q5 q6 q7
          go_wp2
          go_ret2
          exact ⟨_, l, 0, rfl, ⟨l, 0, HLS.out, .inr ⟨rfl, .inr ⟨HR.out, rfl, rfl⟩⟩⟩, HON3.out, HI3.out⟩
        · rw [hs] at c2
          have HR := Lib.hid (show rightL l m.code.length m.traps = false by rw [HRZ.out, hs]; rfl)
          have C2 := Lib.hid c2
          clear hon2 ho2 hb2 hi2 c2 hs CF x0 x1 x2 x3 x4
          go_wp2_with (fail)
          refine C2.out.mono ?_
          rintro e w3 ⟨rfl, ho3⟩
          have HON3 := Lib.hid (HON2.out.trans ho3 (fun _ h _ => h))
          clear ho3 q0 q1 q2 q3 q4 q5 q6 q7
          go_wp2
          go_ret2
          exact CheckTo.bad HLS.out HR.out HON3.out
      · have HR := Lib.hid (right_last l m.code.length m.traps HLF.out)
        clear hne
        go_wp2_with (fail)
        refine CF.out.mono ?_
        rintro e w2 ⟨rfl, ho2⟩
        have HON2 := Lib.hid (HON1.out.trans ho2 (fun _ h _ => h))
        clear ho2 CF
        go_wp2
        go_ret2
        exact CheckTo.bad HLS.out HR.out HON2.out
  · have hl0 : l = [] := by
      rcases hls with ⟨h, _⟩ | ⟨h, _⟩
      · exact absurd h he
      · exact h
    have HC := Lib.hid (show Checked7 m.code m.traps [] e0 from ⟨l, e0, hls, .inl ⟨he, rfl, rfl⟩⟩)
    have heb : (e0 == 0) = false := by rw [beq_eq_false_iff_ne]; exact he
    have heb2 : (e0 != 0) = true := by rw [bne, heb]; rfl
    clear hls he hl0
    go_wp2
    go_ret2
    exact ⟨_, [], e0, rfl, HC.out, HON1.out, Instrs.nil _⟩
end Go.Proofs.Ytngoajhnnlnphaa
