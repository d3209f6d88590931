/- The program's own Encode of an instruction. No condition but that its numbers are integers of 64 bits. -/
import Derived.Test.YtcfnikngapngkaaOpsG
import Derived.Test.YtcfnikngapngkaaOpsH
namespace Go.Proofs.Ytcfnikngapngkaa
open Go.RowKit
set_option linter.unusedVariables false
set_option linter.unusedSimpArgs false

/-- All that an instruction says is an integer of 64 bits. -/
def InstrR (i : InstrV) : Prop := IsI64 i.at_ ∧ IsI64 i.op ∧ IsI64 i.a ∧ IsI64 i.b ∧ IsI64 i.size
set_option maxHeartbeats 1000000 in
theorem progIsPlace (n : Int) (w : World) : Calls Try.prog 28 #[.int .i64 n] w fun e w' => e = .returned (.bool (isPlaceZ n)) ∧ w = w' := by
  by_cases h : 0 ≤ n
  · go_enter Try.func28, Try.ntmps28
    go_wp2
    go_ret
    refine ⟨?_, rfl⟩
    simp [isPlaceZ, h]
  · go_enter Try.func28, Try.ntmps28
    go_wp2
    go_ret
    refine ⟨?_, rfl⟩
    have h2 : ¬ 0 ≤ n := by omega
    simp [isPlaceZ, h2]
theorem fitZ_b (s : Int) (x : Int) : fitZ (decide (s = 105)) (lenB s) x = fitZ true (lenB s) x := by
  unfold lenB
  by_cases h : s = 105
  · rw [if_pos h]; simp [h]
  · rw [if_neg h]; rfl
/-- A writer whose blocks all lie from M on. -/
def WrM (M : Nat) (w : World) (wb : Nat) (bs : List Int) : Prop := ∃ sv, Wr w wb sv 3 bs ∧ (∀ k, sv.ownBlock = some k → M ≤ k) ∧ M ≤ wb
theorem WrM.to {M : Nat} {w w' : World} {wb : Nat} {sv : Value} {bs : List Int} (hs : ∀ k, sv.ownBlock = some k → M ≤ k) (hM : M ≤ wb) (hMw : M ≤ w.heap.size) (h : WrTo w wb sv 3 bs w') : WrM M w' wb bs ∧ Only (fun k => M ≤ k) w w' := by
  obtain ⟨sv', h1, h2, h3⟩ := h
  refine ⟨⟨sv', h1, fun k hk => (h3 k hk).elim (hs k) (fun e => by omega), hM⟩, h2.mono fun k hk _ => ?_⟩
  rcases hk with rfl | hk
  · exact hM
  · exact hs k hk
theorem WrM.only {S : Nat → Prop} {M : Nat} {w w' : World} {wb : Nat} {bs : List Int} (h : WrM M w wb bs) (ho : Only S w w') (hS : ∀ k, S k → k < M) : WrM M w' wb bs := by
  obtain ⟨sv, h1, h2, h3⟩ := h
  exact ⟨sv, h1.only ho (fun hs => by have := hS _ hs; omega) (fun k hk hs => by have := hS _ hs; have := h2 k hk; omega), h2, h3⟩
theorem WrM.new (w : World) : WrM w.heap.size (w.alloc (.cells #[.slice none 0 0, .int .i64 3, .bool true] 87)) w.heap.size [] :=
  ⟨_, Wr.new w 3 (by omega), (fun k hk => by cases hk), Nat.le_refl _⟩
/-- The writer's own number of a code. -/
theorem wrCode {M wb : Nat} {op : Int} {w : World} (h : WrM M w wb []) (hM : M ≤ w.heap.size) (h0 : 0 ≤ op) (h1 : op < 200) :
    Calls Try.prog 30 #[.pointer (some ⟨wb, 0, none⟩), .int .i64 1, .int .u64 op] w fun e w' =>
      e = .returned (.int .i64 0) ∧ WrM M w' wb [op] ∧ Only (fun k => M ≤ k) w w' := by
  obtain ⟨sv, hW, h2, h3⟩ := h
  have c := wrUint wb sv 3 [] 1 op w hW
  have hf : fitU 1 op = true := by
    have := fitU_iff 1 (by omega) (by omega) op h0
    rw [show ((1 : Nat) : Int) = 1 from rfl] at this
    rw [this]; simp; omega
  have hd : digs 1 op = [op] := by rw [digs1, dig0]; congr 1; omega
  rw [hf, show wrErr true 1 (((3 : Nat) : Int) - (([] : List Int).length : Int)) = 0 from rfl, show addU true 1 op (((3 : Nat) : Int) - (([] : List Int).length : Int)) = digs 1 op from rfl, hd] at c
  refine c.mono ?_
  rintro e w' ⟨rfl, ht⟩
  exact ⟨rfl, WrM.to h2 h3 hM ht⟩
theorem wrOp {M wb n : Nat} {sg : Bool} {bs : List Int} {x : Int} {w : World} (h : WrM M w wb bs) (hM : M ≤ w.heap.size) (hn : n ≤ 2) (hroom : bs.length + n ≤ 3) (hx : IsI64 x) :
    Calls Try.prog 31 #[.agg #[.int .i64 n, .bool sg], .pointer (some ⟨wb, 0, none⟩), .int .i64 x] w fun e w' =>
      e = .returned (.int .i64 (if fitZ sg n x then 0 else 1)) ∧ WrM M w' wb (bs ++ (if fitZ sg n x then digs n x else [])) ∧ Only (fun k => M ≤ k) w w' := by
  obtain ⟨sv, hW, h2, h3⟩ := h
  refine (progWrite n sg wb sv 3 bs x w hW hn hroom hx).mono ?_
  rintro e w' ⟨rfl, ht⟩
  exact ⟨rfl, WrM.to h2 h3 hM ht⟩
theorem wrEnd {M wb : Nat} {bs : List Int} {w : World} (h : WrM M w wb bs) : Calls Try.prog 32 #[.pointer (some ⟨wb, 0, none⟩)] w fun e w' => ∃ v', e = .returned v' ∧ Bytes w' v' bs ∧ Only (fun _ => False) w w' := by
  obtain ⟨sv, hW, h2, h3⟩ := h
  refine (wrOut wb sv 3 bs w hW).mono ?_
  rintro e w' ⟨v', rfl, hown, hbel⟩
  exact ⟨v', rfl, Bytes.of_owns hown hW.byt, Only.of_below hbel _⟩
theorem bytes_nil (w : World) : Bytes w (.slice none 0 0) [] := ⟨none, 0, rfl, Nat.le_refl _, Nat.zero_le _, fun _ => rfl, Bytish.nil, fun x h => by cases h⟩

/-- What Encode leaves: a list of bytes and a fault. -/
def EncTo (w : World) (r : List Int × Int) (e : Ending) (w' : World) : Prop := ∃ v, e = .returned (.tuple #[v, .int .i64 r.2]) ∧ Bytes w' v r.1 ∧ Only (fun _ => False) w w'
theorem encTo_err {w w' : World} {k : Int} (h : Only (fun _ => False) w w') : EncTo w ([], k) (.returned (.tuple #[.slice none 0 0, .int .i64 k])) w' := ⟨_, rfl, bytes_nil _, h⟩
set_option maxHeartbeats 8000000 in
set_option maxRecDepth 100000 in
theorem progEncode (i : InstrV) (w : World) (hi : InstrR i) :
    Calls Try.prog 17 #[valI i] w (EncTo w (encZ i)) := by
  obtain ⟨at_, op, a, b, size⟩ := i
  obtain ⟨r0, r1, r2, r3, r4⟩ := hi
  simp only at r0 r1 r2 r3 r4
  have hb0 := heap_alloc_new w (.cells #[.int .i64 at_, .int .i64 op, .int .i64 a, .int .i64 b, .int .i64 size] 29)
  have ho0 := (Only.refl (fun _ => False) w).alloc (.cells #[.int .i64 at_, .int .i64 op, .int .i64 a, .int .i64 b, .int .i64 size] 29)
  have c1 := progShape op (w.alloc (.cells #[.int .i64 at_, .int .i64 op, .int .i64 a, .int .i64 b, .int .i64 size] 29))
  obtain ⟨r, hr⟩ : ∃ r, r = encZ ⟨at_, op, a, b, size⟩ := ⟨_, rfl⟩
  rw [← hr]
  have HR := Lib.hid hr
  have HB0 := Lib.hid hb0
  have HO0 := Lib.hid ho0
  have HRR := Lib.hid (And.intro r0 (And.intro r1 (And.intro r2 r3)))
  unfold valI
  cases hc : codeOf op with
  | none =>
    rw [(shape_none hc).1, (shape_none hc).2.1] at c1
    have C1 := Lib.hid c1
    have HC := Lib.hid hc
    clear c1 hc hr hb0 ho0 r0 r1 r2 r3 r4
    go_enter Try.func17, Try.ntmps17
    go_wp2_with (fail)
    refine C1.out.mono ?_
    rintro e w1 ⟨rfl, ho1⟩
    have HON := Lib.hid (HO0.out.trans ho1 (fun _ h _ => h))
    clear ho1 C1
    go_wp2
    go_ret2
    rw [HR.out]
    unfold encZ
    simp only
    rw [HC.out]
    exact encTo_err HON.out
  | some c =>
    rw [(shape_of hc).1, (shape_of hc).2.1] at c1
    have C1 := Lib.hid c1
    have hL := lens hc
    have HS := Lib.hid (codeOf_shape hc).1
    have hop := (codeOf_shape hc).2
    have HE : Hid (r = if fineZ c.shape ⟨at_, op, a, b, size⟩ then (bytesZ c.shape ⟨at_, op, a, b, size⟩, 0) else ([], 1)) := by
      refine Lib.hid ?_
      rw [hr]; unfold encZ; simp only; rw [hc]
    have hop0 := hop.1
    have hop1 := hop.2
    clear c1 hc hr hb0 ho0 r0 r1 r2 r3 r4 hop HR
    go_enter Try.func17, Try.ntmps17
    go_wp2_with (fail)
    refine C1.out.mono ?_
    rintro e w1 ⟨rfl, ho1⟩
    have hb1 := ho1.heap HB0.out (fun h => h)
    have hon1 := HO0.out.trans ho1 (fun _ h _ => h)
    have HB1 := Lib.hid hb1
    have HON1 := Lib.hid hon1
    clear ho1 hb1 hon1 C1
    go_wp2_with (fail)
    refine (progOperands c.shape w1 HS.out).mono ?_
    unfold opsV
    rintro e w2 ⟨rfl, ho2⟩
    have hb2 := ho2.heap HB1.out (fun h => h)
    have hon2 := HON1.out.trans ho2 (fun _ h _ => h)
    have hal := (Only.refl (fun _ => False) w2).alloc (.cells #[.int .i64 (lenA c.shape), .bool (sgA c.shape), .int .i64 (lenB c.shape), .bool (decide (c.shape = 105)), .bool (leadsZ c.shape)] 60)
    have hx3 := heap_alloc_new w2 (.cells #[.int .i64 (lenA c.shape), .bool (sgA c.shape), .int .i64 (lenB c.shape), .bool (decide (c.shape = 105)), .bool (leadsZ c.shape)] 60)
    have hb3 := hal.heap hb2 (fun h => h)
    have hon3 := hon2.trans hal (fun _ h _ => h)
    have HF : Hid (fineZ c.shape ⟨at_, op, a, b, size⟩ = ((!leadsZ c.shape || (isPlaceZ at_ && isPlaceZ a)) && (fitZ (sgA c.shape) (lenA c.shape) (if leadsZ c.shape then a - at_ else a) && fitZ (decide (c.shape = 105)) (lenB c.shape) b))) := by
      refine Lib.hid ?_
      unfold fineZ numA
      rw [fitZ_b]
    have HBY : Hid (bytesZ c.shape ⟨at_, op, a, b, size⟩ = [op] ++ digs (lenA c.shape) (if leadsZ c.shape then a - at_ else a) ++ digs (lenB c.shape) b) := by
      refine Lib.hid ?_
      unfold bytesZ numA
      simp
    generalize fineZ c.shape ⟨at_, op, a, b, size⟩ = fine at *
    generalize bytesZ c.shape ⟨at_, op, a, b, size⟩ = bytes at *
    have hn3 : 1 + lenA c.shape + lenB c.shape ≤ 3 := by have := hL.2.2; unfold extraZ at this; omega
    have hLa := hL.1
    have hLb := hL.2.1
    generalize lenA c.shape = an at *
    generalize lenB c.shape = bn at *
    generalize sgA c.shape = asg at *
    generalize decide (c.shape = 105) = bsg at *
    generalize leadsZ c.shape = lds at *
    have hbl : w.heap.size ≤ w2.heap.size := hon2.size
    obtain ⟨q0, q1, q2, q3, q4⟩ := cells5 hb3
    have HB3 := Lib.hid hb3
    have HX3 := Lib.hid hx3
    have HON3 := Lib.hid hon3
    have HN3 := Lib.hid hn3
    have HBL := Lib.hid (And.intro (heap_lt hb2) hbl)
    have HLA := Lib.hid hLa
    have HLB := Lib.hid hLb
    clear ho2 hb2 hon2 hal hx3 hb3 hon3 HB1 HON1 HO0 HB0 hn3 hbl hL hLa hLb HS
    cases lds
    · go_wp2_with (fail)
      refine (newWriterOk 3 _ (by omega)).mono ?_
      rintro e w7 ⟨rfl, hw7⟩
      have hM7 : WrM (w2.heap.size + 1) w7 (w2.heap.size + 1) [] := by
        have := WrM.new (w2.alloc (.cells #[.int .i64 an, .bool asg, .int .i64 bn, .bool bsg, .bool false] 60))
        rw [World.size_alloc] at this
        rw [hw7]
        exact this
      have ho7 := (Only.refl (fun _ => False) (w2.alloc (.cells #[.int .i64 an, .bool asg, .int .i64 bn, .bool bsg, .bool false] 60))).alloc (.cells #[.slice none 0 0, .int .i64 3, .bool true] 87)
      rw [show ((3 : Nat) : Int) = 3 from rfl] at hw7
      rw [← hw7] at ho7
      have hb7 := ho7.heap HB3.out (fun h => h)
      have hx7 := ho7.heap HX3.out (fun h => h)
      have hon7 := HON3.out.trans ho7 (fun _ h _ => h)
      have hs7 : w2.heap.size + 1 ≤ w7.heap.size := by have := ho7.size; rw [World.size_alloc] at this; exact this
      have c8 := wrCode hM7 hs7 hop0 hop1
      clear q0 q1 q2 q3 q4
      obtain ⟨q0, q1, q2, q3, q4⟩ := cells5 hb7
      have C8 := Lib.hid c8
      have HB7 := Lib.hid hb7
      have HX7 := Lib.hid hx7
      have HON7 := Lib.hid hon7
      have HS7 := Lib.hid hs7
      clear c8 hb7 hx7 hon7 hs7 ho7 hM7 hw7 HB3 HX3 HON3
      go_wp2_with (fail)
      refine C8.out.mono ?_
      rintro e w8 ⟨rfl, hM8, ho8⟩
      have hb8 := ho8.heap HB7.out (fun h => by have := HBL.out; omega)
      have hx8 := ho8.heap HX7.out (fun h => by omega)
      have hon8 := HON7.out.trans ho8 (fun k hk hl => by have := HBL.out; omega)
      have hs8 := Nat.le_trans HS7.out ho8.size
      have c9 := wrOp (n := an) (sg := asg) (x := a) hM8 hs8 HLA.out (by have := HN3.out; simp only [List.length_cons, List.length_nil]; omega) HRR.out.2.2.1
      clear q0 q1 q2 q3 q4
      obtain ⟨q0, q1, q2, q3, q4⟩ := cells5 hb8
      obtain ⟨p0, p1, p2, p3, p4⟩ := cells5 hx8
      have HB8 := Lib.hid hb8
      have HX8 := Lib.hid hx8
      have HON8 := Lib.hid hon8
      have HS8 := Lib.hid hs8
      clear hb8 hx8 hon8 hs8 ho8 hM8 HB7 HX7 HON7 HS7 C8
      cases hfa : fitZ asg an (a) with
      | false =>
        rw [hfa] at c9
        simp only [Bool.false_eq_true, if_false, List.append_nil] at c9
        have C9 := Lib.hid c9
        have HFA := Lib.hid hfa
        clear c9 hfa
        go_wp2_with (fail)
        refine C9.out.mono ?_
        rintro e w9 ⟨rfl, hM9, ho9⟩
        have hon9 := HON8.out.trans ho9 (fun k hk hl => by have := HBL.out; omega)
        have HON9 := Lib.hid hon9
        clear hon9 ho9 hM9 C9 q0 q1 q2 q3 q4 p0 p1 p2 p3 p4
        go_wp2
        go_ret2
        have hf := HF.out
        simp only [if_true, Bool.false_eq_true, if_false] at hf
        rw [HFA.out] at hf
        rw [HE.out, hf]
        simp only [Bool.false_and, Bool.and_false, Bool.false_eq_true, if_false]
        exact encTo_err HON9.out
      | true =>
        rw [hfa] at c9
        simp only [if_true] at c9
        have C9 := Lib.hid c9
        have HFA := Lib.hid hfa
        clear c9 hfa
        go_wp2_with (fail)
        refine C9.out.mono ?_
        rintro e w9 ⟨rfl, hM9, ho9⟩
        have hb9 := ho9.heap HB8.out (fun h => by have := HBL.out; omega)
        have hx9 := ho9.heap HX8.out (fun h => by omega)
        have hon9 := HON8.out.trans ho9 (fun k hk hl => by have := HBL.out; omega)
        have hs9 := Nat.le_trans HS8.out ho9.size
        have c10 := wrOp (n := bn) (sg := bsg) (x := b) hM9 hs9 HLB.out (by have := HN3.out; simp only [List.length_append, List.length_cons, List.length_nil, digs_len]; omega) HRR.out.2.2.2
        clear q0 q1 q2 q3 q4 p0 p1 p2 p3 p4
        obtain ⟨q0, q1, q2, q3, q4⟩ := cells5 hb9
        obtain ⟨p0, p1, p2, p3, p4⟩ := cells5 hx9
        have HON9 := Lib.hid hon9
        have HS9 := Lib.hid hs9
        clear hb9 hx9 hon9 hs9 ho9 hM9 HB8 HX8 HON8 HS8 C9
        cases hfb : fitZ bsg bn b with
        | false =>
          rw [hfb] at c10
          simp only [Bool.false_eq_true, if_false, List.append_nil] at c10
          have C10 := Lib.hid c10
          have HFB := Lib.hid hfb
          clear c10 hfb
          go_wp2_with (fail)
          refine C10.out.mono ?_
          rintro e w10 ⟨rfl, hM10, ho10⟩
          have hon10 := HON9.out.trans ho10 (fun k hk hl => by have := HBL.out; omega)
          have HON10 := Lib.hid hon10
          clear hon10 ho10 hM10 C10 q0 q1 q2 q3 q4 p0 p1 p2 p3 p4
          go_wp2
          go_ret2
          have hf := HF.out
          rw [HFB.out] at hf
          rw [HE.out, hf]
          simp only [Bool.and_false, Bool.false_eq_true, if_false]
          exact encTo_err HON10.out
        | true =>
          rw [hfb] at c10
          simp only [if_true] at c10
          have C10 := Lib.hid c10
          have HFB := Lib.hid hfb
          clear c10 hfb
          go_wp2_with (fail)
          refine C10.out.mono ?_
          rintro e w10 ⟨rfl, hM10, ho10⟩
          have hon10 := HON9.out.trans ho10 (fun k hk hl => by have := HBL.out; omega)
          have c11 := wrEnd hM10
          have HON10 := Lib.hid hon10
          have C11 := Lib.hid c11
          clear hon10 ho10 hM10 C10 c11 q0 q1 q2 q3 q4 p0 p1 p2 p3 p4
          go_wp2_with (fail)
          refine C11.out.mono ?_
          rintro e w11 ⟨v, rfl, hbv, ho11⟩
          have HBV := Lib.hid hbv
          have HON11 := Lib.hid (HON10.out.trans ho11 (fun _ h _ => h))
          clear hbv ho11 C11
          go_wp2
          go_ret2
          have hf := HF.out
          have hy := HBY.out
          simp only [if_true, Bool.false_eq_true, if_false] at hf hy
          rw [HFA.out, HFB.out] at hf
          rw [HE.out, hf]
          simp only [Bool.not_false, Bool.true_or, Bool.and_self, if_true]
          rw [hy]
          exact ⟨v, rfl, HBV.out, HON11.out⟩
    · by_cases hpl : isPlaceZ at_ = true ∧ isPlaceZ a = true
      · obtain ⟨hp1, hp2⟩ := hpl
        have hbd : (0 ≤ at_ ∧ at_ ≤ 4096) ∧ (0 ≤ a ∧ a ≤ 4096) := by
          unfold isPlaceZ at hp1 hp2
          simp at hp1 hp2
          exact ⟨hp1, hp2⟩
        obtain ⟨⟨ha0, ha1⟩, hb0, hb1⟩ := hbd
        have c5 := fun w => progIsPlace at_ w
        have c6 := fun w => progIsPlace a w
        rw [hp1] at c5
        rw [hp2] at c6
        have C5 := Lib.hid c5
        have C6 := Lib.hid c6
        have HP1 := Lib.hid hp1
        have HP2 := Lib.hid hp2
        clear c5 c6 hp1 hp2
        go_wp2_with (fail)
        refine (C5.out _).mono ?_
        rintro e w5 ⟨rfl, rfl⟩
        go_wp2_with (fail)
        refine (C6.out _).mono ?_
        rintro e w6 ⟨rfl, rfl⟩
        go_wp2_with (fail)
        refine (newWriterOk 3 _ (by omega)).mono ?_
        rintro e w7 ⟨rfl, hw7⟩
        have hM7 : WrM (w2.heap.size + 1) w7 (w2.heap.size + 1) [] := by
          have := WrM.new (w2.alloc (.cells #[.int .i64 an, .bool asg, .int .i64 bn, .bool bsg, .bool true] 60))
          rw [World.size_alloc] at this
          rw [hw7]
          exact this
        have ho7 := (Only.refl (fun _ => False) (w2.alloc (.cells #[.int .i64 an, .bool asg, .int .i64 bn, .bool bsg, .bool true] 60))).alloc (.cells #[.slice none 0 0, .int .i64 3, .bool true] 87)
        rw [show ((3 : Nat) : Int) = 3 from rfl] at hw7
        rw [← hw7] at ho7
        have hb7 := ho7.heap HB3.out (fun h => h)
        have hx7 := ho7.heap HX3.out (fun h => h)
        have hon7 := HON3.out.trans ho7 (fun _ h _ => h)
        have hs7 : w2.heap.size + 1 ≤ w7.heap.size := by have := ho7.size; rw [World.size_alloc] at this; exact this
        have c8 := wrCode hM7 hs7 hop0 hop1
        clear q0 q1 q2 q3 q4
        obtain ⟨q0, q1, q2, q3, q4⟩ := cells5 hb7
        have C8 := Lib.hid c8
        have HB7 := Lib.hid hb7
        have HX7 := Lib.hid hx7
        have HON7 := Lib.hid hon7
        have HS7 := Lib.hid hs7
        clear c8 hb7 hx7 hon7 hs7 ho7 hM7 hw7 HB3 HX3 HON3
        go_wp2_with (fail)
        refine C8.out.mono ?_
        rintro e w8 ⟨rfl, hM8, ho8⟩
        have hb8 := ho8.heap HB7.out (fun h => by have := HBL.out; omega)
        have hx8 := ho8.heap HX7.out (fun h => by omega)
        have hon8 := HON7.out.trans ho8 (fun k hk hl => by have := HBL.out; omega)
        have hs8 := Nat.le_trans HS7.out ho8.size
        have c9 := wrOp (n := an) (sg := asg) (x := a - at_) hM8 hs8 HLA.out (by have := HN3.out; simp only [List.length_cons, List.length_nil]; omega) ⟨by omega, by omega⟩
        clear q0 q1 q2 q3 q4
        obtain ⟨q0, q1, q2, q3, q4⟩ := cells5 hb8
        obtain ⟨p0, p1, p2, p3, p4⟩ := cells5 hx8
        have HB8 := Lib.hid hb8
        have HX8 := Lib.hid hx8
        have HON8 := Lib.hid hon8
        have HS8 := Lib.hid hs8
        clear hb8 hx8 hon8 hs8 ho8 hM8 HB7 HX7 HON7 HS7 C8
        cases hfa : fitZ asg an (a - at_) with
        | false =>
          rw [hfa] at c9
          simp only [Bool.false_eq_true, if_false, List.append_nil] at c9
          have C9 := Lib.hid c9
          have HFA := Lib.hid hfa
          clear c9 hfa
          go_wp2_with (fail)
          refine C9.out.mono ?_
          rintro e w9 ⟨rfl, hM9, ho9⟩
          have hon9 := HON8.out.trans ho9 (fun k hk hl => by have := HBL.out; omega)
          have HON9 := Lib.hid hon9
          clear hon9 ho9 hM9 C9 q0 q1 q2 q3 q4 p0 p1 p2 p3 p4
          go_wp2
          go_ret2
          have hf := HF.out
          simp only [if_true, Bool.false_eq_true, if_false] at hf
          rw [HFA.out] at hf
          rw [HE.out, hf]
          simp only [Bool.false_and, Bool.and_false, Bool.false_eq_true, if_false]
          exact encTo_err HON9.out
        | true =>
          rw [hfa] at c9
          simp only [if_true] at c9
          have C9 := Lib.hid c9
          have HFA := Lib.hid hfa
          clear c9 hfa
          go_wp2_with (fail)
          refine C9.out.mono ?_
          rintro e w9 ⟨rfl, hM9, ho9⟩
          have hb9 := ho9.heap HB8.out (fun h => by have := HBL.out; omega)
          have hx9 := ho9.heap HX8.out (fun h => by omega)
          have hon9 := HON8.out.trans ho9 (fun k hk hl => by have := HBL.out; omega)
          have hs9 := Nat.le_trans HS8.out ho9.size
          have c10 := wrOp (n := bn) (sg := bsg) (x := b) hM9 hs9 HLB.out (by have := HN3.out; simp only [List.length_append, List.length_cons, List.length_nil, digs_len]; omega) HRR.out.2.2.2
          clear q0 q1 q2 q3 q4 p0 p1 p2 p3 p4
          obtain ⟨q0, q1, q2, q3, q4⟩ := cells5 hb9
          obtain ⟨p0, p1, p2, p3, p4⟩ := cells5 hx9
          have HON9 := Lib.hid hon9
          have HS9 := Lib.hid hs9
          clear hb9 hx9 hon9 hs9 ho9 hM9 HB8 HX8 HON8 HS8 C9
          cases hfb : fitZ bsg bn b with
          | false =>
            rw [hfb] at c10
            simp only [Bool.false_eq_true, if_false, List.append_nil] at c10
            have C10 := Lib.hid c10
            have HFB := Lib.hid hfb
            clear c10 hfb
            go_wp2_with (fail)
            refine C10.out.mono ?_
            rintro e w10 ⟨rfl, hM10, ho10⟩
            have hon10 := HON9.out.trans ho10 (fun k hk hl => by have := HBL.out; omega)
            have HON10 := Lib.hid hon10
            clear hon10 ho10 hM10 C10 q0 q1 q2 q3 q4 p0 p1 p2 p3 p4
            go_wp2
            go_ret2
            have hf := HF.out
            rw [HFB.out] at hf
            rw [HE.out, hf]
            simp only [Bool.and_false, Bool.false_eq_true, if_false]
            exact encTo_err HON10.out
          | true =>
            rw [hfb] at c10
            simp only [if_true] at c10
            have C10 := Lib.hid c10
            have HFB := Lib.hid hfb
            clear c10 hfb
            go_wp2_with (fail)
            refine C10.out.mono ?_
            rintro e w10 ⟨rfl, hM10, ho10⟩
            have hon10 := HON9.out.trans ho10 (fun k hk hl => by have := HBL.out; omega)
            have c11 := wrEnd hM10
            have HON10 := Lib.hid hon10
            have C11 := Lib.hid c11
            clear hon10 ho10 hM10 C10 c11 q0 q1 q2 q3 q4 p0 p1 p2 p3 p4
            go_wp2_with (fail)
            refine C11.out.mono ?_
            rintro e w11 ⟨v, rfl, hbv, ho11⟩
            have HBV := Lib.hid hbv
            have HON11 := Lib.hid (HON10.out.trans ho11 (fun _ h _ => h))
            clear hbv ho11 C11
            go_wp2
            go_ret2
            have hf := HF.out
            have hy := HBY.out
            simp only [if_true, Bool.false_eq_true, if_false] at hf hy
            rw [HFA.out, HFB.out] at hf
            rw [HE.out, hf]
            rw [HP1.out, HP2.out]
            simp only [Bool.and_self, Bool.or_true, if_true]
            rw [hy]
            exact ⟨v, rfl, HBV.out, HON11.out⟩

      · cases hp1 : isPlaceZ at_ with
        | false =>
          have c5 := fun w => progIsPlace at_ w
          rw [hp1] at c5
          have C5 := Lib.hid c5
          have HP1 := Lib.hid hp1
          clear c5 hp1 hpl
          go_wp2_with (fail)
          refine (C5.out _).mono ?_
          rintro e w5 ⟨rfl, rfl⟩
          go_wp2
          go_ret2
          have hf := HF.out
          rw [HP1.out] at hf
          rw [HE.out, hf]
          simp only [Bool.not_true, Bool.false_and, Bool.or_false, Bool.false_eq_true, if_false]
          exact encTo_err HON3.out
        | true =>
          have hp2 : isPlaceZ a = false := by
            cases h2 : isPlaceZ a with
            | false => rfl
            | true => exact absurd ⟨hp1, h2⟩ hpl
          have c5 := fun w => progIsPlace at_ w
          have c6 := fun w => progIsPlace a w
          rw [hp1] at c5
          rw [hp2] at c6
          have C5 := Lib.hid c5
          have C6 := Lib.hid c6
          have HP2 := Lib.hid hp2
          clear c5 c6 hp1 hp2 hpl
          go_wp2_with (fail)
          refine (C5.out _).mono ?_
          rintro e w5 ⟨rfl, rfl⟩
          go_wp2_with (fail)
          refine (C6.out _).mono ?_
          rintro e w6 ⟨rfl, rfl⟩
          go_wp2
          go_ret2
          have hf := HF.out
          rw [HP2.out] at hf
          rw [HE.out, hf]
          simp only [Bool.not_true, Bool.and_false, Bool.false_and, Bool.or_false, Bool.false_eq_true, if_false]
          exact encTo_err HON3.out
end Go.Proofs.Ytcfnikngapngkaa
