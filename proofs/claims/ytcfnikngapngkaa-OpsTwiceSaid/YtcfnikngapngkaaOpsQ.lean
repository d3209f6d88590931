/- The program's own plain form of an instruction, the call. No condition but that its numbers are integers of 64 bits. -/
import Derived.Test.YtcfnikngapngkaaOpsL
namespace Go.Proofs.Ytcfnikngapngkaa
open Go.RowKit
set_option linter.unusedVariables false
set_option linter.unusedSimpArgs false

theorem only3 {S : Nat → Prop} {w w' : World} {b : Nat} {a1 a2 a3 : Value} (h : Only S w w') (hb : b < w.heap.size → S b) :
    Only S w (((w'.setCell ⟨b, 1, none⟩ a1).setCell ⟨b, 2, none⟩ a2).setCell ⟨b, 3, none⟩ a3).drew := by
  refine Only.drew ?_
  iterate 3 (refine Only.setCell (S := S) ?_ hb _)
  exact h
set_option maxHeartbeats 8000000 in
set_option maxRecDepth 100000 in
theorem progPlain (i : InstrV) (w : World) (hi : InstrR i) : Calls Try.prog 19 #[valI i] w fun e w' => e = .returned (valI (plainZ i)) ∧ Only (fun _ => False) w w' := by
  obtain ⟨at_, op, a, b, size⟩ := i
  obtain ⟨r0, r1, r2, r3, r4⟩ := hi
  simp only at r0 r1 r2 r3 r4
  obtain ⟨z, hz⟩ : ∃ z, z = valI (plainZ ⟨at_, op, a, b, size⟩) := ⟨_, rfl⟩
  rw [← hz]
  have hbx := box2 (w := w) (c := #[.int .i64 at_, .int .i64 op, .int .i64 a, .int .i64 b, .int .i64 size]) (d := #[.int .i64 0, .int .i64 0, .int .i64 0, .int .i64 0, .int .i64 0]) (s := 29) (t := 29)
  have ho2 : Only (fun _ => False) w ((w.alloc (.cells #[.int .i64 at_, .int .i64 op, .int .i64 a, .int .i64 b, .int .i64 size] 29)).alloc (.cells #[.int .i64 0, .int .i64 0, .int .i64 0, .int .i64 0, .int .i64 0] 29)) := ((Only.refl _ w).alloc _).alloc _
  obtain ⟨hbox, hres⟩ := hbx
  unfold valI
  by_cases h16 : op = 16
  · rw [plain_16 (i := ⟨at_, op, a, b, size⟩) h16] at hz
    subst h16
    have HZ := Lib.hid hz
    have HBOX := Lib.hid hbox
    have HRES := Lib.hid hres
    have HO2 := Lib.hid ho2
    clear hz hbox hres ho2 r0 r1 r2 r3 r4
    go_enter Try.func19, Try.ntmps19
    go_wp2
    exact bodyPost_ret (instr_alone (i := ⟨at_, 17, a, 0, size⟩) (b := w.heap.size + 1) Try.results19 box2.2 rfl) rfl ⟨congrArg Ending.returned HZ.out.symm, ((Only.refl _ w).alloc _).alloc _⟩
  · have hne : (op == 16) = false := by rw [beq_eq_false_iff_ne]; exact h16
    have c1 := progRunOf op ((w.alloc (.cells #[.int .i64 at_, .int .i64 op, .int .i64 a, .int .i64 b, .int .i64 size] 29)).alloc (.cells #[.int .i64 0, .int .i64 0, .int .i64 0, .int .i64 0, .int .i64 0] 29))
    have C1 := Lib.hid c1
    have HBOX := Lib.hid hbox
    have HRES := Lib.hid hres
    have HO2 := Lib.hid ho2
    cases hro : runOfZ op with
    | none =>
      rw [plain_else (i := ⟨at_, op, a, b, size⟩) h16 hro] at hz
      have HZ := Lib.hid hz
      have HRO := Lib.hid hro
      clear hz hbox hres ho2 r0 r1 r2 r3 r4 c1 h16 hro
      go_enter Try.func19, Try.ntmps19
      go_wp2_with (fail)
      refine C1.out.mono ?_
      rw [HRO.out]
      rintro e w3 ⟨rfl, ho3⟩
      have hal := (Only.refl (fun _ => False) w3).alloc (.cells #[.int .i64 0, .int .i64 0, .int .i64 0, .int .i64 0] 75)
      have ho4 := ho3.trans hal (fun _ h _ => h)
      have hb4 := ho4.heap HBOX.out (fun h => h)
      have hr4 := ho4.heap HRES.out (fun h => h)
      have hon4 := HO2.out.trans ho4 (fun _ h _ => h)
      obtain ⟨q0, q1, q2, q3, q4⟩ := cells5 hb4
      obtain ⟨s0, s1, s2, s3, s4⟩ := cells5 hr4
      obtain ⟨f0, f1, f2, f3, f4⟩ := marks5 hr4
      have HR4 := Lib.hid hr4
      have HON4 := Lib.hid hon4
      clear ho3 hal ho4 hb4 hr4 hon4 C1
      go_wp2
      exact bodyPost_ret (instr_alone (i := ⟨at_, op, a, b, size⟩) (b := w.heap.size + 1) Try.results19 (store5 HR4.out) rfl) rfl ⟨congrArg Ending.returned HZ.out.symm, only5 HON4.out (fun hl => absurd hl (by omega))⟩
    | some r =>
      rw [plain_run (i := ⟨at_, op, a, b, size⟩) h16 hro] at hz
      obtain ⟨hm, hf1, hf2⟩ := run_found hro
      obtain ⟨b1, b2, b3, b4, b5⟩ := runs_all r hm
      have HZ := Lib.hid hz
      have HRO := Lib.hid hro
      clear hz hbox hres ho2 r0 r1 r2 r3 r4 c1 h16 hro hm
      go_enter Try.func19, Try.ntmps19
      go_wp2_with (fail)
      refine C1.out.mono ?_
      rw [HRO.out]
      rintro e w3 ⟨rfl, ho3⟩
      have hal := (Only.refl (fun _ => False) w3).alloc (.cells #[.int .i64 r.first, .int .i64 r.last, .int .i64 r.plain, .int .i64 r.a] 75)
      have hx4 := heap_alloc_new w3 (.cells #[.int .i64 r.first, .int .i64 r.last, .int .i64 r.plain, .int .i64 r.a] 75)
      have ho4 := ho3.trans hal (fun _ h _ => h)
      have hb4 := ho4.heap HBOX.out (fun h => h)
      have hr4 := ho4.heap HRES.out (fun h => h)
      have hon4 := HO2.out.trans ho4 (fun _ h _ => h)
      have hl3 : w.heap.size + 1 < w3.heap.size := heap_lt (ho3.heap HRES.out (fun h => h))
      obtain ⟨q0, q1, q2, q3, q4⟩ := cells5 hb4
      obtain ⟨m0, m1, m2, m3, m4⟩ := marks5 hb4
      obtain ⟨s0, s1, s2, s3, s4⟩ := cells5 hr4
      obtain ⟨f0, f1, f2, f3, f4⟩ := marks5 hr4
      obtain ⟨x0, x1, x2, x3⟩ := cells4 hx4
      have hs1 : IntKind.i64.wrap (r.a + op) = r.a + op := IntWalk.i64_in _ (by omega)
      have hs2 : IntKind.i64.wrap (r.a + op - r.first) = r.a + op - r.first := IntWalk.i64_in _ (by omega)
      have HR4 := Lib.hid hr4
      have HB4 := Lib.hid hb4
      have HON4 := Lib.hid hon4
      clear ho3 hal ho4 hb4 hr4 hon4 C1 hx4
      go_wp2
      generalize w3.alloc (.cells #[.int .i64 r.first, .int .i64 r.last, .int .i64 r.plain, .int .i64 r.a] 75) = w4 at *
      generalize w3.heap.size = xb at *
      go_region
      clear hs1 hs2
      have hoS : Only (fun j => j = w.heap.size) w4 (((w4.setCell ⟨w.heap.size, 1, none⟩ (.int .i64 r.plain)).setCell ⟨w.heap.size, 2, none⟩ (.int .i64 (r.a + op - r.first))).setCell ⟨w.heap.size, 3, none⟩ (.int .i64 0)).drew :=
        only3 (Only.refl _ w4) (fun _ => rfl)
      have hr5 := hoS.heap HR4.out (by omega)
      have hb5 := store3 (a1 := .int .i64 r.plain) (a2 := .int .i64 (r.a + op - r.first)) (a3 := .int .i64 0) HB4.out
      have hon5 := HON4.out.trans hoS (fun j hj hl => by omega)
      clear hoS q0 q1 q2 q3 q4 m0 m1 m2 m3 m4 s0 s1 s2 s3 s4 f0 f1 f2 f3 f4 x0 x1 x2 x3 HR4 HB4 HON4
      generalize (((w4.setCell ⟨w.heap.size, 1, none⟩ (.int .i64 r.plain)).setCell ⟨w.heap.size, 2, none⟩ (.int .i64 (r.a + op - r.first))).setCell ⟨w.heap.size, 3, none⟩ (.int .i64 0)).drew = w5 at *
      generalize r.a + op - r.first = d at *
      obtain ⟨q0, q1, q2, q3, q4⟩ := cells5 hb5
      obtain ⟨s0, s1, s2, s3, s4⟩ := cells5 hr5
      obtain ⟨f0, f1, f2, f3, f4⟩ := marks5 hr5
      have HR5 := Lib.hid hr5
      have HON5 := Lib.hid hon5
      clear hr5 hb5 hon5
      go_wp2
      exact bodyPost_ret (instr_alone (i := ⟨at_, r.plain, d, 0, size⟩) (b := w.heap.size + 1) Try.results19 (store5 HR5.out) rfl) rfl ⟨congrArg Ending.returned HZ.out.symm, only5 HON5.out (fun hl => absurd hl (by omega))⟩
end Go.Proofs.Ytcfnikngapngkaa
