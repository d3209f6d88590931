/- PROVED: the law HeapZero: a heap that nobody made answers nothing; the arguments read as before. For every input. No condition. -/
import Derived.Test.YtebeoganblcblaaHpV
import Derived.Test.YtebeoganblcblaaHpU
import Derived.Test.YtebeoganblcblaaHpZ
import Derived.ProofKit
import Derived.ShutString
import Derived.ChangeOld
import Derived.Below
import Derived.SizedLaws
import Derived.PinnedBridge
import Derived.Deep.CondSized
import Derived.Deep.RegionHeld3
namespace Go.Proofs.Ytebeoganblcblaa.heapZero
open Go.ChangeShapes Go.WideShapes Go.ChangeAt Go.RowKit
set_option linter.unusedVariables false
set_option linter.unusedSimpArgs false

set_option maxHeartbeats 16000000 in
set_option maxRecDepth 100000 in
theorem walk (r i : Int) (v3 : Value) (w : World) (w0 : (Lit.int .i64 r).wf = true) (w1 : (Lit.int .i64 i).wf = true) (w2 : ∃ v : ValV, v3 = valVa v) :
    Calls Try.prog 8 #[.int .i64 r, .int .i64 i, v3] w fun e w' => e = .returned (.bool true) ∧ Below w.heap.size w w' := by
  obtain ⟨v, rfl⟩ := w2
  have hb0 := heap_alloc_new w (.cells #[.int .i64 v.k, .int .i64 v.n, .int .i64 v.r] 34)
  have hoA := (Only.refl (fun _ => False) w).alloc (.cells #[.int .i64 v.k, .int .i64 v.n, .int .i64 v.r] 34)
  have hoB := (Only.refl (fun _ => False) (w.alloc (.cells #[.int .i64 v.k, .int .i64 v.n, .int .i64 v.r] 34))).alloc (.cells #[.int .i64 0, .slice none 0 0, .slice none 0 0, .bool false] 64)
  have hb1 := heap_alloc_new (w.alloc (.cells #[.int .i64 v.k, .int .i64 v.n, .int .i64 v.r] 34)) (.cells #[.int .i64 0, .slice none 0 0, .slice none 0 0, .bool false] 64)
  have hb0' := hoB.heap hb0 (fun h => h)
  have ho := hoA.trans hoB (fun _ h _ => h)
  rw [World.size_alloc] at hb1
  obtain ⟨W1, hW1⟩ : ∃ W1, (w.alloc (.cells #[.int .i64 v.k, .int .i64 v.n, .int .i64 v.r] 34)).alloc (.cells #[.int .i64 0, .slice none 0 0, .slice none 0 0, .bool false] 64) = W1 := ⟨_, rfl⟩
  rw [hW1] at hb1 hb0' ho
  have hn : ∀ W, Unm14 W (.pointer none) := fun W => .inl rfl
  have hg : Unm14 W1 (.pointer (some ⟨w.heap.size + 1, 0, none⟩)) := .inr ⟨_, rfl, hb1⟩
  have HW1 := Lib.hid hW1
  have HO := Lib.hid ho
  have HB := Lib.hid hb0'
  have C0 := Lib.hid (fun W => zMake14 (hn W) zeroT (.slice none 0 0))
  have C1 := Lib.hid (fun W (hW : Only (fun _ => False) W1 W) => zArray14 (hg.only hW) zeroT zeroT 1)
  have C2 := Lib.hid (fun W => zGet14 (hn W) r i)
  have C3 := Lib.hid (fun W (hW : Only (fun _ => False) W1 W) => zType14 (hg.only hW) r)
  have C4 := Lib.hid (fun W (hW : Only (fun _ => False) W1 W) => zSet14 (hg.only hW) r i v)
  have C5 := Lib.hid (fun W => zLen14 (hn W) r)
  have C6 := Lib.hid (fun W (hW : Only (fun _ => False) W1 W) => zCount14 (hg.only hW))
  have C7 := Lib.hid (fun W => zCopy14 (hn W))
  have C8 := Lib.hid (fun W (hW : Only (fun _ => False) W1 W) => zAll14 (hg.only hW))
  unfold valT zeroT at C0 C1 C3
  unfold valVa at C2 C4
  simp only at C0 C1 C3
  rw [show (default : ValV) = ⟨0, 0, 0⟩ from rfl] at C2
  simp only at C2
  unfold valVa
  clear hb0 hoA hoB hb1 hb0' ho hW1 hn hg w0 w1
  go_enter Try.func8, Try.ntmps8
  go_wp2_with (fail)
  rw [HW1.out]
  refine (C0.out _).mono ?_
  rintro e x0 ⟨rfl, ho⟩
  have HR0 := Lib.hid ho
  clear ho
  go_wp2_with (fail)
  refine (C1.out _ HR0.out).mono ?_
  rintro e x1 ⟨rfl, ho⟩
  have HR1 := Lib.hid (HR0.out.trans ho (fun _ h _ => h))
  clear ho
  go_wp2_with (fail)
  refine (C2.out _).mono ?_
  rintro e x2 ⟨rfl, ho⟩
  have HR2 := Lib.hid ((HR1.out.trans ho (fun _ h _ => h)).alloc (.cells #[.int .i64 0, .int .i64 0, .int .i64 0] 34))
  clear ho
  go_wp2_with (fail)
  refine (C3.out _ HR2.out).mono ?_
  rintro e x3 ⟨rfl, ho⟩
  have ho3 := (HR2.out.trans ho (fun _ h _ => h)).alloc (.cells #[.int .i64 0, .string ⟨#[]⟩, .int .i64 0, .int .i64 0, .int .i64 0] 32)
  obtain ⟨q0, q1, q2⟩ := cells3V (ho3.heap HB.out (fun h => h))
  have HR3 := Lib.hid ho3
  clear ho ho3
  go_wp2_with (fail)
  refine (C4.out _ HR3.out).mono ?_
  rintro e x4 ⟨rfl, ho⟩
  have HR4 := Lib.hid (HR3.out.trans ho (fun _ h _ => h))
  clear ho q0 q1 q2
  go_wp2_with (fail)
  refine (C5.out _).mono ?_
  rintro e x5 ⟨rfl, ho⟩
  have HR5 := Lib.hid (HR4.out.trans ho (fun _ h _ => h))
  clear ho
  go_wp2_with (fail)
  refine (C6.out _ HR5.out).mono ?_
  rintro e x6 ⟨rfl, hww⟩
  subst hww
  go_wp2_with (fail)
  refine (C7.out _).mono ?_
  rintro e x7 ⟨rfl, hww⟩
  subst hww
  go_wp2_with (fail)
  refine (C8.out _ HR5.out).mono ?_
  rintro e x8 ⟨a, rfl, ho⟩
  have HR8 := Lib.hid (HR5.out.trans ho (fun _ h _ => h))
  clear ho
  go_wp2
  go_ret
  exact ⟨rfl, (HO.out.trans HR8.out (fun _ h _ => h)).none⟩

theorem own : ownKnob Try.prog.godebug = none := by kernel_rfl
theorem laidOut : laidOutB Try.prog = true := by kernel_rfl

set_option maxRecDepth 100000 in
theorem lifted (os : Os) (started : os.Started) (H : Type) (enc : TypeId × Value → H) :
    ReturnsInHanded {} Try.checked os 8 .any (Rows.heapZeroSpec.pre6 enc Try.prog Try.f8 Rows.heapZeroRow.domain false) (Rows.heapZeroSpec.post enc Try.prog Try.f8 false true false false) := by
  refine returnsInHanded_of_change_sized (C := Try.checked) own started (by kernel_rfl) Try.func8
    (ChangeSpec.witness6 (enc := enc) (C := Try.checked) false ⟨#[], #[.int .i64 0, .int .i64 0, .agg #[.int .i64 0, .int .i64 0, .int .i64 0]], []⟩ 8 (by kernel_rfl) (by kernel_rfl) (by kernel_rfl) (by kernel_rfl)) ?_
  intro W base args ds gs before hval0 hW hcnd hsz0 _
  have hsz : (DataW.weightsEach Try.prog (Try.f8.params.toList ++ Rows.heapZeroSpec.plain.varTypes Try.prog) (ds ++ gs)).all (· ≤ reachBytes) = true := hsz0
  clear hsz0
  have hval : ∀ (j : Nat) t v, Try.f8.params[j]? = some t → args[j]? = some v → Value.okWide Try.prog W .any base t v := hval0
  have hW' := hW
  obtain ⟨p, q, hA0, hV, rfl, hfz, hnd⟩ := hW
  have hA : DataW.TrodAll enc Try.prog W 0 (fun _ => true) true Try.f8.params.toList args.toList ds p := hA0
  rw [Try.params8] at hA hval hsz
  obtain ⟨v0, vs0, d0, ds0, p0, q0, hargs, rfl, rfl, h0, r0⟩ := trodAll_cons hA
  obtain ⟨v1, vs1, d1, ds1, p1, q1, rfl, rfl, rfl, h1, r1⟩ := trodAll_cons r0
  obtain ⟨v2, vs2, d2, ds2, p2, q2, rfl, rfl, rfl, h2, r2⟩ := trodAll_cons r1
  obtain ⟨rfl, rfl, rfl⟩ := trodAll_nil r2
  obtain rfl : args = #[v0, v1, v2] := by cases args; simp_all
  obtain ⟨rfl, rfl⟩ := trodVars_none hV
  obtain ⟨a0, rfl, rfl, rfl, w0⟩ := open_int Try.underlying3 (hval 0 3 v0 rfl rfl) h0
  obtain ⟨a1, rfl, rfl, rfl, w1⟩ := open_int Try.underlying3 (hval 1 3 v1 rfl rfl) h1
  have k2 := h2
  have lt2 : ∀ x ∈ p2, x.block < W.heap.size := by obtain ⟨m, hm⟩ := k2; exact DataW.trod_lt m _ _ _ hm
  have w2 := arg_val14 (hval 2 34 v2 rfl rfl) h2 (light_arg (j := 2) hsz rfl rfl)
  clear hA0 hval0
  refine (walk a0 a1 v2 W w0 w1 w2).mono fun e W' ⟨he, bel⟩ => ?_
  subst he
  exact ⟨_, rfl, _, _, _, [], _, [], hW', trodAll_mk1 (shut_bool Try.underlying4 _), (trodAll_cons_mk (shut_int Try.underlying3 w0) (trodAll_cons_mk (shut_int Try.underlying3 w1) (trodAll_cons_mk (Below.trod laidOut (by kernel_rfl) (of_decide_eq_true (by kernel_rfl)) k2 bel lt2) trodAll_mk0))), rfl, bel.frame _, fun h => by cases h⟩

theorem over : Rows.heapZeroRow.holds Try.pinned (OpenSpec.ofChange Rows.heapZeroSpec) :=
  OpenClaim.holds_of_wide 8 Try.f8 rfl rfl rfl rfl rfl rfl rfl ⟨rfl, rfl, rfl, rfl, rfl⟩ rfl rfl rfl rfl rfl (by kernel_rfl) Try.func8 (by kernel_rfl)
    (of_decide_eq_true (by kernel_rfl)) (by unfold Func.isWrapper; first | (rw [if_pos (by decide +kernel)]; kernel_rfl) | (rw [if_neg (by decide +kernel)]; exact ⟨rfl, rfl⟩))
    (fun os started H enc _ => lifted os started H enc)

theorem proved : Rows.HeapZeroSaid := over
#print axioms proved
end Go.Proofs.Ytebeoganblcblaa.heapZero
