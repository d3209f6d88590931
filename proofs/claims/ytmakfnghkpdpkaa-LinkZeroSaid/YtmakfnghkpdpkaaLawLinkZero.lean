/- PROVED: the law LinkZero: a program that nobody made answers nothing. For every input. No condition. -/
import Derived.Test.YtmakfnghkpdpkaaLpZ
import Derived.Test.YtmakfnghkpdpkaaOpen
import Derived.ProofKit
import Derived.ShutString
import Derived.ChangeOld
import Derived.Below
import Derived.SizedLaws
import Derived.PinnedBridge
import Derived.Deep.CondSized
import Derived.Deep.RegionHeld3
namespace Go.Proofs.Ytmakfnghkpdpkaa.linkZero
open Go.ChangeShapes Go.WideShapes Go.ChangeAt Go.RowKit
set_option linter.unusedVariables false
set_option linter.unusedSimpArgs false

set_option maxHeartbeats 8000000 in
set_option maxRecDepth 100000 in
theorem walk (n : Int) (s : ByteArray) (w : World) (w0 : (Lit.int .i64 n).wf = true) (w1 : s.size ≤ 140737488351232) :
    Calls Try.prog 3 #[.int .i64 n, .string s] w fun e w' => e = .returned (.bool true) ∧ Below w.heap.size w w' := by
  have ho1 := (Only.refl (fun _ => False) w).alloc (.cells #[.slice none 0 0, .map none] 26)
  have hq := unmade_at (heap_alloc_new w (.cells #[.slice none 0 0, .map none] 26))
  obtain ⟨W1, hW1⟩ : ∃ W1, w.alloc (.cells #[.slice none 0 0, .map none] 26) = W1 := ⟨_, rfl⟩
  rw [hW1] at ho1 hq
  have HW1 := Lib.hid hW1
  have HO0 := Lib.hid ho1
  have HR0 := Lib.hid (Only.refl (fun _ => False) W1)
  have C0 := Lib.hid (fun W (hW : Only (fun _ => False) W1 W) => zField (unmade_nil W) s s s)
  have C1 := Lib.hid (fun W (hW : Only (fun _ => False) W1 W) => zLook (hq.only hW) s s s)
  have C2 := Lib.hid (fun W (hW : Only (fun _ => False) W1 W) => zOwn (unmade_nil W) s s s)
  have C3 := Lib.hid (fun W (hW : Only (fun _ => False) W1 W) => zClass (hq.only hW) n)
  have C4 := Lib.hid (fun W (hW : Only (fun _ => False) W1 W) => zMethod (unmade_nil W) n n)
  have C5 := Lib.hid (fun W (hW : Only (fun _ => False) W1 W) => zLen (unmade_nil W))
  have C6 := Lib.hid (fun W (hW : Only (fun _ => False) W1 W) => zName (hq.only hW) n)
  have C7 := Lib.hid (fun W (hW : Only (fun _ => False) W1 W) => zSuper (unmade_nil W) n)
  have C8 := Lib.hid (fun W (hW : Only (fun _ => False) W1 W) => zFind (hq.only hW) s)
  have C9 := Lib.hid (fun W (hW : Only (fun _ => False) W1 W) => zTree (unmade_nil W))
  have C10 := Lib.hid (fun W (hW : Only (fun _ => False) W1 W) => zSub (hq.only hW) n n)
  have C11 := Lib.hid (fun W (hW : Only (fun _ => False) W1 W) => zSlots (unmade_nil W) n)
  have C12 := Lib.hid (fun W (hW : Only (fun _ => False) W1 W) => zStatics (hq.only hW))
  have C13 := Lib.hid (fun W (hW : Only (fun _ => False) W1 W) => zMain (unmade_nil W))
  clear hq ho1 hW1 w0 w1
  go_enter Try.func3, Try.ntmps3
  go_wp2_with (fail)
  rw [HW1.out]
  refine (C0.out _ HR0.out).mono ?_
  rintro e x0 ⟨rfl, ho⟩
  have HR1 := Lib.hid (HR0.out.trans ho (fun _ h _ => h))
  clear ho
  unfold valM zeroM
  go_wp2_with (fail)
  refine (C1.out _ (HR1.out.alloc _)).mono ?_
  rintro e x1 ⟨rfl, ho⟩
  have HR2 := Lib.hid ((HR1.out.alloc _).trans ho (fun _ h _ => h))
  clear ho
  unfold valM zeroM
  go_wp2_with (fail)
  refine (C2.out _ (HR2.out.alloc _)).mono ?_
  rintro e x2 ⟨rfl, ho⟩
  have HR3 := Lib.hid ((HR2.out.alloc _).trans ho (fun _ h _ => h))
  clear ho
  unfold valM zeroM
  go_wp2_with (fail)
  refine (C3.out _ (HR3.out.alloc _)).mono ?_
  rintro e x3 ⟨rfl, ho⟩
  have HR4 := Lib.hid ((HR3.out.alloc _).trans ho (fun _ h _ => h))
  clear ho
  go_wp2_with (fail)
  refine (C4.out _ (HR4.out.alloc _)).mono ?_
  rintro e x4 ⟨rfl, ho⟩
  have HR5 := Lib.hid ((HR4.out.alloc _).trans ho (fun _ h _ => h))
  clear ho
  unfold flagM
  go_wp2_with (fail)
  refine (C5.out _ (HR5.out.alloc _)).mono ?_
  rintro e x5 ⟨rfl, hww⟩
  subst hww
  go_wp2_with (fail)
  refine (C6.out _ (HR5.out.alloc _)).mono ?_
  rintro e x6 ⟨rfl, hww⟩
  subst hww
  go_wp2_with (fail)
  refine (C7.out _ (HR5.out.alloc _)).mono ?_
  rintro e x7 ⟨rfl, hww⟩
  subst hww
  go_wp2_with (fail)
  refine (C8.out _ (HR5.out.alloc _)).mono ?_
  rintro e x8 ⟨rfl, hww⟩
  subst hww
  go_wp2_with (fail)
  refine (C9.out _ (HR5.out.alloc _)).mono ?_
  rintro e x9 ⟨b9, rfl, ho⟩
  have HR10 := Lib.hid ((HR5.out.alloc _).trans ho (fun _ h _ => h))
  clear ho
  go_wp2_with (fail)
  refine (C10.out _ HR10.out).mono ?_
  rintro e x10 ⟨rfl, ho⟩
  have HR11 := Lib.hid (HR10.out.trans ho (fun _ h _ => h))
  clear ho
  go_wp2_with (fail)
  refine (C11.out _ HR11.out).mono ?_
  rintro e x11 ⟨rfl, hww⟩
  subst hww
  go_wp2_with (fail)
  refine (C12.out _ HR11.out).mono ?_
  rintro e x12 ⟨rfl, hww⟩
  subst hww
  go_wp2_with (fail)
  refine (C13.out _ HR11.out).mono ?_
  rintro e x13 ⟨rfl, ho⟩
  have HR14 := Lib.hid (HR11.out.trans ho (fun _ h _ => h))
  clear ho
  unfold valM zeroM
  go_wp2
  go_ret
  exact ⟨rfl, (HO0.out.trans HR14.out (fun _ h _ => h)).none⟩

theorem own : ownKnob Try.prog.godebug = none := by kernel_rfl
theorem laidOut : laidOutB Try.prog = true := by kernel_rfl

set_option maxRecDepth 100000 in
theorem lifted (os : Os) (started : os.Started) (H : Type) (enc : TypeId × Value → H) :
    ReturnsInHanded {} Try.checked os 3 .any (Rows.linkZeroSpec.pre6 enc Try.prog Try.f3 Rows.linkZeroRow.domain false) (Rows.linkZeroSpec.post enc Try.prog Try.f3 false true false false) := by
  refine returnsInHanded_of_change_sized (C := Try.checked) own started (by kernel_rfl) Try.func3
    (ChangeSpec.witness6 (enc := enc) (C := Try.checked) false ⟨#[], #[.int .i64 0, .string ⟨#[]⟩], []⟩ 8 (by kernel_rfl) (by kernel_rfl) (by kernel_rfl) (by kernel_rfl)) ?_
  intro W base args ds gs before hval0 hW hcnd hsz0 _
  have hsz : (DataW.weightsEach Try.prog (Try.f3.params.toList ++ Rows.linkZeroSpec.plain.varTypes Try.prog) (ds ++ gs)).all (· ≤ reachBytes) = true := hsz0
  clear hsz0
  have hval : ∀ (j : Nat) t v, Try.f3.params[j]? = some t → args[j]? = some v → Value.okWide Try.prog W .any base t v := hval0
  have hW' := hW
  obtain ⟨p, q, hA0, hV, rfl, hfz, hnd⟩ := hW
  have hA : DataW.TrodAll enc Try.prog W 0 (fun _ => true) true Try.f3.params.toList args.toList ds p := hA0
  rw [Try.params3] at hA hval hsz
  obtain ⟨v0, vs0, d0, ds0, p0, q0, hargs, rfl, rfl, h0, r0⟩ := trodAll_cons hA
  obtain ⟨v1, vs1, d1, ds1, p1, q1, rfl, rfl, rfl, h1, r1⟩ := trodAll_cons r0
  obtain ⟨rfl, rfl, rfl⟩ := trodAll_nil r1
  obtain rfl : args = #[v0, v1] := by cases args; simp_all
  obtain ⟨rfl, rfl⟩ := trodVars_none hV
  obtain ⟨a0, rfl, rfl, rfl, w0⟩ := open_int Try.underlying3 (hval 0 3 v0 rfl rfl) h0
  obtain ⟨a1, rfl, rfl, rfl, w1⟩ := ChangeMaps.open_string Try.underlying9 (hval 1 9 v1 rfl rfl) h1
  have z1 : a1.size ≤ 140737488351232 := by have := sized_string hsz (j := 1) rfl rfl; unfold reachBytes at this; rw [Lib.size_eq]; omega
  clear hA0 hval0
  refine (walk a0 a1 W w0 z1).mono fun e W' ⟨he, bel⟩ => ?_
  subst he
  exact ⟨_, rfl, _, _, _, [], _, [], hW', trodAll_mk1 (shut_bool Try.underlying4 _), (trodAll_cons_mk (shut_int Try.underlying3 w0) (trodAll_cons_mk (ChangeMaps.shut_string Try.underlying9 w1) trodAll_mk0)), rfl, bel.frame _, fun h => by cases h⟩

theorem over : Rows.linkZeroRow.holds Try.pinned (OpenSpec.ofChange Rows.linkZeroSpec) :=
  OpenClaim.holds_of_wide 3 Try.f3 rfl rfl rfl rfl rfl rfl rfl ⟨rfl, rfl, rfl, rfl, rfl⟩ rfl rfl rfl rfl rfl (by kernel_rfl) Try.func3 (by kernel_rfl)
    (of_decide_eq_true (by kernel_rfl)) (by unfold Func.isWrapper; first | (rw [if_pos (by decide +kernel)]; kernel_rfl) | (rw [if_neg (by decide +kernel)]; exact ⟨rfl, rfl⟩))
    (fun os started H enc _ => lifted os started H enc)

theorem proved : Rows.LinkZeroSaid := over
#print axioms proved
end Go.Proofs.Ytmakfnghkpdpkaa.linkZero
