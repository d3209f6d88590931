/- PROVED: the law KindMethods: the types of any method's descriptor, the program answers as the document; the argument reads as before. For every input. No condition. -/
import Derived.Test.YtcmceabkadgfiaaKndV
import Derived.Test.YtcmceabkadgfiaaKndS
import Derived.Test.YtcmceabkadgfiaaKndN
import Derived.Test.YtcmceabkadgfiaaKndK
import Derived.Test.YtcmceabkadgfiaaKndY
import Derived.ProofKit
import Derived.ShutString
import Derived.ChangeOld
import Derived.Below
import Derived.SizedLaws
import Derived.PinnedBridge
import Derived.Deep.CondSized
import Derived.Deep.RegionHeld3
namespace Go.Proofs.Ytcmceabkadgfiaa.kindMethods
open Go.ChangeShapes Go.WideShapes Go.ChangeAt Go.RowKit
set_option linter.unusedVariables false
set_option linter.unusedSimpArgs false

theorem meth_len {zs : List Int} {x : List TypeV × TypeV × Int} (h : Meth zs x) : x.1.length ≤ 16 := by
  rcases h with ⟨_, rfl⟩ | ⟨q, l, r, _, hp, _, rfl⟩
  · exact Nat.zero_le _
  · have h1 := (parN_rest hp).1
    unfold endM
    cases r with
    | nil => exact Nat.zero_le _
    | cons c q =>
      simp only
      split
      · split
        · exact h1
        · cases oneZ8 q with
          | none => exact Nat.zero_le _
          | some t => exact h1
      · exact Nat.zero_le _
set_option maxHeartbeats 4000000 in
set_option maxRecDepth 100000 in
theorem walk (s : ByteArray) (w : World) (hs : s.size ≤ 140737488351232) :
    Calls Try.prog 4 #[.string s] w fun e w' => e = .returned (.bool true) ∧ Below w.heap.size w w' := by
  have c1 := progMethod s w (by omega)
  have c2 := fun w => refKMethod s w (by omega)
  have C1 := Lib.hid c1
  have C2 := Lib.hid c2
  have CA := Lib.hid awake8
  have g1 := guard_type
  clear c1 c2
  go_enter Try.func4, Try.ntmps4
  go_wp2_with (fail)
  refine C1.out.mono ?_
  rintro e w1 ⟨v1, ⟨l, t, er⟩, rfl, hm1, ho1, ht1⟩
  simp only at ht1
  obtain ⟨a1, k1, rfl, p1, p2, p3, -⟩ := id ht1
  have hal1 := (Only.refl (fun _ => False) w1).alloc (.cells #[.int .i64 t.k, .string t.name, .int .i64 t.dims, .int .i64 t.elem, .int .i64 t.at_] 23)
  have hb1 := heap_alloc_new w1 (.cells #[.int .i64 t.k, .string t.name, .int .i64 t.dims, .int .i64 t.elem, .int .i64 t.at_] 23)
  have HO1 := Lib.hid (ho1.trans hal1 (fun _ h _ => h))
  have HB1 := Lib.hid hb1
  have HM1 := Lib.hid hm1
  have HT1 := Lib.hid (ht1.only hal1)
  unfold valT
  clear ho1 hal1 hb1 C1 hm1 ht1 p3
  simp only
  go_wp2_with (fail)
  refine (C2.out _).mono ?_
  rintro e w2 ⟨v2, x2, rfl, hm2, ho2, ht2⟩
  obtain rfl := hm2.unique HM1.out
  simp only at ht2
  obtain ⟨a2, k2, rfl, s1, s2, s3, -⟩ := id ht2
  have hal2 := (Only.refl (fun _ => False) w2).alloc (.cells #[.int .i64 t.k, .string t.name, .int .i64 t.dims, .int .i64 t.elem, .int .i64 t.at_] 23)
  have hb2 := heap_alloc_new w2 (.cells #[.int .i64 t.k, .string t.name, .int .i64 t.dims, .int .i64 t.elem, .int .i64 t.at_] 23)
  have hb1 := hal2.heap (ho2.heap HB1.out (fun h => h)) (fun h => h)
  have c3 := sameTy _ _ l _ ((HT1.out.only ho2).only hal2) (ht2.only hal2) (by have := meth_len HM1.out; simp only at this; omega)
  have HB2 := Lib.hid hb2
  have HB12 := Lib.hid hb1
  have HO2 := Lib.hid ((HO1.out.trans ho2 (fun _ h _ => h)).trans hal2 (fun _ h _ => h))
  have C3 := Lib.hid c3
  unfold valT
  clear ho2 hal2 hb1 hb2 C2 hm2 ht2 c3 s3
  simp only
  go_wp2_with (fail)
  refine C3.out.mono ?_
  rintro e w3 ⟨rfl, ho3⟩
  obtain ⟨q0, q1, q2, q3, q4⟩ := cells5T (ho3.heap HB12.out (fun h => h))
  obtain ⟨r0, r1, r2, r3, r4⟩ := cells5T (ho3.heap HB2.out (fun h => h))
  have eq1 := fun w => eql_type t t w
  rw [eqT_self] at eq1
  unfold valT at eq1
  have HO3 := Lib.hid (HO2.out.trans ho3 (fun _ h _ => h))
  clear ho3 C3
  go_wp2_with (fail)
  refine (CA.out _).mono ?_
  rintro e w4 ⟨rfl, ho4⟩
  have HO4 := Lib.hid (HO3.out.trans ho4 (fun _ h _ => h))
  clear ho4
  go_wp2
  go_ret
  exact ⟨rfl, HO4.out.none⟩

theorem own : ownKnob Try.prog.godebug = none := by kernel_rfl
theorem laidOut : laidOutB Try.prog = true := by kernel_rfl

set_option maxRecDepth 100000 in
theorem lifted (os : Os) (started : os.Started) (H : Type) (enc : TypeId × Value → H) :
    ReturnsInHanded {} Try.checked os 4 .any (Rows.kindMethodsSpec.pre6 enc Try.prog Try.f4 Rows.kindMethodsRow.domain false) (Rows.kindMethodsSpec.post enc Try.prog Try.f4 false true false false) := by
  refine returnsInHanded_of_change_sized (C := Try.checked) own started (by kernel_rfl) Try.func4
    (ChangeSpec.witness6 (enc := enc) (C := Try.checked) false ⟨#[], #[.string ⟨#[]⟩], []⟩ 8 (by kernel_rfl) (by kernel_rfl) (by kernel_rfl) (by kernel_rfl)) ?_
  intro W base args ds gs before hval0 hW hcnd hsz0 _
  have hsz : (DataW.weightsEach Try.prog (Try.f4.params.toList ++ Rows.kindMethodsSpec.plain.varTypes Try.prog) (ds ++ gs)).all (· ≤ reachBytes) = true := hsz0
  clear hsz0
  have hval : ∀ (j : Nat) t v, Try.f4.params[j]? = some t → args[j]? = some v → Value.okWide Try.prog W .any base t v := hval0
  have hW' := hW
  obtain ⟨p, q, hA0, hV, rfl, hfz, hnd⟩ := hW
  have hA : DataW.TrodAll enc Try.prog W 0 (fun _ => true) true Try.f4.params.toList args.toList ds p := hA0
  rw [Try.params4] at hA hval hsz
  obtain ⟨v0, vs0, d0, ds0, p0, q0, hargs, rfl, rfl, h0, r0⟩ := trodAll_cons hA
  obtain ⟨rfl, rfl, rfl⟩ := trodAll_nil r0
  obtain rfl : args = #[v0] := by cases args; simp_all
  obtain ⟨rfl, rfl⟩ := trodVars_none hV
  obtain ⟨a0, rfl, rfl, rfl, w0⟩ := ChangeMaps.open_string Try.underlying9 (hval 0 9 v0 rfl rfl) h0
  have z0 : a0.size ≤ 140737488351232 := by have := sized_string hsz (j := 0) rfl rfl; unfold reachBytes at this; rw [Lib.size_eq]; omega
  clear hA0 hval0
  refine (walk a0 W z0).mono fun e W' ⟨he, bel⟩ => ?_
  subst he
  exact ⟨_, rfl, _, _, _, [], _, [], hW', trodAll_mk1 (shut_bool Try.underlying4 _), (trodAll_cons_mk (ChangeMaps.shut_string Try.underlying9 w0) trodAll_mk0), rfl, bel.frame _, fun h => by cases h⟩

theorem over : Rows.kindMethodsRow.holds Try.pinned (OpenSpec.ofChange Rows.kindMethodsSpec) :=
  OpenClaim.holds_of_wide 4 Try.f4 rfl rfl rfl rfl rfl rfl rfl ⟨rfl, rfl, rfl, rfl, rfl⟩ rfl rfl rfl rfl rfl (by kernel_rfl) Try.func4 (by kernel_rfl)
    (of_decide_eq_true (by kernel_rfl)) (by unfold Func.isWrapper; first | (rw [if_pos (by decide +kernel)]; kernel_rfl) | (rw [if_neg (by decide +kernel)]; exact ⟨rfl, rfl⟩))
    (fun os started H enc _ => lifted os started H enc)

theorem proved : Rows.KindMethodsSaid := over
#print axioms proved
end Go.Proofs.Ytcmceabkadgfiaa.kindMethods
