/- PROVED: the law MapsTypes: the type of any name, and the map at any place, the program answers as the document; the arguments read as before. For every input. No condition. -/
import Derived.Test.YtadgbkjjeigpjaaMapF
import Derived.Test.YtadgbkjjeigpjaaMapT
import Derived.Test.YtadgbkjjeigpjaaMapTr
import Derived.Test.YtadgbkjjeigpjaaMapM
import Derived.Test.YtadgbkjjeigpjaaMapK
import Derived.ProofKit
import Derived.ShutString
import Derived.ChangeOld
import Derived.Below
import Derived.SizedLaws
import Derived.Deep.CondSized
import Derived.Deep.RegionHeld3
namespace Go.Proofs.Ytadgbkjjeigpjaa.mapsTypes
open Go.ChangeShapes Go.WideShapes Go.ChangeAt Go.RowKit
set_option linter.unusedVariables false
set_option linter.unusedSimpArgs false

set_option maxHeartbeats 4000000 in
set_option maxRecDepth 100000 in
theorem walk (s : ByteArray) (v : Value) (x : Int) (w : World) (hs : s.size ≤ 140737488351232) (hl : ∃ xs, MapsX w v xs ∧ xs.length ≤ 140737488351232) (hx : (Lit.int .i64 x).wf = true) :
    Calls Try.prog 4 #[.string s, v, .int .i64 x] w fun e w' => e = .returned (.bool true) ∧ Below w.heap.size w w' := by
  obtain ⟨xs, hxs, hn⟩ := hl
  obtain ⟨ao, cap, rfl, p1, p2, p3, -⟩ := id hxs.1
  have c1 := fun w => progMType s w hs
  have c2 := fun w => refMType s w hs
  unfold TypeTo at c1 c2
  generalize typeN s = o at *
  have eq1 := fun w => eql_type (typO o) (typO o) w
  rw [eqT_self] at eq1
  have g1 := guard_type
  generalize typO o = t at *
  generalize o.isSome = ib at *
  have c3 := fun w (h : MapsX w (.slice ao xs.length cap) xs) => mFind _ xs x w h (by omega)
  have c4 := fun w (h : MapsX w (.slice ao xs.length cap) xs) => refFind _ xs x w h (by omega)
  generalize idxP (atM x) 0 xs = ix at *
  unfold valT at c1 c2 eq1
  have C1 := Lib.hid c1
  have C2 := Lib.hid c2
  have C3 := Lib.hid c3
  have C4 := Lib.hid c4
  have HX := Lib.hid hxs
  clear c1 c2 c3 c4 hxs p3 hx
  have TCELLS := Lib.hid (show True from trivial)
  go_enter Try.func4, Try.ntmps4
  go_wp2_with (fail)
  refine (C1.out _).mono ?_
  rintro e w1 ⟨rfl, ho1⟩
  have hal1 := (Only.refl (fun _ => False) w1).alloc (.cells #[.int .i64 t.k, .string t.name, .int .i64 t.dims, .int .i64 t.elem, .int .i64 t.at_] 59)
  have hb1 := heap_alloc_new w1 (.cells #[.int .i64 t.k, .string t.name, .int .i64 t.dims, .int .i64 t.elem, .int .i64 t.at_] 59)
  have HO1 := Lib.hid (ho1.trans hal1 (fun _ h _ => h))
  have HB1 := Lib.hid hb1
  clear ho1 hal1 hb1 C1
  go_wp2_with (fail)
  refine (C2.out _).mono ?_
  rintro e w2 ⟨rfl, ho2⟩
  have hal2 := (Only.refl (fun _ => False) w2).alloc (.cells #[.int .i64 t.k, .string t.name, .int .i64 t.dims, .int .i64 t.elem, .int .i64 t.at_] 59)
  have hb2 := heap_alloc_new w2 (.cells #[.int .i64 t.k, .string t.name, .int .i64 t.dims, .int .i64 t.elem, .int .i64 t.at_] 59)
  obtain ⟨q0, q1, q2, q3, q4⟩ := cells5T (hal2.heap (ho2.heap HB1.out (fun h => h)) (fun h => h))
  obtain ⟨r0, r1, r2, r3, r4⟩ := cells5T hb2
  have HO2 := Lib.hid ((HO1.out.trans ho2 (fun _ h _ => h)).trans hal2 (fun _ h _ => h))
  have C3' := Lib.hid (C3.out _ (HX.out.only HO2.out))
  clear ho2 hal2 hb2 C2 HO1 HB1 C3
  go_wp2_with (fail)
  refine C3'.out.mono ?_
  rintro e w3 ⟨rfl, ho3⟩
  have HO3 := Lib.hid (HO2.out.trans ho3 (fun _ h _ => h))
  have C4' := Lib.hid (C4.out _ (HX.out.only HO3.out))
  clear ho3 C3' HO2 C4
  go_wp2_with (fail)
  refine C4'.out.mono ?_
  rintro e w4 ⟨rfl, rfl⟩
  go_wp2_with (fail)
  refine (awake10 w3).mono ?_
  rintro e w5 ⟨rfl, ho5⟩
  have HO5 := Lib.hid (HO3.out.trans ho5 (fun _ h _ => h))
  clear ho5 HO3
  go_wp2
  go_ret
  exact ⟨rfl, HO5.out.none⟩

theorem own : ownKnob Try.prog.godebug = none := by kernel_rfl
theorem laidOut : laidOutB Try.prog = true := by kernel_rfl

set_option maxRecDepth 100000 in
theorem lifted (os : Os) (started : os.Started) (H : Type) (enc : TypeId × Value → H) :
    ReturnsInHanded {} Try.checked os 4 .any (Rows.mapsTypesSpec.pre6 enc Try.prog Try.f4 Rows.mapsTypesRow.domain false) (Rows.mapsTypesSpec.post enc Try.prog Try.f4 false true false false) := by
  refine returnsInHanded_of_change_sized (C := Try.checked) own started (by kernel_rfl) Try.func4
    (ChangeSpec.witness6 (enc := enc) (C := Try.checked) false ⟨#[], #[.string ⟨#[]⟩, .slice none 0 0, .int .i64 0], []⟩ 8 (by kernel_rfl) (by kernel_rfl) (by kernel_rfl) (by kernel_rfl)) ?_
  intro W base args ds gs before hval0 hW hcnd hsz0 _
  have hsz : (DataW.weightsEach Try.prog (Try.f4.params.toList ++ Rows.mapsTypesSpec.plain.varTypes Try.prog) (ds ++ gs)).all (· ≤ reachBytes) = true := hsz0
  clear hsz0
  have hval : ∀ (j : Nat) t v, Try.f4.params[j]? = some t → args[j]? = some v → Value.okWide Try.prog W .any base t v := hval0
  have hW' := hW
  obtain ⟨p, q, hA0, hV, rfl, hfz, hnd⟩ := hW
  have hA : DataW.TrodAll enc Try.prog W 0 (fun _ => true) true Try.f4.params.toList args.toList ds p := hA0
  rw [Try.params4] at hA hval hsz
  obtain ⟨v0, vs0, d0, ds0, p0, q0, hargs, rfl, rfl, h0, r0⟩ := trodAll_cons hA
  obtain ⟨v1, vs1, d1, ds1, p1, q1, rfl, rfl, rfl, h1, r1⟩ := trodAll_cons r0
  obtain ⟨v2, vs2, d2, ds2, p2, q2, rfl, rfl, rfl, h2, r2⟩ := trodAll_cons r1
  obtain ⟨rfl, rfl, rfl⟩ := trodAll_nil r2
  obtain rfl : args = #[v0, v1, v2] := by cases args; simp_all
  obtain ⟨rfl, rfl⟩ := trodVars_none hV
  obtain ⟨a0, rfl, rfl, rfl, w0⟩ := ChangeMaps.open_string Try.underlying9 (hval 0 9 v0 rfl rfl) h0
  have z0 : a0.size ≤ 140737488351232 := by have := sized_string hsz (j := 0) rfl rfl; unfold reachBytes at this; rw [Lib.size_eq]; omega
  have k1 := h1
  have lt1 : ∀ x ∈ p1, x.block < W.heap.size := by obtain ⟨m, hm⟩ := k1; exact DataW.trod_lt m _ _ _ hm
  have w1 := arg_maps (hval 1 57 v1 rfl rfl) h1 (light_arg (j := 1) hsz rfl rfl)
  obtain ⟨a2, rfl, rfl, rfl, w2⟩ := open_int Try.underlying3 (hval 2 3 v2 rfl rfl) h2
  clear hA0 hval0
  refine (walk a0 v1 a2 W z0 w1 w2).mono fun e W' ⟨he, bel⟩ => ?_
  subst he
  exact ⟨_, rfl, _, _, _, [], _, [], hW', trodAll_mk1 (shut_bool Try.underlying4 _), (trodAll_cons_mk (ChangeMaps.shut_string Try.underlying9 w0) (trodAll_cons_mk (Below.trod laidOut (by kernel_rfl) (of_decide_eq_true (by kernel_rfl)) k1 bel lt1) (trodAll_cons_mk (shut_int Try.underlying3 w2) trodAll_mk0))), rfl, bel.frame _, fun h => by cases h⟩

theorem over : Rows.mapsTypesRow.holds Try.pinned (OpenSpec.ofChange Rows.mapsTypesSpec) :=
  OpenClaim.holds_of_wide 4 Try.f4 rfl rfl rfl rfl rfl rfl rfl ⟨rfl, rfl, rfl, rfl, rfl⟩ rfl rfl rfl rfl rfl (by kernel_rfl) Try.func4 (by kernel_rfl)
    (of_decide_eq_true (by kernel_rfl)) (by unfold Func.isWrapper; first | (rw [if_pos (by decide +kernel)]; kernel_rfl) | (rw [if_neg (by decide +kernel)]; exact ⟨rfl, rfl⟩))
    (fun os started H enc _ => lifted os started H enc)

theorem proved : Rows.MapsTypesSaid := over
#print axioms proved
end Go.Proofs.Ytadgbkjjeigpjaa.mapsTypes
