/- PROVED: the law PoolLooks: the program's Text, Class and Ref of any pool, right or not, at any place, are the document's own; the argument reads as before. For every input. No condition. -/
import Derived.Test.YtpiandkiijienaaPolMb
import Derived.Test.YtpiandkiijienaaPolCd
import Derived.Test.YtpiandkiijienaaPolD
import Derived.Test.YtpiandkiijienaaPolL
import Derived.ProofKit
import Derived.ShutString
import Derived.ChangeOld
import Derived.Below
import Derived.PinnedBridge
namespace Go.Proofs.Ytpiandkiijienaa.poolLooks
open Go.ChangeShapes Go.WideShapes Go.ChangeAt Go.RowKit
set_option linter.unusedVariables false
set_option linter.unusedSimpArgs false

theorem arg_poolW {H : Type} {enc : TypeId × Value → H} {W : World} {base : Nat} {v : Value} {d : DataW H} {p : List MemPlace} (hv : Value.okWide Try.prog W .any base 22 v) (h : DataW.Trod enc Try.prog W 0 (fun _ => true) true 22 v d p)
    (hL : Light Try.prog 22 d) : ∃ ks, Pool W v ks ∧ (∀ c ∈ ks, c.text.size ≤ 140737488351232) ∧ ks.length * 48 ≤ 140737488351232 := by
  obtain ⟨ks, h1, h2, h3⟩ := arg_pool hv h hL
  obtain ⟨_, _, _, _, _, _, hr, _⟩ := id h1
  exact ⟨ks, h1, fun c hc => (hr c hc).rt, h3⟩

set_option maxHeartbeats 4000000 in
set_option maxRecDepth 100000 in
theorem walk (v : Value) (i : Int) (w : World) (w0 : ∃ ks, Pool w v ks ∧ (∀ c ∈ ks, c.text.size ≤ 140737488351232) ∧ ks.length * 48 ≤ 140737488351232) (w1 : (Lit.int .i64 i).wf = true) :
    Calls Try.prog 3 #[v, .int .i64 i] w fun e w' => e = .returned (.bool true) ∧ Below w.heap.size w w' := by
  obtain ⟨cs, hp, _, _⟩ := w0
  obtain ⟨ao, cap, rfl, _, _, _, _, _⟩ := id hp
  have HP := Lib.hid hp
  have c1 := fun w' (ho : Only (fun _ => False) w w') => progText _ cs i w' (HP.out.only ho (fun _ _ h => h))
  have c2 := fun w' (ho : Only (fun _ => False) w w') => refText _ cs i w' (HP.out.only ho (fun _ _ h => h))
  have c3 := fun w' (ho : Only (fun _ => False) w w') => progClass _ cs i w' (HP.out.only ho (fun _ _ h => h))
  have c4 := fun w' (ho : Only (fun _ => False) w w') => refClass _ cs i w' (HP.out.only ho (fun _ _ h => h))
  have c5 := fun w' (ho : Only (fun _ => False) w w') => progRef _ cs i w' (HP.out.only ho (fun _ _ h => h))
  have c6 := fun w' (ho : Only (fun _ => False) w w') => refRef _ cs i w' (HP.out.only ho (fun _ _ h => h))
  generalize textZ cs i = t at *
  generalize classZ cs i = k at *
  generalize refZ cs i = r at *
  obtain ⟨ts, tb⟩ := t
  obtain ⟨ks, kb⟩ := k
  obtain ⟨r1, r2, r3, rb⟩ := r
  simp only at c1 c2 c3 c4 c5 c6
  have C1 := Lib.hid c1
  have C2 := Lib.hid c2
  have C3 := Lib.hid c3
  have C4 := Lib.hid c4
  have C5 := Lib.hid c5
  have C6 := Lib.hid c6
  clear c1 c2 c3 c4 c5 c6 hp w1
  go_enter Try.func3, Try.ntmps3
  go_wp2_with (fail)
  refine (C1.out _ (Only.refl _ _)).mono ?_
  rintro e wa ⟨rfl, ho1⟩
  have H1 := Lib.hid ho1
  clear ho1
  go_wp2_with (fail)
  refine (C2.out _ H1.out).mono ?_
  rintro e wb ⟨rfl, rfl⟩
  go_wp2_with (fail)
  refine (C3.out _ H1.out).mono ?_
  rintro e wc ⟨rfl, ho2⟩
  have H2 := Lib.hid (H1.out.trans ho2 (fun _ h => h.elim))
  clear ho2
  go_wp2_with (fail)
  refine (C4.out _ H2.out).mono ?_
  rintro e wd ⟨rfl, rfl⟩
  go_wp2_with (fail)
  refine (C5.out _ H2.out).mono ?_
  rintro e we ⟨rfl, ho3⟩
  have H3 := Lib.hid (H2.out.trans ho3 (fun _ h => h.elim))
  clear ho3
  go_wp2_with (fail)
  refine (C6.out _ H3.out).mono ?_
  rintro e wf ⟨rfl, rfl⟩
  go_wp2_with (go_at_call 10; refine (awake _).mono ?_; rintro e w7 ⟨rfl, ho7⟩)
  go_ret
  exact ⟨rfl, (H3.out.trans ho7 (fun _ h => h.elim)).none⟩

theorem own : ownKnob Try.prog.godebug = none := by kernel_rfl
theorem laidOut : laidOutB Try.prog = true := by kernel_rfl

set_option maxRecDepth 100000 in
theorem lifted (os : Os) (started : os.Started) (H : Type) (enc : TypeId × Value → H) :
    ReturnsInHanded {} Try.checked os 3 .any (Rows.poolLooksSpec.pre6 enc Try.prog Try.f3 Rows.poolLooksRow.domain false) (Rows.poolLooksSpec.post enc Try.prog Try.f3 false true false false) := by
  refine returnsInHanded_of_change_sized (C := Try.checked) own started (by kernel_rfl) Try.func3
    (ChangeSpec.witness6 (enc := enc) (C := Try.checked) false ⟨#[], #[.slice none 0 0, .int .i64 0], []⟩ 8 (by kernel_rfl) (by kernel_rfl) (by kernel_rfl) (by kernel_rfl)) ?_
  intro W base args ds gs before hval0 hW hcnd hsz0 _
  have hsz : (DataW.weightsEach Try.prog (Try.f3.params.toList ++ Rows.poolLooksSpec.plain.varTypes Try.prog) (ds ++ gs)).all (· ≤ reachBytes) = true := hsz0
  clear hsz0
  have hval : ∀ (j : Nat) t v, Try.f3.params[j]? = some t → args[j]? = some v → Value.okWide Try.prog W .any base t v := hval0
  have hW' := hW
  obtain ⟨p, q, hA0, hV, rfl, hfz, hnd⟩ := hW
  have hA : DataW.TrodAll enc Try.prog W 0 (fun _ => true) true Try.f3.params.toList args.toList ds p := hA0
  rw [Try.params3] at hA hval hsz
  obtain ⟨v0, vs0, d0, ds0, p0, q0, hargs, rfl, rfl, h0, r0⟩ := trodAll_cons hA
  obtain ⟨v1, vs1, d1, ds1, p1, q1, rfl, rfl, rfl, h1, r1⟩ := trodAll_cons r0
  obtain ⟨rfl, rfl, rfl⟩ := trodAll_nil r1
  obtain rfl : args = #[v0, v1] := by cases args; simp_all
  obtain ⟨rfl, rfl⟩ := trodVars_none hV
  have k0 := h0
  have lt0 : ∀ x ∈ p0, x.block < W.heap.size := by obtain ⟨m, hm⟩ := k0; exact DataW.trod_lt m _ _ _ hm
  have w0 := arg_poolW (hval 0 22 v0 rfl rfl) h0 (light_arg (j := 0) hsz rfl rfl)
  obtain ⟨a1, rfl, rfl, rfl, w1⟩ := open_int Try.underlying3 (hval 1 3 v1 rfl rfl) h1
  clear hA0 hval0
  refine (walk v0 a1 W w0 w1).mono fun e W' ⟨he, bel⟩ => ?_
  subst he
  exact ⟨_, rfl, _, _, _, [], _, [], hW', trodAll_mk1 (shut_bool Try.underlying4 _), (trodAll_cons_mk (Below.trod laidOut (by kernel_rfl) (of_decide_eq_true (by kernel_rfl)) k0 bel lt0) (trodAll_cons_mk (shut_int Try.underlying3 w1) trodAll_mk0)), rfl, bel.frame _, fun h => by cases h⟩

theorem over : Rows.poolLooksRow.holds Try.pinned (OpenSpec.ofChange Rows.poolLooksSpec) :=
  OpenClaim.holds_of_wide 3 Try.f3 rfl rfl rfl rfl rfl rfl rfl ⟨rfl, rfl, rfl, rfl, rfl⟩ rfl rfl rfl rfl rfl (by kernel_rfl) Try.func3 (by kernel_rfl)
    (of_decide_eq_true (by kernel_rfl)) (by unfold Func.isWrapper; first | (rw [if_pos (by decide +kernel)]; kernel_rfl) | (rw [if_neg (by decide +kernel)]; exact ⟨rfl, rfl⟩))
    (fun os started H enc _ => lifted os started H enc)

theorem proved : Rows.PoolLooksSaid := over
#print axioms proved
end Go.Proofs.Ytpiandkiijienaa.poolLooks
