/- PROVED: the law KindBelow: whether a name is below another one in any tree, the program answers as the document; the arguments read as before. For every input. No condition. -/
import Derived.Test.YtcmceabkadgfiaaKndH
import Derived.Test.YtcmceabkadgfiaaKndN
import Derived.Test.YtcmceabkadgfiaaKndK
import Derived.Test.YtcmceabkadgfiaaKndY
import Derived.ProofKit
import Derived.ShutString
import Derived.ChangeOld
import Derived.Below
import Derived.SizedLaws
import Derived.PinnedBridge
import Derived.Deep.CondSized
import Derived.Deep.RegionHeld3
namespace Go.Proofs.Ytcmceabkadgfiaa.kindBelow
open Go.ChangeShapes Go.WideShapes Go.ChangeAt Go.RowKit
set_option linter.unusedVariables false
set_option linter.unusedSimpArgs false

set_option maxHeartbeats 4000000 in
set_option maxRecDepth 100000 in
theorem walk (v : Value) (a b : ByteArray) (w : World) (hp : ∃ l, Pairs w v l ∧ NamesR l ∧ l.length ≤ 4398046511104) (ha : a.size ≤ 140737488351232) (hb : b.size ≤ 140737488351232) :
    Calls Try.prog 6 #[v, .string a, .string b] w fun e w' => e = .returned (.bool true) ∧ Below w.heap.size w w' := by
  obtain ⟨l, hp, hn, hl⟩ := hp
  obtain ⟨ao, cap, rfl, p1, p2, p3, -⟩ := id hp
  have ha' : a.size ≤ maxLen := by unfold maxLen; omega
  have c1 := lawTree _ l w hp hl
  have C1 := Lib.hid c1
  have HP := Lib.hid hp
  have HN := Lib.hid hn
  have HA := Lib.hid ha'
  have CA := Lib.hid awake8
  clear c1 hp hn ha' p3
  go_enter Try.func6, Try.ntmps6
  go_wp2_with (fail)
  refine C1.out.mono ?_
  rintro e w1 ⟨v', rfl, hp1, ho1⟩
  have c2 := progBelow v' l a b w1 hp1 (by omega) HN.out HA.out
  obtain ⟨ao', cap', rfl, s1, s2, s3, -⟩ := id hp1
  have C2 := Lib.hid c2
  have HO1 := Lib.hid ho1
  clear c2 ho1 C1 hp1 s3
  go_wp2_with (fail)
  refine C2.out.mono ?_
  rintro e w2 ⟨rfl, ho2⟩
  have c3 := refBelow _ l a b w2 (HP.out.only (HO1.out.trans ho2 (fun _ h _ => h))) (by omega)
  have C3 := Lib.hid c3
  have HO2 := Lib.hid (HO1.out.trans ho2 (fun _ h _ => h))
  clear c3 ho2 C2
  go_wp2_with (fail)
  refine C3.out.mono ?_
  rintro e w3 ⟨rfl, rfl⟩
  generalize belowZ l a b = bz at *
  have hbz : (bz == bz) = true := by simp
  go_wp2_with (fail)
  refine (CA.out _).mono ?_
  rintro e w4 ⟨rfl, ho4⟩
  have HO4 := Lib.hid (HO2.out.trans ho4 (fun _ h _ => h))
  clear ho4
  go_wp2
  go_ret
  exact ⟨rfl, HO4.out.none⟩

theorem own : ownKnob Try.prog.godebug = none := by kernel_rfl
theorem laidOut : laidOutB Try.prog = true := by kernel_rfl

set_option maxRecDepth 100000 in
theorem lifted (os : Os) (started : os.Started) (H : Type) (enc : TypeId × Value → H) :
    ReturnsInHanded {} Try.checked os 6 .any (Rows.kindBelowSpec.pre6 enc Try.prog Try.f6 Rows.kindBelowRow.domain false) (Rows.kindBelowSpec.post enc Try.prog Try.f6 false true false false) := by
  refine returnsInHanded_of_change_sized (C := Try.checked) own started (by kernel_rfl) Try.func6
    (ChangeSpec.witness6 (enc := enc) (C := Try.checked) false ⟨#[], #[.slice none 0 0, .string ⟨#[]⟩, .string ⟨#[]⟩], []⟩ 8 (by kernel_rfl) (by kernel_rfl) (by kernel_rfl) (by kernel_rfl)) ?_
  intro W base args ds gs before hval0 hW hcnd hsz0 _
  have hsz : (DataW.weightsEach Try.prog (Try.f6.params.toList ++ Rows.kindBelowSpec.plain.varTypes Try.prog) (ds ++ gs)).all (· ≤ reachBytes) = true := hsz0
  clear hsz0
  have hval : ∀ (j : Nat) t v, Try.f6.params[j]? = some t → args[j]? = some v → Value.okWide Try.prog W .any base t v := hval0
  have hW' := hW
  obtain ⟨p, q, hA0, hV, rfl, hfz, hnd⟩ := hW
  have hA : DataW.TrodAll enc Try.prog W 0 (fun _ => true) true Try.f6.params.toList args.toList ds p := hA0
  rw [Try.params6] at hA hval hsz
  obtain ⟨v0, vs0, d0, ds0, p0, q0, hargs, rfl, rfl, h0, r0⟩ := trodAll_cons hA
  obtain ⟨v1, vs1, d1, ds1, p1, q1, rfl, rfl, rfl, h1, r1⟩ := trodAll_cons r0
  obtain ⟨v2, vs2, d2, ds2, p2, q2, rfl, rfl, rfl, h2, r2⟩ := trodAll_cons r1
  obtain ⟨rfl, rfl, rfl⟩ := trodAll_nil r2
  obtain rfl : args = #[v0, v1, v2] := by cases args; simp_all
  obtain ⟨rfl, rfl⟩ := trodVars_none hV
  have k0 := h0
  have lt0 : ∀ x ∈ p0, x.block < W.heap.size := by obtain ⟨m, hm⟩ := k0; exact DataW.trod_lt m _ _ _ hm
  have w0 := arg_pairs (hval 0 41 v0 rfl rfl) h0 (light_arg (j := 0) hsz rfl rfl)
  obtain ⟨a1, rfl, rfl, rfl, w1⟩ := ChangeMaps.open_string Try.underlying9 (hval 1 9 v1 rfl rfl) h1
  have z1 : a1.size ≤ 140737488351232 := by have := sized_string hsz (j := 1) rfl rfl; unfold reachBytes at this; rw [Lib.size_eq]; omega
  obtain ⟨a2, rfl, rfl, rfl, w2⟩ := ChangeMaps.open_string Try.underlying9 (hval 2 9 v2 rfl rfl) h2
  have z2 : a2.size ≤ 140737488351232 := by have := sized_string hsz (j := 2) rfl rfl; unfold reachBytes at this; rw [Lib.size_eq]; omega
  clear hA0 hval0
  refine (walk v0 a1 a2 W w0 z1 z2).mono fun e W' ⟨he, bel⟩ => ?_
  subst he
  exact ⟨_, rfl, _, _, _, [], _, [], hW', trodAll_mk1 (shut_bool Try.underlying4 _), (trodAll_cons_mk (Below.trod laidOut (by kernel_rfl) (of_decide_eq_true (by kernel_rfl)) k0 bel lt0) (trodAll_cons_mk (ChangeMaps.shut_string Try.underlying9 w1) (trodAll_cons_mk (ChangeMaps.shut_string Try.underlying9 w2) trodAll_mk0))), rfl, bel.frame _, fun h => by cases h⟩

theorem over : Rows.kindBelowRow.holds Try.pinned (OpenSpec.ofChange Rows.kindBelowSpec) :=
  OpenClaim.holds_of_wide 6 Try.f6 rfl rfl rfl rfl rfl rfl rfl ⟨rfl, rfl, rfl, rfl, rfl⟩ rfl rfl rfl rfl rfl (by kernel_rfl) Try.func6 (by kernel_rfl)
    (of_decide_eq_true (by kernel_rfl)) (by unfold Func.isWrapper; first | (rw [if_pos (by decide +kernel)]; kernel_rfl) | (rw [if_neg (by decide +kernel)]; exact ⟨rfl, rfl⟩))
    (fun os started H enc _ => lifted os started H enc)

theorem proved : Rows.KindBelowSaid := over
#print axioms proved
end Go.Proofs.Ytcmceabkadgfiaa.kindBelow
