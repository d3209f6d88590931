/- PROVED: the law KindAssigns: whether any type may stand where any is asked, in any tree, the program answers as the document; the arguments read as before. For every input. No condition. -/
import Derived.Test.YtcmceabkadgfiaaKndZ
import Derived.Test.YtcmceabkadgfiaaKndN
import Derived.Test.YtcmceabkadgfiaaKndK
import Derived.Test.YtcmceabkadgfiaaKndY
import Derived.ProofKit
import Derived.ShutString
import Derived.ChangeOld
import Derived.Below
import Derived.SizedLaws
import Derived.PinnedBridge
import Derived.Deep.CondSized
import Derived.Deep.RegionHeld3
namespace Go.Proofs.Ytcmceabkadgfiaa.kindAssigns
open Go.ChangeShapes Go.WideShapes Go.ChangeAt Go.RowKit
set_option linter.unusedVariables false
set_option linter.unusedSimpArgs false

set_option maxHeartbeats 8000000 in
set_option maxRecDepth 100000 in
theorem walk (v va vb : Value) (w : World) (hp : ∃ l, Pairs w v l ∧ NamesR l ∧ l.length ≤ 4398046511104) (ha : ∃ t, va = valT t ∧ TypeR t) (hb : ∃ t, vb = valT t ∧ TypeR t) :
    Calls Try.prog 7 #[v, va, vb] w fun e w' => e = .returned (.bool true) ∧ Below w.heap.size w w' := by
  obtain ⟨l, hp, hn, hl⟩ := hp
  obtain ⟨a, rfl, ha⟩ := ha
  obtain ⟨b, rfl, hb⟩ := hb
  obtain ⟨ao, cap, rfl, p1, p2, p3, -⟩ := id hp
  have ha' : a.name.size ≤ maxLen := by unfold maxLen; have := ha.2.2.2.2; omega
  have hoa := (Only.refl (fun _ => False) w).alloc (.cells #[.int .i64 a.k, .string a.name, .int .i64 a.dims, .int .i64 a.elem, .int .i64 a.at_] 23)
  have hob := hoa.alloc (.cells #[.int .i64 b.k, .string b.name, .int .i64 b.dims, .int .i64 b.elem, .int .i64 b.at_] 23)
  obtain ⟨q0, q1, q2, q3, q4⟩ := cells5T (((Only.refl (fun _ => False) _).alloc (.cells #[.int .i64 b.k, .string b.name, .int .i64 b.dims, .int .i64 b.elem, .int .i64 b.at_] 23)).heap (heap_alloc_new w (.cells #[.int .i64 a.k, .string a.name, .int .i64 a.dims, .int .i64 a.elem, .int .i64 a.at_] 23)) (fun h => h))
  obtain ⟨r0, r1, r2, r3, r4⟩ := cells5T (box2T (w := w) (c := #[.int .i64 a.k, .string a.name, .int .i64 a.dims, .int .i64 a.elem, .int .i64 a.at_]) (d := #[.int .i64 b.k, .string b.name, .int .i64 b.dims, .int .i64 b.elem, .int .i64 b.at_]) (s := 23) (t := 23))
  have CT : Hid (∀ W, Only (fun _ => False) w W → _) := Lib.hid (fun W ho => lawTree _ l W (hp.only ho) hl)
  have CP : Hid (∀ W v', Pairs W v' l → _) := Lib.hid (fun W v' h => progAssign v' l a b W h (by omega) hn ha')
  have CR : Hid (∀ W, Only (fun _ => False) w W → _) := Lib.hid (fun W ho => refAssign _ l a b W (hp.only ho) (by omega))
  have CA := Lib.hid awake8
  have HOB := Lib.hid hob
  generalize assignZ l a b = z at *
  have hzz : (z == z) = true := by simp
  unfold valT at CP CR ⊢
  clear hp hn ha' ha hb p3 hoa
  go_enter Try.func7, Try.ntmps7
  go_wp2
  go_region_held3 (fun W => (W.cell? ⟨w.heap.size, 0, none⟩ = some (.int .i64 a.k) ∧ W.cell? ⟨w.heap.size, 1, none⟩ = some (.string a.name) ∧ W.cell? ⟨w.heap.size, 2, none⟩ = some (.int .i64 a.dims) ∧ W.cell? ⟨w.heap.size, 3, none⟩ = some (.int .i64 a.elem) ∧ W.cell? ⟨w.heap.size, 4, none⟩ = some (.int .i64 a.at_) ∧ W.cell? ⟨w.heap.size + 1, 0, none⟩ = some (.int .i64 b.k) ∧ W.cell? ⟨w.heap.size + 1, 1, none⟩ = some (.string b.name) ∧ W.cell? ⟨w.heap.size + 1, 2, none⟩ = some (.int .i64 b.dims) ∧ W.cell? ⟨w.heap.size + 1, 3, none⟩ = some (.int .i64 b.elem) ∧ W.cell? ⟨w.heap.size + 1, 4, none⟩ = some (.int .i64 b.at_)) ∧ Only (fun _ => False) w W)
    (first | exact ⟨⟨q0, q1, q2, q3, q4, r0, r1, r2, r3, r4⟩, hob⟩ | exact ⟨⟨q0, q1, q2, q3, q4, r0, r1, r2, r3, r4⟩, hob.drew⟩ | exact hkp)
    (first
      | (go_at_call 22; refine (CT.out _ (onlyS10 (by assumption))).mono ?_; rintro e w1 ⟨vt, rfl, hpt, hot⟩; have hkp := keepS10 hot (by assumption))
      | (go_at_call 24; refine (CP.out _ _ (by first | exact hpt | exact hpt.only hor)).mono ?_; rintro e w2 ⟨rfl, hop⟩; have hkp := keepS10 hop (by assumption))
      | (go_at_call 25; refine (CR.out _ (onlyS10 (by assumption))).mono ?_; rintro e w3 ⟨rfl, hor⟩; have hkp := keepS10 hor (by assumption))
      | (go_at_call 13; refine (CA.out _).mono ?_; rintro e w4 ⟨rfl, hoa⟩; have hkp := keepS10 hoa (by assumption)))
  all_goals
    go_wp2
    go_ret
    exact ⟨rfl, Only.none (onlyS10 (by assumption))⟩

theorem own : ownKnob Try.prog.godebug = none := by kernel_rfl
theorem laidOut : laidOutB Try.prog = true := by kernel_rfl

set_option maxRecDepth 100000 in
theorem lifted (os : Os) (started : os.Started) (H : Type) (enc : TypeId × Value → H) :
    ReturnsInHanded {} Try.checked os 7 .any (Rows.kindAssignsSpec.pre6 enc Try.prog Try.f7 Rows.kindAssignsRow.domain false) (Rows.kindAssignsSpec.post enc Try.prog Try.f7 false true false false) := by
  refine returnsInHanded_of_change_sized (C := Try.checked) own started (by kernel_rfl) Try.func7
    (ChangeSpec.witness6 (enc := enc) (C := Try.checked) false ⟨#[], #[.slice none 0 0, .agg #[.int .i64 0, .string ⟨#[]⟩, .int .i64 0, .int .i64 0, .int .i64 0], .agg #[.int .i64 0, .string ⟨#[]⟩, .int .i64 0, .int .i64 0, .int .i64 0]], []⟩ 8 (by kernel_rfl) (by kernel_rfl) (by kernel_rfl) (by kernel_rfl)) ?_
  intro W base args ds gs before hval0 hW hcnd hsz0 _
  have hsz : (DataW.weightsEach Try.prog (Try.f7.params.toList ++ Rows.kindAssignsSpec.plain.varTypes Try.prog) (ds ++ gs)).all (· ≤ reachBytes) = true := hsz0
  clear hsz0
  have hval : ∀ (j : Nat) t v, Try.f7.params[j]? = some t → args[j]? = some v → Value.okWide Try.prog W .any base t v := hval0
  have hW' := hW
  obtain ⟨p, q, hA0, hV, rfl, hfz, hnd⟩ := hW
  have hA : DataW.TrodAll enc Try.prog W 0 (fun _ => true) true Try.f7.params.toList args.toList ds p := hA0
  rw [Try.params7] at hA hval hsz
  obtain ⟨v0, vs0, d0, ds0, p0, q0, hargs, rfl, rfl, h0, r0⟩ := trodAll_cons hA
  obtain ⟨v1, vs1, d1, ds1, p1, q1, rfl, rfl, rfl, h1, r1⟩ := trodAll_cons r0
  obtain ⟨v2, vs2, d2, ds2, p2, q2, rfl, rfl, rfl, h2, r2⟩ := trodAll_cons r1
  obtain ⟨rfl, rfl, rfl⟩ := trodAll_nil r2
  obtain rfl : args = #[v0, v1, v2] := by cases args; simp_all
  obtain ⟨rfl, rfl⟩ := trodVars_none hV
  have k0 := h0
  have lt0 : ∀ x ∈ p0, x.block < W.heap.size := by obtain ⟨m, hm⟩ := k0; exact DataW.trod_lt m _ _ _ hm
  have w0 := arg_pairs (hval 0 41 v0 rfl rfl) h0 (light_arg (j := 0) hsz rfl rfl)
  have k1 := h1
  have lt1 : ∀ x ∈ p1, x.block < W.heap.size := by obtain ⟨m, hm⟩ := k1; exact DataW.trod_lt m _ _ _ hm
  have w1 := arg_type8 (hval 1 23 v1 rfl rfl) h1 (light_arg (j := 1) hsz rfl rfl)
  have k2 := h2
  have lt2 : ∀ x ∈ p2, x.block < W.heap.size := by obtain ⟨m, hm⟩ := k2; exact DataW.trod_lt m _ _ _ hm
  have w2 := arg_type8 (hval 2 23 v2 rfl rfl) h2 (light_arg (j := 2) hsz rfl rfl)
  clear hA0 hval0
  refine (walk v0 v1 v2 W w0 w1 w2).mono fun e W' ⟨he, bel⟩ => ?_
  subst he
  exact ⟨_, rfl, _, _, _, [], _, [], hW', trodAll_mk1 (shut_bool Try.underlying4 _), (trodAll_cons_mk (Below.trod laidOut (by kernel_rfl) (of_decide_eq_true (by kernel_rfl)) k0 bel lt0) (trodAll_cons_mk (Below.trod laidOut (by kernel_rfl) (of_decide_eq_true (by kernel_rfl)) k1 bel lt1) (trodAll_cons_mk (Below.trod laidOut (by kernel_rfl) (of_decide_eq_true (by kernel_rfl)) k2 bel lt2) trodAll_mk0))), rfl, bel.frame _, fun h => by cases h⟩

theorem over : Rows.kindAssignsRow.holds Try.pinned (OpenSpec.ofChange Rows.kindAssignsSpec) :=
  OpenClaim.holds_of_wide 7 Try.f7 rfl rfl rfl rfl rfl rfl rfl ⟨rfl, rfl, rfl, rfl, rfl⟩ rfl rfl rfl rfl rfl (by kernel_rfl) Try.func7 (by kernel_rfl)
    (of_decide_eq_true (by kernel_rfl)) (by unfold Func.isWrapper; first | (rw [if_pos (by decide +kernel)]; kernel_rfl) | (rw [if_neg (by decide +kernel)]; exact ⟨rfl, rfl⟩))
    (fun os started H enc _ => lifted os started H enc)

theorem proved : Rows.KindAssignsSaid := over
#print axioms proved
end Go.Proofs.Ytcmceabkadgfiaa.kindAssigns
