/- PROVED: the law KindBack: a descriptor that is right is its type's text, and a type's text is read back; the arguments read as before. For every input. No condition. -/
import Derived.Test.YtcmceabkadgfiaaKndX
import Derived.Test.YtcmceabkadgfiaaKndN
import Derived.Test.YtcmceabkadgfiaaKndK
import Derived.Test.YtcmceabkadgfiaaKndY
import Derived.ProofKit
import Derived.ShutString
import Derived.ChangeOld
import Derived.Below
import Derived.SizedLaws
import Derived.PinnedBridge
import Derived.Deep.CondSized
import Derived.Deep.RegionHeld3
namespace Go.Proofs.Ytcmceabkadgfiaa.kindBack
open Go.ChangeShapes Go.WideShapes Go.ChangeAt Go.RowKit
set_option linter.unusedVariables false
set_option linter.unusedSimpArgs false

theorem back_bad {s : ByteArray} {t : TypeV} (h : oneZ8 (nums s) = some t) : (textZ8 t).toList = s.toList := by rw [one_text h]
set_option maxHeartbeats 8000000 in
set_option maxRecDepth 100000 in
theorem walk (s : ByteArray) (va : Value) (w : World) (hs : s.size ≤ 140737488351232) (ha : ∃ t, va = valT t ∧ TypeR t) :
    Calls Try.prog 8 #[.string s, va] w fun e w' => e = .returned (.bool true) ∧ Below w.heap.size w w' := by
  obtain ⟨a, rfl, ha⟩ := ha
  have hoa := (Only.refl (fun _ => False) w).alloc (.cells #[.int .i64 a.k, .string a.name, .int .i64 a.dims, .int .i64 a.elem, .int .i64 a.at_] 23)
  have hba := heap_alloc_new w (.cells #[.int .i64 a.k, .string a.name, .int .i64 a.dims, .int .i64 a.elem, .int .i64 a.at_] 23)
  have c1 := fun w => progField s w (by omega)
  have g1 := guard_type
  have CA := Lib.hid awake8
  have HOA := Lib.hid hoa
  have HBA := Lib.hid hba
  have HA := Lib.hid ha
  have hle := toList_empty
  have hlv := lit_V
  clear ha hoa hba
  -- the second half, from any world in which the type's box stands
  have half : ∀ (W : World), Only (fun _ => False) w W → True := fun _ _ => trivial
  have c3 := fun w => progText a w HA.out.2.2.2.2
  obtain ⟨o, ho⟩ : ∃ o, oneZ8 (nums s) = o := ⟨_, rfl⟩
  rw [ho] at c1
  unfold OneTo at c1
  have hz : ∀ t, o = some t → (textZ8 t = s ∧ t.name.size ≤ 140737488351232) := by
    intro t e
    subst e
    refine ⟨one_text ho, ?_⟩
    have h1 := one_text ho
    unfold oneZ8 at ho
    cases hf : fieldZ (nums s) with
    | none => rw [hf] at ho; cases ho
    | some q =>
      obtain ⟨u, r⟩ := q
      rw [hf] at ho
      cases r with
      | cons c r => cases ho
      | nil =>
        cases ho
        obtain ⟨_, d, k, nm, hd, hk, rfl⟩ := field_text (nums_byte s) hf
        have hnm : (arrT d k nm).name = nm := by unfold arrT; split <;> rfl
        rw [hnm]
        rcases hk with ⟨_, rfl⟩ | ⟨_, rfl⟩ | ⟨_, hp⟩
        · exact Nat.zero_le _
        · exact Nat.zero_le _
        · unfold plainN at hp
          simp only [Bool.and_eq_true, decide_eq_true_eq, nums_len] at hp
          omega
  have HZ := Lib.hid hz
  clear hz ho half
  obtain ⟨z, hzt⟩ : ∃ z, textZ8 a = z := ⟨_, rfl⟩
  rw [hzt] at c3
  have hzs : z.size ≤ 281474976710656 := by
    have h1 := spell_size a
    have h2 := HA.out.2.2.2.2
    rw [← hzt, text_spell]
    split
    · omega
    · exact Nat.zero_le _
  have hone : z ≠ ⟨#[]⟩ → z ≠ ⟨#[86]⟩ → oneZ8 (nums z) = some a := by
    intro h1 h2
    rw [← hzt] at h1 h2 ⊢
    exact text_one h1 h2
  have c4 := fun w => progField z w hzs
  unfold OneTo at c4
  have HONE := Lib.hid hone
  clear hzt hone hzs
  unfold valT at c3 ⊢
  have C1 := Lib.hid c1
  have C3 := Lib.hid c3
  have C4 := Lib.hid c4
  clear c1 c3 c4
  cases o with
  | none =>
    have c1 := fun w => C1.out w
    unfold typO errO zeroT valT at c1
    simp only at c1
    clear C1
    have C1 := Lib.hid c1
    clear c1
    go_enter Try.func8, Try.ntmps8
    go_wp2_with (fail)
    refine (C1.out _).mono ?_
    rintro e w1 ⟨rfl, ho1⟩
    have hal1 := (Only.refl (fun _ => False) w1).alloc (.cells #[.int .i64 0, .string ⟨#[]⟩, .int .i64 0, .int .i64 0, .int .i64 0] 23)
    have HBW := Lib.hid (hal1.heap (ho1.heap HBA.out (fun h => h)) (fun h => h))
    have HOW := Lib.hid ((HOA.out.trans ho1 (fun _ h _ => h)).trans hal1 (fun _ h _ => h))
    clear ho1 hal1
    obtain ⟨q0, q1, q2, q3, q4⟩ := cells5T HBW.out
    clear q0 q1 q2 q3 q4
    obtain ⟨q0, q1, q2, q3, q4⟩ := cells5T HBW.out
    go_wp2_with (fail)
    refine (C3.out _).mono ?_
    rintro e w5 ⟨rfl, ho5⟩
    have HO5 := Lib.hid (HOW.out.trans ho5 (fun _ h _ => h))
    have HB5 := Lib.hid (ho5.heap HBW.out (fun h => h))
    clear ho5 q0 q1 q2 q3 q4
    by_cases hz0 : z = ⟨#[]⟩
    · subst hz0
      go_wp2_with (fail)
      refine (CA.out _).mono ?_
      rintro e w6 ⟨rfl, ho6⟩
      have HO6 := Lib.hid (HO5.out.trans ho6 (fun _ h _ => h))
      clear ho6
      go_wp2
      go_ret
      exact ⟨rfl, HO6.out.none⟩
    · by_cases hz8 : z = ⟨#[86]⟩
      · subst hz8
        go_wp2_with (fail)
        refine (CA.out _).mono ?_
        rintro e w6 ⟨rfl, ho6⟩
        have HO6 := Lib.hid (HO5.out.trans ho6 (fun _ h _ => h))
        clear ho6
        go_wp2
        go_ret
        exact ⟨rfl, HO6.out.none⟩
      · obtain ⟨e1, e2⟩ := toList_ne hz0
        obtain ⟨f1, f2⟩ := toList_ne_of (s := z) (t := ⟨#[86]⟩) (fun e => hz8 (nums_inj e))
        rw [hlv] at f1 f2
        have c4 := fun w => C4.out w
        rw [HONE.out hz0 hz8] at c4
        unfold typO errO valT at c4
        simp only at c4
        have C5 := Lib.hid c4
        have eq1 := fun w => eql_type a a w
        rw [eqT_self] at eq1
        unfold valT at eq1
        clear c4 hz0 hz8
        go_wp2_with (fail)
        refine (C5.out _).mono ?_
        rintro e w6 ⟨rfl, ho6⟩
        have hal6 := (Only.refl (fun _ => False) w6).alloc (.cells #[.int .i64 a.k, .string a.name, .int .i64 a.dims, .int .i64 a.elem, .int .i64 a.at_] 23)
        have hb6 := heap_alloc_new w6 (.cells #[.int .i64 a.k, .string a.name, .int .i64 a.dims, .int .i64 a.elem, .int .i64 a.at_] 23)
        have hb5 := hal6.heap (ho6.heap HB5.out (fun h => h)) (fun h => h)
        obtain ⟨q0, q1, q2, q3, q4⟩ := cells5T hb5
        obtain ⟨r0, r1, r2, r3, r4⟩ := cells5T hb6
        have HO6 := Lib.hid ((HO5.out.trans ho6 (fun _ h _ => h)).trans hal6 (fun _ h _ => h))
        clear ho6 hal6 hb5 hb6
        go_wp2_with (fail)
        refine (CA.out _).mono ?_
        rintro e w7 ⟨rfl, ho7⟩
        have HO7 := Lib.hid (HO6.out.trans ho7 (fun _ h _ => h))
        clear ho7
        go_wp2
        go_ret
        exact ⟨rfl, HO7.out.none⟩
  | some t =>
    have c1 := fun w => C1.out w
    unfold typO errO valT at c1
    simp only at c1
    clear C1
    have C1 := Lib.hid c1
    clear c1
    go_enter Try.func8, Try.ntmps8
    go_wp2_with (fail)
    refine (C1.out _).mono ?_
    rintro e w1 ⟨rfl, ho1⟩
    obtain ⟨hts, htn⟩ := HZ.out t rfl
    have c2 := fun w => progText t w htn
    rw [hts] at c2
    unfold valT at c2
    have C2 := Lib.hid c2
    have hss : (s.toList == s.toList) = true := by simp
    have hal1 := (Only.refl (fun _ => False) w1).alloc (.cells #[.int .i64 t.k, .string t.name, .int .i64 t.dims, .int .i64 t.elem, .int .i64 t.at_] 23)
    have hb1 := heap_alloc_new w1 (.cells #[.int .i64 t.k, .string t.name, .int .i64 t.dims, .int .i64 t.elem, .int .i64 t.at_] 23)
    have HB1 := Lib.hid (hal1.heap (ho1.heap HBA.out (fun h => h)) (fun h => h))
    have HO1 := Lib.hid ((HOA.out.trans ho1 (fun _ h _ => h)).trans hal1 (fun _ h _ => h))
    obtain ⟨q0, q1, q2, q3, q4⟩ := cells5T hb1
    clear ho1 hal1 hb1 c2 hts htn
    go_wp2_with (fail)
    refine (C2.out _).mono ?_
    rintro e w2 ⟨rfl, ho2⟩
    have HBW := Lib.hid (ho2.heap HB1.out (fun h => h))
    have HOW := Lib.hid (HO1.out.trans ho2 (fun _ h _ => h))
    clear ho2
    clear q0 q1 q2 q3 q4
    obtain ⟨q0, q1, q2, q3, q4⟩ := cells5T HBW.out
    go_wp2_with (fail)
    refine (C3.out _).mono ?_
    rintro e w5 ⟨rfl, ho5⟩
    have HO5 := Lib.hid (HOW.out.trans ho5 (fun _ h _ => h))
    have HB5 := Lib.hid (ho5.heap HBW.out (fun h => h))
    clear ho5 q0 q1 q2 q3 q4
    by_cases hz0 : z = ⟨#[]⟩
    · subst hz0
      go_wp2_with (fail)
      refine (CA.out _).mono ?_
      rintro e w6 ⟨rfl, ho6⟩
      have HO6 := Lib.hid (HO5.out.trans ho6 (fun _ h _ => h))
      clear ho6
      go_wp2
      go_ret
      exact ⟨rfl, HO6.out.none⟩
    · by_cases hz8 : z = ⟨#[86]⟩
      · subst hz8
        go_wp2_with (fail)
        refine (CA.out _).mono ?_
        rintro e w6 ⟨rfl, ho6⟩
        have HO6 := Lib.hid (HO5.out.trans ho6 (fun _ h _ => h))
        clear ho6
        go_wp2
        go_ret
        exact ⟨rfl, HO6.out.none⟩
      · obtain ⟨e1, e2⟩ := toList_ne hz0
        obtain ⟨f1, f2⟩ := toList_ne_of (s := z) (t := ⟨#[86]⟩) (fun e => hz8 (nums_inj e))
        rw [hlv] at f1 f2
        have c4 := fun w => C4.out w
        rw [HONE.out hz0 hz8] at c4
        unfold typO errO valT at c4
        simp only at c4
        have C5 := Lib.hid c4
        have eq1 := fun w => eql_type a a w
        rw [eqT_self] at eq1
        unfold valT at eq1
        clear c4 hz0 hz8
        go_wp2_with (fail)
        refine (C5.out _).mono ?_
        rintro e w6 ⟨rfl, ho6⟩
        have hal6 := (Only.refl (fun _ => False) w6).alloc (.cells #[.int .i64 a.k, .string a.name, .int .i64 a.dims, .int .i64 a.elem, .int .i64 a.at_] 23)
        have hb6 := heap_alloc_new w6 (.cells #[.int .i64 a.k, .string a.name, .int .i64 a.dims, .int .i64 a.elem, .int .i64 a.at_] 23)
        have hb5 := hal6.heap (ho6.heap HB5.out (fun h => h)) (fun h => h)
        obtain ⟨q0, q1, q2, q3, q4⟩ := cells5T hb5
        obtain ⟨r0, r1, r2, r3, r4⟩ := cells5T hb6
        have HO6 := Lib.hid ((HO5.out.trans ho6 (fun _ h _ => h)).trans hal6 (fun _ h _ => h))
        clear ho6 hal6 hb5 hb6
        go_wp2_with (fail)
        refine (CA.out _).mono ?_
        rintro e w7 ⟨rfl, ho7⟩
        have HO7 := Lib.hid (HO6.out.trans ho7 (fun _ h _ => h))
        clear ho7
        go_wp2
        go_ret
        exact ⟨rfl, HO7.out.none⟩

theorem own : ownKnob Try.prog.godebug = none := by kernel_rfl
theorem laidOut : laidOutB Try.prog = true := by kernel_rfl

set_option maxRecDepth 100000 in
theorem lifted (os : Os) (started : os.Started) (H : Type) (enc : TypeId × Value → H) :
    ReturnsInHanded {} Try.checked os 8 .any (Rows.kindBackSpec.pre6 enc Try.prog Try.f8 Rows.kindBackRow.domain false) (Rows.kindBackSpec.post enc Try.prog Try.f8 false true false false) := by
  refine returnsInHanded_of_change_sized (C := Try.checked) own started (by kernel_rfl) Try.func8
    (ChangeSpec.witness6 (enc := enc) (C := Try.checked) false ⟨#[], #[.string ⟨#[]⟩, .agg #[.int .i64 0, .string ⟨#[]⟩, .int .i64 0, .int .i64 0, .int .i64 0]], []⟩ 8 (by kernel_rfl) (by kernel_rfl) (by kernel_rfl) (by kernel_rfl)) ?_
  intro W base args ds gs before hval0 hW hcnd hsz0 _
  have hsz : (DataW.weightsEach Try.prog (Try.f8.params.toList ++ Rows.kindBackSpec.plain.varTypes Try.prog) (ds ++ gs)).all (· ≤ reachBytes) = true := hsz0
  clear hsz0
  have hval : ∀ (j : Nat) t v, Try.f8.params[j]? = some t → args[j]? = some v → Value.okWide Try.prog W .any base t v := hval0
  have hW' := hW
  obtain ⟨p, q, hA0, hV, rfl, hfz, hnd⟩ := hW
  have hA : DataW.TrodAll enc Try.prog W 0 (fun _ => true) true Try.f8.params.toList args.toList ds p := hA0
  rw [Try.params8] at hA hval hsz
  obtain ⟨v0, vs0, d0, ds0, p0, q0, hargs, rfl, rfl, h0, r0⟩ := trodAll_cons hA
  obtain ⟨v1, vs1, d1, ds1, p1, q1, rfl, rfl, rfl, h1, r1⟩ := trodAll_cons r0
  obtain ⟨rfl, rfl, rfl⟩ := trodAll_nil r1
  obtain rfl : args = #[v0, v1] := by cases args; simp_all
  obtain ⟨rfl, rfl⟩ := trodVars_none hV
  obtain ⟨a0, rfl, rfl, rfl, w0⟩ := ChangeMaps.open_string Try.underlying9 (hval 0 9 v0 rfl rfl) h0
  have z0 : a0.size ≤ 140737488351232 := by have := sized_string hsz (j := 0) rfl rfl; unfold reachBytes at this; rw [Lib.size_eq]; omega
  have k1 := h1
  have lt1 : ∀ x ∈ p1, x.block < W.heap.size := by obtain ⟨m, hm⟩ := k1; exact DataW.trod_lt m _ _ _ hm
  have w1 := arg_type8 (hval 1 23 v1 rfl rfl) h1 (light_arg (j := 1) hsz rfl rfl)
  clear hA0 hval0
  refine (walk a0 v1 W z0 w1).mono fun e W' ⟨he, bel⟩ => ?_
  subst he
  exact ⟨_, rfl, _, _, _, [], _, [], hW', trodAll_mk1 (shut_bool Try.underlying4 _), (trodAll_cons_mk (ChangeMaps.shut_string Try.underlying9 w0) (trodAll_cons_mk (Below.trod laidOut (by kernel_rfl) (of_decide_eq_true (by kernel_rfl)) k1 bel lt1) trodAll_mk0)), rfl, bel.frame _, fun h => by cases h⟩

theorem over : Rows.kindBackRow.holds Try.pinned (OpenSpec.ofChange Rows.kindBackSpec) :=
  OpenClaim.holds_of_wide 8 Try.f8 rfl rfl rfl rfl rfl rfl rfl ⟨rfl, rfl, rfl, rfl, rfl⟩ rfl rfl rfl rfl rfl (by kernel_rfl) Try.func8 (by kernel_rfl)
    (of_decide_eq_true (by kernel_rfl)) (by unfold Func.isWrapper; first | (rw [if_pos (by decide +kernel)]; kernel_rfl) | (rw [if_neg (by decide +kernel)]; exact ⟨rfl, rfl⟩))
    (fun os started H enc _ => lifted os started H enc)

theorem proved : Rows.KindBackSaid := over
#print axioms proved
end Go.Proofs.Ytcmceabkadgfiaa.kindBack
