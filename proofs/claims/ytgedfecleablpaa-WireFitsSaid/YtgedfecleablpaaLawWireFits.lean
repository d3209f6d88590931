/- PROVED: the law WireFits: a number without a sign is taken in n bytes just if it has no more bits, one with a sign just if its range is kept; else the answer is ErrArg. For every uint8, uint64, int64. No condition. -/
import Derived.Test.YtgedfecleablpaaWireE
import Derived.ProofKit
import Derived.ShutString
import Derived.ChangeOld
import Derived.Below
namespace Go.Proofs.Ytgedfecleablpaa.wireFits
open Go.ChangeShapes Go.WideShapes Go.ChangeAt Go.RowKit
set_option linter.unusedVariables false

theorem own : ownKnob Try.prog.godebug = none := by kernel_rfl
theorem laidOut : laidOutB Try.prog = true := by kernel_rfl


def errOf (b : Bool) : Int := if b then 0 else 1
theorem errOf_true : errOf true = 0 := rfl
theorem errOf_false : errOf false = 1 := rfl
theorem err_is (b : Bool) (k : Nat) (h8 : k ≤ 8) (l : Nat) (hl : l ≤ 16) : wrErr b k (((100 : Nat) : Int) - l) = errOf b := by
  unfold wrErr errOf
  cases b
  · rfl
  · rw [if_neg (by simp), if_neg (by omega)]; rfl
theorem addU_length (b : Bool) (k : Nat) (h8 : k ≤ 8) (x room : Int) : (addU b k x room).length ≤ 8 := by
  unfold addU
  split
  · rw [digs_length]; omega
  · simp

theorem fits_below {w w1 w2 : World} {o : Obj} {sv1 : Value} (ho1 : Only (WrS w.heap.size (.slice none 0 0)) (w.alloc o) w1)
    (hs1 : ∀ k, sv1.ownBlock = some k → (Value.slice none 0 0).ownBlock = some k ∨ (w.alloc o).heap.size ≤ k) (ho2 : Only (WrS w.heap.size sv1) w1 w2) : Below w.heap.size w w2 := by
  have h0 : Below w.heap.size w (w.alloc o) := (Below.refl _ _).alloc (Nat.le_refl _) _
  have h1 : Below w.heap.size (w.alloc o) w1 := ho1.below (by simp) (fun i hi => by
    rcases hi with rfl | hi
    · exact Nat.le_refl _
    · simp [Value.ownBlock] at hi)
  have h2 : Below w.heap.size w1 w2 := ho2.below (by have := ho1.size; simp at this; omega) (fun i hi => by
    rcases hi with rfl | hi
    · exact Nat.le_refl _
    · rcases hs1 i hi with h | h
      · simp [Value.ownBlock] at h
      · simp at h; omega)
  exact (h0.trans h1).trans h2

set_option maxHeartbeats 8000000 in
set_option maxRecDepth 100000 in
theorem walk_false_false (a0 a1 a2 : Int) (w : World) (b0 : 0 ≤ a0 ∧ a0 ≤ 255) (b1 : 0 ≤ a1 ∧ a1 ≤ 18446744073709551615) (b2 : -9223372036854775808 ≤ a2 ∧ a2 ≤ 9223372036854775807)
    (k : Nat) (kk : Int) (hk : a0 % 8 = kk - 1) (hkk : kk = k) (h1 : 1 ≤ k) (h8 : k ≤ 8) (hfu : fitU kk a1 = false) (hfi : fitI kk a2 = false) :
    Calls Try.prog 6 #[.int .u8 a0, .int .u64 a1, .int .i64 a2] w fun e w' => e = .returned (.bool true) ∧ Below w.heap.size w w' := by
  have hu := fitU_iff k h1 h8 a1 b1.1
  have hs := fitI_iff k h1 h8 a2
  have hw0 := Wr.new w 100 (by omega)
  have HR := Lib.hid (fun (b : Bool) (l : Nat) (hl : l ≤ 16) => err_is b k h8 l hl)
  have HL := Lib.hid (fun (b : Bool) (x room : Int) => addU_length b k h8 x room)
  rw [← hkk] at hu hs HR HL
  rw [hfu] at hu
  rw [hfi] at hs
  have E1 := Lib.hid (fun (l : Nat) (hl : l ≤ 16) => (congrArg (fun b => wrErr b kk (((100 : Nat) : Int) - l)) hfu).trans (HR.out _ l hl))
  have E2 := Lib.hid (fun (l : Nat) (hl : l ≤ 16) => (congrArg (fun b => wrErr b kk (((100 : Nat) : Int) - l)) hfi).trans (HR.out _ l hl))
  clear hfu hfi
  rcases width_cases h1 h8 with rfl | rfl | rfl | rfl | rfl | rfl | rfl | rfl
  all_goals
    simp only [Nat.reduceMul, Nat.reduceSub, Int.reducePow, Int.reduceNeg] at hu hs
    have c1 := of_decide_eq_false hu.symm
    have c2 := of_decide_eq_false hs.symm
    clear hu hs h1 h8
    simp at hkk
    subst hkk
    simp only [Int.reduceSub] at hk
    try (exfalso; omega)
  all_goals
    go_enter Try.func6, Try.ntmps6
    go_wp2_with (first | (go_at_call 18; refine (newWriterOk 100 _ (by omega)).mono ?_; rintro e w' ⟨rfl, rfl⟩))
    refine (wrUint w.heap.size (.slice none 0 0) 100 [] _ a1 _ (by exact hw0)).mono ?_
    rintro e w1 ⟨rfl, hto1⟩
    rw [E1.out _ (by simp), errOf_false]
    obtain ⟨sv1, hw1, ho1, hs1⟩ := hto1
    go_wp2_with fail
    refine (wrInt w.heap.size sv1 100 _ _ a2 _ hw1).mono ?_
    rintro e w2 ⟨rfl, hto2⟩
    rw [E2.out _ (by rw [List.nil_append]; exact Nat.le_trans (HL.out _ _ _) (by omega)), errOf_false]
    obtain ⟨sv2, hw2, ho2, hs2⟩ := hto2
    have hbel := fits_below ho1 hs1 ho2
    clear HR HL E1 E2 hw0 hw1 hw2 hs1 hs2 ho1 ho2
    go_wp2
    all_goals go_ret
    all_goals refine ⟨?_, hbel⟩
    all_goals show Ending.returned (.bool _) = _
    all_goals simp
    all_goals omega

set_option maxHeartbeats 8000000 in
set_option maxRecDepth 100000 in
theorem walk_false_true (a0 a1 a2 : Int) (w : World) (b0 : 0 ≤ a0 ∧ a0 ≤ 255) (b1 : 0 ≤ a1 ∧ a1 ≤ 18446744073709551615) (b2 : -9223372036854775808 ≤ a2 ∧ a2 ≤ 9223372036854775807)
    (k : Nat) (kk : Int) (hk : a0 % 8 = kk - 1) (hkk : kk = k) (h1 : 1 ≤ k) (h8 : k ≤ 8) (hfu : fitU kk a1 = false) (hfi : fitI kk a2 = true) :
    Calls Try.prog 6 #[.int .u8 a0, .int .u64 a1, .int .i64 a2] w fun e w' => e = .returned (.bool true) ∧ Below w.heap.size w w' := by
  have hu := fitU_iff k h1 h8 a1 b1.1
  have hs := fitI_iff k h1 h8 a2
  have hw0 := Wr.new w 100 (by omega)
  have HR := Lib.hid (fun (b : Bool) (l : Nat) (hl : l ≤ 16) => err_is b k h8 l hl)
  have HL := Lib.hid (fun (b : Bool) (x room : Int) => addU_length b k h8 x room)
  rw [← hkk] at hu hs HR HL
  rw [hfu] at hu
  rw [hfi] at hs
  have E1 := Lib.hid (fun (l : Nat) (hl : l ≤ 16) => (congrArg (fun b => wrErr b kk (((100 : Nat) : Int) - l)) hfu).trans (HR.out _ l hl))
  have E2 := Lib.hid (fun (l : Nat) (hl : l ≤ 16) => (congrArg (fun b => wrErr b kk (((100 : Nat) : Int) - l)) hfi).trans (HR.out _ l hl))
  clear hfu hfi
  rcases width_cases h1 h8 with rfl | rfl | rfl | rfl | rfl | rfl | rfl | rfl
  all_goals
    simp only [Nat.reduceMul, Nat.reduceSub, Int.reducePow, Int.reduceNeg] at hu hs
    have c1 := of_decide_eq_false hu.symm
    have c2 := of_decide_eq_true hs.symm
    clear hu hs h1 h8
    simp at hkk
    subst hkk
    simp only [Int.reduceSub] at hk
    try (exfalso; omega)
  all_goals
    go_enter Try.func6, Try.ntmps6
    go_wp2_with (first | (go_at_call 18; refine (newWriterOk 100 _ (by omega)).mono ?_; rintro e w' ⟨rfl, rfl⟩))
    refine (wrUint w.heap.size (.slice none 0 0) 100 [] _ a1 _ (by exact hw0)).mono ?_
    rintro e w1 ⟨rfl, hto1⟩
    rw [E1.out _ (by simp), errOf_false]
    obtain ⟨sv1, hw1, ho1, hs1⟩ := hto1
    go_wp2_with fail
    refine (wrInt w.heap.size sv1 100 _ _ a2 _ hw1).mono ?_
    rintro e w2 ⟨rfl, hto2⟩
    rw [E2.out _ (by rw [List.nil_append]; exact Nat.le_trans (HL.out _ _ _) (by omega)), errOf_true]
    obtain ⟨sv2, hw2, ho2, hs2⟩ := hto2
    have hbel := fits_below ho1 hs1 ho2
    clear HR HL E1 E2 hw0 hw1 hw2 hs1 hs2 ho1 ho2
    go_wp2
    all_goals go_ret
    all_goals refine ⟨?_, hbel⟩
    all_goals show Ending.returned (.bool _) = _
    all_goals simp
    all_goals omega

set_option maxHeartbeats 8000000 in
set_option maxRecDepth 100000 in
theorem walk_true_false (a0 a1 a2 : Int) (w : World) (b0 : 0 ≤ a0 ∧ a0 ≤ 255) (b1 : 0 ≤ a1 ∧ a1 ≤ 18446744073709551615) (b2 : -9223372036854775808 ≤ a2 ∧ a2 ≤ 9223372036854775807)
    (k : Nat) (kk : Int) (hk : a0 % 8 = kk - 1) (hkk : kk = k) (h1 : 1 ≤ k) (h8 : k ≤ 8) (hfu : fitU kk a1 = true) (hfi : fitI kk a2 = false) :
    Calls Try.prog 6 #[.int .u8 a0, .int .u64 a1, .int .i64 a2] w fun e w' => e = .returned (.bool true) ∧ Below w.heap.size w w' := by
  have hu := fitU_iff k h1 h8 a1 b1.1
  have hs := fitI_iff k h1 h8 a2
  have hw0 := Wr.new w 100 (by omega)
  have HR := Lib.hid (fun (b : Bool) (l : Nat) (hl : l ≤ 16) => err_is b k h8 l hl)
  have HL := Lib.hid (fun (b : Bool) (x room : Int) => addU_length b k h8 x room)
  rw [← hkk] at hu hs HR HL
  rw [hfu] at hu
  rw [hfi] at hs
  have E1 := Lib.hid (fun (l : Nat) (hl : l ≤ 16) => (congrArg (fun b => wrErr b kk (((100 : Nat) : Int) - l)) hfu).trans (HR.out _ l hl))
  have E2 := Lib.hid (fun (l : Nat) (hl : l ≤ 16) => (congrArg (fun b => wrErr b kk (((100 : Nat) : Int) - l)) hfi).trans (HR.out _ l hl))
  clear hfu hfi
  rcases width_cases h1 h8 with rfl | rfl | rfl | rfl | rfl | rfl | rfl | rfl
  all_goals
    simp only [Nat.reduceMul, Nat.reduceSub, Int.reducePow, Int.reduceNeg] at hu hs
    have c1 := of_decide_eq_true hu.symm
    have c2 := of_decide_eq_false hs.symm
    clear hu hs h1 h8
    simp at hkk
    subst hkk
    simp only [Int.reduceSub] at hk
    try (exfalso; omega)
  all_goals
    go_enter Try.func6, Try.ntmps6
    go_wp2_with (first | (go_at_call 18; refine (newWriterOk 100 _ (by omega)).mono ?_; rintro e w' ⟨rfl, rfl⟩))
    refine (wrUint w.heap.size (.slice none 0 0) 100 [] _ a1 _ (by exact hw0)).mono ?_
    rintro e w1 ⟨rfl, hto1⟩
    rw [E1.out _ (by simp), errOf_true]
    obtain ⟨sv1, hw1, ho1, hs1⟩ := hto1
    go_wp2_with fail
    refine (wrInt w.heap.size sv1 100 _ _ a2 _ hw1).mono ?_
    rintro e w2 ⟨rfl, hto2⟩
    rw [E2.out _ (by rw [List.nil_append]; exact Nat.le_trans (HL.out _ _ _) (by omega)), errOf_false]
    obtain ⟨sv2, hw2, ho2, hs2⟩ := hto2
    have hbel := fits_below ho1 hs1 ho2
    clear HR HL E1 E2 hw0 hw1 hw2 hs1 hs2 ho1 ho2
    go_wp2
    all_goals go_ret
    all_goals refine ⟨?_, hbel⟩
    all_goals show Ending.returned (.bool _) = _
    all_goals simp
    all_goals omega

set_option maxHeartbeats 8000000 in
set_option maxRecDepth 100000 in
theorem walk_true_true (a0 a1 a2 : Int) (w : World) (b0 : 0 ≤ a0 ∧ a0 ≤ 255) (b1 : 0 ≤ a1 ∧ a1 ≤ 18446744073709551615) (b2 : -9223372036854775808 ≤ a2 ∧ a2 ≤ 9223372036854775807)
    (k : Nat) (kk : Int) (hk : a0 % 8 = kk - 1) (hkk : kk = k) (h1 : 1 ≤ k) (h8 : k ≤ 8) (hfu : fitU kk a1 = true) (hfi : fitI kk a2 = true) :
    Calls Try.prog 6 #[.int .u8 a0, .int .u64 a1, .int .i64 a2] w fun e w' => e = .returned (.bool true) ∧ Below w.heap.size w w' := by
  have hu := fitU_iff k h1 h8 a1 b1.1
  have hs := fitI_iff k h1 h8 a2
  have hw0 := Wr.new w 100 (by omega)
  have HR := Lib.hid (fun (b : Bool) (l : Nat) (hl : l ≤ 16) => err_is b k h8 l hl)
  have HL := Lib.hid (fun (b : Bool) (x room : Int) => addU_length b k h8 x room)
  rw [← hkk] at hu hs HR HL
  rw [hfu] at hu
  rw [hfi] at hs
  have E1 := Lib.hid (fun (l : Nat) (hl : l ≤ 16) => (congrArg (fun b => wrErr b kk (((100 : Nat) : Int) - l)) hfu).trans (HR.out _ l hl))
  have E2 := Lib.hid (fun (l : Nat) (hl : l ≤ 16) => (congrArg (fun b => wrErr b kk (((100 : Nat) : Int) - l)) hfi).trans (HR.out _ l hl))
  clear hfu hfi
  rcases width_cases h1 h8 with rfl | rfl | rfl | rfl | rfl | rfl | rfl | rfl
  all_goals
    simp only [Nat.reduceMul, Nat.reduceSub, Int.reducePow, Int.reduceNeg] at hu hs
    have c1 := of_decide_eq_true hu.symm
    have c2 := of_decide_eq_true hs.symm
    clear hu hs h1 h8
    simp at hkk
    subst hkk
    simp only [Int.reduceSub] at hk
    try (exfalso; omega)
  all_goals
    go_enter Try.func6, Try.ntmps6
    go_wp2_with (first | (go_at_call 18; refine (newWriterOk 100 _ (by omega)).mono ?_; rintro e w' ⟨rfl, rfl⟩))
    refine (wrUint w.heap.size (.slice none 0 0) 100 [] _ a1 _ (by exact hw0)).mono ?_
    rintro e w1 ⟨rfl, hto1⟩
    rw [E1.out _ (by simp), errOf_true]
    obtain ⟨sv1, hw1, ho1, hs1⟩ := hto1
    go_wp2_with fail
    refine (wrInt w.heap.size sv1 100 _ _ a2 _ hw1).mono ?_
    rintro e w2 ⟨rfl, hto2⟩
    rw [E2.out _ (by rw [List.nil_append]; exact Nat.le_trans (HL.out _ _ _) (by omega)), errOf_true]
    obtain ⟨sv2, hw2, ho2, hs2⟩ := hto2
    have hbel := fits_below ho1 hs1 ho2
    clear HR HL E1 E2 hw0 hw1 hw2 hs1 hs2 ho1 ho2
    go_wp2
    all_goals go_ret
    all_goals refine ⟨?_, hbel⟩
    all_goals show Ending.returned (.bool _) = _
    all_goals simp
    all_goals omega

theorem walk (a0 a1 a2 : Int) (w : World) (w0 : (Lit.int .u8 a0).wf = true) (w1 : (Lit.int .u64 a1).wf = true) (w2 : (Lit.int .i64 a2).wf = true) :
    Calls Try.prog 6 #[.int .u8 a0, .int .u64 a1, .int .i64 a2] w fun e w' => e = .returned (.bool true) ∧ Below w.heap.size w w' := by
  have b0 := bounds_u8 w0
  have b1 := bounds_u64 w1
  have b2 := bounds_i64 w2
  obtain ⟨k, kk, hk, hkk, h1, h8⟩ : ∃ (k : Nat) (kk : Int), a0 % 8 = kk - 1 ∧ kk = k ∧ 1 ≤ k ∧ k ≤ 8 := ⟨(1 + a0 % 8).toNat, 1 + a0 % 8, by omega, by omega, by omega, by omega⟩
  cases hfu : fitU kk a1 <;> cases hfi : fitI kk a2
  · exact walk_false_false a0 a1 a2 w b0 b1 b2 k kk hk hkk h1 h8 hfu hfi
  · exact walk_false_true a0 a1 a2 w b0 b1 b2 k kk hk hkk h1 h8 hfu hfi
  · exact walk_true_false a0 a1 a2 w b0 b1 b2 k kk hk hkk h1 h8 hfu hfi
  · exact walk_true_true a0 a1 a2 w b0 b1 b2 k kk hk hkk h1 h8 hfu hfi

set_option maxRecDepth 100000 in
theorem lifted (os : Os) (started : os.Started) (H : Type) (enc : TypeId × Value → H) :
    ReturnsInHanded {} Try.checked os 6 .any (Rows.wireFitsSpec.pre6 enc Try.prog Try.f6 Rows.wireFitsRow.domain false) (Rows.wireFitsSpec.post enc Try.prog Try.f6 false true false false) := by
  refine returnsInHanded_of_change (C := Try.checked) own started (by kernel_rfl) Try.func6
    (ChangeSpec.witness6 (enc := enc) (C := Try.checked) false ⟨#[], #[.int .u8 0, .int .u64 0, .int .i64 0], []⟩ 8 (by kernel_rfl) (by kernel_rfl) (by kernel_rfl) (by kernel_rfl)) ?_
  intro W base args ds gs before hval0 hW hcnd _
  have hval : ∀ (j : Nat) t v, Try.f6.params[j]? = some t → args[j]? = some v → Value.okWide Try.prog W .any base t v := hval0
  have hW' := hW
  obtain ⟨p, q, hA0, hV, rfl, hfz, hnd⟩ := hW
  have hA : DataW.TrodAll enc Try.prog W 0 (fun _ => true) true Try.f6.params.toList args.toList ds p := hA0
  rw [Try.params6] at hA hval
  obtain ⟨v0, vs0, d0, ds0, p0, q0, hargs, rfl, rfl, h0, r0⟩ := trodAll_cons hA
  obtain ⟨v1, vs1, d1, ds1, p1, q1, rfl, rfl, rfl, h1, r1⟩ := trodAll_cons r0
  obtain ⟨v2, vs2, d2, ds2, p2, q2, rfl, rfl, rfl, h2, r2⟩ := trodAll_cons r1
  obtain ⟨rfl, rfl, rfl⟩ := trodAll_nil r2
  obtain rfl : args = #[v0, v1, v2] := by cases args; simp_all
  obtain ⟨rfl, rfl⟩ := trodVars_none hV
  obtain ⟨a0, rfl, rfl, rfl, w0⟩ := open_int Try.underlying5 (hval 0 5 v0 rfl rfl) h0
  obtain ⟨a1, rfl, rfl, rfl, w1⟩ := open_int Try.underlying29 (hval 1 29 v1 rfl rfl) h1
  obtain ⟨a2, rfl, rfl, rfl, w2⟩ := open_int Try.underlying2 (hval 2 2 v2 rfl rfl) h2
  clear hA0 hval0
  refine (walk a0 a1 a2 W w0 w1 w2).mono fun e W' ⟨he, bel⟩ => ?_
  subst he
  exact ⟨_, rfl, _, _, _, [], _, [], hW', trodAll_mk1 (shut_bool Try.underlying4 _), (trodAll_cons_mk (shut_int Try.underlying5 w0) (trodAll_cons_mk (shut_int Try.underlying29 w1) (trodAll_cons_mk (shut_int Try.underlying2 w2) trodAll_mk0))), rfl, bel.frame _, fun h => by cases h⟩

theorem over : Rows.wireFitsRow.holds Try.pinned (OpenSpec.ofChange Rows.wireFitsSpec) :=
  OpenClaim.holds_of_wide 6 Try.f6 rfl rfl rfl rfl rfl rfl rfl ⟨rfl, rfl, rfl, rfl, rfl⟩ rfl rfl rfl rfl rfl (by kernel_rfl) Try.func6 (by kernel_rfl)
    (of_decide_eq_true (by kernel_rfl)) (by unfold Func.isWrapper; first | (rw [if_pos (by decide +kernel)]; kernel_rfl) | (rw [if_neg (by decide +kernel)]; exact ⟨rfl, rfl⟩))
    (fun os started H enc _ => lifted os started H enc)

theorem proved : Rows.WireFitsSaid := over
#print axioms proved
end Go.Proofs.Ytgedfecleablpaa.wireFits
