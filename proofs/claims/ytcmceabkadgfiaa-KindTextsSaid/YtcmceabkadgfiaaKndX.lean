/- The program's Text and Holds of a type. No condition but a length that a text can have, and numbers of 64 bits. -/
import Derived.Deep.RegionHeld3
import Derived.Test.YtcmceabkadgfiaaKndU
namespace Go.Proofs.Ytcmceabkadgfiaa
open Go.RowKit
set_option linter.unusedVariables false
set_option linter.unusedSimpArgs false

theorem preB_cat : ∀ (n : Nat) (s : ByteArray), preB n s = preB n ⟨#[]⟩ ++ s
  | 0, s => by rw [preB, preB]; apply nums_inj; rw [nums_cat]; rfl
  | n + 1, s => by
    rw [preB, preB_cat n s, preB, ByteArray.append_assoc]
/-- The one text that may be the descriptor of a type that is no array. -/
def spellZ1 (k : Int) (nm : ByteArray) : ByteArray := if k = 1 then ⟨#[73]⟩ else if k = 2 then ⟨#[74]⟩ else if k = 8 then ⟨#[86]⟩ else if k = 4 then refB nm else ⟨#[]⟩
def spellZ (t : TypeV) : ByteArray := if t.k = 5 then (if t.dims < 1 then ⟨#[]⟩ else if 4 < t.dims then ⟨#[]⟩ else preB t.dims.toNat (spellZ1 t.elem t.name)) else spellZ1 t.k t.name
theorem spell1_size (k : Int) (nm : ByteArray) : (spellZ1 k nm).size ≤ nm.size + 2 := by
  have h1 : ∀ c, (⟨#[c]⟩ : ByteArray).size = 1 := fun _ => rfl
  have h0 : (⟨#[]⟩ : ByteArray).size = 0 := rfl
  unfold spellZ1 refB
  repeat' split
  all_goals simp only [ByteArray.size_append, h1, h0]
  all_goals omega
theorem spell_size (t : TypeV) : (spellZ t).size ≤ t.name.size + 6 := by
  have h1 := spell1_size t.elem t.name
  have h2 := spell1_size t.k t.name
  have h0 : (⟨#[]⟩ : ByteArray).size = 0 := rfl
  unfold spellZ
  repeat' split
  · omega
  · omega
  · rw [preB_size]; omega
  · omega
set_option maxHeartbeats 4000000 in
set_option maxRecDepth 100000 in
theorem progSpell0 (t : TypeV) (w : World) (h5 : t.k = 5 → t.dims < 1 ∨ 4 < t.dims) (hn : t.name.size ≤ 140737488351232) :
    Calls Try.prog 31 #[valT t] w fun e w' => e = .returned (.string (spellZ t)) ∧ Only (fun _ => False) w w' := by
  obtain ⟨k, nm, d, el, at_⟩ := t
  simp only at h5 hn
  have ho0 := (Only.refl (fun _ => False) w).alloc (.cells #[.int .i64 k, .string nm, .int .i64 d, .int .i64 el, .int .i64 at_] 23)
  obtain ⟨z, hz⟩ : ∃ z, z = spellZ ⟨k, nm, d, el, at_⟩ := ⟨_, rfl⟩
  rw [← hz]
  have HO0 := Lib.hid ho0
  unfold valT
  simp only
  unfold spellZ spellZ1 at hz
  simp only at hz
  clear ho0
  by_cases h1 : k = 1
  · subst h1
    have HZ : Hid (z = ⟨#[73]⟩) := Lib.hid (by rw [hz, if_neg (by decide), if_pos rfl])
    clear hz h5
    go_enter Try.func31, Try.ntmps31
    go_wp2
    go_ret
    rw [HZ.out]
    exact ⟨rfl, HO0.out⟩
  by_cases h2 : k = 2
  · subst h2
    have HZ : Hid (z = ⟨#[74]⟩) := Lib.hid (by rw [hz, if_neg (by decide), if_neg (by decide), if_pos rfl])
    clear hz h5 h1
    go_enter Try.func31, Try.ntmps31
    go_wp2
    go_ret
    rw [HZ.out]
    exact ⟨rfl, HO0.out⟩
  by_cases h3 : k = 8
  · subst h3
    have HZ : Hid (z = ⟨#[86]⟩) := Lib.hid (by rw [hz, if_neg (by decide), if_neg (by decide), if_neg (by decide), if_pos rfl])
    clear hz h5 h1 h2
    go_enter Try.func31, Try.ntmps31
    go_wp2
    go_ret
    rw [HZ.out]
    exact ⟨rfl, HO0.out⟩
  have b1 : (k == 1) = false := by rw [beq_eq_false_iff_ne]; exact h1
  have b2 : (k == 2) = false := by rw [beq_eq_false_iff_ne]; exact h2
  have b3 : (k == 8) = false := by rw [beq_eq_false_iff_ne]; exact h3
  by_cases h4 : k = 4
  · subst h4
    have HZ : Hid (z = refB nm) := Lib.hid (by rw [hz, if_neg (by decide), if_neg (by decide), if_neg (by decide), if_neg (by decide), if_pos rfl])
    clear hz h5 h1 h2 h3 b1 b2 b3
    go_enter Try.func31, Try.ntmps31
    go_wp2
    go_ret
    rw [HZ.out]
    exact ⟨rfl, HO0.out⟩
  have b4 : (k == 4) = false := by rw [beq_eq_false_iff_ne]; exact h4
  by_cases h5' : k = 5
  · subst h5'
    rcases h5 rfl with hd | hd
    · have HZ : Hid (z = ⟨#[]⟩) := Lib.hid (by rw [hz, if_pos rfl, if_pos hd])
      clear hz h5 h1 h2 h3 h4 b1 b2 b3 b4
      go_enter Try.func31, Try.ntmps31
      go_wp2
      go_ret
      rw [HZ.out]
      exact ⟨rfl, HO0.out⟩
    · have hd1 : ¬ d < 1 := by omega
      have HZ : Hid (z = ⟨#[]⟩) := Lib.hid (by rw [hz, if_pos rfl, if_neg hd1, if_pos hd])
      clear hz h5 h1 h2 h3 h4 b1 b2 b3 b4
      go_enter Try.func31, Try.ntmps31
      go_wp2
      go_ret
      rw [HZ.out]
      exact ⟨rfl, HO0.out⟩
  · have b5 : (k == 5) = false := by rw [beq_eq_false_iff_ne]; exact h5'
    have HZ : Hid (z = ⟨#[]⟩) := Lib.hid (by rw [hz, if_neg h5', if_neg h1, if_neg h2, if_neg h3, if_neg h4])
    clear hz h5 h1 h2 h3 h4 h5'
    go_enter Try.func31, Try.ntmps31
    go_wp2
    go_ret
    rw [HZ.out]
    exact ⟨rfl, HO0.out⟩
theorem keepSp {w W w1 : World} {b : Nat} {nm : ByteArray} {n : Nat} {el : Int} (ho : Only (fun _ => False) W w1) (h : (W.cell? ⟨b, 1, none⟩ = some (.string nm) ∧ W.cell? ⟨b, 2, none⟩ = some (.int .i64 n) ∧ W.cell? ⟨b, 3, none⟩ = some (.int .i64 el)) ∧ Only (fun _ => False) w W) :
    (w1.cell? ⟨b, 1, none⟩ = some (.string nm) ∧ w1.cell? ⟨b, 2, none⟩ = some (.int .i64 n) ∧ w1.cell? ⟨b, 3, none⟩ = some (.int .i64 el)) ∧ Only (fun _ => False) w w1 :=
  ⟨⟨ho.cell h.1.1 (fun h => h), ho.cell h.1.2.1 (fun h => h), ho.cell h.1.2.2 (fun h => h)⟩, h.2.trans ho (fun _ h _ => h)⟩
set_option maxHeartbeats 4000000 in
set_option maxRecDepth 100000 in
theorem progSpell (t : TypeV) (w : World) (hn : t.name.size ≤ 140737488351232) :
    Calls Try.prog 31 #[valT t] w fun e w' => e = .returned (.string (spellZ t)) ∧ Only (fun _ => False) w w' := by
  by_cases h5 : t.k = 5 → t.dims < 1 ∨ 4 < t.dims
  · exact progSpell0 t w h5 hn
  · obtain ⟨k, nm, d, el, at_⟩ := t
    simp only at h5 hn
    have hk : k = 5 := Classical.byContradiction (fun h => h5 (fun e => absurd e h))
    subst hk
    have hd1 : ¬ d < 1 := fun h => h5 (fun _ => .inl h)
    have hd4 : ¬ 4 < d := fun h => h5 (fun _ => .inr h)
    obtain ⟨n, rfl⟩ := Int.eq_ofNat_of_zero_le (show 0 ≤ d by omega)
    have hz : spellZ ⟨5, nm, n, el, at_⟩ = preB n ⟨#[]⟩ ++ spellZ ⟨el, nm, 0, 0, 0⟩ := by
      have e1 : spellZ ⟨5, nm, n, el, at_⟩ = preB n (spellZ1 el nm) := by
        unfold spellZ
        simp only [if_true]
        rw [if_neg hd1, if_neg hd4, Int.toNat_natCast]
      have e2 : spellZ ⟨el, nm, 0, 0, 0⟩ = spellZ1 el nm := by
        unfold spellZ
        simp only
        by_cases h : el = 5
        · subst h
          rw [if_pos rfl, if_pos (by decide)]
          unfold spellZ1
          rfl
        · rw [if_neg h]
      rw [e1, e2, ← preB_cat]
    have hsz := spell_size ⟨el, nm, 0, 0, 0⟩
    simp only at hsz
    have hps := preB_size n ⟨#[]⟩
    have h00 : (⟨#[]⟩ : ByteArray).size = 0 := rfl
    rw [h00] at hps
    have hb0 := heap_alloc_new w (.cells #[.int .i64 5, .string nm, .int .i64 n, .int .i64 el, .int .i64 at_] 23)
    have ho0 := (Only.refl (fun _ => False) w).alloc (.cells #[.int .i64 5, .string nm, .int .i64 n, .int .i64 el, .int .i64 at_] 23)
    have cr := fun w => repeatBr n w (by omega)
    have cs := fun w => progSpell0 ⟨el, nm, 0, 0, 0⟩ w (fun _ => .inl (by show (0 : Int) < 1; decide)) hn
    rw [hz]
    unfold valT at cs ⊢
    simp only at cs ⊢
    generalize spellZ ⟨el, nm, 0, 0, 0⟩ = sb at *
    generalize preB n ⟨#[]⟩ = pb at *
    have CR := Lib.hid cr
    have CS := Lib.hid cs
    obtain ⟨q0, q1, q2, q3, q4⟩ := cells5T hb0
    have hn4 : ¬ (4 : Int) < (n : Int) := hd4
    have hn1 : ¬ (n : Int) < 1 := hd1
    have hsum : ¬ 9223372036854775807 < pb.size + sb.size := by omega
    clear cr cs hz h5 hb0 hd1 hd4 hps hsz h00
    go_enter Try.func31, Try.ntmps31
    go_wp2
    go_region_held3 (fun w' => (w'.cell? ⟨w.heap.size, 1, none⟩ = some (.string nm) ∧ w'.cell? ⟨w.heap.size, 2, none⟩ = some (.int .i64 n) ∧ w'.cell? ⟨w.heap.size, 3, none⟩ = some (.int .i64 el)) ∧ Only (fun _ => False) w w')
      (first | exact ⟨⟨q1, q2, q3⟩, ho0⟩ | exact ⟨⟨q1, q2, q3⟩, ho0.drew⟩ | exact hkp)
      (first | (go_at_call 38; refine (CR.out _).mono ?_; rintro e w1 ⟨rfl, hoo⟩; have hkp := keepSp (b := w.heap.size) (w := w) (nm := nm) (n := n) (el := el) hoo (by assumption)) | (go_at_call 31; refine (CS.out _).mono ?_; rintro e w1 ⟨rfl, hoo⟩; have hkp := keepSp (b := w.heap.size) (w := w) (nm := nm) (n := n) (el := el) hoo (by assumption)))
    all_goals
      go_wp2
      go_ret
      exact ⟨rfl, (keepSp (b := w.heap.size) (w := w) (nm := nm) (n := n) (el := el) (Only.refl _ _) (by assumption)).2⟩

/-! The text that is just the type's. -/
theorem spell_text {t : TypeV} (h : textZ8 t ≠ ⟨#[]⟩) : spellZ t = textZ8 t := by
  obtain ⟨k, nm, d, el, at_⟩ := t
  have base : ∀ (u : TypeV), baseText u ≠ ⟨#[]⟩ → spellZ1 u.k u.name = baseText u := by
    intro u hu
    unfold baseText spellZ1 at *
    by_cases h1 : u.k = 1
    · rw [if_pos h1] at hu ⊢
      rw [if_pos h1]
      split at hu
      · rename_i he; rw [if_pos he]
      · exact absurd rfl hu
    rw [if_neg h1] at hu ⊢
    rw [if_neg h1]
    by_cases h2 : u.k = 2
    · rw [if_pos h2] at hu ⊢
      rw [if_pos h2]
      split at hu
      · rename_i he; rw [if_pos he]
      · exact absurd rfl hu
    rw [if_neg h2] at hu ⊢
    rw [if_neg h2]
    by_cases h3 : u.k = 8
    · rw [if_pos h3] at hu ⊢
      rw [if_pos h3]
      split at hu
      · rename_i he; rw [if_pos he]
      · exact absurd rfl hu
    rw [if_neg h3] at hu ⊢
    rw [if_neg h3]
    by_cases h4 : u.k = 4
    · rw [if_pos h4] at hu ⊢
      rw [if_pos h4]
      split at hu
      · rename_i he; rw [if_pos he]
      · exact absurd rfl hu
    rw [if_neg h4] at hu
    exact absurd rfl hu
  by_cases h5 : k = 5
  · subst h5
    cases hb : badArr ⟨5, nm, d, el, at_⟩ with
    | true => exact absurd (arr_bad rfl hb) h
    | false =>
      by_cases hs : baseText ⟨el, nm, 0, 0, 0⟩ = ⟨#[]⟩
      · exact absurd (arr_none rfl hb hs) h
      · rw [arr_some rfl hb hs]
        simp only [badArr, Bool.or_eq_false_iff, decide_eq_false_iff_not] at hb
        have e := base ⟨el, nm, 0, 0, 0⟩ hs
        simp only at e
        unfold spellZ
        simp only [if_true]
        rw [if_neg hb.1.1, if_neg hb.1.2, e]
  · have e : textZ8 ⟨k, nm, d, el, at_⟩ = baseText ⟨k, nm, d, el, at_⟩ := by unfold textZ8; exact if_neg h5
    rw [e] at h ⊢
    rw [← base _ h]
    unfold spellZ
    exact if_neg h5
theorem void_text {t : TypeV} (h : textZ8 t = ⟨#[86]⟩) : t = voidT := by
  have hne : textZ8 t ≠ ⟨#[]⟩ := by rw [h]; decide
  have hs := spell_text hne
  obtain ⟨k, nm, d, el, at_⟩ := t
  have hnum : nums (spellZ ⟨k, nm, d, el, at_⟩) = [86] := by rw [hs, h, nums_V]
  by_cases h5 : k = 5
  · subst h5
    cases hb : badArr ⟨5, nm, d, el, at_⟩ with
    | true => exact absurd (arr_bad rfl hb) hne
    | false =>
      by_cases hq : baseText ⟨el, nm, 0, 0, 0⟩ = ⟨#[]⟩
      · exact absurd (arr_none rfl hb hq) hne
      · rw [arr_some rfl hb hq] at h
        simp only [badArr, Bool.or_eq_false_iff, decide_eq_false_iff_not] at hb
        have hn := congrArg nums h
        rw [nums_preB, nums_V] at hn
        obtain ⟨m, hm⟩ : ∃ m, d.toNat = m + 1 := ⟨d.toNat - 1, by omega⟩
        simp only at hn
        rw [hm, List.replicate_succ, List.cons_append] at hn
        injection hn with hn _
        exact absurd hn (by decide)
  · have e : textZ8 ⟨k, nm, d, el, at_⟩ = baseText ⟨k, nm, d, el, at_⟩ := by unfold textZ8; exact if_neg h5
    rw [e] at h
    unfold baseText at h
    simp only at h
    by_cases h1 : k = 1
    · rw [if_pos h1] at h
      split at h <;> exact absurd h (by decide)
    rw [if_neg h1] at h
    by_cases h2 : k = 2
    · rw [if_pos h2] at h
      split at h <;> exact absurd h (by decide)
    rw [if_neg h2] at h
    by_cases h3 : k = 8
    · rw [if_pos h3] at h
      split at h
      · rename_i he
        unfold eqT at he
        exact of_decide_eq_true he
      · exact absurd h (by decide)
    rw [if_neg h3] at h
    by_cases h4 : k = 4
    · rw [if_pos h4] at h
      split at h
      · have := congrArg nums h
        rw [nums_refB, nums_V] at this
        injection this with this _
        exact absurd this (by decide)
      · exact absurd h (by decide)
    rw [if_neg h4] at h
    exact absurd h (by decide)
theorem text_spell (t : TypeV) : textZ8 t = if retZ (nums (spellZ t)) = some t then spellZ t else ⟨#[]⟩ := by
  by_cases h : retZ (nums (spellZ t)) = some t
  · rw [if_pos h]
    unfold retZ at h
    by_cases hv : nums (spellZ t) = [86]
    · rw [if_pos hv] at h
      injection h with h
      subst h
      rfl
    · rw [if_neg hv] at h
      exact one_text h
  · rw [if_neg h]
    by_cases hne : textZ8 t = ⟨#[]⟩
    · exact hne
    · exfalso
      apply h
      rw [spell_text hne]
      by_cases hv : textZ8 t = ⟨#[86]⟩
      · rw [void_text hv]
        rfl
      · unfold retZ
        rw [if_neg (fun e => hv (nums_inj (e.trans nums_V.symm))), text_one hne hv]
theorem neq_any (i k : TypeV) (w : World) : (binOp .neq 23 (valT i) (valT k)).run Try.prog w = .ok (.bool (!eqT i k)) w := by
  have h := eql_type i k w
  unfold valT at h ⊢
  rw [run_eql_struct] at h
  rw [run_neq_struct]
  generalize (Op.equalIn 10000 23 _ _).run Try.prog w = r at *
  cases r with
  | ok b w' =>
    simp only [Result.andThen, Result.ok.injEq, Value.bool.injEq] at h ⊢
    rw [h.1, h.2]
    exact ⟨rfl, rfl⟩
  | halt x w' => simp [Result.andThen] at h
set_option maxHeartbeats 4000000 in
set_option maxRecDepth 100000 in
theorem progText (t : TypeV) (w : World) (hn : t.name.size ≤ 140737488351232) :
    Calls Try.prog 19 #[valT t] w fun e w' => e = .returned (.string (textZ8 t)) ∧ Only (fun _ => False) w w' := by
  have hr0 := heap_alloc_new w (.cells #[.int .i64 t.k, .string t.name, .int .i64 t.dims, .int .i64 t.elem, .int .i64 t.at_] 23)
  have ho0 := (Only.refl (fun _ => False) w).alloc (.cells #[.int .i64 t.k, .string t.name, .int .i64 t.dims, .int .i64 t.elem, .int .i64 t.at_] 23)
  have HR0 := Lib.hid hr0
  have HO0 := Lib.hid ho0
  have hz := text_spell t
  have hsz := spell_size t
  have cs := fun w => progSpell t w hn
  have cr := fun w => progResult (spellZ t) w (by omega)
  rw [hz]
  have g1 := guard_type
  have nq := fun i w => neq_any i t w
  unfold OneTo at cr
  generalize spellZ t = s at *
  clear hr0 ho0 hz hsz
  cases ho : retZ (nums s) with
  | none =>
    rw [ho] at cr
    rw [if_neg (by simp)]
    unfold typO errO zeroT valT at cr
    unfold valT at cs nq ⊢
    simp only at cr
    have CS := Lib.hid cs
    have CR := Lib.hid cr
    clear cs cr ho nq
    go_enter Try.func19, Try.ntmps19
    go_wp2_with (fail)
    refine (CS.out _).mono ?_
    rintro e w1 ⟨rfl, ho1⟩
    have HO1 := Lib.hid (HO0.out.trans ho1 (fun _ h _ => h))
    clear ho1
    go_wp2_with (fail)
    refine (CR.out _).mono ?_
    rintro e w2 ⟨rfl, ho2⟩
    have HO2 := Lib.hid (HO1.out.trans ho2 (fun _ h _ => h))
    clear ho2
    go_wp2
    go_ret
    exact ⟨rfl, HO2.out.alloc _⟩
  | some u =>
    rw [ho] at cr
    unfold typO errO valT at cr
    unfold valT at cs nq ⊢
    simp only at cr
    have nqu := nq u
    have CS := Lib.hid cs
    have CR := Lib.hid cr
    by_cases hut : u = t
    · subst hut
      rw [if_pos rfl]
      rw [eqT_self, Bool.not_true] at nqu
      clear cs cr ho nq
      go_enter Try.func19, Try.ntmps19
      go_wp2_with (fail)
      refine (CS.out _).mono ?_
      rintro e w1 ⟨rfl, ho1⟩
      have HO1 := Lib.hid (HO0.out.trans ho1 (fun _ h _ => h))
      have HR1 := Lib.hid (ho1.heap HR0.out (fun h => h))
      clear ho1
      go_wp2_with (fail)
      refine (CR.out _).mono ?_
      rintro e w2 ⟨rfl, ho2⟩
      have HO2 := Lib.hid (HO1.out.trans ho2 (fun _ h _ => h))
      have hal := (Only.refl (fun _ => False) w2).alloc (.cells #[.int .i64 u.k, .string u.name, .int .i64 u.dims, .int .i64 u.elem, .int .i64 u.at_] 23)
      have hr2 := hal.heap (ho2.heap HR1.out (fun h => h)) (fun h => h)
      obtain ⟨q0, q1, q2, q3, q4⟩ := cells5T hr2
      clear ho2 hal hr2
      go_wp2
      go_ret
      exact ⟨rfl, HO2.out.alloc _⟩
    · rw [if_neg (by simpa using hut)]
      have hf : eqT u t = false := by unfold eqT; simpa using hut
      rw [hf, Bool.not_false] at nqu
      clear cs cr ho nq hf
      go_enter Try.func19, Try.ntmps19
      go_wp2_with (fail)
      refine (CS.out _).mono ?_
      rintro e w1 ⟨rfl, ho1⟩
      have HO1 := Lib.hid (HO0.out.trans ho1 (fun _ h _ => h))
      have HR1 := Lib.hid (ho1.heap HR0.out (fun h => h))
      clear ho1
      go_wp2_with (fail)
      refine (CR.out _).mono ?_
      rintro e w2 ⟨rfl, ho2⟩
      have HO2 := Lib.hid (HO1.out.trans ho2 (fun _ h _ => h))
      have hal := (Only.refl (fun _ => False) w2).alloc (.cells #[.int .i64 u.k, .string u.name, .int .i64 u.dims, .int .i64 u.elem, .int .i64 u.at_] 23)
      have hr2 := hal.heap (ho2.heap HR1.out (fun h => h)) (fun h => h)
      obtain ⟨q0, q1, q2, q3, q4⟩ := cells5T hr2
      clear ho2 hal hr2
      go_wp2
      go_ret
      exact ⟨rfl, HO2.out.alloc _⟩
set_option maxHeartbeats 8000000 in
set_option maxRecDepth 100000 in
theorem progHolds (t : TypeV) (w : World) (hr : TypeR t) :
    Calls Try.prog 17 #[valT t] w fun e w' => e = .returned (.tuple #[valT (holdsZ8 t).1, .bool (holdsZ8 t).2]) ∧ Only (fun _ => False) w w' := by
  obtain ⟨k, nm, d, el, at_⟩ := t
  have hd := hr.2.1.2
  simp only at hd
  clear hr
  unfold holdsZ8
  simp only
  by_cases h5 : k = 5
  · subst h5
    rw [if_pos rfl]
    by_cases h1 : 1 < d
    · rw [if_pos h1]
      unfold valT
      simp only
      go_enter Try.func17, Try.ntmps17
      go_wp2
      exact bodyPost_ret (type_result2 (t := ⟨5, nm, d - 1, el, at_⟩) (b := w.heap.size + 1) Try.results17 box2T rfl rfl) rfl ⟨rfl, ((Only.refl _ w).alloc _).alloc _⟩
    · rw [if_neg h1]
      unfold valT
      simp only
      go_enter Try.func17, Try.ntmps17
      go_wp2
      exact bodyPost_ret (type_result2 (t := ⟨el, nm, 0, 0, 0⟩) (b := w.heap.size + 1) Try.results17 box2T rfl rfl) rfl ⟨rfl, ((Only.refl _ w).alloc _).alloc _⟩
  · rw [if_neg h5]
    have b5 : (k == 5) = false := by rw [beq_eq_false_iff_ne]; exact h5
    have b5' : (k != 5) = true := by rw [bne, b5]; rfl
    unfold valT
    simp only
    clear h5
    go_enter Try.func17, Try.ntmps17
    go_wp2
    exact bodyPost_ret (type_result2 (t := zeroT) (b := w.heap.size + 1) Try.results17 box2T rfl rfl) rfl ⟨rfl, ((Only.refl _ w).alloc _).alloc _⟩
end Go.Proofs.Ytcmceabkadgfiaa
