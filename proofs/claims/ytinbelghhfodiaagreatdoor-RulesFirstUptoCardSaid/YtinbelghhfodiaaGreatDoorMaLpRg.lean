import Derived.Test.YtinbelghhfodiaaGreatDoorMaLpRcLpRb
namespace Go.Proofs.YtinbelghhfodiaaGreatDoor
open Go.RowKit
set_option linter.unusedVariables false
set_option linter.unusedSimpArgs false
def agreeO (o : Option MemV) (m : MethN) : Bool := match o with | some a => a.static == (m.flags == 8) | none => true
def agreeM (ks : List KindV) (s : ByteArray) (m : MethN) : Bool := agreeO (lookZ ks s m.name m.desc) m
def agreesZ (ks : List KindV) (k : KindV) : Bool := k.meths.all (agreeM ks k.super)
structure RuleK (ks : List KindV) : Prop where
 r1 : ∀ j, 13 ≤ j → j < ks.length → plainN (nums (ks.getD j default).name) = true ∧ findZ ks (ks.getD j default).name = (j : Int)
 r2 : ∀ j, 13 ≤ j → j < ks.length → leadsZ ks (ks.getD j default) = true
 r3 : ∀ j, 13 ≤ j → j < ks.length → ∀ i, i < (ks.getD j default).fields.length → FieldOK (ks.getD j default).fields i
 r4 : ∀ j, 13 ≤ j → j < ks.length → ∀ i, i < (ks.getD j default).meths.length → MethOK (ks.getD j default).meths i
 r5 : ∀ j, 13 ≤ j → j < ks.length → agreesZ ks (ks.getD j default) = true
 main : (mainZ ks).static = true
theorem getD_memK {ks : List KindV} {j : Nat} (h : j < ks.length) : ks.getD j default ∈ ks := by
 rw [show ks.getD j default = ks[j] by simp [List.getD, h]]
 exact List.getElem_mem h
theorem builtK_supers : ∀ j, j < 13 → ¬ (builtK.getD j default).super = sysB := by decide
section
variable {cs : List ClassV} (hon : NamesOnce (kindsZ cs))
include hon
theorem pair_name {j : Nat} (hj : j < (kindsZ cs).length) : pairOf (treeZ (kindsZ cs)) ((kindsZ cs).getD j default).name = (j : Int) := hon j hj
theorem name_obj {j : Nat} (hj : j < (kindsZ cs).length) (h0 : j ≠ 0) : ((kindsZ cs).getD j default).name ≠ objB := fun e => by
 have h1 := hon j hj
 rw [e, find_obj] at h1
 omega
theorem below_tops (hsys : ∀ j, j < (kindsZ cs).length → ¬ ((kindsZ cs).getD j default).super = sysB) : ∀ (n j : Nat), j < (kindsZ cs).length → belowN (treeZ (kindsZ cs)) objB n ((kindsZ cs).getD j default).name = true → topsF (kindsZ cs) (n + 1) (j : Int) = true
 | n, j, hj, hb => by
  by_cases h0 : j = 0
  ·subst h0
   rw [topsF, if_pos (show ((0 : Nat) : Int) = 0 from rfl)]
  have hne := name_obj hon hj h0
  cases n with
  | zero => rw [belowN_last hne] at hb; cases hb
  | succ n =>
   rw [belowN_step hne (pair_name hon hj), treeZ_at hj] at hb
   have hs : superZ (kindsZ cs) (j : Int) = findZ (kindsZ cs) ((kindsZ cs).getD j default).super := super_list (by omega) hj
   rw [topsF, if_neg (by omega), hs]
   rcases findZ_cases (kindsZ cs) ((kindsZ cs).getD j default).super with e | ⟨i, hi, e⟩
   ·have hso : ((kindsZ cs).getD j default).super ≠ objB := fun h => by rw [h, find_obj] at e; omega
    have hb' : belowN (treeZ (kindsZ cs)) objB n ((kindsZ cs).getD j default).super = true := hb
    rw [belowN_none hso e] at hb'
    cases hb'
   ·have hh := find_hit e
    rw [e, if_neg (by omega), Int.toNat_natCast, hh.2, if_neg (hsys j hj)]
    exact below_tops hsys n i hi (by rw [hh.2]; exact hb)
theorem tops_below : ∀ (n j : Nat), j < (kindsZ cs).length → topsF (kindsZ cs) (n + 1) (j : Int) = true → belowN (treeZ (kindsZ cs)) objB n ((kindsZ cs).getD j default).name = true
 | n, j, hj, ht => by
  by_cases h0 : j = 0
  ·subst h0
   rw [show ((kindsZ cs).getD 0 default).name = objB from rfl]
   exact belowN_same _ _ _
  have hne := name_obj hon hj h0
  have hs : superZ (kindsZ cs) (j : Int) = findZ (kindsZ cs) ((kindsZ cs).getD j default).super := super_list (by omega) hj
  rw [topsF, if_neg (by omega), hs] at ht
  rcases findZ_cases (kindsZ cs) ((kindsZ cs).getD j default).super with e | ⟨i, hi, e⟩
  ·rw [e, if_pos (by decide)] at ht; cases ht
  ·have hh := find_hit e
   rw [e, if_neg (by omega), Int.toNat_natCast] at ht
   split at ht
   ·cases ht
   ·cases n with
    | zero => cases ht
    | succ n =>
     rw [belowN_step hne (pair_name hon hj), treeZ_at hj]
     show belowN (treeZ (kindsZ cs)) objB n ((kindsZ cs).getD j default).super = true
     rw [← hh.2]
     exact tops_below n i hi ht
omit hon in
theorem tops_sys {j : Nat} (h13 : 13 ≤ j) (hj : j < (kindsZ cs).length) (ht : topsZ (kindsZ cs) (j : Int) = true) : ¬ ((kindsZ cs).getD j default).super = sysB := fun he => by
 have hs : superZ (kindsZ cs) (j : Int) = findZ (kindsZ cs) ((kindsZ cs).getD j default).super := super_list (by omega) hj
 unfold topsZ at ht
 rw [topsF, if_neg (by omega), hs] at ht
 rcases findZ_cases (kindsZ cs) ((kindsZ cs).getD j default).super with e | ⟨i, hi, e⟩
 ·rw [e, if_pos (by decide)] at ht; cases ht
 ·have hh := find_hit e
  rw [e, if_neg (by omega), Int.toNat_natCast, hh.2, if_pos he] at ht
  cases ht
theorem leads_tops (h : ∀ j, 13 ≤ j → j < (kindsZ cs).length → leadsZ (kindsZ cs) ((kindsZ cs).getD j default) = true) : ∀ j, 13 ≤ j → j < (kindsZ cs).length → topsZ (kindsZ cs) (j : Int) = true := by
 intro j h13 hj
 have hsys : ∀ j, j < (kindsZ cs).length → ¬ ((kindsZ cs).getD j default).super = sysB := fun i hi => by
  by_cases hi13 : i < 13
  ·rw [kindsZ_built hi13]; exact builtK_supers i hi13
  ·have := h i (by omega) hi
   unfold leadsZ at this
   rw [Bool.and_eq_true, decide_eq_true_eq] at this
   exact this.1
 have hb := h j h13 hj
 unfold leadsZ at hb
 rw [Bool.and_eq_true] at hb
 have hb2 := hb.2
 unfold belowZ at hb2
 rw [treeZ_len] at hb2
 exact below_tops hon hsys _ j hj hb2
theorem tops_leads (h : ∀ j, 13 ≤ j → j < (kindsZ cs).length → topsZ (kindsZ cs) (j : Int) = true) : ∀ j, 13 ≤ j → j < (kindsZ cs).length → leadsZ (kindsZ cs) ((kindsZ cs).getD j default) = true := by
 intro j h13 hj
 unfold leadsZ belowZ
 rw [treeZ_len, tops_below hon _ j hj (h j h13 hj), Bool.and_true, decide_eq_true_eq]
 exact tops_sys h13 hj (h j h13 hj)
end
theorem hasFrom_hit {n d : ByteArray} : ∀ {l : List MethN} {i p : Nat}, hasFrom n d i l = (p : Int) → i ≤ p ∧ p < i + l.length ∧ (l.getD (p - i) default).name = n ∧ (l.getD (p - i) default).desc = d
 | [], i, p, h => by simp [hasFrom] at h <;> omega
 | m :: r, i, p, h => by
  rw [hasFrom] at h
  by_cases hp : m.name = n ∧ m.desc = d
  ·rw [if_pos hp] at h
   obtain rfl : i = p := by omega
   exact ⟨Nat.le_refl _, by simp, by simpa using hp.1, by simpa using hp.2⟩
  ·rw [if_neg hp] at h
   obtain ⟨h1, h2, h3, h4⟩ := hasFrom_hit h
   refine ⟨by omega, by rw [List.length_cons]; omega, ?_⟩
   rw [show p - i = (p - (i + 1)) + 1 by omega]
   exact ⟨h3, h4⟩
theorem hasZ_hit {n d : ByteArray} {l : List MethN} {p : Nat} (h : hasZ l n d = (p : Int)) : p < l.length ∧ (l.getD p default).name = n ∧ (l.getD p default).desc = d := by
 obtain ⟨_, h2, h3, h4⟩ := hasFrom_hit (show hasFrom n d 0 l = _ from h)
 rw [Nat.zero_add] at h2
 rw [Nat.sub_zero] at h3 h4
 exact ⟨h2, h3, h4⟩
theorem flags_eq {a b : MethN} (ha : a.flags = 0 ∨ a.flags = 8) (hb : b.flags = 0 ∨ b.flags = 8) (h : ((a.flags == 8) == (b.flags == 8)) = true) : (a.flags == b.flags) = true := by
 rcases ha with ha | ha <;> rcases hb with hb | hb <;> rw [ha, hb] at h ⊢ <;> first | rfl | exact absurd h (by decide)
theorem keepAt_of {ks : List KindV} {m : MethN} {u : Nat} (hm : m.flags = 0 ∨ m.flags = 8) (hu : ∀ x ∈ (ks.getD u default).meths, x.flags = 0 ∨ x.flags = 8) (h : ∀ a, ownAt ks u m.name m.desc = some a → (a.static == (m.flags == 8)) = true) : keepAt ks m u = true := by
 unfold keepAt
 split
 ·rfl
 ·rename_i hh
  have h1 := h _ (by unfold ownAt; rw [if_neg hh])
  rcases hasZ_cases (ks.getD u default).meths m.name m.desc with e | ⟨p, hp, e⟩
  ·rw [e] at hh; exact absurd (by decide) hh
  ·refine flags_eq (hu _ ?_) hm h1
   rw [e, Int.toNat_natCast]
   exact getD_memM hp
section
variable {ks : List KindV} (he : EndsAll ks) (hfl : ∀ k ∈ ks, FlagsL k.meths)
include he hfl
theorem keep_chain : ∀ (n : Nat) (x : Int), x < ks.length → (upZ ks x).length ≤ n → (∀ u ∈ upZ ks x, keepsZ ks u = true) → ∀ m : MethN, (m.flags = 0 ∨ m.flags = 8) → m.name ≠ initB →
  (∀ a, firstO (upZ ks x) (fun j => ownAt ks j m.name m.desc) = some a → (a.static == (m.flags == 8)) = true) → ∀ u ∈ upZ ks x, keepAt ks m u = true
 | n, x, hx, hn, hk, m, hm, hi, hf, u, hu => by
  by_cases h0 : x < 0
  ·rw [upZ_end h0] at hu; cases hu
  obtain ⟨i, rfl⟩ := Int.eq_ofNat_of_zero_le (show 0 ≤ x by omega)
  have hil : i < ks.length := by omega
  rw [upZ_step he hil] at hu hn hk hf
  have hfi : ∀ x ∈ (ks.getD i default).meths, x.flags = 0 ∨ x.flags = 8 := hfl _ (getD_memK hil)
  cases n with
  | zero => simp at hn
  | succ n =>
   have hn' : (upZ ks (superZ ks i)).length ≤ n := by simpa using hn
   have hk' : ∀ u ∈ upZ ks (superZ ks i), keepsZ ks u = true := fun u h => hk u (List.mem_cons_of_mem _ h)
   rcases hasZ_cases (ks.getD i default).meths m.name m.desc with e | ⟨p, hp, e⟩
   ·have ho : ownAt ks i m.name m.desc = none := by unfold ownAt; rw [e, if_pos (by decide)]
    rcases List.mem_cons.1 hu with rfl | hu
    ·unfold keepAt; rw [e, if_pos (by decide)]
    ·refine keep_chain n _ (superZ_lt ks i) hn' hk' m hm hi (fun a ha => hf a ?_) u hu
     show (match ownAt ks i m.name m.desc with | some m => some m | none => _) = some a
     rw [ho]; exact ha
   ·have hk1 : keepAt ks m i = true := keepAt_of hm hfi (fun a ha => hf a (by show (match ownAt ks i m.name m.desc with | some m => some m | none => _) = some a; rw [ha]))
    rcases List.mem_cons.1 hu with rfl | hu
    ·exact hk1
    ·have hi' := hk i (List.mem_cons_self ..)
     have hh := hasZ_hit e
     unfold keepsZ at hi'
     rw [List.all_eq_true] at hi'
     have h3 := hi' _ (getD_memM hp)
     unfold keepsM at h3
     rw [hh.2.1, if_neg hi, List.all_eq_true] at h3
     have h4 := h3 u hu
     unfold keepAt at h4 hk1 ⊢
     rw [hh.2.1, hh.2.2] at h4
     rw [e, if_neg (by omega), Int.toNat_natCast] at hk1
     rw [beq_iff_eq.1 hk1] at h4
     exact h4
omit hfl in
theorem upZ_tail : ∀ (n : Nat) (x : Int), x < ks.length → (upZ ks x).length = n → ∀ v ∈ upZ ks x, (upZ ks (v : Int)).length ≤ (upZ ks x).length
 | n, x, hx, hn, v, hv => by
  by_cases h0 : x < 0
  ·rw [upZ_end h0] at hv; cases hv
  obtain ⟨i, rfl⟩ := Int.eq_ofNat_of_zero_le (show 0 ≤ x by omega)
  have hil : i < ks.length := by omega
  have hst := upZ_step he hil
  rw [hst] at hv hn
  rcases List.mem_cons.1 hv with rfl | hv
  ·exact Nat.le_refl _
  ·cases n with
   | zero => simp at hn
   | succ n =>
    have := upZ_tail n _ (superZ_lt ks i) (by simpa using hn) v hv
    rw [hst, List.length_cons]
    omega
theorem agrees_keeps (hb : ∀ j, j < 13 → j < ks.length → keepsZ ks j = true) (h : ∀ j, 13 ≤ j → j < ks.length → agreesZ ks (ks.getD j default) = true) : ∀ (n j : Nat), j < ks.length → (upZ ks (j : Int)).length ≤ n → keepsZ ks j = true
 | n, j, hj, hn => by
  by_cases h13 : j < 13
  ·exact hb j h13 hj
  have ha := h j (by omega) hj
  have hs : superZ ks (j : Int) = findZ ks (ks.getD j default).super := super_list (by omega) hj
  rw [upZ_step he hj] at hn
  cases n with
  | zero => simp at hn
  | succ n =>
   have hn' : (upZ ks (superZ ks j)).length ≤ n := by simpa using hn
   unfold keepsZ
   unfold agreesZ at ha
   rw [List.all_eq_true] at ha ⊢
   intro m hm
   have h1 := ha m hm
   unfold keepsM
   split
   ·rfl
   ·rename_i hi
    rw [List.all_eq_true]
    intro u hu
    refine keep_chain he hfl n _ (superZ_lt ks j) hn' (fun v hv => ?_) m (hfl _ (getD_memK hj) m hm) hi (fun a hx => ?_) u hu
    ·have hv2 : v < ks.length := by
      have := seqX_lt he _ _ rfl v (by rw [seqX_in (superZ_lt ks j)]; exact hv)
      exact this
     refine agrees_keeps hb h n v hv2 (Nat.le_trans ?_ hn')
     exact upZ_tail he _ _ (superZ_lt ks j) rfl v hv
    ·unfold agreeM agreeO lookZ at h1
     rw [if_neg hi, ← hs, hx] at h1
     exact h1
omit he hfl in
theorem firstO_hit {f : Nat → Option MemV} {a : MemV} : ∀ {xs : List Nat}, firstO xs f = some a → ∃ u ∈ xs, f u = some a
 | [], h => by cases h
 | j :: r, h => by
  rw [firstO] at h
  split at h
  ·rename_i m hm
   injection h with h
   subst h
   exact ⟨j, List.mem_cons_self .., hm⟩
  ·obtain ⟨u, hu, hf⟩ := firstO_hit h
   exact ⟨u, List.mem_cons_of_mem _ hu, hf⟩
omit he hfl in
theorem keeps_agrees {j : Nat} (h1 : 1 ≤ j) (hj : j < ks.length) (h : keepsZ ks j = true) : agreesZ ks (ks.getD j default) = true := by
 have hs : superZ ks (j : Int) = findZ ks (ks.getD j default).super := super_list h1 hj
 unfold keepsZ at h
 unfold agreesZ
 rw [List.all_eq_true] at h ⊢
 intro m hm
 have h2 := h m hm
 unfold agreeM agreeO lookZ
 by_cases hi : m.name = initB
 ·rw [if_pos hi]
 ·rw [if_neg hi, ← hs]
  unfold keepsM at h2
  rw [if_neg hi, List.all_eq_true] at h2
  split
  ·rename_i a ha
   obtain ⟨u, hu, hf⟩ := firstO_hit ha
   have h3 := h2 u hu
   unfold keepAt at h3
   unfold ownAt at hf
   split at hf
   ·cases hf
   ·rename_i hh
    rw [if_neg hh, beq_iff_eq] at h3
    injection hf with hf
    subst hf
    show ((_ == 8) == (m.flags == 8)) = true
    rw [h3]
    simp
  ·rfl
end
theorem built_meths : ∀ j, j < 13 → 1 ≤ j → ∀ m ∈ (builtK.getD j default).meths, m.name = initB ∨ (hasZ (builtK.getD 0 default).meths m.name m.desc = -1 ∧ hasZ (builtK.getD 1 default).meths m.name m.desc = -1) := by decide
theorem built_keeps {cs : List ClassV} (he : EndsAll (kindsZ cs)) {j : Nat} (h : j < 13) : keepsZ (kindsZ cs) j = true := by
 have hl := kindsZ_len cs
 unfold keepsZ
 rw [List.all_eq_true, kindsZ_built h]
 intro m hm
 unfold keepsM
 split
 ·rfl
 ·rename_i hi
  rw [List.all_eq_true]
  intro u hu
  by_cases h0 : j = 0
  ·subst h0
   rw [show ((0 : Nat) : Int) = 0 from rfl, super_zero, upZ_end (x := -1) (by decide)] at hu
   cases hu
  have hz : upZ (kindsZ cs) 0 = [0] := by
   have := upZ_step he (x := 0) (by omega)
   rw [show ((0 : Nat) : Int) = 0 from rfl, super_zero, upZ_end (x := -1) (by decide)] at this
   exact this
  have ho : upZ (kindsZ cs) 1 = [1, 0] := by
   have := upZ_step he (x := 1) (by omega)
   rw [show ((1 : Nat) : Int) = 1 from rfl, super_one, hz] at this
   exact this
  have hu2 : u = 0 ∨ u = 1 := by
   rcases super_built (cs := cs) (show 1 ≤ j by omega) h with e | e
   ·rw [e, hz] at hu; left; simpa using hu
   ·rw [e, ho] at hu; simp at hu; omega
  have hk := (built_meths j h (by omega) m hm).resolve_left hi
  unfold keepAt
  rcases hu2 with rfl | rfl
  ·rw [kindsZ_built (show 0 < 13 by decide), hk.1, if_pos (by decide)]
  ·rw [kindsZ_built (show 1 < 13 by decide), hk.2, if_pos (by decide)]
theorem main_static (ks : List KindV) (hon : NamesOnce ks) (h13 : 13 < ks.length) : (mainZ ks).static = true ↔ ¬ hasZ (ks.getD 13 default).meths mainB voidB < 0 ∧ ((ks.getD 13 default).meths.getD (hasZ (ks.getD 13 default).meths mainB voidB).toNat default).flags = 8 := by
 unfold mainZ
 rw [ownZ_at hon h13]
 unfold ownAt
 by_cases h : hasZ (ks.getD 13 default).meths mainB voidB < 0
 ·rw [if_pos h]
  exact ⟨fun h => (by cases h), fun h' => absurd h h'.1⟩
 ·rw [if_neg h]
  show ((_ == 8) = true) ↔ _
  rw [beq_iff_eq]
  exact ⟨fun h' => ⟨h, h'⟩, fun h' => h'.2⟩
theorem main_none {cs : List ClassV} (h : ¬ 13 < (kindsZ cs).length) : (mainZ (kindsZ cs)).static = false := by
 have hl := kindsZ_len cs
 obtain rfl : cs = [] := List.length_eq_zero_iff.1 (by omega)
 decide
theorem rules_right {cs : List ClassV} (h0 : ∀ c ∈ cs, clsZ c = 0) : RuleK (kindsZ cs) ↔ RightK (kindsZ cs) := by
 have hfl : ∀ k ∈ kindsZ cs, FlagsL k.meths := fun k hk => (fine_all h0 k hk).mf
 constructor
 ·intro h
  have hon := once_all (cs := cs) (fun j h1 h2 => (h.r1 j h1 h2).2)
  have htp := leads_tops hon h.r2
  have he := ends_all htp
  refine ⟨fun j h1 h2 => ⟨h.r1 j h1 h2, h.r3 j h1 h2, h.r4 j h1 h2⟩, htp, fun j h1 h2 => agrees_keeps he hfl (fun j hj _ => built_keeps he hj) h.r5 _ j h2 (Nat.le_refl _), ?_⟩
  by_cases h13 : 13 < (kindsZ cs).length
  ·exact ⟨h13, (main_static _ hon h13).1 h.main⟩
  ·have := h.main
   rw [main_none h13] at this
   cases this
 ·intro h
  have hon := once_all (cs := cs) (fun j h1 h2 => (h.own j h1 h2).1.2)
  exact ⟨fun j h1 h2 => (h.own j h1 h2).1, tops_leads hon h.tops, fun j h1 h2 => (h.own j h1 h2).2.1, fun j h1 h2 => (h.own j h1 h2).2.2, fun j h1 h2 => keeps_agrees (by omega) h2 (h.keeps j h1 h2), (main_static _ hon h.main.1).2 h.main.2⟩
theorem builtK_names : ∀ j, j < 13 → ¬ (builtK.getD j default).name = ⟨#[]⟩ := by decide
theorem root_none {cs : List ClassV} (r1 : ∀ j, 13 ≤ j → j < (kindsZ cs).length → plainN (nums ((kindsZ cs).getD j default).name) = true ∧ findZ (kindsZ cs) ((kindsZ cs).getD j default).name = (j : Int)) : findZ (kindsZ cs) ((kindsZ cs).getD 0 default).super = -1 := by
 rw [show ((kindsZ cs).getD 0 default).super = ⟨#[]⟩ from rfl]
 rcases findZ_cases (kindsZ cs) ⟨#[]⟩ with e | ⟨i, hi, e⟩
 ·exact e
 ·have hh := find_hit e
  by_cases h13 : i < 13
  ·rw [kindsZ_built h13] at hh
   exact absurd hh.2 (builtK_names i h13)
  ·have h1 := (r1 i (by omega) hi).1
   rw [hh.2] at h1
   exact absurd h1 (by decide)
theorem rules_good {cs : List ClassV} (h0 : ∀ c ∈ cs, clsZ c = 0) (hl : cs.length ≤ 16) (r1 : ∀ j, 13 ≤ j → j < (kindsZ cs).length → plainN (nums ((kindsZ cs).getD j default).name) = true ∧ findZ (kindsZ cs) ((kindsZ cs).getD j default).name = (j : Int))
  (r2 : ∀ j, 13 ≤ j → j < (kindsZ cs).length → leadsZ (kindsZ cs) ((kindsZ cs).getD j default) = true) : GoodK (kindsZ cs) := by
 have hon := once_all (cs := cs) (fun j h1 h2 => (r1 j h1 h2).2)
 exact ⟨by rw [kindsZ_len]; omega, fine_small h0 hl, root_none r1, fine_all h0, ends_all (leads_tops hon r2), hon⟩
end Go.Proofs.YtinbelghhfodiaaGreatDoor
