/- The document's own Text and Holds of a type. No condition but a length that a text can have, and numbers of 64 bits. -/
import Derived.Test.YtcmceabkadgfiaaKndC
namespace Go.Proofs.Ytcmceabkadgfiaa
open Go.RowKit
set_option linter.unusedVariables false
set_option linter.unusedSimpArgs false

def TypeR (t : TypeV) : Prop := (-9223372036854775808 ≤ t.k ∧ t.k ≤ 9223372036854775807) ∧ (-9223372036854775808 ≤ t.dims ∧ t.dims ≤ 9223372036854775807) ∧ (-9223372036854775808 ≤ t.elem ∧ t.elem ≤ 9223372036854775807) ∧ (-9223372036854775808 ≤ t.at_ ∧ t.at_ ≤ 9223372036854775807) ∧ t.name.size ≤ 140737488351232
/-- The text of a type that is no array. -/
def refB (nm : ByteArray) : ByteArray := ⟨#[76]⟩ ++ nm ++ ⟨#[59]⟩
def baseText (t : TypeV) : ByteArray :=
  if t.k = 1 then (if eqT t ⟨1, ⟨#[]⟩, 0, 0, 0⟩ then ⟨#[73]⟩ else ⟨#[]⟩)
  else if t.k = 2 then (if eqT t ⟨2, ⟨#[]⟩, 0, 0, 0⟩ then ⟨#[74]⟩ else ⟨#[]⟩)
  else if t.k = 8 then (if eqT t ⟨8, ⟨#[]⟩, 0, 0, 0⟩ then ⟨#[86]⟩ else ⟨#[]⟩)
  else if t.k = 4 then (if plainN (nums t.name) && eqT t ⟨4, t.name, 0, 0, 0⟩ then refB t.name else ⟨#[]⟩)
  else ⟨#[]⟩
def preB : Nat → ByteArray → ByteArray
  | 0, s => s
  | n + 1, s => ⟨#[91]⟩ ++ preB n s
def badArr (t : TypeV) : Bool := (decide (t.dims < 1) || decide (4 < t.dims)) || (t.at_ != 0 || (t.elem != 1 && (t.elem != 2 && t.elem != 4)))
def textZ8 (t : TypeV) : ByteArray :=
  if t.k = 5 then (if badArr t then ⟨#[]⟩ else let s := baseText ⟨t.elem, t.name, 0, 0, 0⟩; if s = ⟨#[]⟩ then ⟨#[]⟩ else preB t.dims.toNat s) else baseText t
theorem refB_ne (nm : ByteArray) : refB nm ≠ ⟨#[]⟩ := fun e => by
  have h := congrArg ByteArray.size e
  unfold refB at h
  rw [ByteArray.size_append, ByteArray.size_append] at h
  have h1 : (⟨#[76]⟩ : ByteArray).size = 1 := rfl
  have h2 : (⟨#[]⟩ : ByteArray).size = 0 := rfl
  omega
theorem preB_size : ∀ (n : Nat) (s : ByteArray), (preB n s).size = n + s.size
  | 0, s => by simp [preB]
  | n + 1, s => by
    rw [preB, ByteArray.size_append, preB_size n s]
    have : (⟨#[91]⟩ : ByteArray).size = 1 := rfl
    omega
theorem preB_ne (n : Nat) {s : ByteArray} (h : s ≠ ⟨#[]⟩) : preB n s ≠ ⟨#[]⟩ := fun e => by
  have := congrArg ByteArray.size e
  rw [preB_size] at this
  have h0 : s.size ≠ 0 := fun h0 => h (nums_inj (List.eq_nil_of_length_eq_zero (by rw [nums_len]; exact h0)))
  have : (⟨#[]⟩ : ByteArray).size = 0 := rfl
  omega
theorem base_other {t : TypeV} (h1 : t.k ≠ 1) (h2 : t.k ≠ 2) (h3 : t.k ≠ 8) (h4 : t.k ≠ 4) : baseText t = ⟨#[]⟩ := by
  unfold baseText
  rw [if_neg h1, if_neg h2, if_neg h3, if_neg h4]

set_option maxHeartbeats 8000000 in
set_option maxRecDepth 100000 in
theorem refTextB (t : TypeV) (w : World) (h5 : t.k ≠ 5) (hn : t.name.size ≤ 140737488351232) :
    Calls Try.prog 20 #[valT t] w fun e w' => e = .returned (.string (baseText t)) ∧ Only (fun _ => False) w w' := by
  obtain ⟨k, nm, d, el, at_⟩ := t
  simp only at h5 hn
  have ho0 := (Only.refl (fun _ => False) w).alloc (.cells #[.int .i64 k, .string nm, .int .i64 d, .int .i64 el, .int .i64 at_] 23)
  obtain ⟨z, hz⟩ : ∃ z, z = baseText ⟨k, nm, d, el, at_⟩ := ⟨_, rfl⟩
  rw [← hz]
  have HO0 := Lib.hid ho0
  unfold valT
  simp only
  have g1 := guard_type
  clear ho0
  by_cases h1 : k = 1
  · subst h1
    have eq1 := fun w => eql_type ⟨1, nm, d, el, at_⟩ ⟨1, ⟨#[]⟩, 0, 0, 0⟩ w
    unfold valT at eq1
    simp only at eq1
    cases he : eqT ⟨1, nm, d, el, at_⟩ ⟨1, ⟨#[]⟩, 0, 0, 0⟩ with
    | false =>
      have HZ : Hid (z = ⟨#[]⟩) := Lib.hid (by rw [hz]; show (if eqT _ _ = true then _ else _) = _; rw [he]; rfl)
      rw [he] at eq1
      clear hz he h5
      go_enter Try.func20, Try.ntmps20
      go_wp2
      go_ret
      rw [HZ.out]
      exact ⟨rfl, HO0.out⟩
    | true =>
      have HZ : Hid (z = ⟨#[73]⟩) := Lib.hid (by rw [hz]; show (if eqT _ _ = true then _ else _) = _; rw [he]; rfl)
      rw [he] at eq1
      clear hz he h5
      go_enter Try.func20, Try.ntmps20
      go_wp2
      go_ret
      rw [HZ.out]
      exact ⟨rfl, HO0.out⟩
  by_cases h2 : k = 2
  · subst h2
    have eq1 := fun w => eql_type ⟨2, nm, d, el, at_⟩ ⟨2, ⟨#[]⟩, 0, 0, 0⟩ w
    unfold valT at eq1
    simp only at eq1
    cases he : eqT ⟨2, nm, d, el, at_⟩ ⟨2, ⟨#[]⟩, 0, 0, 0⟩ with
    | false =>
      have HZ : Hid (z = ⟨#[]⟩) := Lib.hid (by rw [hz]; show (if eqT _ _ = true then _ else _) = _; rw [he]; rfl)
      rw [he] at eq1
      clear hz he h5 h1
      go_enter Try.func20, Try.ntmps20
      go_wp2
      go_ret
      rw [HZ.out]
      exact ⟨rfl, HO0.out⟩
    | true =>
      have HZ : Hid (z = ⟨#[74]⟩) := Lib.hid (by rw [hz]; show (if eqT _ _ = true then _ else _) = _; rw [he]; rfl)
      rw [he] at eq1
      clear hz he h5 h1
      go_enter Try.func20, Try.ntmps20
      go_wp2
      go_ret
      rw [HZ.out]
      exact ⟨rfl, HO0.out⟩
  by_cases h3 : k = 8
  · subst h3
    have eq1 := fun w => eql_type ⟨8, nm, d, el, at_⟩ ⟨8, ⟨#[]⟩, 0, 0, 0⟩ w
    unfold valT at eq1
    simp only at eq1
    cases he : eqT ⟨8, nm, d, el, at_⟩ ⟨8, ⟨#[]⟩, 0, 0, 0⟩ with
    | false =>
      have HZ : Hid (z = ⟨#[]⟩) := Lib.hid (by rw [hz]; show (if eqT _ _ = true then _ else _) = _; rw [he]; rfl)
      rw [he] at eq1
      clear hz he h5 h1 h2
      go_enter Try.func20, Try.ntmps20
      go_wp2
      go_ret
      rw [HZ.out]
      exact ⟨rfl, HO0.out⟩
    | true =>
      have HZ : Hid (z = ⟨#[86]⟩) := Lib.hid (by rw [hz]; show (if eqT _ _ = true then _ else _) = _; rw [he]; rfl)
      rw [he] at eq1
      clear hz he h5 h1 h2
      go_enter Try.func20, Try.ntmps20
      go_wp2
      go_ret
      rw [HZ.out]
      exact ⟨rfl, HO0.out⟩
  have b1 : (k == 1) = false := by rw [beq_eq_false_iff_ne]; exact h1
  have b2 : (k == 2) = false := by rw [beq_eq_false_iff_ne]; exact h2
  have b3 : (k == 8) = false := by rw [beq_eq_false_iff_ne]; exact h3
  have b5 : (k == 5) = false := by rw [beq_eq_false_iff_ne]; exact h5
  by_cases h4 : k = 4
  · subst h4
    have hb0 := heap_alloc_new w (.cells #[.int .i64 4, .string nm, .int .i64 d, .int .i64 el, .int .i64 at_] 23)
    obtain ⟨q0, q1, q2, q3, q4⟩ := cells5T hb0
    have cp := fun w' => refPlainN nm w' (by omega)
    have hzz : z = if plainN (nums nm) && eqT ⟨4, nm, d, el, at_⟩ ⟨4, nm, 0, 0, 0⟩ then refB nm else ⟨#[]⟩ := by
      rw [hz]; rfl
    clear h5 h1 h2 h3 hz b1 b2 b3 b5 hb0
    cases hp : plainN (nums nm) with
    | false =>
      have HZ : Hid (z = ⟨#[]⟩) := Lib.hid (by rw [hzz, hp]; rfl)
      rw [hp] at cp
      have CP := Lib.hid cp
      clear cp hp hzz
      go_enter Try.func20, Try.ntmps20
      go_wp2_with (fail)
      refine (CP.out _).mono ?_
      rintro e w2 ⟨rfl, rfl⟩
      go_wp2
      go_ret
      rw [HZ.out]
      exact ⟨rfl, HO0.out⟩
    | true =>
      have eq1 := fun w => eql_type ⟨4, nm, d, el, at_⟩ ⟨4, nm, 0, 0, 0⟩ w
      unfold valT at eq1
      simp only at eq1
      rw [hp] at cp
      have CP := Lib.hid cp
      cases he : eqT ⟨4, nm, d, el, at_⟩ ⟨4, nm, 0, 0, 0⟩ with
      | false =>
        have HZ : Hid (z = ⟨#[]⟩) := Lib.hid (by rw [hzz, hp, he]; rfl)
        rw [he] at eq1
        clear cp hp hzz he
        go_enter Try.func20, Try.ntmps20
        go_wp2_with (fail)
        refine (CP.out _).mono ?_
        rintro e w2 ⟨rfl, rfl⟩
        go_wp2
        go_ret
        rw [HZ.out]
        exact ⟨rfl, HO0.out⟩
      | true =>
        have HZ : Hid (z = refB nm) := Lib.hid (by rw [hzz, hp, he]; rfl)
        rw [he] at eq1
        clear cp hp hzz he
        go_enter Try.func20, Try.ntmps20
        go_wp2_with (fail)
        refine (CP.out _).mono ?_
        rintro e w2 ⟨rfl, rfl⟩
        go_wp2
        go_ret
        rw [HZ.out]
        exact ⟨rfl, HO0.out⟩
  · have b4 : (k == 4) = false := by rw [beq_eq_false_iff_ne]; exact h4
    have HZ : Hid (z = ⟨#[]⟩) := Lib.hid (by rw [hz, base_other h1 h2 h3 h4])
    clear h1 h2 h3 h4 h5 hz
    go_enter Try.func20, Try.ntmps20
    go_wp2
    go_ret
    rw [HZ.out]
    exact ⟨rfl, HO0.out⟩

def holdsZ8 (t : TypeV) : TypeV × Bool := if t.k = 5 then (if 1 < t.dims then (⟨5, t.name, t.dims - 1, t.elem, t.at_⟩, true) else (⟨t.elem, t.name, 0, 0, 0⟩, true)) else (zeroT, false)
theorem box2T {w : World} {c d : Array Value} {s t : TypeId} : ((w.alloc (.cells c s)).alloc (.cells d t)).heap[w.heap.size + 1]? = some (.cells d t (0, 0)) := by
  have h2 := heap_alloc_new (w.alloc (.cells c s)) (.cells d t)
  simpa using h2
set_option maxHeartbeats 8000000 in
set_option maxRecDepth 100000 in
theorem refHolds (t : TypeV) (w : World) (hr : TypeR t) :
    Calls Try.prog 18 #[valT t] w fun e w' => e = .returned (.tuple #[valT (holdsZ8 t).1, .bool (holdsZ8 t).2]) ∧ Only (fun _ => False) w w' := by
  obtain ⟨k, nm, d, el, at_⟩ := t
  have hd := hr.2.1.2
  simp only at hd
  clear hr
  unfold holdsZ8
  simp only
  by_cases h5 : k = 5
  · subst h5
    rw [if_pos rfl]
    by_cases h1 : 1 < d
    · rw [if_pos h1]
      unfold valT
      simp only
      go_enter Try.func18, Try.ntmps18
      go_wp2
      exact bodyPost_ret (type_result2 (t := ⟨5, nm, d - 1, el, at_⟩) (b := w.heap.size + 1) Try.results18 box2T rfl rfl) rfl ⟨rfl, ((Only.refl _ w).alloc _).alloc _⟩
    · rw [if_neg h1]
      unfold valT
      simp only
      go_enter Try.func18, Try.ntmps18
      go_wp2
      exact bodyPost_ret (type_result2 (t := ⟨el, nm, 0, 0, 0⟩) (b := w.heap.size + 1) Try.results18 box2T rfl rfl) rfl ⟨rfl, ((Only.refl _ w).alloc _).alloc _⟩
  · rw [if_neg h5]
    have b5 : (k == 5) = false := by rw [beq_eq_false_iff_ne]; exact h5
    have b5' : (k != 5) = true := by rw [bne, b5]; rfl
    unfold valT
    simp only
    clear h5
    go_enter Try.func18, Try.ntmps18
    go_wp2
    exact bodyPost_ret (type_result2 (t := zeroT) (b := w.heap.size + 1) Try.results18 box2T rfl rfl) rfl ⟨rfl, ((Only.refl _ w).alloc _).alloc _⟩

theorem arr_bad {t : TypeV} (h5 : t.k = 5) (h : badArr t = true) : textZ8 t = ⟨#[]⟩ := by unfold textZ8; rw [if_pos h5, if_pos h]
theorem arr_none {t : TypeV} (h5 : t.k = 5) (h : badArr t = false) (hs : baseText ⟨t.elem, t.name, 0, 0, 0⟩ = ⟨#[]⟩) : textZ8 t = ⟨#[]⟩ := by unfold textZ8; rw [if_pos h5, h]; simp only [Bool.false_eq_true, if_false]; rw [if_pos hs]
theorem arr_some {t : TypeV} (h5 : t.k = 5) (h : badArr t = false) (hs : baseText ⟨t.elem, t.name, 0, 0, 0⟩ ≠ ⟨#[]⟩) : textZ8 t = preB t.dims.toNat (baseText ⟨t.elem, t.name, 0, 0, 0⟩) := by unfold textZ8; rw [if_pos h5, h]; simp only [Bool.false_eq_true, if_false]; rw [if_neg hs]
theorem base_size (t : TypeV) : (baseText t).size ≤ t.name.size + 2 := by
  have h1 : ∀ c, (⟨#[c]⟩ : ByteArray).size = 1 := fun _ => rfl
  have h0 : (⟨#[]⟩ : ByteArray).size = 0 := rfl
  unfold baseText refB
  repeat' split
  all_goals simp only [ByteArray.size_append, h1, h0]
  all_goals omega
set_option maxHeartbeats 16000000 in
set_option maxRecDepth 100000 in
theorem refKText (t : TypeV) (w : World) (hr : TypeR t) :
    Calls Try.prog 20 #[valT t] w fun e w' => e = .returned (.string (textZ8 t)) ∧ Only (fun _ => False) w w' := by
  by_cases h5 : t.k = 5
  · obtain ⟨k, nm, d, el, at_⟩ := t
    simp only at h5
    subst h5
    have hn := hr.2.2.2.2
    simp only at hn
    have ho0 := (Only.refl (fun _ => False) w).alloc (.cells #[.int .i64 5, .string nm, .int .i64 d, .int .i64 el, .int .i64 at_] 23)
    have hb0 := heap_alloc_new w (.cells #[.int .i64 5, .string nm, .int .i64 d, .int .i64 el, .int .i64 at_] 23)
    have HO0 := Lib.hid ho0
    have HB0 := Lib.hid hb0
    obtain ⟨z, hz⟩ : ∃ z, z = textZ8 ⟨5, nm, d, el, at_⟩ := ⟨_, rfl⟩
    rw [← hz]
    unfold valT
    simp only
    clear ho0 hb0 hr
    by_cases d1 : d < 1
    · have HZ := Lib.hid (hz.trans (arr_bad rfl (by simp [badArr, d1])))
      clear hz
      go_enter Try.func20, Try.ntmps20
      go_wp2
      go_ret
      rw [HZ.out]
      exact ⟨rfl, HO0.out⟩
    by_cases d4 : 4 < d
    · have HZ := Lib.hid (hz.trans (arr_bad rfl (by simp [badArr, d4])))
      clear hz
      go_enter Try.func20, Try.ntmps20
      go_wp2
      go_ret
      rw [HZ.out]
      exact ⟨rfl, HO0.out⟩
    by_cases a0 : at_ = 0
    · have a1 : (at_ == 0) = true := by rw [a0]; rfl
      have a2 : (at_ != 0) = false := by rw [bne, a1]; rfl
      by_cases he : el = 1 ∨ el = 2 ∨ el = 4
      · obtain ⟨n, rfl⟩ := Int.eq_ofNat_of_zero_le (show 0 ≤ d by omega)
        have hgood : badArr ⟨5, nm, n, el, at_⟩ = false := by
          unfold badArr
          have x1 : decide ((n : Int) < 1) = false := by simpa using d1
          have x2 : decide ((4 : Int) < (n : Int)) = false := by simpa using d4
          simp only [x1, x2, a2, Bool.or_self, Bool.false_or]
          rcases he with rfl | rfl | rfl <;> decide
        have hbs := base_size ⟨el, nm, 0, 0, 0⟩
        have ct := fun w' => refTextB ⟨el, nm, 0, 0, 0⟩ w' (by simp only; omega) hn
        have hz2 := fun hs => hz.trans (arr_none (t := ⟨5, nm, n, el, at_⟩) rfl hgood hs)
        have hz3 := fun hs => hz.trans (arr_some (t := ⟨5, nm, n, el, at_⟩) rfl hgood hs)
        unfold valT at ct
        simp only at hbs ct hz2 hz3
        rw [Int.toNat_natCast] at hz3
        subst a0
        generalize baseText ⟨el, nm, 0, 0, 0⟩ = bs at *
        have CT := Lib.hid ct
        have HBS := Lib.hid hbs
        have hn1 : ¬ (n : Int) < 1 := d1
        have hn4 : ¬ (4 : Int) < (n : Int) := d4
        clear ct hz hgood hbs a1 a2
        by_cases hs : bs = ⟨#[]⟩
        · have HZ := Lib.hid (hz2 hs)
          subst hs
          clear hz2 hz3
          have hle := toList_empty
          rcases he with rfl | rfl | rfl
          all_goals
            go_enter Try.func20, Try.ntmps20
            go_wp2_with (fail)
            refine (CT.out _).mono ?_
            rintro e w2 ⟨rfl, ho2⟩
            have hb2 := ho2.heap HB0.out (fun h => h)
            obtain ⟨q0, q1, q2, q3, q4⟩ := cells5T hb2
            have HO2 := Lib.hid (HO0.out.trans ho2 (fun _ h _ => h))
            clear hb2 ho2
            go_wp2
            go_loop [3, 4] (fun s i => s = .string ⟨#[]⟩ ∧ i = .int .i64 0) (fun _ _ => 0)
            case atStart => exact ⟨rfl, rfl⟩
            case round =>
              obtain ⟨rfl, rfl⟩ := hrel
              go_wp2
              go_ret
              rw [HZ.out]
              exact ⟨rfl, HO2.out⟩
        · have HZ := Lib.hid (hz3 hs)
          have HNE := Lib.hid (fun i => toList_ne (preB_ne i hs))
          have HPS := Lib.hid (fun i => preB_size i bs)
          clear hz2 hz3 hs
          rcases he with rfl | rfl | rfl
          all_goals
            go_enter Try.func20, Try.ntmps20
            go_wp2_with (fail)
            refine (CT.out _).mono ?_
            rintro e w2 ⟨rfl, ho2⟩
            have hb2 := ho2.heap HB0.out (fun h => h)
            obtain ⟨q0, q1, q2, q3, q4⟩ := cells5T hb2
            have HO2 := Lib.hid (HO0.out.trans ho2 (fun _ h _ => h))
            clear hb2 ho2
            go_wp2
            go_loop [3, 4] (fun s i => ∃ j : Nat, s = .string (preB j bs) ∧ i = .int .i64 j ∧ j ≤ n) (fun _ i => n - (intOf i).toNat)
            case atStart => exact ⟨0, rfl, rfl, Nat.zero_le _⟩
            case round =>
              obtain ⟨j, rfl, rfl, hj⟩ := hrel
              by_cases hlt : j < n
              · have hjz : (j : Int) < (n : Int) := by omega
                obtain ⟨e1, e2⟩ := HNE.out j
                have hps : (preB j bs).size ≤ 140737488351238 := by have := HPS.out j; have := HBS.out; omega
                have hnx : (⟨#[91]⟩ : ByteArray) ++ preB j bs = preB (j + 1) bs := rfl
                go_wp2
                go_round
                case rel => exact ⟨j + 1, rfl, by go_num, by omega⟩
                case measure => simp [intOf]; omega
              · obtain rfl : j = n := by omega
                clear hlt hj
                go_wp2
                go_ret
                rw [HZ.out]
                exact ⟨rfl, HO2.out⟩
      · have e1 : (el == 1) = false := by rw [beq_eq_false_iff_ne]; omega
        have e2 : (el == 2) = false := by rw [beq_eq_false_iff_ne]; omega
        have e4 : (el == 4) = false := by rw [beq_eq_false_iff_ne]; omega
        have HZ := Lib.hid (hz.trans (arr_bad rfl (by simp only [badArr, bne, e1, e2, e4]; simp)))
        have e1' : (el != 1) = true := by rw [bne, e1]; rfl
        have e2' : (el != 2) = true := by rw [bne, e2]; rfl
        have e4' : (el != 4) = true := by rw [bne, e4]; rfl
        subst a0
        clear hz he a1 a2
        go_enter Try.func20, Try.ntmps20
        go_wp2
        go_ret
        rw [HZ.out]
        exact ⟨rfl, HO0.out⟩
    · have a1 : (at_ == 0) = false := by rw [beq_eq_false_iff_ne]; exact a0
      have a2 : (at_ != 0) = true := by rw [bne, a1]; rfl
      have HZ := Lib.hid (hz.trans (arr_bad rfl (by simp only [badArr, a2]; simp)))
      clear hz a0
      go_enter Try.func20, Try.ntmps20
      go_wp2
      go_ret
      rw [HZ.out]
      exact ⟨rfl, HO0.out⟩
  · have hz : textZ8 t = baseText t := by unfold textZ8; rw [if_neg h5]
    rw [hz]
    exact refTextB t w h5 hr.2.2.2.2
end Go.Proofs.Ytcmceabkadgfiaa
