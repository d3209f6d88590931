/- The program's first and Field: the type at the beginning of a text, and of a whole text. No condition but a length that a text can have. -/
import Derived.Test.YtadgbkjjeigpjaaDoorKndP
namespace Go.Proofs.YtadgbkjjeigpjaaDoor
open Go.RowKit
set_option linter.unusedVariables false
set_option linter.unusedSimpArgs false

theorem type_alone {fn : Func} {p : Tmp} (hr : fn.results = #[.cell p 39]) {w : World} {b : Nat} {i : TypeV} {tmps : Array Value} (h : w.heap[b]? = some (.cells #[.int .i64 i.k, .string i.name, .int .i64 i.dims, .int .i64 i.elem, .int .i64 i.at_] 39 (0, 0))) (ht : tmps.getD p undef = .pointer (some ⟨b, 0, none⟩)) :
    (results fn tmps).run Tryd.prog w = .ok (valT i) w :=
  results_cell_row hr tmps w b 39 _ (0, 0) _ ht h Tryd.underlying39 rfl info5_type
def dimT (t : TypeV) (d : Nat) : TypeV := if d = 0 then t else ⟨5, t.name, d, t.k, 0⟩
theorem arr_dim (d : Nat) (k : Int) (nm : ByteArray) : arrT d k nm = dimT (arrT 0 k nm) d := by
  unfold arrT dimT
  by_cases h : d = 0
  · subst h; rfl
  · rw [if_pos (by omega), if_neg h]
    rfl
theorem base_lift {d : Nat} (hd : ¬ 4 < d) (zs : List Int) : baseZ d zs = (baseZ 0 zs).map (fun q => (dimT q.1 d, q.2)) := by
  cases zs with
  | nil => rfl
  | cons c r =>
    unfold baseZ
    simp only
    rw [if_neg hd, if_neg (by omega : ¬ 4 < 0)]
    by_cases h1 : c = 73
    · rw [if_pos h1, if_pos h1, arr_dim]; rfl
    rw [if_neg h1, if_neg h1]
    by_cases h2 : c = 74
    · rw [if_pos h2, if_pos h2, arr_dim]; rfl
    rw [if_neg h2, if_neg h2]
    by_cases h3 : c = 76
    · rw [if_pos h3, if_pos h3]
      by_cases h4 : semiZ r = r.length
      · rw [if_pos h4, if_pos h4]; rfl
      rw [if_neg h4, if_neg h4]
      cases plainN (r.take (semiZ r))
      · rfl
      · simp only [if_pos]
        rw [arr_dim]; rfl
    · rw [if_neg h3, if_neg h3]; rfl
set_option maxHeartbeats 2000000 in
set_option maxRecDepth 100000 in
theorem progDims (t : TypeV) (d : Nat) (w : World) :
    Calls Tryd.prog 68 #[valT t, .int .i64 d] w fun e w' => e = .returned (valT (dimT t d)) ∧ Only (fun _ => False) w w' := by
  obtain ⟨k, nm, dd, el, at_⟩ := t
  unfold valT
  simp only
  by_cases h : d = 0
  · subst h
    have e : dimT ⟨k, nm, dd, el, at_⟩ 0 = ⟨k, nm, dd, el, at_⟩ := rfl
    rw [e]
    go_enter Tryd.func68, Tryd.ntmps68
    go_wp2
    exact bodyPost_ret (type_alone (i := ⟨k, nm, dd, el, at_⟩) (b := w.heap.size + 1) Tryd.results68 box2T rfl) rfl ⟨rfl, ((Only.refl _ w).alloc _).alloc _⟩
  · have hd : ((d : Int) == 0) = false := by rw [beq_eq_false_iff_ne]; omega
    have e : dimT ⟨k, nm, dd, el, at_⟩ d = ⟨5, nm, d, k, 0⟩ := by unfold dimT; rw [if_neg h]
    rw [e]
    clear h e
    go_enter Tryd.func68, Tryd.ntmps68
    go_wp2
    exact bodyPost_ret (type_alone (i := ⟨5, nm, d, k, 0⟩) (b := w.heap.size + 1) Tryd.results68 box2T rfl) rfl ⟨rfl, ((Only.refl _ w).alloc _).alloc _⟩

set_option maxHeartbeats 8000000 in
set_option maxRecDepth 100000 in
theorem progFirst (s : ByteArray) (w : World) (hs : s.size ≤ 281474976710656) :
    Calls Tryd.prog 54 #[.string s] w (FlatTo w s.size (fieldZ (nums s))) := by
  obtain ⟨r, hr⟩ : ∃ r, r = fieldZ (nums s) := ⟨_, rfl⟩
  rw [← hr]
  have HR := Lib.hid hr
  have hz := heap_alloc_new w (.cells #[.int .i64 0, .string ⟨#[]⟩, .int .i64 0, .int .i64 0, .int .i64 0] 39)
  have ho0 := (Only.refl (fun _ => False) w).alloc (.cells #[.int .i64 0, .string ⟨#[]⟩, .int .i64 0, .int .i64 0, .int .i64 0] 39)
  have HZ := Lib.hid hz
  have HO := Lib.hid ho0
  obtain ⟨m, hm⟩ : ∃ m : Nat, m = min s.size 5 := ⟨_, rfl⟩
  have hmz : min (s.size : Int) 5 = (m : Int) := by omega
  have hms : m ≤ s.size := by omega
  have hm5 : m ≤ 5 := by omega
  have HM := Lib.hid hm
  clear hr hz ho0 hm
  go_enter Tryd.func54, Tryd.ntmps54
  go_wp2
  go_loop [10] (fun d => ∃ (j : Nat), d = .int .i64 j ∧ j ≤ m ∧ dimsZ (nums s) = j + dimsZ ((nums s).drop j)) (fun d => m - (intOf d).toNat)
  case atStart => exact ⟨0, rfl, Nat.zero_le _, by simp⟩
  case round =>
    obtain ⟨j, rfl, hj, hdm⟩ := hrel
    have HDM := Lib.hid hdm
    clear hdm
    by_cases hlt : j < m
    · have hjz : (j : Int) < (m : Int) := by omega
      have hjs : j < s.size := by omega
      have hjsz : (j : Int) < (s.size : Int) := by omega
      have hg := nums_at hjs
      by_cases hc : ((s[j].toNat : Nat) : Int) = 91
      · have HN : Hid (dimsZ (nums s) = (j + 1) + dimsZ ((nums s).drop (j + 1))) := Lib.hid (dims_step (by rw [nums_len]; omega) HDM.out (by rw [hg]; exact hc))
        clear hg
        go_wp2
        go_round
        case rel => exact ⟨j + 1, by go_num, by omega, HN.out⟩
        case measure => simp [intOf]; omega
      · have hcb : (((s[j].toNat : Nat) : Int) == 91) = false := by rw [beq_eq_false_iff_ne]; exact hc
        have hdz := dims_stop (by rw [nums_len]; omega) HDM.out (.inr (by rw [hg]; exact hc))
        have hrb : r = (baseZ 0 ((nums s).drop j)).map (fun q => (dimT q.1 j, q.2)) := by rw [HR.out, fieldZ, hdz, base_lift (by omega)]
        obtain ⟨x, hx⟩ : ∃ x, x = s.extract j s.size := ⟨_, rfl⟩
        have hxs : x.size + j = s.size := by rw [hx]; simp; omega
        have hxn : nums x = (nums s).drop j := by rw [hx, nums_rest]
        have cf := fun w => progFlat x w (by omega) (by omega)
        rw [hxn] at cf
        have HXS := Lib.hid hxs
        cases hb : baseZ 0 ((nums s).drop j) with
        | none =>
          rw [hb] at cf hrb
          have HB := Lib.hid (show r = none by rw [hrb]; rfl)
          unfold FlatTo typF sizeF zeroT valT at cf
          simp only at cf
          have CF := Lib.hid cf
          clear cf hrb hb hxn hxs hdz hg hc HR
          go_wp2_with (fail)
          rw [← hx]
          refine (CF.out _).mono ?_
          rintro e w1 ⟨rfl, ho1⟩
          have hal := (Only.refl (fun _ => False) w1).alloc (.cells #[.int .i64 0, .string ⟨#[]⟩, .int .i64 0, .int .i64 0, .int .i64 0] 39)
          have hz1 := hal.heap (ho1.heap HZ.out (fun h => h)) (fun h => h)
          obtain ⟨f0, f1, f2, f3, f4⟩ := marks5T hz1
          obtain ⟨q0, q1, q2, q3, q4⟩ := cells5T hz1
          have HZ1 := Lib.hid hz1
          have HO1 := Lib.hid ((HO.out.trans ho1 (fun _ h _ => h)).trans hal (fun _ h _ => h))
          clear ho1 hz1 hal CF
          go_wp2
          exact bodyPost_ret (type_result2 (t := zeroT) (b := w.heap.size) Tryd.results54 (store5T HZ1.out) rfl rfl) rfl (FlatTo.no HB.out (only5T HO1.out (fun hl => absurd hl (Nat.lt_irrefl _))))
        | some q =>
          obtain ⟨t, rest⟩ := q
          obtain ⟨n, hn1, hn2⟩ := base_rest hb
          rw [List.length_drop, nums_len] at hn2
          rw [hb] at cf hrb
          have HB := Lib.hid (show r = some (dimT t j, rest) by rw [hrb]; rfl)
          unfold FlatTo typF sizeF at cf
          simp only at cf
          obtain ⟨z, hzz⟩ : ∃ z : Nat, z = x.size - rest.length := ⟨_, rfl⟩
          rw [← hzz] at cf
          have hz0 : ((z : Int) == 0) = false := by rw [beq_eq_false_iff_ne]; omega
          have hzle : z ≤ s.size := by omega
          have hjzz : (j : Int) + (z : Int) = ((s.size - rest.length : Nat) : Int) := by omega
          have HJZ := Lib.hid hjzz
          have hjle : (j : Int) ≤ 5 := by omega
          have hzz2 : (z : Int) ≤ 281474976710656 := by omega
          have cd := fun w => progDims t j w
          obtain ⟨y, hy⟩ : ∃ y, y = dimT t j := ⟨_, rfl⟩
          rw [← hy] at HB cd
          unfold valT at cf cd
          have CF := Lib.hid cf
          have CD := Lib.hid cd
          clear cf cd hrb hb hxn hxs hdz hg hc HR hn1 hn2 hzz hjzz hy
          go_wp2_with (fail)
          rw [← hx]
          refine (CF.out _).mono ?_
          rintro e w1 ⟨rfl, ho1⟩
          have hal := (Only.refl (fun _ => False) w1).alloc (.cells #[.int .i64 t.k, .string t.name, .int .i64 t.dims, .int .i64 t.elem, .int .i64 t.at_] 39)
          have hz1 := hal.heap (ho1.heap HZ.out (fun h => h)) (fun h => h)
          have HZ1 := Lib.hid hz1
          have HO1 := Lib.hid ((HO.out.trans ho1 (fun _ h _ => h)).trans hal (fun _ h _ => h))
          clear ho1 hz1 hal CF
          go_wp2_with (fail)
          refine (CD.out _).mono ?_
          rintro e w2 ⟨rfl, ho2⟩
          have hz2 := ho2.heap HZ1.out (fun h => h)
          obtain ⟨f0, f1, f2, f3, f4⟩ := marks5T hz2
          obtain ⟨q0, q1, q2, q3, q4⟩ := cells5T hz2
          have HZ2 := Lib.hid hz2
          have HO2 := Lib.hid (HO1.out.trans ho2 (fun _ h _ => h))
          clear ho2 hz2 CD
          go_wp2
          exact bodyPost_ret (type_result2 (t := y) (b := w.heap.size) Tryd.results54 (store5T HZ2.out) rfl rfl) rfl (FlatTo.yes HB.out (by rw [← HJZ.out]) (only5T HO2.out (fun hl => absurd hl (Nat.lt_irrefl _))))
    · obtain rfl : j = m := by omega
      have HB : Hid (r = none) := by
        refine Lib.hid ?_
        rw [HR.out]
        unfold fieldZ
        by_cases h5 : s.size < 5
        · have hjs : j = (nums s).length := by rw [nums_len]; have := HM.out; omega
          rw [dims_stop (j := j) (by omega) HDM.out (.inl hjs), hjs, List.drop_length]
          rfl
        · exact base_deep _ (by have := HDM.out; have := HM.out; omega)
      have q := cells5T HZ.out
      have f := marks5T HZ.out
      obtain ⟨f0, f1, f2, f3, f4⟩ := f
      obtain ⟨q0, q1, q2, q3, q4⟩ := q
      clear hlt hj
      go_wp2
      exact bodyPost_ret (type_result2 (t := zeroT) (b := w.heap.size) Tryd.results54 (heap_alloc_new w _) rfl rfl) rfl (FlatTo.no HB.out HO.out)
end Go.Proofs.YtadgbkjjeigpjaaDoor
