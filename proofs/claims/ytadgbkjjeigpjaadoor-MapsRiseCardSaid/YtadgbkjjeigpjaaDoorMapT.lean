/- The program's Type. Condition: a text that can be. -/
import Derived.Test.YtadgbkjjeigpjaaDoorMapTr
import Derived.Test.YtadgbkjjeigpjaaDoorKndU
import Derived.Test.YtadgbkjjeigpjaaDoorKndSh
namespace Go.Proofs.YtadgbkjjeigpjaaDoor
open Go.RowKit
set_option linter.unusedVariables false
set_option linter.unusedSimpArgs false

set_option maxHeartbeats 4000000 in
set_option maxRecDepth 100000 in
theorem progMType (s : ByteArray) (w : World) (hs : s.size ≤ 140737488351232) : Calls Tryd.prog 19 #[.string s] w (TypeTo w s) := by
  have hr0 := heap_alloc_new w (.cells #[.int .i64 0, .string ⟨#[]⟩, .int .i64 0, .int .i64 0, .int .i64 0] 39)
  have ho0 := (Only.refl (fun _ => False) w).alloc (.cells #[.int .i64 0, .string ⟨#[]⟩, .int .i64 0, .int .i64 0, .int .i64 0] 39)
  have cH := hasHead s 91 (w.alloc (.cells #[.int .i64 0, .string ⟨#[]⟩, .int .i64 0, .int .i64 0, .int .i64 0] 39))
  have hH : headIs (91 : UInt8).toNat (nums s) = headIs1 (nums s) := rfl
  rw [hH] at cH
  have hrs : (refB s).size = s.size + 2 := by unfold refB; simp only [ByteArray.size_append]; show 1 + s.size + 1 = _; omega
  cases hh : headIs1 (nums s) with
  | true =>
    rw [hh] at cH
    have he := typeN_arr hh
    obtain ⟨o, ho⟩ : ∃ o, oneZ8 (nums s) = o := ⟨_, rfl⟩
    have cF := fun w => progField s w (by omega)
    rw [ho] at he
    unfold OneTo valT at cF
    simp only [ho] at cF
    obtain ⟨t, ht⟩ : ∃ t, typO o = t := ⟨_, rfl⟩
    obtain ⟨er, her⟩ : ∃ er, errO o = er := ⟨_, rfl⟩
    rw [ht, her] at cF
    have HQ := Lib.hid (show TypeTo w s = fun e w' => e = .returned (.tuple #[valT t, .bool (er == 0)]) ∧ Only (fun _ => False) w w' by unfold TypeTo; rw [he, ht, ← errO_eq, her])
    have CF := Lib.hid cF
    have CH := Lib.hid cH
    have HR0 := Lib.hid hr0
    have HO0 := Lib.hid ho0
    clear cF cH he ho ht her hr0 ho0 hh hH hrs
    go_enter Tryd.func19, Tryd.ntmps19
    rw [HQ.out]
    go_wp2_with (fail)
    refine CH.out.mono ?_
    rintro e w1 ⟨rfl, rfl⟩
    go_wp2_with (fail)
    refine (CF.out _).mono ?_
    rintro e w1 ⟨rfl, ho1⟩
    have hal := (Only.refl (fun _ => False) w1).alloc (.cells #[.int .i64 t.k, .string t.name, .int .i64 t.dims, .int .i64 t.elem, .int .i64 t.at_] 39)
    have hr1 := hal.heap (ho1.heap HR0.out (fun h => h)) (fun h => h)
    have HON1 := Lib.hid ((HO0.out.trans ho1 (fun _ h _ => h)).trans hal (fun _ h _ => h))
    obtain ⟨f0, f1, f2, f3, f4⟩ := marks5T hr1
    obtain ⟨q0, q1, q2, q3, q4⟩ := cells5T hr1
    have HR1 := Lib.hid hr1
    clear hr1 ho1 hal CF CH
    go_wp2
    exact bodyPost_ret (type_result2 (t := t) (b := w.heap.size) Tryd.results19 (store5T HR1.out) rfl rfl) rfl ⟨rfl, only5T HON1.out (fun hl => absurd hl (Nat.lt_irrefl _))⟩
  | false =>
    rw [hh] at cH
    have he := typeN_name hh
    rw [← desc_name] at he
    obtain ⟨o, ho⟩ : ∃ o, oneZ8 (nums (refB s)) = o := ⟨_, rfl⟩
    have cF := fun w => progField (refB s) w (by omega)
    rw [ho] at he
    unfold OneTo valT at cF
    simp only [ho] at cF
    obtain ⟨t, ht⟩ : ∃ t, typO o = t := ⟨_, rfl⟩
    obtain ⟨er, her⟩ : ∃ er, errO o = er := ⟨_, rfl⟩
    rw [ht, her] at cF
    unfold refB at cF
    have HQ := Lib.hid (show TypeTo w s = fun e w' => e = .returned (.tuple #[valT t, .bool (er == 0)]) ∧ Only (fun _ => False) w w' by unfold TypeTo; rw [he, ht, ← errO_eq, her])
    have CF := Lib.hid cF
    have CH := Lib.hid cH
    have HR0 := Lib.hid hr0
    have HO0 := Lib.hid ho0
    clear cF cH he ho ht her hr0 ho0 hh hH hrs
    go_enter Tryd.func19, Tryd.ntmps19
    rw [HQ.out]
    go_wp2_with (fail)
    refine CH.out.mono ?_
    rintro e w1 ⟨rfl, rfl⟩
    go_wp2_with (fail)
    refine (CF.out _).mono ?_
    rintro e w1 ⟨rfl, ho1⟩
    have hal := (Only.refl (fun _ => False) w1).alloc (.cells #[.int .i64 t.k, .string t.name, .int .i64 t.dims, .int .i64 t.elem, .int .i64 t.at_] 39)
    have hr1 := hal.heap (ho1.heap HR0.out (fun h => h)) (fun h => h)
    have HON1 := Lib.hid ((HO0.out.trans ho1 (fun _ h _ => h)).trans hal (fun _ h _ => h))
    obtain ⟨f0, f1, f2, f3, f4⟩ := marks5T hr1
    obtain ⟨q0, q1, q2, q3, q4⟩ := cells5T hr1
    have HR1 := Lib.hid hr1
    clear hr1 ho1 hal CF CH
    go_wp2
    exact bodyPost_ret (type_result2 (t := t) (b := w.heap.size) Tryd.results19 (store5T HR1.out) rfl rfl) rfl ⟨rfl, only5T HON1.out (fun hl => absurd hl (Nat.lt_irrefl _))⟩
end Go.Proofs.YtadgbkjjeigpjaaDoor
