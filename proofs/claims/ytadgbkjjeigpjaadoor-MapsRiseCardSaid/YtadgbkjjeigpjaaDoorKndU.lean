/- The program's Field, result, params, Method. No condition but a length that a text can have. -/
import Derived.Test.YtadgbkjjeigpjaaDoorKndQ
import Derived.Test.YtadgbkjjeigpjaaDoorKndM
namespace Go.Proofs.YtadgbkjjeigpjaaDoor
open Go.RowKit
set_option linter.unusedVariables false
set_option linter.unusedSimpArgs false

def OneTo (w : World) (o : Option TypeV) (e : Ending) (w' : World) : Prop := e = .returned (.tuple #[valT (typO o), .int .i64 (errO o)]) ∧ Only (fun _ => False) w w'
theorem OneTo.no {w w' : World} {o : Option TypeV} (h : o = none) (ho : Only (fun _ => False) w w') : OneTo w o (.returned (.tuple #[valT zeroT, .int .i64 80])) w' := by subst h; exact ⟨rfl, ho⟩
theorem OneTo.yes {w w' : World} {o : Option TypeV} {t : TypeV} (h : o = some t) (ho : Only (fun _ => False) w w') : OneTo w o (.returned (.tuple #[valT t, .int .i64 0])) w' := by subst h; exact ⟨rfl, ho⟩
set_option maxHeartbeats 4000000 in
set_option maxRecDepth 100000 in
theorem progField (s : ByteArray) (w : World) (hs : s.size ≤ 281474976710656) :
    Calls Tryd.prog 37 #[.string s] w (OneTo w (oneZ8 (nums s))) := by
  have hr0 := heap_alloc_new w (.cells #[.int .i64 0, .string ⟨#[]⟩, .int .i64 0, .int .i64 0, .int .i64 0] 39)
  have ho0 := (Only.refl (fun _ => False) w).alloc (.cells #[.int .i64 0, .string ⟨#[]⟩, .int .i64 0, .int .i64 0, .int .i64 0] 39)
  have c1 := progFirst s (w.alloc (.cells #[.int .i64 0, .string ⟨#[]⟩, .int .i64 0, .int .i64 0, .int .i64 0] 39)) hs
  obtain ⟨o, ho⟩ : ∃ o, o = oneZ8 (nums s) := ⟨_, rfl⟩
  rw [← ho]
  unfold oneZ8 at ho
  have HR0 := Lib.hid hr0
  have HO0 := Lib.hid ho0
  clear hr0 ho0
  cases hf : fieldZ (nums s) with
  | none =>
    rw [hf] at c1 ho
    simp only at ho
    have HOO := Lib.hid ho
    unfold FlatTo typF sizeF zeroT valT at c1
    simp only at c1
    have C1 := Lib.hid c1
    clear c1 hf ho
    go_enter Tryd.func37, Tryd.ntmps37
    go_wp2_with (fail)
    refine C1.out.mono ?_
    rintro e w1 ⟨rfl, ho1⟩
    have hal := (Only.refl (fun _ => False) w1).alloc (.cells #[.int .i64 0, .string ⟨#[]⟩, .int .i64 0, .int .i64 0, .int .i64 0] 39)
    have hr1 := hal.heap (ho1.heap HR0.out (fun h => h)) (fun h => h)
    have HON1 := Lib.hid ((HO0.out.trans ho1 (fun _ h _ => h)).trans hal (fun _ h _ => h))
    obtain ⟨f0, f1, f2, f3, f4⟩ := marks5T hr1
    obtain ⟨q0, q1, q2, q3, q4⟩ := cells5T hr1
    have HR1 := Lib.hid hr1
    clear hal hr1 ho1 C1
    go_wp2
    exact bodyPost_ret (type_result2 (t := zeroT) (b := w.heap.size) Tryd.results37 (store5T HR1.out) rfl rfl) rfl (OneTo.no HOO.out (only5T HON1.out (fun hl => absurd hl (Nat.lt_irrefl _))))
  | some q =>
    obtain ⟨t, r⟩ := q
    rw [hf] at c1 ho
    obtain ⟨n, hn, hlt⟩ := field_rest hf
    rw [nums_len] at hlt
    unfold FlatTo typF sizeF valT at c1
    simp only at c1 ho
    obtain ⟨z, hz⟩ : ∃ z : Nat, z = s.size - r.length := ⟨_, rfl⟩
    rw [← hz] at c1
    have hz0 : ((z : Int) == 0) = false := by rw [beq_eq_false_iff_ne]; omega
    by_cases hr : r = []
    · subst hr
      simp only at ho
      have HOO := Lib.hid ho
      have hzs : ¬ (z : Int) < (s.size : Int) := by rw [hz, List.length_nil]; omega
      have C1 := Lib.hid c1
      clear c1 hf hn ho hz hlt
      go_enter Tryd.func37, Tryd.ntmps37
      go_wp2_with (fail)
      refine C1.out.mono ?_
      rintro e w1 ⟨rfl, ho1⟩
      have hal := (Only.refl (fun _ => False) w1).alloc (.cells #[.int .i64 t.k, .string t.name, .int .i64 t.dims, .int .i64 t.elem, .int .i64 t.at_] 39)
      have hr1 := hal.heap (ho1.heap HR0.out (fun h => h)) (fun h => h)
      have HON1 := Lib.hid ((HO0.out.trans ho1 (fun _ h _ => h)).trans hal (fun _ h _ => h))
      obtain ⟨f0, f1, f2, f3, f4⟩ := marks5T hr1
      obtain ⟨q0, q1, q2, q3, q4⟩ := cells5T hr1
      have HR1 := Lib.hid hr1
      clear hal hr1 ho1 C1
      go_wp2
      exact bodyPost_ret (type_result2 (t := t) (b := w.heap.size) Tryd.results37 (store5T HR1.out) rfl rfl) rfl (OneTo.yes HOO.out (only5T HON1.out (fun hl => absurd hl (Nat.lt_irrefl _))))
    · have ho' : o = none := by
        rw [ho]
        cases r with
        | nil => exact absurd rfl hr
        | cons _ _ => rfl
      have HOO := Lib.hid ho'
      have hrl : 0 < r.length := List.length_pos_iff.2 hr
      have hzs : (z : Int) < (s.size : Int) := by omega
      have C1 := Lib.hid c1
      clear c1 hf hn hr ho hz hlt ho'
      go_enter Tryd.func37, Tryd.ntmps37
      go_wp2_with (fail)
      refine C1.out.mono ?_
      rintro e w1 ⟨rfl, ho1⟩
      have hal := (Only.refl (fun _ => False) w1).alloc (.cells #[.int .i64 t.k, .string t.name, .int .i64 t.dims, .int .i64 t.elem, .int .i64 t.at_] 39)
      have hr1 := hal.heap (ho1.heap HR0.out (fun h => h)) (fun h => h)
      have HON1 := Lib.hid ((HO0.out.trans ho1 (fun _ h _ => h)).trans hal (fun _ h _ => h))
      obtain ⟨f0, f1, f2, f3, f4⟩ := marks5T hr1
      obtain ⟨q0, q1, q2, q3, q4⟩ := cells5T hr1
      have HR1 := Lib.hid hr1
      clear hal hr1 ho1 C1
      go_wp2
      exact bodyPost_ret (type_result2 (t := zeroT) (b := w.heap.size) Tryd.results37 (store5T HR1.out) rfl rfl) rfl (OneTo.no HOO.out (only5T HON1.out (fun hl => absurd hl (Nat.lt_irrefl _))))

/-- What stands behind the brackets: V, or a field's descriptor. -/
def retZ (zs : List Int) : Option TypeV := if zs = [86] then some voidT else oneZ8 zs
theorem lit_V : (⟨#[86]⟩ : ByteArray).toList = [86] := by rw [ByteArray.toList_eq]
theorem nums_V : nums ⟨#[86]⟩ = [86] := rfl
end Go.Proofs.YtadgbkjjeigpjaaDoor
