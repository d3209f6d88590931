/- The program's words of a code: its name without the first letter. No condition. -/
import Derived.Test.YtmgglicfhddmpaaOpsD
import Derived.Test.YtmgglicfhddmpaaArW
import Derived.Lib.Strings
namespace Go.Proofs.Ytmgglicfhddmpaa
open Go.RowKit
set_option linter.unusedVariables false
set_option linter.unusedSimpArgs false

set_option maxHeartbeats 1000000 in
theorem arHas (s p : ByteArray) (w : World) :
    Calls Try.prog 37 #[.string s, .string p] w fun e w' => e = .returned (.bool (Lib.hasPrefix s.data.toList p.data.toList)) ∧ w = w' := by
  rw [← Lib.hasPrefix_of_take, ← Lib.size_eq, ← Lib.size_eq]
  go_enter Try.func37, Try.ntmps37
  go_wp2
  · rename_i h
    go_ret
    refine ⟨?_, rfl⟩
    show Ending.returned (Value.bool ((s.extract 0 p.size).toList == p.toList)) = _
    rw [Lib.extract_toList, Lib.toList_data]
    simp [h]
  · rename_i h
    go_ret
    refine ⟨?_, rfl⟩
    show Ending.returned (Value.bool false) = _
    simp [h]
/-- A name without its first letter; nothing where it begins otherwise. -/
def cutZ (c : UInt8) (s : ByteArray) : ByteArray := if Lib.hasPrefix s.data.toList [c] then s.extract 1 s.size else ⟨#[]⟩
theorem has_size {c : UInt8} {s : ByteArray} (h : Lib.hasPrefix s.data.toList [c] = true) : 1 ≤ s.size := by
  rw [Lib.size_eq]
  cases hl : s.data.toList with
  | nil => rw [hl] at h; exact absurd h (by simp [Lib.hasPrefix])
  | cons x r => simp
set_option maxHeartbeats 1000000 in
theorem arCutIn (s : ByteArray) (c : UInt8) (w : World) :
    Calls Try.prog 36 #[.string s, .string ⟨#[c]⟩] w fun e w' => e = .returned (.tuple #[.string (if Lib.hasPrefix s.data.toList [c] then s.extract 1 s.size else s), .bool (Lib.hasPrefix s.data.toList [c])]) ∧ w = w' := by
  cases hh : Lib.hasPrefix s.data.toList [c] with
  | true =>
    have h1 := has_size hh
    have h2 : ((1 : Int) ≤ (s.size : Int)) := by omega
    go_enter Try.func36, Try.ntmps36
    go_wp2_with (fail)
    refine (arHas s ⟨#[c]⟩ w).mono ?_
    rintro e w1 ⟨rfl, rfl⟩
    rw [show (⟨#[c]⟩ : ByteArray).data.toList = [c] from rfl, hh]
    go_wp2
    go_ret2
    exact ⟨rfl, rfl⟩
  | false =>
    go_enter Try.func36, Try.ntmps36
    go_wp2_with (fail)
    refine (arHas s ⟨#[c]⟩ w).mono ?_
    rintro e w1 ⟨rfl, rfl⟩
    rw [show (⟨#[c]⟩ : ByteArray).data.toList = [c] from rfl, hh]
    go_wp2
    go_ret2
    exact ⟨rfl, rfl⟩
theorem arCut (s : ByteArray) (c : UInt8) (w : World) :
    Calls Try.prog 32 #[.string s, .string ⟨#[c]⟩] w fun e w' => e = .returned (.tuple #[.string (if Lib.hasPrefix s.data.toList [c] then s.extract 1 s.size else s), .bool (Lib.hasPrefix s.data.toList [c])]) ∧ w = w' := by
  have C := Lib.hid (arCutIn s c w)
  generalize (if Lib.hasPrefix s.data.toList [c] then s.extract 1 s.size else s) = x at *
  go_enter Try.func32, Try.ntmps32
  go_wp2_with (fail)
  refine C.out.mono ?_
  rintro e w1 ⟨rfl, rfl⟩
  go_wp2
  go_ret2
  exact ⟨rfl, rfl⟩
theorem arWork (op : Int) (c : UInt8) (w : World) :
    Calls Try.prog 25 #[.int .i64 op, .string ⟨#[c]⟩] w fun e w' => e = .returned (.string (cutZ c (nameK op))) ∧ Only (fun _ => False) w w' := by
  have C := Lib.hid (fun W => arCut (nameK op) c W)
  unfold cutZ
  cases hh : Lib.hasPrefix (nameK op).data.toList [c] with
  | true =>
    rw [hh] at C
    go_enter Try.func25, Try.ntmps25
    go_wp2_with (fail)
    refine (progOpName op w).mono ?_
    rintro e w1 ⟨rfl, hww⟩
    have HO1 := Lib.hid hww
    clear hww
    go_wp2_with (fail)
    refine (C.out _).mono ?_
    rintro e w2 ⟨rfl, rfl⟩
    go_wp2
    go_ret
    exact ⟨rfl, HO1.out⟩
  | false =>
    rw [hh] at C
    go_enter Try.func25, Try.ntmps25
    go_wp2_with (fail)
    refine (progOpName op w).mono ?_
    rintro e w1 ⟨rfl, hww⟩
    have HO1 := Lib.hid hww
    clear hww
    go_wp2_with (fail)
    refine (C.out _).mono ?_
    rintro e w2 ⟨rfl, rfl⟩
    go_wp2
    go_ret
    exact ⟨rfl, HO1.out⟩
end Go.Proofs.Ytmgglicfhddmpaa
