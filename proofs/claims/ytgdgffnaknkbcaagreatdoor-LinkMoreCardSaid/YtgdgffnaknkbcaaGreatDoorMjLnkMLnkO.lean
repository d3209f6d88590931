import Derived.Test.YtgdgffnaknkbcaaGreatDoorMjLnkILnkL
import Derived.BigQuiet
namespace Go.Proofs.YtgdgffnaknkbcaaGreatDoor
open Go.RowKit
set_option linter.unusedVariables false
set_option linter.unusedSimpArgs false
def MethListTo (w : World) (m : MethodV) (nm ds : ByteArray) (e : Ending) (w' : World) : Prop :=
  ∃ vc vt vm, e = .returned (.tuple #[.agg #[.int .i64 m.flags, .int .i64 m.name, .int .i64 m.desc, .int .i64 m.stack, .int .i64 m.locals, vc, vt, vm], .string nm, .string ds, .bool true]) ∧ Inside w' m vc vt vm ∧ Only (fun _ => False) w w'
end Go.Proofs.YtgdgffnaknkbcaaGreatDoor
namespace Go.Proofs.YtgdgffnaknkbcaaGreatDoor
open Go.RowKit
set_option linter.unusedVariables false
set_option linter.unusedSimpArgs false
def sysB : ByteArray := ⟨#[83, 121, 115]⟩
theorem lit_sys : (⟨#[83, 121, 115]⟩ : ByteArray).toList = [83, 121, 115] := by rw [ByteArray.toList_eq]
def topsF (ks : List KindV) : Nat → Int → Bool
  | 0, _ => false
  | f + 1, x => if x = 0 then true else if superZ ks x < 0 then false else if (ks.getD (superZ ks x).toNat default).name = sysB then false else topsF ks f (superZ ks x)
def topsZ (ks : List KindV) (x : Int) : Bool := topsF ks (ks.length + 1) x
end Go.Proofs.YtgdgffnaknkbcaaGreatDoor
namespace Go.Proofs.YtgdgffnaknkbcaaGreatDoor
open Go.RowKit
set_option linter.unusedVariables false
set_option linter.unusedSimpArgs false
def keepAt (ks : List KindV) (m : MethN) (u : Nat) : Bool := if hasZ (ks.getD u default).meths m.name m.desc < 0 then true else ((ks.getD u default).meths.getD (hasZ (ks.getD u default).meths m.name m.desc).toNat default).flags == m.flags
def keepsM (ks : List KindV) (x : Nat) (m : MethN) : Bool := if m.name = initB then true else (upZ ks (superZ ks x)).all (keepAt ks m)
def keepsZ (ks : List KindV) (x : Nat) : Bool := (ks.getD x default).meths.all (keepsM ks x)
theorem all_at {α : Type} [Inhabited α] {l : List α} {f : α → Bool} {j : Nat} (h : j < l.length) : (l.drop j).all f = (f (l.getD j default) && (l.drop (j + 1)).all f) := by
  rw [List.drop_eq_getElem_cons h, List.all_cons]
  rw [show l.getD j default = l[j] by simp [List.getD, h]]
end Go.Proofs.YtgdgffnaknkbcaaGreatDoor
