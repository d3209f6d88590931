/- A program that nobody made has no class. Condition: its classes are none. -/
import Derived.Test.YtackogifpfioaaaGreatDoorMem
import Derived.ProofKit
namespace Go.Proofs.YtackogifpfioaaaGreatDoor
open Go.RowKit Go.Maps
set_option linter.unusedVariables false
set_option linter.unusedSimpArgs false
attribute [local go_sem] Oper.semAt_some

/-- A program that nobody made, from here on. -/
def Unmade (po : Option Addr) (w : World) : Prop := ∀ W, Only (fun _ => False) w W → Calls Tryz.prog 46 #[.pointer po] W fun e w' => e = .returned (.bool false) ∧ W = w'
theorem Unmade.only {po : Option Addr} {w w' : World} (h : Unmade po w) (ho : Only (fun _ => False) w w') : Unmade po w' := fun W hW => h W (ho.trans hW (fun _ h _ => h))
theorem unmade_nil (w : World) : Unmade none w := by
  intro W _
  go_enter Tryz.func46, Tryz.ntmps46
  go_wp2
  go_ret
  exact ⟨rfl, rfl⟩
theorem unmade_at {w : World} {b : Nat} {t : TypeId} (h : w.heap[b]? = some (.cells #[.slice none 0 0, .map none] t (0, 0))) : Unmade (some ⟨b, 0, none⟩) w := by
  intro W hW
  have c0 : W.cell? ⟨b, 0, none⟩ = some (.slice none 0 0) := hW.cell (cell_blk h 0) (fun h => h)
  clear h hW
  go_enter Tryz.func46, Tryz.ntmps46
  go_wp2
  go_ret
  exact ⟨rfl, rfl⟩
section
variable {po : Option Addr} {w : World} (h : Unmade po w)
include h
theorem zLen : Calls Tryz.prog 22 #[.pointer po] w fun e w' => e = .returned (.int .i64 0) ∧ w = w' := by
  have C1 := Lib.hid (h w (Only.refl _ _))
  clear h
  go_enter Tryz.func22, Tryz.ntmps22
  go_wp2_with (fail)
  refine C1.out.mono ?_
  rintro e w1 ⟨rfl, rfl⟩
  go_wp2
  go_ret
  exact ⟨rfl, rfl⟩
end
end Go.Proofs.YtackogifpfioaaaGreatDoor
