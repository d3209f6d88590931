/- The program's own Shape and Name of any code, and that it computes at all. No condition. -/
import Derived.Test.YtmgglicfhddmpaaOpsE
import Derived.Deep.QuietTactic
import Derived.BigQuiet
namespace Go.Proofs.Ytmgglicfhddmpaa
open Go.RowKit
set_option linter.unusedVariables false
set_option linter.unusedSimpArgs false

set_option maxHeartbeats 2000000 in
set_option maxRecDepth 100000 in
theorem progOpName (op : Int) (w : World) :
    Calls Try.prog 30 #[.int .i64 op] w fun e w' => e = .returned (.string (nameK op)) ∧ Only (fun _ => False) w w' := by
  go_enter Try.func30, Try.ntmps30
  go_wp2_with (fail)
  refine (progCode op w).mono ?_
  rintro e w1 ⟨rfl, ho⟩
  have HO := Lib.hid ho
  have hfd : ∀ w : World, (Instr.field 61 (.agg #[.string (nameK op), .int .u8 (shapeK op)]) 0).run Try.prog w = .ok (.string (nameK op)) w := fun _ => by kernel_rfl
  clear ho
  go_wp2
  go_ret
  exact ⟨rfl, HO.out⟩

theorem isK_cells (op : Int) : (!((nameK op).toList == [] && shapeK op == 0)) = isK op := by
  cases hc : codeOf op with
  | none => have := shape_none hc; rw [this.1, this.2.1, this.2.2, ByteArray.toList_eq]; rfl
  | some c =>
    have h1 := shape_of hc
    have h2 := (codeOf_shape hc).1
    rw [h1.1, h1.2.1]
    have : (c.shape == 0) = false := by rw [beq_eq_false_iff_ne]; omega
    rw [this]
    simp
end Go.Proofs.Ytmgglicfhddmpaa
