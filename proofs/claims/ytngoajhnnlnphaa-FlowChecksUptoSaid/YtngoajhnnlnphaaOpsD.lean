/- The program's own Shape and Name of any code, and that it computes at all. No condition. -/
import Derived.Test.YtngoajhnnlnphaaOpsE
import Derived.Deep.QuietTactic
import Derived.BigQuiet
namespace Go.Proofs.Ytngoajhnnlnphaa
open Go.RowKit
set_option linter.unusedVariables false
set_option linter.unusedSimpArgs false

theorem isK_cells (op : Int) : (!((nameK op).toList == [] && shapeK op == 0)) = isK op := by
  cases hc : codeOf op with
  | none => have := shape_none hc; rw [this.1, this.2.1, this.2.2, ByteArray.toList_eq]; rfl
  | some c =>
    have h1 := shape_of hc
    have h2 := (codeOf_shape hc).1
    rw [h1.1, h1.2.1]
    have : (c.shape == 0) = false := by rw [beq_eq_false_iff_ne]; omega
    rw [this]
    simp
set_option maxHeartbeats 2000000 in
set_option maxRecDepth 100000 in
theorem progShape (op : Int) (w : World) :
    Calls Try.prog 24 #[.int .i64 op] w fun e w' => e = .returned (.tuple #[.int .u8 (shapeK op), .bool (isK op)]) ∧ Only (fun _ => False) w w' := by
  go_enter Try.func24, Try.ntmps24
  go_wp2_with (fail)
  refine (progCode op w).mono ?_
  rintro e w1 ⟨rfl, ho⟩
  have HO := Lib.hid (ho.alloc (.cells #[.string (nameK op), .int .u8 (shapeK op)] 72))
  have n1 : ∀ w, (binOp .neq 72 (.agg #[.string (nameK op), .int .u8 (shapeK op)]) (.agg #[.string ⟨#[]⟩, .int .u8 0])).run Try.prog w = .ok (.bool (isK op)) w := fun w => by rw [neq_code, isK_cells]
  have g1 := guard_code
  clear ho
  go_wp2
  go_quiet (fail)
  go_wp2
  go_ret2
  exact ⟨rfl, HO.out.drewN _⟩

end Go.Proofs.Ytngoajhnnlnphaa
