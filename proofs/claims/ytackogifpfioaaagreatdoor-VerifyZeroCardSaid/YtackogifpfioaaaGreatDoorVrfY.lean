/- errors.As at a variable of api.Errno, over a fault of package verify: the closed facts. -/
import Derived.Test.YtackogifpfioaaaGreatDoorPolY
import Derived.Lib.IfaceEq
import Derived.Stop.Asserts
import Derived.LaidEql
import Derived.RowKitTokens
namespace Go.Proofs.YtackogifpfioaaaGreatDoor
open Go.RowKit Go.Extern.Stop Go.Stop Go.Extern
set_option linter.unusedVariables false
set_option linter.unusedSimpArgs false

theorem asTypeOfFV (v : Value) (w : World) : (ReflectliteType.typeOf #[.iface 70 v]).run Tryz.prog w = .ok (.iface 146 (.agg #[.pointer (some ⟨8, 70, none⟩)])) w := by kernel_rfl
theorem asAssignFV (w : World) : (ReflectliteType.relation "AssignableTo" ReflectliteType.assignableTo #[.agg #[.pointer (some ⟨8, 70, none⟩)], .iface 146 (.agg #[.pointer (some ⟨8, 36, none⟩)])]).run Tryz.prog w = .ok (.bool false) w := by kernel_rfl
theorem asNoAsFV (v : Value) (xT : TypeId) (w : World) : (Instr.typeAssert (.iface 70 v) xT 151 true).run Tryz.prog w = .ok (.tuple #[.nilIface, .bool false]) w := run_typeAssert_lacksB Tryz.underlying151 (by kernel_rfl) (by kernel_rfl) v xT w
theorem asHasUnwrapFV (v : Value) (xT : TypeId) (w : World) : (Instr.typeAssert (.iface 70 v) xT 154 true).run Tryz.prog w = .ok (.tuple #[.iface 70 v, .bool true]) w := run_typeAssert_hasB Tryz.underlying154 (by kernel_rfl) v xT w
theorem asMethodUnwrapV (n : Nat) (v : Value) (w : World) : (Go.method (n + 1) 70 v "Unwrap").run Tryz.prog w = .ok (249, v) w := by kernel_rfl

end Go.Proofs.YtackogifpfioaaaGreatDoor
