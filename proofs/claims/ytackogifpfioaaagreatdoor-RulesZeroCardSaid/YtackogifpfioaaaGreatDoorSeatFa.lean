/- Facts of the program that every row asks for, once for all laws (first text). -/
import Derived.ProofKit
import Derived.PinnedBridge
import Derived.Deep.CondSized
import Derived.Test.YtackogifpfioaaaGreatDoorRows
namespace Go.Proofs.YtackogifpfioaaaGreatDoor
open Go.ChangeShapes Go.WideShapes Go.ChangeAt Go.RowKit

theorem p_enter : Tryz.prog.mayEnter = true := by kernel_rfl
theorem p_lifts : Tryz.prog.liftsFinal = false := by kernel_rfl
end Go.Proofs.YtackogifpfioaaaGreatDoor
