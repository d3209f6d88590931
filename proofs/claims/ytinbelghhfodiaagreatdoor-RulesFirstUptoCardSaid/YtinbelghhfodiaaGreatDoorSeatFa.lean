import Derived.ProofKit
import Derived.PinnedBridge
import Derived.Deep.CondSized
import Derived.Test.YtinbelghhfodiaaGreatDoorRows
namespace Go.Proofs.YtinbelghhfodiaaGreatDoor
open Go.ChangeShapes Go.WideShapes Go.ChangeAt Go.RowKit
theorem p_enter : Tryz.prog.mayEnter = true := by kernel_rfl
theorem p_lifts : Tryz.prog.liftsFinal = false := by kernel_rfl
end Go.Proofs.YtinbelghhfodiaaGreatDoor
