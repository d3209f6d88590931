import Derived.ProofKit
import Derived.PinnedBridge
import Derived.Deep.CondSized
import Derived.Test.YtinbelghhfodiaaGreatDoorRows
namespace Go.Proofs.YtinbelghhfodiaaGreatDoor
open Go.ChangeShapes Go.WideShapes Go.ChangeAt Go.RowKit
theorem p_make : Tryz.prog.make = some .cut := by kernel_rfl
theorem p_plain : Tryz.prog.plainKeys = true := by kernel_rfl
theorem p_rowed : mapsRowed Tryz.prog = true := by kernel_rfl
theorem p_heard : Tryz.prog.stopsHeard = true := by kernel_rfl
theorem p_laid : laidOutB Tryz.prog = true := by kernel_rfl
end Go.Proofs.YtinbelghhfodiaaGreatDoor
