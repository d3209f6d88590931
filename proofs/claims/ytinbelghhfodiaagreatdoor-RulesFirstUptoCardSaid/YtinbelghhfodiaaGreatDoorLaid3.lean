import Derived.Test.YtinbelghhfodiaaGreatDoorMaTxtFArg
import Derived.Test.YtinbelghhfodiaaGreatDoorCards
import Derived.Test.YtinbelghhfodiaaGreatDoorTie
import Derived.ProofKit
import Derived.ShutString
import Derived.ChangeOld
import Derived.Below
import Derived.Deep.DeepHandedRow
import Derived.Lib.LaidIn
import Derived.Lib.LaidU8T
import Derived.LaidLaws
import Derived.LaidHandle
import Derived.PinnedBridge
namespace Go.Proofs.YtinbelghhfodiaaGreatDoor
open Go.ChangeShapes Go.WideShapes Go.ChangeAt Go.RowKit
set_option linter.unusedVariables false
set_option linter.unusedSimpArgs false
theorem own : ownKnob Tryz.prog.godebug = none := by kernel_rfl
theorem laidOut : laidOutB Tryz.prog = true := by kernel_rfl
theorem acc_eq : Rows.laid_unicode_utf8_acceptRanges = Lib.acceptData := by kernel_rfl
theorem first_eq : Rows.laid_unicode_utf8_first = Lib.firstData := Pinned.utf8First_eq
def L2 : List (String × DataW Unit) := [("unicode/utf8.acceptRanges", Rows.laid_unicode_utf8_acceptRanges), ("unicode/utf8.first", Rows.laid_unicode_utf8_first)]
def LH : List (String × DataW Unit) := [("errors.errorType", Rows.laid_errors_errorType)]
def L3 : List (String × DataW Unit) := [("unicode/utf8.acceptRanges", Rows.laid_unicode_utf8_acceptRanges), ("errors.errorType", Rows.laid_errors_errorType), ("unicode/utf8.first", Rows.laid_unicode_utf8_first)]
theorem errV_named : Tryz.prog.globalNamed "errors.errorType" = some 0 := by kernel_rfl
theorem rtype_named : (Tryz.prog.cutTypes.find? (·.1 == "internal/reflectlite.rtype")).map (·.2) = some 254 := by kernel_rfl
theorem types_size : ∃ n, Tryz.prog.types.size = n ∧ ((List.range n).filter fun t => Tryz.prog.rowNamed t [101, 114, 114, 111, 114]) = [199] := ⟨_, rfl, by kernel_rfl⟩
theorem met_parts {W : World} (hL : laidMetH Tryz.prog L3 W) : laidMet Tryz.prog L2 W ∧ handlesMet Tryz.prog LH W := hL
theorem tabs {W : World} (hL : laidMetH Tryz.prog L3 W) : Tabs W := by
 have h := (met_parts hL).1
 have h4 := Lib.laidMet.reads h (.head _)
 have h3 := Lib.laidMet.reads h (.tail _ (.head _))
 rw [acc_eq] at h4
 rw [first_eq] at h3
 exact utf8Tabs_of_readsT (U8Types.of196 Tryz.laysValid) ⟨by kernel_rfl, by kernel_rfl, by kernel_rfl, by kernel_rfl, by kernel_rfl, by kernel_rfl, by kernel_rfl⟩ h3 h4
theorem errv {W : World} (hL : laidMetH Tryz.prog L3 W) : ErrV W := by
 obtain ⟨name, u, ty, e1, e2, e3, e4, e5⟩ := (met_parts hL).2 _ (List.mem_singleton.2 rfl)
 have en : name = [101, 114, 114, 111, 114] := (Option.some.inj e1).symm
 subst en
 obtain rfl := Option.some.inj (rtype_named.symm.trans e2)
 obtain ⟨n, hn, hf⟩ := types_size
 have hm : ty ∈ (List.range n).filter fun t => Tryz.prog.rowNamed t [101, 114, 114, 111, 114] := List.mem_filter.2 ⟨List.mem_range.2 (by rw [← hn]; exact e3), e4⟩
 rw [hf] at hm
 obtain rfl := List.mem_singleton.1 hm
 have hh : typeHandle Tryz.prog 199 = .pointer (some ⟨4, 199, none⟩) := by kernel_rfl
 rw [hh] at e5
 unfold ErrV
 simpa using World.var?_cell errV_named e5 0
noncomputable def laidWorld (os : Os) : World :=
 let w0 := World.holding Tryz.prog os ⟨#[], #[], []⟩
 let put (h : Array Obj) (g : Nat) (cs : Array Value) : Array Obj := h.modify g fun
  | .cells _ t frozen => .cells cs t frozen
  | o => o
 let h1 := put w0.heap 2 (Lib.firstTab.map fun z => Value.int .u8 z).toArray
 let h2 := put h1 3 ((List.range 16).flatMap fun i => [Value.int .u8 (Lib.accLo i), Value.int .u8 (Lib.accHi i)]).toArray
 let h3 := put h2 0 #[.iface 254 (.agg #[.pointer (some ⟨4, 199, none⟩)])]
 { w0 with heap := h3 }
theorem laid_met (os : Os) (args : Array Value) (h : laidMet Tryz.prog L2 ((laidWorld os).forCall (fun _ _ => 0) ⟨#[], args, []⟩).memory) (hh : LH.all (handleAtB Tryz.prog ((laidWorld os).forCall (fun _ _ => 0) ⟨#[], args, []⟩).memory) = true) :
  laidMetH Tryz.prog L3 ((laidWorld os).forCall (fun _ _ => 0) ⟨#[], args, []⟩).memory := laidMetH_of_parts h hh
end Go.Proofs.YtinbelghhfodiaaGreatDoor
