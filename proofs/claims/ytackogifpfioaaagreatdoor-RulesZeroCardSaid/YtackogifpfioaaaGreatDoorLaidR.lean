/- What the rows of the later stages list: errors.errorType, understudy/rules.number, understudy/rules.long, understudy/rules.null, understudy/rules.numbers, understudy/rules.longs. -/
import Derived.Test.YtackogifpfioaaaGreatDoorPolY
import Derived.Test.YtackogifpfioaaaGreatDoorCards
import Derived.Test.YtackogifpfioaaaGreatDoorTie
import Derived.ProofKit
import Derived.ShutString
import Derived.ChangeOld
import Derived.Below
import Derived.Deep.DeepHandedRow
import Derived.Lib.LaidIn
import Derived.Lib.LaidU8T
import Derived.Lib.LaidTab
import Derived.LaidLaws
import Derived.LaidHandle
import Derived.PinnedBridge
namespace Go.Proofs.YtackogifpfioaaaGreatDoor
open Go.ChangeShapes Go.WideShapes Go.ChangeAt Go.RowKit
set_option linter.unusedVariables false
set_option linter.unusedSimpArgs false

theorem own : ownKnob Tryz.prog.godebug = none := by kernel_rfl
theorem laidOut : laidOutB Tryz.prog = true := by kernel_rfl
def L2 : List (String × DataW Unit) := [("understudy/rules.number", Rows.laid_understudy_rules_number), ("understudy/rules.long", Rows.laid_understudy_rules_long), ("understudy/rules.null", Rows.laid_understudy_rules_null), ("understudy/rules.numbers", Rows.laid_understudy_rules_numbers), ("understudy/rules.longs", Rows.laid_understudy_rules_longs)]
def LH : List (String × DataW Unit) := [("errors.errorType", Rows.laid_errors_errorType)]
def L3 : List (String × DataW Unit) := [("errors.errorType", Rows.laid_errors_errorType), ("understudy/rules.number", Rows.laid_understudy_rules_number), ("understudy/rules.long", Rows.laid_understudy_rules_long), ("understudy/rules.null", Rows.laid_understudy_rules_null), ("understudy/rules.numbers", Rows.laid_understudy_rules_numbers), ("understudy/rules.longs", Rows.laid_understudy_rules_longs)]
theorem errV_named : Tryz.prog.globalNamed "errors.errorType" = some 0 := by kernel_rfl
theorem rtype_named : (Tryz.prog.cutTypes.find? (·.1 == "internal/reflectlite.rtype")).map (·.2) = some 146 := by kernel_rfl
theorem types_size : ∃ n, Tryz.prog.types.size = n ∧ ((List.range n).filter fun t => Tryz.prog.rowNamed t [101, 114, 114, 111, 114]) = [67] := ⟨_, rfl, by kernel_rfl⟩
theorem met_parts {W : World} (hL : laidMetH Tryz.prog L3 W) : laidMet Tryz.prog L2 W ∧ handlesMet Tryz.prog LH W := hL
theorem errv {W : World} (hL : laidMetH Tryz.prog L3 W) : ErrV W := by
  obtain ⟨name, u, ty, e1, e2, e3, e4, e5⟩ := (met_parts hL).2 _ (List.mem_singleton.2 rfl)
  have en : name = [101, 114, 114, 111, 114] := (Option.some.inj e1).symm
  subst en
  obtain rfl := Option.some.inj (rtype_named.symm.trans e2)
  obtain ⟨n, hn, hf⟩ := types_size
  have hm : ty ∈ (List.range n).filter fun t => Tryz.prog.rowNamed t [101, 114, 114, 111, 114] := List.mem_filter.2 ⟨List.mem_range.2 (by rw [← hn]; exact e3), e4⟩
  rw [hf] at hm
  obtain rfl := List.mem_singleton.1 hm
  have hh : typeHandle Tryz.prog 67 = .pointer (some ⟨8, 67, none⟩) := by kernel_rfl
  rw [hh] at e5
  unfold ErrV
  simpa using World.var?_cell errV_named e5 0


/-- A world for the witness: the settled one, the variables holding what their text lays. -/
noncomputable def laidWorld (os : Os) : World :=
  let w0 := World.holding Tryz.prog os ⟨#[], #[], []⟩
  let put (h : Array Obj) (g : Nat) (cs : Array Value) : Array Obj := h.modify g fun
    | .cells _ t frozen => .cells cs t frozen
    | o => o
  let h1 := put w0.heap 0 #[.iface 146 (.agg #[.pointer (some ⟨8, 67, none⟩)])]
  let h2 := put h1 2 #[.int .i64 1, .string ⟨#[]⟩, .int .i64 0, .int .i64 0, .int .i64 0]
  let h3 := put h2 3 #[.int .i64 2, .string ⟨#[]⟩, .int .i64 0, .int .i64 0, .int .i64 0]
  let h4 := put h3 1 #[.int .i64 3, .string ⟨#[]⟩, .int .i64 0, .int .i64 0, .int .i64 0]
  let h5 := put h4 4 #[.int .i64 5, .string ⟨#[]⟩, .int .i64 1, .int .i64 1, .int .i64 0]
  let h6 := put h5 5 #[.int .i64 5, .string ⟨#[]⟩, .int .i64 1, .int .i64 2, .int .i64 0]
  { w0 with heap := h6 }
theorem laid_met (os : Os) (args : Array Value) (h : laidMet Tryz.prog L2 ((laidWorld os).forCall (fun _ _ => 0) ⟨#[], args, []⟩).memory) (hh : LH.all (handleAtB Tryz.prog ((laidWorld os).forCall (fun _ _ => 0) ⟨#[], args, []⟩).memory) = true) :
    laidMetH Tryz.prog L3 ((laidWorld os).forCall (fun _ _ => 0) ⟨#[], args, []⟩).memory := laidMetH_of_parts h hh
end Go.Proofs.YtackogifpfioaaaGreatDoor
