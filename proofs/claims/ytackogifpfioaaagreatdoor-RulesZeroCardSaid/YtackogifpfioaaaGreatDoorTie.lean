/-
  DERIVED. GIVEN WITH THE SEED: THE PROGRAM's TIES (one call each: nine closed facts by the kernel) AND EACH ROW's TIE, after the 31st guide's Derived/Test/Toyas{Tie, Card}.lean. No idea stands in it: it is a product of the set-up. Laid BY PROGRAM, IN A SANDBOX (cutbox-door.mjs). By AI agents, Wed Nov 11 2026. No macro, syntax, notation, axiom, sorry.
-/
import Derived.Test.YtackogifpfioaaaGreatDoorRows
import Derived.LaidByTextLater
import Derived.SevenTiedAt
import Derived.LaidSub
import Derived.LaidOnce
namespace Go.Proofs.YtackogifpfioaaaGreatDoor
open Go
set_option maxRecDepth 100000
theorem seatTie1 : Tryz.prog.laidByTextLater [("errors.errorType", Rows.laid_errors_errorType), ("understudy/maps.tags", Rows.laid_understudy_maps_tags), ("understudy/rules.number", Rows.laid_understudy_rules_number), ("understudy/rules.long", Rows.laid_understudy_rules_long), ("understudy/rules.null", Rows.laid_understudy_rules_null), ("understudy/rules.numbers", Rows.laid_understudy_rules_numbers), ("understudy/rules.longs", Rows.laid_understudy_rules_longs)] [.handle, .data, .data, .data, .data, .data, .data] true :=
  Program.laidByTextLater_by_one 46 8 9 (by kernel_rfl) (by kernel_rfl) (by kernel_rfl) (by kernel_rfl) (by kernel_rfl) (by kernel_rfl) (fun _ _ => by kernel_rfl)
theorem noOwnUnsafe : Tryz.pinned.checked.prog.headLifts.contains "ownunsafe" = false := by kernel_rfl
theorem tie : Tryz.prog.laidByTextLater [("errors.errorType", Rows.laid_errors_errorType), ("understudy/rules.number", Rows.laid_understudy_rules_number), ("understudy/rules.long", Rows.laid_understudy_rules_long), ("understudy/rules.null", Rows.laid_understudy_rules_null), ("understudy/rules.numbers", Rows.laid_understudy_rules_numbers), ("understudy/rules.longs", Rows.laid_understudy_rules_longs)] [.handle, .data, .data, .data, .data, .data] true :=
  Program.laidByTextLater.sub seatTie1 ["errors.errorType", "understudy/rules.number", "understudy/rules.long", "understudy/rules.null", "understudy/rules.numbers", "understudy/rules.longs"] (by kernel_rfl) (by kernel_rfl)
theorem rulesZero_row_tie : Rows.rulesZeroRow.laidByTextAt .later Tryz.pinned [.handle, .data, .data, .data, .data, .data] true :=
  OpenClaim.laidByTextAt_later rfl rfl tie noOwnUnsafe
theorem tie2 : Tryz.prog.laidByTextLater [("errors.errorType", Rows.laid_errors_errorType), ("understudy/maps.tags", Rows.laid_understudy_maps_tags), ("understudy/rules.number", Rows.laid_understudy_rules_number), ("understudy/rules.long", Rows.laid_understudy_rules_long), ("understudy/rules.null", Rows.laid_understudy_rules_null), ("understudy/rules.numbers", Rows.laid_understudy_rules_numbers), ("understudy/rules.longs", Rows.laid_understudy_rules_longs)] [.handle, .data, .data, .data, .data, .data, .data] true :=
  Program.laidByTextLater.sub seatTie1 ["errors.errorType", "understudy/maps.tags", "understudy/rules.number", "understudy/rules.long", "understudy/rules.null", "understudy/rules.numbers", "understudy/rules.longs"] (by kernel_rfl) (by kernel_rfl)
theorem verifyZero_row_tie : Rows.verifyZeroRow.laidByTextAt .later Tryz.pinned [.handle, .data, .data, .data, .data, .data, .data] true :=
  OpenClaim.laidByTextAt_later rfl rfl tie2 noOwnUnsafe
theorem rulesZeroUpto_row_tie : Rows.rulesZeroUptoRow.laidByTextAt .later Tryz.pinned [.handle, .data, .data, .data, .data, .data] true :=
  OpenClaim.laidByTextAt_later rfl rfl tie noOwnUnsafe
theorem verifyZeroUpto_row_tie : Rows.verifyZeroUptoRow.laidByTextAt .later Tryz.pinned [.handle, .data, .data, .data, .data, .data, .data] true :=
  OpenClaim.laidByTextAt_later rfl rfl tie2 noOwnUnsafe
end Go.Proofs.YtackogifpfioaaaGreatDoor
