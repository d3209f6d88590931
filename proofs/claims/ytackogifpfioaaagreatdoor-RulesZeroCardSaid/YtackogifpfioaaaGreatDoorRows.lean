/-
  NARROWER THAN 'FOR EVERY INPUT', by the rows' own cells (each row's printed sentence says how): RulesZero: laid · VerifyZero: laid.
  DERIVED. THE GIVEN ROWS OF THIS SEAT. 2 by the template 'for every input the law returns true; each argument reads behind the call as it read before'; 0 by the template 'total and deterministic' (their statements: YtackogifpfioaaaGreatDoorTotals.lean).
  GIVEN WITH THE SEED: the statements are not yours to turn. If you find one false, say at which input.
  Laid BY PROGRAM, IN A SANDBOX (cutbox-rows.mjs): the forced cells as the released guide's own fill.sh prints them over the translation ba95e9c74c8642dc… (all of the seat's roots in one cut). By AI agents, Wed Nov 11 2026. No macro, syntax, notation, axiom, sorry.
-/
import Derived.Test.YtackogifpfioaaaGreatDoorChecked
import GoSem.Claim
import GoSem.ClaimJoined
import GoSem.ClaimMapViews
import Derived.JoinedTies
import Derived.KernelRfl
namespace Go.Proofs.YtackogifpfioaaaGreatDoor
/- THE CELL 'sum', in the pinned program and in every row, IS THE sha256 OF THE DUMP (.gsa) THAT YtackogifpfioaaaGreatDoorProg.lean LOADS. Nothing in Lean hashes anything: it is a label: what it is worth is what the hold of that sum in a sandbox is worth. -/
noncomputable def Tryz.pinned : Pinned := { name := "ytackogifpfioaaagreatdoor", sum := "ba95e9c74c8642dc4bda6c216fae23ec44317642f83c33955aa2976034681a2c", checked := Tryz.checked }
namespace Rows
def none {H : Type} : Left H := { results := [], args := [] }

/- WHAT THE LISTED PACKAGE-LEVEL VARIABLES READ AS WHEN THE CALL BEGINS. Each datum BY PROGRAM (the guide's laid-datum.mjs) off the statement by which the dump's own 'gosem.cut.vars' lays the variable. In a bare row this is a premise. The card (YtackogifpfioaaaGreatDoorCards.lean) ties it to the program's text. -/
def laid_errors_errorType {H : Type} : DataW H := .iface "internal/reflectlite.rtype" (.agg [.ptr (.lit (.string [101, 114, 114, 111, 114]))])
def laid_understudy_rules_number {H : Type} : DataW H := .agg [.lit (.int .i64 1), .lit (.string []), .lit (.int .i64 0), .lit (.int .i64 0), .lit (.int .i64 0)]
def laid_understudy_rules_long {H : Type} : DataW H := .agg [.lit (.int .i64 2), .lit (.string []), .lit (.int .i64 0), .lit (.int .i64 0), .lit (.int .i64 0)]
def laid_understudy_rules_null {H : Type} : DataW H := .agg [.lit (.int .i64 3), .lit (.string []), .lit (.int .i64 0), .lit (.int .i64 0), .lit (.int .i64 0)]
def laid_understudy_rules_numbers {H : Type} : DataW H := .agg [.lit (.int .i64 5), .lit (.string []), .lit (.int .i64 1), .lit (.int .i64 1), .lit (.int .i64 0)]
def laid_understudy_rules_longs {H : Type} : DataW H := .agg [.lit (.int .i64 5), .lit (.string []), .lit (.int .i64 1), .lit (.int .i64 2), .lit (.int .i64 0)]
def laid_understudy_maps_tags {H : Type} : DataW H := .agg [.lit (.int .u64 0), .lit (.int .u64 1), .lit (.int .u64 4), .lit (.int .u64 5), .lit (.int .u64 7), .lit (.int .u64 7), .lit (.int .u64 8), .lit (.int .u64 6)]

/-- 'understudylaw11.RulesZero': WHATEVER THE INPUT: true; the input reads as it did. -/
def rulesZeroSpec : ChangeSpec := { name := "rulesZero", fn := fun _ => fun
  | [d1, d2, d3] => { results := [.lit (.bool true)], args := [d1, d2, d3] }
  | _ => none }
def rulesZeroRow : OpenClaim := { program := "ytackogifpfioaaagreatdoor", sum := "ba95e9c74c8642dc4bda6c216fae23ec44317642f83c33955aa2976034681a2c", func := "understudy/understudylaw11.RulesZero", spec := "rulesZero", inPlace := ["internal/bytealg.IndexByteString", "internal/bytealg.IndexString", "internal/reflectlite.ValueOf", "(internal/reflectlite.Value).Type", "(internal/reflectlite.Value).IsNil", "internal/reflectlite.TypeOf", "(internal/reflectlite.Value).Elem", "(internal/reflectlite.Value).Set"], unfollowed := true, recurses := true, named := ["understudy/rules.null", "understudy/rules.number", "understudy/rules.long", "understudy/rules.numbers", "understudy/rules.longs", "internal/bytealg.MaxLen", "errors.errorType"], apart := false, laid := [("errors.errorType", laid_errors_errorType), ("understudy/rules.number", laid_understudy_rules_number), ("understudy/rules.long", laid_understudy_rules_long), ("understudy/rules.null", laid_understudy_rules_null), ("understudy/rules.numbers", laid_understudy_rules_numbers), ("understudy/rules.longs", laid_understudy_rules_longs)] }
def RulesZeroSaid : Prop := rulesZeroRow.holds Tryz.pinned (OpenSpec.ofChange rulesZeroSpec)

/-- ITS FALSE NEIGHBOUR: 'it returns false'. Refute it at one input. -/
def rulesZeroWrong : ChangeSpec := { name := "rulesZero", fn := fun _ => fun
  | [d1, d2, d3] => { results := [.lit (.bool false)], args := [d1, d2, d3] }
  | _ => none }
def RulesZeroWrongFalsely : Prop := rulesZeroRow.holds Tryz.pinned (OpenSpec.ofChange rulesZeroWrong)

/-- 'understudylaw12.VerifyZero': WHATEVER THE INPUT: true; the input reads as it did. -/
def verifyZeroSpec : ChangeSpec := { name := "verifyZero", fn := fun _ => fun
  | [d1, d2] => { results := [.lit (.bool true)], args := [d1, d2] }
  | _ => none }
def verifyZeroRow : OpenClaim := { program := "ytackogifpfioaaagreatdoor", sum := "ba95e9c74c8642dc4bda6c216fae23ec44317642f83c33955aa2976034681a2c", func := "understudy/understudylaw12.VerifyZero", spec := "verifyZero", inPlace := ["internal/bytealg.IndexByteString", "internal/bytealg.IndexString", "internal/reflectlite.ValueOf", "(internal/reflectlite.Value).Type", "(internal/reflectlite.Value).IsNil", "internal/reflectlite.TypeOf", "(internal/reflectlite.Value).Elem", "(internal/reflectlite.Value).Set"], unfollowed := true, recurses := true, named := ["internal/bytealg.MaxLen", "understudy/maps.tags", "understudy/rules.null", "understudy/rules.number", "understudy/rules.long", "understudy/rules.numbers", "understudy/rules.longs", "errors.errorType"], apart := false, laid := [("errors.errorType", laid_errors_errorType), ("understudy/maps.tags", laid_understudy_maps_tags), ("understudy/rules.number", laid_understudy_rules_number), ("understudy/rules.long", laid_understudy_rules_long), ("understudy/rules.null", laid_understudy_rules_null), ("understudy/rules.numbers", laid_understudy_rules_numbers), ("understudy/rules.longs", laid_understudy_rules_longs)] }
def VerifyZeroSaid : Prop := verifyZeroRow.holds Tryz.pinned (OpenSpec.ofChange verifyZeroSpec)

/-- ITS FALSE NEIGHBOUR: 'it returns false'. Refute it at one input. -/
def verifyZeroWrong : ChangeSpec := { name := "verifyZero", fn := fun _ => fun
  | [d1, d2] => { results := [.lit (.bool false)], args := [d1, d2] }
  | _ => none }
def VerifyZeroWrongFalsely : Prop := verifyZeroRow.holds Tryz.pinned (OpenSpec.ofChange verifyZeroWrong)

/- THE SECOND FORM. 'bulk': how many values and letters a reading holds, each counted each time it is reached (what is shared counts as often as it is met; a slice's spare places count too). A statement '..UptoSaid' is the law's where the arguments, and the package variables that the reading takes, are together of bulk at most 1048576: NARROWER than '..Said'. Prove '..Said' where nothing that the law and all that it calls make is longer than what came in: it says more and counts as full. Else prove '..UptoSaid'. A law counts once. -/
mutual
def uptoBulk {H : Type} : DataW H → Nat
  | .lit (.string bytes) => bytes.length + 1
  | .lit _ => 1
  | .nil => 1
  | .ptr d => uptoBulk d + 1
  | .slice elems spare => uptoBulkAll elems + uptoBulkAll spare + 1
  | .agg parts => uptoBulkAll parts + 1
  | .iface _ d => uptoBulk d + 1
  | .map entries => uptoBulkEntries entries + 1
  | .held _ => 1
def uptoBulkAll {H : Type} : List (DataW H) → Nat
  | [] => 0
  | d :: r => uptoBulk d + uptoBulkAll r
def uptoBulkEntries {H : Type} : List (Lit × DataW H) → Nat
  | [] => 0
  | x :: r => uptoBulkEntry x + uptoBulkEntries r
def uptoBulkEntry {H : Type} : Lit × DataW H → Nat
  | (.string bytes, d) => bytes.length + uptoBulk d + 1
  | (_, d) => uptoBulk d + 1
 end
def uptoSmall : (H : Type) → List (DataW H) → Bool := fun _ ds => decide (uptoBulkAll ds ≤ 1048576)
def OpenSpec.upto (s : _root_.Go.ChangeSpec) : _root_.Go.OpenSpec := { _root_.Go.OpenSpec.ofChange s with cond := some uptoSmall }

/-- 'understudylaw11.RulesZero', WHERE WHAT IT READS IS OF BULK AT MOST 1048576: true; the input reads as it did. -/
def rulesZeroUptoRow : OpenClaim := { program := "ytackogifpfioaaagreatdoor", sum := "ba95e9c74c8642dc4bda6c216fae23ec44317642f83c33955aa2976034681a2c", func := "understudy/understudylaw11.RulesZero", spec := "rulesZero", inPlace := ["internal/bytealg.IndexByteString", "internal/bytealg.IndexString", "internal/reflectlite.ValueOf", "(internal/reflectlite.Value).Type", "(internal/reflectlite.Value).IsNil", "internal/reflectlite.TypeOf", "(internal/reflectlite.Value).Elem", "(internal/reflectlite.Value).Set"], unfollowed := true, recurses := true, named := ["understudy/rules.null", "understudy/rules.number", "understudy/rules.long", "understudy/rules.numbers", "understudy/rules.longs", "internal/bytealg.MaxLen", "errors.errorType"], apart := false, laid := [("errors.errorType", laid_errors_errorType), ("understudy/rules.number", laid_understudy_rules_number), ("understudy/rules.long", laid_understudy_rules_long), ("understudy/rules.null", laid_understudy_rules_null), ("understudy/rules.numbers", laid_understudy_rules_numbers), ("understudy/rules.longs", laid_understudy_rules_longs)], narrowed := true }
def RulesZeroUptoSaid : Prop := rulesZeroUptoRow.holds Tryz.pinned (OpenSpec.upto rulesZeroSpec)

/-- 'understudylaw12.VerifyZero', WHERE WHAT IT READS IS OF BULK AT MOST 1048576: true; the input reads as it did. -/
def verifyZeroUptoRow : OpenClaim := { program := "ytackogifpfioaaagreatdoor", sum := "ba95e9c74c8642dc4bda6c216fae23ec44317642f83c33955aa2976034681a2c", func := "understudy/understudylaw12.VerifyZero", spec := "verifyZero", inPlace := ["internal/bytealg.IndexByteString", "internal/bytealg.IndexString", "internal/reflectlite.ValueOf", "(internal/reflectlite.Value).Type", "(internal/reflectlite.Value).IsNil", "internal/reflectlite.TypeOf", "(internal/reflectlite.Value).Elem", "(internal/reflectlite.Value).Set"], unfollowed := true, recurses := true, named := ["internal/bytealg.MaxLen", "understudy/maps.tags", "understudy/rules.null", "understudy/rules.number", "understudy/rules.long", "understudy/rules.numbers", "understudy/rules.longs", "errors.errorType"], apart := false, laid := [("errors.errorType", laid_errors_errorType), ("understudy/maps.tags", laid_understudy_maps_tags), ("understudy/rules.number", laid_understudy_rules_number), ("understudy/rules.long", laid_understudy_rules_long), ("understudy/rules.null", laid_understudy_rules_null), ("understudy/rules.numbers", laid_understudy_rules_numbers), ("understudy/rules.longs", laid_understudy_rules_longs)], narrowed := true }
def VerifyZeroUptoSaid : Prop := verifyZeroUptoRow.holds Tryz.pinned (OpenSpec.upto verifyZeroSpec)

end Rows
end Go.Proofs.YtackogifpfioaaaGreatDoor
