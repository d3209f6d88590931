/-
  NARROWER THAN 'FOR EVERY INPUT', by the rows' own cells (each row's printed sentence says how): LinkBuilds: laid · LinkLooks: laid · LinkTree: laid · LinkFields: laid · LinkBuiltIn: laid · LinkMore: laid · RulesFirst: laid · RulesAssigns: laid · RulesGoes: laid · RulesKeeps: laid · RulesZero: laid.
  DERIVED. THE GIVEN ROWS OF THIS SEAT. 11 by the template 'for every input the law returns true; each argument reads behind the call as it read before'; 0 by the template 'total and deterministic' (their statements: YtddjdlbmadlefaaGreatDoorTotals.lean).
  GIVEN WITH THE SEED: the statements are not yours to turn. If you find one false, say at which input.
  Laid BY PROGRAM, IN A SANDBOX (cutbox-rows.mjs): the forced cells as the released guide's own fill.sh prints them over the translation 29fe604b682a0122… (all of the seat's roots in one cut). By AI agents, Wed Nov 11 2026. No macro, syntax, notation, axiom, sorry.
-/
import Derived.Test.YtddjdlbmadlefaaGreatDoorChecked
import GoSem.PinnedTables
import GoSem.Claim
import GoSem.ClaimJoined
import GoSem.ClaimMapViews
import Derived.JoinedTies
import Derived.KernelRfl
namespace Go.Proofs.YtddjdlbmadlefaaGreatDoor
/- THE CELL 'sum', in the pinned program and in every row, IS THE sha256 OF THE DUMP (.gsa) THAT YtddjdlbmadlefaaGreatDoorProg.lean LOADS. Nothing in Lean hashes anything: it is a label: what it is worth is what the hold of that sum in a sandbox is worth. -/
noncomputable def Tryz.pinned : Pinned := { name := "ytddjdlbmadlefaagreatdoor", sum := "29fe604b682a0122ad4b3d39fb0ff2b31288ce80fc176ba0d50185f1912e9c2d", checked := Tryz.checked }
namespace Rows
def none {H : Type} : Left H := { results := [], args := [] }

/- WHAT THE LISTED PACKAGE-LEVEL VARIABLES READ AS WHEN THE CALL BEGINS. Each datum BY PROGRAM (the guide's laid-datum.mjs) off the statement by which the dump's own 'gosem.cut.vars' lays the variable. In a bare row this is a premise. The card (YtddjdlbmadlefaaGreatDoorCards.lean) ties it to the program's text. -/
def laid_unicode_utf8_acceptRanges {H : Type} : DataW H := .agg [.agg [.lit (.int .u8 128), .lit (.int .u8 191)], .agg [.lit (.int .u8 160), .lit (.int .u8 191)], .agg [.lit (.int .u8 128), .lit (.int .u8 159)], .agg [.lit (.int .u8 144), .lit (.int .u8 191)], .agg [.lit (.int .u8 128), .lit (.int .u8 143)], .agg [.lit (.int .u8 0), .lit (.int .u8 0)], .agg [.lit (.int .u8 0), .lit (.int .u8 0)], .agg [.lit (.int .u8 0), .lit (.int .u8 0)], .agg [.lit (.int .u8 0), .lit (.int .u8 0)], .agg [.lit (.int .u8 0), .lit (.int .u8 0)], .agg [.lit (.int .u8 0), .lit (.int .u8 0)], .agg [.lit (.int .u8 0), .lit (.int .u8 0)], .agg [.lit (.int .u8 0), .lit (.int .u8 0)], .agg [.lit (.int .u8 0), .lit (.int .u8 0)], .agg [.lit (.int .u8 0), .lit (.int .u8 0)], .agg [.lit (.int .u8 0), .lit (.int .u8 0)]]
def laid_errors_errorType {H : Type} : DataW H := .iface "internal/reflectlite.rtype" (.agg [.ptr (.lit (.string [101, 114, 114, 111, 114]))])
/-- One of Go's own tables, pinned by name: the form's constant. -/
def laid_unicode_utf8_first : DataW Unit := Go.Pinned.utf8First
def laid_understudy_rules_number {H : Type} : DataW H := .agg [.lit (.int .i64 1), .lit (.string []), .lit (.int .i64 0), .lit (.int .i64 0), .lit (.int .i64 0)]
def laid_understudy_rules_long {H : Type} : DataW H := .agg [.lit (.int .i64 2), .lit (.string []), .lit (.int .i64 0), .lit (.int .i64 0), .lit (.int .i64 0)]
def laid_understudy_rules_null {H : Type} : DataW H := .agg [.lit (.int .i64 3), .lit (.string []), .lit (.int .i64 0), .lit (.int .i64 0), .lit (.int .i64 0)]
def laid_understudy_rules_numbers {H : Type} : DataW H := .agg [.lit (.int .i64 5), .lit (.string []), .lit (.int .i64 1), .lit (.int .i64 1), .lit (.int .i64 0)]
def laid_understudy_rules_longs {H : Type} : DataW H := .agg [.lit (.int .i64 5), .lit (.string []), .lit (.int .i64 1), .lit (.int .i64 2), .lit (.int .i64 0)]

/-- 'understudylaw09.LinkBuilds': WHATEVER THE INPUT: true; the input reads as it did. -/
def linkBuildsSpec : ChangeSpec := { name := "linkBuilds", fn := fun _ => fun
  | [d] => { results := [.lit (.bool true)], args := [d] }
  | _ => none }
def linkBuildsRow : OpenClaim := { program := "ytddjdlbmadlefaagreatdoor", sum := "29fe604b682a0122ad4b3d39fb0ff2b31288ce80fc176ba0d50185f1912e9c2d", func := "understudy/understudylaw09.LinkBuilds", spec := "linkBuilds", inPlace := ["internal/reflectlite.ValueOf", "(internal/reflectlite.Value).Type", "(internal/reflectlite.Value).IsNil", "internal/reflectlite.TypeOf", "(internal/reflectlite.Value).Elem", "(internal/reflectlite.Value).Set", "internal/bytealg.IndexByteString", "internal/bytealg.IndexString"], unfollowed := true, recurses := true, named := ["unicode/utf8.first", "unicode/utf8.acceptRanges", "errors.errorType", "internal/bytealg.MaxLen"], apart := false, laid := [("unicode/utf8.acceptRanges", laid_unicode_utf8_acceptRanges), ("errors.errorType", laid_errors_errorType), ("unicode/utf8.first", laid_unicode_utf8_first)] }
def LinkBuildsSaid : Prop := linkBuildsRow.holds Tryz.pinned (OpenSpec.ofChange linkBuildsSpec)

/-- ITS FALSE NEIGHBOUR: 'it returns false'. Refute it at one input. -/
def linkBuildsWrong : ChangeSpec := { name := "linkBuilds", fn := fun _ => fun
  | [d] => { results := [.lit (.bool false)], args := [d] }
  | _ => none }
def LinkBuildsWrongFalsely : Prop := linkBuildsRow.holds Tryz.pinned (OpenSpec.ofChange linkBuildsWrong)

/-- 'understudylaw09.LinkLooks': WHATEVER THE INPUT: true; the input reads as it did. -/
def linkLooksSpec : ChangeSpec := { name := "linkLooks", fn := fun _ => fun
  | [d1, d2, d3, d4, d5, d6] => { results := [.lit (.bool true)], args := [d1, d2, d3, d4, d5, d6] }
  | _ => none }
def linkLooksRow : OpenClaim := { program := "ytddjdlbmadlefaagreatdoor", sum := "29fe604b682a0122ad4b3d39fb0ff2b31288ce80fc176ba0d50185f1912e9c2d", func := "understudy/understudylaw09.LinkLooks", spec := "linkLooks", inPlace := ["internal/reflectlite.ValueOf", "(internal/reflectlite.Value).Type", "(internal/reflectlite.Value).IsNil", "internal/reflectlite.TypeOf", "(internal/reflectlite.Value).Elem", "(internal/reflectlite.Value).Set", "internal/bytealg.IndexByteString", "internal/bytealg.IndexString"], unfollowed := true, recurses := true, named := ["unicode/utf8.first", "unicode/utf8.acceptRanges", "errors.errorType", "internal/bytealg.MaxLen"], apart := false, laid := [("unicode/utf8.acceptRanges", laid_unicode_utf8_acceptRanges), ("errors.errorType", laid_errors_errorType), ("unicode/utf8.first", laid_unicode_utf8_first)] }
def LinkLooksSaid : Prop := linkLooksRow.holds Tryz.pinned (OpenSpec.ofChange linkLooksSpec)

/-- ITS FALSE NEIGHBOUR: 'it returns false'. Refute it at one input. -/
def linkLooksWrong : ChangeSpec := { name := "linkLooks", fn := fun _ => fun
  | [d1, d2, d3, d4, d5, d6] => { results := [.lit (.bool false)], args := [d1, d2, d3, d4, d5, d6] }
  | _ => none }
def LinkLooksWrongFalsely : Prop := linkLooksRow.holds Tryz.pinned (OpenSpec.ofChange linkLooksWrong)

/-- 'understudylaw09.LinkTree': WHATEVER THE INPUT: true; the input reads as it did. -/
def linkTreeSpec : ChangeSpec := { name := "linkTree", fn := fun _ => fun
  | [d1, d2, d3] => { results := [.lit (.bool true)], args := [d1, d2, d3] }
  | _ => none }
def linkTreeRow : OpenClaim := { program := "ytddjdlbmadlefaagreatdoor", sum := "29fe604b682a0122ad4b3d39fb0ff2b31288ce80fc176ba0d50185f1912e9c2d", func := "understudy/understudylaw09.LinkTree", spec := "linkTree", inPlace := ["internal/reflectlite.ValueOf", "(internal/reflectlite.Value).Type", "(internal/reflectlite.Value).IsNil", "internal/reflectlite.TypeOf", "(internal/reflectlite.Value).Elem", "(internal/reflectlite.Value).Set", "internal/bytealg.IndexByteString", "internal/bytealg.IndexString"], unfollowed := true, recurses := true, named := ["unicode/utf8.first", "unicode/utf8.acceptRanges", "errors.errorType", "internal/bytealg.MaxLen"], apart := false, laid := [("unicode/utf8.acceptRanges", laid_unicode_utf8_acceptRanges), ("errors.errorType", laid_errors_errorType), ("unicode/utf8.first", laid_unicode_utf8_first)] }
def LinkTreeSaid : Prop := linkTreeRow.holds Tryz.pinned (OpenSpec.ofChange linkTreeSpec)

/-- ITS FALSE NEIGHBOUR: 'it returns false'. Refute it at one input. -/
def linkTreeWrong : ChangeSpec := { name := "linkTree", fn := fun _ => fun
  | [d1, d2, d3] => { results := [.lit (.bool false)], args := [d1, d2, d3] }
  | _ => none }
def LinkTreeWrongFalsely : Prop := linkTreeRow.holds Tryz.pinned (OpenSpec.ofChange linkTreeWrong)

/-- 'understudylaw09.LinkFields': WHATEVER THE INPUT: true; the input reads as it did. -/
def linkFieldsSpec : ChangeSpec := { name := "linkFields", fn := fun _ => fun
  | [d] => { results := [.lit (.bool true)], args := [d] }
  | _ => none }
def linkFieldsRow : OpenClaim := { program := "ytddjdlbmadlefaagreatdoor", sum := "29fe604b682a0122ad4b3d39fb0ff2b31288ce80fc176ba0d50185f1912e9c2d", func := "understudy/understudylaw09.LinkFields", spec := "linkFields", inPlace := ["internal/reflectlite.ValueOf", "(internal/reflectlite.Value).Type", "(internal/reflectlite.Value).IsNil", "internal/reflectlite.TypeOf", "(internal/reflectlite.Value).Elem", "(internal/reflectlite.Value).Set", "internal/bytealg.IndexByteString", "internal/bytealg.IndexString"], unfollowed := true, recurses := true, named := ["unicode/utf8.first", "unicode/utf8.acceptRanges", "errors.errorType", "internal/bytealg.MaxLen"], apart := false, laid := [("unicode/utf8.acceptRanges", laid_unicode_utf8_acceptRanges), ("errors.errorType", laid_errors_errorType), ("unicode/utf8.first", laid_unicode_utf8_first)] }
def LinkFieldsSaid : Prop := linkFieldsRow.holds Tryz.pinned (OpenSpec.ofChange linkFieldsSpec)

/-- ITS FALSE NEIGHBOUR: 'it returns false'. Refute it at one input. -/
def linkFieldsWrong : ChangeSpec := { name := "linkFields", fn := fun _ => fun
  | [d] => { results := [.lit (.bool false)], args := [d] }
  | _ => none }
def LinkFieldsWrongFalsely : Prop := linkFieldsRow.holds Tryz.pinned (OpenSpec.ofChange linkFieldsWrong)

/-- 'understudylaw09.LinkBuiltIn': WHATEVER THE INPUT: true; the input reads as it did. -/
def linkBuiltInSpec : ChangeSpec := { name := "linkBuiltIn", fn := fun _ => fun
  | [d] => { results := [.lit (.bool true)], args := [d] }
  | _ => none }
def linkBuiltInRow : OpenClaim := { program := "ytddjdlbmadlefaagreatdoor", sum := "29fe604b682a0122ad4b3d39fb0ff2b31288ce80fc176ba0d50185f1912e9c2d", func := "understudy/understudylaw09.LinkBuiltIn", spec := "linkBuiltIn", inPlace := ["internal/reflectlite.ValueOf", "(internal/reflectlite.Value).Type", "(internal/reflectlite.Value).IsNil", "internal/reflectlite.TypeOf", "(internal/reflectlite.Value).Elem", "(internal/reflectlite.Value).Set", "internal/bytealg.IndexByteString", "internal/bytealg.IndexString"], unfollowed := true, recurses := true, named := ["unicode/utf8.first", "unicode/utf8.acceptRanges", "errors.errorType", "internal/bytealg.MaxLen"], apart := false, laid := [("unicode/utf8.acceptRanges", laid_unicode_utf8_acceptRanges), ("errors.errorType", laid_errors_errorType), ("unicode/utf8.first", laid_unicode_utf8_first)] }
def LinkBuiltInSaid : Prop := linkBuiltInRow.holds Tryz.pinned (OpenSpec.ofChange linkBuiltInSpec)

/-- ITS FALSE NEIGHBOUR: 'it returns false'. Refute it at one input. -/
def linkBuiltInWrong : ChangeSpec := { name := "linkBuiltIn", fn := fun _ => fun
  | [d] => { results := [.lit (.bool false)], args := [d] }
  | _ => none }
def LinkBuiltInWrongFalsely : Prop := linkBuiltInRow.holds Tryz.pinned (OpenSpec.ofChange linkBuiltInWrong)

/-- 'understudylaw09.LinkMore': WHATEVER THE INPUT: true; the input reads as it did. -/
def linkMoreSpec : ChangeSpec := { name := "linkMore", fn := fun _ => fun
  | [d1, d2] => { results := [.lit (.bool true)], args := [d1, d2] }
  | _ => none }
def linkMoreRow : OpenClaim := { program := "ytddjdlbmadlefaagreatdoor", sum := "29fe604b682a0122ad4b3d39fb0ff2b31288ce80fc176ba0d50185f1912e9c2d", func := "understudy/understudylaw09.LinkMore", spec := "linkMore", inPlace := ["internal/reflectlite.ValueOf", "(internal/reflectlite.Value).Type", "(internal/reflectlite.Value).IsNil", "internal/reflectlite.TypeOf", "(internal/reflectlite.Value).Elem", "(internal/reflectlite.Value).Set", "internal/bytealg.IndexByteString", "internal/bytealg.IndexString"], unfollowed := true, recurses := true, named := ["unicode/utf8.first", "unicode/utf8.acceptRanges", "errors.errorType", "internal/bytealg.MaxLen"], apart := false, laid := [("unicode/utf8.acceptRanges", laid_unicode_utf8_acceptRanges), ("errors.errorType", laid_errors_errorType), ("unicode/utf8.first", laid_unicode_utf8_first)] }
def LinkMoreSaid : Prop := linkMoreRow.holds Tryz.pinned (OpenSpec.ofChange linkMoreSpec)

/-- ITS FALSE NEIGHBOUR: 'it returns false'. Refute it at one input. -/
def linkMoreWrong : ChangeSpec := { name := "linkMore", fn := fun _ => fun
  | [d1, d2] => { results := [.lit (.bool false)], args := [d1, d2] }
  | _ => none }
def LinkMoreWrongFalsely : Prop := linkMoreRow.holds Tryz.pinned (OpenSpec.ofChange linkMoreWrong)

/-- 'understudylaw11.RulesFirst': WHATEVER THE INPUT: true; the input reads as it did. -/
def rulesFirstSpec : ChangeSpec := { name := "rulesFirst", fn := fun _ => fun
  | [d1, d2, d3, d4] => { results := [.lit (.bool true)], args := [d1, d2, d3, d4] }
  | _ => none }
def rulesFirstRow : OpenClaim := { program := "ytddjdlbmadlefaagreatdoor", sum := "29fe604b682a0122ad4b3d39fb0ff2b31288ce80fc176ba0d50185f1912e9c2d", func := "understudy/understudylaw11.RulesFirst", spec := "rulesFirst", inPlace := ["internal/reflectlite.ValueOf", "(internal/reflectlite.Value).Type", "(internal/reflectlite.Value).IsNil", "internal/reflectlite.TypeOf", "(internal/reflectlite.Value).Elem", "(internal/reflectlite.Value).Set", "internal/bytealg.IndexByteString", "internal/bytealg.IndexString"], unfollowed := true, recurses := true, named := ["unicode/utf8.first", "unicode/utf8.acceptRanges", "errors.errorType", "internal/bytealg.MaxLen"], apart := false, laid := [("unicode/utf8.acceptRanges", laid_unicode_utf8_acceptRanges), ("errors.errorType", laid_errors_errorType), ("unicode/utf8.first", laid_unicode_utf8_first)] }
def RulesFirstSaid : Prop := rulesFirstRow.holds Tryz.pinned (OpenSpec.ofChange rulesFirstSpec)

/-- ITS FALSE NEIGHBOUR: 'it returns false'. Refute it at one input. -/
def rulesFirstWrong : ChangeSpec := { name := "rulesFirst", fn := fun _ => fun
  | [d1, d2, d3, d4] => { results := [.lit (.bool false)], args := [d1, d2, d3, d4] }
  | _ => none }
def RulesFirstWrongFalsely : Prop := rulesFirstRow.holds Tryz.pinned (OpenSpec.ofChange rulesFirstWrong)

/-- 'understudylaw11.RulesAssigns': WHATEVER THE INPUT: true; the input reads as it did. -/
def rulesAssignsSpec : ChangeSpec := { name := "rulesAssigns", fn := fun _ => fun
  | [d1, d2, d3, d4, d5] => { results := [.lit (.bool true)], args := [d1, d2, d3, d4, d5] }
  | _ => none }
def rulesAssignsRow : OpenClaim := { program := "ytddjdlbmadlefaagreatdoor", sum := "29fe604b682a0122ad4b3d39fb0ff2b31288ce80fc176ba0d50185f1912e9c2d", func := "understudy/understudylaw11.RulesAssigns", spec := "rulesAssigns", inPlace := ["internal/reflectlite.ValueOf", "(internal/reflectlite.Value).Type", "(internal/reflectlite.Value).IsNil", "internal/reflectlite.TypeOf", "(internal/reflectlite.Value).Elem", "(internal/reflectlite.Value).Set", "internal/bytealg.IndexByteString", "internal/bytealg.IndexString"], unfollowed := true, recurses := true, named := ["unicode/utf8.first", "unicode/utf8.acceptRanges", "errors.errorType", "internal/bytealg.MaxLen"], apart := false, laid := [("unicode/utf8.acceptRanges", laid_unicode_utf8_acceptRanges), ("errors.errorType", laid_errors_errorType), ("unicode/utf8.first", laid_unicode_utf8_first)] }
def RulesAssignsSaid : Prop := rulesAssignsRow.holds Tryz.pinned (OpenSpec.ofChange rulesAssignsSpec)

/-- ITS FALSE NEIGHBOUR: 'it returns false'. Refute it at one input. -/
def rulesAssignsWrong : ChangeSpec := { name := "rulesAssigns", fn := fun _ => fun
  | [d1, d2, d3, d4, d5] => { results := [.lit (.bool false)], args := [d1, d2, d3, d4, d5] }
  | _ => none }
def RulesAssignsWrongFalsely : Prop := rulesAssignsRow.holds Tryz.pinned (OpenSpec.ofChange rulesAssignsWrong)

/-- 'understudylaw11.RulesGoes': WHATEVER THE INPUT: true; the input reads as it did. -/
def rulesGoesSpec : ChangeSpec := { name := "rulesGoes", fn := fun _ => fun
  | [d1, d2, d3, d4, d5, d6] => { results := [.lit (.bool true)], args := [d1, d2, d3, d4, d5, d6] }
  | _ => none }
def rulesGoesRow : OpenClaim := { program := "ytddjdlbmadlefaagreatdoor", sum := "29fe604b682a0122ad4b3d39fb0ff2b31288ce80fc176ba0d50185f1912e9c2d", func := "understudy/understudylaw11.RulesGoes", spec := "rulesGoes", inPlace := ["internal/reflectlite.ValueOf", "(internal/reflectlite.Value).Type", "(internal/reflectlite.Value).IsNil", "internal/reflectlite.TypeOf", "(internal/reflectlite.Value).Elem", "(internal/reflectlite.Value).Set", "internal/bytealg.IndexByteString", "internal/bytealg.IndexString", "internal/abi.NoEscape", "internal/bytealg.MakeNoZero"], unfollowed := true, recurses := true, named := ["unicode/utf8.first", "unicode/utf8.acceptRanges", "errors.errorType", "internal/bytealg.MaxLen", "understudy/rules.null", "understudy/rules.number", "understudy/rules.long", "understudy/rules.numbers", "understudy/rules.longs"], apart := false, laid := [("unicode/utf8.acceptRanges", laid_unicode_utf8_acceptRanges), ("errors.errorType", laid_errors_errorType), ("understudy/rules.number", laid_understudy_rules_number), ("understudy/rules.long", laid_understudy_rules_long), ("understudy/rules.null", laid_understudy_rules_null), ("understudy/rules.numbers", laid_understudy_rules_numbers), ("understudy/rules.longs", laid_understudy_rules_longs), ("unicode/utf8.first", laid_unicode_utf8_first)] }
def RulesGoesSaid : Prop := rulesGoesRow.holds Tryz.pinned (OpenSpec.ofChange rulesGoesSpec)

/-- ITS FALSE NEIGHBOUR: 'it returns false'. Refute it at one input. -/
def rulesGoesWrong : ChangeSpec := { name := "rulesGoes", fn := fun _ => fun
  | [d1, d2, d3, d4, d5, d6] => { results := [.lit (.bool false)], args := [d1, d2, d3, d4, d5, d6] }
  | _ => none }
def RulesGoesWrongFalsely : Prop := rulesGoesRow.holds Tryz.pinned (OpenSpec.ofChange rulesGoesWrong)

/-- 'understudylaw11.RulesKeeps': WHATEVER THE INPUT: true; the input reads as it did. -/
def rulesKeepsSpec : ChangeSpec := { name := "rulesKeeps", fn := fun _ => fun
  | [d1, d2, d3, d4, d5] => { results := [.lit (.bool true)], args := [d1, d2, d3, d4, d5] }
  | _ => none }
def rulesKeepsRow : OpenClaim := { program := "ytddjdlbmadlefaagreatdoor", sum := "29fe604b682a0122ad4b3d39fb0ff2b31288ce80fc176ba0d50185f1912e9c2d", func := "understudy/understudylaw11.RulesKeeps", spec := "rulesKeeps", inPlace := ["internal/reflectlite.ValueOf", "(internal/reflectlite.Value).Type", "(internal/reflectlite.Value).IsNil", "internal/reflectlite.TypeOf", "(internal/reflectlite.Value).Elem", "(internal/reflectlite.Value).Set", "internal/bytealg.IndexByteString", "internal/bytealg.IndexString"], unfollowed := true, recurses := true, named := ["unicode/utf8.first", "unicode/utf8.acceptRanges", "errors.errorType", "internal/bytealg.MaxLen", "understudy/rules.null", "understudy/rules.number", "understudy/rules.long", "understudy/rules.numbers", "understudy/rules.longs"], apart := false, laid := [("unicode/utf8.acceptRanges", laid_unicode_utf8_acceptRanges), ("errors.errorType", laid_errors_errorType), ("understudy/rules.number", laid_understudy_rules_number), ("understudy/rules.long", laid_understudy_rules_long), ("understudy/rules.null", laid_understudy_rules_null), ("understudy/rules.numbers", laid_understudy_rules_numbers), ("understudy/rules.longs", laid_understudy_rules_longs), ("unicode/utf8.first", laid_unicode_utf8_first)] }
def RulesKeepsSaid : Prop := rulesKeepsRow.holds Tryz.pinned (OpenSpec.ofChange rulesKeepsSpec)

/-- ITS FALSE NEIGHBOUR: 'it returns false'. Refute it at one input. -/
def rulesKeepsWrong : ChangeSpec := { name := "rulesKeeps", fn := fun _ => fun
  | [d1, d2, d3, d4, d5] => { results := [.lit (.bool false)], args := [d1, d2, d3, d4, d5] }
  | _ => none }
def RulesKeepsWrongFalsely : Prop := rulesKeepsRow.holds Tryz.pinned (OpenSpec.ofChange rulesKeepsWrong)

/-- 'understudylaw11.RulesZero': WHATEVER THE INPUT: true; the input reads as it did. -/
def rulesZeroSpec : ChangeSpec := { name := "rulesZero", fn := fun _ => fun
  | [d1, d2, d3] => { results := [.lit (.bool true)], args := [d1, d2, d3] }
  | _ => none }
def rulesZeroRow : OpenClaim := { program := "ytddjdlbmadlefaagreatdoor", sum := "29fe604b682a0122ad4b3d39fb0ff2b31288ce80fc176ba0d50185f1912e9c2d", func := "understudy/understudylaw11.RulesZero", spec := "rulesZero", inPlace := ["internal/bytealg.IndexByteString", "internal/bytealg.IndexString", "internal/reflectlite.ValueOf", "(internal/reflectlite.Value).Type", "(internal/reflectlite.Value).IsNil", "internal/reflectlite.TypeOf", "(internal/reflectlite.Value).Elem", "(internal/reflectlite.Value).Set"], unfollowed := true, recurses := true, named := ["understudy/rules.null", "understudy/rules.number", "understudy/rules.long", "understudy/rules.numbers", "understudy/rules.longs", "internal/bytealg.MaxLen", "errors.errorType"], apart := false, laid := [("errors.errorType", laid_errors_errorType), ("understudy/rules.number", laid_understudy_rules_number), ("understudy/rules.long", laid_understudy_rules_long), ("understudy/rules.null", laid_understudy_rules_null), ("understudy/rules.numbers", laid_understudy_rules_numbers), ("understudy/rules.longs", laid_understudy_rules_longs)] }
def RulesZeroSaid : Prop := rulesZeroRow.holds Tryz.pinned (OpenSpec.ofChange rulesZeroSpec)

/-- ITS FALSE NEIGHBOUR: 'it returns false'. Refute it at one input. -/
def rulesZeroWrong : ChangeSpec := { name := "rulesZero", fn := fun _ => fun
  | [d1, d2, d3] => { results := [.lit (.bool false)], args := [d1, d2, d3] }
  | _ => none }
def RulesZeroWrongFalsely : Prop := rulesZeroRow.holds Tryz.pinned (OpenSpec.ofChange rulesZeroWrong)

/- THE SECOND FORM. 'bulk': how many values and letters a reading holds, each counted each time it is reached (what is shared counts as often as it is met; a slice's spare places count too). A statement '..UptoSaid' is the law's where the arguments, and the package variables that the reading takes, are together of bulk at most 1048576: NARROWER than '..Said'. Prove '..Said' where nothing that the law and all that it calls make is longer than what came in: it says more and counts as full. Else prove '..UptoSaid'. A law counts once. -/
mutual
def uptoBulk {H : Type} : DataW H → Nat
  | .lit (.string bytes) => bytes.length + 1
  | .lit _ => 1
  | .nil => 1
  | .ptr d => uptoBulk d + 1
  | .slice elems spare => uptoBulkAll elems + uptoBulkAll spare + 1
  | .agg parts => uptoBulkAll parts + 1
  | .iface _ d => uptoBulk d + 1
  | .map entries => uptoBulkEntries entries + 1
  | .held _ => 1
def uptoBulkAll {H : Type} : List (DataW H) → Nat
  | [] => 0
  | d :: r => uptoBulk d + uptoBulkAll r
def uptoBulkEntries {H : Type} : List (Lit × DataW H) → Nat
  | [] => 0
  | x :: r => uptoBulkEntry x + uptoBulkEntries r
def uptoBulkEntry {H : Type} : Lit × DataW H → Nat
  | (.string bytes, d) => bytes.length + uptoBulk d + 1
  | (_, d) => uptoBulk d + 1
 end
def uptoSmall : (H : Type) → List (DataW H) → Bool := fun _ ds => decide (uptoBulkAll ds ≤ 1048576)
def OpenSpec.upto (s : _root_.Go.ChangeSpec) : _root_.Go.OpenSpec := { _root_.Go.OpenSpec.ofChange s with cond := some uptoSmall }

/-- 'understudylaw09.LinkBuilds', WHERE WHAT IT READS IS OF BULK AT MOST 1048576: true; the input reads as it did. -/
def linkBuildsUptoRow : OpenClaim := { program := "ytddjdlbmadlefaagreatdoor", sum := "29fe604b682a0122ad4b3d39fb0ff2b31288ce80fc176ba0d50185f1912e9c2d", func := "understudy/understudylaw09.LinkBuilds", spec := "linkBuilds", inPlace := ["internal/reflectlite.ValueOf", "(internal/reflectlite.Value).Type", "(internal/reflectlite.Value).IsNil", "internal/reflectlite.TypeOf", "(internal/reflectlite.Value).Elem", "(internal/reflectlite.Value).Set", "internal/bytealg.IndexByteString", "internal/bytealg.IndexString"], unfollowed := true, recurses := true, named := ["unicode/utf8.first", "unicode/utf8.acceptRanges", "errors.errorType", "internal/bytealg.MaxLen"], apart := false, laid := [("unicode/utf8.acceptRanges", laid_unicode_utf8_acceptRanges), ("errors.errorType", laid_errors_errorType), ("unicode/utf8.first", laid_unicode_utf8_first)], narrowed := true }
def LinkBuildsUptoSaid : Prop := linkBuildsUptoRow.holds Tryz.pinned (OpenSpec.upto linkBuildsSpec)

/-- 'understudylaw09.LinkLooks', WHERE WHAT IT READS IS OF BULK AT MOST 1048576: true; the input reads as it did. -/
def linkLooksUptoRow : OpenClaim := { program := "ytddjdlbmadlefaagreatdoor", sum := "29fe604b682a0122ad4b3d39fb0ff2b31288ce80fc176ba0d50185f1912e9c2d", func := "understudy/understudylaw09.LinkLooks", spec := "linkLooks", inPlace := ["internal/reflectlite.ValueOf", "(internal/reflectlite.Value).Type", "(internal/reflectlite.Value).IsNil", "internal/reflectlite.TypeOf", "(internal/reflectlite.Value).Elem", "(internal/reflectlite.Value).Set", "internal/bytealg.IndexByteString", "internal/bytealg.IndexString"], unfollowed := true, recurses := true, named := ["unicode/utf8.first", "unicode/utf8.acceptRanges", "errors.errorType", "internal/bytealg.MaxLen"], apart := false, laid := [("unicode/utf8.acceptRanges", laid_unicode_utf8_acceptRanges), ("errors.errorType", laid_errors_errorType), ("unicode/utf8.first", laid_unicode_utf8_first)], narrowed := true }
def LinkLooksUptoSaid : Prop := linkLooksUptoRow.holds Tryz.pinned (OpenSpec.upto linkLooksSpec)

/-- 'understudylaw09.LinkTree', WHERE WHAT IT READS IS OF BULK AT MOST 1048576: true; the input reads as it did. -/
def linkTreeUptoRow : OpenClaim := { program := "ytddjdlbmadlefaagreatdoor", sum := "29fe604b682a0122ad4b3d39fb0ff2b31288ce80fc176ba0d50185f1912e9c2d", func := "understudy/understudylaw09.LinkTree", spec := "linkTree", inPlace := ["internal/reflectlite.ValueOf", "(internal/reflectlite.Value).Type", "(internal/reflectlite.Value).IsNil", "internal/reflectlite.TypeOf", "(internal/reflectlite.Value).Elem", "(internal/reflectlite.Value).Set", "internal/bytealg.IndexByteString", "internal/bytealg.IndexString"], unfollowed := true, recurses := true, named := ["unicode/utf8.first", "unicode/utf8.acceptRanges", "errors.errorType", "internal/bytealg.MaxLen"], apart := false, laid := [("unicode/utf8.acceptRanges", laid_unicode_utf8_acceptRanges), ("errors.errorType", laid_errors_errorType), ("unicode/utf8.first", laid_unicode_utf8_first)], narrowed := true }
def LinkTreeUptoSaid : Prop := linkTreeUptoRow.holds Tryz.pinned (OpenSpec.upto linkTreeSpec)

/-- 'understudylaw09.LinkFields', WHERE WHAT IT READS IS OF BULK AT MOST 1048576: true; the input reads as it did. -/
def linkFieldsUptoRow : OpenClaim := { program := "ytddjdlbmadlefaagreatdoor", sum := "29fe604b682a0122ad4b3d39fb0ff2b31288ce80fc176ba0d50185f1912e9c2d", func := "understudy/understudylaw09.LinkFields", spec := "linkFields", inPlace := ["internal/reflectlite.ValueOf", "(internal/reflectlite.Value).Type", "(internal/reflectlite.Value).IsNil", "internal/reflectlite.TypeOf", "(internal/reflectlite.Value).Elem", "(internal/reflectlite.Value).Set", "internal/bytealg.IndexByteString", "internal/bytealg.IndexString"], unfollowed := true, recurses := true, named := ["unicode/utf8.first", "unicode/utf8.acceptRanges", "errors.errorType", "internal/bytealg.MaxLen"], apart := false, laid := [("unicode/utf8.acceptRanges", laid_unicode_utf8_acceptRanges), ("errors.errorType", laid_errors_errorType), ("unicode/utf8.first", laid_unicode_utf8_first)], narrowed := true }
def LinkFieldsUptoSaid : Prop := linkFieldsUptoRow.holds Tryz.pinned (OpenSpec.upto linkFieldsSpec)

/-- 'understudylaw09.LinkBuiltIn', WHERE WHAT IT READS IS OF BULK AT MOST 1048576: true; the input reads as it did. -/
def linkBuiltInUptoRow : OpenClaim := { program := "ytddjdlbmadlefaagreatdoor", sum := "29fe604b682a0122ad4b3d39fb0ff2b31288ce80fc176ba0d50185f1912e9c2d", func := "understudy/understudylaw09.LinkBuiltIn", spec := "linkBuiltIn", inPlace := ["internal/reflectlite.ValueOf", "(internal/reflectlite.Value).Type", "(internal/reflectlite.Value).IsNil", "internal/reflectlite.TypeOf", "(internal/reflectlite.Value).Elem", "(internal/reflectlite.Value).Set", "internal/bytealg.IndexByteString", "internal/bytealg.IndexString"], unfollowed := true, recurses := true, named := ["unicode/utf8.first", "unicode/utf8.acceptRanges", "errors.errorType", "internal/bytealg.MaxLen"], apart := false, laid := [("unicode/utf8.acceptRanges", laid_unicode_utf8_acceptRanges), ("errors.errorType", laid_errors_errorType), ("unicode/utf8.first", laid_unicode_utf8_first)], narrowed := true }
def LinkBuiltInUptoSaid : Prop := linkBuiltInUptoRow.holds Tryz.pinned (OpenSpec.upto linkBuiltInSpec)

/-- 'understudylaw09.LinkMore', WHERE WHAT IT READS IS OF BULK AT MOST 1048576: true; the input reads as it did. -/
def linkMoreUptoRow : OpenClaim := { program := "ytddjdlbmadlefaagreatdoor", sum := "29fe604b682a0122ad4b3d39fb0ff2b31288ce80fc176ba0d50185f1912e9c2d", func := "understudy/understudylaw09.LinkMore", spec := "linkMore", inPlace := ["internal/reflectlite.ValueOf", "(internal/reflectlite.Value).Type", "(internal/reflectlite.Value).IsNil", "internal/reflectlite.TypeOf", "(internal/reflectlite.Value).Elem", "(internal/reflectlite.Value).Set", "internal/bytealg.IndexByteString", "internal/bytealg.IndexString"], unfollowed := true, recurses := true, named := ["unicode/utf8.first", "unicode/utf8.acceptRanges", "errors.errorType", "internal/bytealg.MaxLen"], apart := false, laid := [("unicode/utf8.acceptRanges", laid_unicode_utf8_acceptRanges), ("errors.errorType", laid_errors_errorType), ("unicode/utf8.first", laid_unicode_utf8_first)], narrowed := true }
def LinkMoreUptoSaid : Prop := linkMoreUptoRow.holds Tryz.pinned (OpenSpec.upto linkMoreSpec)

/-- 'understudylaw11.RulesFirst', WHERE WHAT IT READS IS OF BULK AT MOST 1048576: true; the input reads as it did. -/
def rulesFirstUptoRow : OpenClaim := { program := "ytddjdlbmadlefaagreatdoor", sum := "29fe604b682a0122ad4b3d39fb0ff2b31288ce80fc176ba0d50185f1912e9c2d", func := "understudy/understudylaw11.RulesFirst", spec := "rulesFirst", inPlace := ["internal/reflectlite.ValueOf", "(internal/reflectlite.Value).Type", "(internal/reflectlite.Value).IsNil", "internal/reflectlite.TypeOf", "(internal/reflectlite.Value).Elem", "(internal/reflectlite.Value).Set", "internal/bytealg.IndexByteString", "internal/bytealg.IndexString"], unfollowed := true, recurses := true, named := ["unicode/utf8.first", "unicode/utf8.acceptRanges", "errors.errorType", "internal/bytealg.MaxLen"], apart := false, laid := [("unicode/utf8.acceptRanges", laid_unicode_utf8_acceptRanges), ("errors.errorType", laid_errors_errorType), ("unicode/utf8.first", laid_unicode_utf8_first)], narrowed := true }
def RulesFirstUptoSaid : Prop := rulesFirstUptoRow.holds Tryz.pinned (OpenSpec.upto rulesFirstSpec)

/-- 'understudylaw11.RulesAssigns', WHERE WHAT IT READS IS OF BULK AT MOST 1048576: true; the input reads as it did. -/
def rulesAssignsUptoRow : OpenClaim := { program := "ytddjdlbmadlefaagreatdoor", sum := "29fe604b682a0122ad4b3d39fb0ff2b31288ce80fc176ba0d50185f1912e9c2d", func := "understudy/understudylaw11.RulesAssigns", spec := "rulesAssigns", inPlace := ["internal/reflectlite.ValueOf", "(internal/reflectlite.Value).Type", "(internal/reflectlite.Value).IsNil", "internal/reflectlite.TypeOf", "(internal/reflectlite.Value).Elem", "(internal/reflectlite.Value).Set", "internal/bytealg.IndexByteString", "internal/bytealg.IndexString"], unfollowed := true, recurses := true, named := ["unicode/utf8.first", "unicode/utf8.acceptRanges", "errors.errorType", "internal/bytealg.MaxLen"], apart := false, laid := [("unicode/utf8.acceptRanges", laid_unicode_utf8_acceptRanges), ("errors.errorType", laid_errors_errorType), ("unicode/utf8.first", laid_unicode_utf8_first)], narrowed := true }
def RulesAssignsUptoSaid : Prop := rulesAssignsUptoRow.holds Tryz.pinned (OpenSpec.upto rulesAssignsSpec)

/-- 'understudylaw11.RulesGoes', WHERE WHAT IT READS IS OF BULK AT MOST 1048576: true; the input reads as it did. -/
def rulesGoesUptoRow : OpenClaim := { program := "ytddjdlbmadlefaagreatdoor", sum := "29fe604b682a0122ad4b3d39fb0ff2b31288ce80fc176ba0d50185f1912e9c2d", func := "understudy/understudylaw11.RulesGoes", spec := "rulesGoes", inPlace := ["internal/reflectlite.ValueOf", "(internal/reflectlite.Value).Type", "(internal/reflectlite.Value).IsNil", "internal/reflectlite.TypeOf", "(internal/reflectlite.Value).Elem", "(internal/reflectlite.Value).Set", "internal/bytealg.IndexByteString", "internal/bytealg.IndexString", "internal/abi.NoEscape", "internal/bytealg.MakeNoZero"], unfollowed := true, recurses := true, named := ["unicode/utf8.first", "unicode/utf8.acceptRanges", "errors.errorType", "internal/bytealg.MaxLen", "understudy/rules.null", "understudy/rules.number", "understudy/rules.long", "understudy/rules.numbers", "understudy/rules.longs"], apart := false, laid := [("unicode/utf8.acceptRanges", laid_unicode_utf8_acceptRanges), ("errors.errorType", laid_errors_errorType), ("understudy/rules.number", laid_understudy_rules_number), ("understudy/rules.long", laid_understudy_rules_long), ("understudy/rules.null", laid_understudy_rules_null), ("understudy/rules.numbers", laid_understudy_rules_numbers), ("understudy/rules.longs", laid_understudy_rules_longs), ("unicode/utf8.first", laid_unicode_utf8_first)], narrowed := true }
def RulesGoesUptoSaid : Prop := rulesGoesUptoRow.holds Tryz.pinned (OpenSpec.upto rulesGoesSpec)

/-- 'understudylaw11.RulesKeeps', WHERE WHAT IT READS IS OF BULK AT MOST 1048576: true; the input reads as it did. -/
def rulesKeepsUptoRow : OpenClaim := { program := "ytddjdlbmadlefaagreatdoor", sum := "29fe604b682a0122ad4b3d39fb0ff2b31288ce80fc176ba0d50185f1912e9c2d", func := "understudy/understudylaw11.RulesKeeps", spec := "rulesKeeps", inPlace := ["internal/reflectlite.ValueOf", "(internal/reflectlite.Value).Type", "(internal/reflectlite.Value).IsNil", "internal/reflectlite.TypeOf", "(internal/reflectlite.Value).Elem", "(internal/reflectlite.Value).Set", "internal/bytealg.IndexByteString", "internal/bytealg.IndexString"], unfollowed := true, recurses := true, named := ["unicode/utf8.first", "unicode/utf8.acceptRanges", "errors.errorType", "internal/bytealg.MaxLen", "understudy/rules.null", "understudy/rules.number", "understudy/rules.long", "understudy/rules.numbers", "understudy/rules.longs"], apart := false, laid := [("unicode/utf8.acceptRanges", laid_unicode_utf8_acceptRanges), ("errors.errorType", laid_errors_errorType), ("understudy/rules.number", laid_understudy_rules_number), ("understudy/rules.long", laid_understudy_rules_long), ("understudy/rules.null", laid_understudy_rules_null), ("understudy/rules.numbers", laid_understudy_rules_numbers), ("understudy/rules.longs", laid_understudy_rules_longs), ("unicode/utf8.first", laid_unicode_utf8_first)], narrowed := true }
def RulesKeepsUptoSaid : Prop := rulesKeepsUptoRow.holds Tryz.pinned (OpenSpec.upto rulesKeepsSpec)

/-- 'understudylaw11.RulesZero', WHERE WHAT IT READS IS OF BULK AT MOST 1048576: true; the input reads as it did. -/
def rulesZeroUptoRow : OpenClaim := { program := "ytddjdlbmadlefaagreatdoor", sum := "29fe604b682a0122ad4b3d39fb0ff2b31288ce80fc176ba0d50185f1912e9c2d", func := "understudy/understudylaw11.RulesZero", spec := "rulesZero", inPlace := ["internal/bytealg.IndexByteString", "internal/bytealg.IndexString", "internal/reflectlite.ValueOf", "(internal/reflectlite.Value).Type", "(internal/reflectlite.Value).IsNil", "internal/reflectlite.TypeOf", "(internal/reflectlite.Value).Elem", "(internal/reflectlite.Value).Set"], unfollowed := true, recurses := true, named := ["understudy/rules.null", "understudy/rules.number", "understudy/rules.long", "understudy/rules.numbers", "understudy/rules.longs", "internal/bytealg.MaxLen", "errors.errorType"], apart := false, laid := [("errors.errorType", laid_errors_errorType), ("understudy/rules.number", laid_understudy_rules_number), ("understudy/rules.long", laid_understudy_rules_long), ("understudy/rules.null", laid_understudy_rules_null), ("understudy/rules.numbers", laid_understudy_rules_numbers), ("understudy/rules.longs", laid_understudy_rules_longs)], narrowed := true }
def RulesZeroUptoSaid : Prop := rulesZeroUptoRow.holds Tryz.pinned (OpenSpec.upto rulesZeroSpec)

end Rows
end Go.Proofs.YtddjdlbmadlefaaGreatDoor
