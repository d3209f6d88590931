/-
  NARROWER THAN 'FOR EVERY INPUT', by the rows' own cells (each row's printed sentence says how): MapsDecodes: laid · MapsRise: laid.
  DERIVED. THE GIVEN ROWS OF THIS SEAT. 2 by the template 'for every input the law returns true; each argument reads behind the call as it read before'; 0 by the template 'total and deterministic' (their statements: YtadgbkjjeigpjaaDoorTotals.lean).
  GIVEN WITH THE SEED: the statements are not yours to turn. If you find one false, say at which input.
  Laid BY PROGRAM, IN A SANDBOX (cutbox-rows.mjs): the forced cells as the released guide's own fill.sh prints them over the translation 4d1b2fe41f6945fa… (all of the seat's roots in one cut). By AI agents, Wed Nov 11 2026. No macro, syntax, notation, axiom, sorry.
-/
import Derived.Test.YtadgbkjjeigpjaaDoorChecked
import GoSem.Claim
import GoSem.ClaimJoined
import GoSem.ClaimMapViews
import Derived.JoinedTies
import Derived.KernelRfl
namespace Go.Proofs.YtadgbkjjeigpjaaDoor
/- THE CELL 'sum', in the pinned program and in every row, IS THE sha256 OF THE DUMP (.gsa) THAT YtadgbkjjeigpjaaDoorProg.lean LOADS. Nothing in Lean hashes anything: it is a label: what it is worth is what the hold of that sum in a sandbox is worth. -/
noncomputable def Tryd.pinned : Pinned := { name := "ytadgbkjjeigpjaadoor", sum := "4d1b2fe41f6945fa8608154fc8ba31b636a19a6a215972301671d70bf7081377", checked := Tryd.checked }
namespace Rows
def none {H : Type} : Left H := { results := [], args := [] }

/- WHAT THE LISTED PACKAGE-LEVEL VARIABLES READ AS WHEN THE CALL BEGINS. Each datum BY PROGRAM (the guide's laid-datum.mjs) off the statement by which the dump's own 'gosem.cut.vars' lays the variable. In a bare row this is a premise. The card (YtadgbkjjeigpjaaDoorCards.lean) ties it to the program's text. -/
def laid_understudy_maps_tags {H : Type} : DataW H := .agg [.lit (.int .u64 0), .lit (.int .u64 1), .lit (.int .u64 4), .lit (.int .u64 5), .lit (.int .u64 7), .lit (.int .u64 7), .lit (.int .u64 8), .lit (.int .u64 6)]

/-- 'understudylaw10.MapsDecodes': WHATEVER THE INPUT: true; the input reads as it did. -/
def mapsDecodesSpec : ChangeSpec := { name := "mapsDecodes", fn := fun _ => fun
  | [d1, d2] => { results := [.lit (.bool true)], args := [d1, d2] }
  | _ => none }
def mapsDecodesRow : OpenClaim := { program := "ytadgbkjjeigpjaadoor", sum := "4d1b2fe41f6945fa8608154fc8ba31b636a19a6a215972301671d70bf7081377", func := "understudy/understudylaw10.MapsDecodes", spec := "mapsDecodes", inPlace := ["internal/bytealg.IndexByteString", "internal/bytealg.IndexString"], unfollowed := true, recurses := true, named := ["understudy/maps.tags", "internal/bytealg.MaxLen"], plainKeys := false, apart := false, laid := [("understudy/maps.tags", laid_understudy_maps_tags)] }
def MapsDecodesSaid : Prop := mapsDecodesRow.holds Tryd.pinned (OpenSpec.ofChange mapsDecodesSpec)

/-- ITS FALSE NEIGHBOUR: 'it returns false'. Refute it at one input. -/
def mapsDecodesWrong : ChangeSpec := { name := "mapsDecodes", fn := fun _ => fun
  | [d1, d2] => { results := [.lit (.bool false)], args := [d1, d2] }
  | _ => none }
def MapsDecodesWrongFalsely : Prop := mapsDecodesRow.holds Tryd.pinned (OpenSpec.ofChange mapsDecodesWrong)

/-- 'understudylaw10.MapsRise': WHATEVER THE INPUT: true; the input reads as it did. -/
def mapsRiseSpec : ChangeSpec := { name := "mapsRise", fn := fun _ => fun
  | [d1, d2] => { results := [.lit (.bool true)], args := [d1, d2] }
  | _ => none }
def mapsRiseRow : OpenClaim := { program := "ytadgbkjjeigpjaadoor", sum := "4d1b2fe41f6945fa8608154fc8ba31b636a19a6a215972301671d70bf7081377", func := "understudy/understudylaw10.MapsRise", spec := "mapsRise", inPlace := ["internal/bytealg.IndexByteString", "internal/bytealg.IndexString"], unfollowed := true, recurses := true, named := ["understudy/maps.tags", "internal/bytealg.MaxLen"], plainKeys := false, apart := false, laid := [("understudy/maps.tags", laid_understudy_maps_tags)] }
def MapsRiseSaid : Prop := mapsRiseRow.holds Tryd.pinned (OpenSpec.ofChange mapsRiseSpec)

/-- ITS FALSE NEIGHBOUR: 'it returns false'. Refute it at one input. -/
def mapsRiseWrong : ChangeSpec := { name := "mapsRise", fn := fun _ => fun
  | [d1, d2] => { results := [.lit (.bool false)], args := [d1, d2] }
  | _ => none }
def MapsRiseWrongFalsely : Prop := mapsRiseRow.holds Tryd.pinned (OpenSpec.ofChange mapsRiseWrong)

/- THE SECOND FORM. 'bulk': how many values and letters a reading holds, each counted each time it is reached (what is shared counts as often as it is met; a slice's spare places count too). A statement '..UptoSaid' is the law's where the arguments, and the package variables that the reading takes, are together of bulk at most 1048576: NARROWER than '..Said'. Prove '..Said' where nothing that the law and all that it calls make is longer than what came in: it says more and counts as full. Else prove '..UptoSaid'. A law counts once. -/
mutual
def uptoBulk {H : Type} : DataW H → Nat
  | .lit (.string bytes) => bytes.length + 1
  | .lit _ => 1
  | .nil => 1
  | .ptr d => uptoBulk d + 1
  | .slice elems spare => uptoBulkAll elems + uptoBulkAll spare + 1
  | .agg parts => uptoBulkAll parts + 1
  | .iface _ d => uptoBulk d + 1
  | .map entries => uptoBulkEntries entries + 1
  | .held _ => 1
def uptoBulkAll {H : Type} : List (DataW H) → Nat
  | [] => 0
  | d :: r => uptoBulk d + uptoBulkAll r
def uptoBulkEntries {H : Type} : List (Lit × DataW H) → Nat
  | [] => 0
  | x :: r => uptoBulkEntry x + uptoBulkEntries r
def uptoBulkEntry {H : Type} : Lit × DataW H → Nat
  | (.string bytes, d) => bytes.length + uptoBulk d + 1
  | (_, d) => uptoBulk d + 1
 end
def uptoSmall : (H : Type) → List (DataW H) → Bool := fun _ ds => decide (uptoBulkAll ds ≤ 1048576)
def OpenSpec.upto (s : _root_.Go.ChangeSpec) : _root_.Go.OpenSpec := { _root_.Go.OpenSpec.ofChange s with cond := some uptoSmall }

/-- 'understudylaw10.MapsDecodes', WHERE WHAT IT READS IS OF BULK AT MOST 1048576: true; the input reads as it did. -/
def mapsDecodesUptoRow : OpenClaim := { program := "ytadgbkjjeigpjaadoor", sum := "4d1b2fe41f6945fa8608154fc8ba31b636a19a6a215972301671d70bf7081377", func := "understudy/understudylaw10.MapsDecodes", spec := "mapsDecodes", inPlace := ["internal/bytealg.IndexByteString", "internal/bytealg.IndexString"], unfollowed := true, recurses := true, named := ["understudy/maps.tags", "internal/bytealg.MaxLen"], plainKeys := false, apart := false, laid := [("understudy/maps.tags", laid_understudy_maps_tags)], narrowed := true }
def MapsDecodesUptoSaid : Prop := mapsDecodesUptoRow.holds Tryd.pinned (OpenSpec.upto mapsDecodesSpec)

/-- 'understudylaw10.MapsRise', WHERE WHAT IT READS IS OF BULK AT MOST 1048576: true; the input reads as it did. -/
def mapsRiseUptoRow : OpenClaim := { program := "ytadgbkjjeigpjaadoor", sum := "4d1b2fe41f6945fa8608154fc8ba31b636a19a6a215972301671d70bf7081377", func := "understudy/understudylaw10.MapsRise", spec := "mapsRise", inPlace := ["internal/bytealg.IndexByteString", "internal/bytealg.IndexString"], unfollowed := true, recurses := true, named := ["understudy/maps.tags", "internal/bytealg.MaxLen"], plainKeys := false, apart := false, laid := [("understudy/maps.tags", laid_understudy_maps_tags)], narrowed := true }
def MapsRiseUptoSaid : Prop := mapsRiseUptoRow.holds Tryd.pinned (OpenSpec.upto mapsRiseSpec)

end Rows
end Go.Proofs.YtadgbkjjeigpjaaDoor
