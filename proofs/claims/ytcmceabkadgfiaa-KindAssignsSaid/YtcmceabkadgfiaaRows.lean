/-
  No cell of these rows narrows 'for every input' (looked for: loops, veiled, ifaces, maps, wideKeys, modest, calm, conditions, laid).
  DERIVED. THE GIVEN ROWS OF THIS SEAT. 8 by the template 'for every input the law returns true; each argument reads behind the call as it read before'; 0 by the template 'total and deterministic' (their statements: YtcmceabkadgfiaaTotals.lean).
  GIVEN WITH THE SEED: the statements are not yours to turn. If you find one false, say at which input.
  Laid BY PROGRAM, IN A SANDBOX (cutbox-rows.mjs): the forced cells as the released guide's own fill.sh prints them over the translation 0d9c5384bb8c6b99… (all of the seat's roots in one cut). By AI agents, Wed Nov 11 2026. No macro, syntax, notation, axiom, sorry.
-/
import Derived.Test.YtcmceabkadgfiaaChecked
import GoSem.Claim
import GoSem.ClaimJoined
import GoSem.ClaimMapViews
import Derived.JoinedTies
import Derived.KernelRfl
namespace Go.Proofs.Ytcmceabkadgfiaa
/- THE CELL 'sum', in the pinned program and in every row, IS THE sha256 OF THE DUMP (.gsa) THAT YtcmceabkadgfiaaProg.lean LOADS. Nothing in Lean hashes anything: it is a label: what it is worth is what the hold of that sum in a sandbox is worth. -/
noncomputable def Try.pinned : Pinned := { name := "ytcmceabkadgfiaa", sum := "0d9c5384bb8c6b9902995b8172be00225e9f7f3a331e5e3151b0c68b7a0c45f8", checked := Try.checked }
namespace Rows
def none {H : Type} : Left H := { results := [], args := [] }

/-- 'understudylaw08.KindFields': WHATEVER THE INPUT: true; the input reads as it did. -/
def kindFieldsSpec : ChangeSpec := { name := "kindFields", fn := fun _ => fun
  | [d] => { results := [.lit (.bool true)], args := [d] }
  | _ => none }
def kindFieldsRow : OpenClaim := { program := "ytcmceabkadgfiaa", sum := "0d9c5384bb8c6b9902995b8172be00225e9f7f3a331e5e3151b0c68b7a0c45f8", func := "understudy/understudylaw08.KindFields", spec := "kindFields", inPlace := ["internal/bytealg.IndexByteString", "internal/bytealg.IndexString"], named := ["internal/bytealg.MaxLen"], apart := false }
def KindFieldsSaid : Prop := kindFieldsRow.holds Try.pinned (OpenSpec.ofChange kindFieldsSpec)

/-- ITS FALSE NEIGHBOUR: 'it returns false'. Refute it at one input. -/
def kindFieldsWrong : ChangeSpec := { name := "kindFields", fn := fun _ => fun
  | [d] => { results := [.lit (.bool false)], args := [d] }
  | _ => none }
def KindFieldsWrongFalsely : Prop := kindFieldsRow.holds Try.pinned (OpenSpec.ofChange kindFieldsWrong)

/-- 'understudylaw08.KindMethods': WHATEVER THE INPUT: true; the input reads as it did. -/
def kindMethodsSpec : ChangeSpec := { name := "kindMethods", fn := fun _ => fun
  | [d] => { results := [.lit (.bool true)], args := [d] }
  | _ => none }
def kindMethodsRow : OpenClaim := { program := "ytcmceabkadgfiaa", sum := "0d9c5384bb8c6b9902995b8172be00225e9f7f3a331e5e3151b0c68b7a0c45f8", func := "understudy/understudylaw08.KindMethods", spec := "kindMethods", inPlace := ["internal/bytealg.IndexByteString", "internal/bytealg.IndexString"], named := ["internal/bytealg.MaxLen"], apart := false }
def KindMethodsSaid : Prop := kindMethodsRow.holds Try.pinned (OpenSpec.ofChange kindMethodsSpec)

/-- ITS FALSE NEIGHBOUR: 'it returns false'. Refute it at one input. -/
def kindMethodsWrong : ChangeSpec := { name := "kindMethods", fn := fun _ => fun
  | [d] => { results := [.lit (.bool false)], args := [d] }
  | _ => none }
def KindMethodsWrongFalsely : Prop := kindMethodsRow.holds Try.pinned (OpenSpec.ofChange kindMethodsWrong)

/-- 'understudylaw08.KindTexts': WHATEVER THE INPUT: true; the input reads as it did. -/
def kindTextsSpec : ChangeSpec := { name := "kindTexts", fn := fun _ => fun
  | [d] => { results := [.lit (.bool true)], args := [d] }
  | _ => none }
def kindTextsRow : OpenClaim := { program := "ytcmceabkadgfiaa", sum := "0d9c5384bb8c6b9902995b8172be00225e9f7f3a331e5e3151b0c68b7a0c45f8", func := "understudy/understudylaw08.KindTexts", spec := "kindTexts", inPlace := ["internal/abi.NoEscape", "internal/bytealg.MakeNoZero", "internal/bytealg.IndexByteString", "internal/bytealg.IndexString"], recurses := true, named := ["internal/bytealg.MaxLen"], apart := false }
def KindTextsSaid : Prop := kindTextsRow.holds Try.pinned (OpenSpec.ofChange kindTextsSpec)

/-- ITS FALSE NEIGHBOUR: 'it returns false'. Refute it at one input. -/
def kindTextsWrong : ChangeSpec := { name := "kindTexts", fn := fun _ => fun
  | [d] => { results := [.lit (.bool false)], args := [d] }
  | _ => none }
def KindTextsWrongFalsely : Prop := kindTextsRow.holds Try.pinned (OpenSpec.ofChange kindTextsWrong)

/-- 'understudylaw08.KindBelow': WHATEVER THE INPUT: true; the input reads as it did. -/
def kindBelowSpec : ChangeSpec := { name := "kindBelow", fn := fun _ => fun
  | [d1, d2, d3] => { results := [.lit (.bool true)], args := [d1, d2, d3] }
  | _ => none }
def kindBelowRow : OpenClaim := { program := "ytcmceabkadgfiaa", sum := "0d9c5384bb8c6b9902995b8172be00225e9f7f3a331e5e3151b0c68b7a0c45f8", func := "understudy/understudylaw08.KindBelow", spec := "kindBelow", inPlace := ["internal/bytealg.IndexByteString", "internal/bytealg.IndexString"], unfollowed := true, recurses := true, named := ["internal/bytealg.MaxLen"], apart := false }
def KindBelowSaid : Prop := kindBelowRow.holds Try.pinned (OpenSpec.ofChange kindBelowSpec)

/-- ITS FALSE NEIGHBOUR: 'it returns false'. Refute it at one input. -/
def kindBelowWrong : ChangeSpec := { name := "kindBelow", fn := fun _ => fun
  | [d1, d2, d3] => { results := [.lit (.bool false)], args := [d1, d2, d3] }
  | _ => none }
def KindBelowWrongFalsely : Prop := kindBelowRow.holds Try.pinned (OpenSpec.ofChange kindBelowWrong)

/-- 'understudylaw08.KindAssigns': WHATEVER THE INPUT: true; the input reads as it did. -/
def kindAssignsSpec : ChangeSpec := { name := "kindAssigns", fn := fun _ => fun
  | [d1, d2, d3] => { results := [.lit (.bool true)], args := [d1, d2, d3] }
  | _ => none }
def kindAssignsRow : OpenClaim := { program := "ytcmceabkadgfiaa", sum := "0d9c5384bb8c6b9902995b8172be00225e9f7f3a331e5e3151b0c68b7a0c45f8", func := "understudy/understudylaw08.KindAssigns", spec := "kindAssigns", inPlace := ["internal/bytealg.IndexByteString", "internal/bytealg.IndexString"], unfollowed := true, recurses := true, named := ["internal/bytealg.MaxLen"], apart := false }
def KindAssignsSaid : Prop := kindAssignsRow.holds Try.pinned (OpenSpec.ofChange kindAssignsSpec)

/-- ITS FALSE NEIGHBOUR: 'it returns false'. Refute it at one input. -/
def kindAssignsWrong : ChangeSpec := { name := "kindAssigns", fn := fun _ => fun
  | [d1, d2, d3] => { results := [.lit (.bool false)], args := [d1, d2, d3] }
  | _ => none }
def KindAssignsWrongFalsely : Prop := kindAssignsRow.holds Try.pinned (OpenSpec.ofChange kindAssignsWrong)

/-- 'understudylaw08.KindBack': WHATEVER THE INPUT: true; the input reads as it did. -/
def kindBackSpec : ChangeSpec := { name := "kindBack", fn := fun _ => fun
  | [d1, d2] => { results := [.lit (.bool true)], args := [d1, d2] }
  | _ => none }
def kindBackRow : OpenClaim := { program := "ytcmceabkadgfiaa", sum := "0d9c5384bb8c6b9902995b8172be00225e9f7f3a331e5e3151b0c68b7a0c45f8", func := "understudy/understudylaw08.KindBack", spec := "kindBack", inPlace := ["internal/bytealg.IndexByteString", "internal/bytealg.IndexString", "internal/abi.NoEscape", "internal/bytealg.MakeNoZero"], recurses := true, named := ["internal/bytealg.MaxLen"], apart := false }
def KindBackSaid : Prop := kindBackRow.holds Try.pinned (OpenSpec.ofChange kindBackSpec)

/-- ITS FALSE NEIGHBOUR: 'it returns false'. Refute it at one input. -/
def kindBackWrong : ChangeSpec := { name := "kindBack", fn := fun _ => fun
  | [d1, d2] => { results := [.lit (.bool false)], args := [d1, d2] }
  | _ => none }
def KindBackWrongFalsely : Prop := kindBackRow.holds Try.pinned (OpenSpec.ofChange kindBackWrong)

/-- 'understudylaw08.KindGoes': WHATEVER THE INPUT: true; the input reads as it did. -/
def kindGoesSpec : ChangeSpec := { name := "kindGoes", fn := fun _ => fun
  | [d1, d2, d3, d4] => { results := [.lit (.bool true)], args := [d1, d2, d3, d4] }
  | _ => none }
def kindGoesRow : OpenClaim := { program := "ytcmceabkadgfiaa", sum := "0d9c5384bb8c6b9902995b8172be00225e9f7f3a331e5e3151b0c68b7a0c45f8", func := "understudy/understudylaw08.KindGoes", spec := "kindGoes", inPlace := ["internal/bytealg.IndexByteString", "internal/bytealg.IndexString"], unfollowed := true, recurses := true, named := ["internal/bytealg.MaxLen"], apart := false }
def KindGoesSaid : Prop := kindGoesRow.holds Try.pinned (OpenSpec.ofChange kindGoesSpec)

/-- ITS FALSE NEIGHBOUR: 'it returns false'. Refute it at one input. -/
def kindGoesWrong : ChangeSpec := { name := "kindGoes", fn := fun _ => fun
  | [d1, d2, d3, d4] => { results := [.lit (.bool false)], args := [d1, d2, d3, d4] }
  | _ => none }
def KindGoesWrongFalsely : Prop := kindGoesRow.holds Try.pinned (OpenSpec.ofChange kindGoesWrong)

/-- 'understudylaw08.KindParams': WHATEVER THE INPUT: true; the input reads as it did. -/
def kindParamsSpec : ChangeSpec := { name := "kindParams", fn := fun _ => fun
  | [d1, d2] => { results := [.lit (.bool true)], args := [d1, d2] }
  | _ => none }
def kindParamsRow : OpenClaim := { program := "ytcmceabkadgfiaa", sum := "0d9c5384bb8c6b9902995b8172be00225e9f7f3a331e5e3151b0c68b7a0c45f8", func := "understudy/understudylaw08.KindParams", spec := "kindParams", inPlace := ["internal/bytealg.IndexByteString", "internal/bytealg.IndexString"], named := ["internal/bytealg.MaxLen"], apart := false }
def KindParamsSaid : Prop := kindParamsRow.holds Try.pinned (OpenSpec.ofChange kindParamsSpec)

/-- ITS FALSE NEIGHBOUR: 'it returns false'. Refute it at one input. -/
def kindParamsWrong : ChangeSpec := { name := "kindParams", fn := fun _ => fun
  | [d1, d2] => { results := [.lit (.bool false)], args := [d1, d2] }
  | _ => none }
def KindParamsWrongFalsely : Prop := kindParamsRow.holds Try.pinned (OpenSpec.ofChange kindParamsWrong)

/- THE SECOND FORM. 'bulk': how many values and letters a reading holds, each counted each time it is reached (what is shared counts as often as it is met; a slice's spare places count too). A statement '..UptoSaid' is the law's where the arguments, and the package variables that the reading takes, are together of bulk at most 1048576: NARROWER than '..Said'. Prove '..Said' where nothing that the law and all that it calls make is longer than what came in: it says more and counts as full. Else prove '..UptoSaid'. A law counts once. -/
mutual
def uptoBulk {H : Type} : DataW H → Nat
  | .lit (.string bytes) => bytes.length + 1
  | .lit _ => 1
  | .nil => 1
  | .ptr d => uptoBulk d + 1
  | .slice elems spare => uptoBulkAll elems + uptoBulkAll spare + 1
  | .agg parts => uptoBulkAll parts + 1
  | .iface _ d => uptoBulk d + 1
  | .map entries => uptoBulkEntries entries + 1
  | .held _ => 1
def uptoBulkAll {H : Type} : List (DataW H) → Nat
  | [] => 0
  | d :: r => uptoBulk d + uptoBulkAll r
def uptoBulkEntries {H : Type} : List (Lit × DataW H) → Nat
  | [] => 0
  | x :: r => uptoBulkEntry x + uptoBulkEntries r
def uptoBulkEntry {H : Type} : Lit × DataW H → Nat
  | (.string bytes, d) => bytes.length + uptoBulk d + 1
  | (_, d) => uptoBulk d + 1
 end
def uptoSmall : (H : Type) → List (DataW H) → Bool := fun _ ds => decide (uptoBulkAll ds ≤ 1048576)
def OpenSpec.upto (s : _root_.Go.ChangeSpec) : _root_.Go.OpenSpec := { _root_.Go.OpenSpec.ofChange s with cond := some uptoSmall }

/-- 'understudylaw08.KindFields', WHERE WHAT IT READS IS OF BULK AT MOST 1048576: true; the input reads as it did. -/
def kindFieldsUptoRow : OpenClaim := { program := "ytcmceabkadgfiaa", sum := "0d9c5384bb8c6b9902995b8172be00225e9f7f3a331e5e3151b0c68b7a0c45f8", func := "understudy/understudylaw08.KindFields", spec := "kindFields", inPlace := ["internal/bytealg.IndexByteString", "internal/bytealg.IndexString"], named := ["internal/bytealg.MaxLen"], apart := false, narrowed := true }
def KindFieldsUptoSaid : Prop := kindFieldsUptoRow.holds Try.pinned (OpenSpec.upto kindFieldsSpec)

/-- 'understudylaw08.KindMethods', WHERE WHAT IT READS IS OF BULK AT MOST 1048576: true; the input reads as it did. -/
def kindMethodsUptoRow : OpenClaim := { program := "ytcmceabkadgfiaa", sum := "0d9c5384bb8c6b9902995b8172be00225e9f7f3a331e5e3151b0c68b7a0c45f8", func := "understudy/understudylaw08.KindMethods", spec := "kindMethods", inPlace := ["internal/bytealg.IndexByteString", "internal/bytealg.IndexString"], named := ["internal/bytealg.MaxLen"], apart := false, narrowed := true }
def KindMethodsUptoSaid : Prop := kindMethodsUptoRow.holds Try.pinned (OpenSpec.upto kindMethodsSpec)

/-- 'understudylaw08.KindTexts', WHERE WHAT IT READS IS OF BULK AT MOST 1048576: true; the input reads as it did. -/
def kindTextsUptoRow : OpenClaim := { program := "ytcmceabkadgfiaa", sum := "0d9c5384bb8c6b9902995b8172be00225e9f7f3a331e5e3151b0c68b7a0c45f8", func := "understudy/understudylaw08.KindTexts", spec := "kindTexts", inPlace := ["internal/abi.NoEscape", "internal/bytealg.MakeNoZero", "internal/bytealg.IndexByteString", "internal/bytealg.IndexString"], recurses := true, named := ["internal/bytealg.MaxLen"], apart := false, narrowed := true }
def KindTextsUptoSaid : Prop := kindTextsUptoRow.holds Try.pinned (OpenSpec.upto kindTextsSpec)

/-- 'understudylaw08.KindBelow', WHERE WHAT IT READS IS OF BULK AT MOST 1048576: true; the input reads as it did. -/
def kindBelowUptoRow : OpenClaim := { program := "ytcmceabkadgfiaa", sum := "0d9c5384bb8c6b9902995b8172be00225e9f7f3a331e5e3151b0c68b7a0c45f8", func := "understudy/understudylaw08.KindBelow", spec := "kindBelow", inPlace := ["internal/bytealg.IndexByteString", "internal/bytealg.IndexString"], unfollowed := true, recurses := true, named := ["internal/bytealg.MaxLen"], apart := false, narrowed := true }
def KindBelowUptoSaid : Prop := kindBelowUptoRow.holds Try.pinned (OpenSpec.upto kindBelowSpec)

/-- 'understudylaw08.KindAssigns', WHERE WHAT IT READS IS OF BULK AT MOST 1048576: true; the input reads as it did. -/
def kindAssignsUptoRow : OpenClaim := { program := "ytcmceabkadgfiaa", sum := "0d9c5384bb8c6b9902995b8172be00225e9f7f3a331e5e3151b0c68b7a0c45f8", func := "understudy/understudylaw08.KindAssigns", spec := "kindAssigns", inPlace := ["internal/bytealg.IndexByteString", "internal/bytealg.IndexString"], unfollowed := true, recurses := true, named := ["internal/bytealg.MaxLen"], apart := false, narrowed := true }
def KindAssignsUptoSaid : Prop := kindAssignsUptoRow.holds Try.pinned (OpenSpec.upto kindAssignsSpec)

/-- 'understudylaw08.KindBack', WHERE WHAT IT READS IS OF BULK AT MOST 1048576: true; the input reads as it did. -/
def kindBackUptoRow : OpenClaim := { program := "ytcmceabkadgfiaa", sum := "0d9c5384bb8c6b9902995b8172be00225e9f7f3a331e5e3151b0c68b7a0c45f8", func := "understudy/understudylaw08.KindBack", spec := "kindBack", inPlace := ["internal/bytealg.IndexByteString", "internal/bytealg.IndexString", "internal/abi.NoEscape", "internal/bytealg.MakeNoZero"], recurses := true, named := ["internal/bytealg.MaxLen"], apart := false, narrowed := true }
def KindBackUptoSaid : Prop := kindBackUptoRow.holds Try.pinned (OpenSpec.upto kindBackSpec)

/-- 'understudylaw08.KindGoes', WHERE WHAT IT READS IS OF BULK AT MOST 1048576: true; the input reads as it did. -/
def kindGoesUptoRow : OpenClaim := { program := "ytcmceabkadgfiaa", sum := "0d9c5384bb8c6b9902995b8172be00225e9f7f3a331e5e3151b0c68b7a0c45f8", func := "understudy/understudylaw08.KindGoes", spec := "kindGoes", inPlace := ["internal/bytealg.IndexByteString", "internal/bytealg.IndexString"], unfollowed := true, recurses := true, named := ["internal/bytealg.MaxLen"], apart := false, narrowed := true }
def KindGoesUptoSaid : Prop := kindGoesUptoRow.holds Try.pinned (OpenSpec.upto kindGoesSpec)

/-- 'understudylaw08.KindParams', WHERE WHAT IT READS IS OF BULK AT MOST 1048576: true; the input reads as it did. -/
def kindParamsUptoRow : OpenClaim := { program := "ytcmceabkadgfiaa", sum := "0d9c5384bb8c6b9902995b8172be00225e9f7f3a331e5e3151b0c68b7a0c45f8", func := "understudy/understudylaw08.KindParams", spec := "kindParams", inPlace := ["internal/bytealg.IndexByteString", "internal/bytealg.IndexString"], named := ["internal/bytealg.MaxLen"], apart := false, narrowed := true }
def KindParamsUptoSaid : Prop := kindParamsUptoRow.holds Try.pinned (OpenSpec.upto kindParamsSpec)

end Rows
end Go.Proofs.Ytcmceabkadgfiaa
