/- The texts, classes and members of a pool, as plain words. No condition. -/
import Derived.Test.YtebeoganblcblaaPolA
namespace Go.Proofs.Ytebeoganblcblaa
open Go.RowKit
set_option linter.unusedVariables false
set_option linter.unusedSimpArgs false

abbrev noT : ByteArray := ⟨#[]⟩
def textZ (cs : List ConstV) (i : Int) : ByteArray × Bool := if isZ cs i 1 = true then ((cs.getD i.toNat default).text, true) else (noT, false)
def classZ (cs : List ConstV) (i : Int) : ByteArray × Bool := if isZ cs i 7 = true then textZ cs (cs.getD i.toNat default).a else (noT, false)
def refZ (cs : List ConstV) (i : Int) : ByteArray × ByteArray × ByteArray × Bool :=
  if isZ cs i 9 = false ∧ isZ cs i 10 = false then (noT, noT, noT, false)
  else if (classZ cs (cs.getD i.toNat default).a).2 = false ∨ isZ cs (cs.getD i.toNat default).b 12 = false then (noT, noT, noT, false)
  else if (textZ cs (cs.getD (cs.getD i.toNat default).b.toNat default).a).2 = false ∨ (textZ cs (cs.getD (cs.getD i.toNat default).b.toNat default).b).2 = false then (noT, noT, noT, false)
  else ((classZ cs (cs.getD i.toNat default).a).1, (textZ cs (cs.getD (cs.getD i.toNat default).b.toNat default).a).1, (textZ cs (cs.getD (cs.getD i.toNat default).b.toNat default).b).1, true)

theorem isZ_lt {cs : List ConstV} {i tag : Int} (h : isZ cs i tag = true) : ∃ j : Nat, i = (j : Int) ∧ 1 ≤ j ∧ j < cs.length ∧ (cs.getD j default).tag = tag := by
  unfold isZ at h
  simp only [Bool.and_eq_true, decide_eq_true_eq] at h
  obtain ⟨h1, h2, h3⟩ := h
  refine ⟨i.toNat, by omega, by omega, by omega, h3⟩

theorem results4 {fn : Func} {t u v s : Tmp} (h : fn.results = #[.tmp t, .tmp u, .tmp v, .tmp s]) (tmps : Array Value) (w : World) :
    (results fn tmps).run Try.prog w = .ok (.tuple #[tmps.getD t undef, tmps.getD u undef, tmps.getD v undef, tmps.getD s undef]) w := by
  simp [results, h]

end Go.Proofs.Ytebeoganblcblaa
