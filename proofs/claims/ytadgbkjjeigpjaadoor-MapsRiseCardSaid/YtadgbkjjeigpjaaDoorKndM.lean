/- The document's own Method: the types of a method's descriptor. No condition but a length that a text can have. -/
import Derived.Test.YtadgbkjjeigpjaaDoorKndT
namespace Go.Proofs.YtadgbkjjeigpjaaDoor
open Go.RowKit
set_option linter.unusedVariables false
set_option linter.unusedSimpArgs false

def strSize : Value → Nat
  | .string t => t.size
  | _ => 0
theorem type_resultM {fn : Func} {p q q2 : Tmp} (hr : fn.results = #[.tmp q, .cell p 39, .tmp q2]) {w : World} {b : Nat} {t : TypeV} {x y : Value} {tmps : Array Value} (h : w.heap[b]? = some (.cells #[.int .i64 t.k, .string t.name, .int .i64 t.dims, .int .i64 t.elem, .int .i64 t.at_] 39 (0, 0))) (ht : tmps.getD p undef = .pointer (some ⟨b, 0, none⟩)) (hx : tmps.getD q undef = x) (hy : tmps.getD q2 undef = y) :
    (results fn tmps).run Tryd.prog w = .ok (.tuple #[x, valT t, y]) w := by
  have hp' : tmps[p]?.getD undef = .pointer (some ⟨b, 0, none⟩) := by simpa using ht
  have hx' : tmps[q]?.getD undef = x := by simpa using hx
  have hy' : tmps[q2]?.getD undef = y := by simpa using hy
  have hL := run_loadVar_row w b 39 39 _ (0, 0) _ h Tryd.underlying39 rfl info5_type
  simp only [results, hr]
  simp [Sem.run_bind, Result.andThen, hp', hx', hy', asAddr, hL, valT]
def MethTo (w : World) (zs : List Int) (e : Ending) (w' : World) : Prop := ∃ v x, e = .returned (.tuple #[v, valT x.2.1, .int .i64 x.2.2]) ∧ Meth zs x ∧ Only (fun _ => False) w w' ∧ Types w' v x.1
theorem MethTo.bad {w w' : World} {zs : List Int} (h : Meth zs ([], zeroT, 80)) (ho : Only (fun _ => False) w w') : MethTo w zs (.returned (.tuple #[.slice none 0 0, valT zeroT, .int .i64 80])) w' := ⟨_, _, rfl, h, ho, Types.nil _⟩
theorem nums_head {t : ByteArray} (h : 0 < t.size) : nums t = ((t[0].toNat : Nat) : Int) :: (nums t).drop 1 := by
  have hlt : 0 < (nums t).length := by rw [nums_len]; exact h
  have e := List.drop_eq_getElem_cons hlt
  rw [List.drop_zero] at e
  rw [← nums_at h]
  simpa [List.getD, hlt] using e
theorem toList_ne_of {s t : ByteArray} (h : nums s ≠ nums t) : (s.toList == t.toList) = false ∧ ¬ s.toList = t.toList := by
  have h2 : ¬ s.toList = t.toList := fun e => h (by rw [toList_inj' e])
  exact ⟨by rw [beq_eq_false_iff_ne]; exact h2, h2⟩
theorem heap_drewT {w : World} {b : Nat} {o : Option Obj} (h : w.heap[b]? = o) : w.drew.heap[b]? = o := h
theorem lit_lV : (⟨#[41, 86]⟩ : ByteArray).toList = [41, 86] := by rw [ByteArray.toList_eq]
theorem nums_lV : nums ⟨#[41, 86]⟩ = [41, 86] := rfl

end Go.Proofs.YtadgbkjjeigpjaaDoor
