/- The document's own reading of a field's descriptor at the beginning of a text. No condition but a length that a text can have. -/
import Derived.Test.YtebeoganblcblaaKndW
namespace Go.Proofs.Ytebeoganblcblaa
open Go.RowKit
set_option linter.unusedVariables false
set_option linter.unusedSimpArgs false

theorem info5_type : (Try.prog.info? 32).map (·.size) = some 5 := by kernel_rfl
theorem type_result3 {fn : Func} {p q q2 : Tmp} (hr : fn.results = #[.cell p 32, .tmp q, .tmp q2]) {w : World} {b : Nat} {t : TypeV} {x y : Value} {tmps : Array Value} (h : w.heap[b]? = some (.cells #[.int .i64 t.k, .string t.name, .int .i64 t.dims, .int .i64 t.elem, .int .i64 t.at_] 32 (0, 0))) (ht : tmps.getD p undef = .pointer (some ⟨b, 0, none⟩)) (hx : tmps.getD q undef = x) (hy : tmps.getD q2 undef = y) :
    (results fn tmps).run Try.prog w = .ok (.tuple #[valT t, x, y]) w := by
  have hp' : tmps[p]?.getD undef = .pointer (some ⟨b, 0, none⟩) := by simpa using ht
  have hx' : tmps[q]?.getD undef = x := by simpa using hx
  have hy' : tmps[q2]?.getD undef = y := by simpa using hy
  have hL := run_loadVar_row w b 32 32 _ (0, 0) _ h Try.underlying32 rfl info5_type
  simp only [results, hr]
  simp [Sem.run_bind, Result.andThen, hp', hx', hy', asAddr, hL, valT]
theorem heap2 {w : World} {c d : Array Value} {s t : TypeId} : ((w.alloc (.cells c s)).alloc (.cells d t)).heap[w.heap.size]? = some (.cells c s (0, 0)) :=
  ((Only.refl (fun _ => False) (w.alloc (.cells c s))).alloc (.cells d t)).heap (heap_alloc_new w (.cells c s)) (fun h => h)
def FieldTo (w : World) (r : Option (TypeV × List Int)) (e : Ending) (w' : World) : Prop := e = .returned (.tuple #[valT (typF r), .string (restF r), .bool (okF r)]) ∧ Only (fun _ => False) w w'
theorem FieldTo.no {w w' : World} {r : Option (TypeV × List Int)} (h : r = none) (ho : Only (fun _ => False) w w') : FieldTo w r (.returned (.tuple #[valT zeroT, .string ⟨#[]⟩, .bool false])) w' := by subst h; exact ⟨rfl, ho⟩
theorem FieldTo.yes {w w' : World} {r : Option (TypeV × List Int)} {t : TypeV} {zs : List Int} {u : ByteArray} (h : r = some (t, zs)) (hu : nums u = zs) (ho : Only (fun _ => False) w w') : FieldTo w r (.returned (.tuple #[valT t, .string u, .bool true])) w' := by
  subst h
  refine ⟨?_, ho⟩
  rw [str_of hu]
  rfl
theorem base_nil (d : Nat) : baseZ d [] = none := rfl
theorem base_deep {d : Nat} (zs : List Int) (h : 4 < d) : baseZ d zs = none := by
  cases zs with
  | nil => rfl
  | cons c r => show (if 4 < d then none else _) = none; rw [if_pos h]
end Go.Proofs.Ytebeoganblcblaa
