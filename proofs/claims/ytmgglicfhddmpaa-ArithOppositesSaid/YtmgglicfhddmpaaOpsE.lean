/- Two codes, two instructions compared by '=='. No condition. -/
import Derived.Test.YtmgglicfhddmpaaOpsC
import Derived.Laws.StructEq
namespace Go.Proofs.Ytmgglicfhddmpaa
open Go.RowKit
set_option linter.unusedVariables false
set_option linter.unusedSimpArgs false

theorem guard_code : Try.prog.eqGuardType Try.prog.depth 61 = false := by kernel_rfl
theorem held_code : Try.prog.stoodInHeld 61 = false := by kernel_rfl
theorem fields_code : Try.prog.underlying 61 = some (.struct (Try.prog.fieldsOf 61)) := by kernel_rfl
theorem list_code : (Try.prog.fieldsOf 61).toList.map (fun f => (f.name, f.type, f.offset)) = [("name", 9, 0), ("shape", 5, 1)] := by kernel_rfl
theorem neq_code (a : ByteArray) (s : Int) (w : World) :
    (binOp .neq 61 (.agg #[.string a, .int .u8 s]) (.agg #[.string ⟨#[]⟩, .int .u8 0])).run Try.prog w = .ok (.bool (!(a.toList == [] && s == 0))) w := by
  rw [run_neq_struct, run_equalIn_agg w _ _ _ _ fields_code held_code]
  have h := list_code
  generalize (Try.prog.fieldsOf 61).toList = l at *
  rcases l with _ | ⟨f, _ | ⟨g, _ | _⟩⟩
  · simp at h
  · simp at h
  · simp only [List.map_cons, List.map_nil, List.cons.injEq, Prod.mk.injEq, and_true] at h
    obtain ⟨⟨a1, a2, a3⟩, b1, b2, b3⟩ := h
    cases hq : a.toList == [] <;> simp [Op.eqFields, a1, a2, a3, b1, b2, b3, part, isAgg, run_underlying Try.underlying9, run_underlying Try.underlying5, go_sem, hq, run_equalIn_string w _ _ _ _ Try.underlying9, run_equalIn_int w _ _ _ _ _ _ Try.underlying5]
    by_cases hs : s = 0 <;> simp [hs]
  · simp at h
end Go.Proofs.Ytmgglicfhddmpaa
