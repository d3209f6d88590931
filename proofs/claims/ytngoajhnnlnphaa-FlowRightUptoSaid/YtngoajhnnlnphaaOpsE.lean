/- Two codes, two instructions compared by '=='. No condition. -/
import Derived.Test.YtngoajhnnlnphaaOpsC
import Derived.Laws.StructEq
namespace Go.Proofs.Ytngoajhnnlnphaa
open Go.RowKit
set_option linter.unusedVariables false
set_option linter.unusedSimpArgs false

theorem guard_code : Try.prog.eqGuardType Try.prog.depth 72 = false := by kernel_rfl
theorem guard_instr : Try.prog.eqGuardType Try.prog.depth 39 = false := by kernel_rfl
theorem held_code : Try.prog.stoodInHeld 72 = false := by kernel_rfl
theorem held_instr : Try.prog.stoodInHeld 39 = false := by kernel_rfl
theorem fields_code : Try.prog.underlying 72 = some (.struct (Try.prog.fieldsOf 72)) := by kernel_rfl
theorem fields_instr : Try.prog.underlying 39 = some (.struct (Try.prog.fieldsOf 39)) := by kernel_rfl
theorem list_code : (Try.prog.fieldsOf 72).toList.map (fun f => (f.name, f.type, f.offset)) = [("name", 9, 0), ("shape", 5, 1)] := by kernel_rfl
theorem list_instr : (Try.prog.fieldsOf 39).toList.map (fun f => (f.name, f.type, f.offset)) = [("At", 3, 0), ("Op", 3, 1), ("A", 3, 2), ("B", 3, 3), ("Size", 3, 4)] := by kernel_rfl
theorem neq_code (a : ByteArray) (s : Int) (w : World) :
    (binOp .neq 72 (.agg #[.string a, .int .u8 s]) (.agg #[.string ⟨#[]⟩, .int .u8 0])).run Try.prog w = .ok (.bool (!(a.toList == [] && s == 0))) w := by
  rw [run_neq_struct, run_equalIn_agg w _ _ _ _ fields_code held_code]
  have h := list_code
  generalize (Try.prog.fieldsOf 72).toList = l at *
  rcases l with _ | ⟨f, _ | ⟨g, _ | _⟩⟩
  · simp at h
  · simp at h
  · simp only [List.map_cons, List.map_nil, List.cons.injEq, Prod.mk.injEq, and_true] at h
    obtain ⟨⟨a1, a2, a3⟩, b1, b2, b3⟩ := h
    cases hq : a.toList == [] <;> simp [Op.eqFields, a1, a2, a3, b1, b2, b3, part, isAgg, run_underlying Try.underlying9, run_underlying Try.underlying5, go_sem, hq, run_equalIn_string w _ _ _ _ Try.underlying9, run_equalIn_int w _ _ _ _ _ _ Try.underlying5]
    by_cases hs : s = 0 <;> simp [hs]
  · simp at h
theorem eql_instr (i k : InstrV) (w : World) : (binOp .eql 39 (valI i) (valI k)).run Try.prog w = .ok (.bool (i == k)) w := by
  unfold valI
  rw [run_eql_struct, run_equalIn_agg w _ _ _ _ fields_instr held_instr]
  have h := list_instr
  generalize (Try.prog.fieldsOf 39).toList = l at *
  rcases l with _ | ⟨f0, _ | ⟨f1, _ | ⟨f2, _ | ⟨f3, _ | ⟨f4, _ | _⟩⟩⟩⟩⟩
  any_goals (simp at h; done)
  · simp only [List.map_cons, List.map_nil, List.cons.injEq, Prod.mk.injEq, and_true] at h
    obtain ⟨⟨a1, a2, a3⟩, ⟨b1, b2, b3⟩, ⟨c1, c2, c3⟩, ⟨d1, d2, d3⟩, e1, e2, e3⟩ := h
    simp [Op.eqFields, a1, a2, a3, b1, b2, b3, c1, c2, c3, d1, d2, d3, e1, e2, e3, part, isAgg, run_underlying Try.underlying3, go_sem, run_equalIn_int w _ _ _ _ _ _ Try.underlying3]
    obtain ⟨x0, x1, x2, x3, x4⟩ := i
    obtain ⟨y0, y1, y2, y3, y4⟩ := k
    simp only
    repeat' split
    all_goals simp_all
end Go.Proofs.Ytngoajhnnlnphaa
