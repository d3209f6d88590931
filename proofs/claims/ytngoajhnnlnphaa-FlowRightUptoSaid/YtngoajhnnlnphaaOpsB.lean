/- The document's own Shape and Name of a code. No condition. -/
import Derived.Test.YtngoajhnnlnphaaOpsA
namespace Go.Proofs.Ytngoajhnnlnphaa
open Go.RowKit
set_option linter.unusedVariables false
set_option linter.unusedSimpArgs false

theorem codes_len : codesV.length = 120 := by decide
/-- What is known of a code. -/
def codeOf (op : Int) : Option CodeV := codesV.find? (fun c => c.op == op)
def shapeK (op : Int) : Int := match codeOf op with | some c => c.shape | none => 0
def nameK (op : Int) : ByteArray := match codeOf op with | some c => c.name | none => ⟨#[]⟩
def isK (op : Int) : Bool := (codeOf op).isSome
theorem codeOf_at {op : Int} {i : Nat} (hi : i < 120) (hb : ∀ j, j < i → (codesV.getD j default).op ≠ op) (h : (codesV.getD i default).op = op) : codeOf op = some (codesV.getD i default) := by
  have hi' : i < codesV.length := by rw [codes_len]; exact hi
  have e : ∀ j (hj : j < codesV.length), codesV.getD j default = codesV[j] := fun j hj => by simp [List.getD, hj]
  rw [e i hi'] at h ⊢
  refine List.find?_eq_some_iff_getElem.2 ⟨by simpa using h, i, hi', rfl, fun j hj => ?_⟩
  have := hb j hj
  rw [e j (by omega)] at this
  simpa using this
theorem codeOf_none {op : Int} (hb : ∀ j, j < 120 → (codesV.getD j default).op ≠ op) : codeOf op = none := by
  refine List.find?_eq_none.2 fun c hc => ?_
  obtain ⟨j, hj, rfl⟩ := List.getElem_of_mem hc
  have e : codesV.getD j default = codesV[j] := by simp [List.getD, hj]
  have := hb j (by rw [← codes_len]; exact hj)
  rw [e] at this
  simpa using this
theorem cellsK_at : ∀ {l : List CodeV} {i d : Nat}, i < l.length → d < 3 → (l.flatMap cellsK)[i * 3 + d]? = (cellsK (l.getD i default))[d]?
  | c :: r, 0, d, _, hd => by
    rw [List.flatMap_cons, List.getElem?_append_left (by simpa [cellsK] using hd)]
    simp
  | c :: r, i + 1, d, hi, hd => by
    have he : (i + 1) * 3 + d = 3 + (i * 3 + d) := by omega
    rw [List.flatMap_cons, List.getElem?_append_right (by simp [cellsK]; omega), he]
    rw [show 3 + (i * 3 + d) - (cellsK c).length = i * 3 + d by simp [cellsK], cellsK_at (by simpa using hi) hd]
    simp
theorem code_cell {w : World} {b : Nat} (h : w.heap[b]? = some (.cells (codesV.flatMap cellsK).toArray 77 (0, 0))) {i : Nat} (hi : i < 120) :
    w.cell? ⟨b, i * 3, none⟩ = some (.int .i64 (codesV.getD i default).op) ∧ w.cell? ⟨b, i * 3 + 1, none⟩ = some (.string (codesV.getD i default).name) ∧ w.cell? ⟨b, i * 3 + 2, none⟩ = some (.int .u8 (codesV.getD i default).shape) := by
  have hi' : i < codesV.length := by rw [codes_len]; exact hi
  refine ⟨?_, ?_, ?_⟩
  · rw [cell_blk h, List.getElem?_toArray, show i * 3 = i * 3 + 0 from rfl, cellsK_at hi' (by decide)]; rfl
  · rw [cell_blk h, List.getElem?_toArray, cellsK_at hi' (by decide)]; rfl
  · rw [cell_blk h, List.getElem?_toArray, cellsK_at hi' (by decide)]; rfl

set_option maxHeartbeats 2000000 in
set_option maxRecDepth 100000 in
theorem refShape (op : Int) (w : World) :
    Calls Try.prog 25 #[.int .i64 op] w fun e w' => e = .returned (.tuple #[.int .u8 (shapeK op), .bool (isK op)]) ∧ Only (fun _ => False) w w' := by
  go_enter Try.func25, Try.ntmps25
  go_wp2_with (fail)
  refine (refCodes w).mono ?_
  rintro e w1 ⟨rfl, rfl⟩
  have hb := heap_alloc_new w (.cells (codesV.flatMap cellsK).toArray 77)
  have HON := Lib.hid ((Only.refl (fun _ => False) w).alloc (.cells (codesV.flatMap cellsK).toArray 77))
  generalize w.alloc (.cells (codesV.flatMap cellsK).toArray 77) = w1 at *
  generalize w.heap.size = b at *
  have HB := Lib.hid hb
  clear hb
  go_wp2
  go_loopw [5] (fun i wr => wr = w1 ∧ ∃ j : Nat, i = .int .i64 j ∧ j ≤ 120 ∧ ∀ k, k < j → (codesV.getD k default).op ≠ op) (fun i _ => 120 - (intOf i).toNat)
  case atStart => exact ⟨rfl, 0, rfl, by omega, fun k hk => by omega⟩
  case round =>
    obtain ⟨rfl, j, rfl, hj, hbef⟩ := hrel
    have HBEF := Lib.hid hbef
    clear hbef
    by_cases hlt : j < 120
    · obtain ⟨c0, c1, c2⟩ := code_cell HB.out hlt
      have hjz : (j : Int) < 120 := by omega
      by_cases ho : (codesV.getD j default).op = op
      · have hk := codeOf_at hlt HBEF.out ho
        have HS := Lib.hid (show shapeK op = (codesV.getD j default).shape ∧ isK op = true by unfold shapeK isK; rw [hk]; exact ⟨rfl, rfl⟩)
        rw [ho] at c0
        generalize codesV.getD j default = c at *
        clear hk ho
        go_wp2
        go_ret2
        rw [HS.out.1, HS.out.2]
        exact ⟨rfl, HON.out⟩
      · have hob : ((codesV.getD j default).op == op) = false := by simpa using ho
        have HN := Lib.hid (show ∀ k, k < j + 1 → (codesV.getD k default).op ≠ op from fun k hk => by
          by_cases hkj : k < j
          · exact HBEF.out k hkj
          · rw [show k = j by omega]; exact ho)
        generalize codesV.getD j default = c at *
        clear ho
        go_wp2
        go_roundw
        case rel => exact ⟨trivial, j + 1, by go_num, by omega, HN.out⟩
        case measure => simp [intOf]; omega
    · have hk := codeOf_none (op := op) (fun k hk => HBEF.out k (by omega))
      have HS := Lib.hid (show shapeK op = 0 ∧ isK op = false by unfold shapeK isK; rw [hk]; exact ⟨rfl, rfl⟩)
      clear hk
      obtain rfl : j = 120 := by omega
      clear hlt hj
      go_wp2
      go_ret2
      rw [HS.out.1, HS.out.2]
      exact ⟨rfl, HON.out⟩
end Go.Proofs.Ytngoajhnnlnphaa
