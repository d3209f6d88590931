/- The program's map of the earliest places of classes, by their types. No condition. -/
import Derived.Maps.OwnSet
import Derived.Maps.OwnOps
import Derived.DeepKeys4
import Derived.Test.YtadgbkjjeigpjaaDoorMapP
import Derived.Test.YtadgbkjjeigpjaaDoorMapB
namespace Go.Proofs.YtadgbkjjeigpjaaDoor
open Go.RowKit Go.Maps
set_option linter.unusedVariables false
set_option linter.unusedSimpArgs false

/-- A type whose parts are small. -/
structure SmT (t : TypeV) : Prop where
  k : 0 ≤ t.k ∧ t.k ≤ 8
  n : t.name.size ≤ 140737488351232
  d : 0 ≤ t.dims ∧ t.dims ≤ 8
  e : 0 ≤ t.elem ∧ t.elem ≤ 8
  a : 0 ≤ t.at_ ∧ t.at_ ≤ 4096
theorem SmT.arr {d : Nat} (hd : d ≤ 4) {k : Int} (hk : 0 ≤ k ∧ k ≤ 8) {nm : ByteArray} (hn : nm.size ≤ 140737488351232) : SmT (arrT d k nm) := by
  unfold arrT
  split
  · exact ⟨by simp, hn, by simp only; omega, hk, by simp⟩
  · exact ⟨hk, hn, by simp, by simp, by simp⟩
theorem one_small {zs : List Int} {t : TypeV} (hl : zs.length ≤ 140737488351232) (h : oneZ8 zs = some t) : SmT t := by
  have h0 : (⟨#[]⟩ : ByteArray).size ≤ 140737488351232 := by show 0 ≤ _; omega
  unfold oneZ8 at h
  split at h
  · rename_i u hu
    injection h with h
    subst h
    unfold fieldZ baseZ at hu
    split at hu
    · cases hu
    · rename_i c r hdr
      have hlen : r.length + 1 ≤ zs.length := by
        have := congrArg List.length hdr
        simp at this
        omega
      split at hu
      · cases hu
      · split at hu
        · injection hu with hu; injection hu with hu _; rw [← hu]; exact SmT.arr (by omega) (by decide) h0
        · split at hu
          · injection hu with hu; injection hu with hu _; rw [← hu]; exact SmT.arr (by omega) (by decide) h0
          · split at hu
            · split at hu
              · cases hu
              · split at hu
                · injection hu with hu; injection hu with hu _; rw [← hu]
                  refine SmT.arr (by omega) (by decide) ?_
                  rw [strOfNums_size, List.length_take]
                  omega
                · cases hu
            · cases hu
  · cases h
theorem typeN_small {s : ByteArray} {t : TypeV} (hs : s.size ≤ 140737488351232) (h : typeN s = some t) : SmT t := by
  cases hh : headIs1 (nums s) with
  | true =>
    rw [typeN_arr hh] at h
    exact one_small (by rw [nums_len]; omega) h
  | false =>
    rw [typeN_name hh] at h
    split at h
    · injection h with h
      subst h
      exact ⟨by simp, hs, by simp, by simp, by simp⟩
    · cases h
theorem zero_small : SmT zeroT := ⟨by decide, by show 0 ≤ _; omega, by decide, by decide, by decide⟩
theorem typO_small {s : ByteArray} (hs : s.size ≤ 140737488351232) : SmT (typO (typeN s)) := by
  cases h : typeN s with
  | none => exact zero_small
  | some t => exact typeN_small hs h
theorem ok_small {w : World} {v : Value} {cs : List ConstV} (hp : Pool w v cs) {t : TypeV} (h : OkT cs t) : SmT t := by
  have h0 : (⟨#[]⟩ : ByteArray).size ≤ 140737488351232 := by show 0 ≤ _; omega
  rcases h with ⟨q, hq, rfl⟩ | ⟨a, ha, rfl⟩ | ⟨i, _, ht⟩
  · exact ⟨by simp only; omega, h0, by simp, by simp, by simp⟩
  · exact ⟨by simp, h0, by simp, by simp, ha⟩
  · exact typeN_small (class_small hp i) ht

/-! Types as keys. -/
theorem wide_type : (match Tryd.prog.underlying 39 with | some (.array _ _) | some (.struct _) => true | _ => false) = true := by rw [Tryd.underlying39]
theorem laidOutK : laidOutB Tryd.prog = true := by kernel_rfl
set_option maxRecDepth 100000 in
theorem law_type : Keyed Tryd.prog 39 := Keyed.of_law (deep_law_laid laidOutK (m := 2) (by omega) (of_decide_eq_true (by kernel_rfl)) (by kernel_rfl) wide_type)
theorem keyt_type : Tryd.prog.keyType 39 = true := by kernel_rfl
theorem cells_typeK : Tryd.prog.cellsOf 39 = 5 := by kernel_rfl
theorem cells_intK : Tryd.prog.cellsOf 3 = 1 := by kernel_rfl
theorem cells_strK : Tryd.prog.cellsOf 9 = 1 := by kernel_rfl
theorem size_typesK : ∃ d, Tryd.prog.types.size + 1 = d + 2 := ⟨Tryd.prog.types.size - 1, by have : 0 < Tryd.prog.types.size := of_decide_eq_true (by kernel_rfl); omega⟩
theorem i64_wfK {z : Int} (h : 0 ≤ z ∧ z ≤ 4096) : (Lit.int .i64 z).wf = true := WalkArith.wf_i64 (by omega)
set_option maxRecDepth 100000 in
theorem lits_type (d : Nat) {t : TypeV} (h : SmT t) : Tryd.prog.keyLits (d + 2) 39 [.int .i64 t.k, .string t.name, .int .i64 t.dims, .int .i64 t.elem, .int .i64 t.at_] = some [.int .i64 t.k, .string t.name.data.toList, .int .i64 t.dims, .int .i64 t.elem, .int .i64 t.at_] := by
  have w0 := i64_wfK (z := t.k) (by have := h.k; omega)
  have w2 := i64_wfK (z := t.dims) (by have := h.d; omega)
  have w3 := i64_wfK (z := t.elem) (by have := h.e; omega)
  have w4 := i64_wfK (z := t.at_) (by have := h.a; omega)
  have w1 : t.name.size ≤ maxLen := by have := h.n; unfold maxLen; omega
  simp [Program.keyLits, Tryd.underlying39, Tryd.underlying3, Tryd.underlying9, cells_typeK, cells_intK, cells_strK, w0, w1, w2, w3, w4]
noncomputable def keyT (t : TypeV) : Lit := .string (keyBytes [.int .i64 t.k, .string t.name.data.toList, .int .i64 t.dims, .int .i64 t.elem, .int .i64 t.at_])
theorem key_type {t : TypeV} (h : SmT t) : keyOf Tryd.prog 39 (valT t) = some (keyT t) := by
  obtain ⟨d, hd⟩ := size_typesK
  have hl := lits_type d h
  unfold keyOf
  rw [Tryd.underlying39]
  have hf : (valT t).formed Tryd.prog 39 = true := by simp [valT, Value.formed, Tryd.underlying39, cells_typeK]
  simp only [keyt_type, hf, Bool.and_self, if_true, hd]
  show (Tryd.prog.keyLits (d + 2) 39 [.int .i64 t.k, .string t.name, .int .i64 t.dims, .int .i64 t.elem, .int .i64 t.at_]).map _ = _
  rw [hl]
  rfl
theorem valT_inj {t u : TypeV} (h : valT t = valT u) : t = u := by
  obtain ⟨a, b, c, d, e⟩ := t
  obtain ⟨a', b', c', d', e'⟩ := u
  unfold valT at h
  injection h with h
  injection h with h
  simp only [List.cons.injEq, Value.int.injEq, true_and, Value.string.injEq, and_true] at h
  obtain ⟨rfl, rfl, rfl, rfl, rfl⟩ := h
  rfl
theorem keyT_inj {t u : TypeV} (ht : SmT t) (hu : SmT u) (h : keyT t = keyT u) : t = u := valT_inj (law_type.inj (key_type ht) (by rw [key_type hu, h]))
theorem zero_intK (w : World) : (zeroValue 3).run Tryd.prog w = .ok (.int .i64 0) w := by kernel_rfl
theorem make_typesK (w : World) : (Instr.makeMap 65 none).run Tryd.prog w = .ok (.map (some w.heap.size)) (w.alloc (.map #[] 0)) := by
  have h : (underlying 65).run Tryd.prog w = .ok (.map 39 3) w := by kernel_rfl
  simp only [Instr.makeMap, Sem.run_bind, h, Result.andThen]
  rfl
theorem under_places : Tryd.prog.underlying 65 = some (.map 39 3) := by kernel_rfl

/-- The map, when the first so many constants have been looked at. -/
def PlM (w : World) (mb : Nat) (cs : List ConstV) (j : Nat) : Prop :=
  ∃ n D, n ≤ j ∧ w.ownsMap Tryd.prog 39 (plainElem (H := Unit) Tryd.prog 3) mb n D ∧ IsMap D ∧ ∀ t, SmT t → (Maps.has D (keyT t) = true ↔ ∃ i : Nat, i < j ∧ typeN (classZ cs i).1 = some t)
theorem PlM.only {S : Nat → Prop} {w w' : World} {mb j : Nat} {cs : List ConstV} (h : PlM w mb cs j) (ho : Only S w w') (hs : ¬ S mb) : PlM w' mb cs j := by
  obtain ⟨n, D, h1, ⟨es, clock, h2, h3⟩, h4⟩ := h
  exact ⟨n, D, h1, ⟨es, clock, ho.heap h2 hs, h3⟩, h4⟩
theorem PlM.lt {w : World} {mb j : Nat} {cs : List ConstV} (h : PlM w mb cs j) : mb < w.heap.size := by
  obtain ⟨n, D, h1, h2, h4⟩ := h
  exact h2.lt
theorem PlM.skip {w : World} {mb j : Nat} {cs : List ConstV} (h : PlM w mb cs j) (hn : ∀ t, typeN (classZ cs j).1 = some t → ∃ i : Nat, i < j ∧ typeN (classZ cs i).1 = some t) : PlM w mb cs (j + 1) := by
  obtain ⟨n, D, h1, h2, h3, h4⟩ := h
  refine ⟨n, D, by omega, h2, h3, fun t ht => ?_⟩
  rw [h4 t ht]
  constructor
  · rintro ⟨i, hi, e⟩; exact ⟨i, by omega, e⟩
  · rintro ⟨i, hi, e⟩
    by_cases hij : i = j
    · subst hij; exact hn t e
    · exact ⟨i, by omega, e⟩
end Go.Proofs.YtadgbkjjeigpjaaDoor
