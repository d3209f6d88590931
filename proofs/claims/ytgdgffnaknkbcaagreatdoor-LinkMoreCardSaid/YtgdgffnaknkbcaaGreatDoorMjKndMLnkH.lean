import Derived.Test.YtgdgffnaknkbcaaGreatDoorMjLnkFKndT
namespace Go.Proofs.YtgdgffnaknkbcaaGreatDoor
open Go.RowKit
set_option linter.unusedVariables false
set_option linter.unusedSimpArgs false
def strSize : Value → Nat
  | .string t => t.size
  | _ => 0
theorem type_resultM {fn : Func} {p q q2 : Tmp} (hr : fn.results = #[.tmp q, .cell p 63, .tmp q2]) {w : World} {b : Nat} {t : TypeV} {x y : Value} {tmps : Array Value} (h : w.heap[b]? = some (.cells #[.int .i64 t.k, .string t.name, .int .i64 t.dims, .int .i64 t.elem, .int .i64 t.at_] 63 (0, 0))) (ht : tmps.getD p undef = .pointer (some ⟨b, 0, none⟩)) (hx : tmps.getD q undef = x) (hy : tmps.getD q2 undef = y) :
    (results fn tmps).run Tryz.prog w = .ok (.tuple #[x, valT t, y]) w := by
  have hp' : tmps[p]?.getD undef = .pointer (some ⟨b, 0, none⟩) := by simpa using ht
  have hx' : tmps[q]?.getD undef = x := by simpa using hx
  have hy' : tmps[q2]?.getD undef = y := by simpa using hy
  have hL := run_loadVar_row w b 63 63 _ (0, 0) _ h Tryz.underlying63 rfl info5_type
  simp only [results, hr]
  simp [Sem.run_bind, Result.andThen, hp', hx', hy', asAddr, hL, valT]
def MethTo (w : World) (zs : List Int) (e : Ending) (w' : World) : Prop := ∃ v x, e = .returned (.tuple #[v, valT x.2.1, .int .i64 x.2.2]) ∧ Meth zs x ∧ Only (fun _ => False) w w' ∧ Types w' v x.1
theorem MethTo.bad {w w' : World} {zs : List Int} (h : Meth zs ([], zeroT, 80)) (ho : Only (fun _ => False) w w') : MethTo w zs (.returned (.tuple #[.slice none 0 0, valT zeroT, .int .i64 80])) w' := ⟨_, _, rfl, h, ho, Types.nil _⟩
theorem toList_ne_of {s t : ByteArray} (h : nums s ≠ nums t) : (s.toList == t.toList) = false ∧ ¬ s.toList = t.toList := by
  have h2 : ¬ s.toList = t.toList := fun e => h (by rw [toList_inj' e])
  exact ⟨by rw [beq_eq_false_iff_ne]; exact h2, h2⟩
theorem heap_drewT {w : World} {b : Nat} {o : Option Obj} (h : w.heap[b]? = o) : w.drew.heap[b]? = o := h
end Go.Proofs.YtgdgffnaknkbcaaGreatDoor
namespace Go.Proofs.YtgdgffnaknkbcaaGreatDoor
open Go.RowKit
set_option linter.unusedVariables false
set_option linter.unusedSimpArgs false
def typeZ (m : MethN) : TypeV := typO (oneZ8 (nums m.desc))
def typesZ (f : Int) (l : List MethN) : List TypeV := (l.filter (fun m => m.flags == f)).map typeZ
theorem typesZ_len (f : Int) (l : List MethN) : (typesZ f l).length = countL f l := by
  rw [typesZ, List.length_map, countL, List.countP_eq_length_filter]
def Descs (l : List MethN) : Prop := ∀ m ∈ l, m.desc.size ≤ 281474976710656
theorem getD_memM {l : List MethN} {j : Nat} (h : j < l.length) : l.getD j default ∈ l := by
  rw [show l.getD j default = l[j] by simp [List.getD, h]]; exact List.getElem_mem h
def TypesTo (w : World) (l : List TypeV) (e : Ending) (w' : World) : Prop := ∃ r, e = .returned r ∧ TRow w' w.heap.size r l ∧ Only (fun _ => False) w w'
end Go.Proofs.YtgdgffnaknkbcaaGreatDoor
namespace Go.Proofs.YtgdgffnaknkbcaaGreatDoor
open Go.RowKit
set_option linter.unusedVariables false
set_option linter.unusedSimpArgs false
theorem cellsTy_len (cs : List TypeV) : (cs.flatMap cellsTy).length = cs.length * 5 := by
  induction cs with
  | nil => rfl
  | cons c r ih => rw [List.flatMap_cons, List.length_append, ih]; simp [cellsTy]; omega
theorem Src.of_types {w : World} {v : Value} {cs : List TypeV} (h : Types w v cs) : Src w 5 v cs.length (cs.flatMap cellsTy) := by
  obtain ⟨ao, cap, rfl, h1, h2, h3, h5⟩ := h
  refine ⟨cellsTy_len cs, ?_, ao, cap, rfl, fun e => ⟨by have := h3 e; omega, h3 e⟩, fun ad hd j u hj => ?_⟩
  · intro u hu
    obtain ⟨c, _, hc⟩ := List.mem_flatMap.1 hu
    simp only [cellsTy, List.mem_cons, List.mem_nil_iff, or_false] at hc
    rcases hc with rfl | rfl | rfl | rfl | rfl <;> rfl
  · have hjl : j < cs.length * 5 := by rw [← cellsTy_len]; exact (List.getElem?_eq_some_iff.1 hj).1
    obtain ⟨b, o, rfl, hc⟩ := h5 ad hd (by omega)
    have hi : j / 5 < cs.length := by omega
    have hd5 : j % 5 < 5 := by omega
    have hat := cellsT_at (cs := cs) (i := j / 5) (d := j % 5) hi hd5
    rw [show j / 5 * 5 + j % 5 = j by omega, hj] at hat
    rw [add_lit, show o + j = o + j / 5 * 5 + j % 5 by omega]
    obtain ⟨c0, c1, c2, c3, c4⟩ := hc (j / 5) hi
    generalize cs.getD (j / 5) default = c at *
    have h5' : j % 5 = 0 ∨ j % 5 = 1 ∨ j % 5 = 2 ∨ j % 5 = 3 ∨ j % 5 = 4 := by omega
    rcases h5' with e | e | e | e | e
    · rw [e] at hat ⊢; rw [Nat.add_zero, c0]; simpa [cellsTy] using hat.symm
    · rw [e] at hat ⊢; rw [c1]; simpa [cellsTy] using hat.symm
    · rw [e] at hat ⊢; rw [c2]; simpa [cellsTy] using hat.symm
    · rw [e] at hat ⊢; rw [c3]; simpa [cellsTy] using hat.symm
    · rw [e] at hat ⊢; rw [c4]; simpa [cellsTy] using hat.symm
theorem TRow.join {w3 : World} {B : Nat} {v' : Value} {cs ds : List TypeV} (hown : w3.ownsRow B 63 5 v' (cs.length + ds.length) (cs.flatMap cellsTy ++ ds.flatMap cellsTy)) : TRow w3 B v' (cs ++ ds) := by
  unfold TRow
  rw [List.length_append, List.flatMap_append]
  exact hown
def staticsZ (ks : List KindV) (n : Nat) : List TypeV := (ks.take n).flatMap (fun k => typesZ 8 k.fields)
theorem staticsZ_step {ks : List KindV} {n : Nat} (h : n < ks.length) : staticsZ ks (n + 1) = staticsZ ks n ++ typesZ 8 (ks.getD n default).fields := by
  rw [staticsZ, List.take_succ_eq_append_getElem h, List.flatMap_append]
  rw [show ks.getD n default = ks[n] by simp [List.getD, h]]
  simp [staticsZ]
theorem staticsZ_len {ks : List KindV} : ∀ {n : Nat}, n ≤ ks.length → (staticsZ ks n).length = staticsN ks n
  | 0, _ => rfl
  | n + 1, h => by rw [staticsZ_step (by omega), List.length_append, staticsZ_len (by omega), staticsN_step (by omega), typesZ_len]
def DescsAll (ks : List KindV) : Prop := ∀ k ∈ ks, Descs k.fields
end Go.Proofs.YtgdgffnaknkbcaaGreatDoor
