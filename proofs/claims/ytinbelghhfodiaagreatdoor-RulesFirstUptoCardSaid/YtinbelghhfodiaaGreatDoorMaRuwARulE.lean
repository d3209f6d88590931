import Derived.Test.YtinbelghhfodiaaGreatDoorMaKndTLnkD
import Derived.Test.YtinbelghhfodiaaGreatDoorMaClsAKndL
import Derived.Test.YtinbelghhfodiaaGreatDoorMaLnkHLnkN
import Derived.Test.YtinbelghhfodiaaGreatDoorMaLnkOPolD
import Derived.Test.YtinbelghhfodiaaGreatDoorMaRulTRulB
import Derived.Deep.RegionHeld3
namespace Go.Proofs.YtinbelghhfodiaaGreatDoor
open Go.RowKit
set_option linter.unusedVariables false
set_option linter.unusedSimpArgs false
structure RPlcV where
 n : Nat
 m : MethodV
 fr : Bool
 pool : List ConstV
 ps : List TypeV
 ret : TypeV
abbrev rplaceO (qb : Nat) (p : RPlcV) (vc vt vm pv tv sv : Value) : Obj := .cells #[.pointer (some ⟨qb, 0, none⟩), .int .i64 (p.n : Int), .int .i64 p.m.flags, .int .i64 p.m.name, .int .i64 p.m.desc, .int .i64 p.m.stack, .int .i64 p.m.locals, vc, vt, vm, .bool p.fr, pv, tv, sv, .int .i64 p.ret.k, .string p.ret.name, .int .i64 p.ret.dims, .int .i64 p.ret.elem, .int .i64 p.ret.at_] 66 (0, 0)
def RPlaceP (w : World) (yb qb : Nat) (ks : List KindV) (p : RPlcV) : Prop :=
 ∃ vc vt vm pv tv sv, w.heap[yb]? = some (rplaceO qb p vc vt vm pv tv sv) ∧ Pool w pv p.pool ∧ Pairs w tv (treeZ ks) ∧ Types w sv p.ps ∧ p.ps.length ≤ 16 ∧ 0 ≤ p.m.locals ∧ p.m.locals ≤ 64 ∧ checkZ p.pool = 0 ∧ p.n < ks.length
theorem RPlaceP.only {w w' : World} {yb qb : Nat} {ks : List KindV} {p : RPlcV} (h : RPlaceP w yb qb ks p) (ho : Only (fun _ => False) w w') : RPlaceP w' yb qb ks p := by
 obtain ⟨vc, vt, vm, pv, tv, sv, h1, h2, h3, h4, h5⟩ := h
 exact ⟨vc, vt, vm, pv, tv, sv, ho.heap h1 (fun h => h), h2.only ho (fun _ _ h => h), h3.only ho, h4.only ho, h5⟩
section
variable {w : World} {yb qb : Nat} {ks : List KindV} {cs : List ClassV} {p : RPlcV} (h : RPlaceP w yb qb ks p) (hd : DocP w qb ks cs) (hn : ks.length ≤ 64) (n : Int)
include h hd hn
end
theorem flat_takeT : ∀ (l : List TypeV) (k : Nat), (l.flatMap cellsTy).take (k * 5) = (l.take k).flatMap cellsTy
 | [], k => by simp
 | c :: r, 0 => by simp
 | c :: r, k + 1 => by
  rw [List.flatMap_cons, List.take_succ_cons, List.flatMap_cons, List.take_append, ← flat_takeT r k]
  have h5 : (cellsTy c).length = 5 := rfl
  rw [List.take_of_length_le (by rw [h5]; omega), h5, show (k + 1) * 5 - 5 = k * 5 by omega]
theorem flat_dropT : ∀ (l : List TypeV) (k : Nat), (l.flatMap cellsTy).drop (k * 5) = (l.drop k).flatMap cellsTy
 | [], k => by simp
 | c :: r, 0 => by simp
 | c :: r, k + 1 => by
  rw [List.flatMap_cons, List.drop_succ_cons, ← flat_dropT r k, List.drop_append]
  have h5 : (cellsTy c).length = 5 := rfl
  rw [List.drop_of_length_le (by rw [h5]; omega), h5, show (k + 1) * 5 - 5 = k * 5 by omega, List.nil_append]
theorem flat_lenT (l : List TypeV) : (l.flatMap cellsTy).length = l.length * 5 := flat_len (f := cellsTy) (size := 5) (fun _ => rfl) l
abbrev zcT : Array Value := #[.int .i64 0, .string ⟨#[]⟩, .int .i64 0, .int .i64 0, .int .i64 0]
theorem made_types (n : Nat) : (madeCells zcT (n * 5)).toList = (List.replicate n zeroT).flatMap cellsTy := by
 apply List.ext_getElem?
 intro j
 by_cases hj : j < n * 5
 ·have hi : j / 5 < n := Nat.div_lt_of_lt_mul (by omega)
  have hd : j % 5 < 5 := Nat.mod_lt _ (by decide)
  have hat := flat_at (f := cellsTy) (l := List.replicate n zeroT) (size := 5) (fun _ => rfl) (i := j / 5) (d := j % 5) (by simpa using hi) hd
  rw [show j / 5 * 5 + j % 5 = j by omega] at hat
  rw [hat]
  have hz : (List.replicate n zeroT).getD (j / 5) default = zeroT := by simp [List.getD, hi]
  rw [hz]
  simp only [Array.getElem?_toList, madeCells, Array.getElem?_map, Array.getElem?_range, hj, if_true, Option.map_some]
  rcases (show j % 5 = 0 ∨ j % 5 = 1 ∨ j % 5 = 2 ∨ j % 5 = 3 ∨ j % 5 = 4 by omega) with e | e | e | e | e <;> simp [e, cellsTy, zeroT, getElem!_def]
 ·rw [List.getElem?_eq_none (by simp [madeCells]; omega), List.getElem?_eq_none (by rw [flat_lenT]; simp; omega)]
def baseT (fl : Int) (nm : ByteArray) (fr : Bool) (ts : List TypeV) : List TypeV := (if fl = 8 then [] else [thisT nm fr]) ++ ts
def firstZ (fl : Int) (nm : ByteArray) (fr : Bool) (ts : List TypeV) (L : Nat) : List TypeV := (baseT fl nm fr ts).take L ++ List.replicate (L - (baseT fl nm fr ts).length) zeroT
theorem firstZ_len (fl : Int) (nm : ByteArray) (fr : Bool) (ts : List TypeV) (L : Nat) : (firstZ fl nm fr ts L).length = L := by unfold firstZ; simp; omega
theorem first_cells (b : List TypeV) (L : Nat) :
  ((madeCells zcT (L * 5)).toList.take 0 ++ (b.take L).flatMap cellsTy ++ (madeCells zcT (L * 5)).toList.drop (0 + ((b.take L).flatMap cellsTy).length)) = (b.take L ++ List.replicate (L - b.length) zeroT).flatMap cellsTy := by
 rw [made_types, flat_lenT, Nat.zero_add, flat_dropT, List.take_zero, List.nil_append, List.flatMap_append, List.drop_replicate, List.length_take]
 congr 3
 omega
theorem init_eq (bn : ByteArray) : (bn.toList == [60, 105, 110, 105, 116, 62]) = decide (bn = initB) := by
 have h : initB.toList = [60, 105, 110, 105, 116, 62] := by unfold initB; rw [ByteArray.toList_eq]
 rw [← h]
 exact beq_bytes bn initB
theorem run_mkTy (n : Nat) (hn : n ≤ 4096) (w : World) : (Instr.makeSlice 23 (.int .i64 (n : Int)) (.int .i64 (n : Int))).run Tryz.prog w = .ok (.slice (some ⟨w.heap.size, 0, none⟩) n n) (w.alloc (.cells (madeCells zcT (n * 5)) 33)) := by
 obtain ⟨i0, hi, hz0, hz1, hz2⟩ := info_parts info_type
 have := run_make (P := Tryz.prog) w 23 33 i0 _ Tryz.underlying23 hi hz0 .i64 .i64 (n : Int) (n : Int) (by omega) (Int.le_refl _) (by rw [hz2]; omega) (by omega)
 simp only [Int.toNat_natCast, hz1] at this
 exact this
end Go.Proofs.YtinbelghhfodiaaGreatDoor
