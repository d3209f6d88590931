/- The program's own codeOf, Shape and Name answer what the 120 codes say. No condition. -/
import Derived.Test.YtmgglicfhddmpaaOpsW
import Derived.Great.Walk
import Derived.Great.BuildSlice
import Derived.Deep.Cut
import Derived.Laws.Rows
namespace Go.Proofs.Ytmgglicfhddmpaa
open Go.RowKit Go.Great
set_option linter.unusedVariables false
set_option linter.unusedSimpArgs false

/-- 'a[i]' of an array of structs, by value. -/
theorem run_index_arr {P : Program} (w : World) (t e : TypeId) (n : Nat) (cs : Array Value) (i : Int) (ie : TypeInfo) (fs : Array Field) (size : Nat) (h : P.underlying t = some (.array n e)) (he : P.underlying e = some (.struct fs)) (hie : P.info? e = some ie) (hs : ie.size = size) (h0 : 0 ≤ i) (h1 : i < n) :
    (Instr.index t (.agg cs) (.int .i64 i)).run P w = .ok (.agg (cs.extract (i.toNat * size) (i.toNat * size + size))) w := by
  have hn : 0 ≤ i ∧ i < (n : Int) := ⟨h0, h1⟩
  simp [Instr.index, run_underlying h, run_underlying he, asIntOf, hn, part, isAgg, sizeOf, typeInfo, hie, hs, go_sem]
theorem wpList_indexTo {P : Program} {ops : Array Oper} {rest : List Oper} {o : Oper} {a : Act} {w : World} {Q : Exit → Act → World → Prop} (hg : o.guard = none) (dst : Option Tmp) (hdst : o.dst = dst) (t : TypeId) (x ix : Operand) (ho : o.op = .index t x ix)
    (vx vi v : Value) (hx : a.eval x = vx) (hi : a.eval ix = vi) (hrun : (Instr.index t vx vi).run P w = .ok v w) (h : wpList P ops Q rest (a.put dst v) w) : wpList P ops Q (o :: rest) a w := by
  refine wpList_readTo hg dst hdst v ?_ h
  unfold execOp
  rw [ho]
  simp [hx, hi, hrun]
theorem Only.setRow {S : Nat → Prop} {a w : World} (h : Only S a w) {g : Nat} (hg : g < a.heap.size → S g) (cs : Array Value) : Only S a (w.setRow g cs) := by
  refine ⟨h.os, h.tape, h.output, by rw [size_setRow]; exact h.size, fun k hk hs => ?_⟩
  rw [setRow_other _ _ _ _ (fun e => hs (by rw [e]; exact hg (by rw [← e]; exact hk)))]
  exact h.block k hk hs

/-- The table by its 200 places: the zero struct where there is no code. -/
def arrCells : Array Value := ((List.range 200).flatMap fun (n : Nat) => [Value.string (nameK (n : Int)), Value.int .u8 (shapeK (n : Int))]).toArray
theorem arr_at : ∀ {l : List Nat} {f : Nat → List Value}, (∀ n, (f n).length = 2) → ∀ {i : Nat} (hi : i < l.length), ((l.flatMap f).drop (i * 2)).take 2 = f l[i]
  | c :: r, f, hf, 0, _ => by
    have := hf c
    simp [List.flatMap_cons, List.take_append_of_le_length, this, List.take_of_length_le]
  | c :: r, f, hf, i + 1, hi => by
    have e : (i + 1) * 2 = (f c).length + i * 2 := by rw [hf c]; omega
    rw [List.flatMap_cons, e, List.drop_append]
    simp only [List.drop_of_length_le (show (f c).length ≤ (f c).length + i * 2 by omega), List.nil_append, Nat.add_sub_cancel_left, List.getElem_cons_succ]
    exact arr_at hf (by simpa using hi)
theorem arr_part {op : Int} (h0 : 0 ≤ op) (h1 : op < 200) : arrCells.extract (op.toNat * 2) (op.toNat * 2 + 2) = #[.string (nameK op), .int .u8 (shapeK op)] := by
  obtain ⟨n, rfl⟩ := Int.eq_ofNat_of_zero_le h0
  have hn : n < (List.range 200).length := by rw [List.length_range]; omega
  have := arr_at (l := List.range 200) (f := fun (n : Nat) => [Value.string (nameK (n : Int)), Value.int .u8 (shapeK (n : Int))]) (fun _ => rfl) hn
  apply Array.ext'
  rw [Array.toList_extract]
  unfold arrCells
  simp only [List.getElem_range] at this
  show ((List.drop (n * 2) _).take _) = _
  rw [Nat.add_sub_cancel_left]
  exact this

set_option maxHeartbeats 8000000 in
set_option maxRecDepth 100000 in
theorem progCodeFar (op : Int) (w : World) (h : op < 0 ∨ 200 ≤ op) :
    Calls Try.prog 34 #[.int .i64 op] w fun e w' => e = .returned (.agg #[.string ⟨#[]⟩, .int .u8 0]) ∧ Only (fun _ => False) w w' := by
  have ho := (Only.refl (fun _ => False) w).alloc (.cells #[.string ⟨#[]⟩, .int .u8 0] 61)
  have HO := Lib.hid ho
  clear ho
  rcases h with h | h
  · go_enter Try.func34, Try.ntmps34
    go_wp2
    exact bodyPost_ret (v := .agg #[.string ⟨#[]⟩, .int .u8 0]) (by simp [results, Try.results34, go_sem]) rfl ⟨rfl, HO.out⟩
  · have h0 : ¬ op < 0 := by omega
    go_enter Try.func34, Try.ntmps34
    go_wp2
    exact bodyPost_ret (v := .agg #[.string ⟨#[]⟩, .int .u8 0]) (by simp [results, Try.results34, go_sem]) rfl ⟨rfl, HO.out⟩

theorem info_pcode : (Try.prog.info? 61).map (fun i => (i.zero, i.size, i.bytes)) = some (some (.agg #[.string ⟨#[]⟩, .int .u8 0]), 2, 24) := by kernel_rfl
theorem size_pcode : (Try.prog.info? 61).map (·.size) = some 2 := by kernel_rfl
theorem code_ret {a : Act} {w : World} {R : Ending → World → Prop} {b : Nat} {cs : Array Value} (h : a.tmps.getD 2 undef = .pointer (some ⟨b, 0, none⟩)) (hd : a.defers = []) (hw : w.heap[b]? = some (.cells cs 61 (0, 0))) (hc : cs.size = 2) (hR : R (.returned (.agg cs)) w) :
    Code.wp Try.prog Code.ret (bodyPost Try.prog Try.f34 R) a w := by
  refine wp_ret ?_
  exact bodyPost_ret (results_cell_row Try.results34 a.tmps w b 61 cs (0, 0) _ h hw Try.underlying61 rfl (by rw [size_pcode, hc])) hd hR

set_option maxHeartbeats 8000000 in
set_option maxRecDepth 100000 in
theorem progCodeIn (op : Int) (w : World) (h0 : 0 ≤ op) (h1 : op < 200) :
    Calls Try.prog 34 #[.int .i64 op] w fun e w' => e = .returned (.agg #[.string (nameK op), .int .u8 (shapeK op)]) ∧ Only (fun _ => False) w w' := by
  have ho := (Only.refl (fun _ => False) w).alloc (.cells #[.string ⟨#[]⟩, .int .u8 0] 61)
  have hb := heap_alloc_new w (.cells #[.string ⟨#[]⟩, .int .u8 0] 61)
  obtain ⟨ie, hie, hz0, hz1, hz2⟩ := info_parts info_pcode
  have hrun := run_index_arr (w.alloc (.cells #[.string ⟨#[]⟩, .int .u8 0] 61)) 64 61 200 arrCells op ie _ 2 Try.underlying64 Try.underlying61 hie hz1 h0 h1
  rw [arr_part h0 h1] at hrun
  have HRUN := Lib.hid hrun
  have HO := Lib.hid ho
  have HB := Lib.hid hb
  clear ho hb hrun hz0 hz1 hz2 hie
  go_enter Try.func34, Try.ntmps34
  go_upto_region 3 with (fail)
  rename_i K hK
  generalize hw : w.alloc (.cells #[.string ⟨#[]⟩, .int .u8 0] 61) = w1 at *
  apply wp_region_lit
  refine wpList_buildTo rfl 61 _ rfl (some 10) rfl #[.string ⟨#[110, 111, 112]⟩, .int .u8 45] (by kernel_rfl) ?_
  refine wpList_buildTo rfl 61 _ rfl (some 11) rfl #[.string ⟨#[97, 99, 111, 110, 115, 116, 95, 110, 117, 108, 108]⟩, .int .u8 45] (by kernel_rfl) ?_
  refine wpList_buildTo rfl 61 _ rfl (some 12) rfl #[.string ⟨#[105, 99, 111, 110, 115, 116, 95, 109, 49]⟩, .int .u8 45] (by kernel_rfl) ?_
  refine wpList_buildTo rfl 61 _ rfl (some 13) rfl #[.string ⟨#[105, 99, 111, 110, 115, 116, 95, 48]⟩, .int .u8 45] (by kernel_rfl) ?_
  refine wpList_buildTo rfl 61 _ rfl (some 14) rfl #[.string ⟨#[105, 99, 111, 110, 115, 116, 95, 49]⟩, .int .u8 45] (by kernel_rfl) ?_
  refine wpList_buildTo rfl 61 _ rfl (some 15) rfl #[.string ⟨#[105, 99, 111, 110, 115, 116, 95, 50]⟩, .int .u8 45] (by kernel_rfl) ?_
  refine wpList_buildTo rfl 61 _ rfl (some 16) rfl #[.string ⟨#[105, 99, 111, 110, 115, 116, 95, 51]⟩, .int .u8 45] (by kernel_rfl) ?_
  refine wpList_buildTo rfl 61 _ rfl (some 17) rfl #[.string ⟨#[105, 99, 111, 110, 115, 116, 95, 52]⟩, .int .u8 45] (by kernel_rfl) ?_
  refine wpList_buildTo rfl 61 _ rfl (some 18) rfl #[.string ⟨#[105, 99, 111, 110, 115, 116, 95, 53]⟩, .int .u8 45] (by kernel_rfl) ?_
  refine wpList_buildTo rfl 61 _ rfl (some 19) rfl #[.string ⟨#[108, 99, 111, 110, 115, 116, 95, 48]⟩, .int .u8 45] (by kernel_rfl) ?_
  refine wpList_buildTo rfl 61 _ rfl (some 20) rfl #[.string ⟨#[108, 99, 111, 110, 115, 116, 95, 49]⟩, .int .u8 45] (by kernel_rfl) ?_
  refine wpList_buildTo rfl 61 _ rfl (some 21) rfl #[.string ⟨#[98, 105, 112, 117, 115, 104]⟩, .int .u8 98] (by kernel_rfl) ?_
  refine wpList_buildTo rfl 61 _ rfl (some 22) rfl #[.string ⟨#[115, 105, 112, 117, 115, 104]⟩, .int .u8 115] (by kernel_rfl) ?_
  refine wpList_buildTo rfl 61 _ rfl (some 23) rfl #[.string ⟨#[108, 100, 99]⟩, .int .u8 117] (by kernel_rfl) ?_
  refine wpList_buildTo rfl 61 _ rfl (some 24) rfl #[.string ⟨#[108, 100, 99, 50, 95, 119]⟩, .int .u8 99] (by kernel_rfl) ?_
  refine wpList_buildTo rfl 61 _ rfl (some 25) rfl #[.string ⟨#[105, 108, 111, 97, 100]⟩, .int .u8 117] (by kernel_rfl) ?_
  refine wpList_buildTo rfl 61 _ rfl (some 26) rfl #[.string ⟨#[108, 108, 111, 97, 100]⟩, .int .u8 117] (by kernel_rfl) ?_
  refine wpList_buildTo rfl 61 _ rfl (some 27) rfl #[.string ⟨#[97, 108, 111, 97, 100]⟩, .int .u8 117] (by kernel_rfl) ?_
  refine wpList_buildTo rfl 61 _ rfl (some 28) rfl #[.string ⟨#[105, 108, 111, 97, 100, 95, 48]⟩, .int .u8 45] (by kernel_rfl) ?_
  refine wpList_buildTo rfl 61 _ rfl (some 29) rfl #[.string ⟨#[105, 108, 111, 97, 100, 95, 49]⟩, .int .u8 45] (by kernel_rfl) ?_
  refine wpList_buildTo rfl 61 _ rfl (some 30) rfl #[.string ⟨#[105, 108, 111, 97, 100, 95, 50]⟩, .int .u8 45] (by kernel_rfl) ?_
  refine wpList_buildTo rfl 61 _ rfl (some 31) rfl #[.string ⟨#[105, 108, 111, 97, 100, 95, 51]⟩, .int .u8 45] (by kernel_rfl) ?_
  refine wpList_buildTo rfl 61 _ rfl (some 32) rfl #[.string ⟨#[108, 108, 111, 97, 100, 95, 48]⟩, .int .u8 45] (by kernel_rfl) ?_
  refine wpList_buildTo rfl 61 _ rfl (some 33) rfl #[.string ⟨#[108, 108, 111, 97, 100, 95, 49]⟩, .int .u8 45] (by kernel_rfl) ?_
  refine wpList_buildTo rfl 61 _ rfl (some 34) rfl #[.string ⟨#[108, 108, 111, 97, 100, 95, 50]⟩, .int .u8 45] (by kernel_rfl) ?_
  refine wpList_buildTo rfl 61 _ rfl (some 35) rfl #[.string ⟨#[108, 108, 111, 97, 100, 95, 51]⟩, .int .u8 45] (by kernel_rfl) ?_
  refine wpList_buildTo rfl 61 _ rfl (some 36) rfl #[.string ⟨#[97, 108, 111, 97, 100, 95, 48]⟩, .int .u8 45] (by kernel_rfl) ?_
  refine wpList_buildTo rfl 61 _ rfl (some 37) rfl #[.string ⟨#[97, 108, 111, 97, 100, 95, 49]⟩, .int .u8 45] (by kernel_rfl) ?_
  refine wpList_buildTo rfl 61 _ rfl (some 38) rfl #[.string ⟨#[97, 108, 111, 97, 100, 95, 50]⟩, .int .u8 45] (by kernel_rfl) ?_
  refine wpList_buildTo rfl 61 _ rfl (some 39) rfl #[.string ⟨#[97, 108, 111, 97, 100, 95, 51]⟩, .int .u8 45] (by kernel_rfl) ?_
  refine wpList_buildTo rfl 61 _ rfl (some 40) rfl #[.string ⟨#[105, 97, 108, 111, 97, 100]⟩, .int .u8 45] (by kernel_rfl) ?_
  refine wpList_buildTo rfl 61 _ rfl (some 41) rfl #[.string ⟨#[108, 97, 108, 111, 97, 100]⟩, .int .u8 45] (by kernel_rfl) ?_
  refine wpList_buildTo rfl 61 _ rfl (some 42) rfl #[.string ⟨#[97, 97, 108, 111, 97, 100]⟩, .int .u8 45] (by kernel_rfl) ?_
  refine wpList_buildTo rfl 61 _ rfl (some 43) rfl #[.string ⟨#[105, 115, 116, 111, 114, 101]⟩, .int .u8 117] (by kernel_rfl) ?_
  refine wpList_buildTo rfl 61 _ rfl (some 44) rfl #[.string ⟨#[108, 115, 116, 111, 114, 101]⟩, .int .u8 117] (by kernel_rfl) ?_
  refine wpList_buildTo rfl 61 _ rfl (some 45) rfl #[.string ⟨#[97, 115, 116, 111, 114, 101]⟩, .int .u8 117] (by kernel_rfl) ?_
  refine wpList_buildTo rfl 61 _ rfl (some 46) rfl #[.string ⟨#[105, 115, 116, 111, 114, 101, 95, 48]⟩, .int .u8 45] (by kernel_rfl) ?_
  refine wpList_buildTo rfl 61 _ rfl (some 47) rfl #[.string ⟨#[105, 115, 116, 111, 114, 101, 95, 49]⟩, .int .u8 45] (by kernel_rfl) ?_
  refine wpList_buildTo rfl 61 _ rfl (some 48) rfl #[.string ⟨#[105, 115, 116, 111, 114, 101, 95, 50]⟩, .int .u8 45] (by kernel_rfl) ?_
  refine wpList_buildTo rfl 61 _ rfl (some 49) rfl #[.string ⟨#[105, 115, 116, 111, 114, 101, 95, 51]⟩, .int .u8 45] (by kernel_rfl) ?_
  refine wpList_buildTo rfl 61 _ rfl (some 50) rfl #[.string ⟨#[108, 115, 116, 111, 114, 101, 95, 48]⟩, .int .u8 45] (by kernel_rfl) ?_
  refine wpList_buildTo rfl 61 _ rfl (some 51) rfl #[.string ⟨#[108, 115, 116, 111, 114, 101, 95, 49]⟩, .int .u8 45] (by kernel_rfl) ?_
  refine wpList_buildTo rfl 61 _ rfl (some 52) rfl #[.string ⟨#[108, 115, 116, 111, 114, 101, 95, 50]⟩, .int .u8 45] (by kernel_rfl) ?_
  refine wpList_buildTo rfl 61 _ rfl (some 53) rfl #[.string ⟨#[108, 115, 116, 111, 114, 101, 95, 51]⟩, .int .u8 45] (by kernel_rfl) ?_
  refine wpList_buildTo rfl 61 _ rfl (some 54) rfl #[.string ⟨#[97, 115, 116, 111, 114, 101, 95, 48]⟩, .int .u8 45] (by kernel_rfl) ?_
  refine wpList_buildTo rfl 61 _ rfl (some 55) rfl #[.string ⟨#[97, 115, 116, 111, 114, 101, 95, 49]⟩, .int .u8 45] (by kernel_rfl) ?_
  refine wpList_buildTo rfl 61 _ rfl (some 56) rfl #[.string ⟨#[97, 115, 116, 111, 114, 101, 95, 50]⟩, .int .u8 45] (by kernel_rfl) ?_
  refine wpList_buildTo rfl 61 _ rfl (some 57) rfl #[.string ⟨#[97, 115, 116, 111, 114, 101, 95, 51]⟩, .int .u8 45] (by kernel_rfl) ?_
  refine wpList_buildTo rfl 61 _ rfl (some 58) rfl #[.string ⟨#[105, 97, 115, 116, 111, 114, 101]⟩, .int .u8 45] (by kernel_rfl) ?_
  refine wpList_buildTo rfl 61 _ rfl (some 59) rfl #[.string ⟨#[108, 97, 115, 116, 111, 114, 101]⟩, .int .u8 45] (by kernel_rfl) ?_
  refine wpList_buildTo rfl 61 _ rfl (some 60) rfl #[.string ⟨#[97, 97, 115, 116, 111, 114, 101]⟩, .int .u8 45] (by kernel_rfl) ?_
  refine wpList_buildTo rfl 61 _ rfl (some 61) rfl #[.string ⟨#[112, 111, 112]⟩, .int .u8 45] (by kernel_rfl) ?_
  refine wpList_buildTo rfl 61 _ rfl (some 62) rfl #[.string ⟨#[100, 117, 112]⟩, .int .u8 45] (by kernel_rfl) ?_
  refine wpList_buildTo rfl 61 _ rfl (some 63) rfl #[.string ⟨#[100, 117, 112, 95, 120, 49]⟩, .int .u8 45] (by kernel_rfl) ?_
  refine wpList_buildTo rfl 61 _ rfl (some 64) rfl #[.string ⟨#[115, 119, 97, 112]⟩, .int .u8 45] (by kernel_rfl) ?_
  refine wpList_buildTo rfl 61 _ rfl (some 65) rfl #[.string ⟨#[105, 97, 100, 100]⟩, .int .u8 45] (by kernel_rfl) ?_
  refine wpList_buildTo rfl 61 _ rfl (some 66) rfl #[.string ⟨#[108, 97, 100, 100]⟩, .int .u8 45] (by kernel_rfl) ?_
  refine wpList_buildTo rfl 61 _ rfl (some 67) rfl #[.string ⟨#[105, 115, 117, 98]⟩, .int .u8 45] (by kernel_rfl) ?_
  refine wpList_buildTo rfl 61 _ rfl (some 68) rfl #[.string ⟨#[108, 115, 117, 98]⟩, .int .u8 45] (by kernel_rfl) ?_
  refine wpList_buildTo rfl 61 _ rfl (some 69) rfl #[.string ⟨#[105, 109, 117, 108]⟩, .int .u8 45] (by kernel_rfl) ?_
  refine wpList_buildTo rfl 61 _ rfl (some 70) rfl #[.string ⟨#[108, 109, 117, 108]⟩, .int .u8 45] (by kernel_rfl) ?_
  refine wpList_buildTo rfl 61 _ rfl (some 71) rfl #[.string ⟨#[105, 100, 105, 118]⟩, .int .u8 45] (by kernel_rfl) ?_
  refine wpList_buildTo rfl 61 _ rfl (some 72) rfl #[.string ⟨#[108, 100, 105, 118]⟩, .int .u8 45] (by kernel_rfl) ?_
  refine wpList_buildTo rfl 61 _ rfl (some 73) rfl #[.string ⟨#[105, 114, 101, 109]⟩, .int .u8 45] (by kernel_rfl) ?_
  refine wpList_buildTo rfl 61 _ rfl (some 74) rfl #[.string ⟨#[108, 114, 101, 109]⟩, .int .u8 45] (by kernel_rfl) ?_
  refine wpList_buildTo rfl 61 _ rfl (some 75) rfl #[.string ⟨#[105, 110, 101, 103]⟩, .int .u8 45] (by kernel_rfl) ?_
  refine wpList_buildTo rfl 61 _ rfl (some 76) rfl #[.string ⟨#[108, 110, 101, 103]⟩, .int .u8 45] (by kernel_rfl) ?_
  refine wpList_buildTo rfl 61 _ rfl (some 77) rfl #[.string ⟨#[105, 115, 104, 108]⟩, .int .u8 45] (by kernel_rfl) ?_
  refine wpList_buildTo rfl 61 _ rfl (some 78) rfl #[.string ⟨#[108, 115, 104, 108]⟩, .int .u8 45] (by kernel_rfl) ?_
  refine wpList_buildTo rfl 61 _ rfl (some 79) rfl #[.string ⟨#[105, 115, 104, 114]⟩, .int .u8 45] (by kernel_rfl) ?_
  refine wpList_buildTo rfl 61 _ rfl (some 80) rfl #[.string ⟨#[108, 115, 104, 114]⟩, .int .u8 45] (by kernel_rfl) ?_
  refine wpList_buildTo rfl 61 _ rfl (some 81) rfl #[.string ⟨#[105, 117, 115, 104, 114]⟩, .int .u8 45] (by kernel_rfl) ?_
  refine wpList_buildTo rfl 61 _ rfl (some 82) rfl #[.string ⟨#[108, 117, 115, 104, 114]⟩, .int .u8 45] (by kernel_rfl) ?_
  refine wpList_buildTo rfl 61 _ rfl (some 83) rfl #[.string ⟨#[105, 97, 110, 100]⟩, .int .u8 45] (by kernel_rfl) ?_
  refine wpList_buildTo rfl 61 _ rfl (some 84) rfl #[.string ⟨#[108, 97, 110, 100]⟩, .int .u8 45] (by kernel_rfl) ?_
  refine wpList_buildTo rfl 61 _ rfl (some 85) rfl #[.string ⟨#[105, 111, 114]⟩, .int .u8 45] (by kernel_rfl) ?_
  refine wpList_buildTo rfl 61 _ rfl (some 86) rfl #[.string ⟨#[108, 111, 114]⟩, .int .u8 45] (by kernel_rfl) ?_
  refine wpList_buildTo rfl 61 _ rfl (some 87) rfl #[.string ⟨#[105, 120, 111, 114]⟩, .int .u8 45] (by kernel_rfl) ?_
  refine wpList_buildTo rfl 61 _ rfl (some 88) rfl #[.string ⟨#[108, 120, 111, 114]⟩, .int .u8 45] (by kernel_rfl) ?_
  refine wpList_buildTo rfl 61 _ rfl (some 89) rfl #[.string ⟨#[105, 105, 110, 99]⟩, .int .u8 105] (by kernel_rfl) ?_
  refine wpList_buildTo rfl 61 _ rfl (some 90) rfl #[.string ⟨#[105, 50, 108]⟩, .int .u8 45] (by kernel_rfl) ?_
  refine wpList_buildTo rfl 61 _ rfl (some 91) rfl #[.string ⟨#[108, 50, 105]⟩, .int .u8 45] (by kernel_rfl) ?_
  refine wpList_buildTo rfl 61 _ rfl (some 92) rfl #[.string ⟨#[108, 99, 109, 112]⟩, .int .u8 45] (by kernel_rfl) ?_
  refine wpList_buildTo rfl 61 _ rfl (some 93) rfl #[.string ⟨#[105, 102, 101, 113]⟩, .int .u8 116] (by kernel_rfl) ?_
  refine wpList_buildTo rfl 61 _ rfl (some 94) rfl #[.string ⟨#[105, 102, 110, 101]⟩, .int .u8 116] (by kernel_rfl) ?_
  refine wpList_buildTo rfl 61 _ rfl (some 95) rfl #[.string ⟨#[105, 102, 108, 116]⟩, .int .u8 116] (by kernel_rfl) ?_
  refine wpList_buildTo rfl 61 _ rfl (some 96) rfl #[.string ⟨#[105, 102, 103, 101]⟩, .int .u8 116] (by kernel_rfl) ?_
  refine wpList_buildTo rfl 61 _ rfl (some 97) rfl #[.string ⟨#[105, 102, 103, 116]⟩, .int .u8 116] (by kernel_rfl) ?_
  refine wpList_buildTo rfl 61 _ rfl (some 98) rfl #[.string ⟨#[105, 102, 108, 101]⟩, .int .u8 116] (by kernel_rfl) ?_
  refine wpList_buildTo rfl 61 _ rfl (some 99) rfl #[.string ⟨#[105, 102, 95, 105, 99, 109, 112, 101, 113]⟩, .int .u8 116] (by kernel_rfl) ?_
  refine wpList_buildTo rfl 61 _ rfl (some 100) rfl #[.string ⟨#[105, 102, 95, 105, 99, 109, 112, 110, 101]⟩, .int .u8 116] (by kernel_rfl) ?_
  refine wpList_buildTo rfl 61 _ rfl (some 101) rfl #[.string ⟨#[105, 102, 95, 105, 99, 109, 112, 108, 116]⟩, .int .u8 116] (by kernel_rfl) ?_
  refine wpList_buildTo rfl 61 _ rfl (some 102) rfl #[.string ⟨#[105, 102, 95, 105, 99, 109, 112, 103, 101]⟩, .int .u8 116] (by kernel_rfl) ?_
  refine wpList_buildTo rfl 61 _ rfl (some 103) rfl #[.string ⟨#[105, 102, 95, 105, 99, 109, 112, 103, 116]⟩, .int .u8 116] (by kernel_rfl) ?_
  refine wpList_buildTo rfl 61 _ rfl (some 104) rfl #[.string ⟨#[105, 102, 95, 105, 99, 109, 112, 108, 101]⟩, .int .u8 116] (by kernel_rfl) ?_
  refine wpList_buildTo rfl 61 _ rfl (some 105) rfl #[.string ⟨#[105, 102, 95, 97, 99, 109, 112, 101, 113]⟩, .int .u8 116] (by kernel_rfl) ?_
  refine wpList_buildTo rfl 61 _ rfl (some 106) rfl #[.string ⟨#[105, 102, 95, 97, 99, 109, 112, 110, 101]⟩, .int .u8 116] (by kernel_rfl) ?_
  refine wpList_buildTo rfl 61 _ rfl (some 107) rfl #[.string ⟨#[103, 111, 116, 111]⟩, .int .u8 116] (by kernel_rfl) ?_
  refine wpList_buildTo rfl 61 _ rfl (some 108) rfl #[.string ⟨#[105, 114, 101, 116, 117, 114, 110]⟩, .int .u8 45] (by kernel_rfl) ?_
  refine wpList_buildTo rfl 61 _ rfl (some 109) rfl #[.string ⟨#[108, 114, 101, 116, 117, 114, 110]⟩, .int .u8 45] (by kernel_rfl) ?_
  refine wpList_buildTo rfl 61 _ rfl (some 110) rfl #[.string ⟨#[97, 114, 101, 116, 117, 114, 110]⟩, .int .u8 45] (by kernel_rfl) ?_
  refine wpList_buildTo rfl 61 _ rfl (some 111) rfl #[.string ⟨#[114, 101, 116, 117, 114, 110]⟩, .int .u8 45] (by kernel_rfl) ?_
  refine wpList_buildTo rfl 61 _ rfl (some 112) rfl #[.string ⟨#[103, 101, 116, 115, 116, 97, 116, 105, 99]⟩, .int .u8 99] (by kernel_rfl) ?_
  refine wpList_buildTo rfl 61 _ rfl (some 113) rfl #[.string ⟨#[112, 117, 116, 115, 116, 97, 116, 105, 99]⟩, .int .u8 99] (by kernel_rfl) ?_
  refine wpList_buildTo rfl 61 _ rfl (some 114) rfl #[.string ⟨#[103, 101, 116, 102, 105, 101, 108, 100]⟩, .int .u8 99] (by kernel_rfl) ?_
  refine wpList_buildTo rfl 61 _ rfl (some 115) rfl #[.string ⟨#[112, 117, 116, 102, 105, 101, 108, 100]⟩, .int .u8 99] (by kernel_rfl) ?_
  refine wpList_buildTo rfl 61 _ rfl (some 116) rfl #[.string ⟨#[105, 110, 118, 111, 107, 101, 118, 105, 114, 116, 117, 97, 108]⟩, .int .u8 99] (by kernel_rfl) ?_
  refine wpList_buildTo rfl 61 _ rfl (some 117) rfl #[.string ⟨#[105, 110, 118, 111, 107, 101, 115, 112, 101, 99, 105, 97, 108]⟩, .int .u8 99] (by kernel_rfl) ?_
  refine wpList_buildTo rfl 61 _ rfl (some 118) rfl #[.string ⟨#[105, 110, 118, 111, 107, 101, 115, 116, 97, 116, 105, 99]⟩, .int .u8 99] (by kernel_rfl) ?_
  refine wpList_buildTo rfl 61 _ rfl (some 119) rfl #[.string ⟨#[110, 101, 119]⟩, .int .u8 99] (by kernel_rfl) ?_
  refine wpList_buildTo rfl 61 _ rfl (some 120) rfl #[.string ⟨#[110, 101, 119, 97, 114, 114, 97, 121]⟩, .int .u8 117] (by kernel_rfl) ?_
  refine wpList_buildTo rfl 61 _ rfl (some 121) rfl #[.string ⟨#[97, 110, 101, 119, 97, 114, 114, 97, 121]⟩, .int .u8 99] (by kernel_rfl) ?_
  refine wpList_buildTo rfl 61 _ rfl (some 122) rfl #[.string ⟨#[97, 114, 114, 97, 121, 108, 101, 110, 103, 116, 104]⟩, .int .u8 45] (by kernel_rfl) ?_
  refine wpList_buildTo rfl 61 _ rfl (some 123) rfl #[.string ⟨#[97, 116, 104, 114, 111, 119]⟩, .int .u8 45] (by kernel_rfl) ?_
  refine wpList_buildTo rfl 61 _ rfl (some 124) rfl #[.string ⟨#[99, 104, 101, 99, 107, 99, 97, 115, 116]⟩, .int .u8 99] (by kernel_rfl) ?_
  refine wpList_buildTo rfl 61 _ rfl (some 125) rfl #[.string ⟨#[105, 110, 115, 116, 97, 110, 99, 101, 111, 102]⟩, .int .u8 99] (by kernel_rfl) ?_
  refine wpList_buildTo rfl 61 _ rfl (some 126) rfl #[.string ⟨#[109, 111, 110, 105, 116, 111, 114, 101, 110, 116, 101, 114]⟩, .int .u8 45] (by kernel_rfl) ?_
  refine wpList_buildTo rfl 61 _ rfl (some 127) rfl #[.string ⟨#[109, 111, 110, 105, 116, 111, 114, 101, 120, 105, 116]⟩, .int .u8 45] (by kernel_rfl) ?_
  refine wpList_buildTo rfl 61 _ rfl (some 128) rfl #[.string ⟨#[105, 102, 110, 117, 108, 108]⟩, .int .u8 116] (by kernel_rfl) ?_
  refine wpList_buildTo rfl 61 _ rfl (some 129) rfl #[.string ⟨#[105, 102, 110, 111, 110, 110, 117, 108, 108]⟩, .int .u8 116] (by kernel_rfl) ?_
  refine wpList_buildTo rfl 64 _ rfl (some 130) rfl arrCells (by kernel_rfl) ?_
  refine wpList_readTo rfl (some 131) rfl (.int .i64 op) (by kernel_rfl) ?_
  refine wpList_indexTo rfl (some 132) rfl 64 (.tmp 130) (.tmp 131) rfl (.agg arrCells) (.int .i64 op) (.agg #[.string (nameK op), .int .u8 (shapeK op)]) (by kernel_rfl) (by kernel_rfl) HRUN.out ?_
  refine wpList_store_rowTo rfl 61 (.tmp 2) (.tmp 132) rfl rfl w.heap.size #[.string (nameK op), .int .u8 (shapeK op)] (by kernel_rfl) (by kernel_rfl) 61 #[.string ⟨#[]⟩, .int .u8 0] HB.out size_pcode rfl (by simp [Value.oneCell']) ?_
  refine hK _ _ ?_
  clear hK K
  refine code_ret (b := w.heap.size) (cs := #[.string (nameK op), .int .u8 (shapeK op)]) (by kernel_rfl) (by kernel_rfl) (setRow_heap _ _ _ _ _ _ HB.out) rfl ⟨rfl, HO.out.setRow (fun hx => absurd hx (Nat.lt_irrefl _)) _⟩

theorem progCode (op : Int) (w : World) :
    Calls Try.prog 34 #[.int .i64 op] w fun e w' => e = .returned (.agg #[.string (nameK op), .int .u8 (shapeK op)]) ∧ Only (fun _ => False) w w' := by
  by_cases h : op < 0 ∨ 200 ≤ op
  · have hn := shape_none (codeOf_far h)
    rw [hn.1, hn.2.2]
    exact progCodeFar op w h
  · exact progCodeIn op w (by omega) (by omega)
end Go.Proofs.Ytmgglicfhddmpaa
