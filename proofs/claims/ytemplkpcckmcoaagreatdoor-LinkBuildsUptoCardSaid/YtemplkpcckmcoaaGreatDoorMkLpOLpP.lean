import Derived.Test.YtemplkpcckmcoaaGreatDoorMkKndLLpA
import Derived.Lib.SliceRun
import Derived.Deep.RegionHeld3
import Derived.Test.YtemplkpcckmcoaaGreatDoorMkSepMem
import Derived.Test.YtemplkpcckmcoaaGreatDoorMkLnkILnkN
namespace Go.Proofs.YtemplkpcckmcoaaGreatDoor
set_option maxHeartbeats 8000000
open Lib (hid)
open Go.RowKit Go.Maps
set_option linter.unusedVariables false
set_option linter.unusedSimpArgs false
def CellsAt (w : World) (size : Nat) (cells : Nat → List Value) (b o i : Nat) : Prop := ∀ d, d < size → w.cell? ⟨b, o + i * size + d, none⟩ = (cells i)[d]?
theorem flat_len {α : Type} {size : Nat} {f : α → List Value} (hf : ∀ i, (f i).length = size) : ∀ l : List α, (l.flatMap f).length = l.length * size
 | [] => by simp
 | a :: r => by rw [List.flatMap_cons, List.length_append, hf, flat_len hf r, List.length_cons, Nat.succ_mul]; omega
theorem flat_at {α : Type} [Inhabited α] {size : Nat} {f : α → List Value} (hf : ∀ i, (f i).length = size) : ∀ {l : List α} {i d : Nat}, i < l.length → d < size → (l.flatMap f)[i * size + d]? = (f (l.getD i default))[d]?
 | a :: r, 0, d, _, hd => by
  rw [List.flatMap_cons, List.getElem?_append_left (by rw [hf]; omega)]
  simp
 | a :: r, i + 1, d, hi, hd => by
  rw [List.flatMap_cons, List.getElem?_append_right (by rw [hf, Nat.succ_mul]; omega), hf, show (i + 1) * size + d - size = i * size + d by rw [Nat.succ_mul]; omega, flat_at hf (by simpa using hi) hd]
  simp
theorem range_getD {n i : Nat} (h : i < n) : (List.range n).getD i default = i := by simp [List.getD, h]
theorem Src.of_sl {w : World} {v : Value} {n size : Nat} {cells : Nat → List Value} (h : Sl v n (CellsAt w size cells)) (hsz : ∀ i, (cells i).length = size) (h1 : ∀ i, ∀ u ∈ cells i, u.oneCell' = true) (h0 : 0 < size) : Src w size v n ((List.range n).flatMap cells) := by
 obtain ⟨ao, cap, rfl, p1, p2, p3, p4⟩ := h
 have hlen : ((List.range n).flatMap cells).length = n * size := by rw [flat_len hsz, List.length_range]
 refine ⟨hlen, fun u hu => ?_, ao, cap, rfl, fun e => ⟨by have := p3 e; omega, p3 e⟩, fun ad hd j u hj => ?_⟩
 ·obtain ⟨i, _, hc⟩ := List.mem_flatMap.1 hu
  exact h1 i u hc
 ·have hjl : j < n * size := by rw [← hlen]; exact (List.getElem?_eq_some_iff.1 hj).1
  have hn : 0 < n := Nat.pos_of_ne_zero (fun e => by subst e; simp at hjl)
  obtain ⟨b, o, rfl, hc⟩ := p4 ad hd hn
  have hi : j / size < n := Nat.div_lt_of_lt_mul (by rw [Nat.mul_comm]; exact hjl)
  have hm : j % size < size := Nat.mod_lt _ h0
  have hjd : j / size * size + j % size = j := by rw [Nat.mul_comm]; exact Nat.div_add_mod j size
  have hat := flat_at (l := List.range n) hsz (i := j / size) (d := j % size) (by rw [List.length_range]; exact hi) hm
  rw [hjd, hj, range_getD hi] at hat
  rw [add_lit, ← hjd, show o + (j / size * size + j % size) = o + j / size * size + j % size by omega, hc _ hi _ hm, hat]
theorem owns_sl {w : World} {B : Nat} {e : TypeId} {v : Value} {n size : Nat} {cells : Nat → List Value} (h : w.ownsRow B e size v n ((List.range n).flatMap cells)) (hsz : ∀ i, (cells i).length = size) : Sl v n (fun b o i => CellsAt w size cells b o i ∧ B ≤ b ∧ b < w.heap.size) := by
 have hlt := fun k hk => World.ownsRow.lt h k hk
 rcases h.2 with ⟨rfl, rfl⟩ | ⟨g, cap, cur, rfl, hb, hg, hnc, hcm, hcs, htake⟩
 ·exact Sl.nil _
 ·refine ⟨_, cap, rfl, hnc, by unfold maxLen at hcm; omega, (fun e => by cases e), fun x hx _ => ?_⟩
  cases hx
  refine ⟨g, 0, rfl, fun i hi => ⟨fun d hd => ?_, hb, heap_lt hg⟩⟩
  have hat := flat_at (l := List.range n) hsz (i := i) (d := d) (by rw [List.length_range]; exact hi) hd
  rw [range_getD hi] at hat
  rw [Nat.zero_add, ← hat]
  have hle : i * size + d < n * size := by
   have : (i + 1) * size ≤ n * size := Nat.mul_le_mul_right _ hi
   rw [Nat.succ_mul] at this
   omega
  exact h.cellAt (g := g) (cap := cap) (i * size + d) hle
def CopyTo (w : World) (T : TypeId) (size n : Nat) (cells : Nat → List Value) (e : Ending) (w' : World) : Prop :=
 ∃ v', e = .returned v' ∧ Sl v' n (fun b o i => CellsAt w' size cells b o i ∧ w.heap.size ≤ b ∧ b < w'.heap.size) ∧ (∀ k, v'.ownBlock = some k → w.heap.size ≤ k ∧ k < w'.heap.size) ∧ Only (fun _ => False) w w' ∧ w'.ownsRow w.heap.size T size v' n ((List.range n).flatMap cells)
theorem info_CConst : (Tryz.prog.info? 145).map (fun i => (i.zero, i.size, i.bytes)) = some (some (.agg #[.int .i64 0, .string ⟨#[]⟩, .int .i64 0, .int .i64 0, .int .i64 0]), 5, 48) := by kernel_rfl
set_option maxRecDepth 100000 in
theorem copyCConst (v : Value) (n : Nat) (cells : Nat → List Value) (w : World) (h : Sl v n (CellsAt w 5 cells)) (hsz : ∀ i, (cells i).length = 5) (h1 : ∀ i, ∀ u ∈ cells i, u.oneCell' = true) (hn : n ≤ 1048576) :
  Calls Tryz.prog 92 #[v] w (CopyTo w 145 5 n cells) := by
 have hnil := fun (w : World) (a : Option Addr) (n c : Nat) => Lib.run_eql_slice_nil (P := Tryz.prog) w 33 145 a n c 0 0 Tryz.underlying33
 obtain ⟨i0, hi, hz0, hz1, hz2⟩ := info_parts info_CConst
 have hsrc := Src.of_sl h hsz h1 (by decide)
 obtain ⟨ao, cap, rfl, p1, p2, p3, -⟩ := h
 cases ao with
 | none =>
  obtain rfl : cap = 0 := p3 rfl
  obtain rfl : n = 0 := by omega
  clear hsrc
  go_enter Tryz.func92, Tryz.ntmps92
  go_wp2
  go_ret
  exact ⟨_, rfl, Sl.nil _, fun k hk => (by cases hk), Only.refl _ _, World.ownsRow_nil _ _ _ _⟩
 | some x =>
  have ho1 := (Only.refl (fun _ => False) w).alloc (.cells #[] 145)
  have hown0 : (w.alloc (.cells #[] 145)).ownsRow w.heap.size 145 5 (.slice (some ⟨w.heap.size, 0, none⟩) 0 0) 0 [] := World.ownsRow_made _ #[] 0 (Nat.le_refl _) (Nat.zero_le _) rfl
  have HSRC := hid (hsrc.alloc (.cells #[] 145))
  have HOWN := hid hown0
  have HO := hid ho1
  have HSZ := hid hsz
  clear hsrc hown0 ho1 p3 hsz h1
  go_enter Tryz.func92, Tryz.ntmps92
  go_wp2_with (at_builtin; go_loud (refine wpList_append_src rfl (.tmp 5) (.tmp 6) 33 rfl 145 i0 (.agg #[.int .i64 0, .string ⟨#[]⟩, .int .i64 0, .int .i64 0, .int .i64 0]) 5 48 Tryz.underlying33 hi hz0 hz1 hz2 rfl (by decide) w.heap.size (.slice (some ⟨w.heap.size, 0, none⟩) 0 0) 0 [] rfl (by exact HOWN.out) (by exact HO.out.size) (.slice (some x) n cap) n ((List.range n).flatMap cells) rfl (by exact HSRC.out) (by unfold maxLen; omega) (by omega) ?_); intro v' w5 hown hgrow hnew; have hos := only_grownT hgrow; have hon6 := HO.out.trans hos (fun j hj hl => by have e : w.heap.size = j := Option.some.inj hj; omega); have HO6 := hid hon6; have HOWN6 := hid (show w5.ownsRow w.heap.size 145 5 v' n ((List.range n).flatMap cells) by have := hown; rw [Nat.zero_add, List.nil_append] at this; exact this); clear hown hgrow hnew hos hon6)
  go_ret
  exact ⟨_, rfl, owns_sl HOWN6.out HSZ.out, fun k hk => World.ownsRow.lt HOWN6.out k hk, HO6.out, HOWN6.out⟩
theorem info_CField : (Tryz.prog.info? 112).map (fun i => (i.zero, i.size, i.bytes)) = some (some (.agg #[.int .i64 0, .int .i64 0, .int .i64 0]), 3, 24) := by kernel_rfl
set_option maxRecDepth 100000 in
theorem copyCField (v : Value) (n : Nat) (cells : Nat → List Value) (w : World) (h : Sl v n (CellsAt w 3 cells)) (hsz : ∀ i, (cells i).length = 3) (h1 : ∀ i, ∀ u ∈ cells i, u.oneCell' = true) (hn : n ≤ 1048576) :
  Calls Tryz.prog 93 #[v] w (CopyTo w 112 3 n cells) := by
 have hnil := fun (w : World) (a : Option Addr) (n c : Nat) => Lib.run_eql_slice_nil (P := Tryz.prog) w 34 112 a n c 0 0 Tryz.underlying34
 obtain ⟨i0, hi, hz0, hz1, hz2⟩ := info_parts info_CField
 have hsrc := Src.of_sl h hsz h1 (by decide)
 obtain ⟨ao, cap, rfl, p1, p2, p3, -⟩ := h
 cases ao with
 | none =>
  obtain rfl : cap = 0 := p3 rfl
  obtain rfl : n = 0 := by omega
  clear hsrc
  go_enter Tryz.func93, Tryz.ntmps93
  go_wp2
  go_ret
  exact ⟨_, rfl, Sl.nil _, fun k hk => (by cases hk), Only.refl _ _, World.ownsRow_nil _ _ _ _⟩
 | some x =>
  have ho1 := (Only.refl (fun _ => False) w).alloc (.cells #[] 112)
  have hown0 : (w.alloc (.cells #[] 112)).ownsRow w.heap.size 112 3 (.slice (some ⟨w.heap.size, 0, none⟩) 0 0) 0 [] := World.ownsRow_made _ #[] 0 (Nat.le_refl _) (Nat.zero_le _) rfl
  have HSRC := hid (hsrc.alloc (.cells #[] 112))
  have HOWN := hid hown0
  have HO := hid ho1
  have HSZ := hid hsz
  clear hsrc hown0 ho1 p3 hsz h1
  go_enter Tryz.func93, Tryz.ntmps93
  go_wp2_with (at_builtin; go_loud (refine wpList_append_src rfl (.tmp 5) (.tmp 6) 34 rfl 112 i0 (.agg #[.int .i64 0, .int .i64 0, .int .i64 0]) 3 24 Tryz.underlying34 hi hz0 hz1 hz2 rfl (by decide) w.heap.size (.slice (some ⟨w.heap.size, 0, none⟩) 0 0) 0 [] rfl (by exact HOWN.out) (by exact HO.out.size) (.slice (some x) n cap) n ((List.range n).flatMap cells) rfl (by exact HSRC.out) (by unfold maxLen; omega) (by omega) ?_); intro v' w5 hown hgrow hnew; have hos := only_grownT hgrow; have hon6 := HO.out.trans hos (fun j hj hl => by have e : w.heap.size = j := Option.some.inj hj; omega); have HO6 := hid hon6; have HOWN6 := hid (show w5.ownsRow w.heap.size 112 3 v' n ((List.range n).flatMap cells) by have := hown; rw [Nat.zero_add, List.nil_append] at this; exact this); clear hown hgrow hnew hos hon6)
  go_ret
  exact ⟨_, rfl, owns_sl HOWN6.out HSZ.out, fun k hk => World.ownsRow.lt HOWN6.out k hk, HO6.out, HOWN6.out⟩
theorem info_CTrap : (Tryz.prog.info? 149).map (fun i => (i.zero, i.size, i.bytes)) = some (some (.agg #[.int .i64 0, .int .i64 0, .int .i64 0, .int .i64 0]), 4, 32) := by kernel_rfl
set_option maxRecDepth 100000 in
theorem copyCTrap (v : Value) (n : Nat) (cells : Nat → List Value) (w : World) (h : Sl v n (CellsAt w 4 cells)) (hsz : ∀ i, (cells i).length = 4) (h1 : ∀ i, ∀ u ∈ cells i, u.oneCell' = true) (hn : n ≤ 1048576) :
  Calls Tryz.prog 119 #[v] w (CopyTo w 149 4 n cells) := by
 have hnil := fun (w : World) (a : Option Addr) (n c : Nat) => Lib.run_eql_slice_nil (P := Tryz.prog) w 77 149 a n c 0 0 Tryz.underlying77
 obtain ⟨i0, hi, hz0, hz1, hz2⟩ := info_parts info_CTrap
 have hsrc := Src.of_sl h hsz h1 (by decide)
 obtain ⟨ao, cap, rfl, p1, p2, p3, -⟩ := h
 cases ao with
 | none =>
  obtain rfl : cap = 0 := p3 rfl
  obtain rfl : n = 0 := by omega
  clear hsrc
  go_enter Tryz.func119, Tryz.ntmps119
  go_wp2
  go_ret
  exact ⟨_, rfl, Sl.nil _, fun k hk => (by cases hk), Only.refl _ _, World.ownsRow_nil _ _ _ _⟩
 | some x =>
  have ho1 := (Only.refl (fun _ => False) w).alloc (.cells #[] 149)
  have hown0 : (w.alloc (.cells #[] 149)).ownsRow w.heap.size 149 4 (.slice (some ⟨w.heap.size, 0, none⟩) 0 0) 0 [] := World.ownsRow_made _ #[] 0 (Nat.le_refl _) (Nat.zero_le _) rfl
  have HSRC := hid (hsrc.alloc (.cells #[] 149))
  have HOWN := hid hown0
  have HO := hid ho1
  have HSZ := hid hsz
  clear hsrc hown0 ho1 p3 hsz h1
  go_enter Tryz.func119, Tryz.ntmps119
  go_wp2_with (at_builtin; go_loud (refine wpList_append_src rfl (.tmp 5) (.tmp 6) 77 rfl 149 i0 (.agg #[.int .i64 0, .int .i64 0, .int .i64 0, .int .i64 0]) 4 32 Tryz.underlying77 hi hz0 hz1 hz2 rfl (by decide) w.heap.size (.slice (some ⟨w.heap.size, 0, none⟩) 0 0) 0 [] rfl (by exact HOWN.out) (by exact HO.out.size) (.slice (some x) n cap) n ((List.range n).flatMap cells) rfl (by exact HSRC.out) (by unfold maxLen; omega) (by omega) ?_); intro v' w5 hown hgrow hnew; have hos := only_grownT hgrow; have hon6 := HO.out.trans hos (fun j hj hl => by have e : w.heap.size = j := Option.some.inj hj; omega); have HO6 := hid hon6; have HOWN6 := hid (show w5.ownsRow w.heap.size 149 4 v' n ((List.range n).flatMap cells) by have := hown; rw [Nat.zero_add, List.nil_append] at this; exact this); clear hown hgrow hnew hos hon6)
  go_ret
  exact ⟨_, rfl, owns_sl HOWN6.out HSZ.out, fun k hk => World.ownsRow.lt HOWN6.out k hk, HO6.out, HOWN6.out⟩
theorem info_CMeth : (Tryz.prog.info? 79).map (fun i => (i.zero, i.size, i.bytes)) = some (some (.agg #[.int .i64 0, .int .i64 0, .int .i64 0, .int .i64 0, .int .i64 0, .slice none 0 0, .slice none 0 0, .slice none 0 0]), 8, 112) := by kernel_rfl
set_option maxRecDepth 100000 in
theorem copyCMeth (v : Value) (n : Nat) (cells : Nat → List Value) (w : World) (h : Sl v n (CellsAt w 8 cells)) (hsz : ∀ i, (cells i).length = 8) (h1 : ∀ i, ∀ u ∈ cells i, u.oneCell' = true) (hn : n ≤ 1048576) :
  Calls Tryz.prog 94 #[v] w (CopyTo w 79 8 n cells) := by
 have hnil := fun (w : World) (a : Option Addr) (n c : Nat) => Lib.run_eql_slice_nil (P := Tryz.prog) w 35 79 a n c 0 0 Tryz.underlying35
 obtain ⟨i0, hi, hz0, hz1, hz2⟩ := info_parts info_CMeth
 have hsrc := Src.of_sl h hsz h1 (by decide)
 obtain ⟨ao, cap, rfl, p1, p2, p3, -⟩ := h
 cases ao with
 | none =>
  obtain rfl : cap = 0 := p3 rfl
  obtain rfl : n = 0 := by omega
  clear hsrc
  go_enter Tryz.func94, Tryz.ntmps94
  go_wp2
  go_ret
  exact ⟨_, rfl, Sl.nil _, fun k hk => (by cases hk), Only.refl _ _, World.ownsRow_nil _ _ _ _⟩
 | some x =>
  have ho1 := (Only.refl (fun _ => False) w).alloc (.cells #[] 79)
  have hown0 : (w.alloc (.cells #[] 79)).ownsRow w.heap.size 79 8 (.slice (some ⟨w.heap.size, 0, none⟩) 0 0) 0 [] := World.ownsRow_made _ #[] 0 (Nat.le_refl _) (Nat.zero_le _) rfl
  have HSRC := hid (hsrc.alloc (.cells #[] 79))
  have HOWN := hid hown0
  have HO := hid ho1
  have HSZ := hid hsz
  clear hsrc hown0 ho1 p3 hsz h1
  go_enter Tryz.func94, Tryz.ntmps94
  go_wp2_with (at_builtin; go_loud (refine wpList_append_src rfl (.tmp 5) (.tmp 6) 35 rfl 79 i0 (.agg #[.int .i64 0, .int .i64 0, .int .i64 0, .int .i64 0, .int .i64 0, .slice none 0 0, .slice none 0 0, .slice none 0 0]) 8 112 Tryz.underlying35 hi hz0 hz1 hz2 rfl (by decide) w.heap.size (.slice (some ⟨w.heap.size, 0, none⟩) 0 0) 0 [] rfl (by exact HOWN.out) (by exact HO.out.size) (.slice (some x) n cap) n ((List.range n).flatMap cells) rfl (by exact HSRC.out) (by unfold maxLen; omega) (by omega) ?_); intro v' w5 hown hgrow hnew; have hos := only_grownT hgrow; have hon6 := HO.out.trans hos (fun j hj hl => by have e : w.heap.size = j := Option.some.inj hj; omega); have HO6 := hid hon6; have HOWN6 := hid (show w5.ownsRow w.heap.size 79 8 v' n ((List.range n).flatMap cells) by have := hown; rw [Nat.zero_add, List.nil_append] at this; exact this); clear hown hgrow hnew hos hon6)
  go_ret
  exact ⟨_, rfl, owns_sl HOWN6.out HSZ.out, fun k hk => World.ownsRow.lt HOWN6.out k hk, HO6.out, HOWN6.out⟩
set_option maxRecDepth 100000 in
theorem copyBytes (v : Value) (zs : List Int) (w : World) (hb : Bytes w v zs) (hl : zs.length ≤ 140737488355327) :
  Calls Tryz.prog 118 #[v] w fun e w' => ∃ v', e = .returned v' ∧ Bytes w' v' zs ∧ (∀ k, v'.ownBlock = some k → w.heap.size ≤ k ∧ k < w'.heap.size) ∧ Only (fun _ => False) w w' := by
 have hnil := fun (w : World) (a : Option Addr) (n c : Nat) => Lib.run_eql_slice_nil (P := Tryz.prog) w 76 5 a n c 0 0 Tryz.underlying76
 obtain ⟨i0, hi, hz0, hz1, hz2⟩ := info_parts info_u8
 have hsrc := Src.of_bytes hb
 obtain ⟨ao, cap, rfl, p1, p2, p3, p4, p5⟩ := id hb
 have hbt := p4
 unfold maxLen at p2
 cases ao with
 | none =>
  obtain rfl : cap = 0 := p3 rfl
  obtain rfl : zs = [] := List.eq_nil_of_length_eq_zero (by omega)
  have HB := hid hb
  clear hsrc hb p5 p4 hbt
  go_enter Tryz.func118, Tryz.ntmps118
  go_wp2
  go_ret
  exact ⟨_, rfl, HB.out, fun k hk => (by cases hk), Only.refl _ _⟩
 | some x =>
  have ho1 := (Only.refl (fun _ => False) w).alloc (.cells #[] 5)
  have hown0 : (w.alloc (.cells #[] 5)).ownsRow w.heap.size 5 1 (.slice (some ⟨w.heap.size, 0, none⟩) 0 0) 0 [] := World.ownsRow_made _ #[] 0 (Nat.le_refl _) (Nat.zero_le _) rfl
  have HSRC := hid (hsrc.alloc (.cells #[] 5))
  have HOWN := hid hown0
  have HO := hid ho1
  have HBT := hid hbt
  clear hsrc hown0 ho1 p3 p4 p5 hb hbt
  go_enter Tryz.func118, Tryz.ntmps118
  go_wp2_with (at_builtin; go_loud (refine wpList_append_src rfl (.tmp 5) (.tmp 6) 76 rfl 5 i0 (.int .u8 0) 1 1 Tryz.underlying76 hi hz0 hz1 hz2 rfl (by decide) w.heap.size (.slice (some ⟨w.heap.size, 0, none⟩) 0 0) 0 [] rfl (by exact HOWN.out) (by exact HO.out.size) (.slice (some x) zs.length cap) zs.length (zs.map (Value.int .u8)) rfl (by exact HSRC.out) (by unfold maxLen; omega) (by omega) ?_); intro v' w5 hown hgrow hnew; have hos := only_grownT hgrow; have hon6 := HO.out.trans hos (fun j hj hl => by have e : w.heap.size = j := Option.some.inj hj; omega); have HO6 := hid hon6; have HOWN6 := hid (show Row w5 w.heap.size v' zs by have := hown; rw [Nat.zero_add, List.nil_append] at this; exact this); clear hown hgrow hnew hos hon6)
  go_ret
  exact ⟨_, rfl, HOWN6.out.bytes HBT.out, fun k hk => HOWN6.out.ge k hk, HO6.out⟩
end Go.Proofs.YtemplkpcckmcoaaGreatDoor
namespace Go.Proofs.YtemplkpcckmcoaaGreatDoor
set_option maxHeartbeats 8000000
open Lib (hid)
open Go
set_option linter.unusedVariables false
section
variable {P : Program} {ops : Array Oper} {Q : Exit → Act → World → Prop} {md : Region.Mode} {S : World → Prop} {x : Nat}
def Till (P : Program) (md : Region.Mode) (ops : Array Oper) (Q : Exit → Act → World → Prop) (S : World → Prop) (x : Nat) : Nat → Array Bool → Act → World → Prop
 | 0, l, a, w => Region.ready md ops l = [] ∧ Q .normal a w
 | n + 1, l, a, w => (Region.ready md ops l = [] → Q .normal a w) ∧ ∀ j, j ∈ Region.ready md ops l →
   wpOp P ops Q j (fun a' w' => ((l.setIfInBounds j true).getD x true = false → S w') ∧ Till P md ops Q S x n (l.setIfInBounds j true) a' w') a w
theorem Till.any {n : Nat} : ∀ {l : Array Bool} {a : Act} {w : World}, Till P md ops Q S x n l a w → wpAny P md ops Q n l a w := by
 induction n with
 | zero => exact fun h => h
 | succ n ih => exact fun h => ⟨h.1, fun j hj => wpOp_mono (fun _ _ k => ih k.2) (h.2 j hj)⟩
def Waits (md : Region.Mode) (ops : Array Oper) (x i : Nat) : Prop := ∃ o, ops[x]? = some o ∧ ∃ e ∈ o.after, Region.binds md e = true ∧ e.on = i
theorem Waits.not_ready {i : Nat} (h : Waits md ops x i) {l : Array Bool} (hi : i ∈ Region.ready md ops l) : x ∉ Region.ready md ops l := fun hx => by
 obtain ⟨o, ho, e, he, hb, rfl⟩ := h
 obtain ⟨-, o', ho', hall⟩ := mem_ready.1 hx
 obtain rfl : o = o' := by rw [ho] at ho'; exact Option.some.inj ho'
 have h1 := hall e he hb
 have h0 := (mem_ready.1 hi).1
 rcases Nat.lt_or_ge e.on l.size with hl | hl
 ·simp [hl] at h0 h1
  rw [h0] at h1
  cases h1
 ·simp [Array.getElem?_eq_none hl] at h1
theorem Till.first {i : Nat} {oi : Oper} {v : Value} (hi : ops[i]? = some oi) (hsel : ∀ (j : Nat) (o : Oper) cs b, ops[j]? = some o → o.op ≠ .select cs b) {Cl : Array Bool → Prop} (hw : ∀ l, Cl l → i ∈ Region.ready md ops l → x ∉ Region.ready md ops l) (hcl : ∀ l j, Cl l → j ∈ Region.ready md ops l → Cl (l.setIfInBounds j true))
  (hQ : ∀ c a w, Q (.panic c) (a.put oi.dst v) w → Q (.panic c) a w) (n : Nat) : ∀ (l : Array Bool) (a : Act) (w : World), Cl l → l.getD x true = false →
  (∀ j oj, ops[j]? = some oj → j ≠ i → l.getD j true = false → (∀ e ∈ oj.after, Region.binds md e = true → e.on ≠ i) → oi.apart ops oj = true) →
  i ∈ Region.ready md ops l → YieldsIf P ops S oi v a → S w → Till P md ops Q S x n (l.setIfInBounds i true) (a.put oi.dst v) w → Till P md ops Q S x (n + 1) l a w := by
 induction n with
 | zero =>
  intro l a w _ _ _ hr hy hS H
  refine ⟨fun e => (by rw [e] at hr; cases hr), fun j hj => ?_⟩
  rcases Nat.decEq j i with hji | hji
  ·have := ready_mono hj hji
   rw [H.1] at this
   cases this
  ·subst hji
   exact hy.wpOp hi hS ⟨fun _ => hS, H⟩
 | succ n ih =>
  intro l a w hc hx hap hr hy hS H
  refine ⟨fun e => (by rw [e] at hr; cases hr), fun j hj => ?_⟩
  rcases Nat.decEq j i with hji | hji
  ·have hjx : j ≠ x := fun e => hw l hc hr (e ▸ hj)
   have hix : i ≠ x := fun e => hw l hc hr (e ▸ hr)
   obtain ⟨hjl, oj, hoj, hall⟩ := mem_ready.1 hj
   have hno : ∀ e ∈ oj.after, Region.binds md e = true → e.on ≠ i := fun e he hb h => Waits.not_ready (x := j) ⟨oj, hoj, e, he, hb, h⟩ hr hj
   refine wpOp_mono (fun a' w' k => ?_) (wpOp_putIf hoj (hap j oj hoj hji hjl hno) (fun cs b => hsel i oi cs b hi) (fun cs b => hsel j oj cs b hoj) hQ hy (H.2 j (ready_mono hj hji)))
   obtain ⟨k1, k2, k3⟩ := k
   have hxl : (l.setIfInBounds j true).getD x true = false := by rw [getD_set_ne true hjx]; exact hx
   have hS' : S w' := k2 (by rw [getD_set_ne true hjx, getD_set_ne true hix]; exact hx)
   refine ⟨fun _ => hS', ih _ a' w' (hcl l j hc hj) hxl (fun m om hom hmi hml hm => ?_) (ready_mono hr (Ne.symm hji)) k1 hS' (by rw [Array.setIfInBounds_comm _ _ hji]; exact k3)⟩
   rcases Nat.decEq j m with hjm | hjm
   ·exact hap m om hom hmi (by rw [getD_set_ne true hjm] at hml; exact hml) hm
   ·subst hjm
    exact hap j om hom hmi hjl hm
  ·subst hji
   exact hy.wpOp hi hS ⟨fun _ => hS, H⟩
def waitsB (md : Region.Mode) (ops : Array Oper) (x i : Nat) : Bool := match ops[x]? with
 | some o => o.after.any (fun e => Region.binds md e && e.on == i)
 | none => false
theorem waits_of {i : Nat} (h : waitsB md ops x i = true) : Waits md ops x i := by
 unfold waitsB at h
 split at h
 ·rename_i o ho
  obtain ⟨e, he, hb⟩ := Array.any_eq_true'.1 h
  simp only [Bool.and_eq_true, beq_iff_eq] at hb
  exact ⟨o, ho, e, he, hb.1, hb.2⟩
 ·cases h
theorem Till.take {i : Nat} {oi : Oper} {v : Value} {n : Nat} {l : Array Bool} {a : Act} {w : World} (hi : ops[i]? = some oi) (hs : Region.noSelect ops = true) (hf : Region.free md ops l i = true) (hr : (Region.ready md ops l).contains i = true)
  (hw : waitsB md ops x i = true) (hx : l.getD x true = false) (hQ : ∀ c a w, Q (.panic c) (a.put oi.dst v) w → Q (.panic c) a w) (hy : YieldsIf P ops S oi v a) (hS : S w)
  (h : Till P md ops Q S x n (l.setIfInBounds i true) (a.put oi.dst v) w) : Till P md ops Q S x (n + 1) l a w :=
 Till.first (Cl := fun _ => True) hi (Region.noSelect_spec hs) (fun _ _ h => (waits_of hw).not_ready h) (fun _ _ _ _ => trivial) hQ n l a w trivial hx (Region.free_spec hi hf) (by simpa using hr) hy hS h
def Closed (md : Region.Mode) (ops : Array Oper) (l : Array Bool) : Prop := ∀ j o, ops[j]? = some o → l.getD j false = true → ∀ e ∈ o.after, Region.binds md e = true → l.getD e.on false = true
theorem Closed.step {l : Array Bool} (h : Closed md ops l) {j : Nat} (hj : j ∈ Region.ready md ops l) : Closed md ops (l.setIfInBounds j true) := fun k o ho hk e he hb => by
 rcases Nat.decEq j k with hjk | hjk
 ·rw [getD_set_ne false hjk] at hk
  exact getD_set_true (h k o ho hk e he hb)
 ·subst hjk
  obtain ⟨-, o', ho', hall⟩ := mem_ready.1 hj
  obtain rfl : o = o' := by rw [ho] at ho'; exact Option.some.inj ho'
  exact getD_set_true (hall e he hb)
def closedB (md : Region.Mode) (ops : Array Oper) (l : Array Bool) : Bool := (List.range ops.size).all fun j => match ops[j]? with
 | some o => !(l.getD j false) || o.after.all (fun e => !(Region.binds md e) || l.getD e.on false)
 | none => true
theorem closed_of {l : Array Bool} (h : closedB md ops l = true) : Closed md ops l := fun j o ho hj e he hb => by
 unfold closedB at h
 rw [List.all_eq_true] at h
 have h1 := h j (List.mem_range.2 (Array.getElem?_eq_some_iff.1 ho).1)
 rw [ho] at h1
 simp only [hj, Bool.not_true, Bool.false_or] at h1
 have h2 := Array.all_eq_true_iff_forall_mem.1 h1 e he
 simpa [hb] using h2
def pathB (md : Region.Mode) (ops : Array Oper) (i : Nat) : Nat → List Nat → Bool
 | x, [] => waitsB md ops x i
 | x, j :: r => waitsB md ops x j && pathB md ops i j r
theorem path_listed {i : Nat} {l : Array Bool} (hc : Closed md ops l) : ∀ {r : List Nat} {x : Nat}, pathB md ops i x r = true → l.getD x false = true → l.getD i false = true
 | [], x, h, hx => by
  obtain ⟨o, ho, e, he, hb, rfl⟩ := waits_of h
  exact hc x o ho hx e he hb
 | j :: r, x, h, hx => by
  unfold pathB at h
  rw [Bool.and_eq_true] at h
  obtain ⟨o, ho, e, he, hb, rfl⟩ := waits_of h.1
  exact path_listed hc h.2 (hc x o ho hx e he hb)
theorem path_not {i : Nat} {l : Array Bool} (hc : Closed md ops l) {r : List Nat} (h : pathB md ops i x r = true) (hi : i ∈ Region.ready md ops l) : x ∉ Region.ready md ops l := fun hx => by
 have h0 := (mem_ready.1 hi).1
 have h1 : l.getD i false = true := by
  cases r with
  | nil =>
   obtain ⟨o, ho, e, he, hb, rfl⟩ := waits_of (show waitsB md ops x i = true from h)
   obtain ⟨-, o', ho', hall⟩ := mem_ready.1 hx
   obtain rfl : o = o' := by rw [ho] at ho'; exact Option.some.inj ho'
   exact hall e he hb
  | cons j r =>
   unfold pathB at h
   rw [Bool.and_eq_true] at h
   obtain ⟨o, ho, e, he, hb, rfl⟩ := waits_of h.1
   obtain ⟨-, o', ho', hall⟩ := mem_ready.1 hx
   obtain rfl : o = o' := by rw [ho] at ho'; exact Option.some.inj ho'
   exact path_listed hc h.2 (hall e he hb)
 rcases Nat.lt_or_ge i l.size with hl | hl
 ·simp [hl] at h0 h1
  rw [h0] at h1
  cases h1
 ·simp [Array.getElem?_eq_none hl] at h1
theorem Till.via {i : Nat} {oi : Oper} {v : Value} {n : Nat} {l : Array Bool} {a : Act} {w : World} (r : List Nat) (hi : ops[i]? = some oi) (hs : Region.noSelect ops = true) (hf : Region.free md ops l i = true) (hr : (Region.ready md ops l).contains i = true)
  (hw : pathB md ops i x r = true) (hc : closedB md ops l = true) (hx : l.getD x true = false) (hQ : ∀ c a w, Q (.panic c) (a.put oi.dst v) w → Q (.panic c) a w) (hy : YieldsIf P ops S oi v a) (hS : S w)
  (h : Till P md ops Q S x n (l.setIfInBounds i true) (a.put oi.dst v) w) : Till P md ops Q S x (n + 1) l a w :=
 Till.first (Cl := Closed md ops) hi (Region.noSelect_spec hs) (fun _ hc' h => path_not hc' hw h) (fun _ _ hc' hj => hc'.step hj) hQ n l a w (closed_of hc) hx (Region.free_spec hi hf) (by simpa using hr) hy hS h
theorem Till.step {i : Nat} {o : Oper} {n : Nat} {l : Array Bool} {a : Act} {w : World} (hr : Region.ready md ops l = [i]) (ho : ops[i]? = some o)
  (h : ∀ K' : Act → World → Prop, Shut (∀ a w, ((l.setIfInBounds i true).getD x true = false → S w) → Till P md ops Q S x n (l.setIfInBounds i true) a w → K' a w) → if Region.wanted o (yielded ops a.tmps) = true then Oper.wp P o a w K' Q else K' (a.put o.dst undef) w) :
  Till P md ops Q S x (n + 1) l a w := by
 refine ⟨fun e => (by rw [hr] at e; cases e), fun j hj => ?_⟩
 rw [hr] at hj
 obtain rfl : j = i := by simpa using hj
 exact wpOp_step ho (fun K' hK => h K' (fun a w hS hW => hK a w ⟨hS, hW⟩))
theorem Till.done {l : Array Bool} {a : Act} {w : World} (hr : Region.ready md ops l = []) (h : Q .normal a w) : ∀ n, Till P md ops Q S x n l a w
 | 0 => ⟨hr, h⟩
 | _ + 1 => ⟨fun _ => h, by rw [hr]; simp⟩
theorem wp_till {id : Nat} {a : Act} {w : World} (x : Nat) (S : World → Prop) (hm : P.follows .mixedOrders = true) (h : Till P .any ops Q S x ops.size (Array.replicate ops.size false) a w.drew) : (Code.region id ops true).wp P Q a w :=
 wp_region_any hm h.any
end
end Go.Proofs.YtemplkpcckmcoaaGreatDoor
namespace Go.Proofs.YtemplkpcckmcoaaGreatDoor
set_option maxHeartbeats 8000000
open Lib (hid)
open Go.RowKit Go.Maps
set_option linter.unusedVariables false
set_option linter.unusedSimpArgs false
def cellsTrap (t : TrapV) : List Value := [.int .i64 t.from_, .int .i64 t.to_, .int .i64 t.hand, .int .i64 t.type]
def cellsField (f : FieldV) : List Value := [.int .i64 f.flags, .int .i64 f.name, .int .i64 f.desc]
def cellsConst (c : ConstV) : List Value := [.int .i64 c.tag, .string c.text, .int .i64 c.n, .int .i64 c.a, .int .i64 c.b]
def cellsMeth (m : MethodV) (f : Value × Value × Value) : List Value := [.int .i64 m.flags, .int .i64 m.name, .int .i64 m.desc, .int .i64 m.stack, .int .i64 m.locals, f.1, f.2.1, f.2.2]
section
variable {w : World} {b o i : Nat} {f : Nat → List Value}
theorem TrapAt.cells {t : TrapV} (h : TrapAt w b o i t) (hf : f i = cellsTrap t) : CellsAt w 4 f b o i := fun d hd => by
 rw [hf]
 match d, hd with
 | 0, _ => exact h.c0
 | 1, _ => exact h.c1
 | 2, _ => exact h.c2
 | 3, _ => exact h.c3
theorem TrapAt.of {t : TrapV} (h : CellsAt w 4 f b o i) (hf : f i = cellsTrap t) : TrapAt w b o i t := by
 have k := fun d hd => (h d hd).trans (by rw [hf])
 exact ⟨k 0 (by decide), k 1 (by decide), k 2 (by decide), k 3 (by decide)⟩
theorem FieldAt.cells {t : FieldV} (h : FieldAt w b o i t) (hf : f i = cellsField t) : CellsAt w 3 f b o i := fun d hd => by
 rw [hf]
 match d, hd with
 | 0, _ => exact h.c0
 | 1, _ => exact h.c1
 | 2, _ => exact h.c2
theorem FieldAt.of {t : FieldV} (h : CellsAt w 3 f b o i) (hf : f i = cellsField t) : FieldAt w b o i t := by
 have k := fun d hd => (h d hd).trans (by rw [hf])
 exact ⟨k 0 (by decide), k 1 (by decide), k 2 (by decide)⟩
theorem ConstAt.cells {t : ConstV} (h : ConstAt w b o i t) (hf : f i = cellsConst t) : CellsAt w 5 f b o i := fun d hd => by
 rw [hf]
 match d, hd with
 | 0, _ => exact h.c0
 | 1, _ => exact h.c1
 | 2, _ => exact h.c2
 | 3, _ => exact h.c3
 | 4, _ => exact h.c4
theorem ConstAt.of {t : ConstV} (h : CellsAt w 5 f b o i) (hf : f i = cellsConst t) : ConstAt w b o i t := by
 have k := fun d hd => (h d hd).trans (by rw [hf])
 exact ⟨k 0 (by decide), k 1 (by decide), k 2 (by decide), k 3 (by decide), k 4 (by decide)⟩
theorem MethodAt.cells {t : MethodV} {x : Value × Value × Value} (h : MethodAt w b o i t x.1 x.2.1 x.2.2) (hf : f i = cellsMeth t x) : CellsAt w 8 f b o i := fun d hd => by
 rw [hf]
 match d, hd with
 | 0, _ => exact h.c0
 | 1, _ => exact h.c1
 | 2, _ => exact h.c2
 | 3, _ => exact h.c3
 | 4, _ => exact h.c4
 | 5, _ => exact h.c5
 | 6, _ => exact h.c6
 | 7, _ => exact h.c7
theorem MethodAt.of {t : MethodV} {x : Value × Value × Value} (h : CellsAt w 8 f b o i) (hf : f i = cellsMeth t x) : MethodAt w b o i t x.1 x.2.1 x.2.2 := by
 have k := fun d hd => (h d hd).trans (by rw [hf])
 exact ⟨k 0 (by decide), k 1 (by decide), k 2 (by decide), k 3 (by decide), k 4 (by decide), k 5 (by decide), k 6 (by decide), k 7 (by decide)⟩
end
theorem copyTraps (v : Value) (ts : List TrapV) (w : World) (h : Traps w v ts) (hl : ts.length ≤ 1048576) :
  Calls Tryz.prog 119 #[v] w fun e w' => ∃ v', e = .returned v' ∧ TrapsG (fun k => k < w.heap.size) w' v' ts ∧ Only (fun _ => False) w w' := by
 refine (copyCTrap v ts.length (fun i => cellsTrap (ts.getD i default)) w (h.1.imp (fun _ _ _ _ _ k => k.cells rfl)) (fun _ => rfl) (fun i u hu => ?_) hl).mono ?_
 ·simp only [cellsTrap, List.mem_cons, List.mem_nil_iff, or_false] at hu
  rcases hu with rfl | rfl | rfl | rfl <;> rfl
 ·rintro e w' ⟨v', rfl, k1, k2, k3, -⟩
  exact ⟨v', rfl, ⟨k1.imp (fun _ _ _ _ _ k => ⟨TrapAt.of k.1 rfl, fun hk => by have := k.2.1; omega⟩), h.2⟩, k3⟩
theorem copyFields (v : Value) (ts : List FieldV) (w : World) (h : Fields w v ts) (hl : ts.length ≤ 1048576) :
  Calls Tryz.prog 93 #[v] w fun e w' => ∃ v', e = .returned v' ∧ FieldsG (fun k => k < w.heap.size) w' v' ts ∧ Only (fun _ => False) w w' := by
 refine (copyCField v ts.length (fun i => cellsField (ts.getD i default)) w (h.1.imp (fun _ _ _ _ _ k => k.cells rfl)) (fun _ => rfl) (fun i u hu => ?_) hl).mono ?_
 ·simp only [cellsField, List.mem_cons, List.mem_nil_iff, or_false] at hu
  rcases hu with rfl | rfl | rfl <;> rfl
 ·rintro e w' ⟨v', rfl, k1, k2, k3, -⟩
  exact ⟨v', rfl, ⟨k1.imp (fun _ _ _ _ _ k => ⟨FieldAt.of k.1 rfl, fun hk => by have := k.2.1; omega⟩), h.2⟩, k3⟩
theorem copyPool (v : Value) (cs : List ConstV) (w : World) (h : Pool w v cs) (hl : cs.length ≤ 1048576) :
  Calls Tryz.prog 92 #[v] w fun e w' => ∃ v', e = .returned v' ∧ Pool w' v' cs ∧ (∀ k, v'.ownBlock = some k → w.heap.size ≤ k ∧ k < w'.heap.size) ∧ Only (fun _ => False) w w' := by
 obtain ⟨ao, cap, rfl, h1, h2, h3, h4, h5⟩ := id h
 refine (copyCConst _ cs.length (fun i => cellsConst (cs.getD i default)) w ⟨ao, cap, rfl, h1, h2, h3, fun x hx h0 => ?_⟩ (fun _ => rfl) (fun i u hu => ?_) hl).mono ?_
 ·obtain ⟨b, o, rfl, h6⟩ := h5 x hx h0
  exact ⟨b, o, rfl, fun i hi => (h6 i hi).cells rfl⟩
 ·simp only [cellsConst, List.mem_cons, List.mem_nil_iff, or_false] at hu
  rcases hu with rfl | rfl | rfl | rfl | rfl <;> rfl
 ·rintro e w' ⟨v', rfl, k1, k2, k3, -⟩
  obtain ⟨ao', cap', rfl, e1, e2, e3, e5⟩ := k1
  refine ⟨_, rfl, ⟨ao', cap', rfl, e1, e2, e3, h4, fun x hx h0 => ?_⟩, k2, k3⟩
  obtain ⟨b, o, rfl, e6⟩ := e5 x hx h0
  exact ⟨b, o, rfl, fun i hi => ConstAt.of (e6 i hi).1 rfl⟩
theorem copyMeths (v : Value) (n : Nat) (ms : List MethodV) (f : Nat → Value × Value × Value) (w : World) (hn : ms.length = n) (h : Sl v n (fun b o i => MethodAt w b o i (ms.getD i default) (f i).1 (f i).2.1 (f i).2.2))
  (hone : ∀ i, (f i).1.oneCell' = true ∧ (f i).2.1.oneCell' = true ∧ (f i).2.2.oneCell' = true) (hl : n ≤ 1048576) :
  Calls Tryz.prog 94 #[v] w (CopyTo w 79 8 n (fun i => cellsMeth (ms.getD i default) (f i))) := by
 refine copyCMeth v n (fun i => cellsMeth (ms.getD i default) (f i)) w (h.imp (fun _ _ _ _ _ k => k.cells rfl)) (fun _ => rfl) (fun i u hu => ?_) hl
 obtain ⟨a, b, c⟩ := hone i
 simp only [cellsMeth, List.mem_cons, List.mem_nil_iff, or_false] at hu
 rcases hu with rfl | rfl | rfl | rfl | rfl | rfl | rfl | rfl <;> first | rfl | assumption
abbrev valMth (m : MethodV) (a b c : Value) : Value := .agg #[.int .i64 m.flags, .int .i64 m.name, .int .i64 m.desc, .int .i64 m.stack, .int .i64 m.locals, a, b, c]
abbrev objMth (m : MethodV) (a b c : Value) : Obj := .cells #[.int .i64 m.flags, .int .i64 m.name, .int .i64 m.desc, .int .i64 m.stack, .int .i64 m.locals, a, b, c] 79
abbrev zeroMth : Obj := .cells #[.int .i64 0, .int .i64 0, .int .i64 0, .int .i64 0, .int .i64 0, .slice none 0 0, .slice none 0 0, .slice none 0 0] 79
theorem meth_alone {fn : Func} {p : Tmp} (hr : fn.results = #[.cell p 79]) {w : World} {b : Nat} {a0 a1 a2 a3 a4 a5 a6 a7 : Value} {tmps : Array Value} (h : w.heap[b]? = some (.cells #[a0, a1, a2, a3, a4, a5, a6, a7] 79 (0, 0))) (ht : tmps.getD p undef = .pointer (some ⟨b, 0, none⟩)) :
  (results fn tmps).run Tryz.prog w = .ok (.agg #[a0, a1, a2, a3, a4, a5, a6, a7]) w :=
 results_cell_row hr tmps w b 79 _ (0, 0) _ ht h Tryz.underlying79 rfl info8_meth9
set_option maxRecDepth 100000 in
theorem pCloneMethod (m : MethodV) (vc vt vm : Value) (w : World) (hi : Inside w m vc vt vm) (hc : m.code.length ≤ 1048576) (ht : m.traps.length ≤ 1048576) (hm : m.maps.length ≤ 1048576) :
  Calls Tryz.prog 95 #[valMth m vc vt vm] w fun e w' => ∃ a b c, e = .returned (valMth m a b c) ∧ InsideG (fun k => k < w.heap.size) w' m a b c ∧ Only (fun _ => False) w w' := by
 have ho0 := ((Only.refl (fun _ => False) w).alloc (objMth m vc vt vm)).alloc zeroMth
 have hx0 : ((w.alloc (objMth m vc vt vm)).alloc zeroMth).heap[w.heap.size]? = some (objMth m vc vt vm) := ((Only.refl (fun _ => False) _).alloc _).heap (heap_alloc_new w _) (fun h => h)
 have hr0 : ((w.alloc (objMth m vc vt vm)).alloc zeroMth).heap[w.heap.size + 1]? = some zeroMth := by
  have := heap_alloc_new (w.alloc (objMth m vc vt vm)) zeroMth
  rwa [World.size_alloc] at this
 have hs0 : ((w.alloc (objMth m vc vt vm)).alloc zeroMth).heap.size = w.heap.size + 2 := by simp
 obtain ⟨W0, hW0⟩ : ∃ W0, (w.alloc (objMth m vc vt vm)).alloc zeroMth = W0 := ⟨_, rfl⟩
 rw [hW0] at ho0 hx0 hr0 hs0
 have CC := hid (fun W (hW : Only (fun _ => False) W0 W) => copyBytes vc m.code W (hi.1.only (ho0.trans hW (fun _ h _ => h)) (fun _ _ _ h => h)) (by omega))
 have CT := hid (fun W (hW : Only (fun _ => False) W0 W) => copyTraps vt m.traps W (hi.2.1.only (ho0.trans hW (fun _ h _ => h))) ht)
 have CM := hid (fun W (hW : Only (fun _ => False) W0 W) => copyBytes vm m.maps W (hi.2.2.only (ho0.trans hW (fun _ h _ => h)) (fun _ _ _ h => h)) (by omega))
 obtain ⟨c0, c1, c2, c3, c4, c5, c6, c7⟩ := cells8M hx0
 have HO0 := hid ho0
 have HR0 := hid hr0
 have HS0 := hid hs0
 have HW0 := hid hW0
 have hSd : W0.drew.cell? ⟨w.heap.size, 5, none⟩ = some vc ∧ W0.drew.cell? ⟨w.heap.size, 6, none⟩ = some vt ∧ W0.drew.cell? ⟨w.heap.size, 7, none⟩ = some vm := ⟨(Only.refl (fun _ => False) W0).drew.cell c5 (fun h => h), (Only.refl (fun _ => False) W0).drew.cell c6 (fun h => h), (Only.refl (fun _ => False) W0).drew.cell c7 (fun h => h)⟩
 clear ho0 hr0 hs0 hW0 hi
 go_enter Tryz.func95, Tryz.ntmps95
 go_wp2_with (fail)
 rw [HW0.out]
 refine wp_till 10 (fun wc => wc.cell? ⟨w.heap.size, 5, none⟩ = some vc ∧ wc.cell? ⟨w.heap.size, 6, none⟩ = some vt ∧ wc.cell? ⟨w.heap.size, 7, none⟩ = some vm) (by kernel_rfl) ?_
 refine Till.take (i := 0) (v := ?_) (by simp only [List.getElem?_toArray, List.getElem?_cons_succ, List.getElem?_cons_zero]; rfl) (by kernel_rfl) (by kernel_rfl) (by kernel_rfl) (by kernel_rfl) (by kernel_rfl) (by exact fun _ _ _ h => h) (Or.inl ⟨by rfl, ?_⟩) (by assumption) ?_
 rotate_left 1
 ·(intro w h; (try dsimp only at h); go_simp; try with_reducible rfl)
 try simp only [Act.put, sIB, sC0, sCS]
 refine Till.take (i := 1) (v := ?_) (by simp only [List.getElem?_toArray, List.getElem?_cons_succ, List.getElem?_cons_zero]; rfl) (by kernel_rfl) (by kernel_rfl) (by kernel_rfl) (by kernel_rfl) (by kernel_rfl) (by exact fun _ _ _ h => h) (Or.inl ⟨by rfl, ?_⟩) (by assumption) ?_
 rotate_left 1
 ·(intro w h; (try dsimp only at h); go_simp; try with_reducible rfl)
 try simp only [Act.put, sIB, sC0, sCS]
 refine Till.take (i := 3) (v := ?_) (by simp only [List.getElem?_toArray, List.getElem?_cons_succ, List.getElem?_cons_zero]; rfl) (by kernel_rfl) (by kernel_rfl) (by kernel_rfl) (by kernel_rfl) (by kernel_rfl) (by exact fun _ _ _ h => h) (Or.inl ⟨by rfl, ?_⟩) (by assumption) ?_
 rotate_left 1
 ·(intro w h; (try dsimp only at h); go_simp; try with_reducible rfl)
 try simp only [Act.put, sIB, sC0, sCS]
 refine Till.take (i := 4) (v := ?_) (by simp only [List.getElem?_toArray, List.getElem?_cons_succ, List.getElem?_cons_zero]; rfl) (by kernel_rfl) (by kernel_rfl) (by kernel_rfl) (by kernel_rfl) (by kernel_rfl) (by exact fun _ _ _ h => h) (Or.inl ⟨by rfl, ?_⟩) (by assumption) ?_
 rotate_left 1
 ·(intro w h; (try dsimp only at h); go_simp; try with_reducible rfl)
 try simp only [Act.put, sIB, sC0, sCS]
 refine Till.take (i := 6) (v := ?_) (by simp only [List.getElem?_toArray, List.getElem?_cons_succ, List.getElem?_cons_zero]; rfl) (by kernel_rfl) (by kernel_rfl) (by kernel_rfl) (by kernel_rfl) (by kernel_rfl) (by exact fun _ _ _ h => h) (Or.inl ⟨by rfl, ?_⟩) (by assumption) ?_
 rotate_left 1
 ·(intro w h; (try dsimp only at h); go_simp; try with_reducible rfl)
 try simp only [Act.put, sIB, sC0, sCS]
 refine Till.take (i := 7) (v := ?_) (by simp only [List.getElem?_toArray, List.getElem?_cons_succ, List.getElem?_cons_zero]; rfl) (by kernel_rfl) (by kernel_rfl) (by kernel_rfl) (by kernel_rfl) (by kernel_rfl) (by exact fun _ _ _ h => h) (Or.inl ⟨by rfl, ?_⟩) (by assumption) ?_
 rotate_left 1
 ·(intro w h; (try dsimp only at h); go_simp; try with_reducible rfl)
 try simp only [Act.put, sIB, sC0, sCS]
 refine Till.step (i := 2) (by kernel_rfl) (by simp only [List.getElem?_toArray, List.getElem?_cons_succ, List.getElem?_cons_zero]; rfl) (fun K hK => ?_)
 go_simp
 (refine (CC.out _ (Only.refl (fun _ => False) W0).drew).mono ?_; rintro e1 w1 ⟨v1, rfl, hb1, hn1, ho1⟩; have HO1 := hid (((Only.refl (fun _ => False) W0).drew).trans ho1 (fun _ h _ => h)); have HI1 := hid ho1; obtain ⟨a1, k1, rfl, -⟩ := id hb1; have HB1 := hid hb1; have HN1 := hid hn1; have hSd1 : w1.cell? ⟨w.heap.size, 5, none⟩ = some vc ∧ w1.cell? ⟨w.heap.size, 6, none⟩ = some vt ∧ w1.cell? ⟨w.heap.size, 7, none⟩ = some vm := ⟨HO1.out.cell c5 (fun h => h), HO1.out.cell c6 (fun h => h), HO1.out.cell c7 (fun h => h)⟩; clear hb1 hn1 ho1)
 go_wp2_with fail
 refine hK.out _ _ ?_ ?_
 ·exact fun _ => ⟨HO1.out.cell c5 (fun h => h), HO1.out.cell c6 (fun h => h), HO1.out.cell c7 (fun h => h)⟩
 clear hK K
 try simp only [Act.put, sIB, sC0, sCS]
 refine Till.take (i := 9) (v := ?_) (by simp only [List.getElem?_toArray, List.getElem?_cons_succ, List.getElem?_cons_zero]; rfl) (by kernel_rfl) (by kernel_rfl) (by kernel_rfl) (by kernel_rfl) (by kernel_rfl) (by exact fun _ _ _ h => h) (Or.inl ⟨by rfl, ?_⟩) (by assumption) ?_
 rotate_left 1
 ·(intro w h; (try dsimp only at h); go_simp; try with_reducible rfl)
 try simp only [Act.put, sIB, sC0, sCS]
 refine Till.step (i := 5) (by kernel_rfl) (by simp only [List.getElem?_toArray, List.getElem?_cons_succ, List.getElem?_cons_zero]; rfl) (fun K hK => ?_)
 go_simp
 (refine (CT.out _ HO1.out).mono ?_; rintro e2 w2 ⟨v2, rfl, ht2, ho2⟩; have HO2 := hid ((HO1.out).trans ho2 (fun _ h _ => h)); have HI2 := hid ho2; obtain ⟨a2, k2, rfl, -⟩ := id ht2.1; have HT2 := hid ht2; clear ht2 ho2)
 go_wp2_with fail
 refine hK.out _ _ ?_ ?_
 ·exact fun _ => ⟨HO2.out.cell c5 (fun h => h), HO2.out.cell c6 (fun h => h), HO2.out.cell c7 (fun h => h)⟩
 clear hK K
 try simp only [Act.put, sIB, sC0, sCS]
 refine Till.step (i := 8) (by kernel_rfl) (by simp only [List.getElem?_toArray, List.getElem?_cons_succ, List.getElem?_cons_zero]; rfl) (fun K hK => ?_)
 go_simp
 (refine (CM.out _ HO2.out).mono ?_; rintro e3 w3 ⟨v3, rfl, hb3, hn3, ho3⟩; have HO3 := hid ((HO2.out).trans ho3 (fun _ h _ => h)); have HI3 := hid ho3; obtain ⟨a3, k3, rfl, -⟩ := id hb3; have HB3 := hid hb3; have HN3 := hid hn3; have hx3 := HO3.out.heap hx0 (fun h => h); have f5 := frozen_blk hx3 5; have f6 := frozen_blk hx3 6; have f7 := frozen_blk hx3 7; have HX3 := hid hx3; obtain ⟨y0, y1, y2, y3, y4, y5, y6, y7⟩ := cells8M hx3; clear hb3 hn3 ho3 hx3)
 go_wp2_with fail
 refine hK.out _ _ ?_ ?_
 ·exact fun _ => ⟨HO3.out.cell c5 (fun h => h), HO3.out.cell c6 (fun h => h), HO3.out.cell c7 (fun h => h)⟩
 clear hK K
 try simp only [Act.put, sIB, sC0, sCS]
 refine Till.step (i := 10) (by kernel_rfl) (by simp only [List.getElem?_toArray, List.getElem?_cons_succ, List.getElem?_cons_zero]; rfl) (fun K hK => ?_)
 go_simp
 refine hK.out _ _ ?_ ?_
 ·exact fun h => by cases h
 clear hK K
 try simp only [Act.put, sIB, sC0, sCS]
 refine Till.step (i := 11) (by kernel_rfl) (by simp only [List.getElem?_toArray, List.getElem?_cons_succ, List.getElem?_cons_zero]; rfl) (fun K hK => ?_)
 go_simp
 refine hK.out _ _ ?_ ?_
 ·exact fun h => by cases h
 clear hK K
 try simp only [Act.put, sIB, sC0, sCS]
 refine Till.step (i := 12) (by kernel_rfl) (by simp only [List.getElem?_toArray, List.getElem?_cons_succ, List.getElem?_cons_zero]; rfl) (fun K hK => ?_)
 go_simp
 refine hK.out _ _ ?_ ?_
 ·exact fun h => by cases h
 clear hK K
 try simp only [Act.put, sIB, sC0, sCS]
 refine Till.step (i := 13) (by kernel_rfl) (by simp only [List.getElem?_toArray, List.getElem?_cons_succ, List.getElem?_cons_zero]; rfl) (fun K hK => ?_)
 go_simp
 refine hK.out _ _ ?_ ?_
 ·exact fun h => by cases h
 clear hK K
 try simp only [Act.put, sIB, sC0, sCS]
 refine Till.step (i := 14) (by kernel_rfl) (by simp only [List.getElem?_toArray, List.getElem?_cons_succ, List.getElem?_cons_zero]; rfl) (fun K hK => ?_)
 go_simp
 refine hK.out _ _ ?_ ?_
 ·exact fun h => by cases h
 clear hK K
 try simp only [Act.put, sIB, sC0, sCS]
 refine Till.done (by kernel_rfl) ?_ _
 have hx4 := heap_setCell_at (i := 7) (u := (.slice a3 m.maps.length k3)) (heap_setCell_at (i := 6) (u := (.slice a2 m.traps.length k2)) (heap_setCell_at (i := 5) (u := (.slice a1 m.code.length k1)) HX3.out))
 simp only [List.setIfInBounds_toArray, List.set_cons_zero, List.set_cons_succ] at hx4
 have ho4 := (((Only.refl (fun k => k = w.heap.size) w3).setCell (p := ⟨w.heap.size, 5, none⟩) (fun _ => rfl) (.slice a1 m.code.length k1)).setCell (p := ⟨w.heap.size, 6, none⟩) (fun _ => rfl) (.slice a2 m.traps.length k2)).setCell (p := ⟨w.heap.size, 7, none⟩) (fun _ => rfl) (.slice a3 m.maps.length k3)
 obtain ⟨W4, hW4⟩ : ∃ W4, ((w3.setCell ⟨w.heap.size, 5, none⟩ (.slice a1 m.code.length k1)).setCell ⟨w.heap.size, 6, none⟩ (.slice a2 m.traps.length k2)).setCell ⟨w.heap.size, 7, none⟩ (.slice a3 m.maps.length k3) = W4 := ⟨_, rfl⟩
 rw [hW4] at hx4 ho4 ⊢
 clear f5 f6 f7 y0 y1 y2 y3 y4 y5 y6 y7 c0 c1 c2 c3 c4 c5 c6 c7 hSd hSd1
 obtain ⟨y0, y1, y2, y3, y4, y5, y6, y7⟩ := cells8M hx4
 have hr4 := ho4.heap (HO3.out.heap HR0.out (fun h => h)) (by omega)
 obtain ⟨z0, z1, z2, z3, z4, z5, z6, z7⟩ := cells8M hr4
 obtain ⟨f0, f1, f2, f3, f4, f5, f6, f7⟩ := marks8M hr4
 have HR4 := hid hr4
 have HO4 := hid ho4
 clear hx4 hr4 ho4 hW4 hx0
 go_wp2
 refine bodyPost_ret (meth_alone (b := w.heap.size + 1) Tryz.results95 (store8M HR4.out) rfl) rfl ⟨_, _, _, rfl, ?_, ?_⟩
 ·have HS := HS0.out
  have h1 : BytesG (fun k => k < W0.heap.size) w3 (.slice a1 m.code.length k1) m.code := ⟨HB1.out.only (HI2.out.trans HI3.out (fun _ h _ => h)) (fun _ _ _ h => h), fun k hk _ hG => by have := (HN1.out k hk).1; have h2 : W0.heap.size ≤ W0.drew.heap.size := (Only.refl (fun _ => False) W0).drew.size; omega⟩
  have h2 : TrapsG (fun k => k < W0.heap.size) w3 (.slice a2 m.traps.length k2) m.traps := (HT2.out.only HI3.out (fun _ h => h.elim)).mono (fun k _ hk => by have := HO1.out.size; omega)
  have h3 : BytesG (fun k => k < W0.heap.size) w3 (.slice a3 m.maps.length k3) m.maps := ⟨HB3.out, fun k hk _ hG => by have := (HN3.out k hk).1; have := HO2.out.size; omega⟩
  exact InsideG.mono (G := fun k => k < W0.heap.size) (fun k _ hk => by omega) (InsideG.only (S := fun k => k < W0.heap.size) (only8M (HO4.out.mono (T := fun k => k < W0.heap.size) (fun k hk _ => by omega)) (fun _ => by omega)) (fun _ h => h) ⟨h1, h2, h3⟩)
 ·refine only8M (Only.trans (HO0.out.trans HO3.out (fun _ h _ => h)) HO4.out ?_) (fun hl => absurd hl (by omega))
  rintro i rfl hl
  omega
end Go.Proofs.YtemplkpcckmcoaaGreatDoor
