import Derived.Test.YtgdgffnaknkbcaaGreatDoorMiLpAClone
import Derived.Lib.SliceRun
import Derived.Deep.RegionHeld3
import Derived.Test.YtgdgffnaknkbcaaGreatDoorMiSepTxtP
namespace Go.Proofs.YtgdgffnaknkbcaaGreatDoor
open Go.RowKit Go.Maps
set_option linter.unusedVariables false
set_option linter.unusedSimpArgs false
def CellsAt (w : World) (size : Nat) (cells : Nat → List Value) (b o i : Nat) : Prop := ∀ d, d < size → w.cell? ⟨b, o + i * size + d, none⟩ = (cells i)[d]?
theorem flat_len {α : Type} {size : Nat} {f : α → List Value} (hf : ∀ i, (f i).length = size) : ∀ l : List α, (l.flatMap f).length = l.length * size
 | [] => by simp
 | a :: r => by rw [List.flatMap_cons, List.length_append, hf, flat_len hf r, List.length_cons, Nat.succ_mul]; omega
theorem flat_at {α : Type} [Inhabited α] {size : Nat} {f : α → List Value} (hf : ∀ i, (f i).length = size) : ∀ {l : List α} {i d : Nat}, i < l.length → d < size → (l.flatMap f)[i * size + d]? = (f (l.getD i default))[d]?
 | a :: r, 0, d, _, hd => by
  rw [List.flatMap_cons, List.getElem?_append_left (by rw [hf]; omega)]
  simp
 | a :: r, i + 1, d, hi, hd => by
  rw [List.flatMap_cons, List.getElem?_append_right (by rw [hf, Nat.succ_mul]; omega), hf, show (i + 1) * size + d - size = i * size + d by rw [Nat.succ_mul]; omega, flat_at hf (by simpa using hi) hd]
  simp
theorem range_getD {n i : Nat} (h : i < n) : (List.range n).getD i default = i := by simp [List.getD, h]
theorem Src.of_sl {w : World} {v : Value} {n size : Nat} {cells : Nat → List Value} (h : Sl v n (CellsAt w size cells)) (hsz : ∀ i, (cells i).length = size) (h1 : ∀ i, ∀ u ∈ cells i, u.oneCell' = true) (h0 : 0 < size) : Src w size v n ((List.range n).flatMap cells) := by
 obtain ⟨ao, cap, rfl, p1, p2, p3, p4⟩ := h
 have hlen : ((List.range n).flatMap cells).length = n * size := by rw [flat_len hsz, List.length_range]
 refine ⟨hlen, fun u hu => ?_, ao, cap, rfl, fun e => ⟨by have := p3 e; omega, p3 e⟩, fun ad hd j u hj => ?_⟩
 ·obtain ⟨i, _, hc⟩ := List.mem_flatMap.1 hu
  exact h1 i u hc
 ·have hjl : j < n * size := by rw [← hlen]; exact (List.getElem?_eq_some_iff.1 hj).1
  have hn : 0 < n := Nat.pos_of_ne_zero (fun e => by subst e; simp at hjl)
  obtain ⟨b, o, rfl, hc⟩ := p4 ad hd hn
  have hi : j / size < n := Nat.div_lt_of_lt_mul (by rw [Nat.mul_comm]; exact hjl)
  have hm : j % size < size := Nat.mod_lt _ h0
  have hjd : j / size * size + j % size = j := by rw [Nat.mul_comm]; exact Nat.div_add_mod j size
  have hat := flat_at (l := List.range n) hsz (i := j / size) (d := j % size) (by rw [List.length_range]; exact hi) hm
  rw [hjd, hj, range_getD hi] at hat
  rw [add_lit, ← hjd, show o + (j / size * size + j % size) = o + j / size * size + j % size by omega, hc _ hi _ hm, hat]
theorem owns_sl {w : World} {B : Nat} {e : TypeId} {v : Value} {n size : Nat} {cells : Nat → List Value} (h : w.ownsRow B e size v n ((List.range n).flatMap cells)) (hsz : ∀ i, (cells i).length = size) : Sl v n (fun b o i => CellsAt w size cells b o i ∧ B ≤ b ∧ b < w.heap.size) := by
 have hlt := fun k hk => World.ownsRow.lt h k hk
 rcases h.2 with ⟨rfl, rfl⟩ | ⟨g, cap, cur, rfl, hb, hg, hnc, hcm, hcs, htake⟩
 ·exact Sl.nil _
 ·refine ⟨_, cap, rfl, hnc, by unfold maxLen at hcm; omega, (fun e => by cases e), fun x hx _ => ?_⟩
  cases hx
  refine ⟨g, 0, rfl, fun i hi => ⟨fun d hd => ?_, hb, heap_lt hg⟩⟩
  have hat := flat_at (l := List.range n) hsz (i := i) (d := d) (by rw [List.length_range]; exact hi) hd
  rw [range_getD hi] at hat
  rw [Nat.zero_add, ← hat]
  have hle : i * size + d < n * size := by
   have : (i + 1) * size ≤ n * size := Nat.mul_le_mul_right _ hi
   rw [Nat.succ_mul] at this
   omega
  exact h.cellAt (g := g) (cap := cap) (i * size + d) hle
def CopyTo (w : World) (T : TypeId) (size n : Nat) (cells : Nat → List Value) (e : Ending) (w' : World) : Prop :=
 ∃ v', e = .returned v' ∧ Sl v' n (fun b o i => CellsAt w' size cells b o i ∧ w.heap.size ≤ b ∧ b < w'.heap.size) ∧ (∀ k, v'.ownBlock = some k → w.heap.size ≤ k ∧ k < w'.heap.size) ∧ Only (fun _ => False) w w' ∧ w'.ownsRow w.heap.size T size v' n ((List.range n).flatMap cells)
theorem info_CConst : (Tryz.prog.info? 156).map (fun i => (i.zero, i.size, i.bytes)) = some (some (.agg #[.int .i64 0, .string ⟨#[]⟩, .int .i64 0, .int .i64 0, .int .i64 0]), 5, 48) := by kernel_rfl
set_option maxHeartbeats 2000000 in
set_option maxRecDepth 100000 in
theorem copyCConst (v : Value) (n : Nat) (cells : Nat → List Value) (w : World) (h : Sl v n (CellsAt w 5 cells)) (hsz : ∀ i, (cells i).length = 5) (h1 : ∀ i, ∀ u ∈ cells i, u.oneCell' = true) (hn : n ≤ 1048576) :
  Calls Tryz.prog 96 #[v] w (CopyTo w 156 5 n cells) := by
 have hnil := fun (w : World) (a : Option Addr) (n c : Nat) => Lib.run_eql_slice_nil (P := Tryz.prog) w 73 156 a n c 0 0 Tryz.underlying73
 obtain ⟨i0, hi, hz0, hz1, hz2⟩ := info_parts info_CConst
 have hsrc := Src.of_sl h hsz h1 (by decide)
 obtain ⟨ao, cap, rfl, p1, p2, p3, -⟩ := h
 cases ao with
 | none =>
  obtain rfl : cap = 0 := p3 rfl
  obtain rfl : n = 0 := by omega
  clear hsrc
  go_enter Tryz.func96, Tryz.ntmps96
  go_wp2
  go_ret
  exact ⟨_, rfl, Sl.nil _, fun k hk => (by cases hk), Only.refl _ _, World.ownsRow_nil _ _ _ _⟩
 | some x =>
  have ho1 := (Only.refl (fun _ => False) w).alloc (.cells #[] 156)
  have hown0 : (w.alloc (.cells #[] 156)).ownsRow w.heap.size 156 5 (.slice (some ⟨w.heap.size, 0, none⟩) 0 0) 0 [] := World.ownsRow_made _ #[] 0 (Nat.le_refl _) (Nat.zero_le _) rfl
  have HSRC := Lib.hid (hsrc.alloc (.cells #[] 156))
  have HOWN := Lib.hid hown0
  have HO := Lib.hid ho1
  have HSZ := Lib.hid hsz
  clear hsrc hown0 ho1 p3 hsz h1
  go_enter Tryz.func96, Tryz.ntmps96
  go_wp2_with (at_builtin; go_loud (refine wpList_append_src rfl (.tmp 5) (.tmp 6) 73 rfl 156 i0 (.agg #[.int .i64 0, .string ⟨#[]⟩, .int .i64 0, .int .i64 0, .int .i64 0]) 5 48 Tryz.underlying73 hi hz0 hz1 hz2 rfl (by decide) w.heap.size (.slice (some ⟨w.heap.size, 0, none⟩) 0 0) 0 [] rfl (by exact HOWN.out) (by exact HO.out.size) (.slice (some x) n cap) n ((List.range n).flatMap cells) rfl (by exact HSRC.out) (by unfold maxLen; omega) (by omega) ?_); intro v' w5 hown hgrow hnew; have hos := only_grownT hgrow; have hon6 := HO.out.trans hos (fun j hj hl => by have e : w.heap.size = j := Option.some.inj hj; omega); have HO6 := Lib.hid hon6; have HOWN6 := Lib.hid (show w5.ownsRow w.heap.size 156 5 v' n ((List.range n).flatMap cells) by have := hown; rw [Nat.zero_add, List.nil_append] at this; exact this); clear hown hgrow hnew hos hon6)
  go_ret
  exact ⟨_, rfl, owns_sl HOWN6.out HSZ.out, fun k hk => World.ownsRow.lt HOWN6.out k hk, HO6.out, HOWN6.out⟩
theorem info_CField : (Tryz.prog.info? 147).map (fun i => (i.zero, i.size, i.bytes)) = some (some (.agg #[.int .i64 0, .int .i64 0, .int .i64 0]), 3, 24) := by kernel_rfl
set_option maxHeartbeats 2000000 in
set_option maxRecDepth 100000 in
theorem copyCField (v : Value) (n : Nat) (cells : Nat → List Value) (w : World) (h : Sl v n (CellsAt w 3 cells)) (hsz : ∀ i, (cells i).length = 3) (h1 : ∀ i, ∀ u ∈ cells i, u.oneCell' = true) (hn : n ≤ 1048576) :
  Calls Tryz.prog 97 #[v] w (CopyTo w 147 3 n cells) := by
 have hnil := fun (w : World) (a : Option Addr) (n c : Nat) => Lib.run_eql_slice_nil (P := Tryz.prog) w 74 147 a n c 0 0 Tryz.underlying74
 obtain ⟨i0, hi, hz0, hz1, hz2⟩ := info_parts info_CField
 have hsrc := Src.of_sl h hsz h1 (by decide)
 obtain ⟨ao, cap, rfl, p1, p2, p3, -⟩ := h
 cases ao with
 | none =>
  obtain rfl : cap = 0 := p3 rfl
  obtain rfl : n = 0 := by omega
  clear hsrc
  go_enter Tryz.func97, Tryz.ntmps97
  go_wp2
  go_ret
  exact ⟨_, rfl, Sl.nil _, fun k hk => (by cases hk), Only.refl _ _, World.ownsRow_nil _ _ _ _⟩
 | some x =>
  have ho1 := (Only.refl (fun _ => False) w).alloc (.cells #[] 147)
  have hown0 : (w.alloc (.cells #[] 147)).ownsRow w.heap.size 147 3 (.slice (some ⟨w.heap.size, 0, none⟩) 0 0) 0 [] := World.ownsRow_made _ #[] 0 (Nat.le_refl _) (Nat.zero_le _) rfl
  have HSRC := Lib.hid (hsrc.alloc (.cells #[] 147))
  have HOWN := Lib.hid hown0
  have HO := Lib.hid ho1
  have HSZ := Lib.hid hsz
  clear hsrc hown0 ho1 p3 hsz h1
  go_enter Tryz.func97, Tryz.ntmps97
  go_wp2_with (at_builtin; go_loud (refine wpList_append_src rfl (.tmp 5) (.tmp 6) 74 rfl 147 i0 (.agg #[.int .i64 0, .int .i64 0, .int .i64 0]) 3 24 Tryz.underlying74 hi hz0 hz1 hz2 rfl (by decide) w.heap.size (.slice (some ⟨w.heap.size, 0, none⟩) 0 0) 0 [] rfl (by exact HOWN.out) (by exact HO.out.size) (.slice (some x) n cap) n ((List.range n).flatMap cells) rfl (by exact HSRC.out) (by unfold maxLen; omega) (by omega) ?_); intro v' w5 hown hgrow hnew; have hos := only_grownT hgrow; have hon6 := HO.out.trans hos (fun j hj hl => by have e : w.heap.size = j := Option.some.inj hj; omega); have HO6 := Lib.hid hon6; have HOWN6 := Lib.hid (show w5.ownsRow w.heap.size 147 3 v' n ((List.range n).flatMap cells) by have := hown; rw [Nat.zero_add, List.nil_append] at this; exact this); clear hown hgrow hnew hos hon6)
  go_ret
  exact ⟨_, rfl, owns_sl HOWN6.out HSZ.out, fun k hk => World.ownsRow.lt HOWN6.out k hk, HO6.out, HOWN6.out⟩
theorem info_CTrap : (Tryz.prog.info? 173).map (fun i => (i.zero, i.size, i.bytes)) = some (some (.agg #[.int .i64 0, .int .i64 0, .int .i64 0, .int .i64 0]), 4, 32) := by kernel_rfl
set_option maxHeartbeats 2000000 in
set_option maxRecDepth 100000 in
theorem copyCTrap (v : Value) (n : Nat) (cells : Nat → List Value) (w : World) (h : Sl v n (CellsAt w 4 cells)) (hsz : ∀ i, (cells i).length = 4) (h1 : ∀ i, ∀ u ∈ cells i, u.oneCell' = true) (hn : n ≤ 1048576) :
  Calls Tryz.prog 133 #[v] w (CopyTo w 173 4 n cells) := by
 have hnil := fun (w : World) (a : Option Addr) (n c : Nat) => Lib.run_eql_slice_nil (P := Tryz.prog) w 68 173 a n c 0 0 Tryz.underlying68
 obtain ⟨i0, hi, hz0, hz1, hz2⟩ := info_parts info_CTrap
 have hsrc := Src.of_sl h hsz h1 (by decide)
 obtain ⟨ao, cap, rfl, p1, p2, p3, -⟩ := h
 cases ao with
 | none =>
  obtain rfl : cap = 0 := p3 rfl
  obtain rfl : n = 0 := by omega
  clear hsrc
  go_enter Tryz.func133, Tryz.ntmps133
  go_wp2
  go_ret
  exact ⟨_, rfl, Sl.nil _, fun k hk => (by cases hk), Only.refl _ _, World.ownsRow_nil _ _ _ _⟩
 | some x =>
  have ho1 := (Only.refl (fun _ => False) w).alloc (.cells #[] 173)
  have hown0 : (w.alloc (.cells #[] 173)).ownsRow w.heap.size 173 4 (.slice (some ⟨w.heap.size, 0, none⟩) 0 0) 0 [] := World.ownsRow_made _ #[] 0 (Nat.le_refl _) (Nat.zero_le _) rfl
  have HSRC := Lib.hid (hsrc.alloc (.cells #[] 173))
  have HOWN := Lib.hid hown0
  have HO := Lib.hid ho1
  have HSZ := Lib.hid hsz
  clear hsrc hown0 ho1 p3 hsz h1
  go_enter Tryz.func133, Tryz.ntmps133
  go_wp2_with (at_builtin; go_loud (refine wpList_append_src rfl (.tmp 5) (.tmp 6) 68 rfl 173 i0 (.agg #[.int .i64 0, .int .i64 0, .int .i64 0, .int .i64 0]) 4 32 Tryz.underlying68 hi hz0 hz1 hz2 rfl (by decide) w.heap.size (.slice (some ⟨w.heap.size, 0, none⟩) 0 0) 0 [] rfl (by exact HOWN.out) (by exact HO.out.size) (.slice (some x) n cap) n ((List.range n).flatMap cells) rfl (by exact HSRC.out) (by unfold maxLen; omega) (by omega) ?_); intro v' w5 hown hgrow hnew; have hos := only_grownT hgrow; have hon6 := HO.out.trans hos (fun j hj hl => by have e : w.heap.size = j := Option.some.inj hj; omega); have HO6 := Lib.hid hon6; have HOWN6 := Lib.hid (show w5.ownsRow w.heap.size 173 4 v' n ((List.range n).flatMap cells) by have := hown; rw [Nat.zero_add, List.nil_append] at this; exact this); clear hown hgrow hnew hos hon6)
  go_ret
  exact ⟨_, rfl, owns_sl HOWN6.out HSZ.out, fun k hk => World.ownsRow.lt HOWN6.out k hk, HO6.out, HOWN6.out⟩
theorem info_CMeth : (Tryz.prog.info? 70).map (fun i => (i.zero, i.size, i.bytes)) = some (some (.agg #[.int .i64 0, .int .i64 0, .int .i64 0, .int .i64 0, .int .i64 0, .slice none 0 0, .slice none 0 0, .slice none 0 0]), 8, 112) := by kernel_rfl
set_option maxHeartbeats 2000000 in
set_option maxRecDepth 100000 in
theorem copyCMeth (v : Value) (n : Nat) (cells : Nat → List Value) (w : World) (h : Sl v n (CellsAt w 8 cells)) (hsz : ∀ i, (cells i).length = 8) (h1 : ∀ i, ∀ u ∈ cells i, u.oneCell' = true) (hn : n ≤ 1048576) :
  Calls Tryz.prog 98 #[v] w (CopyTo w 70 8 n cells) := by
 have hnil := fun (w : World) (a : Option Addr) (n c : Nat) => Lib.run_eql_slice_nil (P := Tryz.prog) w 75 70 a n c 0 0 Tryz.underlying75
 obtain ⟨i0, hi, hz0, hz1, hz2⟩ := info_parts info_CMeth
 have hsrc := Src.of_sl h hsz h1 (by decide)
 obtain ⟨ao, cap, rfl, p1, p2, p3, -⟩ := h
 cases ao with
 | none =>
  obtain rfl : cap = 0 := p3 rfl
  obtain rfl : n = 0 := by omega
  clear hsrc
  go_enter Tryz.func98, Tryz.ntmps98
  go_wp2
  go_ret
  exact ⟨_, rfl, Sl.nil _, fun k hk => (by cases hk), Only.refl _ _, World.ownsRow_nil _ _ _ _⟩
 | some x =>
  have ho1 := (Only.refl (fun _ => False) w).alloc (.cells #[] 70)
  have hown0 : (w.alloc (.cells #[] 70)).ownsRow w.heap.size 70 8 (.slice (some ⟨w.heap.size, 0, none⟩) 0 0) 0 [] := World.ownsRow_made _ #[] 0 (Nat.le_refl _) (Nat.zero_le _) rfl
  have HSRC := Lib.hid (hsrc.alloc (.cells #[] 70))
  have HOWN := Lib.hid hown0
  have HO := Lib.hid ho1
  have HSZ := Lib.hid hsz
  clear hsrc hown0 ho1 p3 hsz h1
  go_enter Tryz.func98, Tryz.ntmps98
  go_wp2_with (at_builtin; go_loud (refine wpList_append_src rfl (.tmp 5) (.tmp 6) 75 rfl 70 i0 (.agg #[.int .i64 0, .int .i64 0, .int .i64 0, .int .i64 0, .int .i64 0, .slice none 0 0, .slice none 0 0, .slice none 0 0]) 8 112 Tryz.underlying75 hi hz0 hz1 hz2 rfl (by decide) w.heap.size (.slice (some ⟨w.heap.size, 0, none⟩) 0 0) 0 [] rfl (by exact HOWN.out) (by exact HO.out.size) (.slice (some x) n cap) n ((List.range n).flatMap cells) rfl (by exact HSRC.out) (by unfold maxLen; omega) (by omega) ?_); intro v' w5 hown hgrow hnew; have hos := only_grownT hgrow; have hon6 := HO.out.trans hos (fun j hj hl => by have e : w.heap.size = j := Option.some.inj hj; omega); have HO6 := Lib.hid hon6; have HOWN6 := Lib.hid (show w5.ownsRow w.heap.size 70 8 v' n ((List.range n).flatMap cells) by have := hown; rw [Nat.zero_add, List.nil_append] at this; exact this); clear hown hgrow hnew hos hon6)
  go_ret
  exact ⟨_, rfl, owns_sl HOWN6.out HSZ.out, fun k hk => World.ownsRow.lt HOWN6.out k hk, HO6.out, HOWN6.out⟩
set_option maxHeartbeats 2000000 in
set_option maxRecDepth 100000 in
theorem copyBytes (v : Value) (zs : List Int) (w : World) (hb : Bytes w v zs) (hl : zs.length ≤ 140737488355327) :
  Calls Tryz.prog 132 #[v] w fun e w' => ∃ v', e = .returned v' ∧ Bytes w' v' zs ∧ (∀ k, v'.ownBlock = some k → w.heap.size ≤ k ∧ k < w'.heap.size) ∧ Only (fun _ => False) w w' := by
 have hnil := fun (w : World) (a : Option Addr) (n c : Nat) => Lib.run_eql_slice_nil (P := Tryz.prog) w 67 5 a n c 0 0 Tryz.underlying67
 obtain ⟨i0, hi, hz0, hz1, hz2⟩ := info_parts info_u8
 have hsrc := Src.of_bytes hb
 obtain ⟨ao, cap, rfl, p1, p2, p3, p4, p5⟩ := id hb
 have hbt := p4
 unfold maxLen at p2
 cases ao with
 | none =>
  obtain rfl : cap = 0 := p3 rfl
  obtain rfl : zs = [] := List.eq_nil_of_length_eq_zero (by omega)
  have HB := Lib.hid hb
  clear hsrc hb p5 p4 hbt
  go_enter Tryz.func132, Tryz.ntmps132
  go_wp2
  go_ret
  exact ⟨_, rfl, HB.out, fun k hk => (by cases hk), Only.refl _ _⟩
 | some x =>
  have ho1 := (Only.refl (fun _ => False) w).alloc (.cells #[] 5)
  have hown0 : (w.alloc (.cells #[] 5)).ownsRow w.heap.size 5 1 (.slice (some ⟨w.heap.size, 0, none⟩) 0 0) 0 [] := World.ownsRow_made _ #[] 0 (Nat.le_refl _) (Nat.zero_le _) rfl
  have HSRC := Lib.hid (hsrc.alloc (.cells #[] 5))
  have HOWN := Lib.hid hown0
  have HO := Lib.hid ho1
  have HBT := Lib.hid hbt
  clear hsrc hown0 ho1 p3 p4 p5 hb hbt
  go_enter Tryz.func132, Tryz.ntmps132
  go_wp2_with (at_builtin; go_loud (refine wpList_append_src rfl (.tmp 5) (.tmp 6) 67 rfl 5 i0 (.int .u8 0) 1 1 Tryz.underlying67 hi hz0 hz1 hz2 rfl (by decide) w.heap.size (.slice (some ⟨w.heap.size, 0, none⟩) 0 0) 0 [] rfl (by exact HOWN.out) (by exact HO.out.size) (.slice (some x) zs.length cap) zs.length (zs.map (Value.int .u8)) rfl (by exact HSRC.out) (by unfold maxLen; omega) (by omega) ?_); intro v' w5 hown hgrow hnew; have hos := only_grownT hgrow; have hon6 := HO.out.trans hos (fun j hj hl => by have e : w.heap.size = j := Option.some.inj hj; omega); have HO6 := Lib.hid hon6; have HOWN6 := Lib.hid (show Row w5 w.heap.size v' zs by have := hown; rw [Nat.zero_add, List.nil_append] at this; exact this); clear hown hgrow hnew hos hon6)
  go_ret
  exact ⟨_, rfl, HOWN6.out.bytes HBT.out, fun k hk => HOWN6.out.ge k hk, HO6.out⟩
end Go.Proofs.YtgdgffnaknkbcaaGreatDoor
namespace Go.Proofs.YtgdgffnaknkbcaaGreatDoor
open Go
set_option linter.unusedVariables false
section
variable {P : Program} {ops : Array Oper} {Q : Exit → Act → World → Prop} {md : Region.Mode} {S : World → Prop} {x : Nat}
def Till (P : Program) (md : Region.Mode) (ops : Array Oper) (Q : Exit → Act → World → Prop) (S : World → Prop) (x : Nat) : Nat → Array Bool → Act → World → Prop
 | 0, l, a, w => Region.ready md ops l = [] ∧ Q .normal a w
 | n + 1, l, a, w => (Region.ready md ops l = [] → Q .normal a w) ∧ ∀ j, j ∈ Region.ready md ops l →
   wpOp P ops Q j (fun a' w' => ((l.setIfInBounds j true).getD x true = false → S w') ∧ Till P md ops Q S x n (l.setIfInBounds j true) a' w') a w
theorem Till.any {n : Nat} : ∀ {l : Array Bool} {a : Act} {w : World}, Till P md ops Q S x n l a w → wpAny P md ops Q n l a w := by
 induction n with
 | zero => exact fun h => h
 | succ n ih => exact fun h => ⟨h.1, fun j hj => wpOp_mono (fun _ _ k => ih k.2) (h.2 j hj)⟩
def Waits (md : Region.Mode) (ops : Array Oper) (x i : Nat) : Prop := ∃ o, ops[x]? = some o ∧ ∃ e ∈ o.after, Region.binds md e = true ∧ e.on = i
theorem Waits.not_ready {i : Nat} (h : Waits md ops x i) {l : Array Bool} (hi : i ∈ Region.ready md ops l) : x ∉ Region.ready md ops l := fun hx => by
 obtain ⟨o, ho, e, he, hb, rfl⟩ := h
 obtain ⟨-, o', ho', hall⟩ := mem_ready.1 hx
 obtain rfl : o = o' := by rw [ho] at ho'; exact Option.some.inj ho'
 have h1 := hall e he hb
 have h0 := (mem_ready.1 hi).1
 rcases Nat.lt_or_ge e.on l.size with hl | hl
 ·simp [hl] at h0 h1
  rw [h0] at h1
  cases h1
 ·simp [Array.getElem?_eq_none hl] at h1
theorem Till.first {i : Nat} {oi : Oper} {v : Value} (hi : ops[i]? = some oi) (hsel : ∀ (j : Nat) (o : Oper) cs b, ops[j]? = some o → o.op ≠ .select cs b) {Cl : Array Bool → Prop} (hw : ∀ l, Cl l → i ∈ Region.ready md ops l → x ∉ Region.ready md ops l) (hcl : ∀ l j, Cl l → j ∈ Region.ready md ops l → Cl (l.setIfInBounds j true))
  (hQ : ∀ c a w, Q (.panic c) (a.put oi.dst v) w → Q (.panic c) a w) (n : Nat) : ∀ (l : Array Bool) (a : Act) (w : World), Cl l → l.getD x true = false →
  (∀ j oj, ops[j]? = some oj → j ≠ i → l.getD j true = false → (∀ e ∈ oj.after, Region.binds md e = true → e.on ≠ i) → oi.apart ops oj = true) →
  i ∈ Region.ready md ops l → YieldsIf P ops S oi v a → S w → Till P md ops Q S x n (l.setIfInBounds i true) (a.put oi.dst v) w → Till P md ops Q S x (n + 1) l a w := by
 induction n with
 | zero =>
  intro l a w _ _ _ hr hy hS H
  refine ⟨fun e => (by rw [e] at hr; cases hr), fun j hj => ?_⟩
  rcases Nat.decEq j i with hji | hji
  ·have := ready_mono hj hji
   rw [H.1] at this
   cases this
  ·subst hji
   exact hy.wpOp hi hS ⟨fun _ => hS, H⟩
 | succ n ih =>
  intro l a w hc hx hap hr hy hS H
  refine ⟨fun e => (by rw [e] at hr; cases hr), fun j hj => ?_⟩
  rcases Nat.decEq j i with hji | hji
  ·have hjx : j ≠ x := fun e => hw l hc hr (e ▸ hj)
   have hix : i ≠ x := fun e => hw l hc hr (e ▸ hr)
   obtain ⟨hjl, oj, hoj, hall⟩ := mem_ready.1 hj
   have hno : ∀ e ∈ oj.after, Region.binds md e = true → e.on ≠ i := fun e he hb h => Waits.not_ready (x := j) ⟨oj, hoj, e, he, hb, h⟩ hr hj
   refine wpOp_mono (fun a' w' k => ?_) (wpOp_putIf hoj (hap j oj hoj hji hjl hno) (fun cs b => hsel i oi cs b hi) (fun cs b => hsel j oj cs b hoj) hQ hy (H.2 j (ready_mono hj hji)))
   obtain ⟨k1, k2, k3⟩ := k
   have hxl : (l.setIfInBounds j true).getD x true = false := by rw [getD_set_ne true hjx]; exact hx
   have hS' : S w' := k2 (by rw [getD_set_ne true hjx, getD_set_ne true hix]; exact hx)
   refine ⟨fun _ => hS', ih _ a' w' (hcl l j hc hj) hxl (fun m om hom hmi hml hm => ?_) (ready_mono hr (Ne.symm hji)) k1 hS' (by rw [Array.setIfInBounds_comm _ _ hji]; exact k3)⟩
   rcases Nat.decEq j m with hjm | hjm
   ·exact hap m om hom hmi (by rw [getD_set_ne true hjm] at hml; exact hml) hm
   ·subst hjm
    exact hap j om hom hmi hjl hm
  ·subst hji
   exact hy.wpOp hi hS ⟨fun _ => hS, H⟩
def waitsB (md : Region.Mode) (ops : Array Oper) (x i : Nat) : Bool := match ops[x]? with
 | some o => o.after.any (fun e => Region.binds md e && e.on == i)
 | none => false
theorem waits_of {i : Nat} (h : waitsB md ops x i = true) : Waits md ops x i := by
 unfold waitsB at h
 split at h
 ·rename_i o ho
  obtain ⟨e, he, hb⟩ := Array.any_eq_true'.1 h
  simp only [Bool.and_eq_true, beq_iff_eq] at hb
  exact ⟨o, ho, e, he, hb.1, hb.2⟩
 ·cases h
theorem Till.take {i : Nat} {oi : Oper} {v : Value} {n : Nat} {l : Array Bool} {a : Act} {w : World} (hi : ops[i]? = some oi) (hs : Region.noSelect ops = true) (hf : Region.free md ops l i = true) (hr : (Region.ready md ops l).contains i = true)
  (hw : waitsB md ops x i = true) (hx : l.getD x true = false) (hQ : ∀ c a w, Q (.panic c) (a.put oi.dst v) w → Q (.panic c) a w) (hy : YieldsIf P ops S oi v a) (hS : S w)
  (h : Till P md ops Q S x n (l.setIfInBounds i true) (a.put oi.dst v) w) : Till P md ops Q S x (n + 1) l a w :=
 Till.first (Cl := fun _ => True) hi (Region.noSelect_spec hs) (fun _ _ h => (waits_of hw).not_ready h) (fun _ _ _ _ => trivial) hQ n l a w trivial hx (Region.free_spec hi hf) (by simpa using hr) hy hS h
def Closed (md : Region.Mode) (ops : Array Oper) (l : Array Bool) : Prop := ∀ j o, ops[j]? = some o → l.getD j false = true → ∀ e ∈ o.after, Region.binds md e = true → l.getD e.on false = true
theorem Closed.step {l : Array Bool} (h : Closed md ops l) {j : Nat} (hj : j ∈ Region.ready md ops l) : Closed md ops (l.setIfInBounds j true) := fun k o ho hk e he hb => by
 rcases Nat.decEq j k with hjk | hjk
 ·rw [getD_set_ne false hjk] at hk
  exact getD_set_true (h k o ho hk e he hb)
 ·subst hjk
  obtain ⟨-, o', ho', hall⟩ := mem_ready.1 hj
  obtain rfl : o = o' := by rw [ho] at ho'; exact Option.some.inj ho'
  exact getD_set_true (hall e he hb)
def closedB (md : Region.Mode) (ops : Array Oper) (l : Array Bool) : Bool := (List.range ops.size).all fun j => match ops[j]? with
 | some o => !(l.getD j false) || o.after.all (fun e => !(Region.binds md e) || l.getD e.on false)
 | none => true
theorem closed_of {l : Array Bool} (h : closedB md ops l = true) : Closed md ops l := fun j o ho hj e he hb => by
 unfold closedB at h
 rw [List.all_eq_true] at h
 have h1 := h j (List.mem_range.2 (Array.getElem?_eq_some_iff.1 ho).1)
 rw [ho] at h1
 simp only [hj, Bool.not_true, Bool.false_or] at h1
 have h2 := Array.all_eq_true_iff_forall_mem.1 h1 e he
 simpa [hb] using h2
def pathB (md : Region.Mode) (ops : Array Oper) (i : Nat) : Nat → List Nat → Bool
 | x, [] => waitsB md ops x i
 | x, j :: r => waitsB md ops x j && pathB md ops i j r
theorem path_listed {i : Nat} {l : Array Bool} (hc : Closed md ops l) : ∀ {r : List Nat} {x : Nat}, pathB md ops i x r = true → l.getD x false = true → l.getD i false = true
 | [], x, h, hx => by
  obtain ⟨o, ho, e, he, hb, rfl⟩ := waits_of h
  exact hc x o ho hx e he hb
 | j :: r, x, h, hx => by
  unfold pathB at h
  rw [Bool.and_eq_true] at h
  obtain ⟨o, ho, e, he, hb, rfl⟩ := waits_of h.1
  exact path_listed hc h.2 (hc x o ho hx e he hb)
theorem path_not {i : Nat} {l : Array Bool} (hc : Closed md ops l) {r : List Nat} (h : pathB md ops i x r = true) (hi : i ∈ Region.ready md ops l) : x ∉ Region.ready md ops l := fun hx => by
 have h0 := (mem_ready.1 hi).1
 have h1 : l.getD i false = true := by
  cases r with
  | nil =>
   obtain ⟨o, ho, e, he, hb, rfl⟩ := waits_of (show waitsB md ops x i = true from h)
   obtain ⟨-, o', ho', hall⟩ := mem_ready.1 hx
   obtain rfl : o = o' := by rw [ho] at ho'; exact Option.some.inj ho'
   exact hall e he hb
  | cons j r =>
   unfold pathB at h
   rw [Bool.and_eq_true] at h
   obtain ⟨o, ho, e, he, hb, rfl⟩ := waits_of h.1
   obtain ⟨-, o', ho', hall⟩ := mem_ready.1 hx
   obtain rfl : o = o' := by rw [ho] at ho'; exact Option.some.inj ho'
   exact path_listed hc h.2 (hall e he hb)
 rcases Nat.lt_or_ge i l.size with hl | hl
 ·simp [hl] at h0 h1
  rw [h0] at h1
  cases h1
 ·simp [Array.getElem?_eq_none hl] at h1
theorem Till.via {i : Nat} {oi : Oper} {v : Value} {n : Nat} {l : Array Bool} {a : Act} {w : World} (r : List Nat) (hi : ops[i]? = some oi) (hs : Region.noSelect ops = true) (hf : Region.free md ops l i = true) (hr : (Region.ready md ops l).contains i = true)
  (hw : pathB md ops i x r = true) (hc : closedB md ops l = true) (hx : l.getD x true = false) (hQ : ∀ c a w, Q (.panic c) (a.put oi.dst v) w → Q (.panic c) a w) (hy : YieldsIf P ops S oi v a) (hS : S w)
  (h : Till P md ops Q S x n (l.setIfInBounds i true) (a.put oi.dst v) w) : Till P md ops Q S x (n + 1) l a w :=
 Till.first (Cl := Closed md ops) hi (Region.noSelect_spec hs) (fun _ hc' h => path_not hc' hw h) (fun _ _ hc' hj => hc'.step hj) hQ n l a w (closed_of hc) hx (Region.free_spec hi hf) (by simpa using hr) hy hS h
theorem Till.step {i : Nat} {o : Oper} {n : Nat} {l : Array Bool} {a : Act} {w : World} (hr : Region.ready md ops l = [i]) (ho : ops[i]? = some o)
  (h : ∀ K' : Act → World → Prop, Shut (∀ a w, ((l.setIfInBounds i true).getD x true = false → S w) → Till P md ops Q S x n (l.setIfInBounds i true) a w → K' a w) → if Region.wanted o (yielded ops a.tmps) = true then Oper.wp P o a w K' Q else K' (a.put o.dst undef) w) :
  Till P md ops Q S x (n + 1) l a w := by
 refine ⟨fun e => (by rw [hr] at e; cases e), fun j hj => ?_⟩
 rw [hr] at hj
 obtain rfl : j = i := by simpa using hj
 exact wpOp_step ho (fun K' hK => h K' (fun a w hS hW => hK a w ⟨hS, hW⟩))
theorem Till.done {l : Array Bool} {a : Act} {w : World} (hr : Region.ready md ops l = []) (h : Q .normal a w) : ∀ n, Till P md ops Q S x n l a w
 | 0 => ⟨hr, h⟩
 | _ + 1 => ⟨fun _ => h, by rw [hr]; simp⟩
theorem wp_till {id : Nat} {a : Act} {w : World} (x : Nat) (S : World → Prop) (hm : P.follows .mixedOrders = true) (h : Till P .any ops Q S x ops.size (Array.replicate ops.size false) a w.drew) : (Code.region id ops true).wp P Q a w :=
 wp_region_any hm h.any
end
end Go.Proofs.YtgdgffnaknkbcaaGreatDoor
