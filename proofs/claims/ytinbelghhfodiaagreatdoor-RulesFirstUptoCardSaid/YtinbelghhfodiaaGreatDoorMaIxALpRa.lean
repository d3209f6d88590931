import Derived.Shelf.Strings.IndexAnyAll
import Derived.Lib.OthersKept
import Derived.Deep.QuietTactic
import Derived.BigQuiet
import Derived.Laws.Runes
import Derived.Test.YtinbelghhfodiaaGreatDoorMaPolLKndW
import Derived.WalkMore
import Derived.Test.YtinbelghhfodiaaGreatDoorMaKndPRulA
import Derived.Test.YtinbelghhfodiaaGreatDoorMaLnkOPolD
import Derived.Test.YtinbelghhfodiaaGreatDoorMaClsGLpE
namespace Go.Proofs
open Go.Shelf
def Tryz.lays153_ren : Go.Shelf.Ren := ⟨fun | 119 => 194 | 137 => 193 | 152 => 185 | 153 => 177 | 217 => 197 | 224 => 195 | 225 => 196 | 226 => 186 | 227 => 187 | 228 => 188 | 266 => 201 | n => n, fun | 0 => 0 | 3 => 3 | 4 => 4 | 5 => 5 | 9 => 9 | 21 => 21 | 46 => 252 | 116 => 271 | 117 => 272 | 124 => 279 | n => n, fun | n => n⟩
set_option maxRecDepth 100000 in
theorem Tryz.lays153 : Go.Proofs.Lays.n153 Tryz.prog Tryz.lays153_ren := {
 mixed := by kernel_rfl
 f119 := Tryz.func194.trans (congrArg some (by kernel_rfl))
 f137 := Tryz.func193.trans (congrArg some (by kernel_rfl))
 f152 := Tryz.func185.trans (congrArg some (by kernel_rfl))
 f153 := Tryz.func177.trans (congrArg some (by kernel_rfl))
 f217 := Tryz.func197.trans (congrArg some (by kernel_rfl))
 f224 := Tryz.func195.trans (congrArg some (by kernel_rfl))
 f225 := Tryz.func196.trans (congrArg some (by kernel_rfl))
 f226 := Tryz.func186.trans (congrArg some (by kernel_rfl))
 f227 := Tryz.func187.trans (congrArg some (by kernel_rfl))
 f228 := Tryz.func188.trans (congrArg some (by kernel_rfl))
 f266 := Tryz.func201.trans (congrArg some (by kernel_rfl))
 t0 := Tryz.underlying0
 a0 := Tryz.isAgg0
 z0 := Tryz.sizeOf0
 v0 := Tryz.zeroValue0
 t3 := Tryz.underlying3
 a3 := Tryz.isAgg3
 z3 := Tryz.sizeOf3
 v3 := Tryz.zeroValue3
 t4 := Tryz.underlying4
 a4 := Tryz.isAgg4
 z4 := Tryz.sizeOf4
 v4 := Tryz.zeroValue4
 t5 := Tryz.underlying5
 a5 := Tryz.isAgg5
 z5 := Tryz.sizeOf5
 v5 := Tryz.zeroValue5
 t9 := Tryz.underlying9
 a9 := Tryz.isAgg9
 z9 := Tryz.sizeOf9
 v9 := Tryz.zeroValue9
 t21 := Tryz.underlying21
 a21 := Tryz.isAgg21
 z21 := Tryz.sizeOf21
 v21 := Tryz.zeroValue21
 t46 := Tryz.underlying252
 a46 := Tryz.isAgg252
 z46 := Tryz.sizeOf252
 v46 := Tryz.zeroValue252
 t116 := Tryz.underlying271
 a116 := Tryz.isAgg271
 z116 := Tryz.sizeOf271
 t117 := Tryz.underlying272
 a117 := Tryz.isAgg272
 z117 := Tryz.sizeOf272
 v117 := Tryz.zeroValue272
 t124 := Tryz.underlying279
 a124 := Tryz.isAgg279
 z124 := Tryz.sizeOf279
 v124 := Tryz.zeroValue279 }
def Tryz.lays152_ren : Go.Shelf.Ren := ⟨fun | 119 => 194 | 137 => 193 | 152 => 185 | 217 => 197 | 224 => 195 | 225 => 196 | 266 => 201 | n => n, fun | 0 => 0 | 3 => 3 | 4 => 4 | 5 => 5 | 9 => 9 | 21 => 21 | 46 => 252 | n => n, fun | n => n⟩
theorem Tryz.set153 : (Tryz.prog.info? 271).map (fun i => (i.zero, i.size)) = some (some (.agg (Array.replicate 256 (.bool false))), 256) := by kernel_rfl
end Go.Proofs
namespace Go.Proofs.YtinbelghhfodiaaGreatDoor
set_option maxHeartbeats 16000000
open Lib (hid)
open Go.RowKit
set_option linter.unusedVariables false
set_option linter.unusedSimpArgs false
def CH : ByteArray := ⟨#[46, 59, 91, 47, 60, 62]⟩
def chs : List UInt8 := [46, 59, 91, 47, 60, 62]
theorem dec_far {l : List UInt8} {x : UInt8} (hx : l[0]? = some x) (h : 128 ≤ x.toNat) :
  128 ≤ (Lib.decodeL l).1 ∧ ((Lib.decodeL l).1 < 55296 ∨ (57343 < (Lib.decodeL l).1 ∧ (Lib.decodeL l).1 ≤ 1114111)) ∧ 1 ≤ (Lib.decodeL l).2 ∧ (Lib.decodeL l).2 ≤ l.length ∧ ∀ k b, k < (Lib.decodeL l).2 → l[k]? = some b → 128 ≤ b.toNat := by
 have hg : ∀ k b, l[k]? = some b → l.getD k 0 = b := fun k b hb => by rw [List.getD_eq_getElem?_getD, hb]; rfl
 have hl : 0 < l.length := by
  cases l with
  | nil => simp at hx
  | cons _ _ => simp
 have e0 := hg 0 x hx
 have hk : ∀ k b, l[k]? = some b → b.toNat = (l.getD k 0).toNat := fun k b hb => by rw [hg k b hb]
 have h0 : 128 ≤ (l.getD 0 0).toNat := by rw [e0]; exact h
 rw [Lib.decodeL_N]
 have l0 := (l.getD 0 0).toNat_lt
 have l1 := (l.getD 1 0).toNat_lt
 have l2 := (l.getD 2 0).toNat_lt
 have l3 := (l.getD 3 0).toNat_lt
 rcases Lib.decodeN_shape l.length (l.getD 0 0).toNat (l.getD 1 0).toNat (l.getD 2 0).toNat (l.getD 3 0).toNat with ⟨c, e⟩ | ⟨c1, c2, c3, cv, e⟩ | ⟨c1, c2, c3, c4, cv, cs, e⟩ | ⟨c1, c2, c3, c4, c5, cv, cw, e⟩ | e
 ·omega
 ·rw [e]
  refine ⟨cv, .inl (by simp only; omega), by simp, by simp only; omega, fun k b hkn hb => ?_⟩
  simp only at hkn
  have := hk k b hb
  rcases (by omega : k = 0 ∨ k = 1) with rfl | rfl <;> omega
 ·rw [e]
  refine ⟨by simp only; omega, by simp only; omega, by simp, by simp only; omega, fun k b hkn hb => ?_⟩
  simp only at hkn
  have := hk k b hb
  rcases (by omega : k = 0 ∨ k = 1 ∨ k = 2) with rfl | rfl | rfl <;> omega
 ·rw [e]
  refine ⟨by simp only; omega, .inr (by simp only; omega), by simp, by simp only; omega, fun k b hkn hb => ?_⟩
  simp only at hkn
  have := hk k b hb
  rcases (by omega : k = 0 ∨ k = 1 ∨ k = 2 ∨ k = 3) with rfl | rfl | rfl | rfl <;> omega
 ·rw [e]
  refine ⟨by simp, .inr (by simp), by simp, by simp only; omega, fun k b hkn hb => ?_⟩
  simp only at hkn
  have := hk k b hb
  obtain rfl : k = 0 := by omega
  omega
theorem encode_last {r : Int} (h0 : 128 ≤ r) (hv : r < 55296 ∨ (57343 < r ∧ r ≤ 1114111)) : ∃ n x, 1 ≤ n ∧ n ≤ 3 ∧ ∃ h : n < (Utf8.encode r).size, (Utf8.encode r)[n]'h = x ∧ 128 ≤ x.toNat ∧ (Utf8.encode r).size = n + 1 := by
 obtain ⟨h2, h4, h⟩ := encode_facts r (by simp only [Utf8.valid, Bool.or_eq_true, Bool.and_eq_true, decide_eq_true_eq]; omega) h0
 exact ⟨(Utf8.encode r).size - 1, _, by omega, by omega, by omega, rfl, h (by omega), by omega⟩
theorem validRune (r : Int) (h0 : 0 ≤ r) (hv : r < 55296 ∨ (57343 < r ∧ r ≤ 1114111)) (w : World) :
  Calls Tryz.prog 194 #[.int .i32 r] w fun e w' => e = .returned (.bool true) ∧ w = w' := by
 go_enter Tryz.func194, Tryz.ntmps194
 by_cases h1 : r < 55296
 ·go_wp2
  go_ret
  exact ⟨rfl, rfl⟩
 ·have h2 : (57343 : Int) < r := by omega
  have h3 : r ≤ 1114111 := by omega
  go_wp2
  go_ret
  exact ⟨rfl, rfl⟩
theorem indexByte_no : ∀ {l : List UInt8} {x : UInt8}, (∀ b ∈ l, b ≠ x) → Lib.indexByte l x = -1
 | [], _, _ => rfl
 | b :: l, x, h => by
  have hb : (b == x) = false := beq_eq_false_iff_ne.2 (h b (by simp))
  rw [Lib.indexByte, hb, indexByte_no (fun c hc => h c (by simp [hc]))]
  rfl
theorem ch_far (m : Nat) (b : UInt8) (h : CH.data.toList[m]? = some b) : b.toNat < 128 := by
 have : b ∈ CH.data.toList := List.mem_of_getElem? h
 simp [CH] at this
 rcases this with rfl | rfl | rfl | rfl | rfl | rfl <;> decide
theorem ch_lt (i : Nat) (h : i < CH.size) : (CH[i]'h).toNat < 128 := ch_far i _ (Lib.data_getElem? CH i h)
theorem ixByte (s : ByteArray) (c : Int) (w : World) : Calls Tryz.prog 193 #[.string s, .int .u8 c] w fun e w' => e = .returned (.int .i64 (Lib.indexByte s.data.toList c.toNat.toUInt8)) ∧ w' = w :=
 Any.strings_IndexByte { Tryz.lays153 with } s c w
theorem ixByteNo (a : Nat) (x : UInt8) (h : 128 ≤ x.toNat) (w : World) : Calls Tryz.prog 193 #[.string (CH.extract a 6), .int .u8 x.toNat] w fun e w' => e = .returned (.int .i64 (-1)) ∧ w' = w := by
 refine (ixByte _ _ w).mono ?_
 rintro e w' ⟨rfl, hw⟩
 refine ⟨?_, hw⟩
 have he : (CH.extract a 6).data.toList = CH.data.toList.drop a := Lib.extract_to_end CH a
 rw [he, Lib.byte_back, indexByte_no]
 intro b hb
 obtain ⟨m, hm⟩ := List.getElem?_of_mem (List.mem_of_mem_drop hb)
 rintro rfl
 have := ch_far m b hm
 omega
set_option maxRecDepth 100000 in
theorem runeBad (w : World) : Calls Tryz.prog 185 #[.string CH, .int .i32 65533] w fun e w' => e = .returned (.int .i64 (-1)) ∧ Only (fun _ => False) w w' := by
 go_enter Tryz.func185, Tryz.ntmps185
 go_wp2
 go_loopg [5, 6] 6 (fun g _ _ wx => ∃ i : Nat, i + g = 6 ∧ wx = w.iter CH i)
 case atStart => exact ⟨0, by omega, rfl⟩
 case round =>
  obtain ⟨i, hig, rfl⟩ := hrel
  cases gk with
  | zero =>
   obtain rfl : i = 6 := by omega
   have hnx := fun ty => run_next_end (P := Tryz.prog) w CH 6 ty (by decide)
   go_wp2
   go_ret
   exact ⟨rfl, ⟨rfl, rfl, rfl, by simp [World.iter], fun k hk _ => by rw [World.iter, World.alloc]; exact Array.getElem?_push_lt hk |>.trans (Array.getElem?_eq_getElem hk).symm⟩⟩
  | succ g =>
   have hi : i < CH.size := by show i < 6; omega
   have hx128 := ch_lt i hi
   have hnx := fun ty => run_next_ascii (P := Tryz.prog) w CH i ty hi hx128
   obtain ⟨z, hz⟩ : ∃ z : Int, (((CH[i]'hi).toNat : Nat) : Int) = z := ⟨_, rfl⟩
   have hne : ¬ z = 65533 := by omega
   rw [hz] at hnx
   clear hz hx128
   go_wp2
   go_roundg g
   case measure => omega
   case rel => exact ⟨i + 1, by omega, rfl⟩
set_option maxRecDepth 100000 in
theorem runeFar1 (r : Int) (rs : ByteArray) (x : UInt8) (h0 : 128 ≤ r) (hr : ¬ r = 65533) (hv : r < 55296 ∨ (57343 < r ∧ r ≤ 1114111)) (w : World) (hrs : Utf8.encode r = rs) (hsz : rs.size = 2) (hx : rs[1]'(by omega) = x) (hx128 : 128 ≤ x.toNat) :
  Calls Tryz.prog 185 #[.string CH, .int .i32 r] w fun e w' => e = .returned (.int .i64 (-1)) ∧ Only (fun _ => False) w w' := by
 have h00 : (0 : Int) ≤ r := by omega
 have hn128 : ¬ r < 128 := by omega
 have hV := fun w => validRune r h00 hv w
 have hlt : 1 < rs.size := by omega
 clear h0 hv h00
 go_enter Tryz.func185, Tryz.ntmps185
 go_wp2_with (go_at_call 194; refine (hV _).mono ?_; rintro e w' ⟨rfl, rfl⟩)
 go_step3
 rename_i hq1 hq2
 clear hq1 hq2
 clear hV
 go_wp2
 go_loopg [9, 10, 11, 12] 0 (fun _ v9 _ _ _ wx => v9 = .int .i64 1 ∧ wx = w)
 case atStart => exact ⟨rfl, rfl⟩
 case round =>
  obtain ⟨rfl, rfl⟩ := hrel
  have hch : CH.size = 6 := rfl
  have hw2 : IntKind.i64.wrap 2 = 2 := by decide
  have hc1 : ∀ h, CH[1]'h = 59 := fun _ => rfl
  have hne : ¬ ((59 : Int) = (x.toNat : Int)) := by omega
  go_wp2
  have hx1 : ∀ h, rs[1]'h = x := fun _ => hx
  have HB := fun a w => ixByteNo a x hx128 w
  clear hx
  go_step3
  go_wp2
  go_quiet (fail)
  go_wp2
  go_quiet ((go_at_call 193; exact (HB _ _).mono (fun _ _ h => ⟨h.1, _, h.2⟩)))
  go_wp2
  simp only [Exit.noGoto, Exit.inBlock, Exit.then]
  go_ret
  exact ⟨rfl, (Only.refl _ _).drewN _⟩
set_option maxRecDepth 100000 in
theorem runeFar2 (r : Int) (rs : ByteArray) (x : UInt8) (h0 : 128 ≤ r) (hr : ¬ r = 65533) (hv : r < 55296 ∨ (57343 < r ∧ r ≤ 1114111)) (w : World) (hrs : Utf8.encode r = rs) (hsz : rs.size = 3) (hx : rs[2]'(by omega) = x) (hx128 : 128 ≤ x.toNat) :
  Calls Tryz.prog 185 #[.string CH, .int .i32 r] w fun e w' => e = .returned (.int .i64 (-1)) ∧ Only (fun _ => False) w w' := by
 have h00 : (0 : Int) ≤ r := by omega
 have hn128 : ¬ r < 128 := by omega
 have hV := fun w => validRune r h00 hv w
 have hlt : 2 < rs.size := by omega
 clear h0 hv h00
 go_enter Tryz.func185, Tryz.ntmps185
 go_wp2_with (go_at_call 194; refine (hV _).mono ?_; rintro e w' ⟨rfl, rfl⟩)
 go_step3
 rename_i hq1 hq2
 clear hq1 hq2
 clear hV
 go_wp2
 go_loopg [9, 10, 11, 12] 0 (fun _ v9 _ _ _ wx => v9 = .int .i64 2 ∧ wx = w)
 case atStart => exact ⟨rfl, rfl⟩
 case round =>
  obtain ⟨rfl, rfl⟩ := hrel
  have hch : CH.size = 6 := rfl
  have hw2 : IntKind.i64.wrap 3 = 3 := by decide
  have hc1 : ∀ h, CH[2]'h = 91 := fun _ => rfl
  have hne : ¬ ((91 : Int) = (x.toNat : Int)) := by omega
  go_wp2
  have hx1 : ∀ h, rs[2]'h = x := fun _ => hx
  have HB := fun a w => ixByteNo a x hx128 w
  clear hx
  go_step3
  go_wp2
  go_quiet (fail)
  go_wp2
  go_quiet ((go_at_call 193; exact (HB _ _).mono (fun _ _ h => ⟨h.1, _, h.2⟩)))
  go_wp2
  simp only [Exit.noGoto, Exit.inBlock, Exit.then]
  go_ret
  exact ⟨rfl, (Only.refl _ _).drewN _⟩
set_option maxRecDepth 100000 in
theorem runeFar3 (r : Int) (rs : ByteArray) (x : UInt8) (h0 : 128 ≤ r) (hr : ¬ r = 65533) (hv : r < 55296 ∨ (57343 < r ∧ r ≤ 1114111)) (w : World) (hrs : Utf8.encode r = rs) (hsz : rs.size = 4) (hx : rs[3]'(by omega) = x) (hx128 : 128 ≤ x.toNat) :
  Calls Tryz.prog 185 #[.string CH, .int .i32 r] w fun e w' => e = .returned (.int .i64 (-1)) ∧ Only (fun _ => False) w w' := by
 have h00 : (0 : Int) ≤ r := by omega
 have hn128 : ¬ r < 128 := by omega
 have hV := fun w => validRune r h00 hv w
 have hlt : 3 < rs.size := by omega
 clear h0 hv h00
 go_enter Tryz.func185, Tryz.ntmps185
 go_wp2_with (go_at_call 194; refine (hV _).mono ?_; rintro e w' ⟨rfl, rfl⟩)
 go_step3
 rename_i hq1 hq2
 clear hq1 hq2
 clear hV
 go_wp2
 go_loopg [9, 10, 11, 12] 0 (fun _ v9 _ _ _ wx => v9 = .int .i64 3 ∧ wx = w)
 case atStart => exact ⟨rfl, rfl⟩
 case round =>
  obtain ⟨rfl, rfl⟩ := hrel
  have hch : CH.size = 6 := rfl
  have hw2 : IntKind.i64.wrap 4 = 4 := by decide
  have hc1 : ∀ h, CH[3]'h = 47 := fun _ => rfl
  have hne : ¬ ((47 : Int) = (x.toNat : Int)) := by omega
  go_wp2
  have hx1 : ∀ h, rs[3]'h = x := fun _ => hx
  have HB := fun a w => ixByteNo a x hx128 w
  clear hx
  go_step3
  go_wp2
  go_quiet (fail)
  go_wp2
  go_quiet ((go_at_call 193; exact (HB _ _).mono (fun _ _ h => ⟨h.1, _, h.2⟩)))
  go_wp2
  simp only [Exit.noGoto, Exit.inBlock, Exit.then]
  go_ret
  exact ⟨rfl, (Only.refl _ _).drewN _⟩
theorem runeFar (r : Int) (h0 : 128 ≤ r) (hv : r < 55296 ∨ (57343 < r ∧ r ≤ 1114111)) (w : World) : Calls Tryz.prog 185 #[.string CH, .int .i32 r] w fun e w' => e = .returned (.int .i64 (-1)) ∧ Only (fun _ => False) w w' := by
 by_cases hr : r = 65533
 ·subst hr
  exact runeBad w
 obtain ⟨n, x, hn1, hn3, hlt, hx, hx128, hsz⟩ := encode_last h0 hv
 rcases (by omega : n = 1 ∨ n = 2 ∨ n = 3) with rfl | rfl | rfl
 ·exact runeFar1 r _ x h0 hr hv w rfl hsz hx hx128
 ·exact runeFar2 r _ x h0 hr hv w rfl hsz hx hx128
 ·exact runeFar3 r _ x h0 hr hv w rfl hsz hx hx128
theorem NoAny_far {s chars : List UInt8} {i n : Nat} (h : Lib.NoAny s chars i) (hs : ∀ k b, i ≤ k → k < i + n → s[k]? = some b → chars.contains b = false) : Lib.NoAny s chars (i + n) := fun j b hj hb => by
 by_cases e : j < i
 ·exact h j b e hb
 ·exact hs j b (by omega) hj hb
theorem runeNear (r : Int) (h0 : 0 ≤ r) (h1 : r < 128) (w : World) : Calls Tryz.prog 185 #[.string CH, .int .i32 r] w fun e w' => e = .returned (.int .i64 (Lib.indexByte CH.data.toList r.toNat.toUInt8)) ∧ w' = w :=
 Any.strings_IndexRune_ascii { Tryz.lays153 with } CH r w h0 h1
theorem iter_only {w wr : World} (ho : Only (fun _ => False) w wr) (s : ByteArray) (i : Nat) : Only (fun _ => False) w (wr.iterAt w.heap.size s i) :=
 ⟨ho.os, ho.tape, ho.output, by rw [Lib.iterAt_size]; exact ho.size, fun k hk hn => by rw [Lib.iterAt_other wr w.heap.size k s i (by omega)]; exact ho.block k hk hn⟩
set_option maxRecDepth 100000 in
theorem anyShort (s : ByteArray) (w : World) (h8 : s.size ≤ 8) : Calls Tryz.prog 177 #[.string s, .string CH] w fun e w' => e = .returned (.int .i64 (Lib.indexAny s.data.toList CH.data.toList)) ∧ Only (fun _ => False) w w' := by
 have hemp : CH.toList.isEmpty = false := by rw [Lib.toList_data]; rfl
 have hch : CH.size = 6 := rfl
 have h8z : decide ((8 : Int) < (s.size : Int)) = false := decide_eq_false (by omega)
 have C1 := fun n w => Any.strings_shouldUseASCIISet (P := Tryz.prog) (ρ := Tryz.lays153_ren) { Tryz.lays153 with } n w
 go_enter Tryz.func177, Tryz.ntmps177
 go_wp2_with (go_at_call 186; refine (C1 _ _).mono ?_; rintro e w' ⟨rfl, hw⟩; rw [hw, h8z])
 clear C1 h8z
 go_loopw [9, 10] (fun _ _ wr => ∃ i : Nat, i ≤ s.size ∧ wr.heap[w.heap.size]? = some (.stringIter s i) ∧ Only (fun _ => False) w wr ∧ Lib.NoAny s.data.toList CH.data.toList i) (fun _ _ wr => s.size - wr.iterPos w.heap.size)
 case atStart => exact ⟨0, by omega, World.iter_heap w s 0, (Only.refl _ _).alloc _, Lib.NoAny.zero _ _⟩
 case round =>
  obtain ⟨i, hig, hit, ho, hno⟩ := hrel
  have HN : Aside (Lib.NoAny s.data.toList CH.data.toList i) := hno
  clear hno
  by_cases hi : i < s.size
  ·obtain ⟨x, hx⟩ : ∃ x : UInt8, s[i]'hi = x := ⟨_, rfl⟩
   have hxl : s.data.toList[i]? = some x := by rw [← hx]; exact Lib.data_getElem? s i hi
   have hm : ∀ d, 1 ≤ d → s.size - (i + d) < s.size - wr.iterPos w.heap.size := by intro d hd; simp only [World.iterPos, hit]; omega
   by_cases h128 : x.toNat < 128
   ·have hnx : ∀ ty, (Instr.next (.pointer (some ⟨w.heap.size, 0, none⟩)) true ty).run Tryz.prog wr = .ok (.tuple #[.bool true, .int .i64 i, .int .i32 (x.toNat : Int)]) (wr.iterAt w.heap.size s (i + 1)) := fun ty => by rw [Lib.run_next_ascii_at wr w.heap.size s i ty hit hi (by rw [hx]; exact h128), hx]
    have hoa : Only (fun _ => False) w (wr.iterAt w.heap.size s (i + 1)) := iter_only ho _ _
    have hita := Lib.iterAt_heap wr w.heap.size s i (i + 1) hit
    have hma := hm 1 (by omega)
    generalize wr.iterAt w.heap.size s (i + 1) = wa at *
    have Hx : Aside (s.data.toList[i]? = some x) := hxl
    have Hma := hid hma
    clear hxl hx hm hma ho hit
    have hcon := Lib.contains_iff_indexByte CH.data.toList x
    have hback : ((x.toNat : Int)).toNat.toUInt8 = x := by simp
    have R := fun w => runeNear (x.toNat : Int) (by omega) (by omega) w
    cases hin : CH.data.toList.contains x
    ·rw [hin] at hcon
     have hlt : ¬ ((0 : Int) ≤ Lib.indexByte CH.data.toList x) := of_decide_eq_false hcon.symm
     clear hcon
     go_wp2_with (go_at_call 185; refine (R _).mono ?_; rintro e w' ⟨rfl, hw⟩; rw [hw, hback])
     go_roundw
     case measure => rw [World.iterPos, hita]; exact Hma.out
     case rel => exact ⟨i + 1, by omega, hita, hoa, HN.out.succ Hx.out hin⟩
    ·rw [hin] at hcon
     have hge : (0 : Int) ≤ Lib.indexByte CH.data.toList x := of_decide_eq_true hcon.symm
     clear hcon
     go_wp2_with (go_at_call 185; refine (R _).mono ?_; rintro e w' ⟨rfl, hw⟩; rw [hw, hback])
     go_ret
     exact ⟨by rw [Lib.indexAny_hit HN.out Hx.out hin]; rfl, hoa⟩
   ·have hd0 : (s.data.toList.drop i)[0]? = some x := by rw [List.getElem?_drop]; exact hxl
    obtain ⟨hc1, hc2, hn1, hn2, hfar⟩ := dec_far hd0 (by omega)
    rw [Lib.decodeL_drop] at hc1 hc2 hn1 hn2 hfar
    have hn2' : i + (Utf8.decode s i).2 ≤ s.size := by rw [List.length_drop, ← Lib.size_eq] at hn2; omega
    have hno2 : Lib.NoAny s.data.toList CH.data.toList (i + (Utf8.decode s i).2) := NoAny_far HN.out (fun k b hk1 hk2 hb => by
     have h1 := hfar (k - i) b (by omega) (by rw [List.getElem?_drop, show i + (k - i) = k by omega]; exact hb)
     cases hcc : CH.data.toList.contains b with
     | false => rfl
     | true =>
      obtain ⟨m, hm2⟩ := List.getElem?_of_mem (List.contains_iff_mem.1 hcc)
      have := ch_far m b hm2
      omega)
    have hnx : ∀ ty, (Instr.next (.pointer (some ⟨w.heap.size, 0, none⟩)) true ty).run Tryz.prog wr = .ok (.tuple #[.bool true, .int .i64 i, .int .i32 ((Utf8.decode s i).1 : Int)]) (wr.iterAt w.heap.size s (i + (Utf8.decode s i).2)) := fun ty => by rw [Lib.run_next_any_at wr w.heap.size s i ty hit hi]
    have hma := hm (Utf8.decode s i).2 hn1
    obtain ⟨c, hc⟩ : ∃ c : Int, ((Utf8.decode s i).1 : Int) = c := ⟨_, rfl⟩
    have hc128 : 128 ≤ c := by omega
    have hcv : c < 55296 ∨ (57343 < c ∧ c ≤ 1114111) := by omega
    rw [hc] at hnx
    obtain ⟨n, hn⟩ : ∃ n, (Utf8.decode s i).2 = n := ⟨_, rfl⟩
    rw [hn] at hnx hma hno2 hn2'
    clear hfar hn1 hn2 hc1 hc2 hc hn hd0 h128 hxl hx hm
    have hoa : Only (fun _ => False) w (wr.iterAt w.heap.size s (i + n)) := iter_only ho _ _
    have hita := Lib.iterAt_heap wr w.heap.size s i (i + n) hit
    generalize wr.iterAt w.heap.size s (i + n) = wa at *
    have Hma := hid hma
    have HN2 := hid hno2
    have HN2' := hid hn2'
    clear hma hno2 ho hit hn2'
    have R := fun w => runeFar c hc128 hcv w
    clear hc128 hcv
    go_wp2_with (go_at_call 185; refine (R _).mono ?_; rintro e w' ⟨rfl, hw⟩)
    have hs1 := hw.heap hita (fun h => h)
    go_roundw
    case measure => rw [World.iterPos, hs1]; exact Hma.out
    case rel => exact ⟨i + n, HN2'.out, hs1, hoa.trans hw (fun _ h => h.elim), HN2.out⟩
  ·have hnx := fun ty => Lib.run_next_end_at (P := Tryz.prog) wr w.heap.size s i ty hit hi
   go_wp2
   go_ret
   obtain rfl : i = s.size := by omega
   exact ⟨by rw [Lib.indexAny_none (by rw [← Lib.size_eq]; exact HN.out)]; rfl, ho⟩
theorem anyAt (s : ByteArray) (w : World) (hs : s.size < 4294967281) : Calls Tryz.prog 177 #[.string s, .string CH] w fun e w' => e = .returned (.int .i64 (Lib.indexAny s.data.toList CH.data.toList)) ∧ Only (fun _ => False) w w' := by
 by_cases h8 : s.size ≤ 8
 ·exact anyShort s w h8
 ·refine (Any.strings_IndexAny_long Tryz.lays153 (zero_of_info Tryz.set153).1 (zero_of_info Tryz.set153).2 s CH w (by decide) (by omega) hs (by decide) ch_far).mono ?_
  rintro e w' ⟨h1, h2⟩
  exact ⟨h1, h2 ▸ ((Only.refl _ _).alloc _).alloc _⟩
theorem contAny (s : ByteArray) (w : World) (hs : s.size < 4294967281) : Calls Tryz.prog 156 #[.string s, .string CH] w fun e w' => e = .returned (.bool (Lib.containsAny s.data.toList CH.data.toList)) ∧ Only (fun _ => False) w w' := by
 have C := anyAt s w hs
 go_enter Tryz.func156, Tryz.ntmps156
 go_wp2_with (go_at_call 177; refine C.mono ?_; rintro e w' ⟨rfl, hw⟩)
 go_ret
 exact ⟨rfl, hw⟩
theorem any_bad : ∀ l : List UInt8, Lib.containsAny l CH.data.toList = (numsL l).any badC
 | [] => rfl
 | b :: l => by
  have ih := any_bad l
  have hge := Lib.indexAny_ge CH.data.toList l
  have hb : CH.data.toList.contains b = badC (b.toNat : Int) := by
   have h : ∀ c : UInt8, (b == c) = ((b.toNat : Int) == (c.toNat : Int)) := fun c => by
    rw [Bool.eq_iff_iff, beq_iff_eq, beq_iff_eq]
    exact ⟨fun e => by rw [e], fun e => UInt8.toNat_inj.1 (by omega)⟩
   show List.contains [46, 59, 91, 47, 60, 62] b = _
   simp only [List.contains_cons, List.contains_nil, Bool.or_false, h]
   rfl
  have e : (numsL (b :: l)).any badC = (badC (b.toNat : Int) || (numsL l).any badC) := rfl
  rw [e, ← hb, ← ih]
  unfold Lib.containsAny
  rw [Lib.indexAny]
  cases CH.data.toList.contains b with
  | true => rfl
  | false =>
   rw [if_neg Bool.false_ne_true, Bool.false_or]
   by_cases h1 : Lib.indexAny l CH.data.toList = -1
   ·rw [h1]; rfl
   ·rw [if_neg (by simpa using h1)]
    congr 1
    apply propext
    omega
theorem plain_any (s : ByteArray) (h : s.size ≤ 256) : plainN (nums s) = (!s.toList.isEmpty && !Lib.containsAny s.data.toList CH.data.toList) := by
 rw [any_bad]
 unfold plainN
 have hl : (nums s).length = s.size := nums_len s
 have e1 : decide (1 ≤ (nums s).length) = !s.toList.isEmpty := by
  rw [hl, Lib.toList_data]
  cases hd : s.data.toList with
  | nil => have := Lib.size_eq s; rw [hd, List.length_nil] at this; rw [this]; rfl
  | cons _ _ => have := Lib.size_eq s; rw [hd, List.length_cons] at this; rw [this]; simp
 have e2 : decide ((nums s).length ≤ 256) = true := by rw [hl]; exact decide_eq_true h
 rw [e1, e2, Bool.and_true, List.not_any_eq_all_not]
 rfl
set_option maxRecDepth 100000 in
theorem pIsName (s : ByteArray) (w : World) (h : s.size ≤ 256) : Calls Tryz.prog 132 #[.string s] w fun e w' => e = .returned (.bool (plainN (nums s))) ∧ Only (fun _ => False) w w' := by
 rw [plain_any s h]
 have C := contAny s w (by omega)
 have C2 : Calls Tryz.prog 156 #[.string s, .string ⟨#[46, 59, 91, 47, 60, 62]⟩] w _ := C
 clear C
 go_enter Tryz.func132, Tryz.ntmps132
 cases he : s.toList.isEmpty
 ·go_wp2_with (go_at_call 156; refine C2.mono ?_; rintro e w' ⟨rfl, hw⟩)
  go_ret
  exact ⟨rfl, hw⟩
 ·go_wp2
  go_ret
  exact ⟨rfl, Only.refl _ _⟩
def ParamsTo (w : World) (s : ByteArray) (e : Ending) (w' : World) : Prop :=
 (e = .returned (.tuple #[.slice none 0 0, .int .i64 0]) ∧ Meth (nums s) ([], zeroT, 80) ∧ Only (fun _ => False) w w') ∨
 ∃ v l n zs, e = .returned (.tuple #[v, .int .i64 ((n : Nat) : Int)]) ∧ 0 < n ∧ n ≤ s.size ∧ l.length ≤ 16 ∧ nums s = 40 :: zs ∧ Par zs l (41 :: nums (s.extract n s.size)) ∧ Only (fun _ => False) w w' ∧ TRow w' w.heap.size v l
theorem head_is {zs : List Int} {c : Int} (h : headIs c zs = true) : ∃ q, zs = c :: q := by
 unfold headIs at h
 cases zs with
 | nil => simp at h
 | cons x q => simp at h; exact ⟨q, by rw [h]⟩
theorem head_not {zs : List Int} {c : Int} (h : headIs c zs = false) : ∀ x q, zs = x :: q → x ≠ c := by
 unfold headIs at h
 intro x q e
 subst e
 simpa using h
set_option maxRecDepth 100000 in
theorem progParams (s : ByteArray) (w : World) (hs : s.size ≤ 281474976710656) :
  Calls Tryz.prog 83 #[.string s] w (ParamsTo w s) := by
 obtain ⟨i0, hi, hz0, hz1, hz2⟩ := info_parts info_type
 have ch := hasHead s 40 w
 rw [show (((40 : UInt8).toNat : Nat) : Int) = 40 from rfl] at ch
 cases hh : headIs 40 (nums s) with
 | false =>
  have HM : Hid (Meth (nums s) ([], zeroT, 80)) := hid (.inl ⟨fun ⟨q, e⟩ => head_not hh 40 q e rfl, rfl⟩)
  rw [hh] at ch
  have CH := hid ch
  clear ch hh
  go_enter Tryz.func83, Tryz.ntmps83
  go_wp2_with (fail)
  refine CH.out.mono ?_
  rintro e w1 ⟨rfl, rfl⟩
  go_wp2
  go_ret2
  exact .inl ⟨rfl, HM.out, Only.refl _ _⟩
 | true =>
  obtain ⟨zs, hzs⟩ := head_is hh
  rw [hh] at ch
  have CH := hid ch
  have HZ := hid hzs
  have hsl : zs.length + 1 = s.size := by rw [← nums_len, hzs]; rfl
  have HSL := hid hsl
  clear ch hh hzs
  go_enter Tryz.func83, Tryz.ntmps83
  go_wp2_with (fail)
  refine CH.out.mono ?_
  rintro e w1 ⟨rfl, rfl⟩
  go_wp2
  go_loopw [4, 5, 11] (fun lv av iv wr => ∃ (l : List TypeV) (a j : Nat), av = .int .i64 a ∧ iv = .int .i64 j ∧ j ≤ 17 ∧ l.length = j ∧ 1 ≤ a ∧ a ≤ s.size ∧ TRow wr w.heap.size lv l ∧ Only (fun _ => False) w wr ∧ (j ≤ 16 → Par zs l ((nums s).drop a)) ∧ (j = 17 → Meth (nums s) ([], zeroT, 80))) (fun _ _ iv _ => 17 - (intOf iv).toNat)
  case atStart => exact ⟨[], 1, 0, rfl, rfl, by omega, rfl, by omega, by omega, TRow.nil _ _, Only.refl _ _, fun _ => by rw [HZ.out]; exact Par.nil zs, fun h => by omega⟩
  case round =>
   obtain ⟨l, a, j, rfl, rfl, hj, hlj, ha1, ha2, hrow, hon, hpar, hmeth⟩ := hrel
   have HPAR := hid hpar
   have HMETH := hid hmeth
   have HROW := hid hrow
   have HON := hid hon
   have HLJ := hid hlj
   obtain ⟨al, cl, rfl, l1, l2, l3, -⟩ := id hrow.types
   have HTY := hid hrow.types
   clear hpar hmeth hrow hon l3 hlj
   have hazz : (a : Int) ≤ (s.size : Int) := by omega
   have ha0 : (0 : Int) ≤ (a : Int) := by omega
   by_cases h17 : j < 17
   ·have hjz : (j : Int) < 17 := by omega
    obtain ⟨x, hx⟩ : ∃ x, x = s.extract a s.size := ⟨_, rfl⟩
    have hxs : x.size + a = s.size := by rw [hx]; simp; omega
    have hxn : nums x = (nums s).drop a := by rw [hx, nums_rest]
    have ch := fun w => hasHead x 41 w
    rw [show (((41 : UInt8).toNat : Nat) : Int) = 41 from rfl] at ch
    have HXN := hid hxn
    have HXS := hid hxs
    have hp := HPAR.out (by omega)
    rw [← hxn] at hp
    clear hxn
    cases hc : headIs 41 (nums x) with
    | true =>
     obtain ⟨q, hq⟩ := head_is hc
     have hxp : 0 < x.size := by rw [← nums_len, hq]; simp
     have hrest : nums (s.extract (a + 1) s.size) = q := by
      rw [nums_rest, ← List.drop_drop, ← HXN.out, hq]; rfl
     have HP : Hid (Par zs l (41 :: nums (s.extract (a + 1) s.size))) := hid (by rw [hrest, ← hq]; exact hp)
     have hale : (a : Int) + 1 = ((a + 1 : Nat) : Int) := by omega
     have HAL := hid hale
     have has : a + 1 ≤ s.size := by omega
     have haz : (a : Int) ≤ 281474976710656 := by omega
     rw [hc] at ch
     have CHH := hid ch
     clear ch hc hq hrest hp hale hxp
     go_wp2_with (fail)
     rw [← hx]
     refine (CHH.out _).mono ?_
     rintro e w2 ⟨rfl, rfl⟩
     go_wp2
     go_ret2
     exact .inr ⟨_, l, a + 1, zs, by first | rfl | rw [HAL.out], by omega, has, by have := HLJ.out; omega, HZ.out, HP.out, HON.out, HROW.out⟩
    | false =>
     rw [hc] at ch
     have CHH := hid ch
     have hne := head_not hc
     have cf := fun w => progFirst x w (by omega)
     cases hf : fieldZ (nums x) with
     | none =>
      have HM : Hid (Meth (nums s) ([], zeroT, 80)) := by
       refine hid (.inr ⟨zs, l, nums x, HZ.out, hp, fun c q e hc' t r' hf' => ?_, ?_⟩)
       ·rw [← e, hf] at hf'; cases hf'
       ·cases hq : nums x with
        | nil => rfl
        | cons c q =>
         show _ = (if c = 41 then _ else _)
         rw [if_neg (hne c q hq)]
      rw [hf] at cf
      unfold FlatTo typF sizeF zeroT valT at cf
      simp only at cf
      have CF := hid cf
      clear ch hc hne hf hp cf
      go_wp2_with (fail)
      rw [← hx]
      refine (CHH.out _).mono ?_
      rintro e w2 ⟨rfl, rfl⟩
      go_wp2_with (fail)
      rw [← hx]
      refine (CF.out _).mono ?_
      rintro e w3 ⟨rfl, ho3⟩
      have HON3 := hid (HON.out.trans ho3 (fun _ h _ => h))
      clear ho3 CF CHH
      go_wp2
      go_ret2
      exact .inl ⟨rfl, HM.out, HON3.out.alloc _⟩
     | some p =>
      obtain ⟨u, r'⟩ := p
      obtain ⟨n, hn, hlt⟩ := field_rest hf
      rw [nums_len] at hlt
      have hfc := hf
      rw [hf] at cf
      unfold FlatTo typF sizeF valT at cf
      simp only at cf
      obtain ⟨z, hz⟩ : ∃ z : Nat, z = x.size - r'.length := ⟨_, rfl⟩
      rw [← hz] at cf
      have hzz0 : ((z : Int) == 0) = false := by rw [beq_eq_false_iff_ne]; omega
      have hdrop : (nums s).drop (a + z) = r' := by
       rw [← List.drop_drop, ← HXN.out, hn]
       have hle := congrArg List.length hn
       rw [List.length_drop, nums_len] at hle
       by_cases hnx : n ≤ x.size
       ·congr 1; omega
       ·rw [List.drop_of_length_le (by rw [nums_len]; omega), List.drop_of_length_le (by rw [nums_len]; omega)]
      have HDROP := hid hdrop
      have haz : a + z ≤ s.size := by omega
      have hazi : (a : Int) + (z : Int) = ((a + z : Nat) : Int) := by omega
      have HAZI := hid hazi
      have hzle : (z : Int) ≤ 281474976710656 := by omega
      have hale : (a : Int) ≤ 281474976710656 := by omega
      obtain ⟨c, q, hcq⟩ : ∃ c q, nums x = c :: q := by
       cases hq : nums x with
       | nil => rw [hq] at hf; cases hf
       | cons c q => exact ⟨c, q, rfl⟩
      have HP2 : Hid (j + 1 ≤ 16 → Par zs (l ++ [u]) ((nums s).drop (a + z))) := by
       refine hid fun h16 => ?_
       rw [hdrop]
       rw [hcq] at hp hf
       exact hp.snoc (hne c q hcq) hf (by rw [HLJ.out]; omega)
      have HM2 : Hid (j + 1 = 17 → Meth (nums s) ([], zeroT, 80)) := by
       refine hid fun h16 => ?_
       refine .inr ⟨zs, l, nums x, HZ.out, hp, fun c' q' e hc' t r'' hf' => by rw [HLJ.out]; omega, ?_⟩
       rw [hcq]
       show _ = (if c = 41 then _ else _)
       rw [if_neg (hne c q hcq)]
      have CF := hid cf
      clear ch hc hne hf hp cf hfc hn hlt hz hdrop hazi hcq
      go_wp2_with (fail)
      rw [← hx]
      refine (CHH.out _).mono ?_
      rintro e w2 ⟨rfl, rfl⟩
      go_wp2_with (fail)
      rw [← hx]
      refine (CF.out _).mono ?_
      rintro e w3 ⟨rfl, ho3⟩
      have hal := (Only.refl (fun _ => False) w3).alloc (.cells #[.int .i64 u.k, .string u.name, .int .i64 u.dims, .int .i64 u.elem, .int .i64 u.at_] 33)
      have hal2 := hal.alloc (.cells #[.int .i64 u.k, .string u.name, .int .i64 u.dims, .int .i64 u.elem, .int .i64 u.at_] 33)
      have HON4 := hid ((HON.out.trans ho3 (fun _ h _ => h)).trans hal2 (fun _ h _ => h))
      have HROW5 := hid ((HROW.out.only ho3 (fun _ _ h => h)).only hal2 (fun _ _ h => h))
      have HSRC := hid (Src.type (w := w3.alloc (.cells #[.int .i64 u.k, .string u.name, .int .i64 u.dims, .int .i64 u.elem, .int .i64 u.at_] 33)) (m := w3.heap.size + 1) u (by simp))
      have HGE := hid ((HROW.out.only ho3 (fun _ _ h => h)).ge)
      have HBASE := hid (show w.heap.size ≤ ((w3.alloc (.cells #[.int .i64 u.k, .string u.name, .int .i64 u.dims, .int .i64 u.elem, .int .i64 u.at_] 33)).alloc (.cells #[.int .i64 u.k, .string u.name, .int .i64 u.dims, .int .i64 u.elem, .int .i64 u.at_] 33)).heap.size by have := HON.out.size; have := ho3.size; simp; omega)
      have hl16 : l.length ≤ 16 := by rw [HLJ.out]; omega
      clear ho3 hal hal2 CF CHH
      go_wp2_with (at_builtin; go_loud (refine wpList_append_src rfl (.tmp 29) (.tmp 31) 23 rfl 33 i0 (.agg #[.int .i64 0, .string ⟨#[]⟩, .int .i64 0, .int .i64 0, .int .i64 0]) 5 48 Tryz.underlying23 hi hz0 hz1 hz2 rfl (by decide) w.heap.size (.slice al l.length cl) l.length (l.flatMap cellsTy) rfl (by exact HROW5.out) (by exact HBASE.out) (.slice (some ⟨w3.heap.size + 1, 0, none⟩) 1 1) 1 (cellsTy u) rfl (by exact HSRC.out) (by unfold maxLen; omega) (by omega) ?_); intro v' w5 hown hgrow hnew; have hos := only_grownT hgrow; have hrow6 := TRow.more hown; have hon6 := HON4.out.trans hos (fun j hj hl => by have := (HGE.out _ hj).1; omega); clear hown hgrow hnew hos; have HROW6 := hid hrow6; have HON6 := hid hon6; clear hrow6 hon6)
      go_roundw
      case rel => exact ⟨l ++ [u], a + z, j + 1, by rw [← HAZI.out], by go_num, by omega, by rw [List.length_append, HLJ.out]; rfl, by omega, haz, HROW6.out, HON6.out, HP2.out, HM2.out⟩
      case measure => simp [intOf]; omega
   ·obtain rfl : j = 17 := by omega
    have HM := hid (HMETH.out rfl)
    clear h17
    go_wp2
    go_ret2
    exact .inl ⟨rfl, HM.out, HON.out⟩
theorem endM_ret (l : List TypeV) (q : List Int) : endM l (41 :: q) = match retZ q with | some t => (l, t, 0) | none => ([], zeroT, 80) := by
 unfold endM retZ
 simp only [if_true]
 by_cases h : q = [86]
 ·rw [if_pos h, if_pos h]
 ·rw [if_neg h, if_neg h]
  cases oneZ8 q <;> rfl
set_option maxRecDepth 100000 in
theorem progMethod (s : ByteArray) (w : World) (hs : s.size ≤ 281474976710656) :
  Calls Tryz.prog 44 #[.string s] w (MethTo w (nums s)) := by
 have hr0 := heap_alloc_new w (.cells #[.int .i64 0, .string ⟨#[]⟩, .int .i64 0, .int .i64 0, .int .i64 0] 33)
 have ho0 := (Only.refl (fun _ => False) w).alloc (.cells #[.int .i64 0, .string ⟨#[]⟩, .int .i64 0, .int .i64 0, .int .i64 0] 33)
 have c1 := progParams s (w.alloc (.cells #[.int .i64 0, .string ⟨#[]⟩, .int .i64 0, .int .i64 0, .int .i64 0] 33)) hs
 have HR0 := hid hr0
 have HO0 := hid ho0
 have C1 := hid c1
 clear hr0 ho0 c1
 go_enter Tryz.func44, Tryz.ntmps44
 go_wp2_with (fail)
 refine C1.out.mono ?_
 rintro e w1 (⟨rfl, hm, ho1⟩ | ⟨v, l, n, zs, rfl, hn0, hns, hl16, hz, hp, ho1, ht⟩)
 ·have hr1 := ho1.heap HR0.out (fun h => h)
  have HON1 := hid (HO0.out.trans ho1 (fun _ h _ => h))
  obtain ⟨f0, f1, f2, f3, f4⟩ := marks5T hr1
  obtain ⟨q0, q1, q2, q3, q4⟩ := cells5T hr1
  have HR1 := hid hr1
  have HM := hid hm
  clear hr1 ho1 C1 hm
  go_wp2
  exact bodyPost_ret (type_resultM (t := zeroT) (b := w.heap.size) Tryz.results44 (store5T HR1.out) rfl rfl rfl) rfl (MethTo.bad HM.out (only5T HON1.out (fun hl => absurd hl (Nat.lt_irrefl _))))
 ·obtain ⟨al, cl, rfl, l1, l2, l3, -⟩ := id ht.types
  have hr1 := ho1.heap HR0.out (fun h => h)
  have HON1 := hid (HO0.out.trans ho1 (fun _ h _ => h))
  have HR1 := hid hr1
  have HT := hid ht
  have HL16 := hid hl16
  have hM := (show Meth (nums s) (endM l (41 :: nums (s.extract n s.size))) from .inr ⟨zs, l, _, hz, hp, (fun c q e hne => by injection e with e _; exact absurd e.symm hne), rfl⟩)
  rw [endM_ret] at hM
  have hn0z : ((n : Int) == 0) = false := by rw [beq_eq_false_iff_ne]; omega
  have hnsz : (n : Int) ≤ (s.size : Int) := by omega
  have hn00 : (0 : Int) ≤ (n : Int) := by omega
  obtain ⟨x, hx⟩ : ∃ x, x = s.extract n s.size := ⟨_, rfl⟩
  have hxs : x.size ≤ s.size := by rw [hx]; simp
  have cf := fun w => progResult x w (by omega)
  rw [← hx] at hM
  unfold OneTo at cf
  clear hr1 ho1 C1 hz hp ht l3 hl16
  cases ho : retZ (nums x) with
  | none =>
   rw [ho] at cf hM
   have HM := hid hM
   unfold typO errO zeroT valT at cf
   simp only at cf
   have CF := hid cf
   clear cf hM ho
   go_wp2_with (fail)
   rw [← hx]
   refine (CF.out _).mono ?_
   rintro e w2 ⟨rfl, ho2⟩
   have hal := (Only.refl (fun _ => False) w2).alloc (.cells #[.int .i64 0, .string ⟨#[]⟩, .int .i64 0, .int .i64 0, .int .i64 0] 33)
   have hr2 := hal.heap (ho2.heap HR1.out (fun h => h)) (fun h => h)
   have HON2 := hid ((HON1.out.trans ho2 (fun _ h _ => h)).trans hal (fun _ h _ => h))
   obtain ⟨f0, f1, f2, f3, f4⟩ := marks5T hr2
   obtain ⟨q0, q1, q2, q3, q4⟩ := cells5T hr2
   have HR2 := hid hr2
   clear hr2 ho2 CF hal
   go_wp2
   exact bodyPost_ret (type_resultM (t := zeroT) (b := w.heap.size) Tryz.results44 (store5T HR2.out) rfl rfl rfl) rfl (MethTo.bad HM.out (only5T HON2.out (fun hl => absurd hl (Nat.lt_irrefl _))))
  | some u =>
   rw [ho] at cf hM
   have HM := hid hM
   unfold typO errO valT at cf
   simp only at cf
   have CF := hid cf
   clear cf hM ho
   go_wp2_with (fail)
   rw [← hx]
   refine (CF.out _).mono ?_
   rintro e w2 ⟨rfl, ho2⟩
   have hal := (Only.refl (fun _ => False) w2).alloc (.cells #[.int .i64 u.k, .string u.name, .int .i64 u.dims, .int .i64 u.elem, .int .i64 u.at_] 33)
   have hx4 := heap_alloc_new w2 (.cells #[.int .i64 u.k, .string u.name, .int .i64 u.dims, .int .i64 u.elem, .int .i64 u.at_] 33)
   have hr2 := hal.heap (ho2.heap HR1.out (fun h => h)) (fun h => h)
   have HON2 := hid ((HON1.out.trans ho2 (fun _ h _ => h)).trans hal (fun _ h _ => h))
   have HT2 := hid ((HT.out.only ho2 (fun _ _ h => h)).only hal (fun _ _ h => h))
   obtain ⟨f0, f1, f2, f3, f4⟩ := marks5T hr2
   obtain ⟨q0, q1, q2, q3, q4⟩ := cells5T hr2
   obtain ⟨x0, x1, x2, x3, x4⟩ := cells5T hx4
   have HR2 := hid hr2
   clear hr2 ho2 CF hal hx4
   go_wp2
   go_region
   go_wp2
   exact bodyPost_ret (type_resultM (t := u) (b := w.heap.size) Tryz.results44 (heap_drewT (store5T HR2.out)) rfl rfl rfl) rfl ⟨_, _, rfl, HM.out, (only5T HON2.out (fun hl => absurd hl (Nat.lt_irrefl _))).drew, (HT2.out.only (only5T (Only.refl (fun j => j = w.heap.size) _) (fun _ => rfl)).drew (fun k hk e => by have := (HT2.out.ge k hk).1; rw [World.size_alloc] at this; omega)).types⟩
set_option maxRecDepth 100000 in
theorem pIsField (m : MethN) (s : Int) (w : World) (hn : m.name.size ≤ 256) (hd : m.desc.size ≤ 281474976710656) :
  Calls Tryz.prog 106 #[.agg #[.string m.name, .string m.desc, .int .i64 m.flags, .int .i64 s]] w fun e w' => e = .returned (.bool ((oneZ8 (nums m.desc)).isSome && plainN (nums m.name))) ∧ Only (fun _ => False) w w' := by
 have hr0 := heap_alloc_new w (.cells #[.string m.name, .string m.desc, .int .i64 m.flags, .int .i64 s] 146)
 have ho0 := (Only.refl (fun _ => False) w).alloc (.cells #[.string m.name, .string m.desc, .int .i64 m.flags, .int .i64 s] 146)
 have c1 := progField m.desc (w.alloc (.cells #[.string m.name, .string m.desc, .int .i64 m.flags, .int .i64 s] 146)) hd
 have cn := fun W => pIsName m.name W hn
 generalize oneZ8 (nums m.desc) = o at *
 generalize plainN (nums m.name) = pl at *
 obtain ⟨t, er, ht, he, hs⟩ : ∃ (t : TypeV) (er : Int), typO o = t ∧ errO o = er ∧ (er = 0 ∧ o.isSome = true ∨ er = 80 ∧ o.isSome = false) := by
  cases o with
  | none => exact ⟨_, _, rfl, rfl, .inr ⟨rfl, rfl⟩⟩
  | some t => exact ⟨_, _, rfl, rfl, .inl ⟨rfl, rfl⟩⟩
 unfold OneTo valT at c1
 rw [ht, he] at c1
 obtain ⟨os, hos⟩ : ∃ b, o.isSome = b := ⟨_, rfl⟩
 rw [hos] at hs ⊢
 clear ht he hos
 have HR0 := hid hr0
 have HO0 := hid ho0
 have C1 := hid c1
 have CN := hid cn
 have HS := hid hs
 clear hr0 ho0 c1 cn hn hd hs
 go_enter Tryz.func106, Tryz.ntmps106
 go_wp2_with (fail)
 refine C1.out.mono ?_
 rintro e w1 ⟨rfl, ho1⟩
 have hal := (Only.refl (fun _ => False) w1).alloc (.cells #[.int .i64 t.k, .string t.name, .int .i64 t.dims, .int .i64 t.elem, .int .i64 t.at_] 33)
 have hr1 := hal.heap (ho1.heap HR0.out (fun h => h)) (fun h => h)
 have HO1 := hid ((HO0.out.trans ho1 (fun _ h _ => h)).trans hal (fun _ h _ => h))
 have q0 := cell_blk hr1 0
 have q1 := cell_blk hr1 1
 clear hal hr1 ho1 C1
 rcases HS.out with ⟨rfl, rfl⟩ | ⟨rfl, rfl⟩
 ·cases pl
  ·go_wp2_with (go_at_call 132; refine (CN.out _).mono ?_; rintro e w3 ⟨rfl, ho3⟩)
   go_ret
   exact ⟨rfl, HO1.out.trans ho3 (fun _ h _ => h)⟩
  ·go_wp2_with (go_at_call 132; refine (CN.out _).mono ?_; rintro e w3 ⟨rfl, ho3⟩)
   go_ret
   exact ⟨rfl, HO1.out.trans ho3 (fun _ h _ => h)⟩
 ·cases pl
  ·go_wp2_with (go_at_call 132; refine (CN.out _).mono ?_; rintro e w3 ⟨rfl, ho3⟩)
   go_ret
   exact ⟨rfl, HO1.out.trans ho3 (fun _ h _ => h)⟩
  ·go_wp2_with (go_at_call 132; refine (CN.out _).mono ?_; rintro e w3 ⟨rfl, ho3⟩)
   go_ret
   exact ⟨rfl, HO1.out.trans ho3 (fun _ h _ => h)⟩
def methZ (m : MethN) (x : List TypeV × TypeV × Int) : Bool := x.2.2 == 0 && (if m.name = initB then x.2.1.k == 8 && !(m.flags == 8) else plainN (nums m.name))
set_option maxRecDepth 100000 in
theorem pIsMethod (m : MethN) (s : Int) (w : World) (hn : m.name.size ≤ 256) (hd : m.desc.size ≤ 281474976710656) :
  Calls Tryz.prog 108 #[.agg #[.string m.name, .string m.desc, .int .i64 m.flags, .int .i64 s]] w fun e w' => (∃ x, Meth (nums m.desc) x ∧ e = .returned (.bool (methZ m x))) ∧ Only (fun _ => False) w w' := by
 have hr0 := heap_alloc_new w (.cells #[.string m.name, .string m.desc, .int .i64 m.flags, .int .i64 s] 146)
 have ho0 := (Only.refl (fun _ => False) w).alloc (.cells #[.string m.name, .string m.desc, .int .i64 m.flags, .int .i64 s] 146)
 have c1 := progMethod m.desc (w.alloc (.cells #[.string m.name, .string m.desc, .int .i64 m.flags, .int .i64 s] 146)) hd
 have cn := fun W => pIsName m.name W hn
 have cs := fun W => pStatic m s W
 have HM : Hid (∀ x, methZ m x = (x.2.2 == 0 && (if m.name = initB then x.2.1.k == 8 && !(m.flags == 8) else plainN (nums m.name)))) := hid (fun _ => rfl)
 generalize methZ m = mz at *
 generalize plainN (nums m.name) = pl at *
 generalize nums m.desc = zs at *
 obtain ⟨nm, dsc, fl⟩ := m
 simp only at *
 have HR0 := hid hr0
 have HO0 := hid ho0
 have C1 := hid c1
 have CN := hid cn
 have CS := hid cs
 clear hr0 ho0 c1 cn cs hn hd
 go_enter Tryz.func108, Tryz.ntmps108
 go_wp2_with (fail)
 refine C1.out.mono ?_
 rintro e w1 ⟨v, ⟨l, t, er⟩, rfl, hmt, ho1, _⟩
 have hal := (Only.refl (fun _ => False) w1).alloc (.cells #[.int .i64 t.k, .string t.name, .int .i64 t.dims, .int .i64 t.elem, .int .i64 t.at_] 33)
 have hr1 := hal.heap (ho1.heap HR0.out (fun h => h)) (fun h => h)
 have hrt := heap_alloc_new w1 (.cells #[.int .i64 t.k, .string t.name, .int .i64 t.dims, .int .i64 t.elem, .int .i64 t.at_] 33)
 have HO1 := hid ((HO0.out.trans ho1 (fun _ h _ => h)).trans hal (fun _ h _ => h))
 have q0 := cell_blk hr1 0
 have q1 := cell_blk hr1 1
 have q2 := cell_blk hr1 2
 have q3 := cell_blk hr1 3
 have t0 := cell_blk hrt 0
 have HMT := hid hmt
 unfold valT
 simp only
 clear hal hr1 hrt ho1 C1 hmt
 by_cases her : er = 0
 ·subst her
  by_cases hni : nm = initB
  ·have HE : Hid (mz (l, t, 0) = (t.k == 8 && !(fl == 8))) := hid (by rw [HM.out, if_pos hni]; rfl)
   unfold initB at hni
   subst hni
   have hli := lit_init
   clear HM
   by_cases htk : t.k = 8
   ·have HF : Hid (mz (l, t, 0) = !(fl == 8)) := hid (by rw [HE.out, htk]; rfl)
    have hkb : (t.k == 8) = true := by rw [htk]; rfl
    clear htk HE
    go_wp2_with (go_at_call 72; refine (CS.out _).mono ?_; rintro e w3 ⟨rfl, ho3⟩)
    go_ret
    exact ⟨⟨_, HMT.out, by rw [HF.out]; rfl⟩, HO1.out.trans ho3 (fun _ h _ => h)⟩
   ·have HF : Hid (mz (l, t, 0) = false) := hid (by rw [HE.out, beq_false_of_ne htk]; rfl)
    have hkb : (t.k == 8) = false := beq_false_of_ne htk
    clear htk HE
    go_wp2
    go_ret
    exact ⟨⟨_, _, _, HMT.out, by rw [HF.out] <;> rfl⟩, HO1.out⟩
  ·have HE : Hid (mz (l, t, 0) = pl) := hid (by rw [HM.out, if_neg hni]; rfl)
   obtain ⟨n1, n2⟩ := toList_beq hni
   unfold initB at n1 n2
   rw [lit_init] at n1 n2
   clear HM hni
   go_wp2_with (go_at_call 132; refine (CN.out _).mono ?_; rintro e w3 ⟨rfl, ho3⟩)
   go_ret
   exact ⟨⟨_, HMT.out, by rw [HE.out]; rfl⟩, HO1.out.trans ho3 (fun _ h _ => h)⟩
 ·have HE : Hid (mz (l, t, er) = false) := hid (by rw [HM.out, beq_false_of_ne her]; rfl)
  have heb : (er == 0) = false := beq_false_of_ne her
  clear HM her
  by_cases hni : nm = initB
  ·unfold initB at hni
   subst hni
   have hli := lit_init
   go_wp2
   go_ret
   exact ⟨⟨_, _, _, HMT.out, by rw [HE.out] <;> rfl⟩, HO1.out⟩
  ·obtain ⟨n1, n2⟩ := toList_beq hni
   unfold initB at n1 n2
   rw [lit_init] at n1 n2
   clear hni
   go_wp2
   go_ret
   exact ⟨⟨_, _, _, HMT.out, by rw [HE.out] <;> rfl⟩, HO1.out⟩
end Go.Proofs.YtinbelghhfodiaaGreatDoor
