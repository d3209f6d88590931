import Derived.Test.YtgdgffnaknkbcaaGreatDoorMiLpNIxB
import Derived.Test.YtgdgffnaknkbcaaGreatDoorMiKndPLpM
import Derived.Test.YtgdgffnaknkbcaaGreatDoorMiLnkOLnkP
import Derived.Test.YtgdgffnaknkbcaaGreatDoorMiLpBLpF
namespace Go.Proofs.YtgdgffnaknkbcaaGreatDoor
open Go.RowKit
set_option linter.unusedVariables false
set_option linter.unusedSimpArgs false
theorem NoAny_far {s chars : List UInt8} {i n : Nat} (h : Lib.NoAny s chars i) (hs : ∀ k b, i ≤ k → k < i + n → s[k]? = some b → chars.contains b = false) : Lib.NoAny s chars (i + n) := fun j b hj hb => by
 by_cases e : j < i
 ·exact h j b e hb
 ·exact hs j b (by omega) hj hb
theorem runeNear (r : Int) (h0 : 0 ≤ r) (h1 : r < 128) (w : World) : Calls Tryz.prog 181 #[.string CH, .int .i32 r] w fun e w' => e = .returned (.int .i64 (Lib.indexByte CH.data.toList r.toNat.toUInt8)) ∧ w' = w :=
 Any.strings_IndexRune_ascii { Tryz.lays153 with } CH r w h0 h1
theorem iter_only {w wr : World} (ho : Only (fun _ => False) w wr) (s : ByteArray) (i : Nat) : Only (fun _ => False) w (wr.iterAt w.heap.size s i) :=
 ⟨ho.os, ho.tape, ho.output, by rw [Lib.iterAt_size]; exact ho.size, fun k hk hn => by rw [Lib.iterAt_other wr w.heap.size k s i (by omega)]; exact ho.block k hk hn⟩
set_option maxHeartbeats 4000000 in
set_option maxRecDepth 100000 in
theorem anyShort (s : ByteArray) (w : World) (h8 : s.size ≤ 8) : Calls Tryz.prog 170 #[.string s, .string CH] w fun e w' => e = .returned (.int .i64 (Lib.indexAny s.data.toList CH.data.toList)) ∧ Only (fun _ => False) w w' := by
 have hemp : CH.toList.isEmpty = false := by rw [Lib.toList_data]; rfl
 have hch : CH.size = 6 := rfl
 have h8z : decide ((8 : Int) < (s.size : Int)) = false := decide_eq_false (by omega)
 have C1 := fun n w => Any.strings_shouldUseASCIISet (P := Tryz.prog) (ρ := Tryz.lays153_ren) { Tryz.lays153 with } n w
 go_enter Tryz.func170, Tryz.ntmps170
 go_wp2_with (go_at_call 182; refine (C1 _ _).mono ?_; rintro e w' ⟨rfl, hw⟩; rw [hw, h8z])
 clear C1 h8z
 go_loopw [9, 10] (fun _ _ wr => ∃ i : Nat, i ≤ s.size ∧ wr.heap[w.heap.size]? = some (.stringIter s i) ∧ Only (fun _ => False) w wr ∧ Lib.NoAny s.data.toList CH.data.toList i) (fun _ _ wr => s.size - wr.iterPos w.heap.size)
 case atStart => exact ⟨0, by omega, World.iter_heap w s 0, (Only.refl _ _).alloc _, Lib.NoAny.zero _ _⟩
 case round =>
  obtain ⟨i, hig, hit, ho, hno⟩ := hrel
  have HN : Aside (Lib.NoAny s.data.toList CH.data.toList i) := hno
  clear hno
  by_cases hi : i < s.size
  ·obtain ⟨x, hx⟩ : ∃ x : UInt8, s[i]'hi = x := ⟨_, rfl⟩
   have hxl : s.data.toList[i]? = some x := by rw [← hx]; exact Lib.data_getElem? s i hi
   have hm : ∀ d, 1 ≤ d → s.size - (i + d) < s.size - wr.iterPos w.heap.size := by intro d hd; simp only [World.iterPos, hit]; omega
   by_cases h128 : x.toNat < 128
   ·have hnx : ∀ ty, (Instr.next (.pointer (some ⟨w.heap.size, 0, none⟩)) true ty).run Tryz.prog wr = .ok (.tuple #[.bool true, .int .i64 i, .int .i32 (x.toNat : Int)]) (wr.iterAt w.heap.size s (i + 1)) := fun ty => by rw [Lib.run_next_ascii_at wr w.heap.size s i ty hit hi (by rw [hx]; exact h128), hx]
    have hoa : Only (fun _ => False) w (wr.iterAt w.heap.size s (i + 1)) := iter_only ho _ _
    have hita := Lib.iterAt_heap wr w.heap.size s i (i + 1) hit
    have hma := hm 1 (by omega)
    generalize wr.iterAt w.heap.size s (i + 1) = wa at *
    have Hx : Aside (s.data.toList[i]? = some x) := hxl
    have Hma := Lib.hid hma
    clear hxl hx hm hma ho hit
    have hcon := Lib.contains_iff_indexByte CH.data.toList x
    have hback : ((x.toNat : Int)).toNat.toUInt8 = x := by simp
    have R := fun w => runeNear (x.toNat : Int) (by omega) (by omega) w
    cases hin : CH.data.toList.contains x
    ·rw [hin] at hcon
     have hlt : ¬ ((0 : Int) ≤ Lib.indexByte CH.data.toList x) := of_decide_eq_false hcon.symm
     clear hcon
     go_wp2_with (go_at_call 181; refine (R _).mono ?_; rintro e w' ⟨rfl, hw⟩; rw [hw, hback])
     go_roundw
     case measure => rw [World.iterPos, hita]; exact Hma.out
     case rel => exact ⟨i + 1, by omega, hita, hoa, HN.out.succ Hx.out hin⟩
    ·rw [hin] at hcon
     have hge : (0 : Int) ≤ Lib.indexByte CH.data.toList x := of_decide_eq_true hcon.symm
     clear hcon
     go_wp2_with (go_at_call 181; refine (R _).mono ?_; rintro e w' ⟨rfl, hw⟩; rw [hw, hback])
     go_ret
     exact ⟨by rw [Lib.indexAny_hit HN.out Hx.out hin]; rfl, hoa⟩
   ·have hd0 : (s.data.toList.drop i)[0]? = some x := by rw [List.getElem?_drop]; exact hxl
    obtain ⟨hc1, hc2, hn1, hn2, hfar⟩ := dec_far hd0 (by omega)
    rw [Lib.decodeL_drop] at hc1 hc2 hn1 hn2 hfar
    have hn2' : i + (Utf8.decode s i).2 ≤ s.size := by rw [List.length_drop, ← Lib.size_eq] at hn2; omega
    have hno2 : Lib.NoAny s.data.toList CH.data.toList (i + (Utf8.decode s i).2) := NoAny_far HN.out (fun k b hk1 hk2 hb => by
     have h1 := hfar (k - i) b (by omega) (by rw [List.getElem?_drop, show i + (k - i) = k by omega]; exact hb)
     cases hcc : CH.data.toList.contains b with
     | false => rfl
     | true =>
      obtain ⟨m, hm2⟩ := List.getElem?_of_mem (List.contains_iff_mem.1 hcc)
      have := ch_far m b hm2
      omega)
    have hnx : ∀ ty, (Instr.next (.pointer (some ⟨w.heap.size, 0, none⟩)) true ty).run Tryz.prog wr = .ok (.tuple #[.bool true, .int .i64 i, .int .i32 ((Utf8.decode s i).1 : Int)]) (wr.iterAt w.heap.size s (i + (Utf8.decode s i).2)) := fun ty => by rw [Lib.run_next_any_at wr w.heap.size s i ty hit hi]
    have hma := hm (Utf8.decode s i).2 hn1
    obtain ⟨c, hc⟩ : ∃ c : Int, ((Utf8.decode s i).1 : Int) = c := ⟨_, rfl⟩
    have hc128 : 128 ≤ c := by omega
    have hcv : c < 55296 ∨ (57343 < c ∧ c ≤ 1114111) := by omega
    rw [hc] at hnx
    obtain ⟨n, hn⟩ : ∃ n, (Utf8.decode s i).2 = n := ⟨_, rfl⟩
    rw [hn] at hnx hma hno2 hn2'
    clear hfar hn1 hn2 hc1 hc2 hc hn hd0 h128 hxl hx hm
    have hoa : Only (fun _ => False) w (wr.iterAt w.heap.size s (i + n)) := iter_only ho _ _
    have hita := Lib.iterAt_heap wr w.heap.size s i (i + n) hit
    generalize wr.iterAt w.heap.size s (i + n) = wa at *
    have Hma := Lib.hid hma
    have HN2 := Lib.hid hno2
    have HN2' := Lib.hid hn2'
    clear hma hno2 ho hit hn2'
    have R := fun w => runeFar c hc128 hcv w
    clear hc128 hcv
    go_wp2_with (go_at_call 181; refine (R _).mono ?_; rintro e w' ⟨rfl, hw⟩)
    have hs1 := hw.heap hita (fun h => h)
    go_roundw
    case measure => rw [World.iterPos, hs1]; exact Hma.out
    case rel => exact ⟨i + n, HN2'.out, hs1, hoa.trans hw (fun _ h => h.elim), HN2.out⟩
  ·have hnx := fun ty => Lib.run_next_end_at (P := Tryz.prog) wr w.heap.size s i ty hit hi
   go_wp2
   go_ret
   obtain rfl : i = s.size := by omega
   exact ⟨by rw [Lib.indexAny_none (by rw [← Lib.size_eq]; exact HN.out)]; rfl, ho⟩
theorem anyAt (s : ByteArray) (w : World) (hs : s.size < 4294967281) : Calls Tryz.prog 170 #[.string s, .string CH] w fun e w' => e = .returned (.int .i64 (Lib.indexAny s.data.toList CH.data.toList)) ∧ Only (fun _ => False) w w' := by
 by_cases h8 : s.size ≤ 8
 ·exact anyShort s w h8
 ·refine (Any.strings_IndexAny_long Tryz.lays153 (zero_of_info Tryz.set153).1 (zero_of_info Tryz.set153).2 s CH w (by decide) (by omega) hs (by decide) ch_far).mono ?_
  rintro e w' ⟨h1, h2⟩
  exact ⟨h1, h2 ▸ ((Only.refl _ _).alloc _).alloc _⟩
theorem contAny (s : ByteArray) (w : World) (hs : s.size < 4294967281) : Calls Tryz.prog 155 #[.string s, .string CH] w fun e w' => e = .returned (.bool (Lib.containsAny s.data.toList CH.data.toList)) ∧ Only (fun _ => False) w w' := by
 have C := anyAt s w hs
 go_enter Tryz.func155, Tryz.ntmps155
 go_wp2_with (go_at_call 170; refine C.mono ?_; rintro e w' ⟨rfl, hw⟩)
 go_ret
 exact ⟨rfl, hw⟩
theorem any_bad : ∀ l : List UInt8, Lib.containsAny l CH.data.toList = (numsL l).any badC
 | [] => rfl
 | b :: l => by
  have ih := any_bad l
  have hge := Lib.indexAny_ge CH.data.toList l
  have hb : CH.data.toList.contains b = badC (b.toNat : Int) := by
   have h : ∀ c : UInt8, (b == c) = ((b.toNat : Int) == (c.toNat : Int)) := fun c => by
    rw [Bool.eq_iff_iff, beq_iff_eq, beq_iff_eq]
    exact ⟨fun e => by rw [e], fun e => UInt8.toNat_inj.1 (by omega)⟩
   show List.contains [46, 59, 91, 47, 60, 62] b = _
   simp only [List.contains_cons, List.contains_nil, Bool.or_false, h]
   rfl
  have e : (numsL (b :: l)).any badC = (badC (b.toNat : Int) || (numsL l).any badC) := rfl
  rw [e, ← hb, ← ih]
  unfold Lib.containsAny
  rw [Lib.indexAny]
  cases CH.data.toList.contains b with
  | true => rfl
  | false =>
   rw [if_neg Bool.false_ne_true, Bool.false_or]
   by_cases h1 : Lib.indexAny l CH.data.toList = -1
   ·rw [h1]; rfl
   ·rw [if_neg (by simpa using h1)]
    congr 1
    apply propext
    omega
theorem plain_any (s : ByteArray) (h : s.size ≤ 256) : plainN (nums s) = (!s.toList.isEmpty && !Lib.containsAny s.data.toList CH.data.toList) := by
 rw [any_bad]
 unfold plainN
 have hl : (nums s).length = s.size := nums_len s
 have e1 : decide (1 ≤ (nums s).length) = !s.toList.isEmpty := by
  rw [hl, Lib.toList_data]
  cases hd : s.data.toList with
  | nil => have := Lib.size_eq s; rw [hd, List.length_nil] at this; rw [this]; rfl
  | cons _ _ => have := Lib.size_eq s; rw [hd, List.length_cons] at this; rw [this]; simp
 have e2 : decide ((nums s).length ≤ 256) = true := by rw [hl]; exact decide_eq_true h
 rw [e1, e2, Bool.and_true, List.not_any_eq_all_not]
 rfl
set_option maxRecDepth 100000 in
theorem pIsName (s : ByteArray) (w : World) (h : s.size ≤ 256) : Calls Tryz.prog 141 #[.string s] w fun e w' => e = .returned (.bool (plainN (nums s))) ∧ Only (fun _ => False) w w' := by
 rw [plain_any s h]
 have C := contAny s w (by omega)
 have C2 : Calls Tryz.prog 155 #[.string s, .string ⟨#[46, 59, 91, 47, 60, 62]⟩] w _ := C
 clear C
 go_enter Tryz.func141, Tryz.ntmps141
 cases he : s.toList.isEmpty
 ·go_wp2_with (go_at_call 155; refine C2.mono ?_; rintro e w' ⟨rfl, hw⟩)
  go_ret
  exact ⟨rfl, hw⟩
 ·go_wp2
  go_ret
  exact ⟨rfl, Only.refl _ _⟩
def ParamsTo (w : World) (s : ByteArray) (e : Ending) (w' : World) : Prop :=
 (e = .returned (.tuple #[.slice none 0 0, .int .i64 0]) ∧ Meth (nums s) ([], zeroT, 80) ∧ Only (fun _ => False) w w') ∨
 ∃ v l n zs, e = .returned (.tuple #[v, .int .i64 ((n : Nat) : Int)]) ∧ 0 < n ∧ n ≤ s.size ∧ l.length ≤ 16 ∧ nums s = 40 :: zs ∧ Par zs l (41 :: nums (s.extract n s.size)) ∧ Only (fun _ => False) w w' ∧ TRow w' w.heap.size v l
theorem head_is {zs : List Int} {c : Int} (h : headIs c zs = true) : ∃ q, zs = c :: q := by
 unfold headIs at h
 cases zs with
 | nil => simp at h
 | cons x q => simp at h; exact ⟨q, by rw [h]⟩
theorem head_not {zs : List Int} {c : Int} (h : headIs c zs = false) : ∀ x q, zs = x :: q → x ≠ c := by
 unfold headIs at h
 intro x q e
 subst e
 simpa using h
set_option maxHeartbeats 16000000 in
set_option maxRecDepth 100000 in
theorem progParams (s : ByteArray) (w : World) (hs : s.size ≤ 281474976710656) :
  Calls Tryz.prog 157 #[.string s] w (ParamsTo w s) := by
 obtain ⟨i0, hi, hz0, hz1, hz2⟩ := info_parts info_type
 have ch := hasHead s 40 w
 rw [show (((40 : UInt8).toNat : Nat) : Int) = 40 from rfl] at ch
 cases hh : headIs 40 (nums s) with
 | false =>
  have HM : Hid (Meth (nums s) ([], zeroT, 80)) := Lib.hid (.inl ⟨fun ⟨q, e⟩ => head_not hh 40 q e rfl, rfl⟩)
  rw [hh] at ch
  have CH := Lib.hid ch
  clear ch hh
  go_enter Tryz.func157, Tryz.ntmps157
  go_wp2_with (fail)
  refine CH.out.mono ?_
  rintro e w1 ⟨rfl, rfl⟩
  go_wp2
  go_ret2
  exact .inl ⟨rfl, HM.out, Only.refl _ _⟩
 | true =>
  obtain ⟨zs, hzs⟩ := head_is hh
  rw [hh] at ch
  have CH := Lib.hid ch
  have HZ := Lib.hid hzs
  have hsl : zs.length + 1 = s.size := by rw [← nums_len, hzs]; rfl
  have HSL := Lib.hid hsl
  clear ch hh hzs
  go_enter Tryz.func157, Tryz.ntmps157
  go_wp2_with (fail)
  refine CH.out.mono ?_
  rintro e w1 ⟨rfl, rfl⟩
  go_wp2
  go_loopw [4, 5, 11] (fun lv av iv wr => ∃ (l : List TypeV) (a j : Nat), av = .int .i64 a ∧ iv = .int .i64 j ∧ j ≤ 17 ∧ l.length = j ∧ 1 ≤ a ∧ a ≤ s.size ∧ TRow wr w.heap.size lv l ∧ Only (fun _ => False) w wr ∧ (j ≤ 16 → Par zs l ((nums s).drop a)) ∧ (j = 17 → Meth (nums s) ([], zeroT, 80))) (fun _ _ iv _ => 17 - (intOf iv).toNat)
  case atStart => exact ⟨[], 1, 0, rfl, rfl, by omega, rfl, by omega, by omega, TRow.nil _ _, Only.refl _ _, fun _ => by rw [HZ.out]; exact Par.nil zs, fun h => by omega⟩
  case round =>
   obtain ⟨l, a, j, rfl, rfl, hj, hlj, ha1, ha2, hrow, hon, hpar, hmeth⟩ := hrel
   have HPAR := Lib.hid hpar
   have HMETH := Lib.hid hmeth
   have HROW := Lib.hid hrow
   have HON := Lib.hid hon
   have HLJ := Lib.hid hlj
   obtain ⟨al, cl, rfl, l1, l2, l3, -⟩ := id hrow.types
   have HTY := Lib.hid hrow.types
   clear hpar hmeth hrow hon l3 hlj
   have hazz : (a : Int) ≤ (s.size : Int) := by omega
   have ha0 : (0 : Int) ≤ (a : Int) := by omega
   by_cases h17 : j < 17
   ·have hjz : (j : Int) < 17 := by omega
    obtain ⟨x, hx⟩ : ∃ x, x = s.extract a s.size := ⟨_, rfl⟩
    have hxs : x.size + a = s.size := by rw [hx]; simp; omega
    have hxn : nums x = (nums s).drop a := by rw [hx, nums_rest]
    have ch := fun w => hasHead x 41 w
    rw [show (((41 : UInt8).toNat : Nat) : Int) = 41 from rfl] at ch
    have HXN := Lib.hid hxn
    have HXS := Lib.hid hxs
    have hp := HPAR.out (by omega)
    rw [← hxn] at hp
    clear hxn
    cases hc : headIs 41 (nums x) with
    | true =>
     obtain ⟨q, hq⟩ := head_is hc
     have hxp : 0 < x.size := by rw [← nums_len, hq]; simp
     have hrest : nums (s.extract (a + 1) s.size) = q := by
      rw [nums_rest, ← List.drop_drop, ← HXN.out, hq]; rfl
     have HP : Hid (Par zs l (41 :: nums (s.extract (a + 1) s.size))) := Lib.hid (by rw [hrest, ← hq]; exact hp)
     have hale : (a : Int) + 1 = ((a + 1 : Nat) : Int) := by omega
     have HAL := Lib.hid hale
     have has : a + 1 ≤ s.size := by omega
     have haz : (a : Int) ≤ 281474976710656 := by omega
     rw [hc] at ch
     have CHH := Lib.hid ch
     clear ch hc hq hrest hp hale hxp
     go_wp2_with (fail)
     rw [← hx]
     refine (CHH.out _).mono ?_
     rintro e w2 ⟨rfl, rfl⟩
     go_wp2
     go_ret2
     exact .inr ⟨_, l, a + 1, zs, by first | rfl | rw [HAL.out], by omega, has, by have := HLJ.out; omega, HZ.out, HP.out, HON.out, HROW.out⟩
    | false =>
     rw [hc] at ch
     have CHH := Lib.hid ch
     have hne := head_not hc
     have cf := fun w => progFirst x w (by omega)
     cases hf : fieldZ (nums x) with
     | none =>
      have HM : Hid (Meth (nums s) ([], zeroT, 80)) := by
       refine Lib.hid (.inr ⟨zs, l, nums x, HZ.out, hp, fun c q e hc' t r' hf' => ?_, ?_⟩)
       ·rw [← e, hf] at hf'; cases hf'
       ·cases hq : nums x with
        | nil => rfl
        | cons c q =>
         show _ = (if c = 41 then _ else _)
         rw [if_neg (hne c q hq)]
      rw [hf] at cf
      unfold FlatTo typF sizeF zeroT valT at cf
      simp only at cf
      have CF := Lib.hid cf
      clear ch hc hne hf hp cf
      go_wp2_with (fail)
      rw [← hx]
      refine (CHH.out _).mono ?_
      rintro e w2 ⟨rfl, rfl⟩
      go_wp2_with (fail)
      rw [← hx]
      refine (CF.out _).mono ?_
      rintro e w3 ⟨rfl, ho3⟩
      have HON3 := Lib.hid (HON.out.trans ho3 (fun _ h _ => h))
      clear ho3 CF CHH
      go_wp2
      go_ret2
      exact .inl ⟨rfl, HM.out, HON3.out.alloc _⟩
     | some p =>
      obtain ⟨u, r'⟩ := p
      obtain ⟨n, hn, hlt⟩ := field_rest hf
      rw [nums_len] at hlt
      have hfc := hf
      rw [hf] at cf
      unfold FlatTo typF sizeF valT at cf
      simp only at cf
      obtain ⟨z, hz⟩ : ∃ z : Nat, z = x.size - r'.length := ⟨_, rfl⟩
      rw [← hz] at cf
      have hzz0 : ((z : Int) == 0) = false := by rw [beq_eq_false_iff_ne]; omega
      have hdrop : (nums s).drop (a + z) = r' := by
       rw [← List.drop_drop, ← HXN.out, hn]
       have hle := congrArg List.length hn
       rw [List.length_drop, nums_len] at hle
       by_cases hnx : n ≤ x.size
       ·congr 1; omega
       ·rw [List.drop_of_length_le (by rw [nums_len]; omega), List.drop_of_length_le (by rw [nums_len]; omega)]
      have HDROP := Lib.hid hdrop
      have haz : a + z ≤ s.size := by omega
      have hazi : (a : Int) + (z : Int) = ((a + z : Nat) : Int) := by omega
      have HAZI := Lib.hid hazi
      have hzle : (z : Int) ≤ 281474976710656 := by omega
      have hale : (a : Int) ≤ 281474976710656 := by omega
      obtain ⟨c, q, hcq⟩ : ∃ c q, nums x = c :: q := by
       cases hq : nums x with
       | nil => rw [hq] at hf; cases hf
       | cons c q => exact ⟨c, q, rfl⟩
      have HP2 : Hid (j + 1 ≤ 16 → Par zs (l ++ [u]) ((nums s).drop (a + z))) := by
       refine Lib.hid fun h16 => ?_
       rw [hdrop]
       rw [hcq] at hp hf
       exact hp.snoc (hne c q hcq) hf (by rw [HLJ.out]; omega)
      have HM2 : Hid (j + 1 = 17 → Meth (nums s) ([], zeroT, 80)) := by
       refine Lib.hid fun h16 => ?_
       refine .inr ⟨zs, l, nums x, HZ.out, hp, fun c' q' e hc' t r'' hf' => by rw [HLJ.out]; omega, ?_⟩
       rw [hcq]
       show _ = (if c = 41 then _ else _)
       rw [if_neg (hne c q hcq)]
      have CF := Lib.hid cf
      clear ch hc hne hf hp cf hfc hn hlt hz hdrop hazi hcq
      go_wp2_with (fail)
      rw [← hx]
      refine (CHH.out _).mono ?_
      rintro e w2 ⟨rfl, rfl⟩
      go_wp2_with (fail)
      rw [← hx]
      refine (CF.out _).mono ?_
      rintro e w3 ⟨rfl, ho3⟩
      have hal := (Only.refl (fun _ => False) w3).alloc (.cells #[.int .i64 u.k, .string u.name, .int .i64 u.dims, .int .i64 u.elem, .int .i64 u.at_] 63)
      have hal2 := hal.alloc (.cells #[.int .i64 u.k, .string u.name, .int .i64 u.dims, .int .i64 u.elem, .int .i64 u.at_] 63)
      have HON4 := Lib.hid ((HON.out.trans ho3 (fun _ h _ => h)).trans hal2 (fun _ h _ => h))
      have HROW5 := Lib.hid ((HROW.out.only ho3 (fun _ _ h => h)).only hal2 (fun _ _ h => h))
      have HSRC := Lib.hid (Src.type (w := w3.alloc (.cells #[.int .i64 u.k, .string u.name, .int .i64 u.dims, .int .i64 u.elem, .int .i64 u.at_] 63)) (m := w3.heap.size + 1) u (by simp))
      have HGE := Lib.hid ((HROW.out.only ho3 (fun _ _ h => h)).ge)
      have HBASE := Lib.hid (show w.heap.size ≤ ((w3.alloc (.cells #[.int .i64 u.k, .string u.name, .int .i64 u.dims, .int .i64 u.elem, .int .i64 u.at_] 63)).alloc (.cells #[.int .i64 u.k, .string u.name, .int .i64 u.dims, .int .i64 u.elem, .int .i64 u.at_] 63)).heap.size by have := HON.out.size; have := ho3.size; simp; omega)
      have hl16 : l.length ≤ 16 := by rw [HLJ.out]; omega
      clear ho3 hal hal2 CF CHH
      go_wp2_with (at_builtin; go_loud (refine wpList_append_src rfl (.tmp 29) (.tmp 31) 46 rfl 63 i0 (.agg #[.int .i64 0, .string ⟨#[]⟩, .int .i64 0, .int .i64 0, .int .i64 0]) 5 48 Tryz.underlying46 hi hz0 hz1 hz2 rfl (by decide) w.heap.size (.slice al l.length cl) l.length (l.flatMap cellsTy) rfl (by exact HROW5.out) (by exact HBASE.out) (.slice (some ⟨w3.heap.size + 1, 0, none⟩) 1 1) 1 (cellsTy u) rfl (by exact HSRC.out) (by unfold maxLen; omega) (by omega) ?_); intro v' w5 hown hgrow hnew; have hos := only_grownT hgrow; have hrow6 := TRow.more hown; have hon6 := HON4.out.trans hos (fun j hj hl => by have := (HGE.out _ hj).1; omega); clear hown hgrow hnew hos; have HROW6 := Lib.hid hrow6; have HON6 := Lib.hid hon6; clear hrow6 hon6)
      go_roundw
      case rel => exact ⟨l ++ [u], a + z, j + 1, by rw [← HAZI.out], by go_num, by omega, by rw [List.length_append, HLJ.out]; rfl, by omega, haz, HROW6.out, HON6.out, HP2.out, HM2.out⟩
      case measure => simp [intOf]; omega
   ·obtain rfl : j = 17 := by omega
    have HM := Lib.hid (HMETH.out rfl)
    clear h17
    go_wp2
    go_ret2
    exact .inl ⟨rfl, HM.out, HON.out⟩
theorem endM_ret (l : List TypeV) (q : List Int) : endM l (41 :: q) = match retZ q with | some t => (l, t, 0) | none => ([], zeroT, 80) := by
 unfold endM retZ
 simp only [if_true]
 by_cases h : q = [86]
 ·rw [if_pos h, if_pos h]
 ·rw [if_neg h, if_neg h]
  cases oneZ8 q <;> rfl
set_option maxHeartbeats 8000000 in
set_option maxRecDepth 100000 in
theorem progMethod (s : ByteArray) (w : World) (hs : s.size ≤ 281474976710656) :
  Calls Tryz.prog 145 #[.string s] w (MethTo w (nums s)) := by
 have hr0 := heap_alloc_new w (.cells #[.int .i64 0, .string ⟨#[]⟩, .int .i64 0, .int .i64 0, .int .i64 0] 63)
 have ho0 := (Only.refl (fun _ => False) w).alloc (.cells #[.int .i64 0, .string ⟨#[]⟩, .int .i64 0, .int .i64 0, .int .i64 0] 63)
 have c1 := progParams s (w.alloc (.cells #[.int .i64 0, .string ⟨#[]⟩, .int .i64 0, .int .i64 0, .int .i64 0] 63)) hs
 have HR0 := Lib.hid hr0
 have HO0 := Lib.hid ho0
 have C1 := Lib.hid c1
 clear hr0 ho0 c1
 go_enter Tryz.func145, Tryz.ntmps145
 go_wp2_with (fail)
 refine C1.out.mono ?_
 rintro e w1 (⟨rfl, hm, ho1⟩ | ⟨v, l, n, zs, rfl, hn0, hns, hl16, hz, hp, ho1, ht⟩)
 ·have hr1 := ho1.heap HR0.out (fun h => h)
  have HON1 := Lib.hid (HO0.out.trans ho1 (fun _ h _ => h))
  obtain ⟨f0, f1, f2, f3, f4⟩ := marks5T hr1
  obtain ⟨q0, q1, q2, q3, q4⟩ := cells5T hr1
  have HR1 := Lib.hid hr1
  have HM := Lib.hid hm
  clear hr1 ho1 C1 hm
  go_wp2
  exact bodyPost_ret (type_resultM (t := zeroT) (b := w.heap.size) Tryz.results145 (store5T HR1.out) rfl rfl rfl) rfl (MethTo.bad HM.out (only5T HON1.out (fun hl => absurd hl (Nat.lt_irrefl _))))
 ·obtain ⟨al, cl, rfl, l1, l2, l3, -⟩ := id ht.types
  have hr1 := ho1.heap HR0.out (fun h => h)
  have HON1 := Lib.hid (HO0.out.trans ho1 (fun _ h _ => h))
  have HR1 := Lib.hid hr1
  have HT := Lib.hid ht
  have HL16 := Lib.hid hl16
  have hM := (show Meth (nums s) (endM l (41 :: nums (s.extract n s.size))) from .inr ⟨zs, l, _, hz, hp, (fun c q e hne => by injection e with e _; exact absurd e.symm hne), rfl⟩)
  rw [endM_ret] at hM
  have hn0z : ((n : Int) == 0) = false := by rw [beq_eq_false_iff_ne]; omega
  have hnsz : (n : Int) ≤ (s.size : Int) := by omega
  have hn00 : (0 : Int) ≤ (n : Int) := by omega
  obtain ⟨x, hx⟩ : ∃ x, x = s.extract n s.size := ⟨_, rfl⟩
  have hxs : x.size ≤ s.size := by rw [hx]; simp
  have cf := fun w => progResult x w (by omega)
  rw [← hx] at hM
  unfold OneTo at cf
  clear hr1 ho1 C1 hz hp ht l3 hl16
  cases ho : retZ (nums x) with
  | none =>
   rw [ho] at cf hM
   have HM := Lib.hid hM
   unfold typO errO zeroT valT at cf
   simp only at cf
   have CF := Lib.hid cf
   clear cf hM ho
   go_wp2_with (fail)
   rw [← hx]
   refine (CF.out _).mono ?_
   rintro e w2 ⟨rfl, ho2⟩
   have hal := (Only.refl (fun _ => False) w2).alloc (.cells #[.int .i64 0, .string ⟨#[]⟩, .int .i64 0, .int .i64 0, .int .i64 0] 63)
   have hr2 := hal.heap (ho2.heap HR1.out (fun h => h)) (fun h => h)
   have HON2 := Lib.hid ((HON1.out.trans ho2 (fun _ h _ => h)).trans hal (fun _ h _ => h))
   obtain ⟨f0, f1, f2, f3, f4⟩ := marks5T hr2
   obtain ⟨q0, q1, q2, q3, q4⟩ := cells5T hr2
   have HR2 := Lib.hid hr2
   clear hr2 ho2 CF hal
   go_wp2
   exact bodyPost_ret (type_resultM (t := zeroT) (b := w.heap.size) Tryz.results145 (store5T HR2.out) rfl rfl rfl) rfl (MethTo.bad HM.out (only5T HON2.out (fun hl => absurd hl (Nat.lt_irrefl _))))
  | some u =>
   rw [ho] at cf hM
   have HM := Lib.hid hM
   unfold typO errO valT at cf
   simp only at cf
   have CF := Lib.hid cf
   clear cf hM ho
   go_wp2_with (fail)
   rw [← hx]
   refine (CF.out _).mono ?_
   rintro e w2 ⟨rfl, ho2⟩
   have hal := (Only.refl (fun _ => False) w2).alloc (.cells #[.int .i64 u.k, .string u.name, .int .i64 u.dims, .int .i64 u.elem, .int .i64 u.at_] 63)
   have hx4 := heap_alloc_new w2 (.cells #[.int .i64 u.k, .string u.name, .int .i64 u.dims, .int .i64 u.elem, .int .i64 u.at_] 63)
   have hr2 := hal.heap (ho2.heap HR1.out (fun h => h)) (fun h => h)
   have HON2 := Lib.hid ((HON1.out.trans ho2 (fun _ h _ => h)).trans hal (fun _ h _ => h))
   have HT2 := Lib.hid ((HT.out.only ho2 (fun _ _ h => h)).only hal (fun _ _ h => h))
   obtain ⟨f0, f1, f2, f3, f4⟩ := marks5T hr2
   obtain ⟨q0, q1, q2, q3, q4⟩ := cells5T hr2
   obtain ⟨x0, x1, x2, x3, x4⟩ := cells5T hx4
   have HR2 := Lib.hid hr2
   clear hr2 ho2 CF hal hx4
   go_wp2
   go_region
   go_wp2
   exact bodyPost_ret (type_resultM (t := u) (b := w.heap.size) Tryz.results145 (heap_drewT (store5T HR2.out)) rfl rfl rfl) rfl ⟨_, _, rfl, HM.out, (only5T HON2.out (fun hl => absurd hl (Nat.lt_irrefl _))).drew, (HT2.out.only (only5T (Only.refl (fun j => j = w.heap.size) _) (fun _ => rfl)).drew (fun k hk e => by have := (HT2.out.ge k hk).1; rw [World.size_alloc] at this; omega)).types⟩
set_option maxHeartbeats 4000000 in
set_option maxRecDepth 100000 in
theorem pIsField (m : MethN) (s : Int) (w : World) (hn : m.name.size ≤ 256) (hd : m.desc.size ≤ 281474976710656) :
  Calls Tryz.prog 115 #[.agg #[.string m.name, .string m.desc, .int .i64 m.flags, .int .i64 s]] w fun e w' => e = .returned (.bool ((oneZ8 (nums m.desc)).isSome && plainN (nums m.name))) ∧ Only (fun _ => False) w w' := by
 have hr0 := heap_alloc_new w (.cells #[.string m.name, .string m.desc, .int .i64 m.flags, .int .i64 s] 123)
 have ho0 := (Only.refl (fun _ => False) w).alloc (.cells #[.string m.name, .string m.desc, .int .i64 m.flags, .int .i64 s] 123)
 have c1 := progField m.desc (w.alloc (.cells #[.string m.name, .string m.desc, .int .i64 m.flags, .int .i64 s] 123)) hd
 have cn := fun W => pIsName m.name W hn
 generalize oneZ8 (nums m.desc) = o at *
 generalize plainN (nums m.name) = pl at *
 obtain ⟨t, er, ht, he, hs⟩ : ∃ (t : TypeV) (er : Int), typO o = t ∧ errO o = er ∧ (er = 0 ∧ o.isSome = true ∨ er = 80 ∧ o.isSome = false) := by
  cases o with
  | none => exact ⟨_, _, rfl, rfl, .inr ⟨rfl, rfl⟩⟩
  | some t => exact ⟨_, _, rfl, rfl, .inl ⟨rfl, rfl⟩⟩
 unfold OneTo valT at c1
 rw [ht, he] at c1
 obtain ⟨os, hos⟩ : ∃ b, o.isSome = b := ⟨_, rfl⟩
 rw [hos] at hs ⊢
 clear ht he hos
 have HR0 := Lib.hid hr0
 have HO0 := Lib.hid ho0
 have C1 := Lib.hid c1
 have CN := Lib.hid cn
 have HS := Lib.hid hs
 clear hr0 ho0 c1 cn hn hd hs
 go_enter Tryz.func115, Tryz.ntmps115
 go_wp2_with (fail)
 refine C1.out.mono ?_
 rintro e w1 ⟨rfl, ho1⟩
 have hal := (Only.refl (fun _ => False) w1).alloc (.cells #[.int .i64 t.k, .string t.name, .int .i64 t.dims, .int .i64 t.elem, .int .i64 t.at_] 63)
 have hr1 := hal.heap (ho1.heap HR0.out (fun h => h)) (fun h => h)
 have HO1 := Lib.hid ((HO0.out.trans ho1 (fun _ h _ => h)).trans hal (fun _ h _ => h))
 have q0 := cell_blk hr1 0
 have q1 := cell_blk hr1 1
 clear hal hr1 ho1 C1
 rcases HS.out with ⟨rfl, rfl⟩ | ⟨rfl, rfl⟩
 ·cases pl
  ·go_wp2_with (go_at_call 141; refine (CN.out _).mono ?_; rintro e w3 ⟨rfl, ho3⟩)
   go_ret
   exact ⟨rfl, HO1.out.trans ho3 (fun _ h _ => h)⟩
  ·go_wp2_with (go_at_call 141; refine (CN.out _).mono ?_; rintro e w3 ⟨rfl, ho3⟩)
   go_ret
   exact ⟨rfl, HO1.out.trans ho3 (fun _ h _ => h)⟩
 ·cases pl
  ·go_wp2_with (go_at_call 141; refine (CN.out _).mono ?_; rintro e w3 ⟨rfl, ho3⟩)
   go_ret
   exact ⟨rfl, HO1.out.trans ho3 (fun _ h _ => h)⟩
  ·go_wp2_with (go_at_call 141; refine (CN.out _).mono ?_; rintro e w3 ⟨rfl, ho3⟩)
   go_ret
   exact ⟨rfl, HO1.out.trans ho3 (fun _ h _ => h)⟩
def methZ (m : MethN) (x : List TypeV × TypeV × Int) : Bool := x.2.2 == 0 && (if m.name = initB then x.2.1.k == 8 && !(m.flags == 8) else plainN (nums m.name))
set_option maxHeartbeats 4000000 in
set_option maxRecDepth 100000 in
theorem pIsMethod (m : MethN) (s : Int) (w : World) (hn : m.name.size ≤ 256) (hd : m.desc.size ≤ 281474976710656) :
  Calls Tryz.prog 116 #[.agg #[.string m.name, .string m.desc, .int .i64 m.flags, .int .i64 s]] w fun e w' => (∃ x, Meth (nums m.desc) x ∧ e = .returned (.bool (methZ m x))) ∧ Only (fun _ => False) w w' := by
 have hr0 := heap_alloc_new w (.cells #[.string m.name, .string m.desc, .int .i64 m.flags, .int .i64 s] 123)
 have ho0 := (Only.refl (fun _ => False) w).alloc (.cells #[.string m.name, .string m.desc, .int .i64 m.flags, .int .i64 s] 123)
 have c1 := progMethod m.desc (w.alloc (.cells #[.string m.name, .string m.desc, .int .i64 m.flags, .int .i64 s] 123)) hd
 have cn := fun W => pIsName m.name W hn
 have cs := fun W => pStatic m s W
 have HM : Hid (∀ x, methZ m x = (x.2.2 == 0 && (if m.name = initB then x.2.1.k == 8 && !(m.flags == 8) else plainN (nums m.name)))) := Lib.hid (fun _ => rfl)
 generalize methZ m = mz at *
 generalize plainN (nums m.name) = pl at *
 generalize nums m.desc = zs at *
 obtain ⟨nm, dsc, fl⟩ := m
 simp only at *
 have HR0 := Lib.hid hr0
 have HO0 := Lib.hid ho0
 have C1 := Lib.hid c1
 have CN := Lib.hid cn
 have CS := Lib.hid cs
 clear hr0 ho0 c1 cn cs hn hd
 go_enter Tryz.func116, Tryz.ntmps116
 go_wp2_with (fail)
 refine C1.out.mono ?_
 rintro e w1 ⟨v, ⟨l, t, er⟩, rfl, hmt, ho1, _⟩
 have hal := (Only.refl (fun _ => False) w1).alloc (.cells #[.int .i64 t.k, .string t.name, .int .i64 t.dims, .int .i64 t.elem, .int .i64 t.at_] 63)
 have hr1 := hal.heap (ho1.heap HR0.out (fun h => h)) (fun h => h)
 have hrt := heap_alloc_new w1 (.cells #[.int .i64 t.k, .string t.name, .int .i64 t.dims, .int .i64 t.elem, .int .i64 t.at_] 63)
 have HO1 := Lib.hid ((HO0.out.trans ho1 (fun _ h _ => h)).trans hal (fun _ h _ => h))
 have q0 := cell_blk hr1 0
 have q1 := cell_blk hr1 1
 have q2 := cell_blk hr1 2
 have q3 := cell_blk hr1 3
 have t0 := cell_blk hrt 0
 have HMT := Lib.hid hmt
 unfold valT
 simp only
 clear hal hr1 hrt ho1 C1 hmt
 by_cases her : er = 0
 ·subst her
  by_cases hni : nm = initB
  ·have HE : Hid (mz (l, t, 0) = (t.k == 8 && !(fl == 8))) := Lib.hid (by rw [HM.out, if_pos hni]; rfl)
   unfold initB at hni
   subst hni
   have hli := lit_init
   clear HM
   by_cases htk : t.k = 8
   ·have HF : Hid (mz (l, t, 0) = !(fl == 8)) := Lib.hid (by rw [HE.out, htk]; rfl)
    have hkb : (t.k == 8) = true := by rw [htk]; rfl
    clear htk HE
    go_wp2_with (go_at_call 79; refine (CS.out _).mono ?_; rintro e w3 ⟨rfl, ho3⟩)
    go_ret
    exact ⟨⟨_, HMT.out, by rw [HF.out]; rfl⟩, HO1.out.trans ho3 (fun _ h _ => h)⟩
   ·have HF : Hid (mz (l, t, 0) = false) := Lib.hid (by rw [HE.out, beq_false_of_ne htk]; rfl)
    have hkb : (t.k == 8) = false := beq_false_of_ne htk
    clear htk HE
    go_wp2
    go_ret
    exact ⟨⟨_, _, _, HMT.out, by rw [HF.out] <;> rfl⟩, HO1.out⟩
  ·have HE : Hid (mz (l, t, 0) = pl) := Lib.hid (by rw [HM.out, if_neg hni]; rfl)
   obtain ⟨n1, n2⟩ := toList_beq hni
   unfold initB at n1 n2
   rw [lit_init] at n1 n2
   clear HM hni
   go_wp2_with (go_at_call 141; refine (CN.out _).mono ?_; rintro e w3 ⟨rfl, ho3⟩)
   go_ret
   exact ⟨⟨_, HMT.out, by rw [HE.out]; rfl⟩, HO1.out.trans ho3 (fun _ h _ => h)⟩
 ·have HE : Hid (mz (l, t, er) = false) := Lib.hid (by rw [HM.out, beq_false_of_ne her]; rfl)
  have heb : (er == 0) = false := beq_false_of_ne her
  clear HM her
  by_cases hni : nm = initB
  ·unfold initB at hni
   subst hni
   have hli := lit_init
   go_wp2
   go_ret
   exact ⟨⟨_, _, _, HMT.out, by rw [HE.out] <;> rfl⟩, HO1.out⟩
  ·obtain ⟨n1, n2⟩ := toList_beq hni
   unfold initB at n1 n2
   rw [lit_init] at n1 n2
   clear hni
   go_wp2
   go_ret
   exact ⟨⟨_, _, _, HMT.out, by rw [HE.out] <;> rfl⟩, HO1.out⟩
end Go.Proofs.YtgdgffnaknkbcaaGreatDoor
