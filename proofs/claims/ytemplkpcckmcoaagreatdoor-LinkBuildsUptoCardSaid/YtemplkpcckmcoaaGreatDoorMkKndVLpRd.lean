import Derived.Test.YtemplkpcckmcoaaGreatDoorMkTkH
import Derived.Test.YtemplkpcckmcoaaGreatDoorMkKndPLpN
import Derived.Test.YtemplkpcckmcoaaGreatDoorMkLpTaIxC
import Derived.Test.YtemplkpcckmcoaaGreatDoorMkLnkOLnkP
import Derived.Test.YtemplkpcckmcoaaGreatDoorMkClsNmLpY
import Derived.Deep.RegionHeld3
namespace Go.Proofs.YtemplkpcckmcoaaGreatDoor
set_option maxHeartbeats 16000000
open Lib (hid)
open Go.RowKit
set_option linter.unusedVariables false
set_option linter.unusedSimpArgs false
def ParamsTo (w : World) (s : ByteArray) (e : Ending) (w' : World) : Prop :=
 (e = .returned (.tuple #[.slice none 0 0, .int .i64 0]) ∧ Meth (nums s) ([], zeroT, 80) ∧ Only (fun _ => False) w w') ∨
 ∃ v l n zs, e = .returned (.tuple #[v, .int .i64 ((n : Nat) : Int)]) ∧ 0 < n ∧ n ≤ s.size ∧ l.length ≤ 16 ∧ nums s = 40 :: zs ∧ Par zs l (41 :: nums (s.extract n s.size)) ∧ Only (fun _ => False) w w' ∧ TRow w' w.heap.size v l
theorem head_is {zs : List Int} {c : Int} (h : headIs c zs = true) : ∃ q, zs = c :: q := by
 unfold headIs at h
 cases zs with
 | nil => simp at h
 | cons x q => simp at h; exact ⟨q, by rw [h]⟩
theorem head_not {zs : List Int} {c : Int} (h : headIs c zs = false) : ∀ x q, zs = x :: q → x ≠ c := by
 unfold headIs at h
 intro x q e
 subst e
 simpa using h
set_option maxRecDepth 100000 in
theorem progParams (s : ByteArray) (w : World) (hs : s.size ≤ 281474976710656) :
  Calls Tryz.prog 129 #[.string s] w (ParamsTo w s) := by
 obtain ⟨i0, hi, hz0, hz1, hz2⟩ := info_parts info_type
 have ch := hasHead s 40 w
 rw [show (((40 : UInt8).toNat : Nat) : Int) = 40 from rfl] at ch
 cases hh : headIs 40 (nums s) with
 | false =>
  have HM : Hid (Meth (nums s) ([], zeroT, 80)) := hid (.inl ⟨fun ⟨q, e⟩ => head_not hh 40 q e rfl, rfl⟩)
  rw [hh] at ch
  have CH := hid ch
  clear ch hh
  go_enter Tryz.func129, Tryz.ntmps129
  go_wp2_with (fail)
  refine CH.out.mono ?_
  rintro e w1 ⟨rfl, rfl⟩
  go_wp2
  go_ret2
  exact .inl ⟨rfl, HM.out, Only.refl _ _⟩
 | true =>
  obtain ⟨zs, hzs⟩ := head_is hh
  rw [hh] at ch
  have CH := hid ch
  have HZ := hid hzs
  have hsl : zs.length + 1 = s.size := by rw [← nums_len, hzs]; rfl
  have HSL := hid hsl
  clear ch hh hzs
  go_enter Tryz.func129, Tryz.ntmps129
  go_wp2_with (fail)
  refine CH.out.mono ?_
  rintro e w1 ⟨rfl, rfl⟩
  go_wp2
  go_loopw [4, 5, 11] (fun lv av iv wr => ∃ (l : List TypeV) (a j : Nat), av = .int .i64 a ∧ iv = .int .i64 j ∧ j ≤ 17 ∧ l.length = j ∧ 1 ≤ a ∧ a ≤ s.size ∧ TRow wr w.heap.size lv l ∧ Only (fun _ => False) w wr ∧ (j ≤ 16 → Par zs l ((nums s).drop a)) ∧ (j = 17 → Meth (nums s) ([], zeroT, 80))) (fun _ _ iv _ => 17 - (intOf iv).toNat)
  case atStart => exact ⟨[], 1, 0, rfl, rfl, by omega, rfl, by omega, by omega, TRow.nil _ _, Only.refl _ _, fun _ => by rw [HZ.out]; exact Par.nil zs, fun h => by omega⟩
  case round =>
   obtain ⟨l, a, j, rfl, rfl, hj, hlj, ha1, ha2, hrow, hon, hpar, hmeth⟩ := hrel
   have HPAR := hid hpar
   have HMETH := hid hmeth
   have HROW := hid hrow
   have HON := hid hon
   have HLJ := hid hlj
   obtain ⟨al, cl, rfl, l1, l2, l3, -⟩ := id hrow.types
   have HTY := hid hrow.types
   clear hpar hmeth hrow hon l3 hlj
   have hazz : (a : Int) ≤ (s.size : Int) := by omega
   have ha0 : (0 : Int) ≤ (a : Int) := by omega
   by_cases h17 : j < 17
   ·have hjz : (j : Int) < 17 := by omega
    obtain ⟨x, hx⟩ : ∃ x, x = s.extract a s.size := ⟨_, rfl⟩
    have hxs : x.size + a = s.size := by rw [hx]; simp; omega
    have hxn : nums x = (nums s).drop a := by rw [hx, nums_rest]
    have ch := fun w => hasHead x 41 w
    rw [show (((41 : UInt8).toNat : Nat) : Int) = 41 from rfl] at ch
    have HXN := hid hxn
    have HXS := hid hxs
    have hp := HPAR.out (by omega)
    rw [← hxn] at hp
    clear hxn
    cases hc : headIs 41 (nums x) with
    | true =>
     obtain ⟨q, hq⟩ := head_is hc
     have hxp : 0 < x.size := by rw [← nums_len, hq]; simp
     have hrest : nums (s.extract (a + 1) s.size) = q := by
      rw [nums_rest, ← List.drop_drop, ← HXN.out, hq]; rfl
     have HP : Hid (Par zs l (41 :: nums (s.extract (a + 1) s.size))) := hid (by rw [hrest, ← hq]; exact hp)
     have hale : (a : Int) + 1 = ((a + 1 : Nat) : Int) := by omega
     have HAL := hid hale
     have has : a + 1 ≤ s.size := by omega
     have haz : (a : Int) ≤ 281474976710656 := by omega
     rw [hc] at ch
     have CHH := hid ch
     clear ch hc hq hrest hp hale hxp
     go_wp2_with (fail)
     rw [← hx]
     refine (CHH.out _).mono ?_
     rintro e w2 ⟨rfl, rfl⟩
     go_wp2
     go_ret2
     exact .inr ⟨_, l, a + 1, zs, by first | rfl | rw [HAL.out], by omega, has, by have := HLJ.out; omega, HZ.out, HP.out, HON.out, HROW.out⟩
    | false =>
     rw [hc] at ch
     have CHH := hid ch
     have hne := head_not hc
     have cf := fun w => progFirst x w (by omega)
     cases hf : fieldZ (nums x) with
     | none =>
      have HM : Hid (Meth (nums s) ([], zeroT, 80)) := by
       refine hid (.inr ⟨zs, l, nums x, HZ.out, hp, fun c q e hc' t r' hf' => ?_, ?_⟩)
       ·rw [← e, hf] at hf'; cases hf'
       ·cases hq : nums x with
        | nil => rfl
        | cons c q =>
         show _ = (if c = 41 then _ else _)
         rw [if_neg (hne c q hq)]
      rw [hf] at cf
      unfold FlatTo typF sizeF zeroT valT at cf
      simp only at cf
      have CF := hid cf
      clear ch hc hne hf hp cf
      go_wp2_with (fail)
      rw [← hx]
      refine (CHH.out _).mono ?_
      rintro e w2 ⟨rfl, rfl⟩
      go_wp2_with (fail)
      rw [← hx]
      refine (CF.out _).mono ?_
      rintro e w3 ⟨rfl, ho3⟩
      have HON3 := hid (HON.out.trans ho3 (fun _ h _ => h))
      clear ho3 CF CHH
      go_wp2
      go_ret2
      exact .inl ⟨rfl, HM.out, HON3.out.alloc _⟩
     | some p =>
      obtain ⟨u, r'⟩ := p
      obtain ⟨n, hn, hlt⟩ := field_rest hf
      rw [nums_len] at hlt
      have hfc := hf
      rw [hf] at cf
      unfold FlatTo typF sizeF valT at cf
      simp only at cf
      obtain ⟨z, hz⟩ : ∃ z : Nat, z = x.size - r'.length := ⟨_, rfl⟩
      rw [← hz] at cf
      have hzz0 : ((z : Int) == 0) = false := by rw [beq_eq_false_iff_ne]; omega
      have hdrop : (nums s).drop (a + z) = r' := by
       rw [← List.drop_drop, ← HXN.out, hn]
       have hle := congrArg List.length hn
       rw [List.length_drop, nums_len] at hle
       by_cases hnx : n ≤ x.size
       ·congr 1; omega
       ·rw [List.drop_of_length_le (by rw [nums_len]; omega), List.drop_of_length_le (by rw [nums_len]; omega)]
      have HDROP := hid hdrop
      have haz : a + z ≤ s.size := by omega
      have hazi : (a : Int) + (z : Int) = ((a + z : Nat) : Int) := by omega
      have HAZI := hid hazi
      have hzle : (z : Int) ≤ 281474976710656 := by omega
      have hale : (a : Int) ≤ 281474976710656 := by omega
      obtain ⟨c, q, hcq⟩ : ∃ c q, nums x = c :: q := by
       cases hq : nums x with
       | nil => rw [hq] at hf; cases hf
       | cons c q => exact ⟨c, q, rfl⟩
      have HP2 : Hid (j + 1 ≤ 16 → Par zs (l ++ [u]) ((nums s).drop (a + z))) := by
       refine hid fun h16 => ?_
       rw [hdrop]
       rw [hcq] at hp hf
       exact hp.snoc (hne c q hcq) hf (by rw [HLJ.out]; omega)
      have HM2 : Hid (j + 1 = 17 → Meth (nums s) ([], zeroT, 80)) := by
       refine hid fun h16 => ?_
       refine .inr ⟨zs, l, nums x, HZ.out, hp, fun c' q' e hc' t r'' hf' => by rw [HLJ.out]; omega, ?_⟩
       rw [hcq]
       show _ = (if c = 41 then _ else _)
       rw [if_neg (hne c q hcq)]
      have CF := hid cf
      clear ch hc hne hf hp cf hfc hn hlt hz hdrop hazi hcq
      go_wp2_with (fail)
      rw [← hx]
      refine (CHH.out _).mono ?_
      rintro e w2 ⟨rfl, rfl⟩
      go_wp2_with (fail)
      rw [← hx]
      refine (CF.out _).mono ?_
      rintro e w3 ⟨rfl, ho3⟩
      have hal := (Only.refl (fun _ => False) w3).alloc (.cells #[.int .i64 u.k, .string u.name, .int .i64 u.dims, .int .i64 u.elem, .int .i64 u.at_] 117)
      have hal2 := hal.alloc (.cells #[.int .i64 u.k, .string u.name, .int .i64 u.dims, .int .i64 u.elem, .int .i64 u.at_] 117)
      have HON4 := hid ((HON.out.trans ho3 (fun _ h _ => h)).trans hal2 (fun _ h _ => h))
      have HROW5 := hid ((HROW.out.only ho3 (fun _ _ h => h)).only hal2 (fun _ _ h => h))
      have HSRC := hid (Src.type (w := w3.alloc (.cells #[.int .i64 u.k, .string u.name, .int .i64 u.dims, .int .i64 u.elem, .int .i64 u.at_] 117)) (m := w3.heap.size + 1) u (by simp))
      have HGE := hid ((HROW.out.only ho3 (fun _ _ h => h)).ge)
      have HBASE := hid (show w.heap.size ≤ ((w3.alloc (.cells #[.int .i64 u.k, .string u.name, .int .i64 u.dims, .int .i64 u.elem, .int .i64 u.at_] 117)).alloc (.cells #[.int .i64 u.k, .string u.name, .int .i64 u.dims, .int .i64 u.elem, .int .i64 u.at_] 117)).heap.size by have := HON.out.size; have := ho3.size; simp; omega)
      have hl16 : l.length ≤ 16 := by rw [HLJ.out]; omega
      clear ho3 hal hal2 CF CHH
      go_wp2_with (at_builtin; go_loud (refine wpList_append_src rfl (.tmp 29) (.tmp 31) 62 rfl 117 i0 (.agg #[.int .i64 0, .string ⟨#[]⟩, .int .i64 0, .int .i64 0, .int .i64 0]) 5 48 Tryz.underlying62 hi hz0 hz1 hz2 rfl (by decide) w.heap.size (.slice al l.length cl) l.length (l.flatMap cellsTy) rfl (by exact HROW5.out) (by exact HBASE.out) (.slice (some ⟨w3.heap.size + 1, 0, none⟩) 1 1) 1 (cellsTy u) rfl (by exact HSRC.out) (by unfold maxLen; omega) (by omega) ?_); intro v' w5 hown hgrow hnew; have hos := only_grownT hgrow; have hrow6 := TRow.more hown; have hon6 := HON4.out.trans hos (fun j hj hl => by have := (HGE.out _ hj).1; omega); clear hown hgrow hnew hos; have HROW6 := hid hrow6; have HON6 := hid hon6; clear hrow6 hon6)
      go_roundw
      case rel => exact ⟨l ++ [u], a + z, j + 1, by rw [← HAZI.out], by go_num, by omega, by rw [List.length_append, HLJ.out]; rfl, by omega, haz, HROW6.out, HON6.out, HP2.out, HM2.out⟩
      case measure => simp [intOf]; omega
   ·obtain rfl : j = 17 := by omega
    have HM := hid (HMETH.out rfl)
    clear h17
    go_wp2
    go_ret2
    exact .inl ⟨rfl, HM.out, HON.out⟩
theorem endM_ret (l : List TypeV) (q : List Int) : endM l (41 :: q) = match retZ q with | some t => (l, t, 0) | none => ([], zeroT, 80) := by
 unfold endM retZ
 simp only [if_true]
 by_cases h : q = [86]
 ·rw [if_pos h, if_pos h]
 ·rw [if_neg h, if_neg h]
  cases oneZ8 q <;> rfl
set_option maxRecDepth 100000 in
theorem progMethod (s : ByteArray) (w : World) (hs : s.size ≤ 281474976710656) :
  Calls Tryz.prog 111 #[.string s] w (MethTo w (nums s)) := by
 have hr0 := heap_alloc_new w (.cells #[.int .i64 0, .string ⟨#[]⟩, .int .i64 0, .int .i64 0, .int .i64 0] 117)
 have ho0 := (Only.refl (fun _ => False) w).alloc (.cells #[.int .i64 0, .string ⟨#[]⟩, .int .i64 0, .int .i64 0, .int .i64 0] 117)
 have c1 := progParams s (w.alloc (.cells #[.int .i64 0, .string ⟨#[]⟩, .int .i64 0, .int .i64 0, .int .i64 0] 117)) hs
 have HR0 := hid hr0
 have HO0 := hid ho0
 have C1 := hid c1
 clear hr0 ho0 c1
 go_enter Tryz.func111, Tryz.ntmps111
 go_wp2_with (fail)
 refine C1.out.mono ?_
 rintro e w1 (⟨rfl, hm, ho1⟩ | ⟨v, l, n, zs, rfl, hn0, hns, hl16, hz, hp, ho1, ht⟩)
 ·have hr1 := ho1.heap HR0.out (fun h => h)
  have HON1 := hid (HO0.out.trans ho1 (fun _ h _ => h))
  obtain ⟨f0, f1, f2, f3, f4⟩ := marks5T hr1
  obtain ⟨q0, q1, q2, q3, q4⟩ := cells5T hr1
  have HR1 := hid hr1
  have HM := hid hm
  clear hr1 ho1 C1 hm
  go_wp2
  exact bodyPost_ret (type_resultM (t := zeroT) (b := w.heap.size) Tryz.results111 (store5T HR1.out) rfl rfl rfl) rfl (MethTo.bad HM.out (only5T HON1.out (fun hl => absurd hl (Nat.lt_irrefl _))))
 ·obtain ⟨al, cl, rfl, l1, l2, l3, -⟩ := id ht.types
  have hr1 := ho1.heap HR0.out (fun h => h)
  have HON1 := hid (HO0.out.trans ho1 (fun _ h _ => h))
  have HR1 := hid hr1
  have HT := hid ht
  have HL16 := hid hl16
  have hM := (show Meth (nums s) (endM l (41 :: nums (s.extract n s.size))) from .inr ⟨zs, l, _, hz, hp, (fun c q e hne => by injection e with e _; exact absurd e.symm hne), rfl⟩)
  rw [endM_ret] at hM
  have hn0z : ((n : Int) == 0) = false := by rw [beq_eq_false_iff_ne]; omega
  have hnsz : (n : Int) ≤ (s.size : Int) := by omega
  have hn00 : (0 : Int) ≤ (n : Int) := by omega
  obtain ⟨x, hx⟩ : ∃ x, x = s.extract n s.size := ⟨_, rfl⟩
  have hxs : x.size ≤ s.size := by rw [hx]; simp
  have cf := fun w => progResult x w (by omega)
  rw [← hx] at hM
  unfold OneTo at cf
  clear hr1 ho1 C1 hz hp ht l3 hl16
  cases ho : retZ (nums x) with
  | none =>
   rw [ho] at cf hM
   have HM := hid hM
   unfold typO errO zeroT valT at cf
   simp only at cf
   have CF := hid cf
   clear cf hM ho
   go_wp2_with (fail)
   rw [← hx]
   refine (CF.out _).mono ?_
   rintro e w2 ⟨rfl, ho2⟩
   have hal := (Only.refl (fun _ => False) w2).alloc (.cells #[.int .i64 0, .string ⟨#[]⟩, .int .i64 0, .int .i64 0, .int .i64 0] 117)
   have hr2 := hal.heap (ho2.heap HR1.out (fun h => h)) (fun h => h)
   have HON2 := hid ((HON1.out.trans ho2 (fun _ h _ => h)).trans hal (fun _ h _ => h))
   obtain ⟨f0, f1, f2, f3, f4⟩ := marks5T hr2
   obtain ⟨q0, q1, q2, q3, q4⟩ := cells5T hr2
   have HR2 := hid hr2
   clear hr2 ho2 CF hal
   go_wp2
   exact bodyPost_ret (type_resultM (t := zeroT) (b := w.heap.size) Tryz.results111 (store5T HR2.out) rfl rfl rfl) rfl (MethTo.bad HM.out (only5T HON2.out (fun hl => absurd hl (Nat.lt_irrefl _))))
  | some u =>
   rw [ho] at cf hM
   have HM := hid hM
   unfold typO errO valT at cf
   simp only at cf
   have CF := hid cf
   clear cf hM ho
   go_wp2_with (fail)
   rw [← hx]
   refine (CF.out _).mono ?_
   rintro e w2 ⟨rfl, ho2⟩
   have hal := (Only.refl (fun _ => False) w2).alloc (.cells #[.int .i64 u.k, .string u.name, .int .i64 u.dims, .int .i64 u.elem, .int .i64 u.at_] 117)
   have hx4 := heap_alloc_new w2 (.cells #[.int .i64 u.k, .string u.name, .int .i64 u.dims, .int .i64 u.elem, .int .i64 u.at_] 117)
   have hr2 := hal.heap (ho2.heap HR1.out (fun h => h)) (fun h => h)
   have HON2 := hid ((HON1.out.trans ho2 (fun _ h _ => h)).trans hal (fun _ h _ => h))
   have HT2 := hid ((HT.out.only ho2 (fun _ _ h => h)).only hal (fun _ _ h => h))
   obtain ⟨f0, f1, f2, f3, f4⟩ := marks5T hr2
   obtain ⟨q0, q1, q2, q3, q4⟩ := cells5T hr2
   obtain ⟨x0, x1, x2, x3, x4⟩ := cells5T hx4
   have HR2 := hid hr2
   clear hr2 ho2 CF hal hx4
   go_wp2
   go_region
   go_wp2
   exact bodyPost_ret (type_resultM (t := u) (b := w.heap.size) Tryz.results111 (heap_drewT (store5T HR2.out)) rfl rfl rfl) rfl ⟨_, _, rfl, HM.out, (only5T HON2.out (fun hl => absurd hl (Nat.lt_irrefl _))).drew, (HT2.out.only (only5T (Only.refl (fun j => j = w.heap.size) _) (fun _ => rfl)).drew (fun k hk e => by have := (HT2.out.ge k hk).1; rw [World.size_alloc] at this; omega)).types⟩
set_option maxRecDepth 100000 in
theorem pIsField (m : MethN) (s : Int) (w : World) (hn : m.name.size ≤ 256) (hd : m.desc.size ≤ 281474976710656) :
  Calls Tryz.prog 80 #[.agg #[.string m.name, .string m.desc, .int .i64 m.flags, .int .i64 s]] w fun e w' => e = .returned (.bool ((oneZ8 (nums m.desc)).isSome && plainN (nums m.name))) ∧ Only (fun _ => False) w w' := by
 have hr0 := heap_alloc_new w (.cells #[.string m.name, .string m.desc, .int .i64 m.flags, .int .i64 s] 107)
 have ho0 := (Only.refl (fun _ => False) w).alloc (.cells #[.string m.name, .string m.desc, .int .i64 m.flags, .int .i64 s] 107)
 have c1 := progField m.desc (w.alloc (.cells #[.string m.name, .string m.desc, .int .i64 m.flags, .int .i64 s] 107)) hd
 have cn := fun W => pIsName m.name W hn
 generalize oneZ8 (nums m.desc) = o at *
 generalize plainN (nums m.name) = pl at *
 obtain ⟨t, er, ht, he, hs⟩ : ∃ (t : TypeV) (er : Int), typO o = t ∧ errO o = er ∧ (er = 0 ∧ o.isSome = true ∨ er = 80 ∧ o.isSome = false) := by
  cases o with
  | none => exact ⟨_, _, rfl, rfl, .inr ⟨rfl, rfl⟩⟩
  | some t => exact ⟨_, _, rfl, rfl, .inl ⟨rfl, rfl⟩⟩
 unfold OneTo valT at c1
 rw [ht, he] at c1
 obtain ⟨os, hos⟩ : ∃ b, o.isSome = b := ⟨_, rfl⟩
 rw [hos] at hs ⊢
 clear ht he hos
 have HR0 := hid hr0
 have HO0 := hid ho0
 have C1 := hid c1
 have CN := hid cn
 have HS := hid hs
 clear hr0 ho0 c1 cn hn hd hs
 go_enter Tryz.func80, Tryz.ntmps80
 go_wp2_with (fail)
 refine C1.out.mono ?_
 rintro e w1 ⟨rfl, ho1⟩
 have hal := (Only.refl (fun _ => False) w1).alloc (.cells #[.int .i64 t.k, .string t.name, .int .i64 t.dims, .int .i64 t.elem, .int .i64 t.at_] 117)
 have hr1 := hal.heap (ho1.heap HR0.out (fun h => h)) (fun h => h)
 have HO1 := hid ((HO0.out.trans ho1 (fun _ h _ => h)).trans hal (fun _ h _ => h))
 have q0 := cell_blk hr1 0
 have q1 := cell_blk hr1 1
 clear hal hr1 ho1 C1
 rcases HS.out with ⟨rfl, rfl⟩ | ⟨rfl, rfl⟩
 ·cases pl
  ·go_wp2_with (go_at_call 105; refine (CN.out _).mono ?_; rintro e w3 ⟨rfl, ho3⟩)
   go_ret
   exact ⟨rfl, HO1.out.trans ho3 (fun _ h _ => h)⟩
  ·go_wp2_with (go_at_call 105; refine (CN.out _).mono ?_; rintro e w3 ⟨rfl, ho3⟩)
   go_ret
   exact ⟨rfl, HO1.out.trans ho3 (fun _ h _ => h)⟩
 ·cases pl
  ·go_wp2_with (go_at_call 105; refine (CN.out _).mono ?_; rintro e w3 ⟨rfl, ho3⟩)
   go_ret
   exact ⟨rfl, HO1.out.trans ho3 (fun _ h _ => h)⟩
  ·go_wp2_with (go_at_call 105; refine (CN.out _).mono ?_; rintro e w3 ⟨rfl, ho3⟩)
   go_ret
   exact ⟨rfl, HO1.out.trans ho3 (fun _ h _ => h)⟩
def methZ (m : MethN) (x : List TypeV × TypeV × Int) : Bool := x.2.2 == 0 && (if m.name = initB then x.2.1.k == 8 && !(m.flags == 8) else plainN (nums m.name))
set_option maxRecDepth 100000 in
theorem pIsMethod (m : MethN) (s : Int) (w : World) (hn : m.name.size ≤ 256) (hd : m.desc.size ≤ 281474976710656) :
  Calls Tryz.prog 82 #[.agg #[.string m.name, .string m.desc, .int .i64 m.flags, .int .i64 s]] w fun e w' => (∃ x, Meth (nums m.desc) x ∧ e = .returned (.bool (methZ m x))) ∧ Only (fun _ => False) w w' := by
 have hr0 := heap_alloc_new w (.cells #[.string m.name, .string m.desc, .int .i64 m.flags, .int .i64 s] 107)
 have ho0 := (Only.refl (fun _ => False) w).alloc (.cells #[.string m.name, .string m.desc, .int .i64 m.flags, .int .i64 s] 107)
 have c1 := progMethod m.desc (w.alloc (.cells #[.string m.name, .string m.desc, .int .i64 m.flags, .int .i64 s] 107)) hd
 have cn := fun W => pIsName m.name W hn
 have cs := fun W => pStatic m s W
 have HM : Hid (∀ x, methZ m x = (x.2.2 == 0 && (if m.name = initB then x.2.1.k == 8 && !(m.flags == 8) else plainN (nums m.name)))) := hid (fun _ => rfl)
 generalize methZ m = mz at *
 generalize plainN (nums m.name) = pl at *
 generalize nums m.desc = zs at *
 obtain ⟨nm, dsc, fl⟩ := m
 simp only at *
 have HR0 := hid hr0
 have HO0 := hid ho0
 have C1 := hid c1
 have CN := hid cn
 have CS := hid cs
 clear hr0 ho0 c1 cn cs hn hd
 go_enter Tryz.func82, Tryz.ntmps82
 go_wp2_with (fail)
 refine C1.out.mono ?_
 rintro e w1 ⟨v, ⟨l, t, er⟩, rfl, hmt, ho1, _⟩
 have hal := (Only.refl (fun _ => False) w1).alloc (.cells #[.int .i64 t.k, .string t.name, .int .i64 t.dims, .int .i64 t.elem, .int .i64 t.at_] 117)
 have hr1 := hal.heap (ho1.heap HR0.out (fun h => h)) (fun h => h)
 have hrt := heap_alloc_new w1 (.cells #[.int .i64 t.k, .string t.name, .int .i64 t.dims, .int .i64 t.elem, .int .i64 t.at_] 117)
 have HO1 := hid ((HO0.out.trans ho1 (fun _ h _ => h)).trans hal (fun _ h _ => h))
 have q0 := cell_blk hr1 0
 have q1 := cell_blk hr1 1
 have q2 := cell_blk hr1 2
 have q3 := cell_blk hr1 3
 have t0 := cell_blk hrt 0
 have HMT := hid hmt
 unfold valT
 simp only
 clear hal hr1 hrt ho1 C1 hmt
 by_cases her : er = 0
 ·subst her
  by_cases hni : nm = initB
  ·have HE : Hid (mz (l, t, 0) = (t.k == 8 && !(fl == 8))) := hid (by rw [HM.out, if_pos hni]; rfl)
   unfold initB at hni
   subst hni
   have hli := lit_init
   clear HM
   by_cases htk : t.k = 8
   ·have HF : Hid (mz (l, t, 0) = !(fl == 8)) := hid (by rw [HE.out, htk]; rfl)
    have hkb : (t.k == 8) = true := by rw [htk]; rfl
    clear htk HE
    go_wp2_with (go_at_call 48; refine (CS.out _).mono ?_; rintro e w3 ⟨rfl, ho3⟩)
    go_ret
    exact ⟨⟨_, HMT.out, by rw [HF.out]; rfl⟩, HO1.out.trans ho3 (fun _ h _ => h)⟩
   ·have HF : Hid (mz (l, t, 0) = false) := hid (by rw [HE.out, beq_false_of_ne htk]; rfl)
    have hkb : (t.k == 8) = false := beq_false_of_ne htk
    clear htk HE
    go_wp2
    go_ret
    exact ⟨⟨_, _, _, HMT.out, by rw [HF.out] <;> rfl⟩, HO1.out⟩
  ·have HE : Hid (mz (l, t, 0) = pl) := hid (by rw [HM.out, if_neg hni]; rfl)
   obtain ⟨n1, n2⟩ := toList_beq hni
   unfold initB at n1 n2
   rw [lit_init] at n1 n2
   clear HM hni
   go_wp2_with (go_at_call 105; refine (CN.out _).mono ?_; rintro e w3 ⟨rfl, ho3⟩)
   go_ret
   exact ⟨⟨_, HMT.out, by rw [HE.out]; rfl⟩, HO1.out.trans ho3 (fun _ h _ => h)⟩
 ·have HE : Hid (mz (l, t, er) = false) := hid (by rw [HM.out, beq_false_of_ne her]; rfl)
  have heb : (er == 0) = false := beq_false_of_ne her
  clear HM her
  by_cases hni : nm = initB
  ·unfold initB at hni
   subst hni
   have hli := lit_init
   go_wp2
   go_ret
   exact ⟨⟨_, _, _, HMT.out, by rw [HE.out] <;> rfl⟩, HO1.out⟩
  ·obtain ⟨n1, n2⟩ := toList_beq hni
   unfold initB at n1 n2
   rw [lit_init] at n1 n2
   clear hni
   go_wp2
   go_ret
   exact ⟨⟨_, _, _, HMT.out, by rw [HE.out] <;> rfl⟩, HO1.out⟩
end Go.Proofs.YtemplkpcckmcoaaGreatDoor
namespace Go.Proofs.YtemplkpcckmcoaaGreatDoor
set_option maxHeartbeats 16000000
open Lib (hid)
open Go.RowKit Go.Maps
set_option linter.unusedVariables false
set_option linter.unusedSimpArgs false
section
variable {G : Nat → Prop} {fv : Nat → Value} {w : World} {pb : Nat} {ks : List KindV} {cl : Nat → ClassV} {sl : Nat → Nat → Int} (h : ProgG G fv w pb ks cl sl) (hpos : 0 < ks.length)
 {lb i : Nat} {c : ClassV} {vp vf vm vof vom : Value} (hl : w.heap[lb]? = some (listedO i c vp vf vm vof vom)) (hp : Pool w vp c.pool) {k : KindV} (hkn : k.name = (classZ c.pool c.this).1) (hna : k.name.size ≤ 256)
include h hpos hl hp hkn hna
set_option maxRecDepth 100000 in
theorem pHasOwn : Calls Tryz.prog 76 #[.pointer (some ⟨pb, 0, none⟩), .pointer (some ⟨lb, 0, none⟩)] w fun e w' => e = .returned (.bool (plainN (nums k.name) && (findZ ks k.name == (i : Int)))) ∧ Only (fun _ => False) w w' := by
 have CM := hid (fun (W : World) (ho : Only (fun _ => False) w W) => lName (ho.heap hl (fun h => h)) (hp.only ho (fun _ _ h => h)))
 have CN := hid (fun (W : World) => pIsName k.name W hna)
 have CF := hid (fun (W : World) (ho : Only (fun _ => False) w W) => pFind (h.only ho) hpos k.name (by unfold maxLen; omega))
 rw [← hkn] at CM
 have hq := (cells8L hl).1
 have HS0 := hid (show (fun wc => wc.cell? ⟨lb, 0, none⟩ = some (.int .i64 (i : Int)) ∧ Only (fun _ => False) w wc) (w.drewN 1) from ⟨hq, (Only.refl _ _).drewN 1⟩)
 generalize findZ ks k.name = fz at *
 generalize plainN (nums k.name) = pl at *
 generalize k.name = nm at *
 clear h hpos hl hp hkn hna hq
 go_enter Tryz.func76, Tryz.ntmps76
 cases pl
 ·go_wp2_with (fail)
  refine wp_region_held_drew (S := fun wc => wc.cell? ⟨lb, 0, none⟩ = some (.int .i64 (i : Int)) ∧ Only (fun _ => False) w wc) (by kernel_rfl) HS0.out (fun hHeld => ?_)
  refine tk1 0 (v := ?_) (y := ?_) (h := ?_)
  rotate_left 1
  ·(intro w h; (try dsimp only at h); go_simp; try with_reducible rfl)
  try simp only [Act.put, sIB, sC0, sCS]
  refine wpAnyH_ready (rs := [1]) (by kernel_rfl) (by simp) ?_
  refine AllReadyH.cons (by simp only [List.getElem?_toArray, List.getElem?_cons_succ, List.getElem?_cons_zero]; rfl) (fun K hK => ?_) AllReadyH.nil
  go_simp
  (refine (CM.out _ hHeld.2).mono ?_; rintro e w2 ⟨rfl, ho⟩; have HQ1 := hid (show (fun wc => wc.cell? ⟨lb, 0, none⟩ = some (.int .i64 (i : Int)) ∧ Only (fun _ => False) w wc) w2 from ⟨ho.cell hHeld.1 (fun h => h), hHeld.2.trans ho (fun _ h _ => h)⟩); clear ho)
  go_wp2_with fail
  refine hK.out _ _ ?_ (fun hHeld2 => ?_)
  ·exact HQ1.out
  clear hK K
  try simp only [Act.put, sIB, sC0, sCS]
  clear hHeld
  have hHeld := hHeld2
  clear hHeld2
  refine wpAnyH_ready (rs := [2]) (by kernel_rfl) (by simp) ?_
  refine AllReadyH.cons (by simp only [List.getElem?_toArray, List.getElem?_cons_succ, List.getElem?_cons_zero]; rfl) (fun K hK => ?_) AllReadyH.nil
  go_simp
  (refine (CN.out _).mono ?_; rintro e w3 ⟨rfl, ho⟩; have HQ2 := hid (show (fun wc => wc.cell? ⟨lb, 0, none⟩ = some (.int .i64 (i : Int)) ∧ Only (fun _ => False) w wc) w3 from ⟨ho.cell hHeld.1 (fun h => h), hHeld.2.trans ho (fun _ h _ => h)⟩); clear ho)
  go_wp2_with fail
  refine hK.out _ _ ?_ (fun hHeld2 => ?_)
  ·exact HQ2.out
  clear hK K
  try simp only [Act.put, sIB, sC0, sCS]
  clear hHeld
  have hHeld := hHeld2
  clear hHeld2
  refine tk1 3 (v := ?_) (y := ?_) (h := ?_)
  rotate_left 1
  ·(intro w h; (try dsimp only at h); go_simp; try with_reducible rfl)
  try simp only [Act.put, sIB, sC0, sCS]
  refine tk0 4 (h := ?_)
  try simp only [Act.put, sIB, sC0, sCS]
  refine tk0 5 (h := ?_)
  try simp only [Act.put, sIB, sC0, sCS]
  refine tk0 6 (h := ?_)
  try simp only [Act.put, sIB, sC0, sCS]
  refine tk0 7 (h := ?_)
  try simp only [Act.put, sIB, sC0, sCS]
  refine tk0 8 (h := ?_)
  try simp only [Act.put, sIB, sC0, sCS]
  refine tk0 9 (h := ?_)
  try simp only [Act.put, sIB, sC0, sCS]
  refine tk0 10 (h := ?_)
  try simp only [Act.put, sIB, sC0, sCS]
  refine tk0 11 (h := ?_)
  try simp only [Act.put, sIB, sC0, sCS]
  refine tk0 12 (h := ?_)
  try simp only [Act.put, sIB, sC0, sCS]
  refine tk1 13 (v := ?_) (y := ?_) (h := ?_)
  rotate_left 1
  ·(intro w h; (try dsimp only at h); go_simp; try with_reducible rfl)
  try simp only [Act.put, sIB, sC0, sCS]
  refine tk1 14 (v := ?_) (y := ?_) (h := ?_)
  rotate_left 1
  ·(intro w h; (try dsimp only at h); go_simp; try with_reducible rfl)
  try simp only [Act.put, sIB, sC0, sCS]
  refine wpAnyH_done (by kernel_rfl) ?_ _
  have HF := hid HQ2.out.2
  clear HQ1 HQ2 HS0
  go_wp2
  go_ret
  exact ⟨rfl, HF.out⟩
 ·go_wp2_with (fail)
  refine wp_region_held_drew (S := fun wc => wc.cell? ⟨lb, 0, none⟩ = some (.int .i64 (i : Int)) ∧ Only (fun _ => False) w wc) (by kernel_rfl) HS0.out (fun hHeld => ?_)
  refine tk1 0 (v := ?_) (y := ?_) (h := ?_)
  rotate_left 1
  ·(intro w h; (try dsimp only at h); go_simp; try with_reducible rfl)
  try simp only [Act.put, sIB, sC0, sCS]
  refine wpAnyH_ready (rs := [1]) (by kernel_rfl) (by simp) ?_
  refine AllReadyH.cons (by simp only [List.getElem?_toArray, List.getElem?_cons_succ, List.getElem?_cons_zero]; rfl) (fun K hK => ?_) AllReadyH.nil
  go_simp
  (refine (CM.out _ hHeld.2).mono ?_; rintro e w2 ⟨rfl, ho⟩; have HQ1 := hid (show (fun wc => wc.cell? ⟨lb, 0, none⟩ = some (.int .i64 (i : Int)) ∧ Only (fun _ => False) w wc) w2 from ⟨ho.cell hHeld.1 (fun h => h), hHeld.2.trans ho (fun _ h _ => h)⟩); clear ho)
  go_wp2_with fail
  refine hK.out _ _ ?_ (fun hHeld2 => ?_)
  ·exact HQ1.out
  clear hK K
  try simp only [Act.put, sIB, sC0, sCS]
  clear hHeld
  have hHeld := hHeld2
  clear hHeld2
  refine wpAnyH_ready (rs := [2]) (by kernel_rfl) (by simp) ?_
  refine AllReadyH.cons (by simp only [List.getElem?_toArray, List.getElem?_cons_succ, List.getElem?_cons_zero]; rfl) (fun K hK => ?_) AllReadyH.nil
  go_simp
  (refine (CN.out _).mono ?_; rintro e w3 ⟨rfl, ho⟩; have HQ2 := hid (show (fun wc => wc.cell? ⟨lb, 0, none⟩ = some (.int .i64 (i : Int)) ∧ Only (fun _ => False) w wc) w3 from ⟨ho.cell hHeld.1 (fun h => h), hHeld.2.trans ho (fun _ h _ => h)⟩); clear ho)
  go_wp2_with fail
  refine hK.out _ _ ?_ (fun hHeld2 => ?_)
  ·exact HQ2.out
  clear hK K
  try simp only [Act.put, sIB, sC0, sCS]
  clear hHeld
  have hHeld := hHeld2
  clear hHeld2
  refine tk1 3 (v := ?_) (y := ?_) (h := ?_)
  rotate_left 1
  ·(intro w h; (try dsimp only at h); go_simp; try with_reducible rfl)
  try simp only [Act.put, sIB, sC0, sCS]
  refine tk1 4 (v := ?_) (y := ?_) (h := ?_)
  rotate_left 1
  ·(intro w h; (try dsimp only at h); go_simp; try with_reducible rfl)
  try simp only [Act.put, sIB, sC0, sCS]
  refine tk1 5 (v := ?_) (y := ?_) (h := ?_)
  rotate_left 1
  ·(intro w h; (try dsimp only at h); go_simp; try with_reducible rfl)
  try simp only [Act.put, sIB, sC0, sCS]
  refine tk1 8 (v := ?_) (y := ?_) (h := ?_)
  rotate_left 1
  ·(intro w h; (try dsimp only at h); go_simp; try with_reducible rfl)
  try simp only [Act.put, sIB, sC0, sCS]
  refine tk1 9 (v := ?_) (y := ?_) (h := ?_)
  rotate_left 1
  ·(intro w h; (try dsimp only at h); go_simp; try with_reducible rfl)
  try simp only [Act.put, sIB, sC0, sCS]
  refine tk1 10 (v := ?_) (y := ?_) (h := ?_)
  rotate_left 1
  ·(intro w h; (try dsimp only at h); go_simp; try with_reducible rfl)
  try simp only [Act.put, sIB, sC0, sCS]
  refine tk1 11 (v := ?_) (y := ?_) (h := ?_)
  rotate_left 1
  ·(intro w h; (try dsimp only at h); go_simp; try with_reducible rfl)
  try simp only [Act.put, sIB, sC0, sCS]
  refine wpAnyH_ready (rs := [6]) (by kernel_rfl) (by simp) ?_
  refine AllReadyH.cons (by simp only [List.getElem?_toArray, List.getElem?_cons_succ, List.getElem?_cons_zero]; rfl) (fun K hK => ?_) AllReadyH.nil
  go_simp
  (refine (CM.out _ hHeld.2).mono ?_; rintro e w4 ⟨rfl, ho⟩; have HQ3 := hid (show (fun wc => wc.cell? ⟨lb, 0, none⟩ = some (.int .i64 (i : Int)) ∧ Only (fun _ => False) w wc) w4 from ⟨ho.cell hHeld.1 (fun h => h), hHeld.2.trans ho (fun _ h _ => h)⟩); clear ho)
  go_wp2_with fail
  refine hK.out _ _ ?_ (fun hHeld2 => ?_)
  ·exact HQ3.out
  clear hK K
  try simp only [Act.put, sIB, sC0, sCS]
  clear hHeld
  have hHeld := hHeld2
  clear hHeld2
  refine wpAnyH_ready (rs := [7]) (by kernel_rfl) (by simp) ?_
  refine AllReadyH.cons (by simp only [List.getElem?_toArray, List.getElem?_cons_succ, List.getElem?_cons_zero]; rfl) (fun K hK => ?_) AllReadyH.nil
  go_simp
  (refine (CF.out _ hHeld.2).mono ?_; rintro e w5 ⟨rfl, hw5⟩; subst hw5; have HQ4 := hid hHeld)
  go_wp2_with fail
  refine hK.out _ _ ?_ (fun hHeld2 => ?_)
  ·exact HQ4.out
  clear hK K
  try simp only [Act.put, sIB, sC0, sCS]
  clear hHeld
  have hHeld := hHeld2
  clear hHeld2
  refine tk1 12 (v := ?_) (y := ?_) (h := ?_)
  rotate_left 1
  ·(intro w h; (try dsimp only at h); go_simp; try with_reducible rfl)
  try simp only [Act.put, sIB, sC0, sCS]
  refine tk1 13 (v := ?_) (y := ?_) (h := ?_)
  rotate_left 1
  ·(intro w h; (try dsimp only at h); go_simp; try with_reducible rfl)
  try simp only [Act.put, sIB, sC0, sCS]
  refine tk1 14 (v := ?_) (y := ?_) (h := ?_)
  rotate_left 1
  ·(intro w h; (try dsimp only at h); go_simp; try with_reducible rfl)
  try simp only [Act.put, sIB, sC0, sCS]
  refine wpAnyH_done (by kernel_rfl) ?_ _
  have HF := hid HQ4.out.2
  clear HQ1 HQ2 HQ3 HQ4 HS0
  go_wp2
  go_ret
  exact ⟨rfl, HF.out⟩
end
attribute [local go_sem] Oper.semAt_some
set_option maxRecDepth 100000 in
theorem pEach {ofn isn : FuncId} (eof : ∀ args W, (callFunc ofn args).run Tryz.prog W = .ok (.enter ofn args) W) (eis : ∀ args W, (callFunc isn args).run Tryz.prog W = .ok (.enter isn args) W)
  {w : World} (pv : Value) {lb b2 b3 : Nat} (hb2 : w.cell? ⟨b2, 0, none⟩ = some (.func (.func ofn) #[] #[])) (hb3 : w.cell? ⟨b3, 0, none⟩ = some (.func (.func isn) #[] #[]))
  (v : Value) (l : List MethN) (sl : Nat → Int) (g : Nat → Bool) (hv : MemS w v l sl) (h64 : l.length ≤ 64)
  (hOf : Calls Tryz.prog ofn #[.iface 94 (.pointer (some ⟨lb, 0, none⟩))] w fun e w' => e = .returned v ∧ Only (fun _ => False) w w')
  (hIs : ∀ j, j < l.length → ∀ W, Calls Tryz.prog isn #[.agg #[.string (l.getD j default).name, .string (l.getD j default).desc, .int .i64 (l.getD j default).flags, .int .i64 (sl j)]] W fun e w' => e = .returned (.bool (g j)) ∧ Only (fun _ => False) W w') :
  Calls Tryz.prog 109 #[pv, .pointer (some ⟨lb, 0, none⟩), .pointer (some ⟨b2, 0, none⟩), .pointer (some ⟨b3, 0, none⟩)] w fun e w' => (∃ b : Bool, e = .returned (.bool b) ∧ (b = true ↔ ∀ j, j < l.length → g j = true ∧ hasZ l (l.getD j default).name (l.getD j default).desc = (j : Int))) ∧ Only (fun _ => False) w w' := by
 obtain ⟨ok, hok⟩ : ∃ ok : Prop, ok = ∀ j, j < l.length → g j = true ∧ hasZ l (l.getD j default).name (l.getD j default).desc = (j : Int) := ⟨_, rfl⟩
 rw [← hok]
 have HOK : Hid (ok ↔ ∀ j, j < l.length → g j = true ∧ hasZ l (l.getD j default).name (l.getD j default).desc = (j : Int)) := hid (by rw [hok])
 obtain ⟨ao, cap, rfl, -, -, -, -⟩ := id hv
 have HV := hid hv
 have HOF := hid hOf
 have HIS := hid hIs
 have HB3 := hid hb3
 have hlz : ((l.length : Nat) : Int) ≤ 64 := by omega
 clear hok hv hOf hIs hb3
 go_enter Tryz.func109, Tryz.ntmps109
 go_wp2_with (fail)
 refine HOF.out.mono ?_
 rintro e w1 ⟨rfl, ho1⟩
 have HO1 := hid ho1
 clear HOF ho1 hb2
 go_wp2
 go_loopw [8, 9, 16] (fun _ _ iv wr => ∃ j : Nat, iv = .int .i64 j ∧ j ≤ l.length ∧ Hid (∀ i, i < j → g i = true ∧ hasZ l (l.getD i default).name (l.getD i default).desc = (i : Int)) ∧ Hid (Only (fun _ => False) w wr)) (fun _ _ iv _ => l.length - (Lib.intOf iv).toNat)
 case atStart => exact ⟨0, rfl, Nat.zero_le _, hid (fun i h => absurd h (Nat.not_lt_zero i)), HO1⟩
 case round =>
  obtain ⟨j, rfl, hj, HT, HO⟩ := hrel
  by_cases hlt : j < l.length
  ·have hjz : (j : Int) < (l.length : Int) := by omega
   have hj0 : (0 : Int) ≤ (j : Int) := by omega
   obtain ⟨b, o, rfl, y0, y1, y2, y3⟩ := Sl.at (HV.out.only HO.out) hlt
   have hi := HIS.out j hlt
   have cp := fun (W : World) (ho : Only (fun _ => False) w W) => pPlaceOf _ l sl (l.getD j default).name (l.getD j default).desc W (HV.out.only ho) (by omega)
   have HG : Hid (∀ i, i < j + 1 → i ≠ j → g i = true ∧ hasZ l (l.getD i default).name (l.getD i default).desc = (i : Int)) := hid (fun i h1 h2 => HT.out i (by omega))
   have HJ : Hid (ok → g j = true ∧ hasZ l (l.getD j default).name (l.getD j default).desc = (j : Int)) := hid (fun h => HOK.out.1 h j hlt)
   have HN : Hid ((g j = true ∧ hasZ l (l.getD j default).name (l.getD j default).desc = (j : Int)) → ∀ i, i < j + 1 → g i = true ∧ hasZ l (l.getD i default).name (l.getD i default).desc = (i : Int)) := hid (fun h i hi => by
    by_cases e : i = j
    ·subst e; exact h
    ·exact HG.out i hi e)
   generalize hasZ l (l.getD j default).name (l.getD j default).desc = hz at *
   generalize g j = gj at *
   obtain ⟨m, hm⟩ : ∃ m, l.getD j default = m := ⟨_, rfl⟩
   obtain ⟨s, hs⟩ : ∃ s, sl j = s := ⟨_, rfl⟩
   rw [hm] at y0 y1 y2 hi cp
   rw [hs] at hi
   rw [hs] at y3
   clear hm hs HG
   have hal := (Only.refl (fun _ => False) wr).alloc (.cells #[.string m.name, .string m.desc, .int .i64 m.flags, .int .i64 s] 107)
   have hrn := heap_alloc_new wr (.cells #[.string m.name, .string m.desc, .int .i64 m.flags, .int .i64 s] 107)
   have hoa := HO.out.trans hal (fun _ h _ => h)
   have hq3 := hoa.cell HB3.out (fun h => h)
   have HOA := hid hoa
   have HRN := hid hrn
   have HI := hid hi
   have CP := hid cp
   have HLJ := hid (show j < l.length from hlt)
   clear hal hrn hoa hi cp HIS
   go_wp2_with (fail)
   refine (HI.out _).mono ?_
   rintro e w3 ⟨rfl, ho3⟩
   have hr3 := ho3.heap HRN.out (fun h => h)
   have z0 := cell_blk hr3 0
   have z1 := cell_blk hr3 1
   have ho3' := HOA.out.trans ho3 (fun _ h _ => h)
   have C2 := hid (CP.out _ ho3')
   have HO3 := hid ho3'
   clear hr3 ho3 ho3' hq3 HRN HOA CP HI
   cases gj
   ·have HB := hid (show ¬ ok from fun h => by have := (HJ.out h).1; cases this)
    clear HN HJ C2
    go_wp2
    go_ret
    first | exact ⟨.inl ⟨rfl, HB.out⟩, HO3.out⟩ | exact ⟨⟨false, rfl, fun h => absurd h (by decide), fun h => absurd h HB.out⟩, HO3.out⟩
   ·by_cases hzj : hz = (j : Int)
    ·have HT2 := hid (HN.out ⟨rfl, hzj⟩)
     have hzb : (hz != (j : Int)) = false := by rw [bne_eq_false_iff_eq]; exact hzj
     clear HN HJ hzj
     go_wp2_with (fail)
     refine C2.out.mono ?_
     rintro e w4 ⟨rfl, ho4⟩
     have HF := hid (HO3.out.trans ho4 (fun _ h _ => h))
     clear ho4 C2
     go_wp2
     go_roundw
     case measure => simp [Lib.intOf]; omega
     case rel => exact ⟨j + 1, by simp, by omega, HT2, HF⟩
    ·have HB := hid (show ¬ ok from fun h => hzj (HJ.out h).2)
     have hzb : (hz != (j : Int)) = true := by simpa using hzj
     clear HN HJ hzj
     go_wp2_with (fail)
     refine C2.out.mono ?_
     rintro e w4 ⟨rfl, ho4⟩
     have HF := hid (HO3.out.trans ho4 (fun _ h _ => h))
     clear ho4 C2
     go_wp2
     go_ret
     first | exact ⟨.inl ⟨rfl, HB.out⟩, HF.out⟩ | exact ⟨⟨false, rfl, fun h => absurd h (by decide), fun h => absurd h HB.out⟩, HF.out⟩
  ·obtain rfl : j = l.length := by omega
   have HB := hid (HOK.out.2 HT.out)
   have hnl : ¬ ((l.length : Nat) : Int) < ((l.length : Nat) : Int) := by omega
   go_wp2
   go_ret
   first | exact ⟨.inr ⟨rfl, HB.out⟩, HO.out⟩ | exact ⟨⟨true, rfl, fun _ => HB.out, fun _ => rfl⟩, HO.out⟩
end Go.Proofs.YtemplkpcckmcoaaGreatDoor
