/- The program's params and Method. No condition but a length that a text can have. -/
import Derived.Test.YtcmceabkadgfiaaKndU
namespace Go.Proofs.Ytcmceabkadgfiaa
open Go.RowKit
set_option linter.unusedVariables false
set_option linter.unusedSimpArgs false

/-- What params answers: nothing, where no method's descriptor begins so; else the types between the brackets, and where these end. -/
def ParamsTo (w : World) (s : ByteArray) (e : Ending) (w' : World) : Prop :=
  (e = .returned (.tuple #[.slice none 0 0, .int .i64 0]) ∧ Meth (nums s) ([], zeroT, 80) ∧ Only (fun _ => False) w w') ∨
  ∃ v l n zs, e = .returned (.tuple #[v, .int .i64 ((n : Nat) : Int)]) ∧ 0 < n ∧ n ≤ s.size ∧ l.length ≤ 16 ∧ nums s = 40 :: zs ∧ Par zs l (41 :: nums (s.extract n s.size)) ∧ Only (fun _ => False) w w' ∧ TRow w' w.heap.size v l
theorem head_is {zs : List Int} {c : Int} (h : headIs c zs = true) : ∃ q, zs = c :: q := by
  unfold headIs at h
  cases zs with
  | nil => simp at h
  | cons x q => simp at h; exact ⟨q, by rw [h]⟩
theorem head_not {zs : List Int} {c : Int} (h : headIs c zs = false) : ∀ x q, zs = x :: q → x ≠ c := by
  unfold headIs at h
  intro x q e
  subst e
  simpa using h
set_option maxHeartbeats 16000000 in
set_option maxRecDepth 100000 in
theorem progParams (s : ByteArray) (w : World) (hs : s.size ≤ 281474976710656) :
    Calls Try.prog 29 #[.string s] w (ParamsTo w s) := by
  obtain ⟨i0, hi, hz0, hz1, hz2⟩ := info_parts info_type
  have ch := hasHead s 40 w
  rw [show (((40 : UInt8).toNat : Nat) : Int) = 40 from rfl] at ch
  cases hh : headIs 40 (nums s) with
  | false =>
    have HM : Hid (Meth (nums s) ([], zeroT, 80)) := Lib.hid (.inl ⟨fun ⟨q, e⟩ => head_not hh 40 q e rfl, rfl⟩)
    rw [hh] at ch
    have CH := Lib.hid ch
    clear ch hh
    go_enter Try.func29, Try.ntmps29
    go_wp2_with (fail)
    refine CH.out.mono ?_
    rintro e w1 ⟨rfl, rfl⟩
    go_wp2
    go_ret2
    exact .inl ⟨rfl, HM.out, Only.refl _ _⟩
  | true =>
    obtain ⟨zs, hzs⟩ := head_is hh
    rw [hh] at ch
    have CH := Lib.hid ch
    have HZ := Lib.hid hzs
    have hsl : zs.length + 1 = s.size := by rw [← nums_len, hzs]; rfl
    have HSL := Lib.hid hsl
    clear ch hh hzs
    go_enter Try.func29, Try.ntmps29
    go_wp2_with (fail)
    refine CH.out.mono ?_
    rintro e w1 ⟨rfl, rfl⟩
    go_wp2
    go_loopw [4, 5, 11] (fun lv av iv wr => ∃ (l : List TypeV) (a j : Nat), av = .int .i64 a ∧ iv = .int .i64 j ∧ j ≤ 17 ∧ l.length = j ∧ 1 ≤ a ∧ a ≤ s.size ∧ TRow wr w.heap.size lv l ∧ Only (fun _ => False) w wr ∧ (j ≤ 16 → Par zs l ((nums s).drop a)) ∧ (j = 17 → Meth (nums s) ([], zeroT, 80))) (fun _ _ iv _ => 17 - (intOf iv).toNat)
    case atStart => exact ⟨[], 1, 0, rfl, rfl, by omega, rfl, by omega, by omega, TRow.nil _ _, Only.refl _ _, fun _ => by rw [HZ.out]; exact Par.nil zs, fun h => by omega⟩
    case round =>
      obtain ⟨l, a, j, rfl, rfl, hj, hlj, ha1, ha2, hrow, hon, hpar, hmeth⟩ := hrel
      have HPAR := Lib.hid hpar
      have HMETH := Lib.hid hmeth
      have HROW := Lib.hid hrow
      have HON := Lib.hid hon
      have HLJ := Lib.hid hlj
      obtain ⟨al, cl, rfl, l1, l2, l3, -⟩ := id hrow.types
      have HTY := Lib.hid hrow.types
      clear hpar hmeth hrow hon l3 hlj
      have hazz : (a : Int) ≤ (s.size : Int) := by omega
      have ha0 : (0 : Int) ≤ (a : Int) := by omega
      by_cases h17 : j < 17
      · have hjz : (j : Int) < 17 := by omega
        obtain ⟨x, hx⟩ : ∃ x, x = s.extract a s.size := ⟨_, rfl⟩
        have hxs : x.size + a = s.size := by rw [hx]; simp; omega
        have hxn : nums x = (nums s).drop a := by rw [hx, nums_rest]
        have ch := fun w => hasHead x 41 w
        rw [show (((41 : UInt8).toNat : Nat) : Int) = 41 from rfl] at ch
        have HXN := Lib.hid hxn
        have HXS := Lib.hid hxs
        have hp := HPAR.out (by omega)
        rw [← hxn] at hp
        clear hxn
        cases hc : headIs 41 (nums x) with
        | true =>
          obtain ⟨q, hq⟩ := head_is hc
          have hxp : 0 < x.size := by rw [← nums_len, hq]; simp
          have hrest : nums (s.extract (a + 1) s.size) = q := by
            rw [nums_rest, ← List.drop_drop, ← HXN.out, hq]; rfl
          have HP : Hid (Par zs l (41 :: nums (s.extract (a + 1) s.size))) := Lib.hid (by rw [hrest, ← hq]; exact hp)
          have hale : (a : Int) + 1 = ((a + 1 : Nat) : Int) := by omega
          have HAL := Lib.hid hale
          have has : a + 1 ≤ s.size := by omega
          have haz : (a : Int) ≤ 281474976710656 := by omega
          rw [hc] at ch
          have CHH := Lib.hid ch
          clear ch hc hq hrest hp hale hxp
          go_wp2_with (fail)
          rw [← hx]
          refine (CHH.out _).mono ?_
          rintro e w2 ⟨rfl, rfl⟩
          go_wp2
          go_ret2
          exact .inr ⟨_, l, a + 1, zs, by first | rfl | rw [HAL.out], by omega, has, by have := HLJ.out; omega, HZ.out, HP.out, HON.out, HROW.out⟩
        | false =>
          rw [hc] at ch
          have CHH := Lib.hid ch
          have hne := head_not hc
          have cf := fun w => progFirst x w (by omega)
          cases hf : fieldZ (nums x) with
          | none =>
            have HM : Hid (Meth (nums s) ([], zeroT, 80)) := by
              refine Lib.hid (.inr ⟨zs, l, nums x, HZ.out, hp, fun c q e hc' t r' hf' => ?_, ?_⟩)
              · rw [← e, hf] at hf'; cases hf'
              · cases hq : nums x with
                | nil => rfl
                | cons c q =>
                  show _ = (if c = 41 then _ else _)
                  rw [if_neg (hne c q hq)]
            rw [hf] at cf
            unfold FlatTo typF sizeF zeroT valT at cf
            simp only at cf
            have CF := Lib.hid cf
            clear ch hc hne hf hp cf
            go_wp2_with (fail)
            rw [← hx]
            refine (CHH.out _).mono ?_
            rintro e w2 ⟨rfl, rfl⟩
            go_wp2_with (fail)
            rw [← hx]
            refine (CF.out _).mono ?_
            rintro e w3 ⟨rfl, ho3⟩
            have HON3 := Lib.hid (HON.out.trans ho3 (fun _ h _ => h))
            clear ho3 CF CHH
            go_wp2
            go_ret2
            exact .inl ⟨rfl, HM.out, HON3.out.alloc _⟩
          | some p =>
            obtain ⟨u, r'⟩ := p
            obtain ⟨n, hn, hlt⟩ := field_rest hf
            rw [nums_len] at hlt
            have hfc := hf
            rw [hf] at cf
            unfold FlatTo typF sizeF valT at cf
            simp only at cf
            obtain ⟨z, hz⟩ : ∃ z : Nat, z = x.size - r'.length := ⟨_, rfl⟩
            rw [← hz] at cf
            have hzz0 : ((z : Int) == 0) = false := by rw [beq_eq_false_iff_ne]; omega
            have hdrop : (nums s).drop (a + z) = r' := by
              rw [← List.drop_drop, ← HXN.out, hn]
              have hle := congrArg List.length hn
              rw [List.length_drop, nums_len] at hle
              by_cases hnx : n ≤ x.size
              · congr 1; omega
              · rw [List.drop_of_length_le (by rw [nums_len]; omega), List.drop_of_length_le (by rw [nums_len]; omega)]
            have HDROP := Lib.hid hdrop
            have haz : a + z ≤ s.size := by omega
            have hazi : (a : Int) + (z : Int) = ((a + z : Nat) : Int) := by omega
            have HAZI := Lib.hid hazi
            have hzle : (z : Int) ≤ 281474976710656 := by omega
            have hale : (a : Int) ≤ 281474976710656 := by omega
            obtain ⟨c, q, hcq⟩ : ∃ c q, nums x = c :: q := by
              cases hq : nums x with
              | nil => rw [hq] at hf; cases hf
              | cons c q => exact ⟨c, q, rfl⟩
            have HP2 : Hid (j + 1 ≤ 16 → Par zs (l ++ [u]) ((nums s).drop (a + z))) := by
              refine Lib.hid fun h16 => ?_
              rw [hdrop]
              rw [hcq] at hp hf
              exact hp.snoc (hne c q hcq) hf (by rw [HLJ.out]; omega)
            have HM2 : Hid (j + 1 = 17 → Meth (nums s) ([], zeroT, 80)) := by
              refine Lib.hid fun h16 => ?_
              refine .inr ⟨zs, l, nums x, HZ.out, hp, fun c' q' e hc' t r'' hf' => by rw [HLJ.out]; omega, ?_⟩
              rw [hcq]
              show _ = (if c = 41 then _ else _)
              rw [if_neg (hne c q hcq)]
            have CF := Lib.hid cf
            clear ch hc hne hf hp cf hfc hn hlt hz hdrop hazi hcq
            go_wp2_with (fail)
            rw [← hx]
            refine (CHH.out _).mono ?_
            rintro e w2 ⟨rfl, rfl⟩
            go_wp2_with (fail)
            rw [← hx]
            refine (CF.out _).mono ?_
            rintro e w3 ⟨rfl, ho3⟩
            have hal := (Only.refl (fun _ => False) w3).alloc (.cells #[.int .i64 u.k, .string u.name, .int .i64 u.dims, .int .i64 u.elem, .int .i64 u.at_] 23)
            have hal2 := hal.alloc (.cells #[.int .i64 u.k, .string u.name, .int .i64 u.dims, .int .i64 u.elem, .int .i64 u.at_] 23)
            have HON4 := Lib.hid ((HON.out.trans ho3 (fun _ h _ => h)).trans hal2 (fun _ h _ => h))
            have HROW5 := Lib.hid ((HROW.out.only ho3 (fun _ _ h => h)).only hal2 (fun _ _ h => h))
            have HSRC := Lib.hid (Src.type (w := w3.alloc (.cells #[.int .i64 u.k, .string u.name, .int .i64 u.dims, .int .i64 u.elem, .int .i64 u.at_] 23)) (m := w3.heap.size + 1) u (by simp))
            have HGE := Lib.hid ((HROW.out.only ho3 (fun _ _ h => h)).ge)
            have HBASE := Lib.hid (show w.heap.size ≤ ((w3.alloc (.cells #[.int .i64 u.k, .string u.name, .int .i64 u.dims, .int .i64 u.elem, .int .i64 u.at_] 23)).alloc (.cells #[.int .i64 u.k, .string u.name, .int .i64 u.dims, .int .i64 u.elem, .int .i64 u.at_] 23)).heap.size by have := HON.out.size; have := ho3.size; simp; omega)
            have hl16 : l.length ≤ 16 := by rw [HLJ.out]; omega
            clear ho3 hal hal2 CF CHH
            go_wp2_with (at_builtin; go_loud (refine wpList_append_src rfl (.tmp 29) (.tmp 31) 31 rfl 23 i0 (.agg #[.int .i64 0, .string ⟨#[]⟩, .int .i64 0, .int .i64 0, .int .i64 0]) 5 48 Try.underlying31 hi hz0 hz1 hz2 rfl (by decide) w.heap.size (.slice al l.length cl) l.length (l.flatMap cellsTy) rfl (by exact HROW5.out) (by exact HBASE.out) (.slice (some ⟨w3.heap.size + 1, 0, none⟩) 1 1) 1 (cellsTy u) rfl (by exact HSRC.out) (by unfold maxLen; omega) (by omega) ?_); intro v' w5 hown hgrow hnew; have hos := only_grownT hgrow; have hrow6 := TRow.more hown; have hon6 := HON4.out.trans hos (fun j hj hl => by have := (HGE.out _ hj).1; omega); clear hown hgrow hnew hos; have HROW6 := Lib.hid hrow6; have HON6 := Lib.hid hon6; clear hrow6 hon6)
            go_roundw
            case rel => exact ⟨l ++ [u], a + z, j + 1, by rw [← HAZI.out], by go_num, by omega, by rw [List.length_append, HLJ.out]; rfl, by omega, haz, HROW6.out, HON6.out, HP2.out, HM2.out⟩
            case measure => simp [intOf]; omega
      · obtain rfl : j = 17 := by omega
        have HM := Lib.hid (HMETH.out rfl)
        clear h17
        go_wp2
        go_ret2
        exact .inl ⟨rfl, HM.out, HON.out⟩

theorem endM_ret (l : List TypeV) (q : List Int) : endM l (41 :: q) = match retZ q with | some t => (l, t, 0) | none => ([], zeroT, 80) := by
  unfold endM retZ
  simp only [if_true]
  by_cases h : q = [86]
  · rw [if_pos h, if_pos h]
  · rw [if_neg h, if_neg h]
    cases oneZ8 q <;> rfl
set_option maxHeartbeats 8000000 in
set_option maxRecDepth 100000 in
theorem progMethod (s : ByteArray) (w : World) (hs : s.size ≤ 281474976710656) :
    Calls Try.prog 14 #[.string s] w (MethTo w (nums s)) := by
  have hr0 := heap_alloc_new w (.cells #[.int .i64 0, .string ⟨#[]⟩, .int .i64 0, .int .i64 0, .int .i64 0] 23)
  have ho0 := (Only.refl (fun _ => False) w).alloc (.cells #[.int .i64 0, .string ⟨#[]⟩, .int .i64 0, .int .i64 0, .int .i64 0] 23)
  have c1 := progParams s (w.alloc (.cells #[.int .i64 0, .string ⟨#[]⟩, .int .i64 0, .int .i64 0, .int .i64 0] 23)) hs
  have HR0 := Lib.hid hr0
  have HO0 := Lib.hid ho0
  have C1 := Lib.hid c1
  clear hr0 ho0 c1
  go_enter Try.func14, Try.ntmps14
  go_wp2_with (fail)
  refine C1.out.mono ?_
  rintro e w1 (⟨rfl, hm, ho1⟩ | ⟨v, l, n, zs, rfl, hn0, hns, hl16, hz, hp, ho1, ht⟩)
  · have hr1 := ho1.heap HR0.out (fun h => h)
    have HON1 := Lib.hid (HO0.out.trans ho1 (fun _ h _ => h))
    obtain ⟨f0, f1, f2, f3, f4⟩ := marks5T hr1
    obtain ⟨q0, q1, q2, q3, q4⟩ := cells5T hr1
    have HR1 := Lib.hid hr1
    have HM := Lib.hid hm
    clear hr1 ho1 C1 hm
    go_wp2
    exact bodyPost_ret (type_resultM (t := zeroT) (b := w.heap.size) Try.results14 (store5T HR1.out) rfl rfl rfl) rfl (MethTo.bad HM.out (only5T HON1.out (fun hl => absurd hl (Nat.lt_irrefl _))))
  · obtain ⟨al, cl, rfl, l1, l2, l3, -⟩ := id ht.types
    have hr1 := ho1.heap HR0.out (fun h => h)
    have HON1 := Lib.hid (HO0.out.trans ho1 (fun _ h _ => h))
    have HR1 := Lib.hid hr1
    have HT := Lib.hid ht
    have HL16 := Lib.hid hl16
    have hM := (show Meth (nums s) (endM l (41 :: nums (s.extract n s.size))) from .inr ⟨zs, l, _, hz, hp, (fun c q e hne => by injection e with e _; exact absurd e.symm hne), rfl⟩)
    rw [endM_ret] at hM
    have hn0z : ((n : Int) == 0) = false := by rw [beq_eq_false_iff_ne]; omega
    have hnsz : (n : Int) ≤ (s.size : Int) := by omega
    have hn00 : (0 : Int) ≤ (n : Int) := by omega
    obtain ⟨x, hx⟩ : ∃ x, x = s.extract n s.size := ⟨_, rfl⟩
    have hxs : x.size ≤ s.size := by rw [hx]; simp
    have cf := fun w => progResult x w (by omega)
    rw [← hx] at hM
    unfold OneTo at cf
    clear hr1 ho1 C1 hz hp ht l3 hl16
    cases ho : retZ (nums x) with
    | none =>
      rw [ho] at cf hM
      have HM := Lib.hid hM
      unfold typO errO zeroT valT at cf
      simp only at cf
      have CF := Lib.hid cf
      clear cf hM ho
      go_wp2_with (fail)
      rw [← hx]
      refine (CF.out _).mono ?_
      rintro e w2 ⟨rfl, ho2⟩
      have hal := (Only.refl (fun _ => False) w2).alloc (.cells #[.int .i64 0, .string ⟨#[]⟩, .int .i64 0, .int .i64 0, .int .i64 0] 23)
      have hr2 := hal.heap (ho2.heap HR1.out (fun h => h)) (fun h => h)
      have HON2 := Lib.hid ((HON1.out.trans ho2 (fun _ h _ => h)).trans hal (fun _ h _ => h))
      obtain ⟨f0, f1, f2, f3, f4⟩ := marks5T hr2
      obtain ⟨q0, q1, q2, q3, q4⟩ := cells5T hr2
      have HR2 := Lib.hid hr2
      clear hr2 ho2 CF hal
      go_wp2
      exact bodyPost_ret (type_resultM (t := zeroT) (b := w.heap.size) Try.results14 (store5T HR2.out) rfl rfl rfl) rfl (MethTo.bad HM.out (only5T HON2.out (fun hl => absurd hl (Nat.lt_irrefl _))))
    | some u =>
      rw [ho] at cf hM
      have HM := Lib.hid hM
      unfold typO errO valT at cf
      simp only at cf
      have CF := Lib.hid cf
      clear cf hM ho
      go_wp2_with (fail)
      rw [← hx]
      refine (CF.out _).mono ?_
      rintro e w2 ⟨rfl, ho2⟩
      have hal := (Only.refl (fun _ => False) w2).alloc (.cells #[.int .i64 u.k, .string u.name, .int .i64 u.dims, .int .i64 u.elem, .int .i64 u.at_] 23)
      have hx4 := heap_alloc_new w2 (.cells #[.int .i64 u.k, .string u.name, .int .i64 u.dims, .int .i64 u.elem, .int .i64 u.at_] 23)
      have hr2 := hal.heap (ho2.heap HR1.out (fun h => h)) (fun h => h)
      have HON2 := Lib.hid ((HON1.out.trans ho2 (fun _ h _ => h)).trans hal (fun _ h _ => h))
      have HT2 := Lib.hid ((HT.out.only ho2 (fun _ _ h => h)).only hal (fun _ _ h => h))
      obtain ⟨f0, f1, f2, f3, f4⟩ := marks5T hr2
      obtain ⟨q0, q1, q2, q3, q4⟩ := cells5T hr2
      obtain ⟨x0, x1, x2, x3, x4⟩ := cells5T hx4
      have HR2 := Lib.hid hr2
      clear hr2 ho2 CF hal hx4
      go_wp2
      go_region
      go_wp2
      exact bodyPost_ret (type_resultM (t := u) (b := w.heap.size) Try.results14 (heap_drewT (store5T HR2.out)) rfl rfl rfl) rfl ⟨_, _, rfl, HM.out, (only5T HON2.out (fun hl => absurd hl (Nat.lt_irrefl _))).drew, (HT2.out.only (only5T (Only.refl (fun j => j = w.heap.size) _) (fun _ => rfl)).drew (fun k hk e => by have := (HT2.out.ge k hk).1; rw [World.size_alloc] at this; omega)).types⟩
end Go.Proofs.Ytcmceabkadgfiaa
