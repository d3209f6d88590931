/- The program's Assign. No condition but a length that leaves room. -/
import Derived.Test.YtcmceabkadgfiaaKndH
import Derived.Test.YtcmceabkadgfiaaKndF
namespace Go.Proofs.Ytcmceabkadgfiaa
open Go.RowKit
set_option linter.unusedVariables false
set_option linter.unusedSimpArgs false

def arrZ (l : List PairV) (a b : TypeV) : Bool :=
  if b.dims < a.dims then (if b.elem = 4 then (if b.name = objB then true else false) else false)
  else if a.dims < b.dims then false
  else if a.elem = b.elem then (if a.elem = 4 then belowZ l a.name b.name else true)
  else false
theorem obj_eq (bn : ByteArray) : (bn.toList == [79, 98, 106, 101, 99, 116]) = decide (bn = objB) := by
  rw [← lit_obj]
  exact beq_bytes bn objB
set_option maxHeartbeats 32000000 in
set_option maxRecDepth 100000 in
theorem progAssignArr (v : Value) (l : List PairV) (a b : TypeV) (w : World) (hl : Pairs w v l) (hn : l.length ≤ 4611686018427387904) (hsz : NamesR l) (ha : a.name.size ≤ maxLen) :
    Calls Try.prog 34 #[v, valT a, valT b] w fun e w' => e = .returned (.bool (arrZ l a b)) ∧ Only (fun _ => False) w w' := by
  obtain ⟨ak, an, ad, ae, aa⟩ := a
  obtain ⟨bk, bn, bd, be, ba⟩ := b
  simp only at ha
  have ho2 : Only (fun _ => False) w ((w.alloc (.cells #[.int .i64 ak, .string an, .int .i64 ad, .int .i64 ae, .int .i64 aa] 23)).alloc (.cells #[.int .i64 bk, .string bn, .int .i64 bd, .int .i64 be, .int .i64 ba] 23)) := ((Only.refl _ w).alloc _).alloc _
  have cB := progBelow v l an bn _ (hl.only ho2) hn hsz ha
  obtain ⟨r, hr⟩ : ∃ r, r = arrZ l ⟨ak, an, ad, ae, aa⟩ ⟨bk, bn, bd, be, ba⟩ := ⟨_, rfl⟩
  rw [← hr]
  unfold valT
  simp only
  have HO := Lib.hid ho2
  have CB := Lib.hid cB
  have g1 := guard_type
  have hob := lit_obj
  unfold arrZ at hr
  simp only at hr
  clear ho2 cB hl hsz ha
  by_cases hgt : bd < ad
  · by_cases h4 : be = 4
    · subst h4
      by_cases ho : bn = objB
      · have ho' := ho
        unfold objB at ho'
        subst ho'
        have HR : Hid (r = true) := Lib.hid (by rw [hr]; simp [hgt, objB])
        clear hr
        go_enter Try.func34, Try.ntmps34
        go_wp2
        go_ret
        rw [HR.out]
        exact ⟨rfl, HO.out⟩
      · obtain ⟨n1, n2⟩ := toList_beq ho
        unfold objB at n1 n2
        rw [lit_obj] at n1 n2
        have HR : Hid (r = false) := Lib.hid (by rw [hr]; simp [hgt, ho])
        clear hr
        go_enter Try.func34, Try.ntmps34
        go_wp2
        go_ret
        rw [HR.out]
        exact ⟨rfl, HO.out⟩
    · have x4 : (be == 4) = false := by rw [beq_eq_false_iff_ne]; assumption
      have x4' : (be != 4) = true := by rw [bne, x4]; rfl
      have HR : Hid (r = false) := Lib.hid (by rw [hr]; simp [hgt, h4])
      clear hr
      go_enter Try.func34, Try.ntmps34
      go_wp2
      go_ret
      rw [HR.out]
      exact ⟨rfl, HO.out⟩
  · by_cases hlt : ad < bd
    · have HR : Hid (r = false) := Lib.hid (by rw [hr]; simp [hgt, hlt])
      clear hr
      go_enter Try.func34, Try.ntmps34
      go_wp2
      go_ret
      rw [HR.out]
      exact ⟨rfl, HO.out⟩
    · by_cases he : ae = be
      · subst he
        by_cases h4 : ae = 4
        · subst h4
          have HR : Hid (r = belowZ l an bn) := Lib.hid (by rw [hr]; simp [hgt, hlt])
          clear hr
          go_enter Try.func34, Try.ntmps34
          go_wp2_with (fail)
          refine CB.out.mono ?_
          rintro e w2 ⟨rfl, hox⟩
          have HOX := Lib.hid (HO.out.trans hox (fun _ h _ => h))
          clear hox
          go_wp2
          go_ret
          rw [HR.out]
          exact ⟨rfl, HOX.out⟩
        · have x4 : (ae == 4) = false := by rw [beq_eq_false_iff_ne]; assumption
          have x4' : (ae != 4) = true := by rw [bne, x4]; rfl
          have HR : Hid (r = true) := Lib.hid (by rw [hr]; simp [hgt, hlt, h4])
          clear hr
          go_enter Try.func34, Try.ntmps34
          go_wp2
          go_ret
          rw [HR.out]
          exact ⟨rfl, HO.out⟩
      · have xe : (ae == be) = false := by rw [beq_eq_false_iff_ne]; assumption
        have xe' : (ae != be) = true := by rw [bne, xe]; rfl
        have HR : Hid (r = false) := Lib.hid (by rw [hr]; simp [hgt, hlt, he])
        clear hr
        go_enter Try.func34, Try.ntmps34
        go_wp2
        go_ret
        rw [HR.out]
        exact ⟨rfl, HO.out⟩
theorem arr_assign (l : List PairV) (an : ByteArray) (ad ae aa : Int) (bn : ByteArray) (bd be ba : Int) (he : eqT ⟨5, an, ad, ae, aa⟩ ⟨5, bn, bd, be, ba⟩ = false) :
    assignZ l ⟨5, an, ad, ae, aa⟩ ⟨5, bn, bd, be, ba⟩ = arrZ l ⟨5, an, ad, ae, aa⟩ ⟨5, bn, bd, be, ba⟩ := by
  unfold assignZ arrZ
  simp only [he]
  by_cases h1 : bd < ad
  · have h2 : ¬ ad = bd := by omega
    simp [h1, h2]
  · by_cases h3 : ad < bd
    · have h2 : ¬ ad = bd := by omega
      simp [h1, h2, h3]
    · have h2 : ad = bd := by omega
      simp [h2]
set_option maxHeartbeats 32000000 in
set_option maxRecDepth 100000 in
theorem progAssign (v : Value) (l : List PairV) (a b : TypeV) (w : World) (hl : Pairs w v l) (hn : l.length ≤ 4611686018427387904) (hsz : NamesR l) (ha : a.name.size ≤ maxLen) :
    Calls Try.prog 24 #[v, valT a, valT b] w fun e w' => e = .returned (.bool (assignZ l a b)) ∧ Only (fun _ => False) w w' := by
  obtain ⟨ak, an, ad, ae, aa⟩ := a
  obtain ⟨bk, bn, bd, be, ba⟩ := b
  simp only at ha
  have ho2 : Only (fun _ => False) w ((w.alloc (.cells #[.int .i64 ak, .string an, .int .i64 ad, .int .i64 ae, .int .i64 aa] 23)).alloc (.cells #[.int .i64 bk, .string bn, .int .i64 bd, .int .i64 be, .int .i64 ba] 23)) := ((Only.refl _ w).alloc _).alloc _
  have cB := progBelow v l an bn _ (hl.only ho2) hn hsz ha
  have cA := progAssignArr v l ⟨ak, an, ad, ae, aa⟩ ⟨bk, bn, bd, be, ba⟩ _ (hl.only ho2) hn hsz ha
  unfold valT at cA
  simp only at cA
  obtain ⟨r, hr⟩ : ∃ r, r = assignZ l ⟨ak, an, ad, ae, aa⟩ ⟨bk, bn, bd, be, ba⟩ := ⟨_, rfl⟩
  rw [← hr]
  unfold valT
  simp only
  have HO := Lib.hid ho2
  have CB := Lib.hid cB
  have CA := Lib.hid cA
  have eq1 := fun w => eql_type ⟨ak, an, ad, ae, aa⟩ ⟨bk, bn, bd, be, ba⟩ w
  unfold valT at eq1
  simp only at eq1
  have g1 := guard_type
  have hob := lit_obj
  unfold assignZ at hr
  simp only at hr
  clear ho2 cB cA hl hsz ha
  cases he0 : eqT ⟨ak, an, ad, ae, aa⟩ ⟨bk, bn, bd, be, ba⟩ with
  | true =>
    rw [he0] at eq1
    have HR : Hid (r = true) := Lib.hid (by rw [hr]; simp [he0])
    clear hr
    go_enter Try.func24, Try.ntmps24
    go_wp2
    go_ret
    rw [HR.out]
    exact ⟨rfl, HO.out⟩
  | false =>
    rw [he0] at eq1
    by_cases hb0 : bk = 0
    · subst hb0
      have HR : Hid (r = true) := Lib.hid (by rw [hr]; simp [])
      clear hr
      go_enter Try.func24, Try.ntmps24
      go_wp2
      go_ret
      rw [HR.out]
      exact ⟨rfl, HO.out⟩
    · have x0 : (bk == 0) = false := by rw [beq_eq_false_iff_ne]; assumption
      have x0' : (bk != 0) = true := by rw [bne, x0]; rfl
      by_cases hb4 : bk = 4
      · subst hb4
        by_cases h4 : ak = 4
        · subst h4
          have HR : Hid (r = belowZ l an bn) := Lib.hid (by rw [hr]; simp [he0])
          clear hr
          go_enter Try.func24, Try.ntmps24
          go_wp2_with (fail)
          refine CB.out.mono ?_
          rintro e w2 ⟨rfl, hox⟩
          have HOX := Lib.hid (HO.out.trans hox (fun _ h _ => h))
          clear hox
          go_wp2
          go_ret
          rw [HR.out]
          exact ⟨rfl, HOX.out⟩
        · have y4 : (ak == 4) = false := by rw [beq_eq_false_iff_ne]; assumption
          have y4' : (ak != 4) = true := by rw [bne, y4]; rfl
          by_cases h5 : ak = 5
          · subst h5
            by_cases ho : bn = objB
            · have ho' := ho
              unfold objB at ho'
              subst ho'
              have HR : Hid (r = true) := Lib.hid (by rw [hr]; simp [he0, objB])
              clear hr
              go_enter Try.func24, Try.ntmps24
              go_wp2
              go_ret
              rw [HR.out]
              exact ⟨rfl, HO.out⟩
            · obtain ⟨n1, n2⟩ := toList_beq ho
              unfold objB at n1 n2
              rw [lit_obj] at n1 n2
              have HR : Hid (r = false) := Lib.hid (by rw [hr]; simp [he0, ho])
              clear hr
              go_enter Try.func24, Try.ntmps24
              go_wp2
              go_ret
              rw [HR.out]
              exact ⟨rfl, HO.out⟩
          · have y5 : (ak == 5) = false := by rw [beq_eq_false_iff_ne]; assumption
            have y5' : (ak != 5) = true := by rw [bne, y5]; rfl
            by_cases h3 : ak = 3
            · subst h3
              have HR : Hid (r = true) := Lib.hid (by rw [hr]; simp [he0, h4, h5])
              clear hr
              go_enter Try.func24, Try.ntmps24
              go_wp2
              go_ret
              rw [HR.out]
              exact ⟨rfl, HO.out⟩
            · have y3 : (ak == 3) = false := by rw [beq_eq_false_iff_ne]; assumption
              have y3' : (ak != 3) = true := by rw [bne, y3]; rfl
              have HR : Hid (r = false) := Lib.hid (by rw [hr]; simp [he0, h4, h5, h3])
              clear hr
              go_enter Try.func24, Try.ntmps24
              go_wp2
              go_ret
              rw [HR.out]
              exact ⟨rfl, HO.out⟩
      · have x4 : (bk == 4) = false := by rw [beq_eq_false_iff_ne]; assumption
        have x4' : (bk != 4) = true := by rw [bne, x4]; rfl
        by_cases hb5 : bk = 5
        · subst hb5
          by_cases h5 : ak = 5
          · subst h5
            have HR : Hid (r = arrZ l ⟨5, an, ad, ae, aa⟩ ⟨5, bn, bd, be, ba⟩) := Lib.hid (by rw [hr]; exact arr_assign l an ad ae aa bn bd be ba he0)
            clear hr
            go_enter Try.func24, Try.ntmps24
            go_wp2_with (fail)
            refine CA.out.mono ?_
            rintro e w2 ⟨rfl, hox⟩
            have HOX := Lib.hid (HO.out.trans hox (fun _ h _ => h))
            clear hox
            go_wp2
            go_ret
            rw [HR.out]
            exact ⟨rfl, HOX.out⟩
          · have y5 : (ak == 5) = false := by rw [beq_eq_false_iff_ne]; assumption
            have y5' : (ak != 5) = true := by rw [bne, y5]; rfl
            by_cases h4 : ak = 4
            · subst h4
              have HR : Hid (r = false) := Lib.hid (by rw [hr]; simp [he0])
              clear hr
              go_enter Try.func24, Try.ntmps24
              go_wp2
              go_ret
              rw [HR.out]
              exact ⟨rfl, HO.out⟩
            · have y4 : (ak == 4) = false := by rw [beq_eq_false_iff_ne]; assumption
              have y4' : (ak != 4) = true := by rw [bne, y4]; rfl
              by_cases h3 : ak = 3
              · subst h3
                have HR : Hid (r = true) := Lib.hid (by rw [hr]; simp [he0, h4, h5])
                clear hr
                go_enter Try.func24, Try.ntmps24
                go_wp2
                go_ret
                rw [HR.out]
                exact ⟨rfl, HO.out⟩
              · have y3 : (ak == 3) = false := by rw [beq_eq_false_iff_ne]; assumption
                have y3' : (ak != 3) = true := by rw [bne, y3]; rfl
                have HR : Hid (r = false) := Lib.hid (by rw [hr]; simp [he0, h4, h5, h3])
                clear hr
                go_enter Try.func24, Try.ntmps24
                go_wp2
                go_ret
                rw [HR.out]
                exact ⟨rfl, HO.out⟩
        · have x5 : (bk == 5) = false := by rw [beq_eq_false_iff_ne]; assumption
          have x5' : (bk != 5) = true := by rw [bne, x5]; rfl
          by_cases hb3 : bk = 3
          · subst hb3
            by_cases h4 : ak = 4
            · subst h4
              have HR : Hid (r = false) := Lib.hid (by rw [hr]; simp [he0])
              clear hr
              go_enter Try.func24, Try.ntmps24
              go_wp2
              go_ret
              rw [HR.out]
              exact ⟨rfl, HO.out⟩
            · have y4 : (ak == 4) = false := by rw [beq_eq_false_iff_ne]; assumption
              have y4' : (ak != 4) = true := by rw [bne, y4]; rfl
              by_cases h5 : ak = 5
              · subst h5
                have HR : Hid (r = false) := Lib.hid (by rw [hr]; simp [he0])
                clear hr
                go_enter Try.func24, Try.ntmps24
                go_wp2
                go_ret
                rw [HR.out]
                exact ⟨rfl, HO.out⟩
              · have y5 : (ak == 5) = false := by rw [beq_eq_false_iff_ne]; assumption
                have y5' : (ak != 5) = true := by rw [bne, y5]; rfl
                by_cases h3 : ak = 3
                · subst h3
                  have HR : Hid (r = true) := Lib.hid (by rw [hr]; simp [he0, h4, h5])
                  clear hr
                  go_enter Try.func24, Try.ntmps24
                  go_wp2
                  go_ret
                  rw [HR.out]
                  exact ⟨rfl, HO.out⟩
                · have y3 : (ak == 3) = false := by rw [beq_eq_false_iff_ne]; assumption
                  have y3' : (ak != 3) = true := by rw [bne, y3]; rfl
                  have HR : Hid (r = false) := Lib.hid (by rw [hr]; simp [he0, h4, h5, h3])
                  clear hr
                  go_enter Try.func24, Try.ntmps24
                  go_wp2
                  go_ret
                  rw [HR.out]
                  exact ⟨rfl, HO.out⟩
          · have x3 : (bk == 3) = false := by rw [beq_eq_false_iff_ne]; assumption
            have x3' : (bk != 3) = true := by rw [bne, x3]; rfl
            by_cases h3 : ak = 3
            · subst h3
              have HR : Hid (r = false) := Lib.hid (by rw [hr]; simp [he0, hb0, hb4, hb5, hb3])
              clear hr
              go_enter Try.func24, Try.ntmps24
              go_wp2
              go_ret
              rw [HR.out]
              exact ⟨rfl, HO.out⟩
            · have y3 : (ak == 3) = false := by rw [beq_eq_false_iff_ne]; assumption
              have y3' : (ak != 3) = true := by rw [bne, y3]; rfl
              by_cases h4 : ak = 4
              · subst h4
                have HR : Hid (r = false) := Lib.hid (by rw [hr]; simp [he0, hb0, hb4, hb5, hb3])
                clear hr
                go_enter Try.func24, Try.ntmps24
                go_wp2
                go_ret
                rw [HR.out]
                exact ⟨rfl, HO.out⟩
              · have y4 : (ak == 4) = false := by rw [beq_eq_false_iff_ne]; assumption
                have y4' : (ak != 4) = true := by rw [bne, y4]; rfl
                by_cases h5 : ak = 5
                · subst h5
                  have HR : Hid (r = false) := Lib.hid (by rw [hr]; simp [he0, hb0, hb4, hb5, hb3])
                  clear hr
                  go_enter Try.func24, Try.ntmps24
                  go_wp2
                  go_ret
                  rw [HR.out]
                  exact ⟨rfl, HO.out⟩
                · have y5 : (ak == 5) = false := by rw [beq_eq_false_iff_ne]; assumption
                  have y5' : (ak != 5) = true := by rw [bne, y5]; rfl
                  have HR : Hid (r = false) := Lib.hid (by rw [hr]; simp [he0, hb0, h3, h4, h5])
                  clear hr
                  go_enter Try.func24, Try.ntmps24
                  go_wp2
                  go_ret
                  rw [HR.out]
                  exact ⟨rfl, HO.out⟩
end Go.Proofs.Ytcmceabkadgfiaa
