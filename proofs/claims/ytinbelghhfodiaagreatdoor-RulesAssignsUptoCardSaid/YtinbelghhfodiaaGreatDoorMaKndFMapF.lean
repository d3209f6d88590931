import Derived.Test.YtinbelghhfodiaaGreatDoorMaKndBRulN
import Derived.Test.YtinbelghhfodiaaGreatDoorMaLpRcLpRb
import Derived.Shelf.Abstract
import Derived.Test.YtinbelghhfodiaaGreatDoorMaKndTLnkD
import Derived.Test.YtinbelghhfodiaaGreatDoorMaPolLKndW
namespace Go.Proofs.YtinbelghhfodiaaGreatDoor
set_option maxHeartbeats 32000000
open Lib (hid)
open Go.RowKit
set_option linter.unusedVariables false
set_option linter.unusedSimpArgs false
def objK : ByteArray := ⟨#[79, 98, 106, 101, 99, 116]⟩
theorem lit_obj : (⟨#[79, 98, 106, 101, 99, 116]⟩ : ByteArray).toList = [79, 98, 106, 101, 99, 116] := by rw [ByteArray.toList_eq]
def assignZ (l : List PairV) (a b : TypeV) : Bool :=
 if b.k = 0 then true
 else if eqT a b = true then true
 else if a.k = 3 then (if b.k = 4 then true else if b.k = 5 then true else if b.k = 3 then true else false)
 else if a.k = 4 then (if b.k = 4 then belowZ l a.name b.name else false)
 else if a.k = 5 then
  (if b.k = 4 then (if b.name = objK then true else false)
  else if b.k = 5 then
   (if a.dims = b.dims then (if a.elem = b.elem then (if a.elem = 4 then belowZ l a.name b.name else true) else false)
   else if b.dims < a.dims then (if b.elem = 4 then (if b.name = objK then true else false) else false)
   else false)
  else false)
 else false
set_option maxRecDepth 100000 in
theorem refAssign (v : Value) (l : List PairV) (a b : TypeV) (w : World) (hl : Pairs w v l) (hn : l.length ≤ 4611686018427387904) :
  Calls Tryz.prog 22 #[v, valT a, valT b] w fun e w' => e = .returned (.bool (assignZ l a b)) ∧ Only (fun _ => False) w w' := by
 obtain ⟨ak, an, ad, ae, aa⟩ := a
 obtain ⟨bk, bn, bd, be, ba⟩ := b
 have ho2 : Only (fun _ => False) w ((w.alloc (.cells #[.int .i64 ak, .string an, .int .i64 ad, .int .i64 ae, .int .i64 aa] 33)).alloc (.cells #[.int .i64 bk, .string bn, .int .i64 bd, .int .i64 be, .int .i64 ba] 33)) := ((Only.refl _ w).alloc _).alloc _
 have cB := refBelow v l an bn _ (hl.only ho2) hn
 obtain ⟨r, hr⟩ : ∃ r, r = assignZ l ⟨ak, an, ad, ae, aa⟩ ⟨bk, bn, bd, be, ba⟩ := ⟨_, rfl⟩
 rw [← hr]
 unfold valT
 simp only
 have HO := hid ho2
 have CB := hid cB
 have g1 := guard_type
 have hob := lit_obj
 have eq1 := fun w => eql_type ⟨ak, an, ad, ae, aa⟩ ⟨bk, bn, bd, be, ba⟩ w
 unfold valT at eq1
 simp only at eq1
 unfold assignZ at hr
 simp only at hr
 clear ho2 cB hl
 by_cases hb0 : bk = 0
 ·subst hb0
  have HR : Hid (r = true) := hid (by rw [hr, if_pos rfl])
  clear hr
  go_enter Tryz.func22, Tryz.ntmps22
  go_wp2
  go_ret
  rw [HR.out]
  exact ⟨rfl, HO.out⟩
 ·have x0 : (bk == 0) = false := by rw [beq_eq_false_iff_ne]; assumption
  have x0' : (bk != 0) = true := by rw [bne, x0]; rfl
  cases he0 : eqT ⟨ak, an, ad, ae, aa⟩ ⟨bk, bn, bd, be, ba⟩ with
  | true =>
   rw [he0] at eq1
   have HR : Hid (r = true) := hid (by rw [hr, if_neg hb0, if_pos he0])
   clear hr
   go_enter Tryz.func22, Tryz.ntmps22
   go_wp2
   go_ret
   rw [HR.out]
   exact ⟨rfl, HO.out⟩
  | false =>
   rw [he0] at eq1
   have he : ¬ eqT ⟨ak, an, ad, ae, aa⟩ ⟨bk, bn, bd, be, ba⟩ = true := by rw [he0]; decide
   by_cases ha3 : ak = 3
   ·subst ha3
    by_cases h4 : bk = 4
    ·subst h4
     have HR : Hid (r = true) := hid (by rw [hr, if_neg hb0, if_neg he, if_pos rfl, if_pos rfl])
     clear hr
     go_enter Tryz.func22, Tryz.ntmps22
     go_wp2
     go_ret
     rw [HR.out]
     exact ⟨rfl, HO.out⟩
    ·have x4 : (bk == 4) = false := by rw [beq_eq_false_iff_ne]; assumption
     have x4' : (bk != 4) = true := by rw [bne, x4]; rfl
     by_cases h5 : bk = 5
     ·subst h5
      have HR : Hid (r = true) := hid (by rw [hr, if_neg hb0, if_neg he, if_pos rfl, if_neg (by decide), if_pos rfl])
      clear hr
      go_enter Tryz.func22, Tryz.ntmps22
      go_wp2
      go_ret
      rw [HR.out]
      exact ⟨rfl, HO.out⟩
     ·have x5 : (bk == 5) = false := by rw [beq_eq_false_iff_ne]; assumption
      have x5' : (bk != 5) = true := by rw [bne, x5]; rfl
      by_cases h3 : bk = 3
      ·subst h3
       have HR : Hid (r = true) := hid (by rw [hr, if_neg hb0, if_neg he, if_pos rfl, if_neg (by decide), if_neg (by decide), if_pos rfl])
       clear hr
       go_enter Tryz.func22, Tryz.ntmps22
       go_wp2
       go_ret
       rw [HR.out]
       exact ⟨rfl, HO.out⟩
      ·have x3 : (bk == 3) = false := by rw [beq_eq_false_iff_ne]; assumption
       have x3' : (bk != 3) = true := by rw [bne, x3]; rfl
       have HR : Hid (r = false) := hid (by rw [hr, if_neg hb0, if_neg he, if_pos rfl, if_neg h4, if_neg h5, if_neg h3])
       clear hr
       go_enter Tryz.func22, Tryz.ntmps22
       go_wp2
       go_ret
       rw [HR.out]
       exact ⟨rfl, HO.out⟩
   ·have y3 : (ak == 3) = false := by rw [beq_eq_false_iff_ne]; assumption
    have y3' : (ak != 3) = true := by rw [bne, y3]; rfl
    by_cases ha4 : ak = 4
    ·subst ha4
     by_cases h4 : bk = 4
     ·subst h4
      have HR : Hid (r = belowZ l an bn) := hid (by rw [hr, if_neg hb0, if_neg he, if_neg (by decide), if_pos rfl, if_pos rfl])
      clear hr
      go_enter Tryz.func22, Tryz.ntmps22
      go_wp2_with (fail)
      refine CB.out.mono ?_
      rintro e w2 ⟨rfl, rfl⟩
      go_wp2
      go_ret
      rw [HR.out]
      exact ⟨rfl, HO.out⟩
     ·have x4 : (bk == 4) = false := by rw [beq_eq_false_iff_ne]; assumption
      have x4' : (bk != 4) = true := by rw [bne, x4]; rfl
      have HR : Hid (r = false) := hid (by rw [hr, if_neg hb0, if_neg he, if_neg (by decide), if_pos rfl, if_neg h4])
      clear hr
      go_enter Tryz.func22, Tryz.ntmps22
      go_wp2
      go_ret
      rw [HR.out]
      exact ⟨rfl, HO.out⟩
    ·have y4 : (ak == 4) = false := by rw [beq_eq_false_iff_ne]; assumption
     have y4' : (ak != 4) = true := by rw [bne, y4]; rfl
     by_cases ha5 : ak = 5
     ·subst ha5
      by_cases h4 : bk = 4
      ·subst h4
       by_cases ho : bn = objK
       ·have ho' := ho
        unfold objK at ho'
        subst ho'
        have HR : Hid (r = true) := hid (by rw [hr, if_neg hb0, if_neg he, if_neg (by decide), if_neg (by decide), if_pos rfl, if_pos rfl, if_pos ho])
        clear hr
        go_enter Tryz.func22, Tryz.ntmps22
        go_wp2
        go_ret
        rw [HR.out]
        exact ⟨rfl, HO.out⟩
       ·obtain ⟨n1, n2⟩ := toList_beq ho
        unfold objK at n1 n2
        rw [lit_obj] at n1 n2
        have HR : Hid (r = false) := hid (by rw [hr, if_neg hb0, if_neg he, if_neg (by decide), if_neg (by decide), if_pos rfl, if_pos rfl, if_neg ho])
        clear hr
        go_enter Tryz.func22, Tryz.ntmps22
        go_wp2
        go_ret
        rw [HR.out]
        exact ⟨rfl, HO.out⟩
      ·have x4 : (bk == 4) = false := by rw [beq_eq_false_iff_ne]; assumption
       have x4' : (bk != 4) = true := by rw [bne, x4]; rfl
       by_cases h5 : bk = 5
       ·subst h5
        by_cases hde : ad = bd
        ·subst hde
         by_cases hee : ae = be
         ·subst hee
          by_cases h44 : ae = 4
          ·subst h44
           have HR : Hid (r = belowZ l an bn) := hid (by rw [hr, if_neg hb0, if_neg he, if_neg (by decide), if_neg (by decide), if_pos rfl, if_neg (by decide), if_pos rfl, if_pos rfl, if_pos rfl, if_pos rfl])
           clear hr
           go_enter Tryz.func22, Tryz.ntmps22
           go_wp2_with (fail)
           refine CB.out.mono ?_
           rintro e w2 ⟨rfl, rfl⟩
           go_wp2
           go_ret
           rw [HR.out]
           exact ⟨rfl, HO.out⟩
          ·have x44 : (ae == 4) = false := by rw [beq_eq_false_iff_ne]; assumption
           have x44' : (ae != 4) = true := by rw [bne, x44]; rfl
           have HR : Hid (r = true) := hid (by rw [hr, if_neg hb0, if_neg he, if_neg (by decide), if_neg (by decide), if_pos rfl, if_neg (by decide), if_pos rfl, if_pos rfl, if_pos rfl, if_neg h44])
           clear hr
           go_enter Tryz.func22, Tryz.ntmps22
           go_wp2
           go_ret
           rw [HR.out]
           exact ⟨rfl, HO.out⟩
         ·have xee : (ae == be) = false := by rw [beq_eq_false_iff_ne]; assumption
          have xee' : (ae != be) = true := by rw [bne, xee]; rfl
          have HR : Hid (r = false) := hid (by rw [hr, if_neg hb0, if_neg he, if_neg (by decide), if_neg (by decide), if_pos rfl, if_neg (by decide), if_pos rfl, if_pos rfl, if_neg hee])
          clear hr
          go_enter Tryz.func22, Tryz.ntmps22
          go_wp2
          go_ret
          rw [HR.out]
          exact ⟨rfl, HO.out⟩
        ·have xde : (ad == bd) = false := by rw [beq_eq_false_iff_ne]; assumption
         have xde' : (ad != bd) = true := by rw [bne, xde]; rfl
         by_cases hlt : bd < ad
         ·by_cases h44 : be = 4
          ·subst h44
           by_cases ho : bn = objK
           ·have ho' := ho
            unfold objK at ho'
            subst ho'
            have HR : Hid (r = true) := hid (by rw [hr, if_neg hb0, if_neg he, if_neg (by decide), if_neg (by decide), if_pos rfl, if_neg (by decide), if_pos rfl, if_neg hde, if_pos hlt, if_pos rfl, if_pos ho])
            clear hr
            go_enter Tryz.func22, Tryz.ntmps22
            go_wp2
            go_ret
            rw [HR.out]
            exact ⟨rfl, HO.out⟩
           ·obtain ⟨n1, n2⟩ := toList_beq ho
            unfold objK at n1 n2
            rw [lit_obj] at n1 n2
            have HR : Hid (r = false) := hid (by rw [hr, if_neg hb0, if_neg he, if_neg (by decide), if_neg (by decide), if_pos rfl, if_neg (by decide), if_pos rfl, if_neg hde, if_pos hlt, if_pos rfl, if_neg ho])
            clear hr
            go_enter Tryz.func22, Tryz.ntmps22
            go_wp2
            go_ret
            rw [HR.out]
            exact ⟨rfl, HO.out⟩
          ·have x44 : (be == 4) = false := by rw [beq_eq_false_iff_ne]; assumption
           have x44' : (be != 4) = true := by rw [bne, x44]; rfl
           have HR : Hid (r = false) := hid (by rw [hr, if_neg hb0, if_neg he, if_neg (by decide), if_neg (by decide), if_pos rfl, if_neg (by decide), if_pos rfl, if_neg hde, if_pos hlt, if_neg h44])
           clear hr
           go_enter Tryz.func22, Tryz.ntmps22
           go_wp2
           go_ret
           rw [HR.out]
           exact ⟨rfl, HO.out⟩
         ·have HR : Hid (r = false) := hid (by rw [hr, if_neg hb0, if_neg he, if_neg (by decide), if_neg (by decide), if_pos rfl, if_neg (by decide), if_pos rfl, if_neg hde, if_neg hlt])
          clear hr
          go_enter Tryz.func22, Tryz.ntmps22
          go_wp2
          go_ret
          rw [HR.out]
          exact ⟨rfl, HO.out⟩
       ·have x5 : (bk == 5) = false := by rw [beq_eq_false_iff_ne]; assumption
        have x5' : (bk != 5) = true := by rw [bne, x5]; rfl
        have HR : Hid (r = false) := hid (by rw [hr, if_neg hb0, if_neg he, if_neg (by decide), if_neg (by decide), if_pos rfl, if_neg h4, if_neg h5])
        clear hr
        go_enter Tryz.func22, Tryz.ntmps22
        go_wp2
        go_ret
        rw [HR.out]
        exact ⟨rfl, HO.out⟩
     ·have y5 : (ak == 5) = false := by rw [beq_eq_false_iff_ne]; assumption
      have y5' : (ak != 5) = true := by rw [bne, y5]; rfl
      have HR : Hid (r = false) := hid (by rw [hr, if_neg hb0, if_neg he, if_neg ha3, if_neg ha4, if_neg ha5])
      clear hr
      go_enter Tryz.func22, Tryz.ntmps22
      go_wp2
      go_ret
      rw [HR.out]
      exact ⟨rfl, HO.out⟩
def arrZ (l : List PairV) (a b : TypeV) : Bool :=
 if b.dims < a.dims then (if b.elem = 4 then (if b.name = objK then true else false) else false)
 else if a.dims < b.dims then false
 else if a.elem = b.elem then (if a.elem = 4 then belowZ l a.name b.name else true)
 else false
set_option maxRecDepth 100000 in
theorem progAssignArr (v : Value) (l : List PairV) (a b : TypeV) (w : World) (hl : Pairs w v l) (hn : l.length ≤ 4611686018427387904) (hsz : NamesR l) (ha : a.name.size ≤ maxLen) :
  Calls Tryz.prog 51 #[v, valT a, valT b] w fun e w' => e = .returned (.bool (arrZ l a b)) ∧ Only (fun _ => False) w w' := by
 obtain ⟨ak, an, ad, ae, aa⟩ := a
 obtain ⟨bk, bn, bd, be, ba⟩ := b
 simp only at ha
 have ho2 : Only (fun _ => False) w ((w.alloc (.cells #[.int .i64 ak, .string an, .int .i64 ad, .int .i64 ae, .int .i64 aa] 33)).alloc (.cells #[.int .i64 bk, .string bn, .int .i64 bd, .int .i64 be, .int .i64 ba] 33)) := ((Only.refl _ w).alloc _).alloc _
 have cB := progBelow v l an bn _ (hl.only ho2) hn hsz ha
 obtain ⟨r, hr⟩ : ∃ r, r = arrZ l ⟨ak, an, ad, ae, aa⟩ ⟨bk, bn, bd, be, ba⟩ := ⟨_, rfl⟩
 rw [← hr]
 unfold valT
 simp only
 have HO := hid ho2
 have CB := hid cB
 have g1 := guard_type
 have hob := lit_obj
 unfold arrZ at hr
 simp only at hr
 clear ho2 cB hl hsz ha
 by_cases hgt : bd < ad
 ·by_cases h4 : be = 4
  ·subst h4
   by_cases ho : bn = objK
   ·have ho' := ho
    unfold objK at ho'
    subst ho'
    have HR : Hid (r = true) := hid (by rw [hr]; simp [hgt, objK])
    clear hr
    go_enter Tryz.func51, Tryz.ntmps51
    go_wp2
    go_ret
    rw [HR.out]
    exact ⟨rfl, HO.out⟩
   ·obtain ⟨n1, n2⟩ := toList_beq ho
    unfold objK at n1 n2
    rw [lit_obj] at n1 n2
    have HR : Hid (r = false) := hid (by rw [hr]; simp [hgt, ho])
    clear hr
    go_enter Tryz.func51, Tryz.ntmps51
    go_wp2
    go_ret
    rw [HR.out]
    exact ⟨rfl, HO.out⟩
  ·have x4 : (be == 4) = false := by rw [beq_eq_false_iff_ne]; assumption
   have x4' : (be != 4) = true := by rw [bne, x4]; rfl
   have HR : Hid (r = false) := hid (by rw [hr]; simp [hgt, h4])
   clear hr
   go_enter Tryz.func51, Tryz.ntmps51
   go_wp2
   go_ret
   rw [HR.out]
   exact ⟨rfl, HO.out⟩
 ·by_cases hlt : ad < bd
  ·have HR : Hid (r = false) := hid (by rw [hr]; simp [hgt, hlt])
   clear hr
   go_enter Tryz.func51, Tryz.ntmps51
   go_wp2
   go_ret
   rw [HR.out]
   exact ⟨rfl, HO.out⟩
  ·by_cases he : ae = be
   ·subst he
    by_cases h4 : ae = 4
    ·subst h4
     have HR : Hid (r = belowZ l an bn) := hid (by rw [hr]; simp [hgt, hlt])
     clear hr
     go_enter Tryz.func51, Tryz.ntmps51
     go_wp2_with (fail)
     refine CB.out.mono ?_
     rintro e w2 ⟨rfl, hox⟩
     have HOX := hid (HO.out.trans hox (fun _ h _ => h))
     clear hox
     go_wp2
     go_ret
     rw [HR.out]
     exact ⟨rfl, HOX.out⟩
    ·have x4 : (ae == 4) = false := by rw [beq_eq_false_iff_ne]; assumption
     have x4' : (ae != 4) = true := by rw [bne, x4]; rfl
     have HR : Hid (r = true) := hid (by rw [hr]; simp [hgt, hlt, h4])
     clear hr
     go_enter Tryz.func51, Tryz.ntmps51
     go_wp2
     go_ret
     rw [HR.out]
     exact ⟨rfl, HO.out⟩
   ·have xe : (ae == be) = false := by rw [beq_eq_false_iff_ne]; assumption
    have xe' : (ae != be) = true := by rw [bne, xe]; rfl
    have HR : Hid (r = false) := hid (by rw [hr]; simp [hgt, hlt, he])
    clear hr
    go_enter Tryz.func51, Tryz.ntmps51
    go_wp2
    go_ret
    rw [HR.out]
    exact ⟨rfl, HO.out⟩
theorem arr_assign (l : List PairV) (an : ByteArray) (ad ae aa : Int) (bn : ByteArray) (bd be ba : Int) (he : eqT ⟨5, an, ad, ae, aa⟩ ⟨5, bn, bd, be, ba⟩ = false) :
  assignZ l ⟨5, an, ad, ae, aa⟩ ⟨5, bn, bd, be, ba⟩ = arrZ l ⟨5, an, ad, ae, aa⟩ ⟨5, bn, bd, be, ba⟩ := by
 unfold assignZ arrZ
 simp only [he]
 by_cases h1 : bd < ad
 ·have h2 : ¬ ad = bd := by omega
  simp [h1, h2]
 ·by_cases h3 : ad < bd
  ·have h2 : ¬ ad = bd := by omega
   simp [h1, h2, h3]
  ·have h2 : ad = bd := by omega
   simp [h2]
set_option maxRecDepth 100000 in
theorem progAssign (v : Value) (l : List PairV) (a b : TypeV) (w : World) (hl : Pairs w v l) (hn : l.length ≤ 4611686018427387904) (hsz : NamesR l) (ha : a.name.size ≤ maxLen) :
  Calls Tryz.prog 20 #[v, valT a, valT b] w fun e w' => e = .returned (.bool (assignZ l a b)) ∧ Only (fun _ => False) w w' := by
 obtain ⟨ak, an, ad, ae, aa⟩ := a
 obtain ⟨bk, bn, bd, be, ba⟩ := b
 simp only at ha
 have ho2 : Only (fun _ => False) w ((w.alloc (.cells #[.int .i64 ak, .string an, .int .i64 ad, .int .i64 ae, .int .i64 aa] 33)).alloc (.cells #[.int .i64 bk, .string bn, .int .i64 bd, .int .i64 be, .int .i64 ba] 33)) := ((Only.refl _ w).alloc _).alloc _
 have cB := progBelow v l an bn _ (hl.only ho2) hn hsz ha
 have cA := progAssignArr v l ⟨ak, an, ad, ae, aa⟩ ⟨bk, bn, bd, be, ba⟩ _ (hl.only ho2) hn hsz ha
 unfold valT at cA
 simp only at cA
 obtain ⟨r, hr⟩ : ∃ r, r = assignZ l ⟨ak, an, ad, ae, aa⟩ ⟨bk, bn, bd, be, ba⟩ := ⟨_, rfl⟩
 rw [← hr]
 unfold valT
 simp only
 have HO := hid ho2
 have CB := hid cB
 have CA := hid cA
 have eq1 := fun w => eql_type ⟨ak, an, ad, ae, aa⟩ ⟨bk, bn, bd, be, ba⟩ w
 unfold valT at eq1
 simp only at eq1
 have g1 := guard_type
 have hob := lit_obj
 unfold assignZ at hr
 simp only at hr
 clear ho2 cB cA hl hsz ha
 cases he0 : eqT ⟨ak, an, ad, ae, aa⟩ ⟨bk, bn, bd, be, ba⟩ with
 | true =>
  rw [he0] at eq1
  have HR : Hid (r = true) := hid (by rw [hr]; simp [he0])
  clear hr
  go_enter Tryz.func20, Tryz.ntmps20
  go_wp2
  go_ret
  rw [HR.out]
  exact ⟨rfl, HO.out⟩
 | false =>
  rw [he0] at eq1
  by_cases hb0 : bk = 0
  ·subst hb0
   have HR : Hid (r = true) := hid (by rw [hr]; simp [])
   clear hr
   go_enter Tryz.func20, Tryz.ntmps20
   go_wp2
   go_ret
   rw [HR.out]
   exact ⟨rfl, HO.out⟩
  ·have x0 : (bk == 0) = false := by rw [beq_eq_false_iff_ne]; assumption
   have x0' : (bk != 0) = true := by rw [bne, x0]; rfl
   by_cases hb4 : bk = 4
   ·subst hb4
    by_cases h4 : ak = 4
    ·subst h4
     have HR : Hid (r = belowZ l an bn) := hid (by rw [hr]; simp [he0])
     clear hr
     go_enter Tryz.func20, Tryz.ntmps20
     go_wp2_with (fail)
     refine CB.out.mono ?_
     rintro e w2 ⟨rfl, hox⟩
     have HOX := hid (HO.out.trans hox (fun _ h _ => h))
     clear hox
     go_wp2
     go_ret
     rw [HR.out]
     exact ⟨rfl, HOX.out⟩
    ·have y4 : (ak == 4) = false := by rw [beq_eq_false_iff_ne]; assumption
     have y4' : (ak != 4) = true := by rw [bne, y4]; rfl
     by_cases h5 : ak = 5
     ·subst h5
      by_cases ho : bn = objK
      ·have ho' := ho
       unfold objK at ho'
       subst ho'
       have HR : Hid (r = true) := hid (by rw [hr]; simp [he0, objK])
       clear hr
       go_enter Tryz.func20, Tryz.ntmps20
       go_wp2
       go_ret
       rw [HR.out]
       exact ⟨rfl, HO.out⟩
      ·obtain ⟨n1, n2⟩ := toList_beq ho
       unfold objK at n1 n2
       rw [lit_obj] at n1 n2
       have HR : Hid (r = false) := hid (by rw [hr]; simp [he0, ho])
       clear hr
       go_enter Tryz.func20, Tryz.ntmps20
       go_wp2
       go_ret
       rw [HR.out]
       exact ⟨rfl, HO.out⟩
     ·have y5 : (ak == 5) = false := by rw [beq_eq_false_iff_ne]; assumption
      have y5' : (ak != 5) = true := by rw [bne, y5]; rfl
      by_cases h3 : ak = 3
      ·subst h3
       have HR : Hid (r = true) := hid (by rw [hr]; simp [he0, h4, h5])
       clear hr
       go_enter Tryz.func20, Tryz.ntmps20
       go_wp2
       go_ret
       rw [HR.out]
       exact ⟨rfl, HO.out⟩
      ·have y3 : (ak == 3) = false := by rw [beq_eq_false_iff_ne]; assumption
       have y3' : (ak != 3) = true := by rw [bne, y3]; rfl
       have HR : Hid (r = false) := hid (by rw [hr]; simp [he0, h4, h5, h3])
       clear hr
       go_enter Tryz.func20, Tryz.ntmps20
       go_wp2
       go_ret
       rw [HR.out]
       exact ⟨rfl, HO.out⟩
   ·have x4 : (bk == 4) = false := by rw [beq_eq_false_iff_ne]; assumption
    have x4' : (bk != 4) = true := by rw [bne, x4]; rfl
    by_cases hb5 : bk = 5
    ·subst hb5
     by_cases h5 : ak = 5
     ·subst h5
      have HR : Hid (r = arrZ l ⟨5, an, ad, ae, aa⟩ ⟨5, bn, bd, be, ba⟩) := hid (by rw [hr]; exact arr_assign l an ad ae aa bn bd be ba he0)
      clear hr
      go_enter Tryz.func20, Tryz.ntmps20
      go_wp2_with (fail)
      refine CA.out.mono ?_
      rintro e w2 ⟨rfl, hox⟩
      have HOX := hid (HO.out.trans hox (fun _ h _ => h))
      clear hox
      go_wp2
      go_ret
      rw [HR.out]
      exact ⟨rfl, HOX.out⟩
     ·have y5 : (ak == 5) = false := by rw [beq_eq_false_iff_ne]; assumption
      have y5' : (ak != 5) = true := by rw [bne, y5]; rfl
      by_cases h4 : ak = 4
      ·subst h4
       have HR : Hid (r = false) := hid (by rw [hr]; simp [he0])
       clear hr
       go_enter Tryz.func20, Tryz.ntmps20
       go_wp2
       go_ret
       rw [HR.out]
       exact ⟨rfl, HO.out⟩
      ·have y4 : (ak == 4) = false := by rw [beq_eq_false_iff_ne]; assumption
       have y4' : (ak != 4) = true := by rw [bne, y4]; rfl
       by_cases h3 : ak = 3
       ·subst h3
        have HR : Hid (r = true) := hid (by rw [hr]; simp [he0, h4, h5])
        clear hr
        go_enter Tryz.func20, Tryz.ntmps20
        go_wp2
        go_ret
        rw [HR.out]
        exact ⟨rfl, HO.out⟩
       ·have y3 : (ak == 3) = false := by rw [beq_eq_false_iff_ne]; assumption
        have y3' : (ak != 3) = true := by rw [bne, y3]; rfl
        have HR : Hid (r = false) := hid (by rw [hr]; simp [he0, h4, h5, h3])
        clear hr
        go_enter Tryz.func20, Tryz.ntmps20
        go_wp2
        go_ret
        rw [HR.out]
        exact ⟨rfl, HO.out⟩
    ·have x5 : (bk == 5) = false := by rw [beq_eq_false_iff_ne]; assumption
     have x5' : (bk != 5) = true := by rw [bne, x5]; rfl
     by_cases hb3 : bk = 3
     ·subst hb3
      by_cases h4 : ak = 4
      ·subst h4
       have HR : Hid (r = false) := hid (by rw [hr]; simp [he0])
       clear hr
       go_enter Tryz.func20, Tryz.ntmps20
       go_wp2
       go_ret
       rw [HR.out]
       exact ⟨rfl, HO.out⟩
      ·have y4 : (ak == 4) = false := by rw [beq_eq_false_iff_ne]; assumption
       have y4' : (ak != 4) = true := by rw [bne, y4]; rfl
       by_cases h5 : ak = 5
       ·subst h5
        have HR : Hid (r = false) := hid (by rw [hr]; simp [he0])
        clear hr
        go_enter Tryz.func20, Tryz.ntmps20
        go_wp2
        go_ret
        rw [HR.out]
        exact ⟨rfl, HO.out⟩
       ·have y5 : (ak == 5) = false := by rw [beq_eq_false_iff_ne]; assumption
        have y5' : (ak != 5) = true := by rw [bne, y5]; rfl
        by_cases h3 : ak = 3
        ·subst h3
         have HR : Hid (r = true) := hid (by rw [hr]; simp [he0, h4, h5])
         clear hr
         go_enter Tryz.func20, Tryz.ntmps20
         go_wp2
         go_ret
         rw [HR.out]
         exact ⟨rfl, HO.out⟩
        ·have y3 : (ak == 3) = false := by rw [beq_eq_false_iff_ne]; assumption
         have y3' : (ak != 3) = true := by rw [bne, y3]; rfl
         have HR : Hid (r = false) := hid (by rw [hr]; simp [he0, h4, h5, h3])
         clear hr
         go_enter Tryz.func20, Tryz.ntmps20
         go_wp2
         go_ret
         rw [HR.out]
         exact ⟨rfl, HO.out⟩
     ·have x3 : (bk == 3) = false := by rw [beq_eq_false_iff_ne]; assumption
      have x3' : (bk != 3) = true := by rw [bne, x3]; rfl
      by_cases h3 : ak = 3
      ·subst h3
       have HR : Hid (r = false) := hid (by rw [hr]; simp [he0, hb0, hb4, hb5, hb3])
       clear hr
       go_enter Tryz.func20, Tryz.ntmps20
       go_wp2
       go_ret
       rw [HR.out]
       exact ⟨rfl, HO.out⟩
      ·have y3 : (ak == 3) = false := by rw [beq_eq_false_iff_ne]; assumption
       have y3' : (ak != 3) = true := by rw [bne, y3]; rfl
       by_cases h4 : ak = 4
       ·subst h4
        have HR : Hid (r = false) := hid (by rw [hr]; simp [he0, hb0, hb4, hb5, hb3])
        clear hr
        go_enter Tryz.func20, Tryz.ntmps20
        go_wp2
        go_ret
        rw [HR.out]
        exact ⟨rfl, HO.out⟩
       ·have y4 : (ak == 4) = false := by rw [beq_eq_false_iff_ne]; assumption
        have y4' : (ak != 4) = true := by rw [bne, y4]; rfl
        by_cases h5 : ak = 5
        ·subst h5
         have HR : Hid (r = false) := hid (by rw [hr]; simp [he0, hb0, hb4, hb5, hb3])
         clear hr
         go_enter Tryz.func20, Tryz.ntmps20
         go_wp2
         go_ret
         rw [HR.out]
         exact ⟨rfl, HO.out⟩
        ·have y5 : (ak == 5) = false := by rw [beq_eq_false_iff_ne]; assumption
         have y5' : (ak != 5) = true := by rw [bne, y5]; rfl
         have HR : Hid (r = false) := hid (by rw [hr]; simp [he0, hb0, h3, h4, h5])
         clear hr
         go_enter Tryz.func20, Tryz.ntmps20
         go_wp2
         go_ret
         rw [HR.out]
         exact ⟨rfl, HO.out⟩
def idxP {α : Type} (p : α → Bool) : Nat → List α → Int
 | _, [] => -1
 | i, a :: r => if p a = true then (i : Int) else idxP p (i + 1) r
theorem idxP_skip {α : Type} {p : α → Bool} {i : Nat} {l r : List α} {a : α} (hl : l = a :: r) (h : p a = false) : idxP p i l = idxP p (i + 1) r := by rw [hl, idxP, h]; rfl
theorem idxP_here {α : Type} {p : α → Bool} {i : Nat} {l r : List α} {a : α} (hl : l = a :: r) (h : p a = true) : idxP p i l = i := by rw [hl, idxP, h]; rfl
theorem idxP_any {α : Type} (p : α → Bool) : ∀ (l : List α) (i : Nat), (l.any p = true ∧ 0 ≤ idxP p i l) ∨ (l.any p = false ∧ idxP p i l = -1)
 | [], i => .inr ⟨rfl, rfl⟩
 | a :: r, i => by
  cases h : p a with
  | true => exact .inl ⟨by rw [List.any_cons, h]; rfl, by rw [idxP_here rfl h]; omega⟩
  | false =>
   rw [List.any_cons, h, Bool.false_or, idxP_skip rfl h]
   exact idxP_any p r (i + 1)
theorem drop_getD {α : Type} [Inhabited α] {l : List α} {j : Nat} (h : j < l.length) : l.drop j = l.getD j default :: l.drop (j + 1) := by
 rw [List.drop_eq_getElem_cons h]; simp [List.getD, h]
def Decides (n : FuncId) (cap : Array Value) (p : TypeV → Bool) (l : List TypeV) (w : World) : Prop :=
 ∀ t ∈ l, ∀ w', Only (fun _ => False) w w' → Calls Tryz.prog n (#[valT t] ++ cap) w' fun e w2 => e = .returned (.bool (p t)) ∧ Only (fun _ => False) w' w2
def atM (x : Int) (q : MapX) : Bool := q.1.at_ == x
end Go.Proofs.YtinbelghhfodiaaGreatDoor
