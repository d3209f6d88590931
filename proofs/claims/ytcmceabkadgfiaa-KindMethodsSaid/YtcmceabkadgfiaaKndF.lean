/- The document's own Assign. No condition but a length that a list can have. -/
import Derived.Test.YtcmceabkadgfiaaKndE
namespace Go.Proofs.Ytcmceabkadgfiaa
open Go.RowKit
set_option linter.unusedVariables false
set_option linter.unusedSimpArgs false

def objB : ByteArray := ⟨#[79, 98, 106, 101, 99, 116]⟩
theorem lit_obj : (⟨#[79, 98, 106, 101, 99, 116]⟩ : ByteArray).toList = [79, 98, 106, 101, 99, 116] := by rw [ByteArray.toList_eq]
def assignZ (l : List PairV) (a b : TypeV) : Bool :=
  if b.k = 0 then true
  else if eqT a b = true then true
  else if a.k = 3 then (if b.k = 4 then true else if b.k = 5 then true else if b.k = 3 then true else false)
  else if a.k = 4 then (if b.k = 4 then belowZ l a.name b.name else false)
  else if a.k = 5 then
    (if b.k = 4 then (if b.name = objB then true else false)
    else if b.k = 5 then
      (if a.dims = b.dims then (if a.elem = b.elem then (if a.elem = 4 then belowZ l a.name b.name else true) else false)
      else if b.dims < a.dims then (if b.elem = 4 then (if b.name = objB then true else false) else false)
      else false)
    else false)
  else false
set_option maxHeartbeats 32000000 in
set_option maxRecDepth 100000 in
theorem refAssign (v : Value) (l : List PairV) (a b : TypeV) (w : World) (hl : Pairs w v l) (hn : l.length ≤ 4611686018427387904) :
    Calls Try.prog 25 #[v, valT a, valT b] w fun e w' => e = .returned (.bool (assignZ l a b)) ∧ Only (fun _ => False) w w' := by
  obtain ⟨ak, an, ad, ae, aa⟩ := a
  obtain ⟨bk, bn, bd, be, ba⟩ := b
  have ho2 : Only (fun _ => False) w ((w.alloc (.cells #[.int .i64 ak, .string an, .int .i64 ad, .int .i64 ae, .int .i64 aa] 23)).alloc (.cells #[.int .i64 bk, .string bn, .int .i64 bd, .int .i64 be, .int .i64 ba] 23)) := ((Only.refl _ w).alloc _).alloc _
  have cB := refBelow v l an bn _ (hl.only ho2) hn
  obtain ⟨r, hr⟩ : ∃ r, r = assignZ l ⟨ak, an, ad, ae, aa⟩ ⟨bk, bn, bd, be, ba⟩ := ⟨_, rfl⟩
  rw [← hr]
  unfold valT
  simp only
  have HO := Lib.hid ho2
  have CB := Lib.hid cB
  have g1 := guard_type
  have hob := lit_obj
  have eq1 := fun w => eql_type ⟨ak, an, ad, ae, aa⟩ ⟨bk, bn, bd, be, ba⟩ w
  unfold valT at eq1
  simp only at eq1
  unfold assignZ at hr
  simp only at hr
  clear ho2 cB hl
  by_cases hb0 : bk = 0
  · subst hb0
    have HR : Hid (r = true) := Lib.hid (by rw [hr, if_pos rfl])
    clear hr
    go_enter Try.func25, Try.ntmps25
    go_wp2
    go_ret
    rw [HR.out]
    exact ⟨rfl, HO.out⟩
  · have x0 : (bk == 0) = false := by rw [beq_eq_false_iff_ne]; assumption
    have x0' : (bk != 0) = true := by rw [bne, x0]; rfl
    cases he0 : eqT ⟨ak, an, ad, ae, aa⟩ ⟨bk, bn, bd, be, ba⟩ with
    | true =>
      rw [he0] at eq1
      have HR : Hid (r = true) := Lib.hid (by rw [hr, if_neg hb0, if_pos he0])
      clear hr
      go_enter Try.func25, Try.ntmps25
      go_wp2
      go_ret
      rw [HR.out]
      exact ⟨rfl, HO.out⟩
    | false =>
      rw [he0] at eq1
      have he : ¬ eqT ⟨ak, an, ad, ae, aa⟩ ⟨bk, bn, bd, be, ba⟩ = true := by rw [he0]; decide
      by_cases ha3 : ak = 3
      · subst ha3
        by_cases h4 : bk = 4
        · subst h4
          have HR : Hid (r = true) := Lib.hid (by rw [hr, if_neg hb0, if_neg he, if_pos rfl, if_pos rfl])
          clear hr
          go_enter Try.func25, Try.ntmps25
          go_wp2
          go_ret
          rw [HR.out]
          exact ⟨rfl, HO.out⟩
        · have x4 : (bk == 4) = false := by rw [beq_eq_false_iff_ne]; assumption
          have x4' : (bk != 4) = true := by rw [bne, x4]; rfl
          by_cases h5 : bk = 5
          · subst h5
            have HR : Hid (r = true) := Lib.hid (by rw [hr, if_neg hb0, if_neg he, if_pos rfl, if_neg (by decide), if_pos rfl])
            clear hr
            go_enter Try.func25, Try.ntmps25
            go_wp2
            go_ret
            rw [HR.out]
            exact ⟨rfl, HO.out⟩
          · have x5 : (bk == 5) = false := by rw [beq_eq_false_iff_ne]; assumption
            have x5' : (bk != 5) = true := by rw [bne, x5]; rfl
            by_cases h3 : bk = 3
            · subst h3
              have HR : Hid (r = true) := Lib.hid (by rw [hr, if_neg hb0, if_neg he, if_pos rfl, if_neg (by decide), if_neg (by decide), if_pos rfl])
              clear hr
              go_enter Try.func25, Try.ntmps25
              go_wp2
              go_ret
              rw [HR.out]
              exact ⟨rfl, HO.out⟩
            · have x3 : (bk == 3) = false := by rw [beq_eq_false_iff_ne]; assumption
              have x3' : (bk != 3) = true := by rw [bne, x3]; rfl
              have HR : Hid (r = false) := Lib.hid (by rw [hr, if_neg hb0, if_neg he, if_pos rfl, if_neg h4, if_neg h5, if_neg h3])
              clear hr
              go_enter Try.func25, Try.ntmps25
              go_wp2
              go_ret
              rw [HR.out]
              exact ⟨rfl, HO.out⟩
      · have y3 : (ak == 3) = false := by rw [beq_eq_false_iff_ne]; assumption
        have y3' : (ak != 3) = true := by rw [bne, y3]; rfl
        by_cases ha4 : ak = 4
        · subst ha4
          by_cases h4 : bk = 4
          · subst h4
            have HR : Hid (r = belowZ l an bn) := Lib.hid (by rw [hr, if_neg hb0, if_neg he, if_neg (by decide), if_pos rfl, if_pos rfl])
            clear hr
            go_enter Try.func25, Try.ntmps25
            go_wp2_with (fail)
            refine CB.out.mono ?_
            rintro e w2 ⟨rfl, rfl⟩
            go_wp2
            go_ret
            rw [HR.out]
            exact ⟨rfl, HO.out⟩
          · have x4 : (bk == 4) = false := by rw [beq_eq_false_iff_ne]; assumption
            have x4' : (bk != 4) = true := by rw [bne, x4]; rfl
            have HR : Hid (r = false) := Lib.hid (by rw [hr, if_neg hb0, if_neg he, if_neg (by decide), if_pos rfl, if_neg h4])
            clear hr
            go_enter Try.func25, Try.ntmps25
            go_wp2
            go_ret
            rw [HR.out]
            exact ⟨rfl, HO.out⟩
        · have y4 : (ak == 4) = false := by rw [beq_eq_false_iff_ne]; assumption
          have y4' : (ak != 4) = true := by rw [bne, y4]; rfl
          by_cases ha5 : ak = 5
          · subst ha5
            by_cases h4 : bk = 4
            · subst h4
              by_cases ho : bn = objB
              · have ho' := ho
                unfold objB at ho'
                subst ho'
                have HR : Hid (r = true) := Lib.hid (by rw [hr, if_neg hb0, if_neg he, if_neg (by decide), if_neg (by decide), if_pos rfl, if_pos rfl, if_pos ho])
                clear hr
                go_enter Try.func25, Try.ntmps25
                go_wp2
                go_ret
                rw [HR.out]
                exact ⟨rfl, HO.out⟩
              · obtain ⟨n1, n2⟩ := toList_beq ho
                unfold objB at n1 n2
                rw [lit_obj] at n1 n2
                have HR : Hid (r = false) := Lib.hid (by rw [hr, if_neg hb0, if_neg he, if_neg (by decide), if_neg (by decide), if_pos rfl, if_pos rfl, if_neg ho])
                clear hr
                go_enter Try.func25, Try.ntmps25
                go_wp2
                go_ret
                rw [HR.out]
                exact ⟨rfl, HO.out⟩
            · have x4 : (bk == 4) = false := by rw [beq_eq_false_iff_ne]; assumption
              have x4' : (bk != 4) = true := by rw [bne, x4]; rfl
              by_cases h5 : bk = 5
              · subst h5
                by_cases hde : ad = bd
                · subst hde
                  by_cases hee : ae = be
                  · subst hee
                    by_cases h44 : ae = 4
                    · subst h44
                      have HR : Hid (r = belowZ l an bn) := Lib.hid (by rw [hr, if_neg hb0, if_neg he, if_neg (by decide), if_neg (by decide), if_pos rfl, if_neg (by decide), if_pos rfl, if_pos rfl, if_pos rfl, if_pos rfl])
                      clear hr
                      go_enter Try.func25, Try.ntmps25
                      go_wp2_with (fail)
                      refine CB.out.mono ?_
                      rintro e w2 ⟨rfl, rfl⟩
                      go_wp2
                      go_ret
                      rw [HR.out]
                      exact ⟨rfl, HO.out⟩
                    · have x44 : (ae == 4) = false := by rw [beq_eq_false_iff_ne]; assumption
                      have x44' : (ae != 4) = true := by rw [bne, x44]; rfl
                      have HR : Hid (r = true) := Lib.hid (by rw [hr, if_neg hb0, if_neg he, if_neg (by decide), if_neg (by decide), if_pos rfl, if_neg (by decide), if_pos rfl, if_pos rfl, if_pos rfl, if_neg h44])
                      clear hr
                      go_enter Try.func25, Try.ntmps25
                      go_wp2
                      go_ret
                      rw [HR.out]
                      exact ⟨rfl, HO.out⟩
                  · have xee : (ae == be) = false := by rw [beq_eq_false_iff_ne]; assumption
                    have xee' : (ae != be) = true := by rw [bne, xee]; rfl
                    have HR : Hid (r = false) := Lib.hid (by rw [hr, if_neg hb0, if_neg he, if_neg (by decide), if_neg (by decide), if_pos rfl, if_neg (by decide), if_pos rfl, if_pos rfl, if_neg hee])
                    clear hr
                    go_enter Try.func25, Try.ntmps25
                    go_wp2
                    go_ret
                    rw [HR.out]
                    exact ⟨rfl, HO.out⟩
                · have xde : (ad == bd) = false := by rw [beq_eq_false_iff_ne]; assumption
                  have xde' : (ad != bd) = true := by rw [bne, xde]; rfl
                  by_cases hlt : bd < ad
                  · by_cases h44 : be = 4
                    · subst h44
                      by_cases ho : bn = objB
                      · have ho' := ho
                        unfold objB at ho'
                        subst ho'
                        have HR : Hid (r = true) := Lib.hid (by rw [hr, if_neg hb0, if_neg he, if_neg (by decide), if_neg (by decide), if_pos rfl, if_neg (by decide), if_pos rfl, if_neg hde, if_pos hlt, if_pos rfl, if_pos ho])
                        clear hr
                        go_enter Try.func25, Try.ntmps25
                        go_wp2
                        go_ret
                        rw [HR.out]
                        exact ⟨rfl, HO.out⟩
                      · obtain ⟨n1, n2⟩ := toList_beq ho
                        unfold objB at n1 n2
                        rw [lit_obj] at n1 n2
                        have HR : Hid (r = false) := Lib.hid (by rw [hr, if_neg hb0, if_neg he, if_neg (by decide), if_neg (by decide), if_pos rfl, if_neg (by decide), if_pos rfl, if_neg hde, if_pos hlt, if_pos rfl, if_neg ho])
                        clear hr
                        go_enter Try.func25, Try.ntmps25
                        go_wp2
                        go_ret
                        rw [HR.out]
                        exact ⟨rfl, HO.out⟩
                    · have x44 : (be == 4) = false := by rw [beq_eq_false_iff_ne]; assumption
                      have x44' : (be != 4) = true := by rw [bne, x44]; rfl
                      have HR : Hid (r = false) := Lib.hid (by rw [hr, if_neg hb0, if_neg he, if_neg (by decide), if_neg (by decide), if_pos rfl, if_neg (by decide), if_pos rfl, if_neg hde, if_pos hlt, if_neg h44])
                      clear hr
                      go_enter Try.func25, Try.ntmps25
                      go_wp2
                      go_ret
                      rw [HR.out]
                      exact ⟨rfl, HO.out⟩
                  · have HR : Hid (r = false) := Lib.hid (by rw [hr, if_neg hb0, if_neg he, if_neg (by decide), if_neg (by decide), if_pos rfl, if_neg (by decide), if_pos rfl, if_neg hde, if_neg hlt])
                    clear hr
                    go_enter Try.func25, Try.ntmps25
                    go_wp2
                    go_ret
                    rw [HR.out]
                    exact ⟨rfl, HO.out⟩
              · have x5 : (bk == 5) = false := by rw [beq_eq_false_iff_ne]; assumption
                have x5' : (bk != 5) = true := by rw [bne, x5]; rfl
                have HR : Hid (r = false) := Lib.hid (by rw [hr, if_neg hb0, if_neg he, if_neg (by decide), if_neg (by decide), if_pos rfl, if_neg h4, if_neg h5])
                clear hr
                go_enter Try.func25, Try.ntmps25
                go_wp2
                go_ret
                rw [HR.out]
                exact ⟨rfl, HO.out⟩
          · have y5 : (ak == 5) = false := by rw [beq_eq_false_iff_ne]; assumption
            have y5' : (ak != 5) = true := by rw [bne, y5]; rfl
            have HR : Hid (r = false) := Lib.hid (by rw [hr, if_neg hb0, if_neg he, if_neg ha3, if_neg ha4, if_neg ha5])
            clear hr
            go_enter Try.func25, Try.ntmps25
            go_wp2
            go_ret
            rw [HR.out]
            exact ⟨rfl, HO.out⟩
end Go.Proofs.Ytcmceabkadgfiaa
