/- The program's Below. No condition but a length that leaves room. -/
import Derived.Test.YtcmceabkadgfiaaKndO
namespace Go.Proofs.Ytcmceabkadgfiaa
open Go.RowKit
set_option linter.unusedVariables false
set_option linter.unusedSimpArgs false

/-- All names of a tree are texts that there can be. -/
def NamesR (l : List PairV) : Prop := ∀ p ∈ l, p.name.size ≤ maxLen ∧ p.super.size ≤ maxLen
def superV (l : List PairV) (x : ByteArray) : ByteArray := if pairOf l x < 0 then ⟨#[]⟩ else (l.getD (pairOf l x).toNat default).super
set_option maxHeartbeats 2000000 in
set_option maxRecDepth 100000 in
theorem progAsked (v pv : Value) (l : List PairV) (x : ByteArray) (b3 b1 : Nat) (w w0 : World) (hp : Pairs w v l) (h1 : w.cell? ⟨b1, 0, none⟩ = some v) (h3 : w.cell? ⟨b3, 0, none⟩ = some pv) (hpv : PlaceV w0 l pv) (hw : Only (fun _ => False) w0 w) (hx : x.size ≤ maxLen) :
    Calls Try.prog 40 #[.string x, .pointer (some ⟨b3, 0, none⟩), .pointer (some ⟨b1, 0, none⟩)] w fun e w' => e = .returned (.tuple #[.string (superV l x), .bool (!decide (pairOf l x < 0))]) ∧ Only (fun _ => False) w w' := by
  obtain ⟨n, b, rfl, hen, hcall⟩ := hpv
  have c1 := hcall w x hw hx
  have C1 := Lib.hid c1
  have HP := Lib.hid hp
  have H1 := Lib.hid h1
  clear hcall c1 h1 hw
  rcases pairOf_cases l x with hq | ⟨q, hql, hq⟩
  · have hs : superV l x = ⟨#[]⟩ := by unfold superV; rw [hq]; rfl
    rw [hs]
    rw [hq] at C1 ⊢
    clear hs hq hp
    go_enter Try.func40, Try.ntmps40
    go_wp2_with (fail)
    refine C1.out.mono ?_
    rintro e w1 ⟨rfl, ho1⟩
    have HO1 := Lib.hid ho1
    clear ho1 C1
    go_wp2
    go_ret2
    exact ⟨rfl, HO1.out⟩
  · have hs : superV l x = (l.getD q default).super := by unfold superV; rw [hq, if_neg (by omega)]; rfl
    rw [hs]
    rw [hq] at C1 ⊢
    have hd : decide ((q : Int) < 0) = false := by simp
    rw [hd]
    obtain ⟨p, hpe⟩ : ∃ p, l.getD q default = p := ⟨_, rfl⟩
    rw [hpe]
    have HPE := Lib.hid hpe
    obtain ⟨ao, cap, rfl, p1, p2, p3, -⟩ := id hp
    clear hs hq hp p3 hd hpe
    have hqz : (q : Int) < (l.length : Int) := by omega
    have hq0 : (0 : Int) ≤ (q : Int) := by omega
    have hq1 : ¬ (q : Int) < 0 := by omega
    go_enter Try.func40, Try.ntmps40
    go_wp2_with (fail)
    refine C1.out.mono ?_
    rintro e w1 ⟨rfl, ho1⟩
    obtain ⟨g, o, rfl, y⟩ := Sl.at (HP.out.only ho1) hql
    rw [HPE.out] at y
    obtain ⟨y0, y1⟩ := y
    have h1' := ho1.cell H1.out (fun h => h)
    have HO1 := Lib.hid ho1
    clear ho1 C1 H1
    go_wp2
    go_ret2
    exact ⟨rfl, HO1.out⟩
/-- What 'asking' answers: the closure over the place's function and the tree. -/
def AskV (w : World) (l : List PairV) (av : Value) : Prop := ∃ b3 b1, av = .func (.func 40) #[] #[.pointer (some ⟨b3, 0, none⟩), .pointer (some ⟨b1, 0, none⟩)] ∧
  ∀ W x, Only (fun _ => False) w W → x.size ≤ maxLen → Calls Try.prog 40 #[.string x, .pointer (some ⟨b3, 0, none⟩), .pointer (some ⟨b1, 0, none⟩)] W fun e w' => e = .returned (.tuple #[.string (superV l x), .bool (!decide (pairOf l x < 0))]) ∧ Only (fun _ => False) W w'
theorem store_func8 (n b : Nat) (a : Addr) (w : World) : (store a (.func (.func n) #[] #[.pointer (some ⟨b, 0, none⟩)])).run Try.prog w = stored Try.prog w a (.func (.func n) #[] #[.pointer (some ⟨b, 0, none⟩)]) .plain := run_store _ w a _ .plain rfl
set_option maxHeartbeats 2000000 in
set_option maxRecDepth 100000 in
theorem progAsking (v : Value) (l : List PairV) (w : World) (hp : Pairs w v l) (hlen : l.length ≤ 4611686018427387904) (hsz : NamesR l) :
    Calls Try.prog 33 #[v] w fun e w' => ∃ av, e = .returned av ∧ AskV w' l av ∧ Only (fun _ => False) w w' := by
  obtain ⟨ao, cap, rfl, p1, p2, p3, -⟩ := id hp
  have ho1 := (Only.refl (fun _ => False) w).alloc (.cells #[.slice ao l.length cap] 43)
  have hb1 := heap_alloc_new w (.cells #[.slice ao l.length cap] 43)
  have c1 := progPlacing _ l _ (hp.only ho1) hlen (fun p h => (hsz p h).1)
  have C1 := Lib.hid c1
  have HO := Lib.hid ho1
  have HB := Lib.hid hb1
  have HP := Lib.hid hp
  clear p3 hb1 ho1 c1 hp
  go_enter Try.func33, Try.ntmps33
  go_wp2_with (fail)
  refine C1.out.mono ?_
  rintro e w1 ⟨pv, rfl, hpv, ho1⟩
  have hal := (Only.refl (fun _ => False) w1).alloc (.cells #[pv] 66)
  have hn := heap_alloc_new w1 (.cells #[pv] 66)
  have HPV := Lib.hid (hpv.only hal)
  have HO1 := Lib.hid ((HO.out.trans ho1 (fun _ h _ => h)).trans hal (fun _ h _ => h))
  have HC1 := Lib.hid (cell_blk (hal.heap (ho1.heap HB.out (fun h => h)) (fun h => h)) 0)
  have HC3 := Lib.hid (cell_blk hn 0)
  obtain ⟨n, b, hpve, -⟩ := hpv
  subst hpve
  have hsf := fun a w => store_func8 n b a w
  clear hal hn ho1 C1
  go_wp2
  go_ret
  exact ⟨_, rfl, ⟨_, _, rfl, fun W x hW hx => progAsked _ _ l x _ _ W _ (HP.out.only (HO1.out.trans hW (fun _ h _ => h))) (hW.cell HC1.out (fun h => h)) (hW.cell HC3.out (fun h => h)) HPV.out hW hx⟩, HO1.out⟩

set_option maxHeartbeats 4000000 in
set_option maxRecDepth 100000 in
theorem progBelow (v : Value) (l : List PairV) (a b : ByteArray) (w : World) (hp : Pairs w v l) (hlen : l.length ≤ 4611686018427387904) (hsz : NamesR l) (ha : a.size ≤ maxLen) :
    Calls Try.prog 21 #[v, .string a, .string b] w fun e w' => e = .returned (.bool (belowZ l a b)) ∧ Only (fun _ => False) w w' := by
  obtain ⟨ao, cap, rfl, p1, p2, p3, -⟩ := id hp
  have c1 := progAsking _ l w hp hlen hsz
  have C1 := Lib.hid c1
  have HS := Lib.hid hsz
  have HA := Lib.hid ha
  clear p3 hp c1 hsz ha
  by_cases hab : a = b
  · subst hab
    have HR := Lib.hid (show belowZ l a a = true from belowN_same l a _)
    go_enter Try.func21, Try.ntmps21
    go_wp2
    go_ret
    rw [HR.out]
    exact ⟨rfl, Only.refl _ _⟩
  · obtain ⟨e1, e2⟩ := toList_beq hab
    have HAB := Lib.hid hab
    clear hab
    go_enter Try.func21, Try.ntmps21
    go_wp2_with (fail)
    refine C1.out.mono ?_
    rintro e w1 ⟨av, rfl, ⟨b3, b1, rfl, hav⟩, ho1⟩
    have HAV := Lib.hid hav
    have HO1 := Lib.hid ho1
    have hen : ∀ args w, (callFunc 40 args).run Try.prog w = .ok (.enter 40 args) w := enters_of Try.func40 (by kernel_rfl) rfl
    clear hav ho1 C1 e1 e2
    go_wp2
    go_loopw [1, 17] (fun av iv wr => ∃ (c : ByteArray) (k : Nat), av = .string c ∧ iv = .int .i64 k ∧ k ≤ l.length ∧ Hid (c ≠ b) ∧ Hid (c.size ≤ maxLen) ∧ Hid (belowZ l a b = belowN l b (l.length - k) c) ∧ Hid (Only (fun _ => False) w1 wr)) (fun _ iv _ => l.length - (intOf iv).toNat)
    case atStart => exact ⟨a, 0, rfl, rfl, Nat.zero_le _, HAB, HA, Lib.hid rfl, Lib.hid (Only.refl _ _)⟩
    case round =>
      obtain ⟨c, k, rfl, rfl, hk, HCB, HC, HB, HON⟩ := hrel
      by_cases hlt : k < l.length
      · have hkz : (k : Int) < (l.length : Int) := by omega
        have c2 := HAV.out wr c HON.out HC.out
        rcases pairOf_cases l c with hq | ⟨q, hql, hq⟩
        · have HR := Lib.hid (show belowZ l a b = false by rw [HB.out, belowN_none HCB.out hq])
          have hs : superV l c = ⟨#[]⟩ := by unfold superV; rw [hq]; rfl
          rw [hs, hq] at c2
          have C2 := Lib.hid c2
          clear c2 hq hs
          go_wp2_with (fail)
          refine C2.out.mono ?_
          rintro e w2 ⟨rfl, ho2⟩
          have HO2 := Lib.hid ((HO1.out.trans HON.out (fun _ h _ => h)).trans ho2 (fun _ h _ => h))
          clear ho2 C2
          go_wp2
          go_ret
          rw [HR.out]
          exact ⟨rfl, HO2.out⟩
        · have hs : superV l c = (l.getD q default).super := by unfold superV; rw [hq, if_neg (by omega)]; rfl
          have hst : belowZ l a b = belowN l b (l.length - (k + 1)) (l.getD q default).super := by
            rw [HB.out, show l.length - k = (l.length - (k + 1)) + 1 by omega, belowN_step HCB.out hq]
          have HSR := Lib.hid (HS.out _ (getD_mem hql)).2
          rw [hs, hq, show decide ((q : Int) < 0) = false by simp, Bool.not_false] at c2
          have HST := Lib.hid hst
          have C2 := Lib.hid c2
          clear c2 hq hs hst
          generalize (l.getD q default).super = sp at *
          by_cases hsb : sp = b
          · subst hsb
            have HR := Lib.hid (show belowZ l a sp = true by rw [HST.out, belowN_same])
            go_wp2_with (fail)
            refine C2.out.mono ?_
            rintro e w2 ⟨rfl, ho2⟩
            have HO2 := Lib.hid ((HO1.out.trans HON.out (fun _ h _ => h)).trans ho2 (fun _ h _ => h))
            clear ho2 C2
            go_wp2
            go_ret
            rw [HR.out]
            exact ⟨rfl, HO2.out⟩
          · obtain ⟨n1, n2⟩ := toList_beq hsb
            have HSB := Lib.hid hsb
            clear hsb
            go_wp2_with (fail)
            refine C2.out.mono ?_
            rintro e w2 ⟨rfl, ho2⟩
            have HO2 := Lib.hid (HON.out.trans ho2 (fun _ h _ => h))
            clear ho2 C2
            go_wp2
            go_roundw
            case rel => exact ⟨sp, k + 1, rfl, by go_num, by omega, HSB, HSR, HST, HO2⟩
            case measure => simp [intOf]; omega
      · obtain rfl : k = l.length := by omega
        have HR := Lib.hid (show belowZ l a b = false by rw [HB.out, Nat.sub_self, belowN_last HCB.out])
        have HO2 := Lib.hid (HO1.out.trans HON.out (fun _ h _ => h))
        clear hlt hk
        go_wp2
        go_ret
        rw [HR.out]
        exact ⟨rfl, HO2.out⟩
end Go.Proofs.Ytcmceabkadgfiaa
