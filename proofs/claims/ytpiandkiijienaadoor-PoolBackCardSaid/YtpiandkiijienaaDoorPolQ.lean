/- The program's Encode of a pool: the bytes that the document says. No condition but the form's own reach. -/
import Derived.Test.YtpiandkiijienaaDoorPolO
import Derived.Test.YtpiandkiijienaaDoorPolN
namespace Go.Proofs.YtpiandkiijienaaDoor
open Go.RowKit Go.Shelf
set_option linter.unusedVariables false
set_option linter.unusedSimpArgs false

theorem not_bad {x : ByteArray} (h : ¬ TextBad x) : ∃ ys, Enc (nums x) ys 0 ∧ ys.length ≤ 256 := by
  apply Classical.byContradiction
  intro hn
  apply h
  intro ys k he
  by_cases hk : k = 0
  · subst hk
    exact .inr (Nat.lt_of_not_le fun hl => hn ⟨ys, he, hl⟩)
  · exact .inl hk

/-- A constant that may be is written. -/
theorem writeOne (cs : List ConstV) (c : ConstV) (hl : cs.length ≤ 1024) (h : oneZ cs c = 0) (hr : ConstR c) (wb : Nat) (sv : Value) (most : Nat) (bs : List Int) (w : World) (hw : Wr w wb sv most bs) (hroom : bs.length + 259 ≤ most) (hT : Tabs w) (h3 : 3 ≤ wb) (hs3 : ∀ k, sv.ownBlock = some k → 3 ≤ k) :
    ∃ b, ConstB c b ∧ Calls Tryd.prog 24 #[.pointer (some ⟨wb, 0, none⟩), .agg #[.int .i64 c.tag, .string c.text, .int .i64 c.n, .int .i64 c.a, .int .i64 c.b]] w (WroteTo w wb sv most bs b) := by
  rcases oneZ_zero hl h with ⟨ht, hb⟩ | ⟨ht, h0, h1⟩ | ht | ⟨ht, h0, h1⟩ | ⟨ht, h0, h1⟩
  · obtain ⟨ys, he, hys⟩ := not_bad hb
    exact ⟨_, .inl ⟨ht, ys, he, hys, rfl⟩, wrote1 wb sv most bs c w hw hroom ht ys he hys hT h3 hs3 (by have := hr.rt; omega)⟩
  · exact ⟨_, .inr (.inl ⟨ht, rfl⟩), wrote3 wb sv most bs c w hw hroom ht ⟨h0, h1⟩⟩
  · exact ⟨_, .inr (.inr (.inl ⟨ht, rfl⟩)), wrote5 wb sv most bs c w hw hroom ht hr.r2⟩
  · exact ⟨_, .inr (.inr (.inr (.inl ⟨ht, rfl⟩))), wrote7 wb sv most bs c w hw hroom ht ⟨h0, h1⟩⟩
  · refine ⟨_, .inr (.inr (.inr (.inr ⟨ht, rfl⟩))), ?_⟩
    rcases ht with ht | ht | ht
    · exact wroteP wb sv most bs c w hw hroom 7 12 (by rw [ht]; rfl) (by decide) (by decide) (by omega) h0 h1
    · exact wroteP wb sv most bs c w hw hroom 7 12 (by rw [ht]; rfl) (by decide) (by decide) (by omega) h0 h1
    · exact wroteP wb sv most bs c w hw hroom 1 1 (by rw [ht]; rfl) (by decide) (by decide) (by omega) h0 h1

/-- What Encode leaves. -/
def EncPTo (w : World) (cs : List ConstV) (e : Ending) (w' : World) : Prop :=
  ∃ v' k, e = .returned (.tuple #[v', .int .i64 k]) ∧ Only (fun _ => False) w w' ∧
      ((checkZ cs = 0 ∧ k = 0 ∧ ∃ bs, ConstsB (cs.drop 1) bs ∧ Row w' w.heap.size v' (be2 cs.length ++ bs)) ∨ (checkZ cs ≠ 0 ∧ k = checkZ cs ∧ v' = .slice none 0 0))

set_option maxHeartbeats 4000000 in
set_option maxRecDepth 100000 in
theorem progEncode (v : Value) (cs : List ConstV) (w : World) (hp : Pool w v cs) (hT : Tabs w) (hg : ErrV w) :
    Calls Tryd.prog 11 #[v] w (EncPTo w cs) := by
  have cC := progCheck v cs w hp hT hg
  obtain ⟨ao, cap, rfl, hl1, hl2, h3, h4, h5⟩ := id hp
  have Hp := Lib.hid hp
  have HT := Lib.hid hT
  clear h3 h4 h5 hp hT hg
  by_cases hz : checkZ cs = 0
  · rw [hz] at cC
    obtain ⟨c1, c2, c3, c4⟩ := checkZ_zero hz
    have HZ := Lib.hid hz
    have HC4 := Lib.hid c4
    have CC := Lib.hid cC
    have hn64 : (cs.length : Int) ≤ 1024 := by omega
    have hn1 : (1 : Int) ≤ (cs.length : Int) := by omega
    obtain ⟨b, o, rfl, _⟩ := Pool.at Hp.out c2
    clear hz c4 cC c3
    go_enter Tryd.func11, Tryd.ntmps11
    go_wp2_with (fail)
    refine CC.out.mono ?_
    rintro e w1 ⟨rfl, ho1⟩
    have HO1 := Lib.hid ho1
    clear ho1 CC
    have cN := newWriterOk 264959 w1 (by decide)
    have CN := Lib.hid cN
    clear cN
    go_wp2_with (fail)
    refine CN.out.mono ?_
    rintro e w2 ⟨rfl, rfl⟩
    clear CN
    have hwr := Wr.new w1 264959 (by decide)
    have hf : fitU 2 (cs.length : Int) = true := by rw [show (2 : Int) = ((2 : Nat) : Int) from rfl, fitU_iff 2 (by decide) (by decide) _ (by omega)]; exact decide_eq_true (by simp only [Nat.reduceMul, Int.reducePow]; omega)
    have he : wrErr (fitU 2 (cs.length : Int)) 2 (((264959 : Nat) : Int) - ([] : List Int).length) = 0 := by rw [hf]; rfl
    have cU := wrUint w1.heap.size (.slice none 0 0) 264959 [] 2 (cs.length : Int) _ hwr
    rw [he] at cU
    unfold addU at cU
    rw [if_pos he] at cU
    have CU := Lib.hid cU
    clear hf he cU hwr
    go_wp2_with (fail)
    refine CU.out.mono ?_
    rintro e w3 ⟨rfl, hto⟩
    clear CU
    obtain ⟨sv, hw3, ho3, hs3⟩ := hto
    rw [List.nil_append, show (2 : Int).toNat = 2 from rfl, digs2] at hw3
    have hon3 : Only (fun _ => False) w w3 := (HO1.out.alloc (.cells #[.slice none 0 0, .int .i64 264959, .bool true] 85)).trans ho3 (fun k hk hl => by
      have := HO1.out.size
      rcases hk with rfl | e
      · omega
      · cases e)
    have hsv : ∀ k, sv.ownBlock = some k → w.heap.size ≤ k := fun k hk => by
      have := HO1.out.size
      rcases hs3 k hk with e | e
      · cases e
      · simp at e; omega
    have hwb : w.heap.size ≤ w1.heap.size := HO1.out.size
    have HW3 := Lib.hid hw3
    have HON3 := Lib.hid hon3
    have HSV := Lib.hid hsv
    clear hw3 ho3 hs3 hon3 hsv
    have hcz : (1 : Int) ≤ (cap : Int) := by omega
    by_cases hcap : cap = 1
    · have hlen : cs.length = 1 := by omega
      have hd : ConstsB (cs.drop 1) [] := by
        rw [List.drop_of_length_le (by omega)]; exact .nil
      have HD := Lib.hid hd
      subst hcap
      have HL1 := Lib.hid hlen
      clear hd
      have hq0 : ((cs.length - 1 : Nat) : Int) ≤ 0 := by omega
      clear hlen c1 c2
      go_wp2
      go_loopw [26] (fun i wr => i = .int .i64 0 ∧ w3 = wr) (fun _ _ => 0)
      case atStart => exact ⟨rfl, rfl⟩
      case round =>
        obtain ⟨rfl, rfl⟩ := hrel
        go_wp2_with (fail)
        refine (wrOut w1.heap.size sv 264959 _ _ (by exact HW3.out)).mono ?_
        rintro e w5 ⟨v', rfl, hown, hbel⟩
        have HOWN := Lib.hid hown
        have HBEL := Lib.hid hbel
        clear hown hbel
        go_wp2
        go_ret2
        refine ⟨v', 0, rfl, HON3.out.trans (Only.of_below HBEL.out (fun _ => False)) (fun _ h => h.elim), .inl ⟨HZ.out, rfl, [], HD.out, ?_⟩⟩
        rw [List.append_nil]
        refine owns_base (show Row _ _ v' _ from HOWN.out) (fun k hk => ?_)
        have h1 := Row.ge (show Row _ _ v' _ from HOWN.out) k hk
        have h2 := HON3.out.size
        omega
    · have hcz2 : (1 : Int) < (cap : Int) := by omega
      go_wp2
      go_loopw [26] (fun i wr => ∃ (j : Nat) (sv : Value) (bs : List Int), i = .int .i64 j ∧ j ≤ cs.length - 1 ∧ ConstsB ((cs.drop 1).take j) bs ∧ Wr wr w1.heap.size sv 264959 (be2 cs.length ++ bs) ∧ (∀ k, sv.ownBlock = some k → w.heap.size ≤ k) ∧ Only (fun _ => False) w wr) (fun i _ => cs.length - (intOf i).toNat)
      case atStart => exact ⟨0, sv, [], rfl, Nat.zero_le _, .nil, by rw [List.append_nil]; exact HW3.out, HSV.out, HON3.out⟩
      case round =>
        obtain ⟨j, sv2, bs, rfl, hj, hB, hwr, hs2, hon⟩ := hrel
        by_cases hlt : j < cs.length - 1
        · have hjz : (j : Int) < ((cs.length - 1 : Nat) : Int) := by omega
          have hlen := hB.len
          rw [List.length_take, List.length_drop, Nat.min_eq_left (by omega)] at hlen
          have hpw := Hp.out.only hon (fun _ _ h => h)
          obtain ⟨b', o', e2, hc⟩ := Pool.at hpw (i := j + 1) (by omega)
          injection e2 with e2
          injection e2 with e2 e3
          subst e2 e3
          have hr := hpw.range (i := j + 1) (by omega)
          have hT2 := HT.out.only hon (fun h => h) (fun h => h)
          have h3 := HT.out.lt3
          obtain ⟨k0, k1, k2, k3, k4⟩ := hc
          rw [show o + (j + 1) * 5 = o + 5 + j * 5 by omega] at k0 k1 k2 k3 k4
          have htk : (cs.drop 1).take (j + 1) = (cs.drop 1).take j ++ [cs.getD (j + 1) default] := by
            rw [List.take_succ_eq_append_getElem (by simp; omega)]
            congr 1
            simp [List.getD, show j + 1 < cs.length by omega, Nat.add_comm 1 j]
          have hone := HC4.out (j + 1) (by omega) (by omega)
          have hwW : ∀ o', Wr (wr.alloc o') w1.heap.size sv2 264959 (be2 cs.length ++ bs) := fun o' => hwr.only ((Only.refl (fun _ => False) wr).alloc o') (fun h => h) (fun _ _ h => h)
          have hTW : ∀ o', Tabs (wr.alloc o') := fun o' => hT2.only ((Only.refl (fun _ => False) wr).alloc o') (fun h => h) (fun h => h)
          have hex : ∀ o', _ := fun o' => writeOne cs (cs.getD (j + 1) default) c1 hone hr w1.heap.size sv2 264959 (be2 cs.length ++ bs) (wr.alloc o') (hwW o') (by rw [List.length_append]; have : (be2 (cs.length : Int)).length = 2 := rfl; omega) (hTW o') (by omega) (fun k hk => by have := hs2 k hk; omega)
          have HEX := Lib.hid hex
          have HTK := Lib.hid htk
          have HB := Lib.hid hB
          have HS2 := Lib.hid hs2
          have HON := Lib.hid hon
          have hr0 := hr.r0
          clear hwr hwW hTW hex htk hB hs2 hon hone hr hpw hT2
          generalize cs.getD (j + 1) default = c at *
          obtain ⟨t, x, n, a, bb⟩ := c
          simp only at *
          obtain ⟨bc, hbc, cW⟩ := HEX.out (.cells #[.int .i64 t, .string x, .int .i64 n, .int .i64 a, .int .i64 bb] 45)
          have HBC := Lib.hid hbc
          have CW := Lib.hid cW
          clear hbc cW HEX
          go_wp2_with (fail)
          refine CW.out.mono ?_
          rintro e w5 ⟨rfl, sv3, hw5, ho5, hs5⟩
          have hon5 : Only (fun _ => False) w w5 := (HON.out.alloc (.cells #[.int .i64 t, .string x, .int .i64 n, .int .i64 a, .int .i64 bb] 45)).trans ho5 (fun k hk hl => by
            rcases hk with rfl | e
            · omega
            · have := HS2.out k e; omega)
          have hs5' : ∀ k, sv3.ownBlock = some k → w.heap.size ≤ k := fun k hk => by
            rcases hs5 k hk with e | e
            · exact HS2.out k e
            · have := HON.out.size; simp at e; omega
          have HW5 := Lib.hid hw5
          have HON5 := Lib.hid hon5
          have HS5 := Lib.hid hs5'
          clear hw5 ho5 hs5 hon5 hs5' CW
          go_wp2
          go_roundw
          case rel => exact ⟨j + 1, sv3, bs ++ bc, by go_num, by omega, by rw [HTK.out]; exact .snoc HB.out HBC.out, by rw [← List.append_assoc]; exact HW5.out, HS5.out, HON5.out⟩
          case measure => simp [intOf]; omega
        · have hjn : j = cs.length - 1 := by omega
          rw [hjn, List.take_of_length_le (by simp)] at hB
          have hjz : ((cs.length - 1 : Nat) : Int) ≤ (j : Int) := by omega
          have HWR := Lib.hid hwr
          have HON := Lib.hid hon
          have HB := Lib.hid hB
          clear hwr hon hB hs2 hjn
          go_wp2_with (fail)
          refine (wrOut w1.heap.size sv2 264959 _ _ (by exact HWR.out)).mono ?_
          rintro e w5 ⟨v', rfl, hown, hbel⟩
          have HOWN := Lib.hid hown
          have HBEL := Lib.hid hbel
          clear hown hbel
          go_wp2
          go_ret2
          refine ⟨v', 0, rfl, HON.out.trans (Only.of_below HBEL.out (fun _ => False)) (fun _ h => h.elim), .inl ⟨HZ.out, rfl, bs, HB.out, ?_⟩⟩
          refine owns_base (show Row _ _ v' _ from HOWN.out) (fun k hk => ?_)
          have h1 := Row.ge (show Row _ _ v' _ from HOWN.out) k hk
          have h2 := HON.out.size
          omega
  · have HZ := Lib.hid hz
    have hkb : (checkZ cs == 0) = false := by simpa using hz
    have hkc : (checkZ cs != 0) = true := by simpa using hz
    clear hz
    go_enter Tryd.func11, Tryd.ntmps11
    go_wp2_with (fail)
    refine cC.mono ?_
    rintro e w1 ⟨rfl, ho1⟩
    have HO1 := Lib.hid ho1
    clear ho1 cC
    go_wp2
    go_ret2
    exact ⟨_, _, rfl, HO1.out, .inr ⟨HZ.out, rfl, rfl⟩⟩
end Go.Proofs.YtpiandkiijienaaDoor
