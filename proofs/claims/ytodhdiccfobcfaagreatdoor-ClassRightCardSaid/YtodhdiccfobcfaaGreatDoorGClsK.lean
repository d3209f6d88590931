/- The program writes the parts of a class: numbers, lists, fields. Room for all that is written. The program writes the fields and the methods of a class. Room for all that is written. The program writes a method's code. Room for all that is written. -/
import Derived.Test.YtodhdiccfobcfaaGreatDoorGClsP
import Derived.Test.YtodhdiccfobcfaaGreatDoorGClsG
import Derived.Test.YtodhdiccfobcfaaGreatDoorGPolE
import Derived.Deep.RegionHeld3
namespace Go.Proofs.YtodhdiccfobcfaaGreatDoor
open Go.RowKit
set_option linter.unusedVariables false
set_option linter.unusedSimpArgs false

/-- A writer that is new since w0. -/
structure WB (w0 w : World) (wb : Nat) (sv : Value) (bs : List Int) : Prop where
  wr : Wr w wb sv 1048576 bs
  on : Only (fun _ => False) w0 w
  hw : w0.heap.size ≤ wb
  hs : ∀ k, sv.ownBlock = some k → w0.heap.size ≤ k
theorem WB.only {w0 w w' : World} {wb : Nat} {sv : Value} {bs : List Int} (h : WB w0 w wb sv bs) (ho : Only (fun _ => False) w w') : WB w0 w' wb sv bs :=
  ⟨h.wr.only ho (fun h => h) (fun _ _ h => h), h.on.trans ho (fun _ h => h.elim), h.hw, h.hs⟩
theorem WB.apart {w0 w : World} {wb : Nat} {sv : Value} {bs : List Int} (h : WB w0 w wb sv bs) {k : Nat} (hk : k < w0.heap.size) : ¬ WrS wb sv k := by
  rintro (rfl | e)
  · have := h.hw; omega
  · have := h.hs _ e; omega
theorem WB.below {w0 w : World} {wb : Nat} {sv : Value} {bs : List Int} (h : WB w0 w wb sv bs) {k : Nat} (hk : w.heap.size ≤ k) : ¬ WrS wb sv k := by
  rintro (rfl | e)
  · have := h.wr.lt.1; omega
  · have := h.wr.lt.2 _ e; omega
/-- What is left of a writer behind a call that wrote. -/
theorem WB.to {w0 w w' : World} {wb : Nat} {sv : Value} {bs bs' : List Int} (h : WB w0 w wb sv bs) (ht : WrTo w wb sv 1048576 bs' w') :
    ∃ sv', WB w0 w' wb sv' bs' ∧ Only (WrS wb sv) w w' ∧ ∀ k, sv'.ownBlock = some k → sv.ownBlock = some k ∨ w.heap.size ≤ k := by
  obtain ⟨sv', h1, h2, h3⟩ := ht
  refine ⟨sv', ⟨h1, h.on.trans h2 (fun k hk hl => absurd hk (h.apart hl)), h.hw, fun k hk => ?_⟩, h2, h3⟩
  rcases h3 k hk with e | e
  · exact h.hs k e
  · exact Nat.le_trans h.on.size e
theorem WrTo.next {w wc wd we : World} {wb : Nat} {sv svc : Value} {most : Nat} {bs : List Int} (ho : Only (WrS wb sv) w wc) (hs : ∀ k, svc.ownBlock = some k → sv.ownBlock = some k ∨ w.heap.size ≤ k)
    (hd : Only (fun _ => False) wc wd) (h2 : WrTo wd wb svc most bs we) : WrTo w wb sv most bs we := WrTo.trans (ho.trans hd (fun _ h => h.elim)) hs h2
theorem WrTo.from {w wd we : World} {wb : Nat} {sv : Value} {most : Nat} {bs : List Int} (hd : Only (fun _ => False) w wd) (h2 : WrTo wd wb sv most bs we) : WrTo w wb sv most bs we :=
  WrTo.next (Only.refl _ _) (fun _ h => .inl h) hd h2

theorem uint2 (wb : Nat) (sv : Value) (bs : List Int) (x : Int) (w : World) (h : Wr w wb sv 1048576 bs) (h0 : 0 ≤ x) (h1 : x ≤ 65535) (hroom : bs.length + 2 ≤ 1048576) :
    Calls Tryz.prog 40 #[.pointer (some ⟨wb, 0, none⟩), .int .i64 2, .int .u64 x] w fun e w' => e = .returned (.int .i64 0) ∧ WrTo w wb sv 1048576 (bs ++ be2 x) w' := by
  have hf : fitU 2 x = true := by rw [show (2 : Int) = ((2 : Nat) : Int) from rfl, fitU_iff 2 (by decide) (by decide) x h0]; exact decide_eq_true (by simp only [Nat.reduceMul, Int.reducePow]; omega)
  have he : wrErr (fitU 2 x) 2 (((1048576 : Nat) : Int) - bs.length) = 0 := by unfold wrErr; rw [if_neg (by simp [hf]), if_neg (by omega)]
  refine (wrUint wb sv 1048576 bs 2 x w h).mono fun e w' hh => ?_
  rw [he] at hh
  refine ⟨hh.1, ?_⟩
  have := hh.2
  unfold addU at this
  rw [he, if_pos rfl, show (2 : Int).toNat = 2 from rfl, digs2] at this
  exact this
theorem uint4 (wb : Nat) (sv : Value) (bs : List Int) (x : Int) (w : World) (h : Wr w wb sv 1048576 bs) (h0 : 0 ≤ x) (h1 : x ≤ 4294967295) (hroom : bs.length + 4 ≤ 1048576) :
    Calls Tryz.prog 40 #[.pointer (some ⟨wb, 0, none⟩), .int .i64 4, .int .u64 x] w fun e w' => e = .returned (.int .i64 0) ∧ WrTo w wb sv 1048576 (bs ++ be4 x) w' := by
  have hf : fitU 4 x = true := by rw [show (4 : Int) = ((4 : Nat) : Int) from rfl, fitU_iff 4 (by decide) (by decide) x h0]; exact decide_eq_true (by simp only [Nat.reduceMul, Int.reducePow]; omega)
  have he : wrErr (fitU 4 x) 4 (((1048576 : Nat) : Int) - bs.length) = 0 := by unfold wrErr; rw [if_neg (by simp [hf]), if_neg (by omega)]
  refine (wrUint wb sv 1048576 bs 4 x w h).mono fun e w' hh => ?_
  rw [he] at hh
  refine ⟨hh.1, ?_⟩
  have := hh.2
  unfold addU at this
  rw [he, if_pos rfl, show (4 : Int).toNat = 4 from rfl, digs4] at this
  exact this
theorem bytesW (wb : Nat) (sv : Value) (bs : List Int) (v : Value) (zs : List Int) (w : World) (h : Wr w wb sv 1048576 bs) (hb : Bytes w v zs) (hroom : bs.length + zs.length ≤ 1048576) :
    Calls Tryz.prog 42 #[.pointer (some ⟨wb, 0, none⟩), v] w fun e w' => e = .returned (.int .i64 0) ∧ WrTo w wb sv 1048576 (bs ++ zs) w' := by
  have he : wrErr true zs.length (((1048576 : Nat) : Int) - bs.length) = 0 := by unfold wrErr; rw [if_neg (by simp), if_neg (by omega)]
  refine (wrBytes wb sv 1048576 bs v zs w h hb).mono fun e w' hh => ?_
  rw [he] at hh
  refine ⟨hh.1, ?_⟩
  have := hh.2
  unfold addB at this
  rw [if_pos rfl] at this
  exact this

set_option maxHeartbeats 4000000 in
set_option maxRecDepth 100000 in
theorem shortsP (w0 w : World) (wb : Nat) (sv : Value) (bs : List Int) (ap : Option Addr) (np cp : Nat) (ns : List Int) (h : WB w0 w wb sv bs) (hr : ∀ n ∈ ns, 0 ≤ n ∧ n ≤ 65535) (hroom : bs.length + 2 * ns.length ≤ 1048576)
    (N : Nat) (hN : ns.length = N) (cells : Array Value) (hc : cells = (ns.map (Value.int .i64)).toArray) (B : Nat) (hB : B = w.heap.size) :
    Calls Tryz.prog 19 #[.agg #[.pointer (some ⟨wb, 0, none⟩), .slice ap np cp], .slice (some ⟨B, 0, none⟩) N N] (w.alloc (.cells cells 3)) fun e w' =>
      e = .returned (.tuple #[]) ∧ WrTo (w.alloc (.cells cells 3)) wb sv 1048576 (bs ++ ns.flatMap be2) w' := by
  subst hN hc hB
  have hlt := h.wr.lt
  have ho1 := (Only.refl (fun _ => False) w).alloc (.cells (ns.map (Value.int .i64)).toArray 3)
  have hb1 := heap_alloc_new w (.cells (ns.map (Value.int .i64)).toArray 3)
  have NB1 := Lib.hid (h.below (k := w.heap.size) (Nat.le_refl _))
  have hs1 : (w.alloc (.cells (ns.map (Value.int .i64)).toArray 3)).heap.size = w.heap.size + 1 := by simp
  generalize w.alloc (.cells (ns.map (Value.int .i64)).toArray 3) = W at *
  have ho2 := (Only.refl (fun _ => False) W).alloc (.cells #[.pointer (some ⟨wb, 0, none⟩), .slice ap np cp] 47)
  have hb2 := heap_alloc_new W (.cells #[.pointer (some ⟨wb, 0, none⟩), .slice ap np cp] 47)
  have hw2 := (h.only ho1).only ho2
  have NB2 := Lib.hid ((h.only ho1).below (k := W.heap.size) (Nat.le_refl _))
  have hnl : ns.length ≤ 524288 := by omega
  have HW2 := Lib.hid hw2
  have HO2 := Lib.hid ho2
  have HB2 := Lib.hid hb2
  have HB1 := Lib.hid (ho2.heap hb1 (fun h => h))
  have HR := Lib.hid hr
  clear h ho1 hb1 hb2 ho2 hw2 hr
  go_enter Tryz.func19, Tryz.ntmps19
  go_wp2
  go_loopw [8] (fun i wr => ∃ j : Nat, j ≤ ns.length ∧ i = .int .i64 j ∧ WrTo (W.alloc (.cells #[.pointer (some ⟨wb, 0, none⟩), .slice ap np cp] 47)) wb sv 1048576 (bs ++ (ns.take j).flatMap be2) wr) (fun i _ => ns.length - (intOf i).toNat)
  case atStart => exact ⟨0, Nat.zero_le _, rfl, by simpa using HW2.out.wr.to⟩
  case round =>
    obtain ⟨j, hj, rfl, hto⟩ := hrel
    obtain ⟨svc, hwb, hon, hsv⟩ := HW2.out.to hto
    have HWB := Lib.hid hwb
    have HON := Lib.hid hon
    have HSV := Lib.hid hsv
    have HTO := Lib.hid hto
    have hbl : (bs ++ (ns.take j).flatMap be2).length = bs.length + 2 * j := by
      have : ∀ l : List Int, (l.flatMap be2).length = 2 * l.length := fun l => by
        induction l with
        | nil => rfl
        | cons a r ih => rw [List.flatMap_cons, List.length_append, ih]; simp [be2]; omega
      rw [List.length_append, this, List.length_take, Nat.min_eq_left hj]
    by_cases hlt2 : j < ns.length
    · have hjz : (j : Int) < (ns.length : Int) := by omega
      have k1 := hon.heap HB1.out NB1.out
      have k2 := hon.heap HB2.out NB2.out
      have q0 := cell_blk k2 0
      rw [hs1] at q0
      simp at q0
      have qj : wr.cell? ⟨w.heap.size, j, none⟩ = some (.int .i64 (ns.getD j 0)) := by
        rw [cell_blk k1 j]
        simp [List.getD, hlt2]
      have hm : ns.getD j 0 ∈ ns := by simp [List.getD, hlt2]
      obtain ⟨r0, r1⟩ := HR.out _ hm
      have htk : ns.take (j + 1) = ns.take j ++ [ns.getD j 0] := by
        rw [List.take_succ_eq_append_getElem hlt2]; simp [List.getD, hlt2]
      have HTK := Lib.hid htk
      have hwu : IntKind.u64.wrap (ns.getD j 0) = ns.getD j 0 := by rw [wrapU]; omega
      generalize ns.getD j 0 = x at *
      have cU := uint2 wb svc _ x wr hwb.wr r0 r1 (by rw [hbl]; omega)
      have CU := Lib.hid cU
      clear hwb hon hsv hto k1 k2 hm htk cU hbl
      go_wp2_with (fail)
      refine CU.out.mono ?_
      rintro e w3 ⟨rfl, hto3⟩
      have HT3 := Lib.hid (WrTo.next HON.out HSV.out (Only.refl _ _) hto3)
      clear hto3
      go_wp2
      go_roundw
      case rel => exact ⟨j + 1, by omega, by go_num, by rw [HTK.out, List.flatMap_append, ← List.append_assoc]; simpa using HT3.out⟩
      case measure => simp [intOf]; omega
    · have hjn : j = ns.length := by omega
      have hjz : (ns.length : Int) ≤ (j : Int) := by omega
      have HF := Lib.hid (show WrTo W wb sv 1048576 (bs ++ ns.flatMap be2) wr from WrTo.from HO2.out (by rw [hjn, List.take_of_length_le (Nat.le_refl _)] at hto; exact hto))
      clear hwb hon hsv hto hlt2 hjn
      go_wp2
      go_end0
      exact ⟨rfl, HF.out⟩

set_option maxHeartbeats 4000000 in
set_option maxRecDepth 100000 in
theorem writeList (w0 w : World) (wb : Nat) (sv : Value) (bs : List Int) (ap : Option Addr) (np cp : Nat) (v : Value) (zs : List Int) (h : WB w0 w wb sv bs) (hb : Bytes w v zs) (hap : ∀ k, v.ownBlock = some k → zs ≠ [] → ¬ WrS wb sv k) (hroom : bs.length + (4 + zs.length) ≤ 1048576) :
    Calls Tryz.prog 45 #[.agg #[.pointer (some ⟨wb, 0, none⟩), .slice ap np cp], v] w fun e w' =>
      e = .returned (.tuple #[]) ∧ WrTo w wb sv 1048576 (bs ++ (be4 zs.length ++ zs)) w' := by
  obtain ⟨av, cv, rfl, hv1, hv2, _, _, _⟩ := id hb
  unfold maxLen at hv2
  have hlt := h.wr.lt
  have ho2 := (Only.refl (fun _ => False) w).alloc (.cells #[.pointer (some ⟨wb, 0, none⟩), .slice ap np cp] 47)
  have hb2 := heap_alloc_new w (.cells #[.pointer (some ⟨wb, 0, none⟩), .slice ap np cp] 47)
  have hw2 := h.only ho2
  have cU := uint4 wb sv bs zs.length _ hw2.wr (by omega) (by omega) (by omega)
  have hwu : IntKind.u64.wrap (zs.length : Int) = (zs.length : Int) := by rw [wrapU]; omega
  have CU := Lib.hid cU
  have HW2 := Lib.hid hw2
  have HO2 := Lib.hid ho2
  have HB2 := Lib.hid hb2
  have HB := Lib.hid (hb.only ho2 (fun _ _ _ h => h))
  have HAP := Lib.hid hap
  have HNW := Lib.hid (h.below (k := w.heap.size) (Nat.le_refl _))
  clear h ho2 hb2 hw2 cU hb hap
  go_enter Tryz.func45, Tryz.ntmps45
  go_wp2_with (fail)
  refine CU.out.mono ?_
  rintro e w1 ⟨rfl, hto⟩
  obtain ⟨svc, hwb, hon, hsv⟩ := HW2.out.to hto
  have q0 := cell_blk (hon.heap HB2.out HNW.out) 0
  simp at q0
  have cB := bytesW wb svc _ _ zs w1 hwb.wr (HB.out.only hon HAP.out) (by rw [List.length_append]; have : (be4 (zs.length : Int)).length = 4 := rfl; omega)
  have CB := Lib.hid cB
  have HON := Lib.hid hon
  have HSV := Lib.hid hsv
  clear hto hwb hon hsv cB CU
  go_wp2_with (fail)
  refine CB.out.mono ?_
  rintro e w2 ⟨rfl, hto2⟩
  have HT := Lib.hid (WrTo.from HO2.out (WrTo.next HON.out HSV.out (Only.refl _ _) hto2))
  clear hto2
  go_wp2
  go_end0
  exact ⟨rfl, by rw [← List.append_assoc]; exact HT.out⟩
end Go.Proofs.YtodhdiccfobcfaaGreatDoor
namespace Go.Proofs.YtodhdiccfobcfaaGreatDoor
open Go.RowKit
set_option linter.unusedVariables false
set_option linter.unusedSimpArgs false

theorem four_be2 (a b c d : Int) : [a, b, c, d].flatMap be2 = be2 a ++ (be2 b ++ (be2 c ++ be2 d)) := by simp [List.flatMap]
theorem fieldB_len (l : List FieldV) : (l.flatMap fieldB).length = 8 * l.length := by
  induction l with
  | nil => rfl
  | cons a r ih => rw [List.flatMap_cons, List.length_append, ih]; simp [fieldB, be2]; omega
def InU16 (x : Int) : Prop := 0 ≤ x ∧ x ≤ 65535
def FieldS (f : FieldV) : Prop := InU16 f.flags ∧ InU16 f.name ∧ InU16 f.desc
def TrapS (t : TrapV) : Prop := InU16 t.from_ ∧ InU16 t.to_ ∧ InU16 t.hand ∧ InU16 t.type
theorem u16_0 : InU16 0 := ⟨by decide, by decide⟩
theorem u16_1 : InU16 1 := ⟨by decide, by decide⟩
theorem all4 {a b c d : Int} (ha : InU16 a) (hb : InU16 b) (hc : InU16 c) (hd : InU16 d) : ∀ n ∈ [a, b, c, d], 0 ≤ n ∧ n ≤ 65535 := by
  intro n hn
  simp only [List.mem_cons, List.mem_nil_iff, or_false] at hn
  rcases hn with rfl | rfl | rfl | rfl <;> assumption
theorem all1 {a : Int} (ha : InU16 a) : ∀ n ∈ [a], 0 ≤ n ∧ n ≤ 65535 := by
  intro n hn
  simp only [List.mem_cons, List.mem_nil_iff, or_false] at hn
  rcases hn with rfl; assumption

set_option maxHeartbeats 4000000 in
set_option maxRecDepth 100000 in
theorem writeFields (w0 w : World) (wb : Nat) (sv : Value) (bs : List Int) (ap : Option Addr) (np cp : Nat) (vf : Value) (fs : List FieldV) (h : WB w0 w wb sv bs) (hf : Fields w0 vf fs) (hl : fs.length ≤ 65535) (hr : ∀ f ∈ fs, FieldS f) (hroom : bs.length + (2 + 8 * fs.length) ≤ 1048576) :
    Calls Tryz.prog 17 #[.agg #[.pointer (some ⟨wb, 0, none⟩), .slice ap np cp], vf] w fun e w' =>
      e = .returned (.tuple #[]) ∧ WrTo w wb sv 1048576 (bs ++ (be2 fs.length ++ fs.flatMap fieldB)) w' := by
  obtain ⟨af, cf, rfl, hf1, hf2⟩ := hf.1.slice
  have ho2 := (Only.refl (fun _ => False) w).alloc (.cells #[.pointer (some ⟨wb, 0, none⟩), .slice ap np cp] 47)
  have hb2 := heap_alloc_new w (.cells #[.pointer (some ⟨wb, 0, none⟩), .slice ap np cp] 47)
  have hw2 := h.only ho2
  have cS := shortsP w0 _ wb sv bs ap np cp [(fs.length : Int)] hw2 (all1 ⟨by omega, by omega⟩) (by simp only [List.length_cons, List.length_nil]; omega) 1 rfl #[.int .i64 fs.length] rfl (w.heap.size + 1) (by simp)
  have CS := Lib.hid cS
  have HW2 := Lib.hid hw2
  have HO2 := Lib.hid ho2
  have HB2 := Lib.hid hb2
  have HF := Lib.hid hf
  have HR := Lib.hid hr
  have NB := Lib.hid (h.below (k := w.heap.size) (Nat.le_refl _))
  clear h ho2 hb2 hw2 cS hf hr
  go_enter Tryz.func17, Tryz.ntmps17
  go_wp2_with (fail)
  refine CS.out.mono ?_
  rintro e w1 ⟨rfl, hto⟩
  have HT1 := Lib.hid (show WrTo (w.alloc (.cells #[.pointer (some ⟨wb, 0, none⟩), .slice ap np cp] 47)) wb sv 1048576 (bs ++ be2 fs.length) w1 from WrTo.from ((Only.refl _ _).alloc _) (by simpa [List.flatMap] using hto))
  clear hto CS
  go_wp2
  go_loopw [13] (fun i wr => ∃ j : Nat, j ≤ fs.length ∧ i = .int .i64 j ∧ WrTo (w.alloc (.cells #[.pointer (some ⟨wb, 0, none⟩), .slice ap np cp] 47)) wb sv 1048576 (bs ++ (be2 fs.length ++ (fs.take j).flatMap fieldB)) wr) (fun i _ => fs.length - (intOf i).toNat)
  case atStart => exact ⟨0, Nat.zero_le _, rfl, by simpa using HT1.out⟩
  case round =>
    obtain ⟨j, hj, rfl, hto⟩ := hrel
    obtain ⟨svc, hwb, hon, hsv⟩ := HW2.out.to hto
    have HON := Lib.hid hon
    have HSV := Lib.hid hsv
    have hbl : (bs ++ (be2 fs.length ++ (fs.take j).flatMap fieldB)).length = bs.length + (2 + 8 * j) := by
      have e2 : (be2 (fs.length : Int)).length = 2 := rfl
      rw [List.length_append, List.length_append, fieldB_len, List.length_take, Nat.min_eq_left hj, e2]
    by_cases hlt : j < fs.length
    · have hjz : (j : Int) < (fs.length : Int) := by omega
      obtain ⟨b, o, e2, hat⟩ := HF.out.1.at hlt
      subst e2
      obtain ⟨k0, k1, k2⟩ := hat.only hwb.on
      obtain ⟨s0, s1, s2⟩ := HR.out _ (getD_mem hlt)
      have HTK := Lib.hid (take_snoc hlt)
      have q := hon.heap HB2.out NB.out
      obtain ⟨f, hfe⟩ : ∃ f, fs.getD j default = f := ⟨_, rfl⟩
      rw [hfe] at HTK k0 k1 k2 s0 s1 s2
      obtain ⟨fl, nm, ds⟩ := f
      simp only at k0 k1 k2 s0 s1 s2
      have hoa := (Only.refl (fun _ => False) wr).alloc (.cells #[.int .i64 fl, .int .i64 nm, .int .i64 ds] 59)
      have q2 := hoa.heap q (fun h => h)
      have q0 := cell_blk q2 0
      have q1 := cell_blk q2 1
      simp at q0 q1
      have cS := shortsP w0 _ wb svc _ ap np cp [fl, nm, ds, 0] (hwb.only hoa) (all4 s0 s1 s2 u16_0) (by rw [hbl]; simp only [List.length_cons, List.length_nil]; omega) 4 rfl #[.int .i64 fl, .int .i64 nm, .int .i64 ds, .int .i64 0] rfl (wr.heap.size + 1) (by simp)
      have CS := Lib.hid cS
      have HOA := Lib.hid hoa
      clear hat hfe q q2 hwb hon hsv hto hoa cS hbl s0 s1 s2
      go_wp2_with (fail)
      refine CS.out.mono ?_
      rintro e w3 ⟨rfl, hto3⟩
      have HT3 := Lib.hid (WrTo.next HON.out HSV.out (HOA.out.alloc _) hto3)
      clear hto3 CS
      go_wp2
      go_roundw
      case rel => exact ⟨j + 1, by omega, by go_num, by
        have := HT3.out
        rw [four_be2] at this
        rw [HTK.out, List.flatMap_append]
        simpa [List.flatMap, fieldB, List.append_assoc] using this⟩
      case measure => simp [intOf]; omega
    · have hjn : j = fs.length := by omega
      have hjz : (fs.length : Int) ≤ (j : Int) := by omega
      have HE := Lib.hid (show WrTo w wb sv 1048576 (bs ++ (be2 fs.length ++ fs.flatMap fieldB)) wr from WrTo.from HO2.out (by rw [hjn, List.take_of_length_le (Nat.le_refl _)] at hto; exact hto))
      clear hwb hon hsv hto hlt hjn hbl
      go_wp2
      go_end0
      exact ⟨rfl, HE.out⟩
end Go.Proofs.YtodhdiccfobcfaaGreatDoor
namespace Go.Proofs.YtodhdiccfobcfaaGreatDoor
open Go.RowKit
set_option linter.unusedVariables false
set_option linter.unusedSimpArgs false

theorem two_be2 (a b : Int) : [a, b].flatMap be2 = be2 a ++ be2 b := by simp [List.flatMap]
theorem one_be2 (a : Int) : [a].flatMap be2 = be2 a := by simp [List.flatMap]
theorem all2 {a b : Int} (ha : InU16 a) (hb : InU16 b) : ∀ n ∈ [a, b], 0 ≤ n ∧ n ≤ 65535 := by
  intro n hn
  simp only [List.mem_cons, List.mem_nil_iff, or_false] at hn
  rcases hn with rfl | rfl <;> assumption
theorem TrapP.small {cs : List ConstV} {n : Nat} {t : TrapV} (h : TrapP cs n t) (hl : cs.length ≤ 1024) (hn : n ≤ 4096) : TrapS t := by
  obtain ⟨t1, t2, t3, t4, t5, t6⟩ := h
  refine ⟨⟨by omega, by omega⟩, ⟨by omega, by omega⟩, ⟨by omega, by omega⟩, ?_⟩
  rcases t6 with t6 | t6
  · exact ⟨by omega, by omega⟩
  · have := classZ_lt t6 hl; exact ⟨by omega, by omega⟩
theorem codeB_len' (cs : List ConstV) (m : MethodV) : (codeB cs m).length = 10 + m.code.length + 8 * m.traps.length + (mapsB cs m.maps).length := by
  unfold codeB
  simp only [List.length_append, trapB_len]
  have e2 : ∀ x, (be2 x).length = 2 := fun _ => rfl
  have e4 : ∀ x, (be4 x).length = 4 := fun _ => rfl
  simp only [e2, e4]
  omega
theorem newWriterC (ap : Option Addr) (np cp : Nat) (w : World) :
    Calls Tryz.prog 15 #[.slice ap np cp] w fun e w' => e = .returned (.agg #[.pointer (some ⟨w.heap.size + 1, 0, none⟩), .slice ap np cp]) ∧ WB w w' (w.heap.size + 1) (.slice none 0 0) [] := by
  have cN := newWriterOk 1048576 (w.alloc (.cells #[.pointer none, .slice none 0 0] 47)) (by decide)
  have CN := Lib.hid cN
  clear cN
  go_enter Tryz.func15, Tryz.ntmps15
  go_wp2_with (fail)
  refine CN.out.mono ?_
  rintro e w1 ⟨rfl, rfl⟩
  have hs : (w.alloc (.cells #[.pointer none, .slice none 0 0] 47)).heap.size = w.heap.size + 1 := by simp
  have hb := ((Only.refl (fun _ => False) (w.alloc (.cells #[.pointer none, .slice none 0 0] 47))).alloc (.cells #[.slice none 0 0, .int .i64 1048576, .bool true] 99)).heap (heap_alloc_new w (.cells #[.pointer none, .slice none 0 0] 47)) (fun h => h)
  have hn := Wr.new (w.alloc (.cells #[.pointer none, .slice none 0 0] 47)) 1048576 (by decide)
  rw [hs] at hn
  have ho := ((Only.refl (fun _ => False) w).alloc (.cells #[.pointer none, .slice none 0 0] 47)).alloc (.cells #[.slice none 0 0, .int .i64 1048576, .bool true] 99)
  have q0 : ((w.alloc (.cells #[.pointer none, .slice none 0 0] 47)).alloc (.cells #[.slice none 0 0, .int .i64 1048576, .bool true] 99)).cell? ⟨w.heap.size, 0, none⟩ = some (.pointer none) := by rw [cell_blk hb]; rfl
  have q1 : ((w.alloc (.cells #[.pointer none, .slice none 0 0] 47)).alloc (.cells #[.slice none 0 0, .int .i64 1048576, .bool true] 99)).cell? ⟨w.heap.size, 1, none⟩ = some (.slice none 0 0) := by rw [cell_blk hb]; rfl
  have f0 := frozen_blk hb 0
  have f1 := frozen_blk hb 1
  have HN := Lib.hid hn
  have HO := Lib.hid ho
  have hnu : ((1048576 : Nat) : Int) = 1048576 := rfl
  rw [hnu] at HN
  generalize hW : (w.alloc (.cells #[.pointer none, .slice none 0 0] 47)).alloc (.cells #[.slice none 0 0, .int .i64 1048576, .bool true] 99) = W1 at *
  clear hb hn ho hnu
  go_wp2
  refine bodyPost_ret (v := .agg #[.pointer (some ⟨w.heap.size + 1, 0, none⟩), .slice ap np cp]) (by simp [results, Tryz.results15, go_sem, q0, q1, f0, f1]) rfl ?_
  refine ⟨rfl, ⟨(HN.out.only (((Only.refl (fun k => k = w.heap.size) W1).setCell (fun _ => rfl) _).setCell (fun _ => rfl) _) (by omega) (fun k hk => by simp [Value.ownBlock] at hk)), ?_, by omega, fun k hk => by simp [Value.ownBlock] at hk⟩⟩
  exact (HO.out.setCell (fun hl => by simp at hl) _).setCell (fun hl => by simp at hl) _

set_option maxHeartbeats 8000000 in
set_option maxRecDepth 100000 in
theorem writeCode (w0 w : World) (wb : Nat) (sv : Value) (bs : List Int) (ap : Option Addr) (cp : Nat) (cs : List ConstV) (m : MethodV) (vc vt vm : Value) (h : WB w0 w wb sv bs) (hp : Pool w0 (.slice ap cs.length cp) cs) (hbare : Bare cs) (hl : cs.length ≤ 1024)
    (hi : Inside w0 m vc vt vm) (hm : MethodP cs m) (htl : m.traps.length ≤ 64) (hroom : bs.length + (codeB cs m).length ≤ 1048576) :
    Calls Tryz.prog 44 #[.agg #[.pointer (some ⟨wb, 0, none⟩), .slice ap cs.length cp], .agg #[.int .i64 m.flags, .int .i64 m.name, .int .i64 m.desc, .int .i64 m.stack, .int .i64 m.locals, vc, vt, vm]] w fun e w' =>
      e = .returned (.tuple #[]) ∧ WrTo w wb sv 1048576 (bs ++ codeB cs m) w' := by
  have hcl := codeB_len' cs m
  obtain ⟨hc, ht, hmp⟩ := hi
  obtain ⟨ac, cc, rfl, hc1, hc2, _, _, _⟩ := id hc
  obtain ⟨am, cm, rfl, hm1, hm2, _, _, _⟩ := id hmp
  obtain ⟨at_, ct, rfl, ht1, ht2⟩ := ht.1.slice
  obtain ⟨fl, nm, ds, st, lo, code, traps, maps⟩ := m
  obtain ⟨⟨_, _, _, h3, h4, h5, h6⟩, ⟨h7, h8, h9, h10, h11⟩, h12⟩ := hm
  simp only at *
  unfold maxLen at hc2 hm2
  obtain ⟨np, hnp⟩ : ∃ np, cs.length = np := ⟨_, rfl⟩
  have hpl : maps ≠ [] → InU16 (placeOf cs mapsT) ∧ idxZ cs mapsT = placeOf cs mapsT := fun hne => by
    have h0 := h11 (List.length_pos_iff.2 hne)
    have := textZ_lt (by rw [placeOf_found h0]) hl
    exact ⟨⟨by omega, by omega⟩, by unfold idxZ; rw [if_neg h0]⟩
  have cPL := fun w' (ho : Only (fun _ => False) w0 w') => progPlace _ cs mapsT w' (hp.only ho (fun _ _ h => h)) hbare
  rw [hnp] at cPL
  rw [hnp]
  have ho2 := ((Only.refl (fun _ => False) w).alloc (.cells #[.pointer (some ⟨wb, 0, none⟩), .slice ap np cp] 47)).alloc (.cells #[.int .i64 fl, .int .i64 nm, .int .i64 ds, .int .i64 st, .int .i64 lo, .slice ac code.length cc, .slice at_ traps.length ct, .slice am maps.length cm] 62)
  have hb1 := ((Only.refl (fun _ => False) _).alloc (.cells #[.int .i64 fl, .int .i64 nm, .int .i64 ds, .int .i64 st, .int .i64 lo, .slice ac code.length cc, .slice at_ traps.length ct, .slice am maps.length cm] 62)).heap (heap_alloc_new w (.cells #[.pointer (some ⟨wb, 0, none⟩), .slice ap np cp] 47)) (fun h => h)
  have hb2 := heap_alloc_new (w.alloc (.cells #[.pointer (some ⟨wb, 0, none⟩), .slice ap np cp] 47)) (.cells #[.int .i64 fl, .int .i64 nm, .int .i64 ds, .int .i64 st, .int .i64 lo, .slice ac code.length cc, .slice at_ traps.length ct, .slice am maps.length cm] 62)
  have hs1 : (w.alloc (.cells #[.pointer (some ⟨wb, 0, none⟩), .slice ap np cp] 47)).heap.size = w.heap.size + 1 := by simp
  rw [hs1] at hb2
  have hw2 := h.only ho2
  have NB1 := Lib.hid (h.below (k := w.heap.size) (Nat.le_refl _))
  have NB2 := Lib.hid (h.below (k := w.heap.size + 1) (by omega))
  have cS := shortsP w0 _ wb sv bs ap np cp [st, lo] hw2 (all2 ⟨h3, by omega⟩ ⟨h5, by omega⟩) (by simp only [List.length_cons, List.length_nil]; omega) 2 rfl #[.int .i64 st, .int .i64 lo] rfl (w.heap.size + 2) (by simp)
  have CS := Lib.hid cS
  have HW := Lib.hid hw2
  have HO2 := Lib.hid ho2
  have HB1 := Lib.hid hb1
  have HB2 := Lib.hid hb2
  have HC := Lib.hid hc
  have HT := Lib.hid ht
  have HM := Lib.hid hmp
  have HR := Lib.hid (fun t hm => TrapP.small (h12 t hm) hl h8)
  have HPL := Lib.hid hpl
  have CPL := Lib.hid cPL
  have AP := Lib.hid (fun k hk => h.apart (k := k) hk)
  have HCL := Lib.hid hcl
  clear h ho2 hb1 hb2 hw2 cS hc ht hmp h12 hpl cPL hp hbare hcl hs1 h10 h11 hnp
  go_enter Tryz.func44, Tryz.ntmps44
  go_wp2_with (fail)
  refine CS.out.mono ?_
  rintro e w1 ⟨rfl, hto⟩
  have hT1 : WrTo ((w.alloc (.cells #[.pointer (some ⟨wb, 0, none⟩), .slice ap np cp] 47)).alloc (.cells #[.int .i64 fl, .int .i64 nm, .int .i64 ds, .int .i64 st, .int .i64 lo, .slice ac code.length cc, .slice at_ traps.length ct, .slice am maps.length cm] 62)) wb sv 1048576 (bs ++ (be2 st ++ be2 lo)) w1 := WrTo.from ((Only.refl _ _).alloc _) (by rw [two_be2] at hto; exact hto)
  have HT1 := Lib.hid hT1
  obtain ⟨svc, hwb, hon, hsv⟩ := HW.out.to hT1
  have p1 := hon.heap HB1.out NB1.out
  have p2 := hon.heap HB2.out NB2.out
  have q0 := cell_blk p1 0
  have q1 := cell_blk p1 1
  have r5 := cell_blk p2 5
  simp at q0 q1 r5
  have cL := writeList w0 _ wb svc _ ap np cp _ code hwb (HC.out.only hwb.on (fun _ _ _ h => h)) (fun k hk hz => hwb.apart (HC.out.lt k hk hz)) (by
    have e2 : ∀ x : Int, (be2 x).length = 2 := fun _ => rfl
    have := HCL.out
    simp only [List.length_append, e2] at *
    omega)
  have CL := Lib.hid cL
  have HON := Lib.hid hon
  have HSV := Lib.hid hsv
  clear hto hT1 hwb hon hsv p1 p2 cL CS
  go_wp2_with (fail)
  refine CL.out.mono ?_
  rintro e w2 ⟨rfl, hto⟩
  have hT2 : WrTo ((w.alloc (.cells #[.pointer (some ⟨wb, 0, none⟩), .slice ap np cp] 47)).alloc (.cells #[.int .i64 fl, .int .i64 nm, .int .i64 ds, .int .i64 st, .int .i64 lo, .slice ac code.length cc, .slice at_ traps.length ct, .slice am maps.length cm] 62)) wb sv 1048576 (bs ++ (be2 st ++ (be2 lo ++ (be4 code.length ++ code)))) w2 := by
    have := WrTo.next HON.out HSV.out (Only.refl _ _) hto
    simpa [List.append_assoc] using this
  clear HON HSV q0 q1 r5 CL hto HT1
  obtain ⟨svc, hwb, hon, hsv⟩ := HW.out.to hT2
  have p1 := hon.heap HB1.out NB1.out
  have p2 := hon.heap HB2.out NB2.out
  have q0 := cell_blk p1 0
  have q1 := cell_blk p1 1
  have r6 := cell_blk p2 6
  simp at q0 q1 r6
  have cS := shortsP w0 _ wb svc _ ap np cp [(traps.length : Int)] hwb (all1 ⟨by omega, by omega⟩) (by
    have e2 : ∀ x : Int, (be2 x).length = 2 := fun _ => rfl
    have e4 : ∀ x : Int, (be4 x).length = 4 := fun _ => rfl
    have := HCL.out
    simp only [List.length_append, List.length_cons, List.length_nil, e2, e4] at *
    omega) 1 rfl #[.int .i64 traps.length] rfl w2.heap.size rfl
  have CS := Lib.hid cS
  have HON := Lib.hid hon
  have HSV := Lib.hid hsv
  clear hT2 hwb hon hsv p1 p2 cS
  go_wp2_with (fail)
  refine CS.out.mono ?_
  rintro e w3 ⟨rfl, hto⟩
  have hT3 : WrTo ((w.alloc (.cells #[.pointer (some ⟨wb, 0, none⟩), .slice ap np cp] 47)).alloc (.cells #[.int .i64 fl, .int .i64 nm, .int .i64 ds, .int .i64 st, .int .i64 lo, .slice ac code.length cc, .slice at_ traps.length ct, .slice am maps.length cm] 62)) wb sv 1048576 (bs ++ (be2 st ++ (be2 lo ++ (be4 code.length ++ (code ++ be2 traps.length))))) w3 := by
    have := WrTo.next HON.out HSV.out ((Only.refl _ _).alloc _) hto
    rw [one_be2] at this
    simpa [List.append_assoc] using this
  have HT3 := Lib.hid hT3
  obtain ⟨svc3, hwb, hon, hsv⟩ := HW.out.to hT3
  have p2 := hon.heap HB2.out NB2.out
  clear q0 q1 r6 HON HSV
  have r6 := cell_blk p2 6
  simp at r6
  clear CS hto hT3 hwb hon hsv p2
  go_wp2
  go_loopw [26] (fun i wr => ∃ j : Nat, j ≤ traps.length ∧ i = .int .i64 j ∧ WrTo ((w.alloc (.cells #[.pointer (some ⟨wb, 0, none⟩), .slice ap np cp] 47)).alloc (.cells #[.int .i64 fl, .int .i64 nm, .int .i64 ds, .int .i64 st, .int .i64 lo, .slice ac code.length cc, .slice at_ traps.length ct, .slice am maps.length cm] 62)) wb sv 1048576 (bs ++ (be2 st ++ (be2 lo ++ (be4 code.length ++ (code ++ (be2 traps.length ++ (traps.take j).flatMap trapB)))))) wr) (fun i _ => traps.length - (intOf i).toNat)
  case atStart => exact ⟨0, Nat.zero_le _, rfl, by simpa using HT3.out⟩
  case round =>
    obtain ⟨j, hj, rfl, hto⟩ := hrel
    obtain ⟨svc, hwb, hon, hsv⟩ := HW.out.to hto
    have HON := Lib.hid hon
    have HSV := Lib.hid hsv
    have p1 := hon.heap HB1.out NB1.out
    have p2 := hon.heap HB2.out NB2.out
    by_cases hlt : j < traps.length
    · have hjz : (j : Int) < (traps.length : Int) := by omega
      obtain ⟨b, o, e2, hat⟩ := HT.out.1.at hlt
      subst e2
      obtain ⟨k0, k1, k2, k3⟩ := hat.only hwb.on
      obtain ⟨s0, s1, s2, s3⟩ := HR.out _ (getD_mem hlt)
      have HTK := Lib.hid (take_snoc hlt)
      obtain ⟨t, hte⟩ : ∃ t, traps.getD j default = t := ⟨_, rfl⟩
      rw [hte] at HTK k0 k1 k2 k3 s0 s1 s2 s3
      obtain ⟨tf, tt, th, ty⟩ := t
      simp only at k0 k1 k2 k3 s0 s1 s2 s3
      have hoa := (Only.refl (fun _ => False) wr).alloc (.cells #[.int .i64 tf, .int .i64 tt, .int .i64 th, .int .i64 ty] 88)
      have q2 := hoa.heap p1 (fun h => h)
      have q0 := cell_blk q2 0
      have q1 := cell_blk q2 1
      simp at q0 q1
      have cS := shortsP w0 _ wb svc _ ap np cp [tf, tt, th, ty] (hwb.only hoa) (all4 s0 s1 s2 s3) (by
        have e2 : ∀ x : Int, (be2 x).length = 2 := fun _ => rfl
        have e4 : ∀ x : Int, (be4 x).length = 4 := fun _ => rfl
        have := HCL.out
        simp only [List.length_append, List.length_cons, List.length_nil, List.length_take, trapB_len, e2, e4] at *
        omega) 4 rfl #[.int .i64 tf, .int .i64 tt, .int .i64 th, .int .i64 ty] rfl (wr.heap.size + 1) (by simp)
      have CS := Lib.hid cS
      have HOA := Lib.hid hoa
      clear hat hte q2 hwb hon hsv hto hoa cS s0 s1 s2 s3 p1 p2
      go_wp2_with (fail)
      refine CS.out.mono ?_
      rintro e w4 ⟨rfl, hto3⟩
      have HT4 := Lib.hid (WrTo.next HON.out HSV.out (HOA.out.alloc _) hto3)
      clear hto3 CS
      go_wp2
      go_roundw
      case rel => exact ⟨j + 1, by omega, by go_num, by
        have := HT4.out
        rw [four_be2] at this
        rw [HTK.out, List.flatMap_append]
        simpa [List.flatMap, trapB, List.append_assoc] using this⟩
      case measure => simp [intOf]; omega
    · have hjn : j = traps.length := by omega
      have hjz : (traps.length : Int) ≤ (j : Int) := by omega
      rw [hjn, List.take_of_length_le (Nat.le_refl _)] at hto hwb
      have q0 := cell_blk p1 0
      have q1 := cell_blk p1 1
      have r7 := cell_blk p2 7
      simp at q0 q1 r7
      have HTO := Lib.hid hto
      have HWB := Lib.hid hwb
      have p2s := p2
      clear hwb hon hsv hto hlt hjn p1 p2
      by_cases hme : maps = []
      · subst hme
        have cS := shortsP w0 _ wb svc _ ap np cp [0] HWB.out (all1 u16_0) (by
          have e2 : ∀ x : Int, (be2 x).length = 2 := fun _ => rfl
          have e4 : ∀ x : Int, (be4 x).length = 4 := fun _ => rfl
          have := HCL.out
          unfold mapsB at this
          rw [if_pos rfl] at this
          simp only [List.length_append, List.length_cons, List.length_nil, trapB_len, e2, e4] at *
          omega) 1 rfl #[.int .i64 0] rfl wr.heap.size rfl
        have CS := Lib.hid cS
        clear cS
        go_wp2_with (fail)
        refine CS.out.mono ?_
        rintro e w4 ⟨rfl, hto⟩
        have HF := Lib.hid (WrTo.from HO2.out (WrTo.next HON.out HSV.out ((Only.refl _ _).alloc _) hto))
        clear hto CS
        go_wp2
        refine bodyPost_ret (results_none rfl _ _ _) rfl ?_
        refine ⟨rfl, ?_⟩
        have := HF.out
        rw [one_be2] at this
        unfold codeB mapsB
        rw [if_pos rfl]
        simpa [List.append_assoc] using this
      · have hmb : ((maps.length : Int) == 0) = false := by simpa using hme
        obtain ⟨hu, hix⟩ := HPL.out hme
        rw [hix] at CPL
        have HME := Lib.hid hme
        have HU := Lib.hid hu
        have hml : (mapsB cs maps).length = 8 + maps.length := by unfold mapsB; rw [if_neg hme]; simp [be2, be4]; omega
        rw [hml] at HCL
        have NS1 := Lib.hid (show ¬ WrS wb svc w.heap.size from fun hW => by
          rcases hW with e | e
          · exact NB1.out (.inl e)
          · rcases HSV.out _ e with e | e
            · exact NB1.out (.inr e)
            · simp at e; omega)
        have NS2 := Lib.hid (show ¬ WrS wb svc (w.heap.size + 1) from fun hW => by
          rcases hW with e | e
          · exact NB2.out (.inl e)
          · rcases HSV.out _ e with e | e
            · exact NB2.out (.inr e)
            · simp at e; omega)
        have ROOM := Lib.hid (show (bs ++ (be2 st ++ (be2 lo ++ (be4 code.length ++ (code ++ (be2 traps.length ++ traps.flatMap trapB)))))).length + 2 * [1, placeOf cs mapsT].length ≤ 1048576 by
          have e2 : ∀ x : Int, (be2 x).length = 2 := fun _ => rfl
          have e4 : ∀ x : Int, (be4 x).length = 4 := fun _ => rfl
          have := HCL.out
          simp only [List.length_append, List.length_cons, List.length_nil, trapB_len, e2, e4] at *
          omega)
        have HPB := Lib.hid (show mapsB cs maps = be2 1 ++ (be2 (placeOf cs mapsT) ++ (be4 maps.length ++ maps)) by unfold mapsB; rw [if_neg hme])
        have HP2 := Lib.hid p2s
        clear hme hix hml hu p2s
        generalize hpz : placeOf cs mapsT = pz at *
        go_wp2
        refine wp_region_held_drew (S := fun wc => wc.cell? ⟨w.heap.size, 0, none⟩ = some (.pointer (some ⟨wb, 0, none⟩)) ∧ wc.cell? ⟨w.heap.size, 1, none⟩ = some (.slice ap np cp)) (by kernel_rfl) ⟨q0, q1⟩ (fun hHeld => ?_)
        refine wpAnyH_take (i := 0) (v := ?_) (by simp only [List.getElem?_toArray, List.getElem?_cons_succ, List.getElem?_cons_zero]; rfl) (by kernel_rfl) (by kernel_rfl) (by kernel_rfl) (by exact fun _ _ _ h => h) (Or.inl ⟨by rfl, ?_⟩) (by assumption) ?_
        rotate_left 1
        · (intro w hSw; (try dsimp only at hSw); go_simp; try with_reducible rfl)
        try simp only [Act.put, List.setIfInBounds_toArray, List.set_cons_zero, List.set_cons_succ]
        refine wpAnyH_take (i := 1) (v := ?_) (by simp only [List.getElem?_toArray, List.getElem?_cons_succ, List.getElem?_cons_zero]; rfl) (by kernel_rfl) (by kernel_rfl) (by kernel_rfl) (by exact fun _ _ _ h => h) (Or.inl ⟨by rfl, ?_⟩) (by assumption) ?_
        rotate_left 1
        · (intro w hSw; (try dsimp only at hSw); go_simp; try with_reducible rfl)
        try simp only [Act.put, List.setIfInBounds_toArray, List.set_cons_zero, List.set_cons_succ]
        refine wpAnyH_take (i := 2) (v := ?_) (by simp only [List.getElem?_toArray, List.getElem?_cons_succ, List.getElem?_cons_zero]; rfl) (by kernel_rfl) (by kernel_rfl) (by kernel_rfl) (by exact fun _ _ _ h => h) (Or.inl ⟨by rfl, ?_⟩) (by assumption) ?_
        rotate_left 1
        · (intro w hSw; (try dsimp only at hSw); go_simp; try with_reducible rfl)
        try simp only [Act.put, List.setIfInBounds_toArray, List.set_cons_zero, List.set_cons_succ]
        refine wpAnyH_ready (rs := [3]) (by kernel_rfl) (by simp) ?_
        refine AllReadyH.cons (by simp only [List.getElem?_toArray, List.getElem?_cons_succ, List.getElem?_cons_zero]; rfl) (fun K hK => ?_) AllReadyH.nil
        go_simp
        refine (CPL.out _ HWB.out.on.drew).mono ?_; rintro e w5 ⟨rfl, ho5⟩; have HQ := Lib.hid (And.intro (ho5.cell hHeld.1 (fun h => h)) (ho5.cell hHeld.2 (fun h => h))); have HO5 := Lib.hid ((Only.refl (fun _ => False) wr).drew.trans ho5 (fun _ h => h.elim)); have HW5 := Lib.hid (HWB.out.only HO5.out); clear ho5
        go_wp2_with fail
        refine hK.out _ _ ?_ (fun hHeld2 => ?_)
        · exact ⟨HQ.out.1, HQ.out.2⟩
        clear hK K
        try simp only [Act.put, List.setIfInBounds_toArray, List.set_cons_zero, List.set_cons_succ]
        clear hHeld
        have hHeld := hHeld2
        clear hHeld2
        refine wpAnyH_ready (rs := [4]) (by kernel_rfl) (by simp) ?_
        refine AllReadyH.cons (by simp only [List.getElem?_toArray, List.getElem?_cons_succ, List.getElem?_cons_zero]; rfl) (fun K hK => ?_) AllReadyH.nil
        go_simp
        refine hK.out _ _ ?_ (fun hHeld2 => ?_)
        · exact ⟨((Only.refl (fun _ => False) w5).alloc _).cell HQ.out.1 (fun h => h), ((Only.refl (fun _ => False) w5).alloc _).cell HQ.out.2 (fun h => h)⟩
        clear hK K
        try simp only [Act.put, List.setIfInBounds_toArray, List.set_cons_zero, List.set_cons_succ]
        clear hHeld
        have hHeld := hHeld2
        clear hHeld2
        refine wpAnyH_ready (rs := [5]) (by kernel_rfl) (by simp) ?_
        refine AllReadyH.cons (by simp only [List.getElem?_toArray, List.getElem?_cons_succ, List.getElem?_cons_zero]; rfl) (fun K hK => ?_) AllReadyH.nil
        go_simp
        refine (shortsP w0 w5 wb svc _ ap np cp [1, pz] HW5.out (all2 u16_1 HU.out) ROOM.out 2 rfl #[.int .i64 1, .int .i64 pz] rfl w5.heap.size rfl).mono ?_; rintro e w6 ⟨rfl, hto6⟩; obtain ⟨svd, hwd, hod, hsd⟩ := (HW5.out.only ((Only.refl (fun _ => False) w5).alloc _)).to hto6; have HWD := Lib.hid hwd; have HOD := Lib.hid hod; have HT6 := Lib.hid hto6; have HSD := Lib.hid hsd; clear hwd hod hsd hto6
        go_wp2_with fail
        refine hK.out _ _ ?_ (fun hHeld2 => ?_)
        · exact ⟨HOD.out.cell hHeld.1 NS1.out, HOD.out.cell hHeld.2 NS1.out⟩
        clear hK K
        try simp only [Act.put, List.setIfInBounds_toArray, List.set_cons_zero, List.set_cons_succ]
        clear hHeld
        have hHeld := hHeld2
        clear hHeld2
        refine wpAnyH_done (by kernel_rfl) ?_ _
        have r7 : w6.cell? ⟨w.heap.size + 1, 7, none⟩ = some (.slice am maps.length cm) := HOD.out.cell (((Only.refl (fun _ => False) w5).alloc _).cell (HO5.out.cell r7 (fun h => h)) (fun h => h)) NS2.out
        obtain ⟨q0, q1⟩ := hHeld
        have cL := writeList w0 _ wb svd _ ap np cp _ maps HWD.out (HM.out.only HWD.out.on (fun _ _ _ h => h)) (fun k hk hz => HWD.out.apart (HM.out.lt k hk hz)) (by
          have e2 : ∀ x : Int, (be2 x).length = 2 := fun _ => rfl
          have e4 : ∀ x : Int, (be4 x).length = 4 := fun _ => rfl
          have := HCL.out
          rw [two_be2]
          simp only [List.length_append, trapB_len, e2, e4] at *
          omega)
        have CL := Lib.hid cL
        clear cL
        go_wp2_with (fail)
        refine CL.out.mono ?_
        rintro e w7 ⟨rfl, hto7⟩
        have HF := Lib.hid (WrTo.from HO2.out (WrTo.next HON.out HSV.out (HO5.out.alloc _) (WrTo.trans HOD.out HSD.out hto7)))
        clear hto7 CL
        go_wp2
        go_end0
        refine ⟨rfl, ?_⟩
        have := HF.out
        rw [two_be2] at this
        unfold codeB
        rw [HPB.out]
        simpa [List.append_assoc] using this
end Go.Proofs.YtodhdiccfobcfaaGreatDoor
