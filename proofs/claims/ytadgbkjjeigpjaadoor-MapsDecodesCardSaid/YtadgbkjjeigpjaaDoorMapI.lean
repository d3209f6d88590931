/- The program's Decode of maps: what the document says. No condition but the form's own reach. -/
import Derived.Test.YtadgbkjjeigpjaaDoorMapG
import Derived.Test.YtadgbkjjeigpjaaDoorMapH
namespace Go.Proofs.YtadgbkjjeigpjaaDoor
open Go.RowKit
set_option linter.unusedVariables false
set_option linter.unusedSimpArgs false

theorem Src.map {w : World} {m : Nat} (x : MapX) (h1 : x.2.1.oneCell' = true) (h2 : x.2.2.oneCell' = true) (h : w.heap.size = m) : Src (w.alloc (.cells #[.int .i64 x.1.at_, x.2.1, x.2.2, .bool x.1.fresh] 37)) 4 (.slice (some ⟨m, 0, none⟩) 1 1) 1 (cellsMp x) :=
  Src.struct (n := 4) (T := 37) (cellsMp x) rfl (fun u hu => by
    simp only [cellsMp, List.mem_cons, List.mem_nil_iff, or_false] at hu
    rcases hu with rfl | rfl | rfl | rfl
    · rfl
    · exact h1
    · exact h2
    · rfl) h
/-- What reading all maps leaves. -/
def RdAll (rb : Nat) (w : World) (zs : List Int) (r : Except Int (List MapV × Nat)) (e : Ending) (w' : World) : Prop :=
  ((∃ xs x m c, r = .ok (xs.map (·.1), zs.length) ∧ e = .returned (.slice x m c) ∧ MapsO w' w.heap.size (.slice x m c) xs ∧ xs.length ≤ 65535) ∨ (∃ x, r = .error x ∧ e = pan x)) ∧ Only (fun j => j = rb) w w'
theorem behind_range {cs : List ConstV} {n : Nat} {zs : List Int} {k k' : Nat} {l : List MapV} (h : ∀ m ∈ l, 0 ≤ m.at_ ∧ m.at_ ≤ 4096) : 0 ≤ behindM l ∧ behindM l ≤ 4097 := by
  unfold behindM
  cases hl : l.getLast? with
  | none => simp
  | some m =>
    have := h m (List.mem_of_getLast? hl)
    simp only
    omega
section
variable (rb : Nat) (sv : Value) (ap : Option Addr) (np cp : Nat) (cs : List ConstV) (zs : List Int) (k : Nat) (w : World)
set_option maxRecDepth 100000 in
theorem mFrames : Calls Tryd.prog 30 #[rdV rb (.slice ap np cp)] w fun e w' => e = .returned (.func (.func 45) #[] #[.pointer (some ⟨w.heap.size, 0, none⟩), .pointer (some ⟨w.heap.size + 1, 0, none⟩)]) ∧
    w'.heap[w.heap.size]? = some (rdA rb (.slice ap np cp)) ∧ w'.heap[w.heap.size + 1]? = some (.cells #[.int .i64 0] 3 (0, 0)) ∧ Only (fun _ => False) w w' ∧ w'.heap.size = w.heap.size + 2 := by
  have hmf : ∀ (fn : Fn) (first cap : Array Value) (w : World), (Instr.makeFunc fn first cap).run Tryd.prog w = .ok (.func fn first cap) w := fun _ _ _ _ => rfl
  have ho1 := ((Only.refl (fun _ => False) w).alloc (rdA rb (.slice ap np cp))).alloc (.cells #[.int .i64 0] 3)
  have h1 := ((Only.refl (fun _ => False) (w.alloc (rdA rb (.slice ap np cp)))).alloc (.cells #[.int .i64 0] 3)).heap (heap_alloc_new w (rdA rb (.slice ap np cp))) (fun h => h)
  have h2 := heap_alloc_new (w.alloc (rdA rb (.slice ap np cp))) (.cells #[.int .i64 0] 3)
  have hs1 : (w.alloc (rdA rb (.slice ap np cp))).heap.size = w.heap.size + 1 := by simp
  rw [hs1] at h2
  have HO := Lib.hid (And.intro h1 (And.intro h2 ho1))
  clear ho1 h1 h2 hs1
  unfold rdV
  go_enter Tryd.func30, Tryd.ntmps30
  go_wp2
  go_ret
  exact ⟨rfl, HO.out.1, HO.out.2.1, HO.out.2.2, by simp⟩
set_option maxHeartbeats 8000000 in
set_option maxRecDepth 100000 in
theorem mAll (hT : Tags w) (hg : 0 ≠ rb ∧ 0 < w.heap.size) (h : Rp w rb sv (.slice ap np cp) cs zs k) :
    Calls Tryd.prog 13 #[rdV rb (.slice ap np cp)] w (RdAll rb w zs (allM cs zs k)) := by
  obtain ⟨i0, hi, hz0, hz1, hz2⟩ := info_parts info_map
  have hen : ∀ args w, (callFunc 45 args).run Tryd.prog w = .ok (.enter 45 args) w := enters_of Tryd.func45 (by kernel_rfl) rfl
  have hl := h.rd.lt
  have hz := h.rd.byt
  have hpl := Pool.lt h.pool
  have ho1 := (Only.refl (fun _ => False) w).alloc (rdA rb (.slice ap np cp))
  have hbx := heap_alloc_new w (rdA rb (.slice ap np cp))
  have q0 : _ = some (Value.pointer (some ⟨rb, 0, none⟩)) := cell_blk hbx 0
  have q1 : _ = some (Value.slice ap np cp) := cell_blk hbx 1
  have cF := mFrames rb ap np cp (w.alloc (rdA rb (.slice ap np cp)))
  have hs1 : (w.alloc (rdA rb (.slice ap np cp))).heap.size = w.heap.size + 1 := by simp
  rw [hs1] at cF
  unfold rdV at cF ⊢
  have CF := Lib.hid cF
  have HW := Lib.hid (h.idle ho1)
  have HT := Lib.hid (hT.only ho1 (fun h => h))
  have HO := Lib.hid ho1
  have HBX := Lib.hid hbx
  have HZ := Lib.hid hz
  have HPL := Lib.hid hpl
  have HL := Lib.hid hl
  have HG := Lib.hid hg
  clear h ho1 hbx hl cF hz hT hpl hg hs1
  go_enter Tryd.func13, Tryd.ntmps13
  go_wp2_with (fail)
  refine CF.out.mono ?_
  rintro e w1 ⟨rfl, h1, h2, ho, hsz⟩
  have HW1 := Lib.hid (HW.out.idle ho)
  have HT1 := Lib.hid (HT.out.only ho (fun h => h))
  have HO1 := Lib.hid (HO.out.trans ho (fun _ h _ => h))
  have hbx1 := ho.heap HBX.out (fun h => h)
  have q01 : w1.cell? ⟨w.heap.size, 0, none⟩ = some (Value.pointer (some ⟨rb, 0, none⟩)) := cell_blk hbx1 0
  have q11 : w1.cell? ⟨w.heap.size, 1, none⟩ = some (Value.slice ap np cp) := cell_blk hbx1 1
  have HBX1 := Lib.hid hbx1
  have H1 := Lib.hid h1
  have H2 := Lib.hid h2
  have HSZ := Lib.hid hsz
  clear h1 h2 ho hsz hbx1 HW HT HO HBX CF q0 q1
  have cS := mShort rb sv ap np cp cs zs k w1 HW1.out
  unfold rdV at cS
  have CS := Lib.hid cS
  clear cS
  go_wp2_with (fail)
  refine CS.out.mono ?_
  rintro e w2 ⟨⟨x, k1, hx, rfl, hr⟩ | ⟨x, hx, rfl⟩, ho⟩
  rotate_left
  · exact ⟨rfl, .inr ⟨x, bindP_error hx, rfl⟩, HO1.out.rb.rbs ho⟩
  have hv := numP_val zs k HZ.out hx
  simp only [Int.reducePow] at hv
  obtain ⟨mm, rfl⟩ : ∃ mm : Nat, x = mm := ⟨x.toNat, by omega⟩
  have HX := Lib.hid (show allM cs zs k = _ from bindP_ok hx)
  have hrb1 := HL.out.1
  have HW2 := Lib.hid (HW1.out.read ho hr)
  have HT2 := Lib.hid (HT1.out.only ho HG.out.1)
  have HO2 := Lib.hid (HO1.out.rb.rbs ho)
  have HBX2 := Lib.hid (ho.heap HBX1.out (by omega))
  have H12 := Lib.hid (ho.heap H1.out (by omega))
  have H22 := Lib.hid (ho.heap H2.out (by omega))
  have HSZ2 := Lib.hid (show w.heap.size + 3 ≤ w2.heap.size from by have := ho.size; have := HSZ.out; omega)
  clear hx hr ho HW1 HT1 HO1 HBX1 H1 H2 HSZ CS q01 q11 hrb1
  go_wp2
  go_loopw [9, 3] (fun iv lv wr => ∃ (xs : List MapX) (kk : Nat), iv = .int .i64 xs.length ∧ xs.length ≤ mm ∧ RunTo cs mm zs k1 (xs.map (·.1)) kk ∧ MapsO wr (w.heap.size + 3) lv xs ∧ Rp wr rb sv (.slice ap np cp) cs zs kk ∧ Tags wr ∧ Only (fun j => j = rb) w wr ∧ w.heap.size + 3 ≤ wr.heap.size ∧
      wr.heap[w.heap.size]? = some (rdA rb (.slice ap np cp)) ∧ wr.heap[w.heap.size + 1]? = some (rdA rb (.slice ap np cp)) ∧ wr.heap[w.heap.size + 1 + 1]? = some (.cells #[.int .i64 (behindM (xs.map (·.1)))] 3 (0, 0)) ∧ ∀ q ∈ xs, 0 ≤ q.1.at_ ∧ q.1.at_ ≤ 4096) (fun iv _ _ => mm - (intOf iv).toNat)
  case atStart => exact ⟨[], k1, rfl, Nat.zero_le _, .start, MapsO.nil _ _, HW2.out, HT2.out, HO2.out, HSZ2.out, HBX2.out, H12.out, H22.out, fun q hq => by cases hq⟩
  case round =>
    obtain ⟨xs, kk, rfl, hle, hto, hm, hrp, htg, hon, hsz, hbx, hb1, hb2, hat⟩ := hrel
    obtain ⟨al, cl, rfl, l1, l2⟩ := slice_of_owns hm.rg
    have q0 : wr.cell? ⟨w.heap.size, 0, none⟩ = some (Value.pointer (some ⟨rb, 0, none⟩)) := cell_blk hbx 0
    have hbr := behind_range (cs := cs) (n := mm) (zs := zs) (k := k) (k' := kk) (l := xs.map (·.1)) (fun m hm => by obtain ⟨q, hq, rfl⟩ := List.mem_map.1 hm; exact hat q hq)
    have HTO := Lib.hid hto
    have HM := Lib.hid hm
    have HRP := Lib.hid hrp
    have HTG := Lib.hid htg
    have HON := Lib.hid hon
    have HBX := Lib.hid hbx
    have HB1 := Lib.hid hb1
    have HAT := Lib.hid hat
    have HSW := Lib.hid hsz
    by_cases hlt : xs.length < mm
    · have hltz : (xs.length : Int) < (mm : Int) := by omega
      have cO := mNext rb (w.heap.size + 1) (w.heap.size + 1 + 1) sv ap np cp cs zs kk wr (behindM (xs.map (·.1))) hbr.1 hbr.2 htg ⟨HG.out.1, by have := HG.out.2; omega, by have := HG.out.2; omega⟩ (by have := HL.out.1; omega) (fun j hj e => by have := HL.out.2 j hj; omega) (fun j hj hc e => by have := HPL.out j hj hc; omega) hrp hb1 hb2
      have CO := Lib.hid cO
      clear cO hto hm hrp htg hon hbx hb1 hb2 hat hbr hsz HW2 HT2 HO2 HBX2 H12 H22 HSZ2
      go_wp2_with (fail)
      refine CO.out.mono ?_
      rintro e w3 ⟨⟨m, k3, v1, v2, hx, rfl, hr, h2, t1, t2, ha0, ha1⟩ | ⟨x, hx, rfl⟩, ho⟩
      rotate_left
      · exact ⟨rfl, .inr ⟨_, HX.out.trans (bindP_error (by rw [Int.toNat_natCast]; exact HTO.out.fail (by rw [List.length_map]; exact hlt) hx)), rfl⟩, HON.out.trans ho (fun i hi hl => hi.resolve_right (by omega))⟩
      obtain ⟨x1, n1, c1, rfl⟩ : ∃ x n c, v1 = .slice x n c := by obtain ⟨x, c, e, -⟩ := t1.types.slice; exact ⟨_, _, _, e⟩
      obtain ⟨x2, n2, c2, rfl⟩ : ∃ x n c, v2 = .slice x n c := by obtain ⟨x, c, e, -⟩ := t2.types.slice; exact ⟨_, _, _, e⟩
      have hlow : ∀ j, (j = rb ∨ j = w.heap.size + 1 + 1) → j < w.heap.size + 3 := fun j hj => by have := HL.out.1; omega
      have HTO3 := Lib.hid (show RunTo cs mm zs k1 ((xs ++ [(m, Value.slice x1 n1 c1, Value.slice x2 n2 c2)]).map (·.1)) k3 from by rw [List.map_append]; exact HTO.out.more (by rw [List.length_map]; exact hlt) hx)
      have hal := (Only.refl (fun _ => False) w3).alloc (.cells #[.int .i64 m.at_, .slice x1 n1 c1, .slice x2 n2 c2, .bool m.fresh] 37)
      have HM3 := Lib.hid ((HM.out.keep ho hlow).idle hal)
      have HRP3 := Lib.hid (Rp.idle (show Rp w3 rb sv (.slice ap np cp) cs zs k3 from ⟨hr, Pool.only2 HRP.out.pool ho (fun j hj hc e => by have := HRP.out.pb j hj hc; have := HPL.out j hj hc; omega), HRP.out.pb⟩) hal)
      have HTG3 := Lib.hid ((HTG.out.only ho (by have := HG.out; omega)).only hal (fun h => h))
      have HON3 := Lib.hid (show Only (fun j => j = rb) w _ from (HON.out.trans ho (fun i hi hl => hi.resolve_right (by omega))).trans hal (fun _ h => h.elim))
      have HBX3 := Lib.hid (hal.heap (ho.heap HBX.out (by have := HL.out.1; omega)) (fun h => h))
      have HB13 := Lib.hid (hal.heap (ho.heap HB1.out (by have := HL.out.1; omega)) (fun h => h))
      have HB23 := Lib.hid (hal.heap h2 (fun h => h))
      have HT1 := Lib.hid ((t1.base (show w.heap.size + 3 ≤ wr.heap.size from HSW.out)).only hal (fun _ _ h => h))
      have HT2 := Lib.hid ((t2.base (show w.heap.size + 3 ≤ wr.heap.size from HSW.out)).only hal (fun _ _ h => h))
      have HN1 := Lib.hid (show ∀ j, (Value.slice x1 n1 c1).ownBlock = some j → (Value.slice al xs.length cl).ownBlock ≠ some j from fun j hj e => by have := (t1.ge j hj).1; have := (HM.out.rg.ge j e).2; omega)
      have HN2 := Lib.hid (show ∀ j, (Value.slice x2 n2 c2).ownBlock = some j → (Value.slice al xs.length cl).ownBlock ≠ some j from fun j hj e => by have := (t2.ge j hj).1; have := (HM.out.rg.ge j e).2; omega)
      have HSW3 := Lib.hid (show w.heap.size + 3 ≤ (w3.alloc (.cells #[.int .i64 m.at_, .slice x1 n1 c1, .slice x2 n2 c2, .bool m.fresh] 37)).heap.size from by have := ho.size; have := HSW.out; simp; omega)
      have HSRC := Lib.hid (Src.map (w := w3) (m := w3.heap.size) (m, Value.slice x1 n1 c1, Value.slice x2 n2 c2) rfl rfl rfl)
      have HA := Lib.hid (And.intro ha0 ha1)
      have HGE := Lib.hid (HM.out.rg.ge)
      clear hx hr h2 t1 t2 ha0 ha1 ho hlow hal CO HM HRP HTG HON HBX HB1 HTO HSW q0
      unfold valMp
      go_wp2_with (at_builtin; go_loud (refine wpList_append_src rfl (.tmp 11) (.tmp 14) 24 rfl 37 i0 (.agg #[.int .i64 0, .slice none 0 0, .slice none 0 0, .bool false]) 4 64 Tryd.underlying24 hi hz0 hz1 hz2 rfl (by decide) (w.heap.size + 3) (.slice al xs.length cl) xs.length (xs.flatMap cellsMp) rfl (by exact HM3.out.rg) (by exact HSW3.out) (.slice (some ⟨w3.heap.size, 0, none⟩) 1 1) 1 (cellsMp (m, Value.slice x1 n1 c1, Value.slice x2 n2 c2)) rfl (by exact HSRC.out) (by unfold maxLen; omega) (by omega) ?_); intro v' w5 hown hgrow hnew; obtain ⟨hm5, hos⟩ := HM3.out.push (x := (m, Value.slice x1 n1 c1, Value.slice x2 n2 c2)) HT1.out HT2.out HN1.out HN2.out hown hgrow hnew; have hfar : ∀ j, (fun k => (Value.slice al xs.length cl).ownBlock = some k) j → w.heap.size + 3 ≤ j := (fun j hj => (HGE.out _ hj).1); have HM5 := Lib.hid hm5; have HRP5 := Lib.hid (HRP3.out.only hos (fun hj => by have := hfar _ hj; have := HL.out.1; omega) (fun j hj hh => by have := hfar _ hh; have := HL.out.2 j hj; omega) (fun j hj hc hh => by have := hfar _ hh; have := HPL.out j hj hc; omega)); have HTG5 := Lib.hid (HTG3.out.only hos (fun hj => by have := hfar _ hj; have := HG.out.2; omega)); have HON5 := Lib.hid (HON3.out.trans hos (fun j hj hl => by have := hfar j hj; omega)); have HBX5 := Lib.hid (hos.heap HBX3.out (fun hj => by have := hfar _ hj; omega)); have HB15 := Lib.hid (hos.heap HB13.out (fun hj => by have := hfar _ hj; omega)); have HB25 := Lib.hid (hos.heap HB23.out (fun hj => by have := hfar _ hj; omega)); have HSW5 := Lib.hid (Nat.le_trans HSW3.out hos.size); clear hm5 hos hfar hown hgrow hnew)
      go_roundw
      case rel => exact ⟨xs ++ [(m, Value.slice x1 n1 c1, Value.slice x2 n2 c2)], k3, by simp, by simp; omega, HTO3.out, HM5.out, HRP5.out, HTG5.out, HON5.out, HSW5.out, HBX5.out, HB15.out, by rw [List.map_append]; rw [show List.map (fun x : MapX => x.1) [(m, Value.slice x1 n1 c1, Value.slice x2 n2 c2)] = [m] from rfl, behindM_snoc]; exact HB25.out, fun q hq => by
        rcases List.mem_append.1 hq with hq | hq
        · exact HAT.out q hq
        · simp only [List.mem_cons, List.mem_nil_iff, or_false] at hq
          subst hq
          exact HA.out⟩
      case measure => simp [intOf]; omega
    · have hnz : (mm : Int) ≤ (xs.length : Int) := by omega
      have HD := Lib.hid (HX.out.trans (bindP_ok (show runM cs (mm : Int).toNat 0 zs k1 = .ok (xs.map (·.1), kk) from by rw [Int.toNat_natCast]; exact HTO.out.done (by rw [List.length_map]; omega))))
      have hxl : xs.length ≤ 65535 := by omega
      have HXL := Lib.hid hxl
      have hkl := hrp.rd.le
      clear hi hz0 hz1 hz2 hto hm hrp htg hon hbx hb1 hb2 hat hbr hsz HTO hlt hxl HW2 HT2 HO2 HBX2 H12 H22 HSZ2
      go_wp2_with (fail)
      refine (rdLeftM rb sv zs kk wr HRP.out.rd).mono ?_
      rintro e w6 ⟨rfl, hdr⟩
      have ho6 := hdr.only (S := fun _ => False)
      have HM6 := Lib.hid ((HM.out.idle ho6).base (show w.heap.size ≤ w.heap.size + 3 by omega))
      have HON6 := Lib.hid (HON.out.trans ho6 (fun _ h => h.elim))
      clear hdr ho6 HM HON
      by_cases hk : kk = zs.length
      · have HE := Lib.hid (HD.out.trans (show _ = Except.ok (xs.map (·.1), zs.length) by simp only [hk, if_true]))
        have hz0 : ((zs.length : Int) - (kk : Int) == 0) = true := by rw [beq_iff_eq]; omega
        clear HD
        go_wp2_with (fail)
        refine (mMustT _).mono ?_
        rintro e w7 ⟨rfl, rfl⟩
        go_wp2
        go_ret
        exact ⟨.inl ⟨xs, _, _, _, HE.out, rfl, HM6.out, HXL.out⟩, HON6.out⟩
      · have HE := Lib.hid (HD.out.trans (show _ = Except.error (100 : Int) by simp only [hk, if_false]))
        have hz0 : ((zs.length : Int) - (kk : Int) == 0) = false := by rw [beq_eq_false_iff_ne]; omega
        clear HD
        go_wp2_with (fail)
        refine (mMustF _).mono ?_
        rintro e w7 ⟨rfl, rfl⟩
        exact ⟨rfl, .inr ⟨_, HE.out, rfl⟩, HON6.out⟩
end
end Go.Proofs.YtadgbkjjeigpjaaDoor
