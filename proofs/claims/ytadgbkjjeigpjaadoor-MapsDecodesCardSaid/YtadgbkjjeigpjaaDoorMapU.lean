/- The document's own reading of maps: some types. No condition beyond a reader that was made. -/
import Derived.Test.YtadgbkjjeigpjaaDoorMapQ
namespace Go.Proofs.YtadgbkjjeigpjaaDoor
open Go.RowKit
set_option linter.unusedVariables false
set_option linter.unusedSimpArgs false

section
variable (xb rb : Nat) (v : Value) (ap : Option Addr) (np cp : Nat) (cs : List ConstV) (zs : List Int) (σ : StZ) (k : Nat) (e : Int) (w : World)
set_option maxHeartbeats 8000000 in
set_option maxRecDepth 100000 in
theorem mqKinds (h : Mq w xb rb v (.slice ap np cp) cs zs σ k e) :
    Calls Tryd.prog 16 #[.pointer (some ⟨xb, 0, none⟩)] w fun en w' => ∃ l vl σ', en = .returned vl ∧ Nx (typesM cs) zs σ l σ' ∧ MqTo w xb rb v (.slice ap np cp) cs zs σ' w' ∧ TRow w' w.heap.size vl l ∧ l.length ≤ 64 := by
  obtain ⟨i0, hi, hz0, hz1, hz2⟩ := info_parts info_type
  have hxl := heap_lt h.blk
  have hrl := h.rf.lt
  have hvl := Bytes.lt h.rf.byt
  have hpl := Pool.lt h.pool
  have HM0 := Lib.hid h
  have HXL := Lib.hid (And.intro hxl hrl)
  have HFAR := Lib.hid (And.intro hvl hpl)
  clear hxl hrl hvl hpl
  go_enter Tryd.func16, Tryd.ntmps16
  go_wp2_with (fail)
  refine (mqNum xb rb v (.slice ap np cp) cs zs σ k e w 2 (by decide) (by decide) h).mono ?_
  rintro en w1 ⟨n, σ1, rfl, hN, hb, hto⟩
  simp only [Int.reducePow] at hb
  obtain ⟨mm, rfl⟩ : ∃ mm : Nat, n = mm := ⟨n.toNat, by omega⟩
  have HTO := Lib.hid hto
  obtain ⟨⟨k1, e1, hm⟩, _⟩ := hto
  have hmb := mqBad xb rb v (.slice ap np cp) cs zs σ1 k1 e1 w1 (decide ((64 : Int) < mm)) hm
  have HMB := Lib.hid hmb
  have HN := Lib.hid hN
  clear hN hmb hm h
  go_wp2_with (fail)
  refine HMB.out.mono ?_
  rintro en w2 ⟨rfl, hto2⟩
  obtain ⟨σ2, hσ2⟩ : ∃ σ2, (if decide ((64 : Int) < mm) = true then failS 100 σ1 else σ1) = σ2 := ⟨_, rfl⟩
  rw [hσ2] at hto2
  have HN2 := Lib.hid (show Nx (mustM (decide ((mm : Int) ≤ 64))) zs σ1 () σ2 from by
    have := Nx.mustM (zs := zs) (σ := σ1) (decide ((mm : Int) ≤ 64))
    rw [← hσ2]
    by_cases hq : (mm : Int) ≤ 64
    · rw [decide_eq_true hq] at this ⊢; rw [decide_eq_false (by omega : ¬ (64 : Int) < mm)]; exact this
    · rw [decide_eq_false hq] at this ⊢; rw [decide_eq_true (by omega : (64 : Int) < mm)]; exact this)
  have HK := Lib.hid (show ∀ k, σ2 = .ok k → mm ≤ 64 from fun k hk => by
    by_cases hq : (64 : Int) < mm
    · rw [decide_eq_true hq, if_pos rfl] at hσ2
      rw [hk] at hσ2
      cases σ1 <;> simp [failS] at hσ2
    · omega)
  have HTO2 := Lib.hid (HTO.out.then hto2)
  clear hσ2 hto2 HMB HTO
  go_wp2
  go_loopw [5, 4] (fun iv lv wr => ∃ (ts : List TypeV) (σr : StZ), iv = .int .i64 ts.length ∧ ts.length ≤ mm ∧ ts.length ≤ 64 ∧ ListS (typeM cs) mm zs σ2 ts σr ∧ TRow wr w.heap.size lv ts ∧ MqTo w xb rb v (.slice ap np cp) cs zs σr wr) (fun iv _ _ => mm - (intOf iv).toNat)
  case atStart => exact ⟨[], σ2, rfl, Nat.zero_le _, Nat.zero_le _, .start, TRow.nil _ _, HTO2.out⟩
  case round =>
    obtain ⟨ts, σr, rfl, hle, h64, hls, hrow, hto⟩ := hrel
    obtain ⟨al, cl, rfl, l1, l2, l3, -⟩ := id hrow.types
    have HTO := Lib.hid hto
    obtain ⟨⟨kr, er, hm⟩, hon⟩ := hto
    have q2 := cell_blk hm.blk 2
    simp at q2
    have HLS := Lib.hid hls
    have HROW := Lib.hid hrow
    have HM := Lib.hid hm
    have HON := Lib.hid hon
    clear hls hrow hm hon l3 HTO2
    cases σr with
    | error y =>
      obtain ⟨rfl, hy⟩ := HM.out.e_no
      have hyb : (er == 0) = false := by simpa using hy
      have HF := Lib.hid (Nx.bind (f := fun n => bindP (mustM (decide (n ≤ 64))) fun _ => listP (typeM cs) n.toNat) HN.out (Nx.bind (f := fun _ => listP (typeM cs) (mm : Int).toNat) HN2.out (show Nx (listP (typeM cs) (mm : Int).toNat) zs σ2 ts (.error er) from by rw [Int.toNat_natCast]; exact HLS.out.done (.inl ⟨_, rfl⟩))))
      clear hy HLS
      by_cases hlt : ts.length < mm
      · have hltz : (ts.length : Int) < (mm : Int) := by omega
        go_wp2
        go_ret
        first | exact ⟨ts, _, _, rfl, HF.out, HTO.out, HROW.out, h64⟩ | exact ⟨ts, _, rfl, _, HF.out, HTO.out, HROW.out, h64⟩
      · have hltz : ¬ (ts.length : Int) < (mm : Int) := by omega
        go_wp2
        go_ret
        first | exact ⟨ts, _, _, rfl, HF.out, HTO.out, HROW.out, h64⟩ | exact ⟨ts, _, rfl, _, HF.out, HTO.out, HROW.out, h64⟩
    | ok kk =>
      obtain ⟨rfl, rfl⟩ := HM.out.e_ok
      have hm64 : mm ≤ 64 := by
        obtain ⟨k0, hk0, _⟩ := HLS.out
        exact HK.out k0 hk0
      by_cases hlt : ts.length < mm
      · have hltz : (ts.length : Int) < (mm : Int) := by omega
        have cO := mqKind xb rb v ap np cp cs zs (.ok kk) kk 0 wr HM.out
        have CO := Lib.hid cO
        clear cO
        go_wp2_with (fail)
        refine CO.out.mono ?_
        rintro en w3 ⟨u, σ3, rfl, hN3, hto3⟩
        unfold valT
        have HLS3 := Lib.hid (HLS.out.more hlt hN3)
        have hal := (Only.refl (fun _ => False) w3).alloc (.cells #[.int .i64 u.k, .string u.name, .int .i64 u.dims, .int .i64 u.elem, .int .i64 u.at_] 39)
        have hrow3 := HROW.out.only hto3.2 (fun j hj e => by have := (HROW.out.ge j hj).1; have := HXL.out; omega)
        have HTO4 := Lib.hid ((HTO.out.then hto3).idle hal)
        have HROW5 := Lib.hid (hrow3.only hal (fun _ _ h => h))
        have HSRC := Lib.hid (Src.type (w := w3) (m := w3.heap.size) u rfl)
        have HGE := Lib.hid hrow3.ge
        have HBASE := Lib.hid (show w.heap.size ≤ (w3.alloc (.cells #[.int .i64 u.k, .string u.name, .int .i64 u.dims, .int .i64 u.elem, .int .i64 u.at_] 39)).heap.size by have a := (HON.out.trans hto3.2 (fun _ h _ => h)).size; simp; omega)
        clear hN3 hto3 hal hrow3 CO HTO HROW HLS HM HON q2
        go_wp2_with (at_builtin; go_loud (refine wpList_append_src rfl (.tmp 24) (.tmp 27) 33 rfl 39 i0 (.agg #[.int .i64 0, .string ⟨#[]⟩, .int .i64 0, .int .i64 0, .int .i64 0]) 5 48 Tryd.underlying33 hi hz0 hz1 hz2 rfl (by decide) w.heap.size (.slice al ts.length cl) ts.length (ts.flatMap cellsTy) rfl (by exact HROW5.out) (by exact HBASE.out) (.slice (some ⟨w3.heap.size, 0, none⟩) 1 1) 1 (cellsTy u) rfl (by exact HSRC.out) (by unfold maxLen; omega) (by omega) ?_); intro v' w5 hown hgrow hnew; have hos := only_grownT hgrow; have HROW6 := Lib.hid (TRow.more hown); have hto6 := MqTo.newer HM0.out HTO4.out (hos.mono (T := fun j => w.heap.size ≤ j) (fun j hj _ => (HGE.out _ hj).1)); have HTO6 := Lib.hid hto6; clear hown hgrow hnew hos hto6)
        go_roundw
        case rel => exact ⟨ts ++ [u], σ3, by simp, by simp; omega, by simp; omega, HLS3.out, HROW6.out, HTO6.out⟩
        case measure => simp [intOf]; omega
      · have hltz : ¬ (ts.length : Int) < (mm : Int) := by omega
        have HF := Lib.hid (Nx.bind (f := fun n => bindP (mustM (decide (n ≤ 64))) fun _ => listP (typeM cs) n.toNat) HN.out (Nx.bind (f := fun _ => listP (typeM cs) (mm : Int).toNat) HN2.out (show Nx (listP (typeM cs) (mm : Int).toNat) zs σ2 ts (.ok kk) from by rw [Int.toNat_natCast]; exact HLS.out.done (.inr (by omega)))))
        clear HLS
        go_wp2
        go_ret
        first | exact ⟨ts, _, _, rfl, HF.out, HTO.out, HROW.out, h64⟩ | exact ⟨ts, _, rfl, _, HF.out, HTO.out, HROW.out, h64⟩
end
end Go.Proofs.YtadgbkjjeigpjaaDoor
