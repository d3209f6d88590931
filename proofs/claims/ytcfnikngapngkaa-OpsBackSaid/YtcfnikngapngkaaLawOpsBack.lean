/- PROVED: the law OpsBack: an instruction as bytes is read as itself; bytes that are one, and lead nowhere beyond, are those of their instruction; the arguments read as before. For every input. No condition. -/
import Derived.Test.YtcfnikngapngkaaOpsI
import Derived.Test.YtcfnikngapngkaaOpsK
import Derived.Test.YtcfnikngapngkaaOpsE
import Derived.Test.YtcfnikngapngkaaOpsD
import Derived.Test.YtcfnikngapngkaaOpsV
import Derived.Test.YtcfnikngapngkaaPart
import Derived.Laws.MakeOwn
import Derived.Deep.QuietTactic
import Derived.BigQuiet
import Derived.Deep.RegionHeld3
import Derived.Test.YtcfnikngapngkaaArg
import Derived.Test.YtcfnikngapngkaaBig
import Derived.ProofKit
import Derived.ShutString
import Derived.ChangeOld
import Derived.Below
import Derived.PinnedBridge
namespace Go.Proofs.Ytcfnikngapngkaa.opsBack
open Go.ChangeShapes Go.WideShapes Go.ChangeAt Go.RowKit
set_option linter.unusedVariables false
set_option linter.unusedSimpArgs false

theorem decZ0 (zs : List Int) : decZ zs 0 = decAt 0 zs := by
  unfold decZ
  rw [if_neg (by omega)]
  rfl
theorem decZn (n : Nat) (bs : List Int) : decZ (List.replicate n 0 ++ bs) n = decAt n bs := by
  unfold decZ
  rw [if_neg (by simp; omega), Int.toNat_natCast, List.drop_left' (by simp)]
theorem made_rep (n : Nat) : madeCells #[.int .u8 0] n = ((List.replicate n (0 : Int)).map (Value.int .u8)).toArray := by
  apply Array.ext
  · simp [madeCells]
  · intro j h1 h2
    simp [madeCells, Nat.mod_one]
theorem made_row (w : World) (n : Nat) (hn : n ≤ 4096) : Row (w.alloc (.cells (madeCells #[.int .u8 0] n) 5)) w.heap.size (.slice (some ⟨w.heap.size, 0, none⟩) n n) (List.replicate n 0) := by
  have := Row.new (w := w) (xs := List.replicate n (0 : Int)) (by unfold maxLen; simp; omega)
  rw [← made_rep] at this
  simp only [List.length_replicate] at this
  exact this
theorem run_mk (n : Nat) (hn : n ≤ 4096) (w : World) : (Instr.makeSlice 27 (.int .i64 (n : Int)) (.int .i64 (n : Int))).run Try.prog w = .ok (.slice (some ⟨w.heap.size, 0, none⟩) n n) (w.alloc (.cells (madeCells #[.int .u8 0] n) 5)) := by
  obtain ⟨i0, hi, hz0, hz1, hz2⟩ := info_parts info_u8
  have := run_make (P := Try.prog) w 27 5 i0 _ Try.underlying27 hi hz0 .i64 .i64 (n : Int) (n : Int) (by omega) (Int.le_refl _) (by rw [hz2]; omega) (by omega)
  simp only [Int.toNat_natCast, hz1, Nat.mul_one] at this
  exact this
theorem rep_byte (n : Nat) : Bytish (List.replicate n 0) := fun z hz => by
  have := List.eq_of_mem_replicate hz
  subst this
  exact ⟨by omega, by omega⟩
theorem enc_leads {i : InstrV} {bs : List Int} (h : encZ i = (bs, 0)) (hs : shapeK i.op = 116) : ∃ n : Nat, i.at_ = n ∧ n ≤ 4096 := by
  obtain ⟨c, hc, hf, _⟩ := enc_ok h
  rw [(shape_of hc).1] at hs
  unfold fineZ at hf
  rw [hs] at hf
  simp [leadsZ, isPlaceZ] at hf
  exact ⟨i.at_.toNat, by omega, by omega⟩
theorem dec_R {zs : List Int} {k : InstrV} (h : decAt 0 zs = (k, 0)) (hz : Bytish zs) (h0 : 0 ≤ k.a) (h1 : k.a ≤ 4096) : InstrR k := by
  obtain ⟨op, rest, c, rfl, hc, hl, rfl⟩ := dec_ok h
  have hL := lens hc
  have ho := (codeOf_shape hc).2
  have hzr : Bytish rest := fun z hz' => hz z (List.mem_cons_of_mem _ hz')
  have hb := num_bound true hL.2.1 (hzr.drop (lenA c.shape)) (by simp; unfold extraZ at hl; omega)
  have he := hL.2.2
  simp only at h0 h1
  refine ⟨⟨?_, ?_⟩, ⟨?_, ?_⟩, ⟨?_, ?_⟩, ⟨?_, ?_⟩, ⟨?_, ?_⟩⟩ <;> simp only [bZ] <;> omega
theorem made_row2 (w : World) (n : Nat) (hn : n ≤ 4096) : (w.alloc (.cells (madeCells #[.int .u8 0] n) 5)).ownsRow w.heap.size 5 1 (.slice (some ⟨w.heap.size, 0, none⟩) n n) n ((List.replicate n 0).map (Value.int .u8)) := by
  have := made_row w n hn
  unfold Row at this
  rw [List.length_replicate] at this
  exact this
set_option maxHeartbeats 32000000 in
set_option maxRecDepth 100000 in
theorem walk (v0 v1 : Value) (w : World) (w0 : ∃ i, v0 = valI i ∧ InstrR i) (w1 : ∃ zs, Bytes w v1 zs ∧ zs.length ≤ 140737488351232) :
    Calls Try.prog 7 #[v0, v1] w fun e w' => e = .returned (.bool true) ∧ Below w.heap.size w w' := by
  obtain ⟨i, rfl, hir⟩ := w0
  obtain ⟨zs, hb, hl⟩ := w1
  obtain ⟨i0, hi, hz0, hz1, hz2⟩ := info_parts info_u8
  obtain ⟨ao, cap, rfl, hq1, hq2, hq3, hbz, hcells⟩ := id hb
  unfold maxLen at hq2
  have hb0 := heap_alloc_new w (.cells #[.int .i64 i.at_, .int .i64 i.op, .int .i64 i.a, .int .i64 i.b, .int .i64 i.size] 29)
  have ho0 := (Only.refl (fun _ => False) w).alloc (.cells #[.int .i64 i.at_, .int .i64 i.op, .int .i64 i.a, .int .i64 i.b, .int .i64 i.size] 29)
  have c1 := fun w' => progEncode i w' hir
  have cS := fun w' => progShape i.op w'
  have cD := fun w' hb' => progDecode (.slice ao zs.length cap) zs 0 w' hb' (by omega)
  rw [decZ0] at cD
  have Hb := Lib.hid hb
  have HB0 := Lib.hid hb0
  have HO0 := Lib.hid ho0
  have HBZ := Lib.hid hbz
  clear hcells hq3 hbz hb0 ho0 hb
  -- what the bytes say
  have hcase : (∃ e, (e == 0) = false ∧ (e != 0) = true ∧ decAt 0 zs = (zeroI, e)) ∨ ∃ k, decAt 0 zs = (k, 0) := by
    rcases dec_err zs 0 with h | h | h
    · exact .inr ⟨_, Prod.ext rfl h⟩
    · exact .inl ⟨3, rfl, rfl, h⟩
    · exact .inl ⟨60, rfl, rfl, h⟩
  have hcase1 : (∃ e, (e == 0) = false ∧ encZ i = ([], e)) ∨ (∃ bs, encZ i = (bs, 0) ∧ (shapeK i.op == 116) = false) ∨ (∃ bs n, encZ i = (bs, 0) ∧ shapeK i.op = 116 ∧ i.at_ = ((n : Nat) : Int) ∧ n ≤ 4096) := by
    rcases enc_err i with h | h | h
    · right
      have hE : encZ i = ((encZ i).1, 0) := Prod.ext rfl h
      by_cases hs : shapeK i.op = 116
      · obtain ⟨n, h1, h2⟩ := enc_leads hE hs
        exact .inr ⟨_, n, hE, hs, h1, h2⟩
      · exact .inl ⟨_, hE, by rw [beq_eq_false_iff_ne]; exact hs⟩
    · exact .inl ⟨60, rfl, h⟩
    · exact .inl ⟨1, rfl, h⟩
  rcases hcase1 with h1 | h1 | h1
  · obtain ⟨e1, he1, h1⟩ := h1
    rw [h1] at c1
    unfold valI at c1 ⊢
    have C1 := Lib.hid c1
    clear c1 h1 hir cS
    rcases hcase with hd | ⟨k, hd⟩
    · obtain ⟨e2, he, he', hd⟩ := hd
      rw [hd] at cD
      unfold valI zeroI at cD
      have CD := Lib.hid cD
      clear cD hd
      go_enter Try.func7, Try.ntmps7
      go_wp2_with (fail)
      refine (C1.out _).mono ?_
      rintro e w1 ⟨v1, rfl, hb1, ho1⟩
      have hx1 := ho1.heap HB0.out (fun h => h)
      have hon1 := HO0.out.trans ho1 (fun _ h _ => h)
      have HONP := Lib.hid hon1
      clear ho1 hx1 hon1 hb1 C1 HB0 HO0
      go_wp2_with (fail)
      refine (CD.out _ (Hb.out.only HONP.out (fun _ _ _ h => h))).mono ?_
      rintro e w6 ⟨rfl, ho6⟩
      have HON6 := Lib.hid ((HONP.out.trans ho6 (fun _ h _ => h)).trans ((Only.refl (fun _ => False) w6).alloc (.cells #[.int .i64 0, .int .i64 0, .int .i64 0, .int .i64 0, .int .i64 0] 29)) (fun _ h _ => h))
      clear ho6 CD HONP
      go_wp2_with (fail)
      refine (progAwake _).mono ?_
      rintro e w7 ⟨rfl, ho7⟩
      have HON7 := Lib.hid (HON6.out.trans ho7 (fun _ h _ => h))
      clear ho7
      go_wp2
      go_ret
      exact ⟨rfl, HON7.out.none⟩
    · rw [hd] at cD
      by_cases h0 : k.a < 0
      · unfold valI at cD
        have CD := Lib.hid cD
        clear cD hd
        go_enter Try.func7, Try.ntmps7
        go_wp2_with (fail)
        refine (C1.out _).mono ?_
        rintro e w1 ⟨v1, rfl, hb1, ho1⟩
        have hx1 := ho1.heap HB0.out (fun h => h)
        have hon1 := HO0.out.trans ho1 (fun _ h _ => h)
        have HONP := Lib.hid hon1
        clear ho1 hx1 hon1 hb1 C1 HB0 HO0
        go_wp2_with (fail)
        refine (CD.out _ (Hb.out.only HONP.out (fun _ _ _ h => h))).mono ?_
        rintro e w6 ⟨rfl, ho6⟩
        have HON6 := Lib.hid ((HONP.out.trans ho6 (fun _ h _ => h)).trans ((Only.refl (fun _ => False) w6).alloc (.cells #[.int .i64 k.at_, .int .i64 k.op, .int .i64 k.a, .int .i64 k.b, .int .i64 k.size] 29)) (fun _ h _ => h))
        clear ho6 CD HONP
        go_wp2_with (fail)
        refine (progAwake _).mono ?_
        rintro e w7 ⟨rfl, ho7⟩
        have HON7 := Lib.hid (HON6.out.trans ho7 (fun _ h _ => h))
        clear ho7
        go_wp2
        go_ret
        exact ⟨rfl, HON7.out.none⟩
      · by_cases h0' : 4096 < k.a
        · unfold valI at cD
          have CD := Lib.hid cD
          clear cD hd
          go_enter Try.func7, Try.ntmps7
          go_wp2_with (fail)
          refine (C1.out _).mono ?_
          rintro e w1 ⟨v1, rfl, hb1, ho1⟩
          have hx1 := ho1.heap HB0.out (fun h => h)
          have hon1 := HO0.out.trans ho1 (fun _ h _ => h)
          have HONP := Lib.hid hon1
          clear ho1 hx1 hon1 hb1 C1 HB0 HO0
          go_wp2_with (fail)
          refine (CD.out _ (Hb.out.only HONP.out (fun _ _ _ h => h))).mono ?_
          rintro e w6 ⟨rfl, ho6⟩
          have HON6 := Lib.hid ((HONP.out.trans ho6 (fun _ h _ => h)).trans ((Only.refl (fun _ => False) w6).alloc (.cells #[.int .i64 k.at_, .int .i64 k.op, .int .i64 k.a, .int .i64 k.b, .int .i64 k.size] 29)) (fun _ h _ => h))
          clear ho6 CD HONP
          go_wp2_with (fail)
          refine (progAwake _).mono ?_
          rintro e w7 ⟨rfl, ho7⟩
          have HON7 := Lib.hid (HON6.out.trans ho7 (fun _ h _ => h))
          clear ho7
          go_wp2
          go_ret
          exact ⟨rfl, HON7.out.none⟩
        · replace h0 : 0 ≤ k.a := by omega
          replace h0' : k.a ≤ 4096 := by omega
          obtain ⟨h1, h2, h3⟩ := dec_enc HBZ.out hd h0 h0'
          have hkr := dec_R hd HBZ.out h0 h0'
          have hs := (dec_size hd).2.1
          obtain ⟨m, hm⟩ : ∃ m : Nat, k.size = m := ⟨k.size.toNat, by omega⟩
          have hm1 : 1 ≤ m := by rw [hm] at hs; split at hs <;> (try split at hs) <;> omega
          have cE := fun w' => progEncode k w' hkr
          rw [hm, Int.toNat_natCast] at h1 h2
          rw [h1] at cE
          obtain ⟨g, o, rfl⟩ := Hb.out.addr (by omega)
          have hbn := Bytes.first Hb.out m h2
          have hmc : m ≤ cap := by omega
          have hmz : (m : Int) ≤ (cap : Int) := by omega
          have hm0 : (0 : Int) ≤ (m : Int) := by omega
          unfold valI at cD cE
          rw [hm] at cD cE
          have HBN := Lib.hid hbn
          have CD := Lib.hid cD
          have CE := Lib.hid cE
          clear cD cE hbn hd hkr hs h1 h2 h3 hm
          go_enter Try.func7, Try.ntmps7
          go_wp2_with (fail)
          refine (C1.out _).mono ?_
          rintro e w1 ⟨v1, rfl, hb1, ho1⟩
          have hx1 := ho1.heap HB0.out (fun h => h)
          have hon1 := HO0.out.trans ho1 (fun _ h _ => h)
          have HONP := Lib.hid hon1
          clear ho1 hx1 hon1 hb1 C1 HB0 HO0
          go_wp2_with (fail)
          refine (CD.out _ (Hb.out.only HONP.out (fun _ _ _ h => h))).mono ?_
          rintro e w6 ⟨rfl, ho6⟩
          have hal := (Only.refl (fun _ => False) w6).alloc (.cells #[.int .i64 k.at_, .int .i64 k.op, .int .i64 k.a, .int .i64 k.b, .int .i64 (m : Int)] 29)
          have hk6 := heap_alloc_new w6 (.cells #[.int .i64 k.at_, .int .i64 k.op, .int .i64 k.a, .int .i64 k.b, .int .i64 (m : Int)] 29)
          have hon6 := (HONP.out.trans ho6 (fun _ h _ => h)).trans hal (fun _ h _ => h)
          have HK6 := Lib.hid hk6
          have HON6 := Lib.hid hon6
          clear ho6 hal hk6 hon6 CD HONP
          go_wp2_with (fail)
          refine (CE.out _).mono ?_
          rintro e w7 ⟨v7, rfl, hb7, ho7⟩
          have hk7 := ho7.heap HK6.out (fun h => h)
          have hon7 := HON6.out.trans ho7 (fun _ h _ => h)
          have e1 := fun n => conv8 (hb7.only ((Only.refl (fun _ => False) w7).drewN n) (fun _ _ _ h => h))
          have e2 := fun n => conv8 (HBN.out.only (hon7.drewN n) (fun _ _ _ h => h))
          obtain ⟨q0, q1, q2, q3, q4⟩ := cells5 hk7
          have HON7 := Lib.hid hon7
          clear ho7 hk7 hon7 hb7 HK6 HON6 CE
          go_wp2
          go_quiet (fail)
          go_wp2
          go_ret
          exact ⟨rfl, (HON7.out.drewN _).none⟩
  · obtain ⟨bs, h1, hs1⟩ := h1
    have hbl := enc_len h1
    have hed := enc_dec h1 0 (fun h => by unfold leadsZ at h; rw [hs1] at h; cases h) []
    rw [List.append_nil] at hed
    have cDx := fun w' v hb' => progDecode v (List.replicate 0 0 ++ bs) 0 w' hb' (by simp; omega)
    rw [show decZ (List.replicate 0 0 ++ bs) 0 = decAt 0 bs from decZn 0 bs, hed] at cDx
    rw [h1] at c1
    have hsk : isK i.op = true := by obtain ⟨c, hc, _⟩ := enc_ok h1; exact (shape_of hc).2.1
    rw [hsk] at cS
    generalize shapeK i.op = s at *
    unfold valI at c1 cDx ⊢
    have C1 := Lib.hid c1
    have CS := Lib.hid cS
    have CDX := Lib.hid cDx
    have HBL := Lib.hid hbl
    clear c1 cS cDx h1 hir hbl hed hsk
    rcases hcase with hd | ⟨k, hd⟩
    · obtain ⟨e2, he, he', hd⟩ := hd
      rw [hd] at cD
      unfold valI zeroI at cD
      have CD := Lib.hid cD
      clear cD hd
      go_enter Try.func7, Try.ntmps7
      go_wp2_with (fail)
      refine (C1.out _).mono ?_
      rintro e w1 ⟨v1, rfl, hb1, ho1⟩
      have hx1 := ho1.heap HB0.out (fun h => h)
      have hon1 := HO0.out.trans ho1 (fun _ h _ => h)
      obtain ⟨ax, cx, rfl, hx2, hx3, hx4, hbx, hcx⟩ := id hb1
      have Hb1 := Lib.hid hb1
      obtain ⟨q0, q1, q2, q3, q4⟩ := cells5 hx1
      have HX1 := Lib.hid hx1
      have HON1 := Lib.hid hon1
      clear ho1 hx1 hon1 hb1 C1 HB0 HO0 hx2 hx3 hx4 hcx
      go_wp2_with (fail)
      refine (CS.out _).mono ?_
      rintro e w2 ⟨rfl, ho2⟩
      have hx2 := ho2.heap HX1.out (fun h => h)
      have hon2 := HON1.out.trans ho2 (fun _ h _ => h)
      have HSX := Lib.hid (Src.of_bytes (Hb1.out.only ho2 (fun _ _ _ h => h)))
      have HMR := Lib.hid (made_row2 w2 0 (by omega))
      clear q0 q1 q2 q3 q4
      obtain ⟨q0, q1, q2, q3, q4⟩ := cells5 hx2
      have HX2 := Lib.hid hx2
      have HON2 := Lib.hid hon2
      have hmk : ∀ w, (Instr.makeSlice 27 (.int .i64 0) (.int .i64 0)).run Try.prog w = .ok (.slice (some ⟨w.heap.size, 0, none⟩) 0 0) (w.alloc (.cells (madeCells #[.int .u8 0] 0) 5)) := run_mk 0 (by omega)
      clear ho2 hx2 hon2 HX1 HON1 CS Hb1
      go_wp2_with (at_builtin; go_loud (refine wpList_append_src rfl (.tmp 35) (.tmp 36) 27 rfl 5 i0 (.int .u8 0) 1 1 Try.underlying27 hi hz0 hz1 hz2 rfl (by decide) w2.heap.size (.slice (some ⟨w2.heap.size, 0, none⟩) 0 0) 0 ((List.replicate 0 0).map (Value.int .u8)) rfl (by exact HMR.out) (by simp) (.slice ax bs.length cx) bs.length (bs.map (Value.int .u8)) rfl (by exact HSX.out.alloc _) (by unfold maxLen; have := HBL.out; omega) (by have := HBL.out; omega) ?_); intro v3 w3 hown hgrow hnew; have hto := RowTo.of (w := w2.alloc (.cells (madeCells #[.int .u8 0] 0) 5)) (ys := List.replicate 0 0) (zs := bs) (Only.refl _ _) (by simpa using hown) hgrow hnew; clear hown hgrow hnew)
      have hxz : Bytish (List.replicate 0 0 ++ bs) := (rep_byte 0).append hbx
      have ho3 : Only (fun _ => False) w2 w3 := ((Only.refl (fun _ => False) w2).alloc (.cells (madeCells #[.int .u8 0] 0) 5)).trans hto.2.1 (fun j hj hl => by have hj' : w2.heap.size = j := (by simpa [Value.ownBlock] using hj); omega)
      refine (CDX.out _ _ (hto.1.bytes hxz)).mono ?_
      rintro e w4 ⟨rfl, ho4⟩
      have hal := (Only.refl (fun _ => False) w4).alloc (.cells #[.int .i64 0, .int .i64 i.op, .int .i64 i.a, .int .i64 i.b, .int .i64 bs.length] 29)
      have hy5 := heap_alloc_new w4 (.cells #[.int .i64 0, .int .i64 i.op, .int .i64 i.a, .int .i64 i.b, .int .i64 bs.length] 29)
      have hx5 := hal.heap (ho4.heap (ho3.heap HX2.out (fun h => h)) (fun h => h)) (fun h => h)
      have hon5 := ((HON2.out.trans ho3 (fun _ h _ => h)).trans ho4 (fun _ h _ => h)).trans hal (fun _ h _ => h)
      clear q0 q1 q2 q3 q4 hmk hxz
      obtain ⟨q0, q1, q2, q3, q4⟩ := cells5 hx5
      obtain ⟨p0, p1, p2, p3, p4⟩ := cells5 hy5
      have HONP := Lib.hid hon5
      clear hto ho3 ho4 hal hy5 hx5 hon5 HX2 HON2 HSX HMR CDX
      go_wp2_with (fail)
      refine (CD.out _ (Hb.out.only HONP.out (fun _ _ _ h => h))).mono ?_
      rintro e w6 ⟨rfl, ho6⟩
      have HON6 := Lib.hid ((HONP.out.trans ho6 (fun _ h _ => h)).trans ((Only.refl (fun _ => False) w6).alloc (.cells #[.int .i64 0, .int .i64 0, .int .i64 0, .int .i64 0, .int .i64 0] 29)) (fun _ h _ => h))
      clear ho6 CD HONP
      go_wp2_with (fail)
      refine (progAwake _).mono ?_
      rintro e w7 ⟨rfl, ho7⟩
      have HON7 := Lib.hid (HON6.out.trans ho7 (fun _ h _ => h))
      clear ho7
      go_wp2
      go_ret
      exact ⟨rfl, HON7.out.none⟩
    · rw [hd] at cD
      by_cases h0 : k.a < 0
      · unfold valI at cD
        have CD := Lib.hid cD
        clear cD hd
        go_enter Try.func7, Try.ntmps7
        go_wp2_with (fail)
        refine (C1.out _).mono ?_
        rintro e w1 ⟨v1, rfl, hb1, ho1⟩
        have hx1 := ho1.heap HB0.out (fun h => h)
        have hon1 := HO0.out.trans ho1 (fun _ h _ => h)
        obtain ⟨ax, cx, rfl, hx2, hx3, hx4, hbx, hcx⟩ := id hb1
        have Hb1 := Lib.hid hb1
        obtain ⟨q0, q1, q2, q3, q4⟩ := cells5 hx1
        have HX1 := Lib.hid hx1
        have HON1 := Lib.hid hon1
        clear ho1 hx1 hon1 hb1 C1 HB0 HO0 hx2 hx3 hx4 hcx
        go_wp2_with (fail)
        refine (CS.out _).mono ?_
        rintro e w2 ⟨rfl, ho2⟩
        have hx2 := ho2.heap HX1.out (fun h => h)
        have hon2 := HON1.out.trans ho2 (fun _ h _ => h)
        have HSX := Lib.hid (Src.of_bytes (Hb1.out.only ho2 (fun _ _ _ h => h)))
        have HMR := Lib.hid (made_row2 w2 0 (by omega))
        clear q0 q1 q2 q3 q4
        obtain ⟨q0, q1, q2, q3, q4⟩ := cells5 hx2
        have HX2 := Lib.hid hx2
        have HON2 := Lib.hid hon2
        have hmk : ∀ w, (Instr.makeSlice 27 (.int .i64 0) (.int .i64 0)).run Try.prog w = .ok (.slice (some ⟨w.heap.size, 0, none⟩) 0 0) (w.alloc (.cells (madeCells #[.int .u8 0] 0) 5)) := run_mk 0 (by omega)
        clear ho2 hx2 hon2 HX1 HON1 CS Hb1
        go_wp2_with (at_builtin; go_loud (refine wpList_append_src rfl (.tmp 35) (.tmp 36) 27 rfl 5 i0 (.int .u8 0) 1 1 Try.underlying27 hi hz0 hz1 hz2 rfl (by decide) w2.heap.size (.slice (some ⟨w2.heap.size, 0, none⟩) 0 0) 0 ((List.replicate 0 0).map (Value.int .u8)) rfl (by exact HMR.out) (by simp) (.slice ax bs.length cx) bs.length (bs.map (Value.int .u8)) rfl (by exact HSX.out.alloc _) (by unfold maxLen; have := HBL.out; omega) (by have := HBL.out; omega) ?_); intro v3 w3 hown hgrow hnew; have hto := RowTo.of (w := w2.alloc (.cells (madeCells #[.int .u8 0] 0) 5)) (ys := List.replicate 0 0) (zs := bs) (Only.refl _ _) (by simpa using hown) hgrow hnew; clear hown hgrow hnew)
        have hxz : Bytish (List.replicate 0 0 ++ bs) := (rep_byte 0).append hbx
        have ho3 : Only (fun _ => False) w2 w3 := ((Only.refl (fun _ => False) w2).alloc (.cells (madeCells #[.int .u8 0] 0) 5)).trans hto.2.1 (fun j hj hl => by have hj' : w2.heap.size = j := (by simpa [Value.ownBlock] using hj); omega)
        refine (CDX.out _ _ (hto.1.bytes hxz)).mono ?_
        rintro e w4 ⟨rfl, ho4⟩
        have hal := (Only.refl (fun _ => False) w4).alloc (.cells #[.int .i64 0, .int .i64 i.op, .int .i64 i.a, .int .i64 i.b, .int .i64 bs.length] 29)
        have hy5 := heap_alloc_new w4 (.cells #[.int .i64 0, .int .i64 i.op, .int .i64 i.a, .int .i64 i.b, .int .i64 bs.length] 29)
        have hx5 := hal.heap (ho4.heap (ho3.heap HX2.out (fun h => h)) (fun h => h)) (fun h => h)
        have hon5 := ((HON2.out.trans ho3 (fun _ h _ => h)).trans ho4 (fun _ h _ => h)).trans hal (fun _ h _ => h)
        clear q0 q1 q2 q3 q4 hmk hxz
        obtain ⟨q0, q1, q2, q3, q4⟩ := cells5 hx5
        obtain ⟨p0, p1, p2, p3, p4⟩ := cells5 hy5
        have HONP := Lib.hid hon5
        clear hto ho3 ho4 hal hy5 hx5 hon5 HX2 HON2 HSX HMR CDX
        go_wp2_with (fail)
        refine (CD.out _ (Hb.out.only HONP.out (fun _ _ _ h => h))).mono ?_
        rintro e w6 ⟨rfl, ho6⟩
        have HON6 := Lib.hid ((HONP.out.trans ho6 (fun _ h _ => h)).trans ((Only.refl (fun _ => False) w6).alloc (.cells #[.int .i64 k.at_, .int .i64 k.op, .int .i64 k.a, .int .i64 k.b, .int .i64 k.size] 29)) (fun _ h _ => h))
        clear ho6 CD HONP
        go_wp2_with (fail)
        refine (progAwake _).mono ?_
        rintro e w7 ⟨rfl, ho7⟩
        have HON7 := Lib.hid (HON6.out.trans ho7 (fun _ h _ => h))
        clear ho7
        go_wp2
        go_ret
        exact ⟨rfl, HON7.out.none⟩
      · by_cases h0' : 4096 < k.a
        · unfold valI at cD
          have CD := Lib.hid cD
          clear cD hd
          go_enter Try.func7, Try.ntmps7
          go_wp2_with (fail)
          refine (C1.out _).mono ?_
          rintro e w1 ⟨v1, rfl, hb1, ho1⟩
          have hx1 := ho1.heap HB0.out (fun h => h)
          have hon1 := HO0.out.trans ho1 (fun _ h _ => h)
          obtain ⟨ax, cx, rfl, hx2, hx3, hx4, hbx, hcx⟩ := id hb1
          have Hb1 := Lib.hid hb1
          obtain ⟨q0, q1, q2, q3, q4⟩ := cells5 hx1
          have HX1 := Lib.hid hx1
          have HON1 := Lib.hid hon1
          clear ho1 hx1 hon1 hb1 C1 HB0 HO0 hx2 hx3 hx4 hcx
          go_wp2_with (fail)
          refine (CS.out _).mono ?_
          rintro e w2 ⟨rfl, ho2⟩
          have hx2 := ho2.heap HX1.out (fun h => h)
          have hon2 := HON1.out.trans ho2 (fun _ h _ => h)
          have HSX := Lib.hid (Src.of_bytes (Hb1.out.only ho2 (fun _ _ _ h => h)))
          have HMR := Lib.hid (made_row2 w2 0 (by omega))
          clear q0 q1 q2 q3 q4
          obtain ⟨q0, q1, q2, q3, q4⟩ := cells5 hx2
          have HX2 := Lib.hid hx2
          have HON2 := Lib.hid hon2
          have hmk : ∀ w, (Instr.makeSlice 27 (.int .i64 0) (.int .i64 0)).run Try.prog w = .ok (.slice (some ⟨w.heap.size, 0, none⟩) 0 0) (w.alloc (.cells (madeCells #[.int .u8 0] 0) 5)) := run_mk 0 (by omega)
          clear ho2 hx2 hon2 HX1 HON1 CS Hb1
          go_wp2_with (at_builtin; go_loud (refine wpList_append_src rfl (.tmp 35) (.tmp 36) 27 rfl 5 i0 (.int .u8 0) 1 1 Try.underlying27 hi hz0 hz1 hz2 rfl (by decide) w2.heap.size (.slice (some ⟨w2.heap.size, 0, none⟩) 0 0) 0 ((List.replicate 0 0).map (Value.int .u8)) rfl (by exact HMR.out) (by simp) (.slice ax bs.length cx) bs.length (bs.map (Value.int .u8)) rfl (by exact HSX.out.alloc _) (by unfold maxLen; have := HBL.out; omega) (by have := HBL.out; omega) ?_); intro v3 w3 hown hgrow hnew; have hto := RowTo.of (w := w2.alloc (.cells (madeCells #[.int .u8 0] 0) 5)) (ys := List.replicate 0 0) (zs := bs) (Only.refl _ _) (by simpa using hown) hgrow hnew; clear hown hgrow hnew)
          have hxz : Bytish (List.replicate 0 0 ++ bs) := (rep_byte 0).append hbx
          have ho3 : Only (fun _ => False) w2 w3 := ((Only.refl (fun _ => False) w2).alloc (.cells (madeCells #[.int .u8 0] 0) 5)).trans hto.2.1 (fun j hj hl => by have hj' : w2.heap.size = j := (by simpa [Value.ownBlock] using hj); omega)
          refine (CDX.out _ _ (hto.1.bytes hxz)).mono ?_
          rintro e w4 ⟨rfl, ho4⟩
          have hal := (Only.refl (fun _ => False) w4).alloc (.cells #[.int .i64 0, .int .i64 i.op, .int .i64 i.a, .int .i64 i.b, .int .i64 bs.length] 29)
          have hy5 := heap_alloc_new w4 (.cells #[.int .i64 0, .int .i64 i.op, .int .i64 i.a, .int .i64 i.b, .int .i64 bs.length] 29)
          have hx5 := hal.heap (ho4.heap (ho3.heap HX2.out (fun h => h)) (fun h => h)) (fun h => h)
          have hon5 := ((HON2.out.trans ho3 (fun _ h _ => h)).trans ho4 (fun _ h _ => h)).trans hal (fun _ h _ => h)
          clear q0 q1 q2 q3 q4 hmk hxz
          obtain ⟨q0, q1, q2, q3, q4⟩ := cells5 hx5
          obtain ⟨p0, p1, p2, p3, p4⟩ := cells5 hy5
          have HONP := Lib.hid hon5
          clear hto ho3 ho4 hal hy5 hx5 hon5 HX2 HON2 HSX HMR CDX
          go_wp2_with (fail)
          refine (CD.out _ (Hb.out.only HONP.out (fun _ _ _ h => h))).mono ?_
          rintro e w6 ⟨rfl, ho6⟩
          have HON6 := Lib.hid ((HONP.out.trans ho6 (fun _ h _ => h)).trans ((Only.refl (fun _ => False) w6).alloc (.cells #[.int .i64 k.at_, .int .i64 k.op, .int .i64 k.a, .int .i64 k.b, .int .i64 k.size] 29)) (fun _ h _ => h))
          clear ho6 CD HONP
          go_wp2_with (fail)
          refine (progAwake _).mono ?_
          rintro e w7 ⟨rfl, ho7⟩
          have HON7 := Lib.hid (HON6.out.trans ho7 (fun _ h _ => h))
          clear ho7
          go_wp2
          go_ret
          exact ⟨rfl, HON7.out.none⟩
        · replace h0 : 0 ≤ k.a := by omega
          replace h0' : k.a ≤ 4096 := by omega
          obtain ⟨h1, h2, h3⟩ := dec_enc HBZ.out hd h0 h0'
          have hkr := dec_R hd HBZ.out h0 h0'
          have hs := (dec_size hd).2.1
          obtain ⟨m, hm⟩ : ∃ m : Nat, k.size = m := ⟨k.size.toNat, by omega⟩
          have hm1 : 1 ≤ m := by rw [hm] at hs; split at hs <;> (try split at hs) <;> omega
          have cE := fun w' => progEncode k w' hkr
          rw [hm, Int.toNat_natCast] at h1 h2
          rw [h1] at cE
          obtain ⟨g, o, rfl⟩ := Hb.out.addr (by omega)
          have hbn := Bytes.first Hb.out m h2
          have hmc : m ≤ cap := by omega
          have hmz : (m : Int) ≤ (cap : Int) := by omega
          have hm0 : (0 : Int) ≤ (m : Int) := by omega
          unfold valI at cD cE
          rw [hm] at cD cE
          have HBN := Lib.hid hbn
          have CD := Lib.hid cD
          have CE := Lib.hid cE
          clear cD cE hbn hd hkr hs h1 h2 h3 hm
          go_enter Try.func7, Try.ntmps7
          go_wp2_with (fail)
          refine (C1.out _).mono ?_
          rintro e w1 ⟨v1, rfl, hb1, ho1⟩
          have hx1 := ho1.heap HB0.out (fun h => h)
          have hon1 := HO0.out.trans ho1 (fun _ h _ => h)
          obtain ⟨ax, cx, rfl, hx2, hx3, hx4, hbx, hcx⟩ := id hb1
          have Hb1 := Lib.hid hb1
          obtain ⟨q0, q1, q2, q3, q4⟩ := cells5 hx1
          have HX1 := Lib.hid hx1
          have HON1 := Lib.hid hon1
          clear ho1 hx1 hon1 hb1 C1 HB0 HO0 hx2 hx3 hx4 hcx
          go_wp2_with (fail)
          refine (CS.out _).mono ?_
          rintro e w2 ⟨rfl, ho2⟩
          have hx2 := ho2.heap HX1.out (fun h => h)
          have hon2 := HON1.out.trans ho2 (fun _ h _ => h)
          have HSX := Lib.hid (Src.of_bytes (Hb1.out.only ho2 (fun _ _ _ h => h)))
          have HMR := Lib.hid (made_row2 w2 0 (by omega))
          clear q0 q1 q2 q3 q4
          obtain ⟨q0, q1, q2, q3, q4⟩ := cells5 hx2
          have HX2 := Lib.hid hx2
          have HON2 := Lib.hid hon2
          have hmk : ∀ w, (Instr.makeSlice 27 (.int .i64 0) (.int .i64 0)).run Try.prog w = .ok (.slice (some ⟨w.heap.size, 0, none⟩) 0 0) (w.alloc (.cells (madeCells #[.int .u8 0] 0) 5)) := run_mk 0 (by omega)
          clear ho2 hx2 hon2 HX1 HON1 CS Hb1
          go_wp2_with (at_builtin; go_loud (refine wpList_append_src rfl (.tmp 35) (.tmp 36) 27 rfl 5 i0 (.int .u8 0) 1 1 Try.underlying27 hi hz0 hz1 hz2 rfl (by decide) w2.heap.size (.slice (some ⟨w2.heap.size, 0, none⟩) 0 0) 0 ((List.replicate 0 0).map (Value.int .u8)) rfl (by exact HMR.out) (by simp) (.slice ax bs.length cx) bs.length (bs.map (Value.int .u8)) rfl (by exact HSX.out.alloc _) (by unfold maxLen; have := HBL.out; omega) (by have := HBL.out; omega) ?_); intro v3 w3 hown hgrow hnew; have hto := RowTo.of (w := w2.alloc (.cells (madeCells #[.int .u8 0] 0) 5)) (ys := List.replicate 0 0) (zs := bs) (Only.refl _ _) (by simpa using hown) hgrow hnew; clear hown hgrow hnew)
          have hxz : Bytish (List.replicate 0 0 ++ bs) := (rep_byte 0).append hbx
          have ho3 : Only (fun _ => False) w2 w3 := ((Only.refl (fun _ => False) w2).alloc (.cells (madeCells #[.int .u8 0] 0) 5)).trans hto.2.1 (fun j hj hl => by have hj' : w2.heap.size = j := (by simpa [Value.ownBlock] using hj); omega)
          refine (CDX.out _ _ (hto.1.bytes hxz)).mono ?_
          rintro e w4 ⟨rfl, ho4⟩
          have hal := (Only.refl (fun _ => False) w4).alloc (.cells #[.int .i64 0, .int .i64 i.op, .int .i64 i.a, .int .i64 i.b, .int .i64 bs.length] 29)
          have hy5 := heap_alloc_new w4 (.cells #[.int .i64 0, .int .i64 i.op, .int .i64 i.a, .int .i64 i.b, .int .i64 bs.length] 29)
          have hx5 := hal.heap (ho4.heap (ho3.heap HX2.out (fun h => h)) (fun h => h)) (fun h => h)
          have hon5 := ((HON2.out.trans ho3 (fun _ h _ => h)).trans ho4 (fun _ h _ => h)).trans hal (fun _ h _ => h)
          clear q0 q1 q2 q3 q4 hmk hxz
          obtain ⟨q0, q1, q2, q3, q4⟩ := cells5 hx5
          obtain ⟨p0, p1, p2, p3, p4⟩ := cells5 hy5
          have HONP := Lib.hid hon5
          clear hto ho3 ho4 hal hy5 hx5 hon5 HX2 HON2 HSX HMR CDX
          go_wp2_with (fail)
          refine (CD.out _ (Hb.out.only HONP.out (fun _ _ _ h => h))).mono ?_
          rintro e w6 ⟨rfl, ho6⟩
          have hal := (Only.refl (fun _ => False) w6).alloc (.cells #[.int .i64 k.at_, .int .i64 k.op, .int .i64 k.a, .int .i64 k.b, .int .i64 (m : Int)] 29)
          have hk6 := heap_alloc_new w6 (.cells #[.int .i64 k.at_, .int .i64 k.op, .int .i64 k.a, .int .i64 k.b, .int .i64 (m : Int)] 29)
          have hon6 := (HONP.out.trans ho6 (fun _ h _ => h)).trans hal (fun _ h _ => h)
          have HK6 := Lib.hid hk6
          have HON6 := Lib.hid hon6
          clear ho6 hal hk6 hon6 CD HONP
          go_wp2_with (fail)
          refine (CE.out _).mono ?_
          rintro e w7 ⟨v7, rfl, hb7, ho7⟩
          have hk7 := ho7.heap HK6.out (fun h => h)
          have hon7 := HON6.out.trans ho7 (fun _ h _ => h)
          have e1 := fun n => conv8 (hb7.only ((Only.refl (fun _ => False) w7).drewN n) (fun _ _ _ h => h))
          have e2 := fun n => conv8 (HBN.out.only (hon7.drewN n) (fun _ _ _ h => h))
          obtain ⟨q0, q1, q2, q3, q4⟩ := cells5 hk7
          have HON7 := Lib.hid hon7
          clear ho7 hk7 hon7 hb7 HK6 HON6 CE
          go_wp2
          go_quiet (fail)
          go_wp2
          go_ret
          exact ⟨rfl, (HON7.out.drewN _).none⟩
  · obtain ⟨bs, n, h1, hs1, hat, hn⟩ := h1
    have hbl := enc_len h1
    have hed := enc_dec h1 (n : Int) (fun _ => hat.symm) []
    rw [List.append_nil] at hed
    have cDx := fun w' v hb' => progDecode v (List.replicate n 0 ++ bs) (n : Int) w' hb' (by simp; omega)
    rw [decZn n bs, hed] at cDx
    rw [h1] at c1
    have hsk : isK i.op = true := by obtain ⟨c, hc, _⟩ := enc_ok h1; exact (shape_of hc).2.1
    rw [hsk, hs1] at cS
    unfold valI at c1 cDx ⊢
    rw [hat] at c1 HB0 HO0 ⊢
    have C1 := Lib.hid c1
    have CS := Lib.hid cS
    have CDX := Lib.hid cDx
    have HBL := Lib.hid hbl
    clear c1 cS cDx h1 hir hbl hed hsk hs1 hat
    rcases hcase with hd | ⟨k, hd⟩
    · obtain ⟨e2, he, he', hd⟩ := hd
      rw [hd] at cD
      unfold valI zeroI at cD
      have CD := Lib.hid cD
      clear cD hd
      go_enter Try.func7, Try.ntmps7
      go_wp2_with (fail)
      refine (C1.out _).mono ?_
      rintro e w1 ⟨v1, rfl, hb1, ho1⟩
      have hx1 := ho1.heap HB0.out (fun h => h)
      have hon1 := HO0.out.trans ho1 (fun _ h _ => h)
      obtain ⟨ax, cx, rfl, hx2, hx3, hx4, hbx, hcx⟩ := id hb1
      have Hb1 := Lib.hid hb1
      obtain ⟨q0, q1, q2, q3, q4⟩ := cells5 hx1
      have HX1 := Lib.hid hx1
      have HON1 := Lib.hid hon1
      clear ho1 hx1 hon1 hb1 C1 HB0 HO0 hx2 hx3 hx4 hcx
      go_wp2_with (fail)
      refine (CS.out _).mono ?_
      rintro e w2 ⟨rfl, ho2⟩
      have hx2 := ho2.heap HX1.out (fun h => h)
      have hon2 := HON1.out.trans ho2 (fun _ h _ => h)
      have HSX := Lib.hid (Src.of_bytes (Hb1.out.only ho2 (fun _ _ _ h => h)))
      have HMR := Lib.hid (made_row2 w2 n (by omega))
      clear q0 q1 q2 q3 q4
      obtain ⟨q0, q1, q2, q3, q4⟩ := cells5 hx2
      have HX2 := Lib.hid hx2
      have HON2 := Lib.hid hon2
      have hmk : ∀ w, (Instr.makeSlice 27 (.int .i64 (n : Int)) (.int .i64 (n : Int))).run Try.prog w = .ok (.slice (some ⟨w.heap.size, 0, none⟩) n n) (w.alloc (.cells (madeCells #[.int .u8 0] n) 5)) := run_mk n (by omega)
      clear ho2 hx2 hon2 HX1 HON1 CS Hb1
      go_wp2_with (at_builtin; go_loud (refine wpList_append_src rfl (.tmp 35) (.tmp 36) 27 rfl 5 i0 (.int .u8 0) 1 1 Try.underlying27 hi hz0 hz1 hz2 rfl (by decide) w2.heap.size (.slice (some ⟨w2.heap.size, 0, none⟩) n n) n ((List.replicate n 0).map (Value.int .u8)) rfl (by exact HMR.out) (by simp) (.slice ax bs.length cx) bs.length (bs.map (Value.int .u8)) rfl (by exact HSX.out.alloc _) (by unfold maxLen; have := HBL.out; omega) (by have := HBL.out; omega) ?_); intro v3 w3 hown hgrow hnew; have hto := RowTo.of (w := w2.alloc (.cells (madeCells #[.int .u8 0] n) 5)) (ys := List.replicate n 0) (zs := bs) (Only.refl _ _) (by simpa using hown) hgrow hnew; clear hown hgrow hnew)
      have hxz : Bytish (List.replicate n 0 ++ bs) := (rep_byte n).append hbx
      have ho3 : Only (fun _ => False) w2 w3 := ((Only.refl (fun _ => False) w2).alloc (.cells (madeCells #[.int .u8 0] n) 5)).trans hto.2.1 (fun j hj hl => by have hj' : w2.heap.size = j := (by simpa [Value.ownBlock] using hj); omega)
      refine (CDX.out _ _ (hto.1.bytes hxz)).mono ?_
      rintro e w4 ⟨rfl, ho4⟩
      have hal := (Only.refl (fun _ => False) w4).alloc (.cells #[.int .i64 (n : Int), .int .i64 i.op, .int .i64 i.a, .int .i64 i.b, .int .i64 bs.length] 29)
      have hy5 := heap_alloc_new w4 (.cells #[.int .i64 (n : Int), .int .i64 i.op, .int .i64 i.a, .int .i64 i.b, .int .i64 bs.length] 29)
      have hx5 := hal.heap (ho4.heap (ho3.heap HX2.out (fun h => h)) (fun h => h)) (fun h => h)
      have hon5 := ((HON2.out.trans ho3 (fun _ h _ => h)).trans ho4 (fun _ h _ => h)).trans hal (fun _ h _ => h)
      clear q0 q1 q2 q3 q4 hmk hxz
      obtain ⟨q0, q1, q2, q3, q4⟩ := cells5 hx5
      obtain ⟨p0, p1, p2, p3, p4⟩ := cells5 hy5
      have HONP := Lib.hid hon5
      clear hto ho3 ho4 hal hy5 hx5 hon5 HX2 HON2 HSX HMR CDX
      go_wp2_with (fail)
      refine (CD.out _ (Hb.out.only HONP.out (fun _ _ _ h => h))).mono ?_
      rintro e w6 ⟨rfl, ho6⟩
      have HON6 := Lib.hid ((HONP.out.trans ho6 (fun _ h _ => h)).trans ((Only.refl (fun _ => False) w6).alloc (.cells #[.int .i64 0, .int .i64 0, .int .i64 0, .int .i64 0, .int .i64 0] 29)) (fun _ h _ => h))
      clear ho6 CD HONP
      go_wp2_with (fail)
      refine (progAwake _).mono ?_
      rintro e w7 ⟨rfl, ho7⟩
      have HON7 := Lib.hid (HON6.out.trans ho7 (fun _ h _ => h))
      clear ho7
      go_wp2
      go_ret
      exact ⟨rfl, HON7.out.none⟩
    · rw [hd] at cD
      by_cases h0 : k.a < 0
      · unfold valI at cD
        have CD := Lib.hid cD
        clear cD hd
        go_enter Try.func7, Try.ntmps7
        go_wp2_with (fail)
        refine (C1.out _).mono ?_
        rintro e w1 ⟨v1, rfl, hb1, ho1⟩
        have hx1 := ho1.heap HB0.out (fun h => h)
        have hon1 := HO0.out.trans ho1 (fun _ h _ => h)
        obtain ⟨ax, cx, rfl, hx2, hx3, hx4, hbx, hcx⟩ := id hb1
        have Hb1 := Lib.hid hb1
        obtain ⟨q0, q1, q2, q3, q4⟩ := cells5 hx1
        have HX1 := Lib.hid hx1
        have HON1 := Lib.hid hon1
        clear ho1 hx1 hon1 hb1 C1 HB0 HO0 hx2 hx3 hx4 hcx
        go_wp2_with (fail)
        refine (CS.out _).mono ?_
        rintro e w2 ⟨rfl, ho2⟩
        have hx2 := ho2.heap HX1.out (fun h => h)
        have hon2 := HON1.out.trans ho2 (fun _ h _ => h)
        have HSX := Lib.hid (Src.of_bytes (Hb1.out.only ho2 (fun _ _ _ h => h)))
        have HMR := Lib.hid (made_row2 w2 n (by omega))
        clear q0 q1 q2 q3 q4
        obtain ⟨q0, q1, q2, q3, q4⟩ := cells5 hx2
        have HX2 := Lib.hid hx2
        have HON2 := Lib.hid hon2
        have hmk : ∀ w, (Instr.makeSlice 27 (.int .i64 (n : Int)) (.int .i64 (n : Int))).run Try.prog w = .ok (.slice (some ⟨w.heap.size, 0, none⟩) n n) (w.alloc (.cells (madeCells #[.int .u8 0] n) 5)) := run_mk n (by omega)
        clear ho2 hx2 hon2 HX1 HON1 CS Hb1
        go_wp2_with (at_builtin; go_loud (refine wpList_append_src rfl (.tmp 35) (.tmp 36) 27 rfl 5 i0 (.int .u8 0) 1 1 Try.underlying27 hi hz0 hz1 hz2 rfl (by decide) w2.heap.size (.slice (some ⟨w2.heap.size, 0, none⟩) n n) n ((List.replicate n 0).map (Value.int .u8)) rfl (by exact HMR.out) (by simp) (.slice ax bs.length cx) bs.length (bs.map (Value.int .u8)) rfl (by exact HSX.out.alloc _) (by unfold maxLen; have := HBL.out; omega) (by have := HBL.out; omega) ?_); intro v3 w3 hown hgrow hnew; have hto := RowTo.of (w := w2.alloc (.cells (madeCells #[.int .u8 0] n) 5)) (ys := List.replicate n 0) (zs := bs) (Only.refl _ _) (by simpa using hown) hgrow hnew; clear hown hgrow hnew)
        have hxz : Bytish (List.replicate n 0 ++ bs) := (rep_byte n).append hbx
        have ho3 : Only (fun _ => False) w2 w3 := ((Only.refl (fun _ => False) w2).alloc (.cells (madeCells #[.int .u8 0] n) 5)).trans hto.2.1 (fun j hj hl => by have hj' : w2.heap.size = j := (by simpa [Value.ownBlock] using hj); omega)
        refine (CDX.out _ _ (hto.1.bytes hxz)).mono ?_
        rintro e w4 ⟨rfl, ho4⟩
        have hal := (Only.refl (fun _ => False) w4).alloc (.cells #[.int .i64 (n : Int), .int .i64 i.op, .int .i64 i.a, .int .i64 i.b, .int .i64 bs.length] 29)
        have hy5 := heap_alloc_new w4 (.cells #[.int .i64 (n : Int), .int .i64 i.op, .int .i64 i.a, .int .i64 i.b, .int .i64 bs.length] 29)
        have hx5 := hal.heap (ho4.heap (ho3.heap HX2.out (fun h => h)) (fun h => h)) (fun h => h)
        have hon5 := ((HON2.out.trans ho3 (fun _ h _ => h)).trans ho4 (fun _ h _ => h)).trans hal (fun _ h _ => h)
        clear q0 q1 q2 q3 q4 hmk hxz
        obtain ⟨q0, q1, q2, q3, q4⟩ := cells5 hx5
        obtain ⟨p0, p1, p2, p3, p4⟩ := cells5 hy5
        have HONP := Lib.hid hon5
        clear hto ho3 ho4 hal hy5 hx5 hon5 HX2 HON2 HSX HMR CDX
        go_wp2_with (fail)
        refine (CD.out _ (Hb.out.only HONP.out (fun _ _ _ h => h))).mono ?_
        rintro e w6 ⟨rfl, ho6⟩
        have HON6 := Lib.hid ((HONP.out.trans ho6 (fun _ h _ => h)).trans ((Only.refl (fun _ => False) w6).alloc (.cells #[.int .i64 k.at_, .int .i64 k.op, .int .i64 k.a, .int .i64 k.b, .int .i64 k.size] 29)) (fun _ h _ => h))
        clear ho6 CD HONP
        go_wp2_with (fail)
        refine (progAwake _).mono ?_
        rintro e w7 ⟨rfl, ho7⟩
        have HON7 := Lib.hid (HON6.out.trans ho7 (fun _ h _ => h))
        clear ho7
        go_wp2
        go_ret
        exact ⟨rfl, HON7.out.none⟩
      · by_cases h0' : 4096 < k.a
        · unfold valI at cD
          have CD := Lib.hid cD
          clear cD hd
          go_enter Try.func7, Try.ntmps7
          go_wp2_with (fail)
          refine (C1.out _).mono ?_
          rintro e w1 ⟨v1, rfl, hb1, ho1⟩
          have hx1 := ho1.heap HB0.out (fun h => h)
          have hon1 := HO0.out.trans ho1 (fun _ h _ => h)
          obtain ⟨ax, cx, rfl, hx2, hx3, hx4, hbx, hcx⟩ := id hb1
          have Hb1 := Lib.hid hb1
          obtain ⟨q0, q1, q2, q3, q4⟩ := cells5 hx1
          have HX1 := Lib.hid hx1
          have HON1 := Lib.hid hon1
          clear ho1 hx1 hon1 hb1 C1 HB0 HO0 hx2 hx3 hx4 hcx
          go_wp2_with (fail)
          refine (CS.out _).mono ?_
          rintro e w2 ⟨rfl, ho2⟩
          have hx2 := ho2.heap HX1.out (fun h => h)
          have hon2 := HON1.out.trans ho2 (fun _ h _ => h)
          have HSX := Lib.hid (Src.of_bytes (Hb1.out.only ho2 (fun _ _ _ h => h)))
          have HMR := Lib.hid (made_row2 w2 n (by omega))
          clear q0 q1 q2 q3 q4
          obtain ⟨q0, q1, q2, q3, q4⟩ := cells5 hx2
          have HX2 := Lib.hid hx2
          have HON2 := Lib.hid hon2
          have hmk : ∀ w, (Instr.makeSlice 27 (.int .i64 (n : Int)) (.int .i64 (n : Int))).run Try.prog w = .ok (.slice (some ⟨w.heap.size, 0, none⟩) n n) (w.alloc (.cells (madeCells #[.int .u8 0] n) 5)) := run_mk n (by omega)
          clear ho2 hx2 hon2 HX1 HON1 CS Hb1
          go_wp2_with (at_builtin; go_loud (refine wpList_append_src rfl (.tmp 35) (.tmp 36) 27 rfl 5 i0 (.int .u8 0) 1 1 Try.underlying27 hi hz0 hz1 hz2 rfl (by decide) w2.heap.size (.slice (some ⟨w2.heap.size, 0, none⟩) n n) n ((List.replicate n 0).map (Value.int .u8)) rfl (by exact HMR.out) (by simp) (.slice ax bs.length cx) bs.length (bs.map (Value.int .u8)) rfl (by exact HSX.out.alloc _) (by unfold maxLen; have := HBL.out; omega) (by have := HBL.out; omega) ?_); intro v3 w3 hown hgrow hnew; have hto := RowTo.of (w := w2.alloc (.cells (madeCells #[.int .u8 0] n) 5)) (ys := List.replicate n 0) (zs := bs) (Only.refl _ _) (by simpa using hown) hgrow hnew; clear hown hgrow hnew)
          have hxz : Bytish (List.replicate n 0 ++ bs) := (rep_byte n).append hbx
          have ho3 : Only (fun _ => False) w2 w3 := ((Only.refl (fun _ => False) w2).alloc (.cells (madeCells #[.int .u8 0] n) 5)).trans hto.2.1 (fun j hj hl => by have hj' : w2.heap.size = j := (by simpa [Value.ownBlock] using hj); omega)
          refine (CDX.out _ _ (hto.1.bytes hxz)).mono ?_
          rintro e w4 ⟨rfl, ho4⟩
          have hal := (Only.refl (fun _ => False) w4).alloc (.cells #[.int .i64 (n : Int), .int .i64 i.op, .int .i64 i.a, .int .i64 i.b, .int .i64 bs.length] 29)
          have hy5 := heap_alloc_new w4 (.cells #[.int .i64 (n : Int), .int .i64 i.op, .int .i64 i.a, .int .i64 i.b, .int .i64 bs.length] 29)
          have hx5 := hal.heap (ho4.heap (ho3.heap HX2.out (fun h => h)) (fun h => h)) (fun h => h)
          have hon5 := ((HON2.out.trans ho3 (fun _ h _ => h)).trans ho4 (fun _ h _ => h)).trans hal (fun _ h _ => h)
          clear q0 q1 q2 q3 q4 hmk hxz
          obtain ⟨q0, q1, q2, q3, q4⟩ := cells5 hx5
          obtain ⟨p0, p1, p2, p3, p4⟩ := cells5 hy5
          have HONP := Lib.hid hon5
          clear hto ho3 ho4 hal hy5 hx5 hon5 HX2 HON2 HSX HMR CDX
          go_wp2_with (fail)
          refine (CD.out _ (Hb.out.only HONP.out (fun _ _ _ h => h))).mono ?_
          rintro e w6 ⟨rfl, ho6⟩
          have HON6 := Lib.hid ((HONP.out.trans ho6 (fun _ h _ => h)).trans ((Only.refl (fun _ => False) w6).alloc (.cells #[.int .i64 k.at_, .int .i64 k.op, .int .i64 k.a, .int .i64 k.b, .int .i64 k.size] 29)) (fun _ h _ => h))
          clear ho6 CD HONP
          go_wp2_with (fail)
          refine (progAwake _).mono ?_
          rintro e w7 ⟨rfl, ho7⟩
          have HON7 := Lib.hid (HON6.out.trans ho7 (fun _ h _ => h))
          clear ho7
          go_wp2
          go_ret
          exact ⟨rfl, HON7.out.none⟩
        · replace h0 : 0 ≤ k.a := by omega
          replace h0' : k.a ≤ 4096 := by omega
          obtain ⟨h1, h2, h3⟩ := dec_enc HBZ.out hd h0 h0'
          have hkr := dec_R hd HBZ.out h0 h0'
          have hs := (dec_size hd).2.1
          obtain ⟨m, hm⟩ : ∃ m : Nat, k.size = m := ⟨k.size.toNat, by omega⟩
          have hm1 : 1 ≤ m := by rw [hm] at hs; split at hs <;> (try split at hs) <;> omega
          have cE := fun w' => progEncode k w' hkr
          rw [hm, Int.toNat_natCast] at h1 h2
          rw [h1] at cE
          obtain ⟨g, o, rfl⟩ := Hb.out.addr (by omega)
          have hbn := Bytes.first Hb.out m h2
          have hmc : m ≤ cap := by omega
          have hmz : (m : Int) ≤ (cap : Int) := by omega
          have hm0 : (0 : Int) ≤ (m : Int) := by omega
          unfold valI at cD cE
          rw [hm] at cD cE
          have HBN := Lib.hid hbn
          have CD := Lib.hid cD
          have CE := Lib.hid cE
          clear cD cE hbn hd hkr hs h1 h2 h3 hm
          go_enter Try.func7, Try.ntmps7
          go_wp2_with (fail)
          refine (C1.out _).mono ?_
          rintro e w1 ⟨v1, rfl, hb1, ho1⟩
          have hx1 := ho1.heap HB0.out (fun h => h)
          have hon1 := HO0.out.trans ho1 (fun _ h _ => h)
          obtain ⟨ax, cx, rfl, hx2, hx3, hx4, hbx, hcx⟩ := id hb1
          have Hb1 := Lib.hid hb1
          obtain ⟨q0, q1, q2, q3, q4⟩ := cells5 hx1
          have HX1 := Lib.hid hx1
          have HON1 := Lib.hid hon1
          clear ho1 hx1 hon1 hb1 C1 HB0 HO0 hx2 hx3 hx4 hcx
          go_wp2_with (fail)
          refine (CS.out _).mono ?_
          rintro e w2 ⟨rfl, ho2⟩
          have hx2 := ho2.heap HX1.out (fun h => h)
          have hon2 := HON1.out.trans ho2 (fun _ h _ => h)
          have HSX := Lib.hid (Src.of_bytes (Hb1.out.only ho2 (fun _ _ _ h => h)))
          have HMR := Lib.hid (made_row2 w2 n (by omega))
          clear q0 q1 q2 q3 q4
          obtain ⟨q0, q1, q2, q3, q4⟩ := cells5 hx2
          have HX2 := Lib.hid hx2
          have HON2 := Lib.hid hon2
          have hmk : ∀ w, (Instr.makeSlice 27 (.int .i64 (n : Int)) (.int .i64 (n : Int))).run Try.prog w = .ok (.slice (some ⟨w.heap.size, 0, none⟩) n n) (w.alloc (.cells (madeCells #[.int .u8 0] n) 5)) := run_mk n (by omega)
          clear ho2 hx2 hon2 HX1 HON1 CS Hb1
          go_wp2_with (at_builtin; go_loud (refine wpList_append_src rfl (.tmp 35) (.tmp 36) 27 rfl 5 i0 (.int .u8 0) 1 1 Try.underlying27 hi hz0 hz1 hz2 rfl (by decide) w2.heap.size (.slice (some ⟨w2.heap.size, 0, none⟩) n n) n ((List.replicate n 0).map (Value.int .u8)) rfl (by exact HMR.out) (by simp) (.slice ax bs.length cx) bs.length (bs.map (Value.int .u8)) rfl (by exact HSX.out.alloc _) (by unfold maxLen; have := HBL.out; omega) (by have := HBL.out; omega) ?_); intro v3 w3 hown hgrow hnew; have hto := RowTo.of (w := w2.alloc (.cells (madeCells #[.int .u8 0] n) 5)) (ys := List.replicate n 0) (zs := bs) (Only.refl _ _) (by simpa using hown) hgrow hnew; clear hown hgrow hnew)
          have hxz : Bytish (List.replicate n 0 ++ bs) := (rep_byte n).append hbx
          have ho3 : Only (fun _ => False) w2 w3 := ((Only.refl (fun _ => False) w2).alloc (.cells (madeCells #[.int .u8 0] n) 5)).trans hto.2.1 (fun j hj hl => by have hj' : w2.heap.size = j := (by simpa [Value.ownBlock] using hj); omega)
          refine (CDX.out _ _ (hto.1.bytes hxz)).mono ?_
          rintro e w4 ⟨rfl, ho4⟩
          have hal := (Only.refl (fun _ => False) w4).alloc (.cells #[.int .i64 (n : Int), .int .i64 i.op, .int .i64 i.a, .int .i64 i.b, .int .i64 bs.length] 29)
          have hy5 := heap_alloc_new w4 (.cells #[.int .i64 (n : Int), .int .i64 i.op, .int .i64 i.a, .int .i64 i.b, .int .i64 bs.length] 29)
          have hx5 := hal.heap (ho4.heap (ho3.heap HX2.out (fun h => h)) (fun h => h)) (fun h => h)
          have hon5 := ((HON2.out.trans ho3 (fun _ h _ => h)).trans ho4 (fun _ h _ => h)).trans hal (fun _ h _ => h)
          clear q0 q1 q2 q3 q4 hmk hxz
          obtain ⟨q0, q1, q2, q3, q4⟩ := cells5 hx5
          obtain ⟨p0, p1, p2, p3, p4⟩ := cells5 hy5
          have HONP := Lib.hid hon5
          clear hto ho3 ho4 hal hy5 hx5 hon5 HX2 HON2 HSX HMR CDX
          go_wp2_with (fail)
          refine (CD.out _ (Hb.out.only HONP.out (fun _ _ _ h => h))).mono ?_
          rintro e w6 ⟨rfl, ho6⟩
          have hal := (Only.refl (fun _ => False) w6).alloc (.cells #[.int .i64 k.at_, .int .i64 k.op, .int .i64 k.a, .int .i64 k.b, .int .i64 (m : Int)] 29)
          have hk6 := heap_alloc_new w6 (.cells #[.int .i64 k.at_, .int .i64 k.op, .int .i64 k.a, .int .i64 k.b, .int .i64 (m : Int)] 29)
          have hon6 := (HONP.out.trans ho6 (fun _ h _ => h)).trans hal (fun _ h _ => h)
          have HK6 := Lib.hid hk6
          have HON6 := Lib.hid hon6
          clear ho6 hal hk6 hon6 CD HONP
          go_wp2_with (fail)
          refine (CE.out _).mono ?_
          rintro e w7 ⟨v7, rfl, hb7, ho7⟩
          have hk7 := ho7.heap HK6.out (fun h => h)
          have hon7 := HON6.out.trans ho7 (fun _ h _ => h)
          have e1 := fun n => conv8 (hb7.only ((Only.refl (fun _ => False) w7).drewN n) (fun _ _ _ h => h))
          have e2 := fun n => conv8 (HBN.out.only (hon7.drewN n) (fun _ _ _ h => h))
          obtain ⟨q0, q1, q2, q3, q4⟩ := cells5 hk7
          have HON7 := Lib.hid hon7
          clear ho7 hk7 hon7 hb7 HK6 HON6 CE
          go_wp2
          go_quiet (fail)
          go_wp2
          go_ret
          exact ⟨rfl, (HON7.out.drewN _).none⟩

theorem own : ownKnob Try.prog.godebug = none := by kernel_rfl
theorem laidOut : laidOutB Try.prog = true := by kernel_rfl

set_option maxRecDepth 100000 in
theorem lifted (os : Os) (started : os.Started) (H : Type) (enc : TypeId × Value → H) :
    ReturnsInHanded {} Try.checked os 7 .any (Rows.opsBackSpec.pre6 enc Try.prog Try.f7 Rows.opsBackRow.domain false) (Rows.opsBackSpec.post enc Try.prog Try.f7 false true false false) := by
  refine returnsInHanded_of_change_sized (C := Try.checked) own started (by kernel_rfl) Try.func7
    (ChangeSpec.witness6 (enc := enc) (C := Try.checked) false ⟨#[], #[.agg #[.int .i64 0, .int .i64 0, .int .i64 0, .int .i64 0, .int .i64 0], .slice none 0 0], []⟩ 8 (by kernel_rfl) (by kernel_rfl) (by kernel_rfl) (by kernel_rfl)) ?_
  intro W base args ds gs before hval0 hW hcnd hsz0 _
  have hsz : (DataW.weightsEach Try.prog (Try.f7.params.toList ++ Rows.opsBackSpec.plain.varTypes Try.prog) (ds ++ gs)).all (· ≤ reachBytes) = true := hsz0
  clear hsz0
  have hval : ∀ (j : Nat) t v, Try.f7.params[j]? = some t → args[j]? = some v → Value.okWide Try.prog W .any base t v := hval0
  have hW' := hW
  obtain ⟨p, q, hA0, hV, rfl, hfz, hnd⟩ := hW
  have hA : DataW.TrodAll enc Try.prog W 0 (fun _ => true) true Try.f7.params.toList args.toList ds p := hA0
  rw [Try.params7] at hA hval hsz
  obtain ⟨v0, vs0, d0, ds0, p0, q0, hargs, rfl, rfl, h0, r0⟩ := trodAll_cons hA
  obtain ⟨v1, vs1, d1, ds1, p1, q1, rfl, rfl, rfl, h1, r1⟩ := trodAll_cons r0
  obtain ⟨rfl, rfl, rfl⟩ := trodAll_nil r1
  obtain rfl : args = #[v0, v1] := by cases args; simp_all
  obtain ⟨rfl, rfl⟩ := trodVars_none hV
  have k0 := h0
  have lt0 : ∀ x ∈ p0, x.block < W.heap.size := by obtain ⟨m, hm⟩ := k0; exact DataW.trod_lt m _ _ _ hm
  have w0 := arg_instr (hval 0 29 v0 rfl rfl) h0 (light_arg (j := 0) hsz rfl rfl)
  have k1 := h1
  have lt1 : ∀ x ∈ p1, x.block < W.heap.size := by obtain ⟨m, hm⟩ := k1; exact DataW.trod_lt m _ _ _ hm
  have w1 := arg_bytes (hval 1 27 v1 rfl rfl) h1 (light_arg (j := 1) hsz rfl rfl)
  clear hA0 hval0
  refine (walk v0 v1 W w0 w1).mono fun e W' ⟨he, bel⟩ => ?_
  subst he
  exact ⟨_, rfl, _, _, _, [], _, [], hW', trodAll_mk1 (shut_bool Try.underlying4 _), (trodAll_cons_mk (Below.trod laidOut (by kernel_rfl) (of_decide_eq_true (by kernel_rfl)) k0 bel lt0) (trodAll_cons_mk (Below.trod laidOut (by kernel_rfl) (of_decide_eq_true (by kernel_rfl)) k1 bel lt1) trodAll_mk0)), rfl, bel.frame _, fun h => by cases h⟩

theorem over : Rows.opsBackRow.holds Try.pinned (OpenSpec.ofChange Rows.opsBackSpec) :=
  OpenClaim.holds_of_wide 7 Try.f7 rfl rfl rfl rfl rfl rfl rfl ⟨rfl, rfl, rfl, rfl, rfl⟩ rfl rfl rfl rfl rfl (by kernel_rfl) Try.func7 (by kernel_rfl)
    (of_decide_eq_true (by kernel_rfl)) (by unfold Func.isWrapper; first | (rw [if_pos (by decide +kernel)]; kernel_rfl) | (rw [if_neg (by decide +kernel)]; exact ⟨rfl, rfl⟩))
    (fun os started H enc _ => lifted os started H enc)

theorem proved : Rows.OpsBackSaid := over
#print axioms proved
end Go.Proofs.Ytcfnikngapngkaa.opsBack
