/- PROVED: the law SumRow: frames of any lists one behind the other are opened one by one, each its own list, and nothing is left; the argument reads as before. For every input. No condition. -/
import Derived.Test.YtfbkmgjgklkjiaaSumI
import Derived.Test.YtfbkmgjgklkjiaaSumJ
import Derived.Test.YtfbkmgjgklkjiaaRowsA
import Derived.Test.YtfbkmgjgklkjiaaBig
import Derived.ProofKit
import Derived.ShutString
import Derived.ChangeOld
import Derived.Below
import Derived.PinnedBridge
namespace Go.Proofs.Ytfbkmgjgklkjiaa.sumRow
open Go.ChangeShapes Go.WideShapes Go.ChangeAt Go.RowKit
set_option linter.unusedVariables false
set_option linter.unusedSimpArgs false

/-- A list of bytes in at most so many. -/
theorem Bytes.cut {w : World} {ao : Option Addr} {cap : Nat} {zs : List Int} (hb : Bytes w (.slice ao zs.length cap) zs) (k : Nat) (hk : k ≤ zs.length) : ∃ cs, cs.length = k ∧ Bytes w (.slice ao cs.length cap) cs := by
  have h := Bytes.first hb k hk
  have hl : (zs.take k).length = k := by simp; omega
  exact ⟨zs.take k, hl, by rw [hl]; exact h⟩
/-- An owned row that holds something, opened. -/
theorem row_at {w : World} {B : Nat} {v : Value} {ys : List Int} (h : Row w B v ys) (h0 : 0 < ys.length) : ∃ g cap, v = .slice (some ⟨g, 0, none⟩) ys.length cap ∧ B ≤ g ∧ ys.length ≤ cap ∧ cap ≤ maxLen := by
  rcases h.2 with ⟨_, hn⟩ | ⟨g, cap, cur, rfl, hb, _, hnc, hcm, _, _⟩
  · omega
  · exact ⟨g, cap, rfl, hb, hnc, hcm⟩
/-- What is wrapped of a list of so many bytes. -/
theorem wrapped (v : Value) (cs : List Int) (N : Nat) (w : World) (hb : Bytes w v cs) (hz : Bytish cs) (hN : cs.length + 8 = N) (hl : N ≤ 1048576) :
    Calls Try.prog 12 #[v] w fun e w' => ∃ g cap fs, e = .returned (.tuple #[.slice (some ⟨g, 0, none⟩) N cap, .int .i64 0]) ∧ Only (fun _ => False) w w' ∧ Row w' w.heap.size (.slice (some ⟨g, 0, none⟩) N cap) fs ∧ Hid (fs = frame cs ∧ fs.length = N ∧ Bytish fs) ∧ w.heap.size ≤ g ∧ N ≤ cap ∧ cap ≤ 9223372036854775807 := by
  refine (wrapOk v cs w hb (by omega)).mono ?_
  rintro e w1 ⟨v2, rfl, ho1, hr1⟩
  have hfl := frame_len cs
  obtain ⟨g, cap, rfl, hg, h1, h2⟩ := row_at hr1 (by omega)
  have hfN : (frame cs).length = N := by omega
  rw [hfN] at h1 hr1
  rw [hfN]
  unfold maxLen at h2
  exact ⟨g, cap, frame cs, rfl, ho1, hr1, ⟨rfl, hfN, frame_byte hz⟩, hg, h1, h2⟩
/-- Open, where what it answers is known. -/
theorem openAt (v : Value) (fs cs : List Int) (n k : Int) (w : World) (hb : Bytes w v fs) (hl : fs.length ≤ 281474976710656) (ho : openZ fs = (cs, n, k)) :
    Calls Try.prog 14 #[v] w fun e w' => ∃ v', e = .returned (.tuple #[v', .int .i64 n, .int .i64 k]) ∧ Only (fun _ => False) w w' ∧ Row w' w.heap.size v' cs := by
  refine (openOf v fs w hb hl).mono ?_
  rintro e w' ⟨v', rfl, ho1, hr⟩
  rw [ho] at hr ⊢
  exact ⟨v', rfl, ho1, hr⟩

/-- The frames of the lists from the i-th on, m of them. -/
def framesOf (f : Nat → Value × List Int) (i m : Nat) : List Int := (List.range m).flatMap fun j => frame (f (i + j)).2
theorem framesOf_zero (f : Nat → Value × List Int) (i : Nat) : framesOf f i 0 = [] := rfl
theorem framesOf_snoc (f : Nat → Value × List Int) (i m : Nat) : framesOf f i (m + 1) = framesOf f i m ++ frame (f (i + m)).2 := by
  unfold framesOf
  rw [List.range_succ, List.flatMap_append]
  simp
theorem framesOf_cons (f : Nat → Value × List Int) (i m : Nat) : framesOf f i (m + 1) = frame (f i).2 ++ framesOf f (i + 1) m := by
  unfold framesOf
  rw [List.range_succ_eq_map]
  simp only [List.flatMap_cons, List.flatMap_map, Nat.add_zero]
  congr 2
  funext j
  rw [show i + Nat.succ j = i + 1 + j by omega]
theorem framesOf_byte {f : Nat → Value × List Int} : ∀ {m i : Nat}, (∀ j, j < m → Bytish (f (i + j)).2) → Bytish (framesOf f i m)
  | 0, i, _ => Bytish.nil
  | m + 1, i, h => by
    rw [framesOf_snoc]
    exact (framesOf_byte (fun j hj => h j (by omega))).append (frame_byte (h m (by omega)))
theorem framesOf_len {f : Nat → Value × List Int} : ∀ {m i : Nat}, (∀ j, j < m → (f (i + j)).2.length ≤ 1000) → (framesOf f i m).length ≤ 1008 * m
  | 0, i, _ => by simp [framesOf]
  | m + 1, i, h => by
    rw [framesOf_snoc, List.length_append, frame_len]
    have := framesOf_len (f := f) (m := m) (i := i) (fun j hj => h j (by omega))
    have := h m (by omega)
    omega

set_option maxHeartbeats 4000000 in
set_option maxRecDepth 100000 in
theorem walk (v0 : Value) (w : World) (w0 : ∃ len f, Lists w v0 len f) :
    Calls Try.prog 8 #[v0] w fun e w' => e = .returned (.bool true) ∧ Below w.heap.size w w' := by
  obtain ⟨len, f, ao, cap, rfl, hlc, hcm, hno, hel⟩ := w0
  obtain ⟨i0, hi, hz0, hz1, hz2⟩ := info_parts info_u8
  unfold maxLen at hcm
  have Hel := Lib.hid hel
  have Hno := Lib.hid hno
  obtain ⟨n, hn⟩ : ∃ n, min len 50 = n := ⟨_, rfl⟩
  have hnl : n ≤ len := by omega
  have hn50 : n ≤ 50 := by omega
  have hnz : min (len : Int) 50 = (n : Int) := by omega
  clear hel hno hn
  go_enter Try.func8, Try.ntmps8
  go_wp2
  go_loopw [3, 5] (fun all i wr => ∃ j : Nat, j ≤ n ∧ i = .int .i64 j ∧ Row wr w.heap.size all (framesOf f 0 j) ∧ Only (fun _ => False) w wr ∧ ∀ t, t < j → (f t).2.length ≤ 1000) (fun _ i _ => n - (intOf i).toNat)
  case atStart => exact ⟨0, Nat.zero_le _, rfl, World.ownsRow_nil _ _ _ _, Only.refl _ _, fun t ht => absurd ht (Nat.not_lt_zero _)⟩
  case round =>
    obtain ⟨j, hj, rfl, hrow, hon, hsm⟩ := hrel
    by_cases hlt : j < n
    · obtain ⟨b, o, rfl⟩ : ∃ b o, ao = some ⟨b, o, none⟩ := by
        cases ao with
        | none => have := Hno.out rfl; omega
        | some x => exact ⟨x.block, x.off, congrArg some (plain_of_cell (Hel.out x rfl 0 (by omega)).1)⟩
      obtain ⟨hce, hbe, hle⟩ := Hel.out _ rfl j (by omega)
      rw [add_lit] at hce
      have hce2 := hon.cell hce (fun h => h)
      have hbe2 := hbe.only hon (fun _ _ _ h => h)
      obtain ⟨aj, cj, hvj, _, _, _, hbz, _⟩ := id hbe
      rw [hvj] at hce2 hbe2
      have hjz : (j : Int) < (n : Int) := by omega
      have hjl : (j : Int) < (len : Int) := by omega
      have Hb2 := Lib.hid hbe2
      have Hsm := Lib.hid hsm
      obtain ⟨aA, cA, rfl, _, _⟩ := slice_of_owns hrow
      have Hrow := Lib.hid hrow
      have hfl := framesOf_len (f := f) (m := j) (i := 0) (fun t ht => by rw [Nat.zero_add]; exact hsm t ht)
      clear hce hbe hbe2 hvj hsm hrow
      by_cases hk : 1000 < (f j).2.length
      · have hkz : (1000 : Int) < ((f j).2.length : Int) := by omega
        go_wp2_with (go_at_call 11; refine (awake _).mono ?_; rintro e w1 ⟨rfl, ho1⟩)
        go_ret
        exact ⟨rfl, (hon.trans ho1 (fun _ h => h.elim)).none⟩
      · have hkz : ((f j).2.length : Int) ≤ 1000 := by omega
        go_wp2_with (fail)
        refine (wrapOk _ (f j).2 wr Hb2.out (by omega)).mono ?_
        rintro e w1 ⟨v1, rfl, ho1, hr1⟩
        have hs1 := hr1.bytes (frame_byte hbz)
        have hl1 := frame_len (f j).2
        obtain ⟨a1, c1, rfl, _, _⟩ := slice_of_owns hr1
        have Hs1 := Lib.hid (Src.of_bytes hs1)
        have Hl1 := Lib.hid hl1
        clear hr1 hs1 hl1
        have hr2 := (Hrow.out).only ho1 (fun _ _ h => h)
        have hon1 := hon.trans ho1 (fun _ h => h.elim)
        go_wp2_with (at_builtin; go_loud (refine wpList_append_src rfl (.tmp 35) (.tmp 36) 22 rfl 5 i0 (.int .u8 0) 1 1 Try.underlying22 hi hz0 hz1 hz2 rfl (by decide) w.heap.size (.slice aA (framesOf f 0 j).length cA) (framesOf f 0 j).length ((framesOf f 0 j).map (Value.int .u8)) rfl (by exact hr2) (by exact hon1.size) (.slice a1 (frame (f j).2).length c1) (frame (f j).2).length ((frame (f j).2).map (Value.int .u8)) rfl (by exact Hs1.out) (by have := Hl1.out; unfold maxLen; omega) (by have := Hl1.out; omega) ?_); intro v2 w2 hown hgrow hnew)
        obtain ⟨hr3, ho3⟩ := Row.push hr2 hon1 hown hgrow hnew
        clear hown hgrow hnew hr2
        go_roundw
        case rel => exact ⟨j + 1, by omega, by go_num, by rw [framesOf_snoc, Nat.zero_add]; exact hr3, ho3, fun t ht => by
          by_cases h : t < j
          · exact Hsm.out t h
          · rw [show t = j by omega]; omega⟩
        case measure => simp [intOf]; omega
    · obtain rfl : j = n := by omega
      obtain ⟨aA, cA, rfl, _, _⟩ := slice_of_owns hrow
      have Hsm := Lib.hid hsm
      have HbA := Lib.hid (hrow.bytes (framesOf_byte (fun t ht => by
        rw [Nat.zero_add]
        cases ao with
        | none => have := Hno.out rfl; omega
        | some x => obtain ⟨_, hb, _⟩ := Hel.out x rfl t (by omega); obtain ⟨_, _, _, _, _, _, h, _⟩ := hb; exact h)))
      clear hsm hrow
      go_wp2
      go_loopw [3, 8] (fun all i wi => ∃ (k m : Nat) (aB : Option Addr) (cB : Nat), k + m = j ∧ i = .int .i64 k ∧ all = .slice aB (framesOf f k m).length cB ∧ Bytes wi (.slice aB (framesOf f k m).length cB) (framesOf f k m) ∧ Only (fun _ => False) w wi) (fun _ i _ => j - (intOf i).toNat)
      case atStart => exact ⟨0, j, aA, cA, by omega, rfl, rfl, HbA.out, hon⟩
      case round =>
        obtain ⟨k, m, aB, cB, hkm, rfl, rfl, hbB, honB⟩ := hrel
        clear HbA hon
        have HbB := Lib.hid hbB
        cases m with
        | zero =>
          obtain rfl : k = j := by omega
          have hz : (framesOf f k 0).length = 0 := rfl
          clear hbB
          go_wp2_with (go_at_call 11; refine (awake _).mono ?_; rintro e w1 ⟨rfl, ho1⟩)
          go_ret
          exact ⟨rfl, (honB.trans ho1 (fun _ h => h.elim)).none⟩
        | succ m =>
          obtain ⟨b, o, rfl⟩ : ∃ b o, ao = some ⟨b, o, none⟩ := by
            cases ao with
            | none => have := Hno.out rfl; omega
            | some x => exact ⟨x.block, x.off, congrArg some (plain_of_cell (Hel.out x rfl 0 (by omega)).1)⟩
          obtain ⟨hce, hbe, hle⟩ := Hel.out _ rfl k (by omega)
          have hk1000 := Hsm.out k (by omega)
          rw [add_lit] at hce
          obtain ⟨aj, cj, hvj, _, _, _, hbz, _⟩ := id hbe
          rw [hvj] at hce hbe
          have hcons := framesOf_cons f k m
          have hlen : (framesOf f k (m + 1)).length = (f k).2.length + 8 + (framesOf f (k + 1) m).length := by rw [hcons, List.length_append, frame_len]
          have hfl := framesOf_len (f := f) (m := m + 1) (i := k) (fun t ht => Hsm.out _ (by omega))
          have hop : openZ (framesOf f k (m + 1)) = ((f k).2, ((f k).2.length : Int) + 8, 0) := by rw [hcons]; exact open_frame (by omega) _
          have hct := openAt _ _ _ _ _ _ HbB.out (by omega) hop
          have hkj : (k : Int) < (j : Int) := by omega
          have hkl : (k : Int) < (len : Int) := by omega
          have hltz : ((f k).2.length : Int) + 8 ≤ ((framesOf f k (m + 1)).length : Int) := by omega
          have Hcons := Lib.hid hcons
          have Hlen := Lib.hid hlen
          have Hbe := Lib.hid hbe
          have Hvj := Lib.hid hvj
          have Hce := Lib.hid hce
          obtain ⟨_, _, hq, hq1, hq2, _, _, _⟩ := id hbB
          injection hq with hqa hqb hqc
          subst hqc
          unfold maxLen at hq2
          clear hcons hlen hop hvj hbe hce hbB hqa hqb hle
          go_wp2_with (go_at_call 14; refine hct.mono ?_; rintro e w1 ⟨v1, rfl, ho1, hr1⟩)
          have hon1 := honB.trans ho1 (fun _ h => h.elim)
          have hD : ∀ q, Only (fun _ => False) w1 (w1.drewN q) := fun q => (Only.refl _ _).drewN q
          have c1 : ∀ q, (convert 22 9 v1).run Try.prog (w1.drewN q) = .ok (.string (strOfNums (f k).2)) (w1.drewN q) := fun q => conv8 ((hr1.bytes hbz).only (hD q) (fun _ _ _ h => h))
          have c2 : ∀ q, (convert 22 9 (.slice aj (f k).2.length cj)).run Try.prog (w1.drewN q) = .ok (.string (strOfNums (f k).2)) (w1.drewN q) := fun q => conv8 (((Hbe.out).only hon1 (fun _ _ _ h => h)).only (hD q) (fun _ _ _ h => h))
          have hce1 := hon1.cell Hce.out (fun h => h)
          have b1 : decide (((f k).2.length : Int) + 8 < 8) = false := decide_eq_false (by omega)
          have b2 : decide (((framesOf f k (m + 1)).length : Int) < ((f k).2.length : Int) + 8) = false := decide_eq_false (by omega)
          clear hD hr1
          obtain ⟨bB, oB, rfl⟩ := Bytes.addr HbB.out (by omega)
          go_quiet (fail)
          obtain ⟨L, hL⟩ : ∃ L, (f k).2.length + 8 = L := ⟨_, rfl⟩
          have hLz : ((f k).2.length : Int) + 8 = (L : Int) := by omega
          have hLt : L ≤ (framesOf f k (m + 1)).length := by omega
          have hrl : (framesOf f k (m + 1)).length - L = (framesOf f (k + 1) m).length := by have := Hlen.out; omega
          have hbn := (HbB.out).only (ho1.trans ((Only.refl (fun _ => False) w1).drewN nq) (fun _ h => h.elim)) (fun _ _ _ h => h)
          have hdr : (framesOf f k (m + 1)).drop L = framesOf f (k + 1) m := by rw [Hcons.out, List.drop_left' (by rw [frame_len]; exact hL)]
          have honD := hon1.trans ((Only.refl (fun _ => False) w1).drewN nq) (fun _ h => h.elim)
          have hbh := Bytes.behind hbn L hLt
          rw [hdr, hrl] at hbh
          have Hrl := Lib.hid hrl
          have Hbh := Lib.hid hbh
          have Hdr := Lib.hid hdr
          clear hrl hbn hdr hbh hL
          by_cases hcap : cB = L
          · rw [hLz]
            clear hLz
            go_wp2
            go_roundw
            case rel =>
              have h0 : (framesOf f (k + 1) m).length = 0 := by have := Hrl.out; omega
              have hnil := List.eq_nil_of_length_eq_zero h0
              refine ⟨k + 1, m, some ⟨bB, oB, none⟩, 0, by omega, by go_num, by rw [Hrl.out], ?_, honD⟩
              rw [hnil]
              exact ⟨_, 0, rfl, Nat.le_refl _, Nat.zero_le _, fun _ => rfl, Bytish.nil, fun x hx j hj => by simp at hj⟩
            case measure => simp [intOf]; omega
          · rw [hLz]
            clear hLz
            go_wp2
            go_roundw
            case rel => exact ⟨k + 1, m, some ⟨bB, oB + L, none⟩, cB - L, by omega, by go_num, by rw [Hrl.out], Hbh.out, honD⟩
            case measure => simp [intOf]; omega


theorem own : ownKnob Try.prog.godebug = none := by kernel_rfl
theorem laidOut : laidOutB Try.prog = true := by kernel_rfl

set_option maxRecDepth 100000 in
theorem lifted (os : Os) (started : os.Started) (H : Type) (enc : TypeId × Value → H) :
    ReturnsInHanded {} Try.checked os 8 .any (Rows.sumRowSpec.pre6 enc Try.prog Try.f8 Rows.sumRowRow.domain false) (Rows.sumRowSpec.post enc Try.prog Try.f8 false true false false) := by
  refine returnsInHanded_of_change_sized (C := Try.checked) own started (by kernel_rfl) Try.func8
    (ChangeSpec.witness6 (enc := enc) (C := Try.checked) false ⟨#[], #[.slice none 0 0], []⟩ 8 (by kernel_rfl) (by kernel_rfl) (by kernel_rfl) (by kernel_rfl)) ?_
  intro W base args ds gs before hval0 hW hcnd hsz0 _
  have hsz : (DataW.weightsEach Try.prog (Try.f8.params.toList ++ Rows.sumRowSpec.plain.varTypes Try.prog) (ds ++ gs)).all (· ≤ reachBytes) = true := hsz0
  clear hsz0
  have hval : ∀ (j : Nat) t v, Try.f8.params[j]? = some t → args[j]? = some v → Value.okWide Try.prog W .any base t v := hval0
  have hW' := hW
  obtain ⟨p, q, hA0, hV, rfl, hfz, hnd⟩ := hW
  have hA : DataW.TrodAll enc Try.prog W 0 (fun _ => true) true Try.f8.params.toList args.toList ds p := hA0
  rw [Try.params8] at hA hval hsz
  obtain ⟨v0, vs0, d0, ds0, p0, q0, hargs, rfl, rfl, h0, r0⟩ := trodAll_cons hA
  obtain ⟨rfl, rfl, rfl⟩ := trodAll_nil r0
  obtain rfl : args = #[v0] := by cases args; simp_all
  obtain ⟨rfl, rfl⟩ := trodVars_none hV
  have k0 := h0
  have lt0 : ∀ x ∈ p0, x.block < W.heap.size := by obtain ⟨m, hm⟩ := k0; exact DataW.trod_lt m _ _ _ hm
  have w0 := arg_lists (hval 0 39 v0 rfl rfl) h0 (light_arg (j := 0) hsz rfl rfl)
  clear hA0 hval0
  refine (walk v0 W w0).mono fun e W' ⟨he, bel⟩ => ?_
  subst he
  exact ⟨_, rfl, _, _, _, [], _, [], hW', trodAll_mk1 (shut_bool Try.underlying4 _), (trodAll_cons_mk (Below.trod laidOut (by kernel_rfl) (of_decide_eq_true (by kernel_rfl)) k0 bel lt0) trodAll_mk0), rfl, bel.frame _, fun h => by cases h⟩

theorem over : Rows.sumRowRow.holds Try.pinned (OpenSpec.ofChange Rows.sumRowSpec) :=
  OpenClaim.holds_of_wide 8 Try.f8 rfl rfl rfl rfl rfl rfl rfl ⟨rfl, rfl, rfl, rfl, rfl⟩ rfl rfl rfl rfl rfl (by kernel_rfl) Try.func8 (by kernel_rfl)
    (of_decide_eq_true (by kernel_rfl)) (by unfold Func.isWrapper; first | (rw [if_pos (by decide +kernel)]; kernel_rfl) | (rw [if_neg (by decide +kernel)]; exact ⟨rfl, rfl⟩))
    (fun os started H enc _ => lifted os started H enc)

theorem proved : Rows.SumRowSaid := over
#print axioms proved
end Go.Proofs.Ytfbkmgjgklkjiaa.sumRow
