/- PROVED: the law SumTurned: a frame with one bit turned, behind its first four bytes, does not open, and its length is told; the arguments read as before. For every input. No condition. -/
import Derived.Test.YtfbkmgjgklkjiaaSumI
import Derived.Test.YtfbkmgjgklkjiaaBig
import Derived.Test.YtfbkmgjgklkjiaaArg
import Derived.ProofKit
import Derived.ShutString
import Derived.ChangeOld
import Derived.Below
import Derived.PinnedBridge
namespace Go.Proofs.Ytfbkmgjgklkjiaa.sumTurned
open Go.ChangeShapes Go.WideShapes Go.ChangeAt Go.RowKit
set_option linter.unusedVariables false
set_option linter.unusedSimpArgs false

/-- A list of bytes in at most so many. -/
theorem Bytes.cut {w : World} {ao : Option Addr} {cap : Nat} {zs : List Int} (hb : Bytes w (.slice ao zs.length cap) zs) (k : Nat) (hk : k ≤ zs.length) : ∃ cs, cs.length = k ∧ Bytes w (.slice ao cs.length cap) cs := by
  have h := Bytes.first hb k hk
  have hl : (zs.take k).length = k := by simp; omega
  exact ⟨zs.take k, hl, by rw [hl]; exact h⟩
/-- An owned row that holds something, opened. -/
theorem row_at {w : World} {B : Nat} {v : Value} {ys : List Int} (h : Row w B v ys) (h0 : 0 < ys.length) : ∃ g cap, v = .slice (some ⟨g, 0, none⟩) ys.length cap ∧ B ≤ g ∧ ys.length ≤ cap ∧ cap ≤ maxLen := by
  rcases h.2 with ⟨_, hn⟩ | ⟨g, cap, cur, rfl, hb, _, hnc, hcm, _, _⟩
  · omega
  · exact ⟨g, cap, rfl, hb, hnc, hcm⟩
/-- What is wrapped of a list of so many bytes. -/
theorem wrapped (v : Value) (cs : List Int) (N : Nat) (w : World) (hb : Bytes w v cs) (hz : Bytish cs) (hN : cs.length + 8 = N) (hl : N ≤ 1048576) :
    Calls Try.prog 12 #[v] w fun e w' => ∃ g cap fs, e = .returned (.tuple #[.slice (some ⟨g, 0, none⟩) N cap, .int .i64 0]) ∧ Only (fun _ => False) w w' ∧ Row w' w.heap.size (.slice (some ⟨g, 0, none⟩) N cap) fs ∧ Hid (fs = frame cs ∧ fs.length = N ∧ Bytish fs) ∧ w.heap.size ≤ g ∧ N ≤ cap ∧ cap ≤ 9223372036854775807 := by
  refine (wrapOk v cs w hb (by omega)).mono ?_
  rintro e w1 ⟨v2, rfl, ho1, hr1⟩
  have hfl := frame_len cs
  obtain ⟨g, cap, rfl, hg, h1, h2⟩ := row_at hr1 (by omega)
  have hfN : (frame cs).length = N := by omega
  rw [hfN] at h1 hr1
  rw [hfN]
  unfold maxLen at h2
  exact ⟨g, cap, frame cs, rfl, ho1, hr1, ⟨rfl, hfN, frame_byte hz⟩, hg, h1, h2⟩
/-- One cell of an owned row is stored. -/
theorem Row.set {w : World} {B g n cap : Nat} {fs : List Int} (h : Row w B (.slice (some ⟨g, 0, none⟩) n cap) fs) (i : Nat) (y : Int) : Row (w.setCell ⟨g, i, none⟩ (.int .u8 y)) B (.slice (some ⟨g, 0, none⟩) n cap) (fs.set i y) := by
  refine ⟨by simp, ?_⟩
  rcases h.2 with ⟨hv, _⟩ | ⟨g', cap', cur, hv, hb, hg, hnc, hcm, hcs, htake⟩
  · cases hv
  · injection hv with h1 h2 h3
    injection h1 with h1
    injection h1 with h1
    subst h1 h2 h3
    refine .inr ⟨g, cap, _, by rw [List.length_set], hb, heap_setCell_at hg, by rw [List.length_set]; exact hnc, hcm, by simpa using hcs, ?_⟩
    rw [List.length_set, Array.toList_setIfInBounds, List.take_set, htake, List.map_set]
theorem Row.block {w : World} {B g n cap : Nat} {fs : List Int} (h : Row w B (.slice (some ⟨g, 0, none⟩) n cap) fs) : ∃ cur, w.heap[g]? = some (.cells cur 5 (0, 0)) := by
  rcases h.2 with ⟨hv, _⟩ | ⟨g', cap', cur, hv, hb, hg, _⟩
  · cases hv
  · injection hv with h1 h2 h3
    injection h1 with h1
    injection h1 with h1
    subst h1
    exact ⟨cur, hg⟩
/-- Open, where what it answers is known. -/
theorem openAt (v : Value) (fs cs : List Int) (n k : Int) (w : World) (hb : Bytes w v fs) (hl : fs.length ≤ 281474976710656) (ho : openZ fs = (cs, n, k)) :
    Calls Try.prog 14 #[v] w fun e w' => ∃ v', e = .returned (.tuple #[v', .int .i64 n, .int .i64 k]) ∧ Only (fun _ => False) w w' ∧ Row w' w.heap.size v' cs := by
  refine (openOf v fs w hb hl).mono ?_
  rintro e w' ⟨v', rfl, ho1, hr⟩
  rw [ho] at hr ⊢
  exact ⟨v', rfl, ho1, hr⟩

theorem Bytish.set {zs : List Int} (h : Bytish zs) {i : Nat} {y : Int} (hy : IsByte y) : Bytish (zs.set i y) := fun z hz => by
  rcases List.mem_or_eq_of_mem_set hz with h1 | rfl
  · exact h z h1
  · exact hy
/-- One bit of a frame's byte turned. -/
theorem turned_at {zs fs : List Int} {i r x : Nat} {y : Int} (h : zs.length ≤ 1048576) (hf : fs = frame zs) (h4 : 4 ≤ i) (hi : i < fs.length) (hr : r < 8) (hz : Bytish fs) (hx : fs.getD i 0 = (x : Int)) (hy : bits .xor .u8 (x : Int) (2 ^ r % 256) = y) :
    IsByte y ∧ openZ (fs.set i y) = ([], (zs.length : Int) + 8, 30) := by
  have hb := hz.getD (j := i) hi
  rw [hx] at hb
  have hx256 : x < 256 := by omega
  have hp : (2 ^ r % 256 : Int) = ((2 ^ r : Nat) : Int) := by
    rcases (show r = 0 ∨ r = 1 ∨ r = 2 ∨ r = 3 ∨ r = 4 ∨ r = 5 ∨ r = 6 ∨ r = 7 by omega) with rfl | rfl | rfl | rfl | rfl | rfl | rfl | rfl <;> rfl
  have hp2 : 2 ^ r < 256 := Nat.lt_of_lt_of_le (Nat.pow_lt_pow_right (by decide) hr) (by decide)
  rw [hp, u8_xor_nat x (2 ^ r) hx256 hp2] at hy
  have hxl : x ^^^ 2 ^ r < 256 := Nat.xor_lt_two_pow (n := 8) hx256 hp2
  subst hy
  refine ⟨by unfold IsByte; omega, ?_⟩
  have hfl : Flip r ((x : Int)).toNat (((x ^^^ 2 ^ r : Nat) : Int)).toNat := by
    rw [Int.toNat_natCast, Int.toNat_natCast]
    exact flip_all ⟨r, hr⟩ ⟨x, hx256⟩
  have hfi : fs[i] = (x : Int) := by rw [← hx]; simp [List.getD, hi]
  have hsplit : frame zs = fs.take i ++ (x : Int) :: fs.drop (i + 1) := by
    rw [← hf, ← hfi, ← List.drop_eq_getElem_cons hi, List.take_append_drop]
  rw [List.set_eq_take_append_cons_drop, if_pos hi]
  exact open_turned h hsplit (by simp; omega) hr (by omega) (by omega) hfl
set_option maxHeartbeats 4000000 in
set_option maxRecDepth 100000 in
theorem walk (v0 : Value) (a1 : Int) (w : World) (w0 : ∃ zs, Bytes w v0 zs ∧ zs.length ≤ 140737488351232) (w1 : (Lit.int .u16 a1).wf = true) :
    Calls Try.prog 7 #[v0, .int .u16 a1] w fun e w' => e = .returned (.bool true) ∧ Below w.heap.size w w' := by
  obtain ⟨zs, hb, hl⟩ := w0
  have ha := bounds_u16 w1
  obtain ⟨ao, cap, rfl, hq1, hq2, hq3, hbz, hcells⟩ := id hb
  unfold maxLen at hq2
  obtain ⟨a, rfl⟩ := Int.eq_ofNat_of_zero_le ha.1
  clear hcells hq3 w1
  by_cases hs : zs.length ≤ 2000
  · have hsz : (zs.length : Int) ≤ 2000 := by omega
    have Hb := Lib.hid hb
    clear hb
    go_enter Try.func7, Try.ntmps7
    go_wp2_with (fail)
    refine (wrapped _ zs (zs.length + 8) w Hb.out hbz rfl (by omega)).mono ?_
    rintro e w1 ⟨g, capf, fs, rfl, ho1, hr1, Hfs, hg, hc1, hc2⟩
    obtain ⟨cur, hcur⟩ := Row.block hr1
    obtain ⟨k, hk⟩ : ∃ k, a % (8 * (zs.length + 4)) = k := ⟨_, rfl⟩
    have hkl : k < 8 * (zs.length + 4) := by rw [← hk]; exact Nat.mod_lt _ (by omega)
    have hkz : (a : Int) % (8 * ((zs.length : Int) + 8 - 4)) = (k : Int) := by
      rw [show (8 * ((zs.length : Int) + 8 - 4)) = ((8 * (zs.length + 4) : Nat) : Int) by omega, ← Int.natCast_emod, hk]
    obtain ⟨q, hq⟩ : ∃ q, k / 8 = q := ⟨_, rfl⟩
    obtain ⟨r, hr⟩ : ∃ r, k % 8 = r := ⟨_, rfl⟩
    have hql : q < zs.length + 4 := by omega
    have hr8 : r < 8 := by omega
    have hqi : Int.tdiv (k : Int) 8 = (q : Int) := by rw [Int.tdiv_eq_ediv_of_nonneg (by omega)]; omega
    have hri : Int.tmod (k : Int) 8 = (r : Int) := by rw [Int.tmod_eq_emod_of_nonneg (by omega)]; omega
    have hqe : (k : Int) / 8 = (q : Int) := by omega
    have hre : (k : Int) % 8 = (r : Int) := by omega
    have hfs := Hfs.out.2.1
    have hbF := hr1.bytes Hfs.out.2.2
    have hbF2 : Bytes w1 (.slice (some ⟨g, 0, none⟩) fs.length capf) fs := by rw [hfs]; exact hbF
    have hx := cellOf hbF2 (4 + q) (by omega)
    rw [Nat.zero_add] at hx
    have hxb := Hfs.out.2.2.getD (j := 4 + q) (by omega)
    have hfz := frozen_blk hcur (4 + q)
    obtain ⟨x, hxx⟩ : ∃ x : Nat, fs.getD (4 + q) 0 = (x : Int) := ⟨(fs.getD (4 + q) 0).toNat, by omega⟩
    rw [hxx] at hx hxb
    have Hr1 := Lib.hid hr1
    have Hxx := Lib.hid hxx
    have Hcur := Lib.hid hcur
    have Hq := Lib.hid hq
    have Hr := Lib.hid hr
    have Hk := Lib.hid hk
    clear hr1 hbF hbF2 hxx hcur hfs hq hr hk
    go_wp2_with (fail)
    rw [hkz]
    clear hkz
    have e4 : IntKind.i64.wrap (4 + (q : Int)) = 4 + (q : Int) := IntWalk.i64_in _ (by omega)
    have p4 : (0 : Int) ≤ 4 + (q : Int) := by omega
    have t4 : (4 + (q : Int)).toNat = 4 + q := by omega
    have q4 : 4 + (q : Int) < (zs.length : Int) + 8 := by omega
    have r0 : (0 : Int) ≤ (r : Int) := by omega
    go_region
    obtain ⟨y, hy⟩ : ∃ y : Int, bits .xor .u8 (x : Int) (2 ^ r % 256) = y := ⟨_, rfl⟩
    obtain ⟨wd, hwd⟩ : ∃ wd, (w1.setCell ⟨g, 4 + q, none⟩ (.int .u8 y)).drew = wd := ⟨_, rfl⟩
    rw [hy, hwd]
    obtain ⟨hyb, hoz⟩ := turned_at (by omega) Hfs.out.1 (by omega) (by have := Hfs.out.2.1; omega) hr8 Hfs.out.2.2 Hxx.out hy
    have hrw := (Row.set Hr1.out (4 + q) y)
    have how : Only (fun k => k = g) w1 wd := by
      rw [← hwd]
      exact ((Only.refl (fun k => k = g) w1).setCell (fun _ => rfl) _).drew
    have hrd : Row wd w.heap.size (.slice (some ⟨g, 0, none⟩) (zs.length + 8) capf) (fs.set (4 + q) y) := by
      rw [← hwd]
      exact hrw.only (S := fun _ => False) ((Only.refl _ _).drew) (fun _ _ h => h)
    have hct := openAt _ (fs.set (4 + q) y) [] ((zs.length : Int) + 8) 30 wd (hrd.bytes (Bytish.set Hfs.out.2.2 hyb)) (by have := Hfs.out.2.1; simp; omega) hoz
    clear hwd hy hx hfz hqi hri hqe hre hrw hrd hoz e4 p4 t4 q4 r0 hxb
    go_wp2_with (go_at_call 14; refine hct.mono ?_; rintro e w5 ⟨v6, rfl, ho6, hr6⟩; obtain ⟨ao6, cap6, rfl, _, _⟩ := slice_of_owns hr6)
    go_ret
    exact ⟨rfl, ((ho1.trans how (fun k hk hl => by omega)).trans ho6 (fun _ h => h.elim)).none⟩
  · obtain ⟨cs, hcl, hbc⟩ := Bytes.cut hb 2000 (by omega)
    have hbz2 : Bytish cs := by obtain ⟨_, _, _, _, _, _, h, _⟩ := hbc; exact h
    have hsz : (2000 : Int) < (zs.length : Int) := by omega
    have hcapz : (2000 : Int) ≤ (cap : Int) := by omega
    rw [hcl] at hbc
    have Hb := Lib.hid hbc
    have Hcl := Lib.hid hcl
    clear hb hbc hcl
    go_enter Try.func7, Try.ntmps7
    go_wp2_with (fail)
    refine (wrapped _ cs 2008 w Hb.out hbz2 (by rw [Hcl.out]) (by decide)).mono ?_
    rintro e w1 ⟨g, capf, fs, rfl, ho1, hr1, Hfs, hg, hc1, hc2⟩
    obtain ⟨cur, hcur⟩ := Row.block hr1
    obtain ⟨k, hk⟩ : ∃ k, a % 16032 = k := ⟨_, rfl⟩
    have hkl : k < 16032 := by rw [← hk]; exact Nat.mod_lt _ (by omega)
    have hkz : (a : Int) % 16032 = (k : Int) := by
      rw [show (16032 : Int) = ((16032 : Nat) : Int) by rfl, ← Int.natCast_emod, hk]
    obtain ⟨q, hq⟩ : ∃ q, k / 8 = q := ⟨_, rfl⟩
    obtain ⟨r, hr⟩ : ∃ r, k % 8 = r := ⟨_, rfl⟩
    have hql : q < 2004 := by omega
    have hr8 : r < 8 := by omega
    have hqi : Int.tdiv (k : Int) 8 = (q : Int) := by rw [Int.tdiv_eq_ediv_of_nonneg (by omega)]; omega
    have hri : Int.tmod (k : Int) 8 = (r : Int) := by rw [Int.tmod_eq_emod_of_nonneg (by omega)]; omega
    have hqe : (k : Int) / 8 = (q : Int) := by omega
    have hre : (k : Int) % 8 = (r : Int) := by omega
    have hfs := Hfs.out.2.1
    have hbF := hr1.bytes Hfs.out.2.2
    have hbF2 : Bytes w1 (.slice (some ⟨g, 0, none⟩) fs.length capf) fs := by rw [hfs]; exact hbF
    have hx := cellOf hbF2 (4 + q) (by omega)
    rw [Nat.zero_add] at hx
    have hxb := Hfs.out.2.2.getD (j := 4 + q) (by omega)
    have hfz := frozen_blk hcur (4 + q)
    obtain ⟨x, hxx⟩ : ∃ x : Nat, fs.getD (4 + q) 0 = (x : Int) := ⟨(fs.getD (4 + q) 0).toNat, by omega⟩
    rw [hxx] at hx hxb
    have Hr1 := Lib.hid hr1
    have Hxx := Lib.hid hxx
    have Hcur := Lib.hid hcur
    have Hq := Lib.hid hq
    have Hr := Lib.hid hr
    have Hk := Lib.hid hk
    clear hr1 hbF hbF2 hxx hcur hfs hq hr hk
    go_wp2_with (fail)
    rw [hkz]
    clear hkz
    have e4 : IntKind.i64.wrap (4 + (q : Int)) = 4 + (q : Int) := IntWalk.i64_in _ (by omega)
    have p4 : (0 : Int) ≤ 4 + (q : Int) := by omega
    have t4 : (4 + (q : Int)).toNat = 4 + q := by omega
    have q4 : 4 + (q : Int) < 2008 := by omega
    have r0 : (0 : Int) ≤ (r : Int) := by omega
    go_region
    obtain ⟨y, hy⟩ : ∃ y : Int, bits .xor .u8 (x : Int) (2 ^ r % 256) = y := ⟨_, rfl⟩
    obtain ⟨wd, hwd⟩ : ∃ wd, (w1.setCell ⟨g, 4 + q, none⟩ (.int .u8 y)).drew = wd := ⟨_, rfl⟩
    rw [hy, hwd]
    obtain ⟨hyb, hoz⟩ := turned_at (zs := cs) (by rw [Hcl.out]; decide) Hfs.out.1 (by omega) (by have := Hfs.out.2.1; omega) hr8 Hfs.out.2.2 Hxx.out hy
    have hoz : openZ (fs.set (4 + q) y) = ([], 2008, 30) := by rw [hoz, Hcl.out]; rfl
    have hrw := (Row.set Hr1.out (4 + q) y)
    have how : Only (fun k => k = g) w1 wd := by
      rw [← hwd]
      exact ((Only.refl (fun k => k = g) w1).setCell (fun _ => rfl) _).drew
    have hrd : Row wd w.heap.size (.slice (some ⟨g, 0, none⟩) 2008 capf) (fs.set (4 + q) y) := by
      rw [← hwd]
      exact hrw.only (S := fun _ => False) ((Only.refl _ _).drew) (fun _ _ h => h)
    have hct := openAt _ (fs.set (4 + q) y) [] 2008 30 wd (hrd.bytes (Bytish.set Hfs.out.2.2 hyb)) (by have := Hfs.out.2.1; simp; omega) hoz
    clear hwd hy hx hfz hqi hri hqe hre hrw hrd hoz e4 p4 t4 q4 r0 hxb
    go_wp2_with (go_at_call 14; refine hct.mono ?_; rintro e w5 ⟨v6, rfl, ho6, hr6⟩; obtain ⟨ao6, cap6, rfl, _, _⟩ := slice_of_owns hr6)
    go_ret
    exact ⟨rfl, ((ho1.trans how (fun k hk hl => by omega)).trans ho6 (fun _ h => h.elim)).none⟩


theorem own : ownKnob Try.prog.godebug = none := by kernel_rfl
theorem laidOut : laidOutB Try.prog = true := by kernel_rfl

set_option maxRecDepth 100000 in
theorem lifted (os : Os) (started : os.Started) (H : Type) (enc : TypeId × Value → H) :
    ReturnsInHanded {} Try.checked os 7 .any (Rows.sumTurnedSpec.pre6 enc Try.prog Try.f7 Rows.sumTurnedRow.domain false) (Rows.sumTurnedSpec.post enc Try.prog Try.f7 false true false false) := by
  refine returnsInHanded_of_change_sized (C := Try.checked) own started (by kernel_rfl) Try.func7
    (ChangeSpec.witness6 (enc := enc) (C := Try.checked) false ⟨#[], #[.slice none 0 0, .int .u16 0], []⟩ 8 (by kernel_rfl) (by kernel_rfl) (by kernel_rfl) (by kernel_rfl)) ?_
  intro W base args ds gs before hval0 hW hcnd hsz0 _
  have hsz : (DataW.weightsEach Try.prog (Try.f7.params.toList ++ Rows.sumTurnedSpec.plain.varTypes Try.prog) (ds ++ gs)).all (· ≤ reachBytes) = true := hsz0
  clear hsz0
  have hval : ∀ (j : Nat) t v, Try.f7.params[j]? = some t → args[j]? = some v → Value.okWide Try.prog W .any base t v := hval0
  have hW' := hW
  obtain ⟨p, q, hA0, hV, rfl, hfz, hnd⟩ := hW
  have hA : DataW.TrodAll enc Try.prog W 0 (fun _ => true) true Try.f7.params.toList args.toList ds p := hA0
  rw [Try.params7] at hA hval hsz
  obtain ⟨v0, vs0, d0, ds0, p0, q0, hargs, rfl, rfl, h0, r0⟩ := trodAll_cons hA
  obtain ⟨v1, vs1, d1, ds1, p1, q1, rfl, rfl, rfl, h1, r1⟩ := trodAll_cons r0
  obtain ⟨rfl, rfl, rfl⟩ := trodAll_nil r1
  obtain rfl : args = #[v0, v1] := by cases args; simp_all
  obtain ⟨rfl, rfl⟩ := trodVars_none hV
  have k0 := h0
  have lt0 : ∀ x ∈ p0, x.block < W.heap.size := by obtain ⟨m, hm⟩ := k0; exact DataW.trod_lt m _ _ _ hm
  have w0 := arg_bytes (hval 0 22 v0 rfl rfl) h0 (light_arg (j := 0) hsz rfl rfl)
  obtain ⟨a1, rfl, rfl, rfl, w1⟩ := open_int Try.underlying37 (hval 1 37 v1 rfl rfl) h1
  clear hA0 hval0
  refine (walk v0 a1 W w0 w1).mono fun e W' ⟨he, bel⟩ => ?_
  subst he
  exact ⟨_, rfl, _, _, _, [], _, [], hW', trodAll_mk1 (shut_bool Try.underlying4 _), (trodAll_cons_mk (Below.trod laidOut (by kernel_rfl) (of_decide_eq_true (by kernel_rfl)) k0 bel lt0) (trodAll_cons_mk (shut_int Try.underlying37 w1) trodAll_mk0)), rfl, bel.frame _, fun h => by cases h⟩

theorem over : Rows.sumTurnedRow.holds Try.pinned (OpenSpec.ofChange Rows.sumTurnedSpec) :=
  OpenClaim.holds_of_wide 7 Try.f7 rfl rfl rfl rfl rfl rfl rfl ⟨rfl, rfl, rfl, rfl, rfl⟩ rfl rfl rfl rfl rfl (by kernel_rfl) Try.func7 (by kernel_rfl)
    (of_decide_eq_true (by kernel_rfl)) (by unfold Func.isWrapper; first | (rw [if_pos (by decide +kernel)]; kernel_rfl) | (rw [if_neg (by decide +kernel)]; exact ⟨rfl, rfl⟩))
    (fun os started H enc _ => lifted os started H enc)

theorem proved : Rows.SumTurnedSaid := over
#print axioms proved
end Go.Proofs.Ytfbkmgjgklkjiaa.sumTurned
