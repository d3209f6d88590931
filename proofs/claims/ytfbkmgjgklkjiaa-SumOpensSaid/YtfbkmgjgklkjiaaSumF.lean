/- A frame's number and sum in bytes: field, slices.Reverse of four bytes, seal, sizeOf. No condition. -/
import Derived.Test.YtfbkmgjgklkjiaaSumA
import Derived.Test.YtfbkmgjgklkjiaaSumQ
import Derived.Test.YtfbkmgjgklkjiaaWireE
import Derived.Deep.RegionLaw
namespace Go.Proofs.Ytfbkmgjgklkjiaa
open Go.RowKit
set_option linter.unusedVariables false
set_option linter.unusedSimpArgs false

theorem digs4 (x : Int) : digs 4 x = be4 x := by
  simp [digs, digsTo, List.range_succ, dig, be4, IntKind.wrap, IntKind.bits, IntKind.signed]

set_option maxHeartbeats 1000000 in
theorem field (x : Int) (w : World) (h0 : 0 ≤ x) (h1 : x < 4294967296) :
    Calls Try.prog 19 #[.int .u32 x] w fun e w' => ∃ v', e = .returned v' ∧ Row w' w.heap.size v' (be4 x) ∧ Only (fun _ => False) w w' := by
  have hf : fitU 4 x = true := by
    have := fitU_iff 4 (by decide) (by decide) x h0
    rw [show ((4 : Nat) : Int) = 4 from rfl] at this
    rw [this]
    exact decide_eq_true (by simpa using h1)
  have ha : addU (fitU 4 x) 4 x (((4 : Nat) : Int) - ([] : List Int).length) = be4 x := by
    rw [hf]
    exact digs4 x
  have hw := Wr.new w 4 (by decide)
  have Ha := Lib.hid ha
  have Hw := Lib.hid hw
  clear hf ha hw
  go_enter Try.func19, Try.ntmps19
  go_wp2_with (first | (go_at_call 27; refine (newWriterOk 4 _ (by decide)).mono ?_; rintro e w1 ⟨rfl, rfl⟩) | (go_at_call 28; refine (wrUint w.heap.size (.slice none 0 0) 4 [] 4 x _ Hw.out).mono ?_; rintro e w2 ⟨rfl, hto⟩; rw [Ha.out] at hto; obtain ⟨sv, hwr, ho2, hs2⟩ := hto) | (go_at_call 29; refine (wrOut w.heap.size sv 4 _ w2 hwr).mono ?_; rintro e w3 ⟨v', rfl, hown, hbel⟩))
  go_ret
  have hon : Only (fun _ => False) w w2 := ((Only.refl _ w).alloc _).trans ho2 (fun k hk hl => by
    rcases hk with rfl | hk
    · exact Nat.lt_irrefl _ hl
    · simp [Value.ownBlock] at hk)
  have hon3 : Only (fun _ => False) w w3 := hon.trans (Only.of_below hbel (fun _ => False)) (fun _ h => h.elim)
  exact ⟨v', rfl, owns_base (by simpa using hown) (fun k hk => Nat.le_trans hon.size (hown.lt k hk).1), hon3⟩

set_option maxHeartbeats 1000000 in
theorem sizeOf (n : Int) (w : World) (h0 : 0 ≤ n) (h1 : n ≤ 1048576) :
    Calls Try.prog 17 #[.int .u64 n] w fun e w' => e = .returned (.tuple #[.int .i64 (n + 8), .nilIface]) ∧ w = w' := by
  go_enter Try.func17, Try.ntmps17
  go_wp2
  go_ret2
  exact ⟨by rw [show 4 + n + 4 = n + 8 by omega]; rfl, rfl⟩
theorem sizeOfLong (n : Int) (w : World) (h1 : 1048576 < n) :
    Calls Try.prog 17 #[.int .u64 n] w fun e w' => e = .returned (.tuple #[.int .i64 0, .iface 57 (.agg #[.string { data := #[110, 117, 109, 98, 101, 114] }, .int .i64 2])]) ∧ w = w' := by
  go_enter Try.func17, Try.ntmps17
  go_wp2
  go_ret2
  exact ⟨rfl, rfl⟩

theorem four_of {l : List Value} {a b c d : Value} (h0 : l[0]? = some a) (h1 : l[1]? = some b) (h2 : l[2]? = some c) (h3 : l[3]? = some d) : ∃ r, l = a :: b :: c :: d :: r := by
  match l, h0, h1, h2, h3 with
  | x0 :: x1 :: x2 :: x3 :: r, h0, h1, h2, h3 =>
    cases h0; cases h1; cases h2; cases h3
    exact ⟨r, rfl⟩
theorem take_four {l : List Value} {a b c d : Value} (h : l.take 4 = [a, b, c, d]) : l[0]? = some a ∧ l[1]? = some b ∧ l[2]? = some c ∧ l[3]? = some d := by
  have g : ∀ k, k < 4 → l[k]? = ([a, b, c, d] : List Value)[k]? := fun k hk => by rw [← h, List.getElem?_take_of_lt hk]
  exact ⟨g 0 (by decide), g 1 (by decide), g 2 (by decide), g 3 (by decide)⟩
set_option maxHeartbeats 2000000 in
theorem reverse4 (g cap : Nat) (c : Array Value) (a0 a1 a2 a3 : Int) (w : World) (hg : w.heap[g]? = some (.cells c 5 (0, 0))) (hc : c.size = cap) (h4 : 4 ≤ cap)
    (c0 : c[0]? = some (.int .u8 a0)) (c1 : c[1]? = some (.int .u8 a1)) (c2 : c[2]? = some (.int .u8 a2)) (c3 : c[3]? = some (.int .u8 a3)) :
    Calls Try.prog 31 #[.slice (some ⟨g, 0, none⟩) 4 cap] w fun e w' => e = .returned (.tuple #[]) ∧ Only (fun k => k = g) w w' ∧
      ∃ c', w'.heap[g]? = some (.cells c' 5 (0, 0)) ∧ c'.size = cap ∧ c'.toList.take 4 = [.int .u8 a3, .int .u8 a2, .int .u8 a1, .int .u8 a0] := by
  have g0 := (cell_blk hg 0).trans c0
  have g1 := (cell_blk hg 1).trans c1
  have g2 := (cell_blk hg 2).trans c2
  have g3 := (cell_blk hg 3).trans c3
  have f0 := frozen_blk hg 0
  have f1 := frozen_blk hg 1
  have f2 := frozen_blk hg 2
  have f3 := frozen_blk hg 3
  have Hg := Lib.hid hg
  have HC := Lib.hid (four_of (l := c.toList) (by simpa using c0) (by simpa using c1) (by simpa using c2) (by simpa using c3))
  clear hg c0 c1 c2 c3
  go_enter Try.func31, Try.ntmps31
  go_wp2
  refine wp_loop_rounds 3 ?_
  rw [rounds_succ]
  go_wp2
  go_region
  go_wp2
  rw [rounds_succ]
  go_wp2
  go_region
  go_wp2
  rw [rounds_succ]
  go_wp2
  go_end0
  refine ⟨rfl, ((((((Only.refl (fun k => k = g) w).setCell (fun _ => rfl) _).setCell (fun _ => rfl) _).setCell (fun _ => rfl) _).setCell (fun _ => rfl) _).drew).drew, _, heap_setCell_at (heap_setCell_at (heap_setCell_at (heap_setCell_at Hg.out))), by simp [hc], ?_⟩
  obtain ⟨r, hr⟩ := HC.out
  rcases c with ⟨l⟩
  simp only at hr
  subst hr
  rfl

/-- An owned row of four bytes, opened. -/
theorem row4 {w : World} {B : Nat} {v : Value} {a0 a1 a2 a3 : Int} (h : Row w B v [a0, a1, a2, a3]) : ∃ g cap c, v = .slice (some ⟨g, 0, none⟩) 4 cap ∧ B ≤ g ∧ w.heap[g]? = some (.cells c 5 (0, 0)) ∧ c.size = cap ∧ 4 ≤ cap ∧ cap ≤ maxLen ∧
    c[0]? = some (.int .u8 a0) ∧ c[1]? = some (.int .u8 a1) ∧ c[2]? = some (.int .u8 a2) ∧ c[3]? = some (.int .u8 a3) := by
  rcases h.2 with ⟨rfl, hn⟩ | ⟨g, cap, cur, rfl, hb, hg, hnc, hcm, hcs, htake⟩
  · simp at hn
  · simp only [List.length_cons, List.length_nil] at hnc htake
    refine ⟨g, cap, cur, rfl, hb, hg, by simpa using hcs, by omega, hcm, ?_⟩
    have := take_four (l := cur.toList) htake
    simpa using this

set_option maxHeartbeats 1000000 in
theorem sealOf (vn vb : Value) (ns zs : List Int) (w : World) (hn : Bytes w vn ns) (hb : Bytes w vb zs) (hnl : ns.length ≤ 140737488355328) (hl : zs.length ≤ 140737488355328) :
    Calls Try.prog 21 #[vn, vb] w fun e w' => ∃ v', e = .returned v' ∧ Row w' w.heap.size v' (le4 (crc (ns ++ zs))) ∧ Only (fun _ => False) w w' := by
  have hcr : crc (ns ++ zs) = crcL (crcL 4294967295 ns) zs ^^^ 4294967295 := by unfold crc; rw [crcL_append]
  have hlt := crc_lt (ns ++ zs)
  have hlt1 := crcL_lt ns (s := 4294967295) (by decide)
  have Hn := Lib.hid hn
  have Hb := Lib.hid hb
  have Hnlt := Lib.hid hn.lt
  have Hblt := Lib.hid hb.lt
  have Hcr := Lib.hid hcr
  obtain ⟨ao1, cap1, rfl, _, _, _, _, _⟩ := id hn
  obtain ⟨ao2, cap2, rfl, _, _, _, _, _⟩ := id hb
  clear hn hb hcr
  go_enter Try.func21, Try.ntmps21
  go_wp2_with (go_at_call 16; refine (summing _).mono ?_; rintro e w1 ⟨rfl, hr, ho, hs⟩)
  refine (summing1 _ ns w.heap.size 4294967295 w1 ((Hn.out).only ho (fun _ _ _ h => h)) hnl hr (by decide) (fun k hk hn => by have := Hnlt.out k hk hn; omega)).mono ?_
  rintro e w2 ⟨rfl, hr2, ho2⟩
  have hon2 : Only (fun _ => False) w w2 := ho.trans ho2 (fun k hk hl => by omega)
  clear hr
  go_wp2_with (fail)
  refine (summing1 _ zs w.heap.size _ w2 ((Hb.out).only hon2 (fun _ _ _ h => h)) hl hr2 hlt1 (fun k hk hn => by have := Hblt.out k hk hn; omega)).mono ?_
  rintro e w3 ⟨rfl, hr3, ho3⟩
  have hon3 : Only (fun _ => False) w w3 := hon2.trans ho3 (fun k hk hl => by omega)
  clear hr2 hr3
  rw [← Hcr.out]
  go_wp2_with (fail)
  refine (field _ w3 (by omega) (by omega)).mono ?_
  rintro e w4 ⟨v', rfl, hrow, ho4⟩
  have hon4 : Only (fun _ => False) w w4 := hon3.trans ho4 (fun _ h => h.elim)
  obtain ⟨g, cap, c, rfl, hge, hg, hc, h4, hcm, c0, c1, c2, c3⟩ := row4 hrow
  have Hc := Lib.hid hc
  clear hc hrow Hcr
  go_wp2_with (fail)
  refine (reverse4 g cap c _ _ _ _ w4 hg Hc.out h4 c0 c1 c2 c3).mono ?_
  rintro e w5 ⟨rfl, ho5, c', hg5, hc5, ht⟩
  have Hc5 := Lib.hid hc5
  have Hg5 := Lib.hid hg5
  have Ht := Lib.hid ht
  clear hc5 ht hg5 hg c0 c1 c2 c3
  go_wp2
  go_ret
  have hs3 := hon3.size
  refine ⟨_, rfl, ⟨?_, .inr ⟨g, cap, c', rfl, by omega, Hg5.out, h4, hcm, by simpa using Hc5.out, ?_⟩⟩, hon4.trans ho5 (fun k hk hl => by omega)⟩
  · simp
  · exact Ht.out
end Go.Proofs.Ytfbkmgjgklkjiaa
