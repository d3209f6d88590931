/- The document's own Open: what it answers. The bound is the form's own reach. -/
import Derived.Test.YtfbkmgjgklkjiaaSumQ
namespace Go.Proofs.Ytfbkmgjgklkjiaa
open Go.RowKit
set_option linter.unusedVariables false
set_option linter.unusedSimpArgs false

/-- The number that four bytes spell, the highest first; the lowest first. -/
def beV (zs : List Int) : Int := zs.getD 0 0 * 16777216 + zs.getD 1 0 * 65536 + zs.getD 2 0 * 256 + zs.getD 3 0
def leV (zs : List Int) : Int := zs.getD 0 0 + zs.getD 1 0 * 256 + zs.getD 2 0 * 65536 + zs.getD 3 0 * 16777216
/-- What Open answers. -/
def openZ (zs : List Int) : List Int × Int × Int :=
  if zs.length < 4 then ([], 0, 3)
  else if 1048576 < beV zs then ([], 0, 2)
  else if (zs.length : Int) < beV zs + 8 then ([], 0, 3)
  else if leV (zs.drop ((beV zs).toNat + 4)) ≠ crc (zs.take ((beV zs).toNat + 4)) then ([], beV zs + 8, 30)
  else ((zs.drop 4).take (beV zs).toNat, beV zs + 8, 0)

theorem i64_join (i : Nat) (x y : Int) (hx₀ : 0 ≤ x) (hx : x % 2 ^ i = 0) (hx₁ : x < 2 ^ 63) (h₀ : 0 ≤ y) (h₁ : y < 2 ^ i) (h2 : y < 2 ^ 63) : bits .or .i64 x y = x + y :=
  bits_join .i64 63 (by decide) (fun n a b => by rw [IntKind.wrap_i64]; omega) i x y hx₀ hx hx₁ h₀ h₁ h2
theorem u32_join (i : Nat) (x y : Int) (hx₀ : 0 ≤ x) (hx : x % 2 ^ i = 0) (hx₁ : x < 2 ^ 32) (h₀ : 0 ≤ y) (h₁ : y < 2 ^ i) (h2 : y < 2 ^ 32) : bits .or .u32 x y = x + y :=
  bits_join .u32 32 (by decide) (fun n a b => by rw [IntKind.wrap_u32]; omega) i x y hx₀ hx hx₁ h₀ h₁ h2
theorem u32_join' (i : Nat) (x y : Int) (hx₀ : 0 ≤ x) (hx : x % 2 ^ i = 0) (hx₁ : x < 2 ^ 32) (h₀ : 0 ≤ y) (h₁ : y < 2 ^ i) (h2 : y < 2 ^ 32) : bits .or .u32 y x = y + x := by
  have hc : bits .or .u32 y x = bits .or .u32 x y := by unfold bits; simp only [BitVec.or_comm]
  rw [hc, u32_join i x y hx₀ hx hx₁ h₀ h₁ h2, Int.add_comm]

/-- The first so many bytes. -/
theorem Bytes.first {w : World} {ao : Option Addr} {cap : Nat} {zs : List Int} (hb : Bytes w (.slice ao zs.length cap) zs) (k : Nat) (hk : k ≤ zs.length) : Bytes w (.slice ao k cap) (zs.take k) := by
  obtain ⟨ao', cap', e, h1, h2, h3, h4, h⟩ := hb
  injection e with e1 _ e3
  subst e1 e3
  have hl : (zs.take k).length = k := by simp; omega
  refine ⟨ao, cap, by rw [hl], by omega, h2, h3, h4.take k, fun x hx j hj => ?_⟩
  rw [hl] at hj
  rw [h x hx j (by omega)]
  simp [List.getD, hj]

/-- The bytes behind the first so many, at a plain address. -/
theorem Bytes.behind {w : World} {b o cap : Nat} {zs : List Int} (hb : Bytes w (.slice (some ⟨b, o, none⟩) zs.length cap) zs) (k : Nat) (hk : k ≤ zs.length) : Bytes w (.slice (some ⟨b, o + k, none⟩) (zs.length - k) (cap - k)) (zs.drop k) := by
  have hb' := hb
  obtain ⟨ao', cap', e, h1, h2, h3, h4, h⟩ := hb
  injection e with e1 e2 e3
  subst e3
  refine ⟨some ⟨b, o + k, none⟩, cap - k, by rw [List.length_drop], by rw [List.length_drop]; omega, by omega, (fun h => by cases h), h4.drop k, fun x hx j hj => ?_⟩
  cases hx
  rw [List.length_drop] at hj
  rw [add_lit]
  have := cellOf hb' (k + j) (by omega)
  rw [Nat.add_assoc, this]
  simp [List.getD]

set_option maxHeartbeats 4000000 in
set_option maxRecDepth 100000 in
theorem refOpen (v : Value) (zs : List Int) (w : World) (hb : Bytes w v zs) (hl : zs.length ≤ 140737488351232) :
    Calls Try.prog 15 #[v] w fun e w' => ∃ v', e = .returned (.tuple #[v', .int .i64 (openZ zs).2.1, .int .i64 (openZ zs).2.2]) ∧ Only (fun _ => False) w w' ∧ Row w' w.heap.size v' (openZ zs).1 := by
  obtain ⟨i0, hi, hz0, hz1, hz2⟩ := info_parts info_u8
  obtain ⟨ao, cap, rfl, hq1, hq2, hq3, hbz, hcells⟩ := id hb
  have Hb := Lib.hid hb
  clear hb hcells hq3
  by_cases h4 : zs.length < 4
  · have ho : openZ zs = ([], 0, 3) := by unfold openZ; rw [if_pos h4]
    rw [ho]
    have h4z : (zs.length : Int) < 4 := by omega
    go_enter Try.func15, Try.ntmps15
    go_wp2
    go_ret3
    exact ⟨_, rfl, Only.refl _ _, World.ownsRow_nil _ _ _ _⟩
  obtain ⟨b, o, rfl⟩ := Bytes.addr Hb.out (by omega)
  have h4z : (4 : Int) ≤ (zs.length : Int) := by omega
  have c0 := cellOf Hb.out 0 (by omega)
  have r0 := hbz.getD (j := 0) (by omega)
  obtain ⟨x0, hx0⟩ : ∃ x0, zs.getD 0 0 = x0 := ⟨_, rfl⟩
  rw [hx0] at c0 r0
  have l0 : ((0 : Nat) : Int) < (zs.length : Int) := by omega
  have c1 := cellOf Hb.out 1 (by omega)
  have r1 := hbz.getD (j := 1) (by omega)
  obtain ⟨x1, hx1⟩ : ∃ x1, zs.getD 1 0 = x1 := ⟨_, rfl⟩
  rw [hx1] at c1 r1
  have l1 : ((1 : Nat) : Int) < (zs.length : Int) := by omega
  have c2 := cellOf Hb.out 2 (by omega)
  have r2 := hbz.getD (j := 2) (by omega)
  obtain ⟨x2, hx2⟩ : ∃ x2, zs.getD 2 0 = x2 := ⟨_, rfl⟩
  rw [hx2] at c2 r2
  have l2 : ((2 : Nat) : Int) < (zs.length : Int) := by omega
  have c3 := cellOf Hb.out 3 (by omega)
  have r3 := hbz.getD (j := 3) (by omega)
  obtain ⟨x3, hx3⟩ : ∃ x3, zs.getD 3 0 = x3 := ⟨_, rfl⟩
  rw [hx3] at c3 r3
  have l3 : ((3 : Nat) : Int) < (zs.length : Int) := by omega
  rw [Nat.add_zero] at c0
  have o1 := i64_join 24 (x0 * 16777216) (x1 * 65536) (by omega) (by omega) (by omega) (by omega) (by omega) (by omega)
  have o2 := i64_join 16 (x0 * 16777216 + x1 * 65536) (x2 * 256) (by omega) (by omega) (by omega) (by omega) (by omega) (by omega)
  have o3 := i64_join 8 (x0 * 16777216 + x1 * 65536 + x2 * 256) x3 (by omega) (by omega) (by omega) (by omega) (by omega) (by omega)
  obtain ⟨n, hn⟩ : ∃ n : Nat, x0 * 16777216 + x1 * 65536 + x2 * 256 + x3 = (n : Int) := ⟨(x0 * 16777216 + x1 * 65536 + x2 * 256 + x3).toNat, by omega⟩
  have hbv : beV zs = (n : Int) := by unfold beV; rw [hx0, hx1, hx2, hx3]; exact hn
  rw [hn] at o3
  have Hbv := Lib.hid hbv
  have hnlt : n < 4294967296 := by omega
  clear hx0 hx1 hx2 hx3 hn hbv
  by_cases hbig : 1048576 < n
  · have ho : openZ zs = ([], 0, 2) := by unfold openZ; rw [if_neg h4, if_pos (by rw [Hbv.out]; omega)]
    rw [ho]
    have hbz2 : (1048576 : Int) < (n : Int) := by omega
    go_enter Try.func15, Try.ntmps15
    go_wp2
    go_quiet (fail)
    go_wp2
    go_ret3
    exact ⟨_, rfl, by repeat (first | exact Only.refl _ _ | apply Only.drewN), World.ownsRow_nil _ _ _ _⟩
  by_cases hsh : zs.length < n + 8
  · have ho : openZ zs = ([], 0, 3) := by unfold openZ; rw [if_neg h4, if_neg (by rw [Hbv.out]; omega), if_pos (by rw [Hbv.out]; omega)]
    rw [ho]
    have hbz2 : (n : Int) ≤ 1048576 := by omega
    have hsz2 : (zs.length : Int) < (n : Int) + 8 := by omega
    go_enter Try.func15, Try.ntmps15
    go_wp2
    go_quiet (fail)
    go_wp2
    go_ret3
    exact ⟨_, rfl, by repeat (first | exact Only.refl _ _ | apply Only.drewN), World.ownsRow_nil _ _ _ _⟩
  have hbz2 : (n : Int) ≤ 1048576 := by omega
  have hsz2 : (n : Int) + 8 ≤ (zs.length : Int) := by omega
  have e4 : IntKind.i64.wrap ((n : Int) + 4) = (n : Int) + 4 := IntWalk.i64_in _ (by omega)
  have p4 : (0 : Int) ≤ (n : Int) + 4 := by omega
  have t4 : ((n : Int) + 4).toNat = n + 4 := by omega
  have q4 : (n : Int) + 4 < (zs.length : Int) := by omega
  have d4 := cellOf Hb.out (n + 4) (by omega)
  have s4 := hbz.getD (j := n + 4) (by omega)
  obtain ⟨y0, hy0⟩ : ∃ y0, zs.getD (n + 4) 0 = y0 := ⟨_, rfl⟩
  rw [hy0] at d4 s4
  have e5 : IntKind.i64.wrap ((n : Int) + 5) = (n : Int) + 5 := IntWalk.i64_in _ (by omega)
  have p5 : (0 : Int) ≤ (n : Int) + 5 := by omega
  have t5 : ((n : Int) + 5).toNat = n + 5 := by omega
  have q5 : (n : Int) + 5 < (zs.length : Int) := by omega
  have d5 := cellOf Hb.out (n + 5) (by omega)
  have s5 := hbz.getD (j := n + 5) (by omega)
  obtain ⟨y1, hy1⟩ : ∃ y1, zs.getD (n + 5) 0 = y1 := ⟨_, rfl⟩
  rw [hy1] at d5 s5
  have e6 : IntKind.i64.wrap ((n : Int) + 6) = (n : Int) + 6 := IntWalk.i64_in _ (by omega)
  have p6 : (0 : Int) ≤ (n : Int) + 6 := by omega
  have t6 : ((n : Int) + 6).toNat = n + 6 := by omega
  have q6 : (n : Int) + 6 < (zs.length : Int) := by omega
  have d6 := cellOf Hb.out (n + 6) (by omega)
  have s6 := hbz.getD (j := n + 6) (by omega)
  obtain ⟨y2, hy2⟩ : ∃ y2, zs.getD (n + 6) 0 = y2 := ⟨_, rfl⟩
  rw [hy2] at d6 s6
  have e7 : IntKind.i64.wrap ((n : Int) + 7) = (n : Int) + 7 := IntWalk.i64_in _ (by omega)
  have p7 : (0 : Int) ≤ (n : Int) + 7 := by omega
  have t7 : ((n : Int) + 7).toNat = n + 7 := by omega
  have q7 : (n : Int) + 7 < (zs.length : Int) := by omega
  have d7 := cellOf Hb.out (n + 7) (by omega)
  have s7 := hbz.getD (j := n + 7) (by omega)
  obtain ⟨y3, hy3⟩ : ∃ y3, zs.getD (n + 7) 0 = y3 := ⟨_, rfl⟩
  rw [hy3] at d7 s7
  have u1 := u32_join' 8 (y1 * 256) y0 (by omega) (by omega) (by omega) (by omega) (by omega) (by omega)
  have u2 := u32_join' 16 (y2 * 65536) (y0 + y1 * 256) (by omega) (by omega) (by omega) (by omega) (by omega) (by omega)
  have u3 := u32_join' 24 (y3 * 16777216) (y0 + y1 * 256 + y2 * 65536) (by omega) (by omega) (by omega) (by omega) (by omega) (by omega)
  obtain ⟨s, hs⟩ : ∃ s : Nat, y0 + y1 * 256 + y2 * 65536 + y3 * 16777216 = (s : Int) := ⟨(y0 + y1 * 256 + y2 * 65536 + y3 * 16777216).toNat, by omega⟩
  rw [hs] at u3
  have hlv : leV (zs.drop (n + 4)) = (s : Int) := by
    have g : ∀ k, (zs.drop (n + 4)).getD k 0 = zs.getD (n + 4 + k) 0 := fun k => by simp [List.getD, List.getElem?_drop]
    unfold leV
    rw [g, g, g, g, Nat.add_zero, show n + 4 + 1 = n + 5 by omega, show n + 4 + 2 = n + 6 by omega, show n + 4 + 3 = n + 7 by omega, hy0, hy1, hy2, hy3]
    exact hs
  have Hlv := Lib.hid hlv
  have hslt : s < 4294967296 := by omega
  have hcl := crc_lt (zs.take (n + 4))
  have hb4 := Bytes.first Hb.out (n + 4) (by omega)
  have Hb4 := Lib.hid hb4
  have hq8 : (n : Int) + 4 ≤ (cap : Int) := by omega
  have hc4 : ¬ cap = 4 := by omega
  have e8 : IntKind.i64.wrap ((n : Int) + 8) = (n : Int) + 8 := IntWalk.i64_in _ (by omega)
  clear hy0 hy1 hy2 hy3 hs hlv hb4
  have hlt4 : (zs.take (n + 4)).length ≤ 140737488355328 := by simp; omega
  have Hlt4 := Lib.hid hlt4
  clear hlt4
  go_enter Try.func15, Try.ntmps15
  go_wp2
  go_quiet (fail)
  obtain ⟨q1, hq1⟩ : ∃ q1, q1 = nq := ⟨nq, rfl⟩
  rw [← hq1]
  clear hq1
  go_wp2
  go_quiet (fail)
  go_wp2_with (fail)
  have hoD : ∀ q, Only (fun _ => False) w (w.drewN q) := fun q => (Only.refl _ _).drewN q
  have hbD : ∀ q, Bytes (w.drewN q) (.slice (some ⟨b, o, none⟩) (n + 4) cap) (zs.take (n + 4)) := fun q => (Hb4.out).only (hoD q) (fun _ _ _ h => h)
  refine (refSum _ (zs.take (n + 4)) _ (hbD _) Hlt4.out).mono ?_
  rintro e w1 ⟨rfl, rfl⟩
  obtain ⟨wd, hwd⟩ : ∃ wd, w.drewN (q1 + nq) = wd := ⟨_, rfl⟩
  have ho1 : Only (fun _ => False) w wd := by rw [← hwd]; exact hoD _
  rw [hwd]
  have Ho1 := Lib.hid ho1
  clear hoD hbD hwd ho1
  obtain ⟨k, hk⟩ : ∃ k, crc (zs.take (n + 4)) = k := ⟨_, rfl⟩
  rw [hk] at hcl ⊢
  have Hk := Lib.hid hk
  clear hk
  by_cases hsk : s = k
  · subst hsk
    have hoz : openZ zs = ((zs.drop 4).take n, (n : Int) + 8, 0) := by
      unfold openZ
      rw [if_neg h4, if_neg (by rw [Hbv.out]; omega), if_neg (by rw [Hbv.out]; omega), Hbv.out, Int.toNat_natCast, if_neg (by rw [Hlv.out, Hk.out]; simp)]
    have Hoz := Lib.hid hoz
    clear hoz
    have hsrc : Bytes w (.slice (some ⟨b, o + 4, none⟩) n (cap - 4)) ((zs.drop 4).take n) := by
      have h1 := Bytes.behind Hb.out 4 (by omega)
      have h2 : (zs.drop 4).length = zs.length - 4 := by simp
      rw [← h2] at h1
      exact Bytes.first h1 n (by rw [h2]; omega)
    have hnl : ((zs.drop 4).take n).length = n := by simp; omega
    have hsB : Src wd 1 (.slice (some ⟨b, o + 4, none⟩) n (cap - 4)) n (((zs.drop 4).take n).map (Value.int .u8)) := by
      have := Src.of_bytes (hsrc.only Ho1.out (fun _ _ _ h => h))
      rw [hnl] at this
      exact this
    obtain ⟨ps, hps⟩ : ∃ ps, (zs.drop 4).take n = ps := ⟨_, rfl⟩
    rw [hps] at hsB hnl Hoz
    have HsB := Lib.hid hsB
    have Hnl := Lib.hid hnl
    clear hsrc hsB hnl hps
    clear o1 o2 o3 u1 u2 u3 c0 c1 c2 c3 d4 d5 d6 d7 r0 r1 r2 r3 s4 s5 s6 s7 hcl hslt
    go_wp2_with (at_builtin; go_loud (refine wpList_append_src rfl (.tmp 78) (.tmp 82) 22 rfl 5 i0 (.int .u8 0) 1 1 Try.underlying22 hi hz0 hz1 hz2 rfl (by decide) wd.heap.size (.slice (some ⟨wd.heap.size, 0, none⟩) 0 0) 0 [] rfl (by exact World.ownsRow_made _ #[] 0 (Nat.le_refl _) (Nat.zero_le _) rfl) (by simp) (.slice (some ⟨b, o + 4, none⟩) n (cap - 4)) n (ps.map (Value.int .u8)) rfl (by exact (HsB.out).alloc _) (by unfold maxLen; omega) (by omega) ?_); intro v' w3 hown3 hgrow3 hnew3)
    have hgB : Below wd.heap.size wd w3 := Below.grown (B := wd.heap.size) ((Below.refl _ _).alloc (Nat.le_refl _) _) hgrow3 (by simp) (fun k hk => by simp [Value.ownBlock] at hk; omega)
    have ho3 := (Ho1.out).trans (Only.of_below hgB (fun _ => False)) (fun _ h => h.elim)
    have hrow3 : Row w3 w.heap.size v' ps := by
      unfold Row
      rw [Hnl.out]
      refine owns_base (base := wd.heap.size) (by simpa using hown3) (fun k hk => ?_)
      have h1 := (hown3.lt k hk).1
      have h2 := (Ho1.out).size
      omega
    clear hown3 hgrow3 hnew3 hgB HsB
    go_ret3
    refine ⟨v', by rw [Hoz.out]; rfl, ho3, ?_⟩
    rw [Hoz.out]
    exact hrow3
  · have hoz : openZ zs = ([], (n : Int) + 8, 30) := by
      unfold openZ
      rw [if_neg h4, if_neg (by rw [Hbv.out]; omega), if_neg (by rw [Hbv.out]; omega), Hbv.out, Int.toNat_natCast, if_pos (by rw [Hlv.out, Hk.out]; omega)]
    have Hoz := Lib.hid hoz
    have hne : ¬ (s : Int) = (k : Int) := by omega
    clear hoz
    clear o1 o2 o3 u1 u2 u3 c0 c1 c2 c3 d4 d5 d6 d7 r0 r1 r2 r3 s4 s5 s6 s7 hcl hslt
    go_wp2
    go_ret3
    refine ⟨_, by rw [Hoz.out]; rfl, Ho1.out, ?_⟩
    rw [Hoz.out]
    exact World.ownsRow_nil _ _ _ _
end Go.Proofs.Ytfbkmgjgklkjiaa
