import Derived.Test.YtemplkpcckmcoaaGreatDoorMkTxtATxtD
import Derived.Handy
import Derived.Test.YtemplkpcckmcoaaGreatDoorMkPolAPolV
namespace Go.Proofs.YtemplkpcckmcoaaGreatDoor
set_option maxHeartbeats 4000000
open Lib (hid)
open Go.RowKit Go.Shelf
set_option linter.unusedVariables false
set_option linter.unusedSimpArgs false
def PointTo (zs : List Int) (c : Int) (n : Nat) : Prop := (Sc c ∧ n = (enc8 c).length ∧ ∃ r, zs = enc8 c ++ r) ∨ ((∀ c r, Sc c → zs ≠ enc8 c ++ r) ∧ c = 0 ∧ n = 0)
theorem wraps_i64 (n : Int) (h₀ : 0 ≤ n) (h₁ : n < 2 ^ 63) : IntKind.i64.wrap n = n := by rw [IntKind.wrap_i64]; omega
theorem i64_or6 (x y : Int) (hx₀ : 0 ≤ x) (hx : x % 64 = 0) (hx₁ : x < 9223372036854775808) (h₀ : 0 ≤ y) (h₁ : y < 64) : bits .or .i64 x y = x + y :=
 bits_join .i64 63 (by decide) wraps_i64 6 x y hx₀ hx hx₁ h₀ h₁ (by omega)
theorem i64_and31 (x : Int) (h₀ : 0 ≤ x) (h₁ : x < 256) : bits .and .i64 x 31 = x % 32 := bits_mask .i64 63 (by decide) wraps_i64 5 (by decide) x h₀ (by omega)
theorem i64_and15 (x : Int) (h₀ : 0 ≤ x) (h₁ : x < 256) : bits .and .i64 x 15 = x % 16 := bits_mask .i64 63 (by decide) wraps_i64 4 (by decide) x h₀ (by omega)
theorem i64_and7 (x : Int) (h₀ : 0 ≤ x) (h₁ : x < 256) : bits .and .i64 x 7 = x % 8 := bits_mask .i64 63 (by decide) wraps_i64 3 (by decide) x h₀ (by omega)
theorem head_facts {zs r : List Int} {c : Int} (hc : Sc c) (h : zs = enc8 c ++ r) :
  (0 ≤ c ∧ c ≤ 127 ∧ zs.getD 0 0 = c ∧ 1 ≤ zs.length) ∨ (128 ≤ c ∧ c ≤ 2047 ∧ zs.getD 0 0 = 192 + c / 64 ∧ zs.getD 1 0 = 128 + c % 64 ∧ 2 ≤ zs.length) ∨
  (2048 ≤ c ∧ (c < 55296 ∨ 57344 ≤ c) ∧ c ≤ 65535 ∧ zs.getD 0 0 = 224 + c / 4096 ∧ zs.getD 1 0 = 128 + c / 64 % 64 ∧ zs.getD 2 0 = 128 + c % 64 ∧ 3 ≤ zs.length) ∨
  (65536 ≤ c ∧ c ≤ 1114111 ∧ zs.getD 0 0 = 240 + c / 262144 ∧ zs.getD 1 0 = 128 + c / 4096 % 64 ∧ zs.getD 2 0 = 128 + c / 64 % 64 ∧ zs.getD 3 0 = 128 + c % 64 ∧ 4 ≤ zs.length) := by
 subst h
 rcases u8_cases hc with ⟨a, b, e⟩ | ⟨a, b, e⟩ | ⟨a, b, b', e⟩ | ⟨a, b, e⟩ <;> rw [e]
 ·exact .inl ⟨a, b, rfl, by simp⟩
 ·exact .inr (.inl ⟨a, b, rfl, rfl, by simp⟩)
 ·exact .inr (.inr (.inl ⟨a, b, b', rfl, rfl, rfl, by simp⟩))
 ·exact .inr (.inr (.inr ⟨a, b, rfl, rfl, rfl, rfl, by simp⟩))
theorem ok1 {zs : List Int} (hl : 1 ≤ zs.length) (c : Int) (h0 : 0 ≤ c) (h1 : c ≤ 127) (e0 : zs.getD 0 0 = c) : PointTo zs c 1 := by
 have hs : Sc c := by unfold Sc; omega
 rcases u8_cases hs with ⟨a, b, e⟩ | ⟨a, b, e⟩ | ⟨a, b, b', e⟩ | ⟨a, b, e⟩ <;> try (exfalso; omega)
 refine .inl ⟨hs, by rw [e]; rfl, zs.drop 1, ?_⟩
 rw [e, ← e0]
 match zs, hl with
 | a :: t, _ => rfl
theorem ok2 {zs : List Int} (hl : 2 ≤ zs.length) (c : Int) (h0 : 128 ≤ c) (h1 : c ≤ 2047) (e0 : zs.getD 0 0 = 192 + c / 64) (e1 : zs.getD 1 0 = 128 + c % 64) : PointTo zs c 2 := by
 have hs : Sc c := by unfold Sc; omega
 rcases u8_cases hs with ⟨a, b, e⟩ | ⟨a, b, e⟩ | ⟨a, b, b', e⟩ | ⟨a, b, e⟩ <;> try (exfalso; omega)
 refine .inl ⟨hs, by rw [e]; rfl, zs.drop 2, ?_⟩
 rw [e, ← e0, ← e1]
 match zs, hl with
 | a :: b :: t, _ => rfl
theorem ok3 {zs : List Int} (hl : 3 ≤ zs.length) (c : Int) (h0 : 2048 ≤ c) (h1 : c < 55296 ∨ 57344 ≤ c) (h2 : c ≤ 65535) (e0 : zs.getD 0 0 = 224 + c / 4096) (e1 : zs.getD 1 0 = 128 + c / 64 % 64) (e2 : zs.getD 2 0 = 128 + c % 64) : PointTo zs c 3 := by
 have hs : Sc c := by unfold Sc; omega
 rcases u8_cases hs with ⟨a, b, e⟩ | ⟨a, b, e⟩ | ⟨a, b, b', e⟩ | ⟨a, b, e⟩ <;> try (exfalso; omega)
 refine .inl ⟨hs, by rw [e]; rfl, zs.drop 3, ?_⟩
 rw [e, ← e0, ← e1, ← e2]
 match zs, hl with
 | a :: b :: c :: t, _ => rfl
theorem ok4 {zs : List Int} (hl : 4 ≤ zs.length) (c : Int) (h0 : 65536 ≤ c) (h1 : c ≤ 1114111) (e0 : zs.getD 0 0 = 240 + c / 262144) (e1 : zs.getD 1 0 = 128 + c / 4096 % 64) (e2 : zs.getD 2 0 = 128 + c / 64 % 64) (e3 : zs.getD 3 0 = 128 + c % 64) : PointTo zs c 4 := by
 have hs : Sc c := by unfold Sc; omega
 rcases u8_cases hs with ⟨a, b, e⟩ | ⟨a, b, e⟩ | ⟨a, b, b', e⟩ | ⟨a, b, e⟩ <;> try (exfalso; omega)
 refine .inl ⟨hs, by rw [e]; rfl, zs.drop 4, ?_⟩
 rw [e, ← e0, ← e1, ← e2, ← e3]
 match zs, hl with
 | a :: b :: c :: d :: t, _ => rfl
theorem byteAt (s : ByteArray) (i : Nat) (h : i < s.size) : ∃ x : UInt8, s[i]'h = x ∧ (nums s).getD i 0 = (x.toNat : Int) ∧ x.toNat < 256 :=
 ⟨s.get! i, (Utf8W.get!_of_lt s i h).symm, nums_get s i, (s.get! i).toNat_lt⟩
set_option maxRecDepth 100000 in
theorem point (s : ByteArray) (w : World) (hs : s.size ≤ 9223372036854775807) (h0 : 0 < s.size) :
  Calls Tryz.prog 133 #[.string s] w fun e w' => (∃ (c : Int) (n : Nat), e = .returned (.tuple #[.int .i64 c, .int .i64 n]) ∧ PointTo (nums s) c n) ∧ Drawn w w' := by
 have h0z : (0 : Int) < (s.size : Int) := by omega
 obtain ⟨x0, hs0, hn0, hx0lt⟩ := byteAt s 0 h0
 by_cases c1 : x0.toNat < 128
 ·go_enter Tryz.func133, Tryz.ntmps133
  go_wp2
  all_goals go_ret2
  all_goals first | (exfalso; omega) | skip
  all_goals exact ⟨⟨_, 1, rfl, ok1 (by rw [nums_len]; omega) _ (by omega) (by omega) (by rw [hn0])⟩, 0, rfl⟩
 by_cases c2 : 194 ≤ x0.toNat ∧ x0.toNat ≤ 223
 ·obtain ⟨c2a, c2b⟩ := c2
  by_cases l2 : s.size < 2
  ·go_enter Tryz.func133, Tryz.ntmps133
   have m0 := i64_and31 (x0.toNat : Int) (by omega) (by omega)
   go_wp2
   all_goals first | go_ret2 | skip
   all_goals first | (exfalso; omega) | skip
   all_goals refine ⟨⟨_, 0, rfl, .inr ⟨fun c r hc he => ?_, rfl, rfl⟩⟩, 0, rfl⟩
   all_goals have hf := head_facts hc he
   all_goals rw [hn0, nums_len] at hf
   all_goals omega
  ·have l2n : 2 ≤ s.size := by omega
   obtain ⟨x1, hs1, hn1, hx1lt⟩ := byteAt s 1 (by omega)
   have l1z : ((1 : Nat) : Int) < (s.size : Int) := by omega
   have a1 := u8_and63 (x1.toNat : Int) (by omega) (by omega)
   have m0 := i64_and31 (x0.toNat : Int) (by omega) (by omega)
   have o1 := i64_or6 ((x0.toNat : Int) % 32 * 64) ((x1.toNat : Int) % 64) (by omega) (by omega) (by omega) (by omega) (by omega)
   go_enter Tryz.func133, Tryz.ntmps133
   go_wp2
   go_rounds 3
   all_goals first | go_ret2 | skip
   all_goals first | (exfalso; omega) | (refine ⟨⟨_, 0, rfl, .inr ⟨fun c r hc he => ?_, rfl, rfl⟩⟩, 0, rfl⟩; have hf := head_facts hc he; rw [hn0, hn1, nums_len] at hf; omega) | exact ⟨⟨_, 2, rfl, ok2 (by rw [nums_len]; omega) _ (by omega) (by omega) (by rw [hn0]; omega) (by rw [hn1]; omega)⟩, 0, rfl⟩
 by_cases c3 : 224 ≤ x0.toNat ∧ x0.toNat ≤ 239
 ·obtain ⟨c3a, c3b⟩ := c3
  by_cases l3 : s.size < 3
  ·go_enter Tryz.func133, Tryz.ntmps133
   have m0 := i64_and15 (x0.toNat : Int) (by omega) (by omega)
   go_wp2
   all_goals first | go_ret2 | skip
   all_goals first | (exfalso; omega) | skip
   all_goals refine ⟨⟨_, 0, rfl, .inr ⟨fun c r hc he => ?_, rfl, rfl⟩⟩, 0, rfl⟩
   all_goals have hf := head_facts hc he
   all_goals rw [hn0, nums_len] at hf
   all_goals omega
  ·have l3n : 3 ≤ s.size := by omega
   obtain ⟨x1, hs1, hn1, hx1lt⟩ := byteAt s 1 (by omega)
   have l1z : ((1 : Nat) : Int) < (s.size : Int) := by omega
   have a1 := u8_and63 (x1.toNat : Int) (by omega) (by omega)
   obtain ⟨x2, hs2, hn2, hx2lt⟩ := byteAt s 2 (by omega)
   have l2z : ((2 : Nat) : Int) < (s.size : Int) := by omega
   have a2 := u8_and63 (x2.toNat : Int) (by omega) (by omega)
   have m0 := i64_and15 (x0.toNat : Int) (by omega) (by omega)
   have o1 := i64_or6 ((x0.toNat : Int) % 16 * 64) ((x1.toNat : Int) % 64) (by omega) (by omega) (by omega) (by omega) (by omega)
   have o2 := i64_or6 (((x0.toNat : Int) % 16 * 64 + (x1.toNat : Int) % 64) * 64) ((x2.toNat : Int) % 64) (by omega) (by omega) (by omega) (by omega) (by omega)
   go_enter Tryz.func133, Tryz.ntmps133
   go_wp2
   go_rounds 4
   all_goals first | go_ret2 | skip
   all_goals first | (exfalso; omega) | (refine ⟨⟨_, 0, rfl, .inr ⟨fun c r hc he => ?_, rfl, rfl⟩⟩, 0, rfl⟩; have hf := head_facts hc he; rw [hn0, hn1, hn2, nums_len] at hf; omega) | exact ⟨⟨_, 3, rfl, ok3 (by rw [nums_len]; omega) _ (by omega) (by omega) (by omega) (by rw [hn0]; omega) (by rw [hn1]; omega) (by rw [hn2]; omega)⟩, 0, rfl⟩
 by_cases c4 : 240 ≤ x0.toNat ∧ x0.toNat ≤ 244
 ·obtain ⟨c4a, c4b⟩ := c4
  by_cases l4 : s.size < 4
  ·go_enter Tryz.func133, Tryz.ntmps133
   have m0 := i64_and7 (x0.toNat : Int) (by omega) (by omega)
   go_wp2
   all_goals first | go_ret2 | skip
   all_goals first | (exfalso; omega) | skip
   all_goals refine ⟨⟨_, 0, rfl, .inr ⟨fun c r hc he => ?_, rfl, rfl⟩⟩, 0, rfl⟩
   all_goals have hf := head_facts hc he
   all_goals rw [hn0, nums_len] at hf
   all_goals omega
  ·have l4n : 4 ≤ s.size := by omega
   obtain ⟨x1, hs1, hn1, hx1lt⟩ := byteAt s 1 (by omega)
   have l1z : ((1 : Nat) : Int) < (s.size : Int) := by omega
   have a1 := u8_and63 (x1.toNat : Int) (by omega) (by omega)
   obtain ⟨x2, hs2, hn2, hx2lt⟩ := byteAt s 2 (by omega)
   have l2z : ((2 : Nat) : Int) < (s.size : Int) := by omega
   have a2 := u8_and63 (x2.toNat : Int) (by omega) (by omega)
   obtain ⟨x3, hs3, hn3, hx3lt⟩ := byteAt s 3 (by omega)
   have l3z : ((3 : Nat) : Int) < (s.size : Int) := by omega
   have a3 := u8_and63 (x3.toNat : Int) (by omega) (by omega)
   have m0 := i64_and7 (x0.toNat : Int) (by omega) (by omega)
   have o1 := i64_or6 ((x0.toNat : Int) % 8 * 64) ((x1.toNat : Int) % 64) (by omega) (by omega) (by omega) (by omega) (by omega)
   have o2 := i64_or6 (((x0.toNat : Int) % 8 * 64 + (x1.toNat : Int) % 64) * 64) ((x2.toNat : Int) % 64) (by omega) (by omega) (by omega) (by omega) (by omega)
   have o3 := i64_or6 ((((x0.toNat : Int) % 8 * 64 + (x1.toNat : Int) % 64) * 64 + (x2.toNat : Int) % 64) * 64) ((x3.toNat : Int) % 64) (by omega) (by omega) (by omega) (by omega) (by omega)
   go_enter Tryz.func133, Tryz.ntmps133
   go_wp2
   go_rounds 5
   all_goals first | go_ret2 | skip
   all_goals first | (exfalso; omega) | (refine ⟨⟨_, 0, rfl, .inr ⟨fun c r hc he => ?_, rfl, rfl⟩⟩, 0, rfl⟩; have hf := head_facts hc he; rw [hn0, hn1, hn2, hn3, nums_len] at hf; omega) | exact ⟨⟨_, 4, rfl, ok4 (by rw [nums_len]; omega) _ (by omega) (by omega) (by rw [hn0]; omega) (by rw [hn1]; omega) (by rw [hn2]; omega) (by rw [hn3]; omega)⟩, 0, rfl⟩
 ·go_enter Tryz.func133, Tryz.ntmps133
  go_wp2
  all_goals first | go_ret2 | skip
  all_goals first | (exfalso; omega) | skip
  all_goals refine ⟨⟨_, 0, rfl, .inr ⟨fun c r hc he => ?_, rfl, rfl⟩⟩, 0, rfl⟩
  all_goals have hf := head_facts hc he
  all_goals rw [hn0] at hf
  all_goals omega
theorem unit (u : Int) (w : World) (h0 : 0 ≤ u) (h1 : u ≤ 65535) :
  Calls Tryz.prog 134 #[.int .i64 u] w fun e w' => ∃ v, e = .returned v ∧ Src w' 1 v (unitZ u).length ((unitZ u).map (Value.int .u8)) ∧ Only (fun _ => False) w w' := by
 by_cases c1 : 1 ≤ u ∧ u ≤ 127
 ·obtain ⟨ca, cb⟩ := c1
  rw [unitZ_one ca cb]
  go_enter Tryz.func134, Tryz.ntmps134
  go_wp2
  go_ret
  refine ⟨_, rfl, ?_, (Only.refl _ _).alloc _⟩
  exact Src.few (w := w) (t := 5) (xs := [.int .u8 (u)]) (by intro x hx; simp only [List.mem_cons, List.mem_nil_iff, or_false] at hx; subst hx; rfl)
 by_cases c2 : u ≤ 2047
 ·have c1' : u < 1 ∨ 127 < u := by omega
  rw [unitZ_two (by omega) c2]
  go_enter Tryz.func134, Tryz.ntmps134
  go_wp2
  all_goals go_ret
  all_goals first | (exfalso; omega) | skip
  all_goals refine ⟨_, rfl, ?_, (Only.refl _ _).alloc _⟩
  all_goals exact Src.few (w := w) (t := 5) (xs := [.int .u8 (192 + u / 64), .int .u8 (128 + u % 64)]) (by intro x hx; simp only [List.mem_cons, List.mem_nil_iff, or_false] at hx; rcases hx with rfl | rfl <;> rfl)
 ·rw [unitZ_three (by omega)]
  go_enter Tryz.func134, Tryz.ntmps134
  go_wp2
  all_goals go_ret
  all_goals first | (exfalso; omega) | skip
  all_goals refine ⟨_, rfl, ?_, (Only.refl _ _).alloc _⟩
  all_goals exact Src.few (w := w) (t := 5) (xs := [.int .u8 (224 + u / 4096), .int .u8 (128 + u / 64 % 64), .int .u8 (128 + u % 64)]) (by intro x hx; simp only [List.mem_cons, List.mem_nil_iff, or_false] at hx; rcases hx with rfl | rfl | rfl <;> rfl)
theorem nums_ext (t : ByteArray) (n : Nat) : nums (t.extract n t.size) = (nums t).drop n := by
 rw [nums, Lib.extract_data, List.take_of_length_le (by rw [List.length_drop]; exact Nat.le_refl _)]
 simp only [nums, numsL, List.map_drop]
set_option maxRecDepth 100000 in
theorem refEncode (s : ByteArray) (w : World) (hs : s.size ≤ 70368744177664) :
  Calls Tryz.prog 115 #[.string s] w fun e w' => ∃ v ys k, e = .returned (.tuple #[v, .int .i64 k]) ∧ EncTo w s v ys k w' := by
 obtain ⟨i0, hi, hz0, hz1, hz2⟩ := info_parts info_u8
 go_enter Tryz.func115, Tryz.ntmps115
 go_wp2
 go_loopg [0, 4] (s.size + 1) (fun gk s0 b wr => ∃ (t : ByteArray) (pre : List Int), s0 = .string t ∧ AllSc pre ∧ nums s = U8s pre ++ nums t ∧ t.size < gk ∧ Row wr w.heap.size b (M8s pre) ∧ Only (fun _ => False) w wr)
 case atStart => exact ⟨s, [], rfl, .nil, rfl, by omega, World.ownsRow_nil _ _ _ _, Only.refl _ _⟩
 case round =>
  obtain ⟨t, pre, rfl, hsc, hnum, hgk, hrow, hon⟩ := hrel
  obtain ⟨ao, cap, rfl, hc1, hc2⟩ := slice_of_owns hrow
  have hlen : (U8s pre).length + t.size = s.size := by rw [← nums_len s, hnum, List.length_append, nums_len]
  have hml := (M8s_len hsc).2
  have Hnum := hid hnum
  have Hrow := hid hrow
  clear hnum hrow
  obtain ⟨ys, hys⟩ : ∃ ys, M8s pre = ys := ⟨_, rfl⟩
  rw [hys] at hml Hrow hc1
  rw [hys]
  have Hys := hid hys
  clear hys
  by_cases h0 : 0 < t.size
  ·obtain ⟨g', rfl⟩ : ∃ g', gk = g' + 1 := ⟨gk - 1, by omega⟩
   have h0z : (0 : Int) < (t.size : Int) := by omega
   go_wp2_with (fail)
   refine (point t _ (by omega) h0).mono ?_
   rintro e w1 ⟨⟨c, n, rfl, hpt⟩, hdr⟩
   have hon1 : Only (fun _ => False) w w1 := hon.trans (hdr.only (S := fun _ => False)) (fun _ h => h.elim)
   have hrow1 : Row w1 w.heap.size (.slice ao ys.length cap) ys := Row.only Hrow.out (hdr.only (S := fun _ => False)) (fun _ _ h => h)
   clear hdr Hrow
   rcases hpt with ⟨hc, hn, r, hr⟩ | ⟨hno, rfl, rfl⟩
   ·have hnle : n ≤ t.size := by rw [← nums_len, hr, List.length_append]; omega
    have hnz : (n : Int) ≤ (t.size : Int) := by omega
    have hn1 : 1 ≤ n := by rw [hn]; exact (u8_len hc).1
    have hnb : ((n : Int) == 0) = false := by simp; omega
    clear hon
    have hext : nums (t.extract n t.size) = r := by rw [nums_ext, hr, hn, List.drop_left]
    have hsz : (t.extract n t.size).size + n = t.size := by rw [Lib.ext_size]; omega
    obtain ⟨t2, ht2⟩ : ∃ t2, t.extract n t.size = t2 := ⟨_, rfl⟩
    rw [ht2] at hext hsz
    have Ht := hid ht2
    have Hr := hid hr
    have Hn := hid hn
    have Hext := hid hext
    have hcr : 0 ≤ c ∧ c ≤ 1114111 := by unfold Sc at hc; omega
    have hml2 := (m8_len hc).2
    have hm : M8s (pre ++ [c]) = ys ++ m8 c := by rw [M8s_append, Hys.out, M8s_cons, M8s_nil, List.append_nil]
    have Hm := hid hm
    have hN8 : nums s = U8s (pre ++ [c]) ++ nums t2 := by rw [U8s_append, U8s_cons, U8s_nil, List.append_nil, hext, List.append_assoc, ← hr]; exact Hnum.out
    clear hr hn hext hm
    have htot : ys.length + (m8 c).length ≤ 140737488355328 := by rw [Hn.out] at hnle; omega
    have Hu := hid hN8
    clear hN8
    by_cases hc6 : 65536 ≤ c
    ·have hm8 : m8 c = unitZ (55296 + (c - 65536) / 1024) ++ unitZ (56320 + (c - 65536) % 1024) := by unfold m8; rw [if_neg (by omega)]; rfl
     rw [hm8, List.length_append] at htot
     have Hm8 := hid hm8
     clear hm8 hml2
     go_wp2_with (fail)
     refine (unit _ _ (by omega) (by omega)).mono ?_
     rintro e w2 ⟨v2, rfl, hsw2, ho2⟩
     have hon2 := hon1.trans ho2 (fun _ h => h.elim)
     have hrow2 := Row.only hrow1 ho2 (fun _ _ h => h)
     have hBw2 := hon2.size
     clear hrow1 hon1 ho2
     go_wp2_with (at_builtin; go_loud (refine wpList_append_src rfl (.tmp 22) (.tmp 27) 76 rfl 5 i0 (.int .u8 0) 1 1 Tryz.underlying76 hi hz0 hz1 hz2 rfl (by decide) w.heap.size (.slice ao ys.length cap) ys.length (ys.map (Value.int .u8)) rfl (by exact hrow2) (by exact hBw2) v2 (unitZ (55296 + (c - 65536) / 1024)).length ((unitZ (55296 + (c - 65536) / 1024)).map (Value.int .u8)) rfl (by exact hsw2) (by unfold maxLen; omega) (by omega) ?_); intro vw3 w3 hownw3 hgroww3 hneww3)
     obtain ⟨hrow3, hon3⟩ := Row.push hrow2 hon2 hownw3 hgroww3 hneww3
     obtain ⟨ao3, cap3, rfl, hc31, hc32⟩ := slice_of_owns hrow3
     obtain ⟨y3, hy3⟩ : ∃ y3, ys ++ unitZ (55296 + (c - 65536) / 1024) = y3 := ⟨_, rfl⟩
     rw [hy3] at hrow3 hc31 ⊢
     have hl3 : y3.length ≤ ys.length + (unitZ (55296 + (c - 65536) / 1024)).length := by rw [← hy3, List.length_append]; exact Nat.le_refl _
     have Hy3 := hid hy3
     clear hownw3 hgroww3 hneww3 hrow2 hon2 hBw2 hsw2 hy3
     go_wp2_with (fail)
     refine (unit _ _ (by omega) (by omega)).mono ?_
     rintro e w4 ⟨v4, rfl, hsw4, ho4⟩
     have hon4 := hon3.trans ho4 (fun _ h => h.elim)
     have hrow4 := Row.only hrow3 ho4 (fun _ _ h => h)
     have hBw4 := hon4.size
     clear hrow3 hon3 ho4
     go_wp2_with (at_builtin; go_loud (refine wpList_append_src rfl (.tmp 29) (.tmp 34) 76 rfl 5 i0 (.int .u8 0) 1 1 Tryz.underlying76 hi hz0 hz1 hz2 rfl (by decide) w.heap.size (.slice ao3 y3.length cap3) y3.length (y3.map (Value.int .u8)) rfl (by exact hrow4) (by exact hBw4) v4 (unitZ (56320 + (c - 65536) % 1024)).length ((unitZ (56320 + (c - 65536) % 1024)).map (Value.int .u8)) rfl (by exact hsw4) (by unfold maxLen; omega) (by omega) ?_); intro vw5 w5 hownw5 hgroww5 hneww5)
     obtain ⟨hrow5, hon5⟩ := Row.push hrow4 hon4 hownw5 hgroww5 hneww5
     clear hownw5 hgroww5 hneww5 hrow4 hon4 hBw4 hsw4
     rw [← Hy3.out, List.append_assoc, ← Hm8.out, ← Hm.out] at hrow5
     go_wp2
     go_roundg g'
     case measure => omega
     case rel => exact ⟨t2, pre ++ [c], rfl, hsc.append (.mk hc .nil), Hu.out, by omega, hrow5, hon5⟩
    ·have hm8 : m8 c = unitZ c := by unfold m8; rw [if_pos (by omega)]
     rw [hm8] at htot
     have Hm8 := hid hm8
     clear hm8 hml2
     go_wp2_with (fail)
     refine (unit _ _ (by omega) (by omega)).mono ?_
     rintro e w2 ⟨v2, rfl, hsw2, ho2⟩
     have hon2 := hon1.trans ho2 (fun _ h => h.elim)
     have hrow2 := Row.only hrow1 ho2 (fun _ _ h => h)
     have hBw2 := hon2.size
     clear hrow1 hon1 ho2
     go_wp2_with (at_builtin; go_loud (refine wpList_append_src rfl (.tmp 36) (.tmp 38) 76 rfl 5 i0 (.int .u8 0) 1 1 Tryz.underlying76 hi hz0 hz1 hz2 rfl (by decide) w.heap.size (.slice ao ys.length cap) ys.length (ys.map (Value.int .u8)) rfl (by exact hrow2) (by exact hBw2) v2 (unitZ (c)).length ((unitZ (c)).map (Value.int .u8)) rfl (by exact hsw2) (by unfold maxLen; omega) (by omega) ?_); intro vw3 w3 hownw3 hgroww3 hneww3)
     obtain ⟨hrow3, hon3⟩ := Row.push hrow2 hon2 hownw3 hgroww3 hneww3
     clear hownw3 hgroww3 hneww3 hrow2 hon2 hBw2 hsw2
     rw [← Hm8.out, ← Hm.out] at hrow3
     go_wp2
     go_roundg g'
     case measure => omega
     case rel => exact ⟨t2, pre ++ [c], rfl, hsc.append (.mk hc .nil), Hu.out, by omega, hrow3, hon3⟩
   ·have hnot : ¬ ∃ cs, IsText (nums s) cs := by
     rw [Hnum.out, text_tails hsc]
     exact no_text (by intro e; have := nums_len t; rw [e] at this; simp at this; omega) hno
    go_wp2
    go_ret2
    exact ⟨_, [], 20, rfl, .inr ⟨hnot, rfl, rfl⟩, World.ownsRow_nil _ _ _ _, hon1⟩
  ·have ht0 : nums t = [] := List.eq_nil_of_length_eq_zero (by rw [nums_len]; omega)
   go_wp2
   go_ret2
   exact ⟨_, ys, 0, rfl, .inl ⟨pre, ⟨hsc, by rw [Hnum.out, ht0, List.append_nil]⟩, Hys.out.symm, rfl⟩, Hrow.out, hon⟩
theorem Enc.code {zs ys : List Int} {k : Int} (h : Enc zs ys k) : k = 0 ∨ k = 20 := by
 rcases h with ⟨cs, ht, rfl, h⟩ | ⟨_, rfl, h⟩
 ·exact .inl h
 ·exact .inr h
def TextBad (x : ByteArray) : Prop := ∀ ys k, Enc (nums x) ys k → k ≠ 0 ∨ 256 < ys.length
open Classical in
noncomputable def oneZ (cs : List ConstV) (c : ConstV) : Int :=
 if bareZ c = false then 40
 else if c.tag = 1 then (if TextBad c.text then 20 else 0)
 else if c.tag = 3 then (if -2147483648 ≤ c.n ∧ c.n ≤ 2147483647 then 0 else 40)
 else if c.tag = 5 then 0
 else if c.tag = 7 then (if isZ cs c.a 1 = true then 0 else 40)
 else if c.tag = 12 then (if isZ cs c.a 1 = true ∧ isZ cs c.b 1 = true then 0 else 40)
 else if c.tag = 9 ∨ c.tag = 10 then (if isZ cs c.a 7 = true ∧ isZ cs c.b 12 = true then 0 else 40)
 else 40
theorem refOne (v : Value) (cs : List ConstV) (i : Nat) (w : World) (hp : Pool w v cs) (hi : i < cs.length) (ht : (cs.getD i default).text.size ≤ 70368744177664) :
  Calls Tryz.prog 84 #[v, .int .i64 i] w fun e w' => e = .returned (.int .i64 (oneZ cs (cs.getD i default))) ∧ Only (fun _ => False) w w' := by
 obtain ⟨ao, cap, rfl, h1, h2, h3, h4, h5⟩ := id hp
 obtain ⟨b, o, rfl, hc⟩ := Pool.at hp hi
 have hr := hp.range hi
 obtain ⟨r0, r2, r3, r4, _⟩ := hr
 obtain ⟨g0, g1, g2, g3, g4⟩ := hc
 have Hp := hid hp
 clear h3 h4 h5 hp
 generalize cs.getD i default = c at *
 obtain ⟨t, x, n, a, bb⟩ := c
 simp only at *
 have hiz : (i : Int) < (cs.length : Int) := by omega
 have cB := fun w => refBare ⟨t, x, n, a, bb⟩ w
 simp only at cB
 go_enter Tryz.func84, Tryz.ntmps84
 go_wp2_with (fail)
 refine (cB _).mono ?_
 rintro e w1 ⟨rfl, ho1⟩
 have hoW : Only (fun _ => False) w w1 := ((Only.refl (fun _ => False) w).alloc _).trans ho1 (fun _ h => h.elim)
 have hblk := ho1.heap (heap_alloc_new w _) (fun h => h)
 have q0 := cell_blk hblk 0
 have q1 := cell_blk hblk 1
 have q2 := cell_blk hblk 2
 have q3 := cell_blk hblk 3
 have q4 := cell_blk hblk 4
 simp at q0 q1 q2 q3 q4
 have hp1 := (Hp.out).only hoW (fun _ _ h => h)
 have Hp1 := hid hp1
 have HoW := hid hoW
 clear cB g0 g1 g2 g3 g4 ho1 hoW hblk hp1
 obtain ⟨B, hB⟩ : ∃ B, bareZ ⟨t, x, n, a, bb⟩ = B := ⟨_, rfl⟩
 rw [hB]
 cases B with
 | false =>
  have Hf := hid hB
  clear hB
  go_wp2
  go_ret
  exact ⟨congrArg (fun z => Ending.returned (.int .i64 z)) (show _ = oneZ _ _ from by unfold oneZ; dsimp only; rw [if_pos Hf.out]), HoW.out⟩
 | true =>
  have hB2 : ¬ bareZ ⟨t, x, n, a, bb⟩ = false := by rw [hB]; simp
  have Hb2 := hid hB2
  clear hB hB2
  by_cases t1 : t = 1
  ·subst t1
   go_wp2_with (fail)
   refine (refEncode x _ ht).mono ?_
   rintro e w2 ⟨v2, ys, k, rfl, henc, hrow, hon⟩
   have hoW2 := (HoW.out).trans hon (fun _ h => h.elim)
   have q0 := hon.cell q0 (fun h => h)
   obtain ⟨ao2, cap2, rfl, hc1, hc2⟩ := slice_of_owns hrow
   have hu : ∀ ys' k', Enc (nums x) ys' k' → ys' = ys ∧ k' = k := fun ys' k' h => Enc.unique h henc
   have hk := henc
   have Hu := hid hu
   have Henc := hid henc
   have hcode : k = 0 ∨ k = 20 := by rcases henc with ⟨cs', ht', _, h⟩ | ⟨_, _, h⟩; exact .inl h; exact .inr h
   clear hu henc hrow hon hk
   by_cases hbad : k ≠ 0 ∨ 256 < ys.length
   ·have hT : TextBad x := fun ys' k' h => by
     obtain ⟨rfl, rfl⟩ := Hu.out ys' k' h
     exact hbad
    have HT := hid hT
    clear hT
    rcases hcode with rfl | rfl
    ·have hbl : (256 : Int) < (ys.length : Int) := by omega
     go_wp2
     go_ret
     exact ⟨congrArg (fun z => Ending.returned (.int .i64 z)) (show _ = oneZ _ _ from by unfold oneZ; dsimp only; rw [if_neg Hb2.out, if_pos rfl, if_pos HT.out]), hoW2⟩
    ·go_wp2
     go_ret
     exact ⟨congrArg (fun z => Ending.returned (.int .i64 z)) (show _ = oneZ _ _ from by unfold oneZ; dsimp only; rw [if_neg Hb2.out, if_pos rfl, if_pos HT.out]), hoW2⟩
   ·have hT : ¬ TextBad x := fun h => hbad (h _ _ Henc.out)
    have HT := hid hT
    have hk0 : k = 0 := by omega
    have hbl : (ys.length : Int) ≤ 256 := by omega
    subst hk0
    clear hT hbad
    go_wp2
    go_ret
    exact ⟨congrArg (fun z => Ending.returned (.int .i64 z)) (show _ = oneZ _ _ from by unfold oneZ; dsimp only; rw [if_neg Hb2.out, if_pos rfl, if_neg HT.out]), hoW2⟩
  by_cases t3 : t = 3
  ·subst t3
   by_cases hr : -2147483648 ≤ n ∧ n ≤ 2147483647
   ·have Hr := hid hr
    go_wp2
    all_goals first | go_ret | skip
    all_goals try simp only [Bool.not_eq_true', Bool.not_eq_false', decide_eq_true_eq, decide_eq_false_iff_not, beq_iff_eq] at *
    all_goals first | (exfalso; omega) | exact ⟨congrArg (fun z => Ending.returned (.int .i64 z)) (show _ = oneZ _ _ from by unfold oneZ; dsimp only; rw [if_neg Hb2.out, if_neg (by decide), if_pos rfl, if_pos Hr.out]), HoW.out⟩
   ·have Hr := hid hr
    go_wp2
    all_goals first | go_ret | skip
    all_goals try simp only [Bool.not_eq_true', Bool.not_eq_false', decide_eq_true_eq, decide_eq_false_iff_not, beq_iff_eq] at *
    all_goals first | (exfalso; omega) | exact ⟨congrArg (fun z => Ending.returned (.int .i64 z)) (show _ = oneZ _ _ from by unfold oneZ; dsimp only; rw [if_neg Hb2.out, if_neg (by decide), if_pos rfl, if_neg Hr.out]), HoW.out⟩
  by_cases t5 : t = 5
  ·subst t5
   go_wp2
   go_ret
   exact ⟨congrArg (fun z => Ending.returned (.int .i64 z)) (show _ = oneZ _ _ from by unfold oneZ; dsimp only; rw [if_neg Hb2.out, if_neg (by decide), if_neg (by decide), if_pos rfl]), HoW.out⟩
  by_cases t7 : t = 7
  ·subst t7
   cases hA : isZ cs a 1 with
   | true =>
    have HA := hid hA
    go_wp2_with (go_at_call 87; refine (refIs _ cs _ _ _ (by exact Hp1.out)).mono ?_; rintro e w' ⟨rfl, rfl⟩)
    go_ret
    exact ⟨congrArg (fun z => Ending.returned (.int .i64 z)) (show _ = oneZ _ _ from by unfold oneZ; dsimp only; rw [if_neg Hb2.out, if_neg (by decide), if_neg (by decide), if_neg (by decide), if_pos rfl, if_pos HA.out]), HoW.out⟩
   | false =>
    have HA := hid hA
    go_wp2_with (go_at_call 87; refine (refIs _ cs _ _ _ (by exact Hp1.out)).mono ?_; rintro e w' ⟨rfl, rfl⟩)
    go_ret
    exact ⟨congrArg (fun z => Ending.returned (.int .i64 z)) (show _ = oneZ _ _ from by unfold oneZ; dsimp only; rw [if_neg Hb2.out, if_neg (by decide), if_neg (by decide), if_neg (by decide), if_pos rfl, if_neg (by rw [HA.out]; simp)]), HoW.out⟩
  by_cases t12 : t = 12
  ·subst t12
   cases hA : isZ cs a 1 with
   | true =>
    have HA := hid hA
    cases hB2 : isZ cs bb 1 with
    | true =>
     have HB := hid hB2
     go_wp2_with (go_at_call 87; refine (refIs _ cs _ _ _ (by exact Hp1.out)).mono ?_; rintro e w' ⟨rfl, rfl⟩)
     go_ret
     exact ⟨congrArg (fun z => Ending.returned (.int .i64 z)) (show _ = oneZ _ _ from by unfold oneZ; dsimp only; rw [if_neg Hb2.out, if_neg (by decide), if_neg (by decide), if_neg (by decide), if_neg (by decide), if_pos rfl, if_pos ⟨HA.out, HB.out⟩]), HoW.out⟩
    | false =>
     have HB := hid hB2
     go_wp2_with (go_at_call 87; refine (refIs _ cs _ _ _ (by exact Hp1.out)).mono ?_; rintro e w' ⟨rfl, rfl⟩)
     go_ret
     exact ⟨congrArg (fun z => Ending.returned (.int .i64 z)) (show _ = oneZ _ _ from by unfold oneZ; dsimp only; rw [if_neg Hb2.out, if_neg (by decide), if_neg (by decide), if_neg (by decide), if_neg (by decide), if_pos rfl, if_neg (fun h => by have := h.2; rw [HB.out] at this; simp at this)]), HoW.out⟩
   | false =>
    have HA := hid hA
    go_wp2_with (go_at_call 87; refine (refIs _ cs _ _ _ (by exact Hp1.out)).mono ?_; rintro e w' ⟨rfl, rfl⟩)
    go_ret
    exact ⟨congrArg (fun z => Ending.returned (.int .i64 z)) (show _ = oneZ _ _ from by unfold oneZ; dsimp only; rw [if_neg Hb2.out, if_neg (by decide), if_neg (by decide), if_neg (by decide), if_neg (by decide), if_pos rfl, if_neg (fun h => by have := h.1; rw [HA.out] at this; simp at this)]), HoW.out⟩
  by_cases t9 : t = 9
  ·subst t9
   cases hA : isZ cs a 7 with
   | true =>
    have HA := hid hA
    cases hB2 : isZ cs bb 12 with
    | true =>
     have HB := hid hB2
     go_wp2_with (go_at_call 87; refine (refIs _ cs _ _ _ (by exact Hp1.out)).mono ?_; rintro e w' ⟨rfl, rfl⟩)
     go_ret
     exact ⟨congrArg (fun z => Ending.returned (.int .i64 z)) (show _ = oneZ _ _ from by unfold oneZ; dsimp only; rw [if_neg Hb2.out, if_neg (by decide), if_neg (by decide), if_neg (by decide), if_neg (by decide), if_neg (by decide), if_pos (.inl rfl), if_pos ⟨HA.out, HB.out⟩]), HoW.out⟩
    | false =>
     have HB := hid hB2
     go_wp2_with (go_at_call 87; refine (refIs _ cs _ _ _ (by exact Hp1.out)).mono ?_; rintro e w' ⟨rfl, rfl⟩)
     go_ret
     exact ⟨congrArg (fun z => Ending.returned (.int .i64 z)) (show _ = oneZ _ _ from by unfold oneZ; dsimp only; rw [if_neg Hb2.out, if_neg (by decide), if_neg (by decide), if_neg (by decide), if_neg (by decide), if_neg (by decide), if_pos (.inl rfl), if_neg (fun h => by have := h.2; rw [HB.out] at this; simp at this)]), HoW.out⟩
   | false =>
    have HA := hid hA
    go_wp2_with (go_at_call 87; refine (refIs _ cs _ _ _ (by exact Hp1.out)).mono ?_; rintro e w' ⟨rfl, rfl⟩)
    go_ret
    exact ⟨congrArg (fun z => Ending.returned (.int .i64 z)) (show _ = oneZ _ _ from by unfold oneZ; dsimp only; rw [if_neg Hb2.out, if_neg (by decide), if_neg (by decide), if_neg (by decide), if_neg (by decide), if_neg (by decide), if_pos (.inl rfl), if_neg (fun h => by have := h.1; rw [HA.out] at this; simp at this)]), HoW.out⟩
  by_cases t10 : t = 10
  ·subst t10
   cases hA : isZ cs a 7 with
   | true =>
    have HA := hid hA
    cases hB2 : isZ cs bb 12 with
    | true =>
     have HB := hid hB2
     go_wp2_with (go_at_call 87; refine (refIs _ cs _ _ _ (by exact Hp1.out)).mono ?_; rintro e w' ⟨rfl, rfl⟩)
     go_ret
     exact ⟨congrArg (fun z => Ending.returned (.int .i64 z)) (show _ = oneZ _ _ from by unfold oneZ; dsimp only; rw [if_neg Hb2.out, if_neg (by decide), if_neg (by decide), if_neg (by decide), if_neg (by decide), if_neg (by decide), if_pos (.inr rfl), if_pos ⟨HA.out, HB.out⟩]), HoW.out⟩
    | false =>
     have HB := hid hB2
     go_wp2_with (go_at_call 87; refine (refIs _ cs _ _ _ (by exact Hp1.out)).mono ?_; rintro e w' ⟨rfl, rfl⟩)
     go_ret
     exact ⟨congrArg (fun z => Ending.returned (.int .i64 z)) (show _ = oneZ _ _ from by unfold oneZ; dsimp only; rw [if_neg Hb2.out, if_neg (by decide), if_neg (by decide), if_neg (by decide), if_neg (by decide), if_neg (by decide), if_pos (.inr rfl), if_neg (fun h => by have := h.2; rw [HB.out] at this; simp at this)]), HoW.out⟩
   | false =>
    have HA := hid hA
    go_wp2_with (go_at_call 87; refine (refIs _ cs _ _ _ (by exact Hp1.out)).mono ?_; rintro e w' ⟨rfl, rfl⟩)
    go_ret
    exact ⟨congrArg (fun z => Ending.returned (.int .i64 z)) (show _ = oneZ _ _ from by unfold oneZ; dsimp only; rw [if_neg Hb2.out, if_neg (by decide), if_neg (by decide), if_neg (by decide), if_neg (by decide), if_neg (by decide), if_pos (.inr rfl), if_neg (fun h => by have := h.1; rw [HA.out] at this; simp at this)]), HoW.out⟩
  go_wp2
  all_goals first | go_ret | skip
  all_goals first | (exfalso; omega) | skip
  all_goals exact ⟨congrArg (fun z => Ending.returned (.int .i64 z)) (show _ = oneZ _ _ from by unfold oneZ; dsimp only; rw [if_neg Hb2.out, if_neg t1, if_neg t3, if_neg t5, if_neg t7, if_neg t12, if_neg (by omega)]), HoW.out⟩
end Go.Proofs.YtemplkpcckmcoaaGreatDoor
namespace Go.Proofs.YtemplkpcckmcoaaGreatDoor
set_option maxHeartbeats 4000000
open Lib (hid)
open Go.RowKit Go.Shelf
set_option linter.unusedVariables false
set_option linter.unusedSimpArgs false
def zeroC : ConstV := ⟨0, ⟨#[]⟩, 0, 0, 0⟩
open Classical in
noncomputable def errs (cs : List ConstV) : List ConstV → Int
 | [] => 0
 | c :: r => if oneZ cs c ≠ 0 then oneZ cs c else errs cs r
open Classical in
noncomputable def checkZ (cs : List ConstV) : Int := if 1024 < cs.length then 2 else if cs = [] ∨ cs.getD 0 default ≠ zeroC then 40 else errs cs (cs.drop 1)
def Texts (cs : List ConstV) : Prop := ∀ c ∈ cs, c.text.size ≤ 70368744177664
theorem Texts.at {cs : List ConstV} (h : Texts cs) {i : Nat} (hi : i < cs.length) : (cs.getD i default).text.size ≤ 70368744177664 := by
 have e : cs.getD i default = cs[i] := by simp [List.getD, hi]
 rw [e]
 exact h _ (List.getElem_mem hi)
theorem refCheck (v : Value) (cs : List ConstV) (w : World) (hp : Pool w v cs) (ht : Texts cs) :
  Calls Tryz.prog 49 #[v] w fun e w' => e = .returned (.int .i64 (checkZ cs)) ∧ Only (fun _ => False) w w' := by
 obtain ⟨ao, cap, rfl, h1, h2, h3, h4, h5⟩ := id hp
 have Hp := hid hp
 have Ht := hid ht
 clear h3 h4 h5 hp ht
 by_cases hl : 1024 < cs.length
 ·have hlz : (1024 : Int) < (cs.length : Int) := by omega
  go_enter Tryz.func49, Tryz.ntmps49
  go_wp2
  go_ret
  exact ⟨congrArg (fun z => Ending.returned (.int .i64 z)) (show _ = checkZ _ from by unfold checkZ; rw [if_pos hl]), Only.refl _ _⟩
 have hlz : (cs.length : Int) ≤ 1024 := by omega
 by_cases hz : cs = []
 ·have hc : checkZ cs = 40 := by unfold checkZ; rw [if_neg hl, if_pos (.inl hz)]
  have h0 : cs.length = 0 := by rw [hz]; rfl
  have Hc := hid hc
  clear hz hc
  go_enter Tryz.func49, Tryz.ntmps49
  go_wp2
  go_ret
  exact ⟨congrArg (fun z => Ending.returned (.int .i64 z)) Hc.out.symm, Only.refl _ _⟩
 have h0 : 0 < cs.length := List.length_pos_iff.2 hz
 obtain ⟨b, o, rfl, hc⟩ := Pool.at Hp.out h0
 obtain ⟨g0, g1, g2, g3, g4⟩ := hc
 simp only [Nat.zero_mul, Nat.add_zero] at g0 g1 g2 g3 g4
 have h0z : (0 : Int) < (cs.length : Int) := by omega
 have h0b : ((cs.length : Int) == 0) = false := by simp; omega
 obtain ⟨c, hc⟩ : ∃ c, cs.getD 0 default = c := ⟨_, rfl⟩
 rw [hc] at g0 g1 g2 g3 g4
 obtain ⟨t, x, n, a, bb⟩ := c
 simp only at g0 g1 g2 g3 g4
 have Hc0 := hid hc
 have Hz := hid hz
 clear hc hz
 by_cases hzero : t = 0 ∧ x.toList = [] ∧ n = 0 ∧ a = 0 ∧ bb = 0
 ·obtain ⟨rfl, hx, rfl, rfl, rfl⟩ := hzero
  have hx' : x = ⟨#[]⟩ := by rw [empty_text]; exact hx
  subst hx'
  have hR : checkZ cs = errs cs (cs.drop 1) := by
   unfold checkZ
   rw [if_neg hl, if_neg (fun h => h.elim Hz.out (fun h => h (Hc0.out)))]
  obtain ⟨R, hRR⟩ : ∃ R, errs cs (cs.drop 1) = R := ⟨_, rfl⟩
  rw [hRR] at hR
  have HR := hid hR
  have HRR := hid hRR
  clear hR hRR hx hl
  go_enter Tryz.func49, Tryz.ntmps49
  go_wp2
  go_loopw [3] (fun i wr => ∃ j : Nat, 1 ≤ j ∧ j ≤ cs.length ∧ i = .int .i64 j ∧ errs cs (cs.drop j) = R ∧ Only (fun _ => False) w wr) (fun i _ => cs.length - (intOf i).toNat)
  case atStart => exact ⟨1, Nat.le_refl _, h0, rfl, HRR.out, Only.refl _ _⟩
  case round =>
   obtain ⟨j, hj1, hj, rfl, he, hon⟩ := hrel
   clear g0 g1 g2 g3 g4
   by_cases hlt : j < cs.length
   ·have hstep : errs cs (cs.drop j) = errs cs (cs.getD j default :: cs.drop (j + 1)) := by
     rw [List.drop_eq_getElem_cons hlt]
     simp [List.getD, hlt]
    have hjz : (j : Int) < (cs.length : Int) := by omega
    have hpw := (Hp.out).only hon (fun _ _ h => h)
    have htw := (Ht.out).at hlt
    rw [hstep] at he
    have He := hid he
    clear hstep he
    go_wp2_with (fail)
    refine (refOne _ cs j _ hpw hlt htw).mono ?_
    rintro e w2 ⟨rfl, ho2⟩
    have hon2 := hon.trans ho2 (fun _ h => h.elim)
    clear hpw htw ho2 hon
    obtain ⟨q, hq⟩ : ∃ q, oneZ cs (cs.getD j default) = q := ⟨_, rfl⟩
    rw [hq]
    have he2 := He.out
    unfold errs at he2
    rw [hq] at he2
    clear hq
    by_cases hq0 : q = 0
    ·subst hq0
     rw [if_neg (by simp)] at he2
     have He2 := hid he2
     clear he2
     go_wp2
     go_roundw
     case rel => exact ⟨j + 1, by omega, by omega, by go_num, He2.out, hon2⟩
     case measure => simp [intOf]; omega
    ·rw [if_pos hq0] at he2
     have He2 := hid he2
     clear he2
     go_wp2
     go_ret
     exact ⟨congrArg (fun z => Ending.returned (.int .i64 z)) (show q = _ from by rw [HR.out]; exact He2.out), hon2⟩
   ·have hjn : j = cs.length := by omega
    subst hjn
    rw [List.drop_length] at he
    have he2 : (0 : Int) = R := he
    have He := hid he2
    clear he he2
    go_wp2
    go_ret
    exact ⟨congrArg (fun z => Ending.returned (.int .i64 z)) (show (0 : Int) = _ from by rw [HR.out]; exact He.out), hon⟩
 ·have hR : checkZ cs = 40 := by
   unfold checkZ
   rw [if_neg hl, if_pos (.inr (fun h => hzero (by rw [Hc0.out] at h; injection h with e1 e2 e3 e4 e5; exact ⟨e1, by rw [← empty_text]; exact e2, e3, e4, e5⟩)))]
  have HR := hid hR
  clear hR
  go_enter Tryz.func49, Tryz.ntmps49
  go_wp2
  all_goals first | go_ret | skip
  all_goals first | exact ⟨congrArg (fun z => Ending.returned (.int .i64 z)) HR.out.symm, Only.refl _ _⟩ | (exfalso; apply hzero; simp_all; done)
end Go.Proofs.YtemplkpcckmcoaaGreatDoor
