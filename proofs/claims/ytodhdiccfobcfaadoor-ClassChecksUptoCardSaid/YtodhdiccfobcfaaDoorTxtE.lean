/- The document's own words for a text: a code point at the head, a unit's bytes. No condition. -/
import Derived.Test.YtodhdiccfobcfaaDoorTxtD
import Derived.Handy
namespace Go.Proofs.YtodhdiccfobcfaaDoor
open Go.RowKit Go.Shelf
set_option linter.unusedVariables false
set_option linter.unusedSimpArgs false

/-- What the reference says of the head of a text. -/
def PointTo (zs : List Int) (c : Int) (n : Nat) : Prop := (Sc c ∧ n = (enc8 c).length ∧ ∃ r, zs = enc8 c ++ r) ∨ ((∀ c r, Sc c → zs ≠ enc8 c ++ r) ∧ c = 0 ∧ n = 0)

theorem wraps_i64 (n : Int) (h₀ : 0 ≤ n) (h₁ : n < 2 ^ 63) : IntKind.i64.wrap n = n := by rw [IntKind.wrap_i64]; omega
theorem i64_or6 (x y : Int) (hx₀ : 0 ≤ x) (hx : x % 64 = 0) (hx₁ : x < 9223372036854775808) (h₀ : 0 ≤ y) (h₁ : y < 64) : bits .or .i64 x y = x + y :=
  bits_join .i64 63 (by decide) wraps_i64 6 x y hx₀ hx hx₁ h₀ h₁ (by omega)
theorem i64_and31 (x : Int) (h₀ : 0 ≤ x) (h₁ : x < 256) : bits .and .i64 x 31 = x % 32 := bits_mask .i64 63 (by decide) wraps_i64 5 (by decide) x h₀ (by omega)
theorem i64_and15 (x : Int) (h₀ : 0 ≤ x) (h₁ : x < 256) : bits .and .i64 x 15 = x % 16 := bits_mask .i64 63 (by decide) wraps_i64 4 (by decide) x h₀ (by omega)
theorem i64_and7 (x : Int) (h₀ : 0 ≤ x) (h₁ : x < 256) : bits .and .i64 x 7 = x % 8 := bits_mask .i64 63 (by decide) wraps_i64 3 (by decide) x h₀ (by omega)

theorem getD_app {a r : List Int} {k : Nat} (h : k < a.length) : (a ++ r).getD k 0 = a.getD k 0 := by
  simp only [List.getD, List.getElem?_append_left h]
/-- The bytes at the head of what begins with a code point. -/
theorem head_facts {zs r : List Int} {c : Int} (hc : Sc c) (h : zs = enc8 c ++ r) :
    (0 ≤ c ∧ c ≤ 127 ∧ zs.getD 0 0 = c ∧ 1 ≤ zs.length) ∨ (128 ≤ c ∧ c ≤ 2047 ∧ zs.getD 0 0 = 192 + c / 64 ∧ zs.getD 1 0 = 128 + c % 64 ∧ 2 ≤ zs.length) ∨
    (2048 ≤ c ∧ (c < 55296 ∨ 57344 ≤ c) ∧ c ≤ 65535 ∧ zs.getD 0 0 = 224 + c / 4096 ∧ zs.getD 1 0 = 128 + c / 64 % 64 ∧ zs.getD 2 0 = 128 + c % 64 ∧ 3 ≤ zs.length) ∨
    (65536 ≤ c ∧ c ≤ 1114111 ∧ zs.getD 0 0 = 240 + c / 262144 ∧ zs.getD 1 0 = 128 + c / 4096 % 64 ∧ zs.getD 2 0 = 128 + c / 64 % 64 ∧ zs.getD 3 0 = 128 + c % 64 ∧ 4 ≤ zs.length) := by
  subst h
  rcases u8_cases hc with ⟨a, b, e⟩ | ⟨a, b, e⟩ | ⟨a, b, b', e⟩ | ⟨a, b, e⟩ <;> rw [e]
  · exact .inl ⟨a, b, rfl, by simp⟩
  · exact .inr (.inl ⟨a, b, rfl, rfl, by simp⟩)
  · exact .inr (.inr (.inl ⟨a, b, b', rfl, rfl, rfl, by simp⟩))
  · exact .inr (.inr (.inr ⟨a, b, rfl, rfl, rfl, rfl, by simp⟩))
theorem ok1 {zs : List Int} (hl : 1 ≤ zs.length) (c : Int) (h0 : 0 ≤ c) (h1 : c ≤ 127) (e0 : zs.getD 0 0 = c) : PointTo zs c 1 := by
  have hs : Sc c := by unfold Sc; omega
  rcases u8_cases hs with ⟨a, b, e⟩ | ⟨a, b, e⟩ | ⟨a, b, b', e⟩ | ⟨a, b, e⟩ <;> try (exfalso; omega)
  refine .inl ⟨hs, by rw [e]; rfl, zs.drop 1, ?_⟩
  rw [e, ← e0]
  match zs, hl with
  | a :: t, _ => rfl
theorem ok2 {zs : List Int} (hl : 2 ≤ zs.length) (c : Int) (h0 : 128 ≤ c) (h1 : c ≤ 2047) (e0 : zs.getD 0 0 = 192 + c / 64) (e1 : zs.getD 1 0 = 128 + c % 64) : PointTo zs c 2 := by
  have hs : Sc c := by unfold Sc; omega
  rcases u8_cases hs with ⟨a, b, e⟩ | ⟨a, b, e⟩ | ⟨a, b, b', e⟩ | ⟨a, b, e⟩ <;> try (exfalso; omega)
  refine .inl ⟨hs, by rw [e]; rfl, zs.drop 2, ?_⟩
  rw [e, ← e0, ← e1]
  match zs, hl with
  | a :: b :: t, _ => rfl
theorem ok3 {zs : List Int} (hl : 3 ≤ zs.length) (c : Int) (h0 : 2048 ≤ c) (h1 : c < 55296 ∨ 57344 ≤ c) (h2 : c ≤ 65535) (e0 : zs.getD 0 0 = 224 + c / 4096) (e1 : zs.getD 1 0 = 128 + c / 64 % 64) (e2 : zs.getD 2 0 = 128 + c % 64) : PointTo zs c 3 := by
  have hs : Sc c := by unfold Sc; omega
  rcases u8_cases hs with ⟨a, b, e⟩ | ⟨a, b, e⟩ | ⟨a, b, b', e⟩ | ⟨a, b, e⟩ <;> try (exfalso; omega)
  refine .inl ⟨hs, by rw [e]; rfl, zs.drop 3, ?_⟩
  rw [e, ← e0, ← e1, ← e2]
  match zs, hl with
  | a :: b :: c :: t, _ => rfl
theorem ok4 {zs : List Int} (hl : 4 ≤ zs.length) (c : Int) (h0 : 65536 ≤ c) (h1 : c ≤ 1114111) (e0 : zs.getD 0 0 = 240 + c / 262144) (e1 : zs.getD 1 0 = 128 + c / 4096 % 64) (e2 : zs.getD 2 0 = 128 + c / 64 % 64) (e3 : zs.getD 3 0 = 128 + c % 64) : PointTo zs c 4 := by
  have hs : Sc c := by unfold Sc; omega
  rcases u8_cases hs with ⟨a, b, e⟩ | ⟨a, b, e⟩ | ⟨a, b, b', e⟩ | ⟨a, b, e⟩ <;> try (exfalso; omega)
  refine .inl ⟨hs, by rw [e]; rfl, zs.drop 4, ?_⟩
  rw [e, ← e0, ← e1, ← e2, ← e3]
  match zs, hl with
  | a :: b :: c :: d :: t, _ => rfl

theorem byteAt (s : ByteArray) (i : Nat) (h : i < s.size) : ∃ x : UInt8, s[i]'h = x ∧ (nums s).getD i 0 = (x.toNat : Int) ∧ x.toNat < 256 :=
  ⟨s.get! i, (Utf8W.get!_of_lt s i h).symm, nums_get s i, (s.get! i).toNat_lt⟩

set_option maxHeartbeats 4000000 in
set_option maxRecDepth 100000 in
theorem point (s : ByteArray) (w : World) (hs : s.size ≤ 9223372036854775807) (h0 : 0 < s.size) :
    Calls Tryd.prog 47 #[.string s] w fun e w' => (∃ (c : Int) (n : Nat), e = .returned (.tuple #[.int .i64 c, .int .i64 n]) ∧ PointTo (nums s) c n) ∧ Drawn w w' := by
  have h0z : (0 : Int) < (s.size : Int) := by omega
  obtain ⟨x0, hs0, hn0, hx0lt⟩ := byteAt s 0 h0
  by_cases c1 : x0.toNat < 128
  · go_enter Tryd.func47, Tryd.ntmps47
    go_wp2
    all_goals go_ret2
    all_goals first | (exfalso; omega) | skip
    all_goals exact ⟨⟨_, 1, rfl, ok1 (by rw [nums_len]; omega) _ (by omega) (by omega) (by rw [hn0])⟩, 0, rfl⟩
  by_cases c2 : 194 ≤ x0.toNat ∧ x0.toNat ≤ 223
  · obtain ⟨c2a, c2b⟩ := c2
    by_cases l2 : s.size < 2
    · go_enter Tryd.func47, Tryd.ntmps47
      have m0 := i64_and31 (x0.toNat : Int) (by omega) (by omega)
      go_wp2
      all_goals first | go_ret2 | skip
      all_goals first | (exfalso; omega) | skip
      all_goals refine ⟨⟨_, 0, rfl, .inr ⟨fun c r hc he => ?_, rfl, rfl⟩⟩, 0, rfl⟩
      all_goals have hf := head_facts hc he
      all_goals rw [hn0, nums_len] at hf
      all_goals omega
    · have l2n : 2 ≤ s.size := by omega
      obtain ⟨x1, hs1, hn1, hx1lt⟩ := byteAt s 1 (by omega)
      have l1z : ((1 : Nat) : Int) < (s.size : Int) := by omega
      have a1 := u8_and63 (x1.toNat : Int) (by omega) (by omega)
      have m0 := i64_and31 (x0.toNat : Int) (by omega) (by omega)
      have o1 := i64_or6 ((x0.toNat : Int) % 32 * 64) ((x1.toNat : Int) % 64) (by omega) (by omega) (by omega) (by omega) (by omega)
      go_enter Tryd.func47, Tryd.ntmps47
      go_wp2
      go_rounds 3
      all_goals first | go_ret2 | skip
      all_goals first | (exfalso; omega) | (refine ⟨⟨_, 0, rfl, .inr ⟨fun c r hc he => ?_, rfl, rfl⟩⟩, 0, rfl⟩; have hf := head_facts hc he; rw [hn0, hn1, nums_len] at hf; omega) | exact ⟨⟨_, 2, rfl, ok2 (by rw [nums_len]; omega) _ (by omega) (by omega) (by rw [hn0]; omega) (by rw [hn1]; omega)⟩, 0, rfl⟩
  by_cases c3 : 224 ≤ x0.toNat ∧ x0.toNat ≤ 239
  · obtain ⟨c3a, c3b⟩ := c3
    by_cases l3 : s.size < 3
    · go_enter Tryd.func47, Tryd.ntmps47
      have m0 := i64_and15 (x0.toNat : Int) (by omega) (by omega)
      go_wp2
      all_goals first | go_ret2 | skip
      all_goals first | (exfalso; omega) | skip
      all_goals refine ⟨⟨_, 0, rfl, .inr ⟨fun c r hc he => ?_, rfl, rfl⟩⟩, 0, rfl⟩
      all_goals have hf := head_facts hc he
      all_goals rw [hn0, nums_len] at hf
      all_goals omega
    · have l3n : 3 ≤ s.size := by omega
      obtain ⟨x1, hs1, hn1, hx1lt⟩ := byteAt s 1 (by omega)
      have l1z : ((1 : Nat) : Int) < (s.size : Int) := by omega
      have a1 := u8_and63 (x1.toNat : Int) (by omega) (by omega)
      obtain ⟨x2, hs2, hn2, hx2lt⟩ := byteAt s 2 (by omega)
      have l2z : ((2 : Nat) : Int) < (s.size : Int) := by omega
      have a2 := u8_and63 (x2.toNat : Int) (by omega) (by omega)
      have m0 := i64_and15 (x0.toNat : Int) (by omega) (by omega)
      have o1 := i64_or6 ((x0.toNat : Int) % 16 * 64) ((x1.toNat : Int) % 64) (by omega) (by omega) (by omega) (by omega) (by omega)
      have o2 := i64_or6 (((x0.toNat : Int) % 16 * 64 + (x1.toNat : Int) % 64) * 64) ((x2.toNat : Int) % 64) (by omega) (by omega) (by omega) (by omega) (by omega)
      go_enter Tryd.func47, Tryd.ntmps47
      go_wp2
      go_rounds 4
      all_goals first | go_ret2 | skip
      all_goals first | (exfalso; omega) | (refine ⟨⟨_, 0, rfl, .inr ⟨fun c r hc he => ?_, rfl, rfl⟩⟩, 0, rfl⟩; have hf := head_facts hc he; rw [hn0, hn1, hn2, nums_len] at hf; omega) | exact ⟨⟨_, 3, rfl, ok3 (by rw [nums_len]; omega) _ (by omega) (by omega) (by omega) (by rw [hn0]; omega) (by rw [hn1]; omega) (by rw [hn2]; omega)⟩, 0, rfl⟩
  by_cases c4 : 240 ≤ x0.toNat ∧ x0.toNat ≤ 244
  · obtain ⟨c4a, c4b⟩ := c4
    by_cases l4 : s.size < 4
    · go_enter Tryd.func47, Tryd.ntmps47
      have m0 := i64_and7 (x0.toNat : Int) (by omega) (by omega)
      go_wp2
      all_goals first | go_ret2 | skip
      all_goals first | (exfalso; omega) | skip
      all_goals refine ⟨⟨_, 0, rfl, .inr ⟨fun c r hc he => ?_, rfl, rfl⟩⟩, 0, rfl⟩
      all_goals have hf := head_facts hc he
      all_goals rw [hn0, nums_len] at hf
      all_goals omega
    · have l4n : 4 ≤ s.size := by omega
      obtain ⟨x1, hs1, hn1, hx1lt⟩ := byteAt s 1 (by omega)
      have l1z : ((1 : Nat) : Int) < (s.size : Int) := by omega
      have a1 := u8_and63 (x1.toNat : Int) (by omega) (by omega)
      obtain ⟨x2, hs2, hn2, hx2lt⟩ := byteAt s 2 (by omega)
      have l2z : ((2 : Nat) : Int) < (s.size : Int) := by omega
      have a2 := u8_and63 (x2.toNat : Int) (by omega) (by omega)
      obtain ⟨x3, hs3, hn3, hx3lt⟩ := byteAt s 3 (by omega)
      have l3z : ((3 : Nat) : Int) < (s.size : Int) := by omega
      have a3 := u8_and63 (x3.toNat : Int) (by omega) (by omega)
      have m0 := i64_and7 (x0.toNat : Int) (by omega) (by omega)
      have o1 := i64_or6 ((x0.toNat : Int) % 8 * 64) ((x1.toNat : Int) % 64) (by omega) (by omega) (by omega) (by omega) (by omega)
      have o2 := i64_or6 (((x0.toNat : Int) % 8 * 64 + (x1.toNat : Int) % 64) * 64) ((x2.toNat : Int) % 64) (by omega) (by omega) (by omega) (by omega) (by omega)
      have o3 := i64_or6 ((((x0.toNat : Int) % 8 * 64 + (x1.toNat : Int) % 64) * 64 + (x2.toNat : Int) % 64) * 64) ((x3.toNat : Int) % 64) (by omega) (by omega) (by omega) (by omega) (by omega)
      go_enter Tryd.func47, Tryd.ntmps47
      go_wp2
      go_rounds 5
      all_goals first | go_ret2 | skip
      all_goals first | (exfalso; omega) | (refine ⟨⟨_, 0, rfl, .inr ⟨fun c r hc he => ?_, rfl, rfl⟩⟩, 0, rfl⟩; have hf := head_facts hc he; rw [hn0, hn1, hn2, hn3, nums_len] at hf; omega) | exact ⟨⟨_, 4, rfl, ok4 (by rw [nums_len]; omega) _ (by omega) (by omega) (by rw [hn0]; omega) (by rw [hn1]; omega) (by rw [hn2]; omega) (by rw [hn3]; omega)⟩, 0, rfl⟩
  · go_enter Tryd.func47, Tryd.ntmps47
    go_wp2
    all_goals first | go_ret2 | skip
    all_goals first | (exfalso; omega) | skip
    all_goals refine ⟨⟨_, 0, rfl, .inr ⟨fun c r hc he => ?_, rfl, rfl⟩⟩, 0, rfl⟩
    all_goals have hf := head_facts hc he
    all_goals rw [hn0] at hf
    all_goals omega
end Go.Proofs.YtodhdiccfobcfaaDoor
