/- The units of a text, told one by one: for whatever function is told them. The tables of unicode/utf8 are as their text lays them. Encode and Len: what they answer, at every text whose bytes in modified UTF-8 take at most 2^47 bytes. The tables of unicode/utf8 are as their text lays them. The document's own words for a text: a code point at the head, a unit's bytes. No condition. The document's own Encode: what it answers, at texts of at most 2^46 bytes. -/
import Derived.Test.YtmakfnghkpdpkaaTxtB
import Derived.Test.YtmakfnghkpdpkaaShelf
import Derived.Lib.OthersKept
import Derived.WalkKit
import Derived.BigCall
import Derived.Handy
namespace Go.Proofs.Ytmakfnghkpdpkaa
open Go.RowKit Go.Shelf
set_option linter.unusedVariables false
set_option linter.unusedSimpArgs false

/-- The units of code points. -/
def unitsOf (c : Int) : List Int := if c < 65536 then [c] else [hiU c, loU c]
def Us (cs : List Int) : List Int := cs.flatMap unitsOf
def UN (us : List Int) : List Int := us.flatMap unitZ
theorem UN_append (a b : List Int) : UN (a ++ b) = UN a ++ UN b := by simp [UN]
theorem UN_one (u : Int) : UN [u] = unitZ u := by simp [UN]
theorem Us_append (a b : List Int) : Us (a ++ b) = Us a ++ Us b := by simp [Us]
theorem Us_snoc (a : List Int) (c : Int) : Us (a ++ [c]) = Us a ++ unitsOf c := by simp [Us]
theorem UN_units (c : Int) : UN (unitsOf c) = m8 c := by unfold unitsOf m8; split <;> simp [UN]
theorem UN_Us (cs : List Int) : UN (Us cs) = M8s cs := by
  induction cs with
  | nil => rfl
  | cons c cs ih =>
    have e : Us (c :: cs) = unitsOf c ++ Us cs := by simp [Us]
    rw [e, UN_append, ih, UN_units, M8s_cons]

theorem decode_head {s : ByteArray} {pre suf : List Int} {c : Int} (hc : Sc c) (h : nums s = U8s pre ++ (enc8 c ++ suf)) : Utf8.decode s (U8s pre).length = (c.toNat, (enc8 c).length) := by
  rw [← Lib.decodeL_drop]
  apply dec_head hc (r := suf)
  have e : numsL (s.data.toList.drop (U8s pre).length) = (nums s).drop (U8s pre).length := by simp only [nums, numsL, List.map_drop]
  rw [e, h, List.drop_left]

end Go.Proofs.Ytmakfnghkpdpkaa
namespace Go.Proofs.Ytmakfnghkpdpkaa
open Go.RowKit Go.Shelf
set_option linter.unusedVariables false
set_option linter.unusedSimpArgs false

/-- What Encode's function has written so far: the bytes of the units that it was told. -/
def EncSt (w0 : World) (cb it : Nat) (us : List Int) (w : World) : Prop :=
  ∃ v, w.heap[cb]? = some (.cells #[v] 39 (0, 0)) ∧ Row w w0.heap.size v (UN us) ∧ v.ownBlock ≠ some it ∧ Only (fun k => k = cb) w0 w ∧ w0.heap.size ≤ it ∧ cb < w0.heap.size
theorem EncSt.keep {w0 : World} {cb : Nat} (it : Nat) (us : List Int) (w1 w2 : World) (h : EncSt w0 cb it us w1) (ho : Only (fun k => k = it) w1 w2) : EncSt w0 cb it us w2 := by
  obtain ⟨v, hb, hr, hne, hon, hit, hcb⟩ := h
  refine ⟨v, ho.heap hb (by omega), hr.only ho (fun k hk e => hne (by rw [hk, e])), hne, hon.trans ho (fun k hk hl => by omega), hit, hcb⟩
theorem EncSt.start {w0 : World} {cb : Nat} (hcb : w0.heap[cb]? = some (.cells #[.slice none 0 0] 39 (0, 0))) (it : Nat) (w' : World) (hit : w0.heap.size ≤ it) (ho : Only (fun _ => False) w0 w') : EncSt w0 cb it [] w' :=
  ⟨.slice none 0 0, ho.heap hcb (fun h => h), World.ownsRow_nil _ _ _ _, by simp [Value.ownBlock], ho.mono (fun _ h _ => h.elim), hit, heap_lt hcb⟩

/-- What Encode leaves. -/
def EncTo (w : World) (s : ByteArray) (v : Value) (ys : List Int) (k : Int) (w' : World) : Prop :=
  Enc (nums s) ys k ∧ Row w' w.heap.size v ys ∧ Only (fun _ => False) w w'

/-- What Len's function has counted so far. -/
def LenSt (w0 : World) (cb it : Nat) (us : List Int) (w : World) : Prop :=
  w.heap[cb]? = some (.cells #[.int .i64 (UN us).length] 3 (0, 0)) ∧ Only (fun k => k = cb) w0 w ∧ w0.heap.size ≤ it ∧ cb < w0.heap.size
theorem LenSt.keep {w0 : World} {cb : Nat} (it : Nat) (us : List Int) (w1 w2 : World) (h : LenSt w0 cb it us w1) (ho : Only (fun k => k = it) w1 w2) : LenSt w0 cb it us w2 := by
  obtain ⟨hb, hon, hit, hcb⟩ := h
  exact ⟨ho.heap hb (by omega), hon.trans ho (fun k hk hl => by omega), hit, hcb⟩
theorem LenSt.start {w0 : World} {cb : Nat} (hcb : w0.heap[cb]? = some (.cells #[.int .i64 0] 3 (0, 0))) (it : Nat) (w' : World) (hit : w0.heap.size ≤ it) (ho : Only (fun _ => False) w0 w') : LenSt w0 cb it [] w' :=
  ⟨ho.heap hcb (fun h => h), ho.mono (fun _ h _ => h.elim), hit, heap_lt hcb⟩
theorem sizeU_len {u : Int} (h0 : 0 ≤ u) (h1 : u ≤ 65535) : sizeU u = ((unitZ u).length : Int) := by
  unfold sizeU
  by_cases c1 : 1 ≤ u ∧ u ≤ 127
  · rw [if_pos (by omega), unitZ_one c1.1 c1.2]; rfl
  by_cases c2 : u ≤ 2047
  · rw [if_neg (by omega), if_neg (by omega), unitZ_two (by omega) c2]; rfl
  · rw [if_neg (by omega), if_pos (by omega), unitZ_three (by omega)]; rfl

end Go.Proofs.Ytmakfnghkpdpkaa
namespace Go.Proofs.Ytmakfnghkpdpkaa
open Go.RowKit Go.Shelf
set_option linter.unusedVariables false
set_option linter.unusedSimpArgs false

/-- What the reference says of the head of a text. -/
def PointTo (zs : List Int) (c : Int) (n : Nat) : Prop := (Sc c ∧ n = (enc8 c).length ∧ ∃ r, zs = enc8 c ++ r) ∨ ((∀ c r, Sc c → zs ≠ enc8 c ++ r) ∧ c = 0 ∧ n = 0)

theorem wraps_i64 (n : Int) (h₀ : 0 ≤ n) (h₁ : n < 2 ^ 63) : IntKind.i64.wrap n = n := by rw [IntKind.wrap_i64]; omega
theorem i64_or6 (x y : Int) (hx₀ : 0 ≤ x) (hx : x % 64 = 0) (hx₁ : x < 9223372036854775808) (h₀ : 0 ≤ y) (h₁ : y < 64) : bits .or .i64 x y = x + y :=
  bits_join .i64 63 (by decide) wraps_i64 6 x y hx₀ hx hx₁ h₀ h₁ (by omega)
theorem i64_and31 (x : Int) (h₀ : 0 ≤ x) (h₁ : x < 256) : bits .and .i64 x 31 = x % 32 := bits_mask .i64 63 (by decide) wraps_i64 5 (by decide) x h₀ (by omega)
theorem i64_and15 (x : Int) (h₀ : 0 ≤ x) (h₁ : x < 256) : bits .and .i64 x 15 = x % 16 := bits_mask .i64 63 (by decide) wraps_i64 4 (by decide) x h₀ (by omega)
theorem i64_and7 (x : Int) (h₀ : 0 ≤ x) (h₁ : x < 256) : bits .and .i64 x 7 = x % 8 := bits_mask .i64 63 (by decide) wraps_i64 3 (by decide) x h₀ (by omega)

theorem getD_app {a r : List Int} {k : Nat} (h : k < a.length) : (a ++ r).getD k 0 = a.getD k 0 := by
  simp only [List.getD, List.getElem?_append_left h]
/-- The bytes at the head of what begins with a code point. -/
theorem head_facts {zs r : List Int} {c : Int} (hc : Sc c) (h : zs = enc8 c ++ r) :
    (0 ≤ c ∧ c ≤ 127 ∧ zs.getD 0 0 = c ∧ 1 ≤ zs.length) ∨ (128 ≤ c ∧ c ≤ 2047 ∧ zs.getD 0 0 = 192 + c / 64 ∧ zs.getD 1 0 = 128 + c % 64 ∧ 2 ≤ zs.length) ∨
    (2048 ≤ c ∧ (c < 55296 ∨ 57344 ≤ c) ∧ c ≤ 65535 ∧ zs.getD 0 0 = 224 + c / 4096 ∧ zs.getD 1 0 = 128 + c / 64 % 64 ∧ zs.getD 2 0 = 128 + c % 64 ∧ 3 ≤ zs.length) ∨
    (65536 ≤ c ∧ c ≤ 1114111 ∧ zs.getD 0 0 = 240 + c / 262144 ∧ zs.getD 1 0 = 128 + c / 4096 % 64 ∧ zs.getD 2 0 = 128 + c / 64 % 64 ∧ zs.getD 3 0 = 128 + c % 64 ∧ 4 ≤ zs.length) := by
  subst h
  rcases u8_cases hc with ⟨a, b, e⟩ | ⟨a, b, e⟩ | ⟨a, b, b', e⟩ | ⟨a, b, e⟩ <;> rw [e]
  · exact .inl ⟨a, b, rfl, by simp⟩
  · exact .inr (.inl ⟨a, b, rfl, rfl, by simp⟩)
  · exact .inr (.inr (.inl ⟨a, b, b', rfl, rfl, rfl, by simp⟩))
  · exact .inr (.inr (.inr ⟨a, b, rfl, rfl, rfl, rfl, by simp⟩))
theorem ok1 {zs : List Int} (hl : 1 ≤ zs.length) (c : Int) (h0 : 0 ≤ c) (h1 : c ≤ 127) (e0 : zs.getD 0 0 = c) : PointTo zs c 1 := by
  have hs : Sc c := by unfold Sc; omega
  rcases u8_cases hs with ⟨a, b, e⟩ | ⟨a, b, e⟩ | ⟨a, b, b', e⟩ | ⟨a, b, e⟩ <;> try (exfalso; omega)
  refine .inl ⟨hs, by rw [e]; rfl, zs.drop 1, ?_⟩
  rw [e, ← e0]
  match zs, hl with
  | a :: t, _ => rfl
theorem ok2 {zs : List Int} (hl : 2 ≤ zs.length) (c : Int) (h0 : 128 ≤ c) (h1 : c ≤ 2047) (e0 : zs.getD 0 0 = 192 + c / 64) (e1 : zs.getD 1 0 = 128 + c % 64) : PointTo zs c 2 := by
  have hs : Sc c := by unfold Sc; omega
  rcases u8_cases hs with ⟨a, b, e⟩ | ⟨a, b, e⟩ | ⟨a, b, b', e⟩ | ⟨a, b, e⟩ <;> try (exfalso; omega)
  refine .inl ⟨hs, by rw [e]; rfl, zs.drop 2, ?_⟩
  rw [e, ← e0, ← e1]
  match zs, hl with
  | a :: b :: t, _ => rfl
theorem ok3 {zs : List Int} (hl : 3 ≤ zs.length) (c : Int) (h0 : 2048 ≤ c) (h1 : c < 55296 ∨ 57344 ≤ c) (h2 : c ≤ 65535) (e0 : zs.getD 0 0 = 224 + c / 4096) (e1 : zs.getD 1 0 = 128 + c / 64 % 64) (e2 : zs.getD 2 0 = 128 + c % 64) : PointTo zs c 3 := by
  have hs : Sc c := by unfold Sc; omega
  rcases u8_cases hs with ⟨a, b, e⟩ | ⟨a, b, e⟩ | ⟨a, b, b', e⟩ | ⟨a, b, e⟩ <;> try (exfalso; omega)
  refine .inl ⟨hs, by rw [e]; rfl, zs.drop 3, ?_⟩
  rw [e, ← e0, ← e1, ← e2]
  match zs, hl with
  | a :: b :: c :: t, _ => rfl
theorem ok4 {zs : List Int} (hl : 4 ≤ zs.length) (c : Int) (h0 : 65536 ≤ c) (h1 : c ≤ 1114111) (e0 : zs.getD 0 0 = 240 + c / 262144) (e1 : zs.getD 1 0 = 128 + c / 4096 % 64) (e2 : zs.getD 2 0 = 128 + c / 64 % 64) (e3 : zs.getD 3 0 = 128 + c % 64) : PointTo zs c 4 := by
  have hs : Sc c := by unfold Sc; omega
  rcases u8_cases hs with ⟨a, b, e⟩ | ⟨a, b, e⟩ | ⟨a, b, b', e⟩ | ⟨a, b, e⟩ <;> try (exfalso; omega)
  refine .inl ⟨hs, by rw [e]; rfl, zs.drop 4, ?_⟩
  rw [e, ← e0, ← e1, ← e2, ← e3]
  match zs, hl with
  | a :: b :: c :: d :: t, _ => rfl

theorem byteAt (s : ByteArray) (i : Nat) (h : i < s.size) : ∃ x : UInt8, s[i]'h = x ∧ (nums s).getD i 0 = (x.toNat : Int) ∧ x.toNat < 256 :=
  ⟨s.get! i, (Utf8W.get!_of_lt s i h).symm, nums_get s i, (s.get! i).toNat_lt⟩

end Go.Proofs.Ytmakfnghkpdpkaa
namespace Go.Proofs.Ytmakfnghkpdpkaa
open Go.RowKit Go.Shelf
set_option linter.unusedVariables false
set_option linter.unusedSimpArgs false

theorem nums_ext (t : ByteArray) (n : Nat) : nums (t.extract n t.size) = (nums t).drop n := by
  rw [nums, Lib.extract_data, List.take_of_length_le (by rw [List.length_drop]; exact Nat.le_refl _)]
  simp only [nums, numsL, List.map_drop]

theorem Enc.byte {zs ys : List Int} {k : Int} (h : Enc zs ys k) : Bytish ys := by
  rcases h with ⟨cs, ht, rfl, _⟩ | ⟨_, rfl, _⟩
  · exact M8s_byte ht.1
  · exact Bytish.nil
theorem enc_A {ys : List Int} {k : Int} (h : Enc (nums ⟨#[65]⟩) ys k) : ys = [65] ∧ k = 0 := by
  have hA : IsText (nums ⟨#[65]⟩) [65] := ⟨fun c hc => by simp at hc; subst hc; unfold Sc; omega, by decide⟩
  have := Enc.unique h (.inl ⟨[65], hA, rfl, rfl⟩)
  exact ⟨this.1.trans (by decide), this.2⟩
theorem nN (s : ByteArray) (hs : s.size ≤ 70368744177664) : ∀ cs, IsText (nums s) cs → (M8s cs).length ≤ 140737488355328 := fun cs hcs => by
  have := (M8s_len hcs.1).2
  rw [← hcs.2, nums_len] at this
  omega
theorem Enc.code {zs ys : List Int} {k : Int} (h : Enc zs ys k) : k = 0 ∨ k = 20 := by
  rcases h with ⟨cs, ht, rfl, h⟩ | ⟨_, rfl, h⟩
  · exact .inl h
  · exact .inr h
end Go.Proofs.Ytmakfnghkpdpkaa
