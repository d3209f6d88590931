/- Encode and Len: what they answer, at every text whose bytes in modified UTF-8 take at most 2^47 bytes. The tables of unicode/utf8 are as their text lays them. The document's own words for a text: a code point at the head, a unit's bytes. No condition. The document's own Encode: what it answers, at texts of at most 2^46 bytes. -/
import Derived.Test.YtddjdlbmadlefaaGreatDoorMTxtATxtC
import Derived.Handy
namespace Go.Proofs.YtddjdlbmadlefaaGreatDoor
open Go.RowKit Go.Shelf
set_option linter.unusedVariables false
set_option linter.unusedSimpArgs false

/-- What Encode's function has written so far: the bytes of the units that it was told. -/
def EncSt (w0 : World) (cb it : Nat) (us : List Int) (w : World) : Prop :=
  ∃ v, w.heap[cb]? = some (.cells #[v] 67 (0, 0)) ∧ Row w w0.heap.size v (UN us) ∧ v.ownBlock ≠ some it ∧ Only (fun k => k = cb) w0 w ∧ w0.heap.size ≤ it ∧ cb < w0.heap.size
theorem EncSt.keep {w0 : World} {cb : Nat} (it : Nat) (us : List Int) (w1 w2 : World) (h : EncSt w0 cb it us w1) (ho : Only (fun k => k = it) w1 w2) : EncSt w0 cb it us w2 := by
  obtain ⟨v, hb, hr, hne, hon, hit, hcb⟩ := h
  refine ⟨v, ho.heap hb (by omega), hr.only ho (fun k hk e => hne (by rw [hk, e])), hne, hon.trans ho (fun k hk hl => by omega), hit, hcb⟩
theorem EncSt.start {w0 : World} {cb : Nat} (hcb : w0.heap[cb]? = some (.cells #[.slice none 0 0] 67 (0, 0))) (it : Nat) (w' : World) (hit : w0.heap.size ≤ it) (ho : Only (fun _ => False) w0 w') : EncSt w0 cb it [] w' :=
  ⟨.slice none 0 0, ho.heap hcb (fun h => h), World.ownsRow_nil _ _ _ _, by simp [Value.ownBlock], ho.mono (fun _ h _ => h.elim), hit, heap_lt hcb⟩

/-- What Encode leaves. -/
def EncTo (w : World) (s : ByteArray) (v : Value) (ys : List Int) (k : Int) (w' : World) : Prop :=
  Enc (nums s) ys k ∧ Row w' w.heap.size v ys ∧ Only (fun _ => False) w w'

/-- What Len's function has counted so far. -/
def LenSt (w0 : World) (cb it : Nat) (us : List Int) (w : World) : Prop :=
  w.heap[cb]? = some (.cells #[.int .i64 (UN us).length] 3 (0, 0)) ∧ Only (fun k => k = cb) w0 w ∧ w0.heap.size ≤ it ∧ cb < w0.heap.size
theorem LenSt.keep {w0 : World} {cb : Nat} (it : Nat) (us : List Int) (w1 w2 : World) (h : LenSt w0 cb it us w1) (ho : Only (fun k => k = it) w1 w2) : LenSt w0 cb it us w2 := by
  obtain ⟨hb, hon, hit, hcb⟩ := h
  exact ⟨ho.heap hb (by omega), hon.trans ho (fun k hk hl => by omega), hit, hcb⟩
theorem LenSt.start {w0 : World} {cb : Nat} (hcb : w0.heap[cb]? = some (.cells #[.int .i64 0] 3 (0, 0))) (it : Nat) (w' : World) (hit : w0.heap.size ≤ it) (ho : Only (fun _ => False) w0 w') : LenSt w0 cb it [] w' :=
  ⟨ho.heap hcb (fun h => h), ho.mono (fun _ h _ => h.elim), hit, heap_lt hcb⟩
theorem sizeU_len {u : Int} (h0 : 0 ≤ u) (h1 : u ≤ 65535) : sizeU u = ((unitZ u).length : Int) := by
  unfold sizeU
  by_cases c1 : 1 ≤ u ∧ u ≤ 127
  · rw [if_pos (by omega), unitZ_one c1.1 c1.2]; rfl
  by_cases c2 : u ≤ 2047
  · rw [if_neg (by omega), if_neg (by omega), unitZ_two (by omega) c2]; rfl
  · rw [if_neg (by omega), if_pos (by omega), unitZ_three (by omega)]; rfl

set_option maxHeartbeats 1000000 in
theorem lenTell (w0 : World) (cb it : Nat) (us : List Int) (u : Int) (w1 : World) (hlt : it < w1.heap.size) (h : LenSt w0 cb it us w1) (h0 : 0 ≤ u) (h1 : u ≤ 65535) (hlen : (UN us).length + (unitZ u).length ≤ 1152921504606846976) :
    Calls Tryz.prog 291 #[.int .i32 u, .int .i64 (sizeU u), .pointer (some ⟨cb, 0, none⟩)] w1 fun e w2 => e = .returned (.tuple #[]) ∧ LenSt w0 cb it (us ++ [u]) w2 ∧ w1.heap.size ≤ w2.heap.size ∧ w2.heap[it]? = w1.heap[it]? := by
  obtain ⟨hb, hon, hit, hcb⟩ := h
  have hc0 := cell_blk hb 0
  have hff := frozen_blk hb 0
  simp at hc0
  have hset : Only (fun k => k = cb) w1 (w1.setCell ⟨cb, 0, none⟩ (.int .i64 (((UN us).length : Int) + (unitZ u).length))) := Only.setCell (S := fun k => k = cb) (Only.refl _ _) (fun _ => rfl) _
  have hone : (1 : Int) ≤ ((unitZ u).length : Int) := by rw [← sizeU_len h0 h1]; unfold sizeU; repeat' split <;> omega
  rw [sizeU_len h0 h1]
  have hw : IntKind.i64.wrap (((UN us).length : Int) + (unitZ u).length) = ((UN us).length : Int) + (unitZ u).length := IntWalk.i64_in _ (by omega)
  go_enter Tryz.func291, Tryz.ntmps291
  go_wp2
  first | go_ret | go_end0
  refine ⟨rfl, ⟨by rw [heap_setCell_at hb, UN_append, UN_one, List.length_append]; simp, hon.trans hset (fun k hk _ => hk), hit, hcb⟩, hset.size, ?_⟩
  exact hset.block it hlt (by omega)

set_option maxHeartbeats 1000000 in
theorem lenOf (s : ByteArray) (w : World) (hs : s.size ≤ 140737488355328) (hT : Tabs w) (h1w : 1 < w.heap.size) :
    Calls Tryz.prog 276 #[.string s] w fun e w' => ∃ ys k, e = .returned (.int .i64 ys.length) ∧ Enc (nums s) ys k ∧ Only (fun _ => False) w w' := by
  have hmf : ∀ (fn : Fn) (first cap : Array Value) (w : World), (Instr.makeFunc fn first cap).run Tryz.prog w = .ok (.func fn first cap) w := fun _ _ _ _ => rfl
  have hen : Enters Tryz.prog 291 := enters_of Tryz.func291 (by kernel_rfl) rfl
  have ho0 : Only (fun _ => False) w (w.alloc (.cells #[.int .i64 0] 3)) := (Only.refl _ _).alloc _
  have hT0 := hT.only ho0 (fun h => h) (fun h => h)
  have hcb := heap_alloc_new w (.cells #[.int .i64 0] 3)
  have cE := eachUnit 291 w.heap.size hen (LenSt (w.alloc (.cells #[.int .i64 0] 3)) w.heap.size) 1152921504606846976 s (w.alloc (.cells #[.int .i64 0] 3)) (by omega) hT0
    (LenSt.start hcb) LenSt.keep (lenTell _ _) (fun cs hcs => by have := (M8s_len hcs.1).2; rw [← hcs.2, nums_len] at this; omega)
  go_enter Tryz.func276, Tryz.ntmps276
  go_wp2_with (fail)
  refine cE.mono ?_
  rintro e w1 (⟨cs, it, ht, rfl, hge, hb, hon, hit, hlt⟩ | ⟨hn, rfl, hon⟩)
  · have hc := cell_blk hb 0
    simp at hc
    clear cE
    go_wp2
    go_ret
    rw [UN_Us]
    have hon2 : Only (fun _ => False) w w1 := ho0.trans hon (fun k hk hl => by subst hk; exact Nat.lt_irrefl _ hl)
    exact ⟨M8s cs, 0, rfl, .inl ⟨cs, ht, rfl, rfl⟩, hon2⟩
  · clear cE
    go_wp2
    go_ret
    exact ⟨[], 20, rfl, .inr ⟨hn, rfl, rfl⟩, ho0.trans hon (fun _ h => h.elim)⟩
end Go.Proofs.YtddjdlbmadlefaaGreatDoor
namespace Go.Proofs.YtddjdlbmadlefaaGreatDoor
open Go.RowKit Go.Shelf
set_option linter.unusedVariables false
set_option linter.unusedSimpArgs false

/-- What the reference says of the head of a text. -/
def PointTo (zs : List Int) (c : Int) (n : Nat) : Prop := (Sc c ∧ n = (enc8 c).length ∧ ∃ r, zs = enc8 c ++ r) ∨ ((∀ c r, Sc c → zs ≠ enc8 c ++ r) ∧ c = 0 ∧ n = 0)

theorem wraps_i64 (n : Int) (h₀ : 0 ≤ n) (h₁ : n < 2 ^ 63) : IntKind.i64.wrap n = n := by rw [IntKind.wrap_i64]; omega
theorem i64_or6 (x y : Int) (hx₀ : 0 ≤ x) (hx : x % 64 = 0) (hx₁ : x < 9223372036854775808) (h₀ : 0 ≤ y) (h₁ : y < 64) : bits .or .i64 x y = x + y :=
  bits_join .i64 63 (by decide) wraps_i64 6 x y hx₀ hx hx₁ h₀ h₁ (by omega)
theorem i64_and31 (x : Int) (h₀ : 0 ≤ x) (h₁ : x < 256) : bits .and .i64 x 31 = x % 32 := bits_mask .i64 63 (by decide) wraps_i64 5 (by decide) x h₀ (by omega)
theorem i64_and15 (x : Int) (h₀ : 0 ≤ x) (h₁ : x < 256) : bits .and .i64 x 15 = x % 16 := bits_mask .i64 63 (by decide) wraps_i64 4 (by decide) x h₀ (by omega)
theorem i64_and7 (x : Int) (h₀ : 0 ≤ x) (h₁ : x < 256) : bits .and .i64 x 7 = x % 8 := bits_mask .i64 63 (by decide) wraps_i64 3 (by decide) x h₀ (by omega)

theorem getD_app {a r : List Int} {k : Nat} (h : k < a.length) : (a ++ r).getD k 0 = a.getD k 0 := by
  simp only [List.getD, List.getElem?_append_left h]
/-- The bytes at the head of what begins with a code point. -/
theorem head_facts {zs r : List Int} {c : Int} (hc : Sc c) (h : zs = enc8 c ++ r) :
    (0 ≤ c ∧ c ≤ 127 ∧ zs.getD 0 0 = c ∧ 1 ≤ zs.length) ∨ (128 ≤ c ∧ c ≤ 2047 ∧ zs.getD 0 0 = 192 + c / 64 ∧ zs.getD 1 0 = 128 + c % 64 ∧ 2 ≤ zs.length) ∨
    (2048 ≤ c ∧ (c < 55296 ∨ 57344 ≤ c) ∧ c ≤ 65535 ∧ zs.getD 0 0 = 224 + c / 4096 ∧ zs.getD 1 0 = 128 + c / 64 % 64 ∧ zs.getD 2 0 = 128 + c % 64 ∧ 3 ≤ zs.length) ∨
    (65536 ≤ c ∧ c ≤ 1114111 ∧ zs.getD 0 0 = 240 + c / 262144 ∧ zs.getD 1 0 = 128 + c / 4096 % 64 ∧ zs.getD 2 0 = 128 + c / 64 % 64 ∧ zs.getD 3 0 = 128 + c % 64 ∧ 4 ≤ zs.length) := by
  subst h
  rcases u8_cases hc with ⟨a, b, e⟩ | ⟨a, b, e⟩ | ⟨a, b, b', e⟩ | ⟨a, b, e⟩ <;> rw [e]
  · exact .inl ⟨a, b, rfl, by simp⟩
  · exact .inr (.inl ⟨a, b, rfl, rfl, by simp⟩)
  · exact .inr (.inr (.inl ⟨a, b, b', rfl, rfl, rfl, by simp⟩))
  · exact .inr (.inr (.inr ⟨a, b, rfl, rfl, rfl, rfl, by simp⟩))
theorem ok1 {zs : List Int} (hl : 1 ≤ zs.length) (c : Int) (h0 : 0 ≤ c) (h1 : c ≤ 127) (e0 : zs.getD 0 0 = c) : PointTo zs c 1 := by
  have hs : Sc c := by unfold Sc; omega
  rcases u8_cases hs with ⟨a, b, e⟩ | ⟨a, b, e⟩ | ⟨a, b, b', e⟩ | ⟨a, b, e⟩ <;> try (exfalso; omega)
  refine .inl ⟨hs, by rw [e]; rfl, zs.drop 1, ?_⟩
  rw [e, ← e0]
  match zs, hl with
  | a :: t, _ => rfl
theorem ok2 {zs : List Int} (hl : 2 ≤ zs.length) (c : Int) (h0 : 128 ≤ c) (h1 : c ≤ 2047) (e0 : zs.getD 0 0 = 192 + c / 64) (e1 : zs.getD 1 0 = 128 + c % 64) : PointTo zs c 2 := by
  have hs : Sc c := by unfold Sc; omega
  rcases u8_cases hs with ⟨a, b, e⟩ | ⟨a, b, e⟩ | ⟨a, b, b', e⟩ | ⟨a, b, e⟩ <;> try (exfalso; omega)
  refine .inl ⟨hs, by rw [e]; rfl, zs.drop 2, ?_⟩
  rw [e, ← e0, ← e1]
  match zs, hl with
  | a :: b :: t, _ => rfl
theorem ok3 {zs : List Int} (hl : 3 ≤ zs.length) (c : Int) (h0 : 2048 ≤ c) (h1 : c < 55296 ∨ 57344 ≤ c) (h2 : c ≤ 65535) (e0 : zs.getD 0 0 = 224 + c / 4096) (e1 : zs.getD 1 0 = 128 + c / 64 % 64) (e2 : zs.getD 2 0 = 128 + c % 64) : PointTo zs c 3 := by
  have hs : Sc c := by unfold Sc; omega
  rcases u8_cases hs with ⟨a, b, e⟩ | ⟨a, b, e⟩ | ⟨a, b, b', e⟩ | ⟨a, b, e⟩ <;> try (exfalso; omega)
  refine .inl ⟨hs, by rw [e]; rfl, zs.drop 3, ?_⟩
  rw [e, ← e0, ← e1, ← e2]
  match zs, hl with
  | a :: b :: c :: t, _ => rfl
theorem ok4 {zs : List Int} (hl : 4 ≤ zs.length) (c : Int) (h0 : 65536 ≤ c) (h1 : c ≤ 1114111) (e0 : zs.getD 0 0 = 240 + c / 262144) (e1 : zs.getD 1 0 = 128 + c / 4096 % 64) (e2 : zs.getD 2 0 = 128 + c / 64 % 64) (e3 : zs.getD 3 0 = 128 + c % 64) : PointTo zs c 4 := by
  have hs : Sc c := by unfold Sc; omega
  rcases u8_cases hs with ⟨a, b, e⟩ | ⟨a, b, e⟩ | ⟨a, b, b', e⟩ | ⟨a, b, e⟩ <;> try (exfalso; omega)
  refine .inl ⟨hs, by rw [e]; rfl, zs.drop 4, ?_⟩
  rw [e, ← e0, ← e1, ← e2, ← e3]
  match zs, hl with
  | a :: b :: c :: d :: t, _ => rfl

theorem byteAt (s : ByteArray) (i : Nat) (h : i < s.size) : ∃ x : UInt8, s[i]'h = x ∧ (nums s).getD i 0 = (x.toNat : Int) ∧ x.toNat < 256 :=
  ⟨s.get! i, (Utf8W.get!_of_lt s i h).symm, nums_get s i, (s.get! i).toNat_lt⟩

set_option maxHeartbeats 4000000 in
set_option maxRecDepth 100000 in
theorem point (s : ByteArray) (w : World) (hs : s.size ≤ 9223372036854775807) (h0 : 0 < s.size) :
    Calls Tryz.prog 263 #[.string s] w fun e w' => (∃ (c : Int) (n : Nat), e = .returned (.tuple #[.int .i64 c, .int .i64 n]) ∧ PointTo (nums s) c n) ∧ Drawn w w' := by
  have h0z : (0 : Int) < (s.size : Int) := by omega
  obtain ⟨x0, hs0, hn0, hx0lt⟩ := byteAt s 0 h0
  by_cases c1 : x0.toNat < 128
  · go_enter Tryz.func263, Tryz.ntmps263
    go_wp2
    all_goals go_ret2
    all_goals first | (exfalso; omega) | skip
    all_goals exact ⟨⟨_, 1, rfl, ok1 (by rw [nums_len]; omega) _ (by omega) (by omega) (by rw [hn0])⟩, 0, rfl⟩
  by_cases c2 : 194 ≤ x0.toNat ∧ x0.toNat ≤ 223
  · obtain ⟨c2a, c2b⟩ := c2
    by_cases l2 : s.size < 2
    · go_enter Tryz.func263, Tryz.ntmps263
      have m0 := i64_and31 (x0.toNat : Int) (by omega) (by omega)
      go_wp2
      all_goals first | go_ret2 | skip
      all_goals first | (exfalso; omega) | skip
      all_goals refine ⟨⟨_, 0, rfl, .inr ⟨fun c r hc he => ?_, rfl, rfl⟩⟩, 0, rfl⟩
      all_goals have hf := head_facts hc he
      all_goals rw [hn0, nums_len] at hf
      all_goals omega
    · have l2n : 2 ≤ s.size := by omega
      obtain ⟨x1, hs1, hn1, hx1lt⟩ := byteAt s 1 (by omega)
      have l1z : ((1 : Nat) : Int) < (s.size : Int) := by omega
      have a1 := u8_and63 (x1.toNat : Int) (by omega) (by omega)
      have m0 := i64_and31 (x0.toNat : Int) (by omega) (by omega)
      have o1 := i64_or6 ((x0.toNat : Int) % 32 * 64) ((x1.toNat : Int) % 64) (by omega) (by omega) (by omega) (by omega) (by omega)
      go_enter Tryz.func263, Tryz.ntmps263
      go_wp2
      go_rounds 3
      all_goals first | go_ret2 | skip
      all_goals first | (exfalso; omega) | (refine ⟨⟨_, 0, rfl, .inr ⟨fun c r hc he => ?_, rfl, rfl⟩⟩, 0, rfl⟩; have hf := head_facts hc he; rw [hn0, hn1, nums_len] at hf; omega) | exact ⟨⟨_, 2, rfl, ok2 (by rw [nums_len]; omega) _ (by omega) (by omega) (by rw [hn0]; omega) (by rw [hn1]; omega)⟩, 0, rfl⟩
  by_cases c3 : 224 ≤ x0.toNat ∧ x0.toNat ≤ 239
  · obtain ⟨c3a, c3b⟩ := c3
    by_cases l3 : s.size < 3
    · go_enter Tryz.func263, Tryz.ntmps263
      have m0 := i64_and15 (x0.toNat : Int) (by omega) (by omega)
      go_wp2
      all_goals first | go_ret2 | skip
      all_goals first | (exfalso; omega) | skip
      all_goals refine ⟨⟨_, 0, rfl, .inr ⟨fun c r hc he => ?_, rfl, rfl⟩⟩, 0, rfl⟩
      all_goals have hf := head_facts hc he
      all_goals rw [hn0, nums_len] at hf
      all_goals omega
    · have l3n : 3 ≤ s.size := by omega
      obtain ⟨x1, hs1, hn1, hx1lt⟩ := byteAt s 1 (by omega)
      have l1z : ((1 : Nat) : Int) < (s.size : Int) := by omega
      have a1 := u8_and63 (x1.toNat : Int) (by omega) (by omega)
      obtain ⟨x2, hs2, hn2, hx2lt⟩ := byteAt s 2 (by omega)
      have l2z : ((2 : Nat) : Int) < (s.size : Int) := by omega
      have a2 := u8_and63 (x2.toNat : Int) (by omega) (by omega)
      have m0 := i64_and15 (x0.toNat : Int) (by omega) (by omega)
      have o1 := i64_or6 ((x0.toNat : Int) % 16 * 64) ((x1.toNat : Int) % 64) (by omega) (by omega) (by omega) (by omega) (by omega)
      have o2 := i64_or6 (((x0.toNat : Int) % 16 * 64 + (x1.toNat : Int) % 64) * 64) ((x2.toNat : Int) % 64) (by omega) (by omega) (by omega) (by omega) (by omega)
      go_enter Tryz.func263, Tryz.ntmps263
      go_wp2
      go_rounds 4
      all_goals first | go_ret2 | skip
      all_goals first | (exfalso; omega) | (refine ⟨⟨_, 0, rfl, .inr ⟨fun c r hc he => ?_, rfl, rfl⟩⟩, 0, rfl⟩; have hf := head_facts hc he; rw [hn0, hn1, hn2, nums_len] at hf; omega) | exact ⟨⟨_, 3, rfl, ok3 (by rw [nums_len]; omega) _ (by omega) (by omega) (by omega) (by rw [hn0]; omega) (by rw [hn1]; omega) (by rw [hn2]; omega)⟩, 0, rfl⟩
  by_cases c4 : 240 ≤ x0.toNat ∧ x0.toNat ≤ 244
  · obtain ⟨c4a, c4b⟩ := c4
    by_cases l4 : s.size < 4
    · go_enter Tryz.func263, Tryz.ntmps263
      have m0 := i64_and7 (x0.toNat : Int) (by omega) (by omega)
      go_wp2
      all_goals first | go_ret2 | skip
      all_goals first | (exfalso; omega) | skip
      all_goals refine ⟨⟨_, 0, rfl, .inr ⟨fun c r hc he => ?_, rfl, rfl⟩⟩, 0, rfl⟩
      all_goals have hf := head_facts hc he
      all_goals rw [hn0, nums_len] at hf
      all_goals omega
    · have l4n : 4 ≤ s.size := by omega
      obtain ⟨x1, hs1, hn1, hx1lt⟩ := byteAt s 1 (by omega)
      have l1z : ((1 : Nat) : Int) < (s.size : Int) := by omega
      have a1 := u8_and63 (x1.toNat : Int) (by omega) (by omega)
      obtain ⟨x2, hs2, hn2, hx2lt⟩ := byteAt s 2 (by omega)
      have l2z : ((2 : Nat) : Int) < (s.size : Int) := by omega
      have a2 := u8_and63 (x2.toNat : Int) (by omega) (by omega)
      obtain ⟨x3, hs3, hn3, hx3lt⟩ := byteAt s 3 (by omega)
      have l3z : ((3 : Nat) : Int) < (s.size : Int) := by omega
      have a3 := u8_and63 (x3.toNat : Int) (by omega) (by omega)
      have m0 := i64_and7 (x0.toNat : Int) (by omega) (by omega)
      have o1 := i64_or6 ((x0.toNat : Int) % 8 * 64) ((x1.toNat : Int) % 64) (by omega) (by omega) (by omega) (by omega) (by omega)
      have o2 := i64_or6 (((x0.toNat : Int) % 8 * 64 + (x1.toNat : Int) % 64) * 64) ((x2.toNat : Int) % 64) (by omega) (by omega) (by omega) (by omega) (by omega)
      have o3 := i64_or6 ((((x0.toNat : Int) % 8 * 64 + (x1.toNat : Int) % 64) * 64 + (x2.toNat : Int) % 64) * 64) ((x3.toNat : Int) % 64) (by omega) (by omega) (by omega) (by omega) (by omega)
      go_enter Tryz.func263, Tryz.ntmps263
      go_wp2
      go_rounds 5
      all_goals first | go_ret2 | skip
      all_goals first | (exfalso; omega) | (refine ⟨⟨_, 0, rfl, .inr ⟨fun c r hc he => ?_, rfl, rfl⟩⟩, 0, rfl⟩; have hf := head_facts hc he; rw [hn0, hn1, hn2, hn3, nums_len] at hf; omega) | exact ⟨⟨_, 4, rfl, ok4 (by rw [nums_len]; omega) _ (by omega) (by omega) (by rw [hn0]; omega) (by rw [hn1]; omega) (by rw [hn2]; omega) (by rw [hn3]; omega)⟩, 0, rfl⟩
  · go_enter Tryz.func263, Tryz.ntmps263
    go_wp2
    all_goals first | go_ret2 | skip
    all_goals first | (exfalso; omega) | skip
    all_goals refine ⟨⟨_, 0, rfl, .inr ⟨fun c r hc he => ?_, rfl, rfl⟩⟩, 0, rfl⟩
    all_goals have hf := head_facts hc he
    all_goals rw [hn0] at hf
    all_goals omega
end Go.Proofs.YtddjdlbmadlefaaGreatDoor
namespace Go.Proofs.YtddjdlbmadlefaaGreatDoor
open Go.RowKit Go.Shelf
set_option linter.unusedVariables false
set_option linter.unusedSimpArgs false

set_option maxHeartbeats 1000000 in
theorem unit (u : Int) (w : World) (h0 : 0 ≤ u) (h1 : u ≤ 65535) :
    Calls Tryz.prog 264 #[.int .i64 u] w fun e w' => ∃ v, e = .returned v ∧ Src w' 1 v (unitZ u).length ((unitZ u).map (Value.int .u8)) ∧ Only (fun _ => False) w w' := by
  by_cases c1 : 1 ≤ u ∧ u ≤ 127
  · obtain ⟨ca, cb⟩ := c1
    rw [unitZ_one ca cb]
    go_enter Tryz.func264, Tryz.ntmps264
    go_wp2
    go_ret
    refine ⟨_, rfl, ?_, (Only.refl _ _).alloc _⟩
    exact Src.few (w := w) (t := 5) (xs := [.int .u8 (u)]) (by intro x hx; simp only [List.mem_cons, List.mem_nil_iff, or_false] at hx; subst hx; rfl)
  by_cases c2 : u ≤ 2047
  · have c1' : u < 1 ∨ 127 < u := by omega
    rw [unitZ_two (by omega) c2]
    go_enter Tryz.func264, Tryz.ntmps264
    go_wp2
    all_goals go_ret
    all_goals first | (exfalso; omega) | skip
    all_goals refine ⟨_, rfl, ?_, (Only.refl _ _).alloc _⟩
    all_goals exact Src.few (w := w) (t := 5) (xs := [.int .u8 (192 + u / 64), .int .u8 (128 + u % 64)]) (by intro x hx; simp only [List.mem_cons, List.mem_nil_iff, or_false] at hx; rcases hx with rfl | rfl <;> rfl)
  · rw [unitZ_three (by omega)]
    go_enter Tryz.func264, Tryz.ntmps264
    go_wp2
    all_goals go_ret
    all_goals first | (exfalso; omega) | skip
    all_goals refine ⟨_, rfl, ?_, (Only.refl _ _).alloc _⟩
    all_goals exact Src.few (w := w) (t := 5) (xs := [.int .u8 (224 + u / 4096), .int .u8 (128 + u / 64 % 64), .int .u8 (128 + u % 64)]) (by intro x hx; simp only [List.mem_cons, List.mem_nil_iff, or_false] at hx; rcases hx with rfl | rfl | rfl <;> rfl)

theorem nums_ext (t : ByteArray) (n : Nat) : nums (t.extract n t.size) = (nums t).drop n := by
  rw [nums, Lib.extract_data, List.take_of_length_le (by rw [List.length_drop]; exact Nat.le_refl _)]
  simp only [nums, numsL, List.map_drop]

set_option maxHeartbeats 4000000 in
set_option maxRecDepth 100000 in
theorem refEncode (s : ByteArray) (w : World) (hs : s.size ≤ 70368744177664) :
    Calls Tryz.prog 236 #[.string s] w fun e w' => ∃ v ys k, e = .returned (.tuple #[v, .int .i64 k]) ∧ EncTo w s v ys k w' := by
  obtain ⟨i0, hi, hz0, hz1, hz2⟩ := info_parts info_u8
  go_enter Tryz.func236, Tryz.ntmps236
  go_wp2
  go_loopg [0, 4] (s.size + 1) (fun gk s0 b wr => ∃ (t : ByteArray) (pre : List Int), s0 = .string t ∧ AllSc pre ∧ nums s = U8s pre ++ nums t ∧ t.size < gk ∧ Row wr w.heap.size b (M8s pre) ∧ Only (fun _ => False) w wr)
  case atStart => exact ⟨s, [], rfl, .nil, rfl, by omega, World.ownsRow_nil _ _ _ _, Only.refl _ _⟩
  case round =>
    obtain ⟨t, pre, rfl, hsc, hnum, hgk, hrow, hon⟩ := hrel
    obtain ⟨ao, cap, rfl, hc1, hc2⟩ := slice_of_owns hrow
    have hlen : (U8s pre).length + t.size = s.size := by rw [← nums_len s, hnum, List.length_append, nums_len]
    have hml := (M8s_len hsc).2
    have Hnum := Lib.hid hnum
    have Hrow := Lib.hid hrow
    clear hnum hrow
    obtain ⟨ys, hys⟩ : ∃ ys, M8s pre = ys := ⟨_, rfl⟩
    rw [hys] at hml Hrow hc1
    rw [hys]
    have Hys := Lib.hid hys
    clear hys
    by_cases h0 : 0 < t.size
    · obtain ⟨g', rfl⟩ : ∃ g', gk = g' + 1 := ⟨gk - 1, by omega⟩
      have h0z : (0 : Int) < (t.size : Int) := by omega
      go_wp2_with (fail)
      refine (point t _ (by omega) h0).mono ?_
      rintro e w1 ⟨⟨c, n, rfl, hpt⟩, hdr⟩
      have hon1 : Only (fun _ => False) w w1 := hon.trans (hdr.only (S := fun _ => False)) (fun _ h => h.elim)
      have hrow1 : Row w1 w.heap.size (.slice ao ys.length cap) ys := Row.only Hrow.out (hdr.only (S := fun _ => False)) (fun _ _ h => h)
      clear hdr Hrow
      rcases hpt with ⟨hc, hn, r, hr⟩ | ⟨hno, rfl, rfl⟩
      · have hnle : n ≤ t.size := by rw [← nums_len, hr, List.length_append]; omega
        have hnz : (n : Int) ≤ (t.size : Int) := by omega
        have hn1 : 1 ≤ n := by rw [hn]; exact (u8_len hc).1
        have hnb : ((n : Int) == 0) = false := by simp; omega
        clear hon
        have hext : nums (t.extract n t.size) = r := by rw [nums_ext, hr, hn, List.drop_left]
        have hsz : (t.extract n t.size).size + n = t.size := by rw [Lib.ext_size]; omega
        obtain ⟨t2, ht2⟩ : ∃ t2, t.extract n t.size = t2 := ⟨_, rfl⟩
        rw [ht2] at hext hsz
        have Ht := Lib.hid ht2
        have Hr := Lib.hid hr
        have Hn := Lib.hid hn
        have Hext := Lib.hid hext
        have hcr : 0 ≤ c ∧ c ≤ 1114111 := by unfold Sc at hc; omega
        have hml2 := (m8_len hc).2
        have hm : M8s (pre ++ [c]) = ys ++ m8 c := by rw [M8s_append, Hys.out, M8s_cons, M8s_nil, List.append_nil]
        have Hm := Lib.hid hm
        have hN8 : nums s = U8s (pre ++ [c]) ++ nums t2 := by rw [U8s_append, U8s_cons, U8s_nil, List.append_nil, hext, List.append_assoc, ← hr]; exact Hnum.out
        clear hr hn hext hm
        have htot : ys.length + (m8 c).length ≤ 140737488355328 := by rw [Hn.out] at hnle; omega
        have Hu := Lib.hid hN8
        clear hN8
        by_cases hc6 : 65536 ≤ c
        · have hm8 : m8 c = unitZ (55296 + (c - 65536) / 1024) ++ unitZ (56320 + (c - 65536) % 1024) := by unfold m8; rw [if_neg (by omega)]; rfl
          rw [hm8, List.length_append] at htot
          have Hm8 := Lib.hid hm8
          clear hm8 hml2
          go_wp2_with (fail)
          refine (unit _ _ (by omega) (by omega)).mono ?_
          rintro e w2 ⟨v2, rfl, hsw2, ho2⟩
          have hon2 := hon1.trans ho2 (fun _ h => h.elim)
          have hrow2 := Row.only hrow1 ho2 (fun _ _ h => h)
          have hBw2 := hon2.size
          clear hrow1 hon1 ho2
          go_wp2_with (at_builtin; go_loud (refine wpList_append_src rfl (.tmp 22) (.tmp 27) 67 rfl 5 i0 (.int .u8 0) 1 1 Tryz.underlying67 hi hz0 hz1 hz2 rfl (by decide) w.heap.size (.slice ao ys.length cap) ys.length (ys.map (Value.int .u8)) rfl (by exact hrow2) (by exact hBw2) v2 (unitZ (55296 + (c - 65536) / 1024)).length ((unitZ (55296 + (c - 65536) / 1024)).map (Value.int .u8)) rfl (by exact hsw2) (by unfold maxLen; omega) (by omega) ?_); intro vw3 w3 hownw3 hgroww3 hneww3)
          obtain ⟨hrow3, hon3⟩ := Row.push hrow2 hon2 hownw3 hgroww3 hneww3
          obtain ⟨ao3, cap3, rfl, hc31, hc32⟩ := slice_of_owns hrow3
          obtain ⟨y3, hy3⟩ : ∃ y3, ys ++ unitZ (55296 + (c - 65536) / 1024) = y3 := ⟨_, rfl⟩
          rw [hy3] at hrow3 hc31 ⊢
          have hl3 : y3.length ≤ ys.length + (unitZ (55296 + (c - 65536) / 1024)).length := by rw [← hy3, List.length_append]; exact Nat.le_refl _
          have Hy3 := Lib.hid hy3
          clear hownw3 hgroww3 hneww3 hrow2 hon2 hBw2 hsw2 hy3
          go_wp2_with (fail)
          refine (unit _ _ (by omega) (by omega)).mono ?_
          rintro e w4 ⟨v4, rfl, hsw4, ho4⟩
          have hon4 := hon3.trans ho4 (fun _ h => h.elim)
          have hrow4 := Row.only hrow3 ho4 (fun _ _ h => h)
          have hBw4 := hon4.size
          clear hrow3 hon3 ho4
          go_wp2_with (at_builtin; go_loud (refine wpList_append_src rfl (.tmp 29) (.tmp 34) 67 rfl 5 i0 (.int .u8 0) 1 1 Tryz.underlying67 hi hz0 hz1 hz2 rfl (by decide) w.heap.size (.slice ao3 y3.length cap3) y3.length (y3.map (Value.int .u8)) rfl (by exact hrow4) (by exact hBw4) v4 (unitZ (56320 + (c - 65536) % 1024)).length ((unitZ (56320 + (c - 65536) % 1024)).map (Value.int .u8)) rfl (by exact hsw4) (by unfold maxLen; omega) (by omega) ?_); intro vw5 w5 hownw5 hgroww5 hneww5)
          obtain ⟨hrow5, hon5⟩ := Row.push hrow4 hon4 hownw5 hgroww5 hneww5
          clear hownw5 hgroww5 hneww5 hrow4 hon4 hBw4 hsw4
          rw [← Hy3.out, List.append_assoc, ← Hm8.out, ← Hm.out] at hrow5
          go_wp2
          go_roundg g'
          case measure => omega
          case rel => exact ⟨t2, pre ++ [c], rfl, hsc.append (.mk hc .nil), Hu.out, by omega, hrow5, hon5⟩
        · have hm8 : m8 c = unitZ c := by unfold m8; rw [if_pos (by omega)]
          rw [hm8] at htot
          have Hm8 := Lib.hid hm8
          clear hm8 hml2
          go_wp2_with (fail)
          refine (unit _ _ (by omega) (by omega)).mono ?_
          rintro e w2 ⟨v2, rfl, hsw2, ho2⟩
          have hon2 := hon1.trans ho2 (fun _ h => h.elim)
          have hrow2 := Row.only hrow1 ho2 (fun _ _ h => h)
          have hBw2 := hon2.size
          clear hrow1 hon1 ho2
          go_wp2_with (at_builtin; go_loud (refine wpList_append_src rfl (.tmp 36) (.tmp 38) 67 rfl 5 i0 (.int .u8 0) 1 1 Tryz.underlying67 hi hz0 hz1 hz2 rfl (by decide) w.heap.size (.slice ao ys.length cap) ys.length (ys.map (Value.int .u8)) rfl (by exact hrow2) (by exact hBw2) v2 (unitZ (c)).length ((unitZ (c)).map (Value.int .u8)) rfl (by exact hsw2) (by unfold maxLen; omega) (by omega) ?_); intro vw3 w3 hownw3 hgroww3 hneww3)
          obtain ⟨hrow3, hon3⟩ := Row.push hrow2 hon2 hownw3 hgroww3 hneww3
          clear hownw3 hgroww3 hneww3 hrow2 hon2 hBw2 hsw2
          rw [← Hm8.out, ← Hm.out] at hrow3
          go_wp2
          go_roundg g'
          case measure => omega
          case rel => exact ⟨t2, pre ++ [c], rfl, hsc.append (.mk hc .nil), Hu.out, by omega, hrow3, hon3⟩
      · have hnot : ¬ ∃ cs, IsText (nums s) cs := by
          rw [Hnum.out, text_tails hsc]
          exact no_text (by intro e; have := nums_len t; rw [e] at this; simp at this; omega) hno
        go_wp2
        go_ret2
        exact ⟨_, [], 20, rfl, .inr ⟨hnot, rfl, rfl⟩, World.ownsRow_nil _ _ _ _, hon1⟩
    · have ht0 : nums t = [] := List.eq_nil_of_length_eq_zero (by rw [nums_len]; omega)
      go_wp2
      go_ret2
      exact ⟨_, ys, 0, rfl, .inl ⟨pre, ⟨hsc, by rw [Hnum.out, ht0, List.append_nil]⟩, Hys.out.symm, rfl⟩, Hrow.out, hon⟩
theorem Enc.byte {zs ys : List Int} {k : Int} (h : Enc zs ys k) : Bytish ys := by
  rcases h with ⟨cs, ht, rfl, _⟩ | ⟨_, rfl, _⟩
  · exact M8s_byte ht.1
  · exact Bytish.nil
theorem enc_A {ys : List Int} {k : Int} (h : Enc (nums ⟨#[65]⟩) ys k) : ys = [65] ∧ k = 0 := by
  have hA : IsText (nums ⟨#[65]⟩) [65] := ⟨fun c hc => by simp at hc; subst hc; unfold Sc; omega, by decide⟩
  have := Enc.unique h (.inl ⟨[65], hA, rfl, rfl⟩)
  exact ⟨this.1.trans (by decide), this.2⟩
theorem nN (s : ByteArray) (hs : s.size ≤ 70368744177664) : ∀ cs, IsText (nums s) cs → (M8s cs).length ≤ 140737488355328 := fun cs hcs => by
  have := (M8s_len hcs.1).2
  rw [← hcs.2, nums_len] at this
  omega
theorem Enc.code {zs ys : List Int} {k : Int} (h : Enc zs ys k) : k = 0 ∨ k = 20 := by
  rcases h with ⟨cs, ht, rfl, h⟩ | ⟨_, rfl, h⟩
  · exact .inl h
  · exact .inr h
end Go.Proofs.YtddjdlbmadlefaaGreatDoor
