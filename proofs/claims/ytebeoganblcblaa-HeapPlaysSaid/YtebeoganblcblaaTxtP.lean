/- What the document says of texts, over plain lists of numbers: code points, their bytes in UTF-8 and in modified UTF-8, that both can be read back. No condition. -/
import Derived.Test.YtebeoganblcblaaSep
import Derived.Lib.MapLaws
import Derived.Lib.ValidLaws
import Derived.Laws.BytesArg
namespace Go.Proofs.Ytebeoganblcblaa
open Go.Lib
set_option linter.unusedVariables false

/-- A code point that a text may hold. -/
def Sc (c : Int) : Prop := (0 ≤ c ∧ c < 55296) ∨ (57344 ≤ c ∧ c ≤ 1114111)
def AllSc (cs : List Int) : Prop := ∀ c ∈ cs, Sc c
/-- A code point's bytes in UTF-8. -/
def enc8 (c : Int) : List Int := Lib.encodeRuneZ c
/-- A unit's bytes. -/
def unitZ (u : Int) : List Int := if 1 ≤ u ∧ u ≤ 127 then [u] else if u ≤ 2047 then [192 + u / 64, 128 + u % 64] else [224 + u / 4096, 128 + u / 64 % 64, 128 + u % 64]
def hiU (c : Int) : Int := 55296 + (c - 65536) / 1024
def loU (c : Int) : Int := 56320 + (c - 65536) % 1024
/-- A code point's bytes in modified UTF-8. -/
def m8 (c : Int) : List Int := if c < 65536 then unitZ c else unitZ (hiU c) ++ unitZ (loU c)

theorem unitZ_one {u : Int} (h0 : 1 ≤ u) (h1 : u ≤ 127) : unitZ u = [u] := by unfold unitZ; rw [if_pos ⟨h0, h1⟩]
theorem unitZ_two {u : Int} (h : u = 0 ∨ 128 ≤ u) (h1 : u ≤ 2047) : unitZ u = [192 + u / 64, 128 + u % 64] := by unfold unitZ; rw [if_neg (by omega), if_pos h1]
theorem unitZ_three {u : Int} (h : 2048 ≤ u) : unitZ u = [224 + u / 4096, 128 + u / 64 % 64, 128 + u % 64] := by unfold unitZ; rw [if_neg (by omega), if_neg (by omega)]

theorem u8_cases {c : Int} (h : Sc c) :
    (0 ≤ c ∧ c ≤ 127 ∧ enc8 c = [c]) ∨ (128 ≤ c ∧ c ≤ 2047 ∧ enc8 c = [192 + c / 64, 128 + c % 64]) ∨
    (2048 ≤ c ∧ (c < 55296 ∨ 57344 ≤ c) ∧ c ≤ 65535 ∧ enc8 c = [224 + c / 4096, 128 + c / 64 % 64, 128 + c % 64]) ∨
    (65536 ≤ c ∧ c ≤ 1114111 ∧ enc8 c = [240 + c / 262144, 128 + c / 4096 % 64, 128 + c / 64 % 64, 128 + c % 64]) := by
  unfold Sc at h
  unfold enc8
  by_cases h1 : c ≤ 127
  · exact .inl ⟨by omega, h1, encodeRuneZ_one (by omega) h1⟩
  by_cases h2 : c ≤ 2047
  · exact .inr (.inl ⟨by omega, h2, encodeRuneZ_two (by omega) h2⟩)
  by_cases h3 : c ≤ 65535
  · exact .inr (.inr (.inl ⟨by omega, by omega, h3, encodeRuneZ_three (by omega)⟩))
  · exact .inr (.inr (.inr ⟨by omega, by omega, encodeRuneZ_four (by omega) (by omega)⟩))

theorem m8_cases {c : Int} (h : Sc c) :
    (1 ≤ c ∧ c ≤ 127 ∧ m8 c = [c]) ∨ ((c = 0 ∨ 128 ≤ c) ∧ c ≤ 2047 ∧ m8 c = [192 + c / 64, 128 + c % 64]) ∨
    (2048 ≤ c ∧ (c < 55296 ∨ 57344 ≤ c) ∧ c ≤ 65535 ∧ m8 c = [224 + c / 4096, 128 + c / 64 % 64, 128 + c % 64]) ∨
    (65536 ≤ c ∧ c ≤ 1114111 ∧ m8 c = [224 + hiU c / 4096, 128 + hiU c / 64 % 64, 128 + hiU c % 64, 224 + loU c / 4096, 128 + loU c / 64 % 64, 128 + loU c % 64]) := by
  unfold Sc at h
  unfold m8
  by_cases h3 : c ≤ 65535
  · rw [if_pos (by omega)]
    by_cases h1 : 1 ≤ c ∧ c ≤ 127
    · exact .inl ⟨h1.1, h1.2, unitZ_one h1.1 h1.2⟩
    by_cases h2 : c ≤ 2047
    · exact .inr (.inl ⟨by omega, h2, unitZ_two (by omega) h2⟩)
    · exact .inr (.inr (.inl ⟨by omega, by omega, h3, unitZ_three (by omega)⟩))
  · rw [if_neg (by omega)]
    refine .inr (.inr (.inr ⟨by omega, by omega, ?_⟩))
    rw [unitZ_three (by unfold hiU; omega), unitZ_three (by unfold loU; omega)]
    rfl

theorem u8_len {c : Int} (h : Sc c) : 1 ≤ (enc8 c).length ∧ (enc8 c).length ≤ 4 := by
  rcases u8_cases h with ⟨_, _, e⟩ | ⟨_, _, e⟩ | ⟨_, _, _, e⟩ | ⟨_, _, e⟩ <;> rw [e] <;> simp
theorem m8_len {c : Int} (h : Sc c) : (enc8 c).length ≤ (m8 c).length ∧ (m8 c).length ≤ 2 * (enc8 c).length := by
  rcases u8_cases h with ⟨_, _, e⟩ | ⟨_, _, e⟩ | ⟨_, _, _, e⟩ | ⟨_, _, e⟩ <;> rcases m8_cases h with ⟨_, _, e'⟩ | ⟨_, _, e'⟩ | ⟨_, _, _, e'⟩ | ⟨_, _, e'⟩ <;> rw [e, e'] <;> first | (exfalso; omega) | simp
theorem m8_le {c : Int} (h : Sc c) : 1 ≤ (m8 c).length ∧ (m8 c).length ≤ 6 := by
  rcases m8_cases h with ⟨_, _, e⟩ | ⟨_, _, e⟩ | ⟨_, _, _, e⟩ | ⟨_, _, e⟩ <;> rw [e] <;> simp

theorem u8_byte {c : Int} : Bytish (enc8 c) := fun z hz => by have := encodeRuneZ_byte c z hz; exact ⟨this.1, by omega⟩
theorem unitZ_byte {u : Int} (h0 : 0 ≤ u) (h1 : u ≤ 65535) : Bytish (unitZ u) := by
  intro z hz
  unfold unitZ at hz
  unfold IsByte
  split at hz
  · simp at hz; omega
  · split at hz <;> simp at hz <;> omega
theorem m8_byte {c : Int} (h : Sc c) : Bytish (m8 c) := by
  unfold Sc at h
  unfold m8
  split
  · exact unitZ_byte (by omega) (by omega)
  · exact (unitZ_byte (by unfold hiU; omega) (by unfold hiU; omega)).append (unitZ_byte (by unfold loU; omega) (by unfold loU; omega))
theorem unitZ_pos {u : Int} (h0 : 0 ≤ u) : ∀ z ∈ unitZ u, z ≠ 0 := by
  intro z hz
  unfold unitZ at hz
  split at hz
  · simp at hz; omega
  · split at hz <;> simp at hz <;> omega
theorem m8_pos {c : Int} (h : Sc c) : ∀ z ∈ m8 c, z ≠ 0 := by
  unfold Sc at h
  intro z hz
  unfold m8 at hz
  split at hz
  · exact unitZ_pos (by omega) z hz
  · rcases List.mem_append.1 hz with hz | hz
    · exact unitZ_pos (by unfold hiU; omega) z hz
    · exact unitZ_pos (by unfold loU; omega) z hz

/-! ### what one list begins with -/
theorem u8_inj {c d : Int} {r r' : List Int} (hc : Sc c) (hd : Sc d) (h : enc8 c ++ r = enc8 d ++ r') : c = d ∧ r = r' := by
  rcases u8_cases hc with ⟨_, _, e⟩ | ⟨_, _, e⟩ | ⟨_, _, _, e⟩ | ⟨_, _, e⟩ <;> rcases u8_cases hd with ⟨_, _, e'⟩ | ⟨_, _, e'⟩ | ⟨_, _, _, e'⟩ | ⟨_, _, e'⟩ <;> rw [e, e'] at h <;> simp only [List.cons_append, List.nil_append, List.cons.injEq] at h <;> first | (exfalso; omega) | exact ⟨by omega, by simp_all⟩
theorem m8_inj {c d : Int} {r r' : List Int} (hc : Sc c) (hd : Sc d) (h : m8 c ++ r = m8 d ++ r') : c = d ∧ r = r' := by
  unfold Sc at hc hd
  rcases m8_cases hc with ⟨_, _, e⟩ | ⟨_, _, e⟩ | ⟨_, _, _, e⟩ | ⟨_, _, e⟩ <;> rcases m8_cases hd with ⟨_, _, e'⟩ | ⟨_, _, e'⟩ | ⟨_, _, _, e'⟩ | ⟨_, _, e'⟩ <;> rw [e, e'] at h <;> simp only [List.cons_append, List.nil_append, List.cons.injEq, hiU, loU] at h <;> first | (exfalso; omega) | exact ⟨by omega, by simp_all⟩

/-- A text's bytes, and its bytes in modified UTF-8. -/
def U8s (cs : List Int) : List Int := cs.flatMap enc8
def M8s (cs : List Int) : List Int := cs.flatMap m8
theorem U8s_nil : U8s [] = [] := rfl
theorem M8s_nil : M8s [] = [] := rfl
theorem U8s_cons (c : Int) (cs : List Int) : U8s (c :: cs) = enc8 c ++ U8s cs := by simp [U8s]
theorem M8s_cons (c : Int) (cs : List Int) : M8s (c :: cs) = m8 c ++ M8s cs := by simp [M8s]
theorem U8s_append (a b : List Int) : U8s (a ++ b) = U8s a ++ U8s b := by simp [U8s]
theorem M8s_append (a b : List Int) : M8s (a ++ b) = M8s a ++ M8s b := by simp [M8s]
theorem AllSc.cons {c : Int} {cs : List Int} (h : AllSc (c :: cs)) : Sc c ∧ AllSc cs := ⟨h c (by simp), fun d hd => h d (by simp [hd])⟩
theorem AllSc.mk {c : Int} {cs : List Int} (h : Sc c) (hs : AllSc cs) : AllSc (c :: cs) := fun d hd => by
  rcases List.mem_cons.1 hd with rfl | hd
  · exact h
  · exact hs d hd
theorem AllSc.nil : AllSc [] := fun _ h => by cases h
theorem AllSc.append {a b : List Int} (ha : AllSc a) (hb : AllSc b) : AllSc (a ++ b) := fun d hd => by
  rcases List.mem_append.1 hd with hd | hd
  · exact ha d hd
  · exact hb d hd
theorem U8s_inj : ∀ {a b : List Int}, AllSc a → AllSc b → U8s a = U8s b → a = b
  | [], [], _, _, _ => rfl
  | [], d :: b, _, hb, h => by
    rw [U8s_nil, U8s_cons] at h
    have := (u8_len hb.cons.1).1
    have e := congrArg List.length h
    simp only [List.length_append, List.length_nil] at e
    omega
  | c :: a, [], ha, _, h => by
    rw [U8s_nil, U8s_cons] at h
    have := (u8_len ha.cons.1).1
    have e := congrArg List.length h
    simp only [List.length_append, List.length_nil] at e
    omega
  | c :: a, d :: b, ha, hb, h => by
    rw [U8s_cons, U8s_cons] at h
    obtain ⟨rfl, h2⟩ := u8_inj ha.cons.1 hb.cons.1 h
    rw [U8s_inj ha.cons.2 hb.cons.2 h2]
theorem M8s_inj : ∀ {a b : List Int}, AllSc a → AllSc b → M8s a = M8s b → a = b
  | [], [], _, _, _ => rfl
  | [], d :: b, _, hb, h => by
    rw [M8s_nil, M8s_cons] at h
    have := (m8_le hb.cons.1).1
    have e := congrArg List.length h
    simp only [List.length_append, List.length_nil] at e
    omega
  | c :: a, [], ha, _, h => by
    rw [M8s_nil, M8s_cons] at h
    have := (m8_le ha.cons.1).1
    have e := congrArg List.length h
    simp only [List.length_append, List.length_nil] at e
    omega
  | c :: a, d :: b, ha, hb, h => by
    rw [M8s_cons, M8s_cons] at h
    obtain ⟨rfl, h2⟩ := m8_inj ha.cons.1 hb.cons.1 h
    rw [M8s_inj ha.cons.2 hb.cons.2 h2]
theorem U8s_byte (cs : List Int) : Bytish (U8s cs) := fun z hz => by
  obtain ⟨c, _, hz⟩ := List.mem_flatMap.1 hz
  exact u8_byte z hz
theorem M8s_byte {cs : List Int} (h : AllSc cs) : Bytish (M8s cs) := fun z hz => by
  obtain ⟨c, hc, hz⟩ := List.mem_flatMap.1 hz
  exact m8_byte (h c hc) z hz
theorem M8s_pos {cs : List Int} (h : AllSc cs) : ∀ z ∈ M8s cs, z ≠ 0 := fun z hz => by
  obtain ⟨c, hc, hz⟩ := List.mem_flatMap.1 hz
  exact m8_pos (h c hc) z hz
theorem M8s_len : ∀ {cs : List Int}, AllSc cs → (U8s cs).length ≤ (M8s cs).length ∧ (M8s cs).length ≤ 2 * (U8s cs).length
  | [], _ => by simp [U8s_nil, M8s_nil]
  | c :: cs, h => by
    rw [U8s_cons, M8s_cons, List.length_append, List.length_append]
    have := M8s_len h.cons.2
    have := m8_len h.cons.1
    omega

/-! ### what a list of bytes says as a text; as modified bytes -/
/-- The code points of a text, if it is right. -/
def IsText (zs : List Int) (cs : List Int) : Prop := AllSc cs ∧ zs = U8s cs
def IsMod (zs : List Int) (cs : List Int) : Prop := AllSc cs ∧ zs = M8s cs
/-- What Encode answers. -/
def Enc (zs ys : List Int) (k : Int) : Prop := (∃ cs, IsText zs cs ∧ ys = M8s cs ∧ k = 0) ∨ ((¬ ∃ cs, IsText zs cs) ∧ ys = [] ∧ k = 20)
/-- What Decode answers. -/
def Dec (zs ys : List Int) (k : Int) : Prop := (∃ cs, IsMod zs cs ∧ ys = U8s cs ∧ k = 0) ∨ ((¬ ∃ cs, IsMod zs cs) ∧ ys = [] ∧ k = 20)
theorem Enc.unique {zs ys ys' : List Int} {k k' : Int} (h : Enc zs ys k) (h' : Enc zs ys' k') : ys = ys' ∧ k = k' := by
  rcases h with ⟨cs, ht, rfl, rfl⟩ | ⟨hn, rfl, rfl⟩ <;> rcases h' with ⟨ds, ht', rfl, rfl⟩ | ⟨hn', rfl, rfl⟩
  · rw [U8s_inj ht.1 ht'.1 (ht.2.symm.trans ht'.2)]; exact ⟨rfl, rfl⟩
  · exact absurd ⟨cs, ht⟩ hn'
  · exact absurd ⟨ds, ht'⟩ hn
  · exact ⟨rfl, rfl⟩
theorem Dec.unique {zs ys ys' : List Int} {k k' : Int} (h : Dec zs ys k) (h' : Dec zs ys' k') : ys = ys' ∧ k = k' := by
  rcases h with ⟨cs, ht, rfl, rfl⟩ | ⟨hn, rfl, rfl⟩ <;> rcases h' with ⟨ds, ht', rfl, rfl⟩ | ⟨hn', rfl, rfl⟩
  · rw [M8s_inj ht.1 ht'.1 (ht.2.symm.trans ht'.2)]; exact ⟨rfl, rfl⟩
  · exact absurd ⟨cs, ht⟩ hn'
  · exact absurd ⟨ds, ht'⟩ hn
  · exact ⟨rfl, rfl⟩
/-- No code point stands at the head: so it is no text. -/
theorem no_text {zs : List Int} (hne : zs ≠ []) (h : ∀ c r, Sc c → zs ≠ enc8 c ++ r) : ¬ ∃ cs, IsText zs cs := by
  rintro ⟨cs, hs, rfl⟩
  cases cs with
  | nil => exact hne rfl
  | cons c cs => exact h c (U8s cs) hs.cons.1 (U8s_cons c cs)
theorem no_mod {zs : List Int} (hne : zs ≠ []) (h : ∀ c r, Sc c → zs ≠ m8 c ++ r) : ¬ ∃ cs, IsMod zs cs := by
  rintro ⟨cs, hs, rfl⟩
  cases cs with
  | nil => exact hne rfl
  | cons c cs => exact h c (M8s cs) hs.cons.1 (M8s_cons c cs)
/-- Behind a code point: a text where the rest is one. -/
theorem text_tail {c : Int} {r : List Int} (hc : Sc c) : (∃ cs, IsText (enc8 c ++ r) cs) ↔ ∃ cs, IsText r cs := by
  constructor
  · rintro ⟨cs, hs, h⟩
    cases cs with
    | nil => have := (u8_len hc).1; have e := congrArg List.length h; simp [U8s_nil] at e; rw [e.1] at this; simp at this
    | cons d cs => rw [U8s_cons] at h; exact ⟨cs, hs.cons.2, (u8_inj hc hs.cons.1 h).2⟩
  · rintro ⟨cs, hs, rfl⟩
    exact ⟨c :: cs, .mk hc hs, (U8s_cons c cs).symm⟩
theorem mod_tail {c : Int} {r : List Int} (hc : Sc c) : (∃ cs, IsMod (m8 c ++ r) cs) ↔ ∃ cs, IsMod r cs := by
  constructor
  · rintro ⟨cs, hs, h⟩
    cases cs with
    | nil => have := (m8_le hc).1; have e := congrArg List.length h; simp [M8s_nil] at e; rw [e.1] at this; simp at this
    | cons d cs => rw [M8s_cons] at h; exact ⟨cs, hs.cons.2, (m8_inj hc hs.cons.1 h).2⟩
  · rintro ⟨cs, hs, rfl⟩
    exact ⟨c :: cs, .mk hc hs, (M8s_cons c cs).symm⟩
theorem text_tails {cs : List Int} (hcs : AllSc cs) {r : List Int} : (∃ ds, IsText (U8s cs ++ r) ds) ↔ ∃ ds, IsText r ds := by
  induction cs with
  | nil => rfl
  | cons c cs ih => rw [U8s_cons, List.append_assoc, text_tail hcs.cons.1]; exact ih hcs.cons.2
theorem mod_tails {cs : List Int} (hcs : AllSc cs) {r : List Int} : (∃ ds, IsMod (M8s cs ++ r) ds) ↔ ∃ ds, IsMod r ds := by
  induction cs with
  | nil => rfl
  | cons c cs ih => rw [M8s_cons, List.append_assoc, mod_tail hcs.cons.1]; exact ih hcs.cons.2

/-! ### strings as lists of numbers -/
def numsL (l : List UInt8) : List Int := l.map fun b => (b.toNat : Int)
def nums (s : ByteArray) : List Int := numsL s.data.toList
theorem numsL_byte (l : List UInt8) : Bytish (numsL l) := fun z hz => by
  obtain ⟨b, _, rfl⟩ := List.mem_map.1 hz
  have := b.toNat_lt
  exact ⟨by omega, by omega⟩
theorem nums_byte (s : ByteArray) : Bytish (nums s) := numsL_byte _
theorem nums_len (s : ByteArray) : (nums s).length = s.size := by simp [nums, numsL]
theorem nums_get (s : ByteArray) (i : Nat) : (nums s).getD i 0 = ((s.get! i).toNat : Int) := by
  rw [← getD_get!']
  simp only [nums, numsL, List.getD, List.getElem?_map]
  cases s.data.toList[i]? <;> rfl
theorem numsL_getD (l : List UInt8) (i : Nat) : (numsL l).getD i 0 = ((l.getD i 0).toNat : Int) := by
  simp only [numsL, List.getD, List.getElem?_map]
  cases l[i]? <;> rfl
theorem str_nums (s : ByteArray) : strOfNums (nums s) = s := by
  have e : (strOfNums (nums s)).data.toList = s.data.toList := by
    rw [strOfNums_data, nums, numsL, List.map_map]
    conv => rhs; rw [← List.map_id s.data.toList]
    apply List.map_congr_left
    intro b _
    simp
  have e2 : (strOfNums (nums s)).data = s.data := Array.toList_inj.1 e
  cases h : strOfNums (nums s); cases s
  rw [h] at e2
  simp at e2
  rw [e2]
theorem nums_str {zs : List Int} (h : Bytish zs) : nums (strOfNums zs) = zs := by
  rw [nums, numsL, strOfNums_data, List.map_map]
  conv => rhs; rw [← List.map_id zs]
  apply List.map_congr_left
  intro z hz
  have := h z hz
  unfold IsByte at this
  simp [Function.comp]
  omega
theorem str_inj {a b : List Int} (ha : Bytish a) (hb : Bytish b) (h : strOfNums a = strOfNums b) : a = b := by
  rw [← nums_str ha, h, nums_str hb]

/-! ### the model's own decoder -/
theorem encodeRune_nums (c : Int) : numsL (Lib.encodeRune c) = enc8 c := by
  unfold numsL Lib.encodeRune enc8
  rw [List.map_map]
  conv => rhs; rw [← List.map_id (Lib.encodeRuneZ c)]
  apply List.map_congr_left
  intro z hz
  have := encodeRuneZ_byte c z hz
  simp [Function.comp]
  omega

set_option maxHeartbeats 2000000 in
/-- Of what begins with a right code point, the decoder reads just that. -/
theorem dec_head {l : List UInt8} {c : Int} {r : List Int} (hc : Sc c) (h : numsL l = enc8 c ++ r) : decodeL l = (c.toNat, (enc8 c).length) := by
  have hk : ∀ k, ((l.getD k 0).toNat : Int) = (enc8 c ++ r).getD k 0 := fun k => by rw [← h, numsL_getD]
  have hl : l.length = (enc8 c ++ r).length := by rw [← h]; simp [numsL]
  rw [decodeL_N]
  have k0 := hk 0; have k1 := hk 1; have k2 := hk 2; have k3 := hk 3
  have l0 := (l.getD 0 0).toNat_lt; have l1 := (l.getD 1 0).toNat_lt; have l2 := (l.getD 2 0).toNat_lt; have l3 := (l.getD 3 0).toNat_lt
  generalize (l.getD 0 0).toNat = b0 at *
  generalize (l.getD 1 0).toNat = b1 at *
  generalize (l.getD 2 0).toNat = b2 at *
  generalize (l.getD 3 0).toNat = b3 at *
  generalize l.length = n at *
  clear hk h
  rcases u8_cases hc with ⟨_, _, e⟩ | ⟨_, _, e⟩ | ⟨_, _, _, e⟩ | ⟨_, _, e⟩ <;> rw [e] at k0 k1 k2 k3 hl ⊢ <;> simp at k0 k1 k2 k3 hl ⊢ <;> unfold decodeN
  · rw [if_pos (by omega)]
    exact Prod.ext (by simp only; omega) rfl
  · rw [if_neg (by omega), if_pos (by omega), if_pos (by omega)]
    exact Prod.ext (by simp only; omega) rfl
  · rw [if_neg (by omega), if_neg (by omega), if_pos (by omega), if_pos (by omega)]
    exact Prod.ext (by simp only; omega) rfl
  · rw [if_neg (by omega), if_neg (by omega), if_neg (by omega), if_pos (by omega), if_pos (by omega)]
    exact Prod.ext (by simp only; omega) rfl

theorem dec_sc (l : List UInt8) (hv : ¬ ((decodeL l).1 = 65533 ∧ (decodeL l).2 = 1)) : Sc ((decodeL l).1 : Int) := by
  rw [decodeL_N] at hv ⊢
  have k0 := (l.getD 0 0).toNat_lt
  unfold Sc
  rcases decodeN_shape l.length (l.getD 0 0).toNat (l.getD 1 0).toNat (l.getD 2 0).toNat (l.getD 3 0).toNat with ⟨c, e⟩ | ⟨c1, c2, c3, cv, e⟩ | ⟨c1, c2, c3, c4, cv, cs, e⟩ | ⟨c1, c2, c3, c4, c5, cv, cw, e⟩ | e <;> rw [e] at hv ⊢ <;> simp only at hv ⊢ <;> omega

theorem valid_text : ∀ (n : Nat) (l : List UInt8), l.length ≤ n → (Lib.validD l = true ↔ ∃ cs, IsText (numsL l) cs)
  | 0, l, hn => by
    have : l = [] := List.eq_nil_of_length_eq_zero (by omega)
    subst this
    exact ⟨fun _ => ⟨[], .nil, rfl⟩, fun _ => rfl⟩
  | n + 1, l, hn => by
    by_cases hne : l = []
    · subst hne; exact ⟨fun _ => ⟨[], .nil, rfl⟩, fun _ => rfl⟩
    rw [validD_step l hne]
    by_cases hv : (decodeL l).1 = 65533 ∧ (decodeL l).2 = 1
    · rw [if_pos hv]
      refine ⟨fun h => by simp at h, fun h => ?_⟩
      exfalso
      refine no_text (zs := numsL l) (by intro e; exact hne (by simpa [numsL] using e)) (fun c r hc he => ?_) h
      have := dec_head hc he
      rw [this] at hv
      rcases u8_cases hc with ⟨_, _, e⟩ | ⟨_, _, e⟩ | ⟨_, _, _, e⟩ | ⟨_, _, e⟩ <;> rw [e] at hv <;> simp at hv <;> omega
    · rw [if_neg hv]
      have hw := decodeL_width l
      rw [valid_text n _ (by rw [List.length_drop]; omega)]
      have hs := dec_sc l hv
      have he := encode_decode l hne hv
      have e2 : numsL l = enc8 ((decodeL l).1 : Int) ++ numsL (l.drop (decodeL l).2) := by
        rw [← encodeRune_nums, he]
        simp only [numsL, ← List.map_append, List.take_append_drop]
      rw [e2, text_tail hs]
end Go.Proofs.Ytebeoganblcblaa
