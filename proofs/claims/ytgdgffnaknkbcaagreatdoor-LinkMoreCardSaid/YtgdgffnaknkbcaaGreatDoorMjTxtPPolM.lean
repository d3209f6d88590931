import Derived.Test.YtgdgffnaknkbcaaGreatDoorMjSep
import Derived.Lib.MapLaws
import Derived.Lib.ValidLaws
import Derived.Laws.BytesArg
import Derived.Test.YtgdgffnaknkbcaaGreatDoorRows
import Derived.WalkKit
import Derived.Deep.QuietTactic
import Derived.BigQuiet
namespace Go.Proofs.YtgdgffnaknkbcaaGreatDoor
open Go.Lib
set_option linter.unusedVariables false
def Sc (c : Int) : Prop := (0 ≤ c ∧ c < 55296) ∨ (57344 ≤ c ∧ c ≤ 1114111)
def AllSc (cs : List Int) : Prop := ∀ c ∈ cs, Sc c
def enc8 (c : Int) : List Int := Lib.encodeRuneZ c
def unitZ (u : Int) : List Int := if 1 ≤ u ∧ u ≤ 127 then [u] else if u ≤ 2047 then [192 + u / 64, 128 + u % 64] else [224 + u / 4096, 128 + u / 64 % 64, 128 + u % 64]
def hiU (c : Int) : Int := 55296 + (c - 65536) / 1024
def loU (c : Int) : Int := 56320 + (c - 65536) % 1024
def m8 (c : Int) : List Int := if c < 65536 then unitZ c else unitZ (hiU c) ++ unitZ (loU c)
theorem unitZ_one {u : Int} (h0 : 1 ≤ u) (h1 : u ≤ 127) : unitZ u = [u] := by unfold unitZ; rw [if_pos ⟨h0, h1⟩]
theorem unitZ_two {u : Int} (h : u = 0 ∨ 128 ≤ u) (h1 : u ≤ 2047) : unitZ u = [192 + u / 64, 128 + u % 64] := by unfold unitZ; rw [if_neg (by omega), if_pos h1]
theorem unitZ_three {u : Int} (h : 2048 ≤ u) : unitZ u = [224 + u / 4096, 128 + u / 64 % 64, 128 + u % 64] := by unfold unitZ; rw [if_neg (by omega), if_neg (by omega)]
theorem u8_cases {c : Int} (h : Sc c) :
    (0 ≤ c ∧ c ≤ 127 ∧ enc8 c = [c]) ∨ (128 ≤ c ∧ c ≤ 2047 ∧ enc8 c = [192 + c / 64, 128 + c % 64]) ∨
    (2048 ≤ c ∧ (c < 55296 ∨ 57344 ≤ c) ∧ c ≤ 65535 ∧ enc8 c = [224 + c / 4096, 128 + c / 64 % 64, 128 + c % 64]) ∨
    (65536 ≤ c ∧ c ≤ 1114111 ∧ enc8 c = [240 + c / 262144, 128 + c / 4096 % 64, 128 + c / 64 % 64, 128 + c % 64]) := by
  unfold Sc at h
  unfold enc8
  by_cases h1 : c ≤ 127
  · exact .inl ⟨by omega, h1, encodeRuneZ_one (by omega) h1⟩
  by_cases h2 : c ≤ 2047
  · exact .inr (.inl ⟨by omega, h2, encodeRuneZ_two (by omega) h2⟩)
  by_cases h3 : c ≤ 65535
  · exact .inr (.inr (.inl ⟨by omega, by omega, h3, encodeRuneZ_three (by omega)⟩))
  · exact .inr (.inr (.inr ⟨by omega, by omega, encodeRuneZ_four (by omega) (by omega)⟩))
theorem m8_cases {c : Int} (h : Sc c) :
    (1 ≤ c ∧ c ≤ 127 ∧ m8 c = [c]) ∨ ((c = 0 ∨ 128 ≤ c) ∧ c ≤ 2047 ∧ m8 c = [192 + c / 64, 128 + c % 64]) ∨
    (2048 ≤ c ∧ (c < 55296 ∨ 57344 ≤ c) ∧ c ≤ 65535 ∧ m8 c = [224 + c / 4096, 128 + c / 64 % 64, 128 + c % 64]) ∨
    (65536 ≤ c ∧ c ≤ 1114111 ∧ m8 c = [224 + hiU c / 4096, 128 + hiU c / 64 % 64, 128 + hiU c % 64, 224 + loU c / 4096, 128 + loU c / 64 % 64, 128 + loU c % 64]) := by
  unfold Sc at h
  unfold m8
  by_cases h3 : c ≤ 65535
  · rw [if_pos (by omega)]
    by_cases h1 : 1 ≤ c ∧ c ≤ 127
    · exact .inl ⟨h1.1, h1.2, unitZ_one h1.1 h1.2⟩
    by_cases h2 : c ≤ 2047
    · exact .inr (.inl ⟨by omega, h2, unitZ_two (by omega) h2⟩)
    · exact .inr (.inr (.inl ⟨by omega, by omega, h3, unitZ_three (by omega)⟩))
  · rw [if_neg (by omega)]
    refine .inr (.inr (.inr ⟨by omega, by omega, ?_⟩))
    rw [unitZ_three (by unfold hiU; omega), unitZ_three (by unfold loU; omega)]
    rfl
theorem u8_len {c : Int} (h : Sc c) : 1 ≤ (enc8 c).length ∧ (enc8 c).length ≤ 4 := by
  rcases u8_cases h with ⟨_, _, e⟩ | ⟨_, _, e⟩ | ⟨_, _, _, e⟩ | ⟨_, _, e⟩ <;> rw [e] <;> simp
theorem m8_len {c : Int} (h : Sc c) : (enc8 c).length ≤ (m8 c).length ∧ (m8 c).length ≤ 2 * (enc8 c).length := by
  rcases u8_cases h with ⟨_, _, e⟩ | ⟨_, _, e⟩ | ⟨_, _, _, e⟩ | ⟨_, _, e⟩ <;> rcases m8_cases h with ⟨_, _, e'⟩ | ⟨_, _, e'⟩ | ⟨_, _, _, e'⟩ | ⟨_, _, e'⟩ <;> rw [e, e'] <;> first | (exfalso; omega) | simp
theorem m8_le {c : Int} (h : Sc c) : 1 ≤ (m8 c).length ∧ (m8 c).length ≤ 6 := by
  rcases m8_cases h with ⟨_, _, e⟩ | ⟨_, _, e⟩ | ⟨_, _, _, e⟩ | ⟨_, _, e⟩ <;> rw [e] <;> simp
theorem u8_inj {c d : Int} {r r' : List Int} (hc : Sc c) (hd : Sc d) (h : enc8 c ++ r = enc8 d ++ r') : c = d ∧ r = r' := by
  rcases u8_cases hc with ⟨_, _, e⟩ | ⟨_, _, e⟩ | ⟨_, _, _, e⟩ | ⟨_, _, e⟩ <;> rcases u8_cases hd with ⟨_, _, e'⟩ | ⟨_, _, e'⟩ | ⟨_, _, _, e'⟩ | ⟨_, _, e'⟩ <;> rw [e, e'] at h <;> simp only [List.cons_append, List.nil_append, List.cons.injEq] at h <;> first | (exfalso; omega) | exact ⟨by omega, by simp_all⟩
theorem m8_inj {c d : Int} {r r' : List Int} (hc : Sc c) (hd : Sc d) (h : m8 c ++ r = m8 d ++ r') : c = d ∧ r = r' := by
  unfold Sc at hc hd
  rcases m8_cases hc with ⟨_, _, e⟩ | ⟨_, _, e⟩ | ⟨_, _, _, e⟩ | ⟨_, _, e⟩ <;> rcases m8_cases hd with ⟨_, _, e'⟩ | ⟨_, _, e'⟩ | ⟨_, _, _, e'⟩ | ⟨_, _, e'⟩ <;> rw [e, e'] at h <;> simp only [List.cons_append, List.nil_append, List.cons.injEq, hiU, loU] at h <;> first | (exfalso; omega) | exact ⟨by omega, by simp_all⟩
def U8s (cs : List Int) : List Int := cs.flatMap enc8
def M8s (cs : List Int) : List Int := cs.flatMap m8
theorem U8s_nil : U8s [] = [] := rfl
theorem M8s_nil : M8s [] = [] := rfl
theorem U8s_cons (c : Int) (cs : List Int) : U8s (c :: cs) = enc8 c ++ U8s cs := by simp [U8s]
theorem M8s_cons (c : Int) (cs : List Int) : M8s (c :: cs) = m8 c ++ M8s cs := by simp [M8s]
theorem U8s_append (a b : List Int) : U8s (a ++ b) = U8s a ++ U8s b := by simp [U8s]
theorem M8s_append (a b : List Int) : M8s (a ++ b) = M8s a ++ M8s b := by simp [M8s]
theorem AllSc.cons {c : Int} {cs : List Int} (h : AllSc (c :: cs)) : Sc c ∧ AllSc cs := ⟨h c (by simp), fun d hd => h d (by simp [hd])⟩
theorem AllSc.mk {c : Int} {cs : List Int} (h : Sc c) (hs : AllSc cs) : AllSc (c :: cs) := fun d hd => by
  rcases List.mem_cons.1 hd with rfl | hd
  · exact h
  · exact hs d hd
theorem AllSc.nil : AllSc [] := fun _ h => by cases h
theorem AllSc.append {a b : List Int} (ha : AllSc a) (hb : AllSc b) : AllSc (a ++ b) := fun d hd => by
  rcases List.mem_append.1 hd with hd | hd
  · exact ha d hd
  · exact hb d hd
theorem U8s_inj : ∀ {a b : List Int}, AllSc a → AllSc b → U8s a = U8s b → a = b
  | [], [], _, _, _ => rfl
  | [], d :: b, _, hb, h => by
    rw [U8s_nil, U8s_cons] at h
    have := (u8_len hb.cons.1).1
    have e := congrArg List.length h
    simp only [List.length_append, List.length_nil] at e
    omega
  | c :: a, [], ha, _, h => by
    rw [U8s_nil, U8s_cons] at h
    have := (u8_len ha.cons.1).1
    have e := congrArg List.length h
    simp only [List.length_append, List.length_nil] at e
    omega
  | c :: a, d :: b, ha, hb, h => by
    rw [U8s_cons, U8s_cons] at h
    obtain ⟨rfl, h2⟩ := u8_inj ha.cons.1 hb.cons.1 h
    rw [U8s_inj ha.cons.2 hb.cons.2 h2]
theorem M8s_inj : ∀ {a b : List Int}, AllSc a → AllSc b → M8s a = M8s b → a = b
  | [], [], _, _, _ => rfl
  | [], d :: b, _, hb, h => by
    rw [M8s_nil, M8s_cons] at h
    have := (m8_le hb.cons.1).1
    have e := congrArg List.length h
    simp only [List.length_append, List.length_nil] at e
    omega
  | c :: a, [], ha, _, h => by
    rw [M8s_nil, M8s_cons] at h
    have := (m8_le ha.cons.1).1
    have e := congrArg List.length h
    simp only [List.length_append, List.length_nil] at e
    omega
  | c :: a, d :: b, ha, hb, h => by
    rw [M8s_cons, M8s_cons] at h
    obtain ⟨rfl, h2⟩ := m8_inj ha.cons.1 hb.cons.1 h
    rw [M8s_inj ha.cons.2 hb.cons.2 h2]
theorem M8s_len : ∀ {cs : List Int}, AllSc cs → (U8s cs).length ≤ (M8s cs).length ∧ (M8s cs).length ≤ 2 * (U8s cs).length
  | [], _ => by simp [U8s_nil, M8s_nil]
  | c :: cs, h => by
    rw [U8s_cons, M8s_cons, List.length_append, List.length_append]
    have := M8s_len h.cons.2
    have := m8_len h.cons.1
    omega
def IsText (zs : List Int) (cs : List Int) : Prop := AllSc cs ∧ zs = U8s cs
def IsMod (zs : List Int) (cs : List Int) : Prop := AllSc cs ∧ zs = M8s cs
def Enc (zs ys : List Int) (k : Int) : Prop := (∃ cs, IsText zs cs ∧ ys = M8s cs ∧ k = 0) ∨ ((¬ ∃ cs, IsText zs cs) ∧ ys = [] ∧ k = 20)
def Dec (zs ys : List Int) (k : Int) : Prop := (∃ cs, IsMod zs cs ∧ ys = U8s cs ∧ k = 0) ∨ ((¬ ∃ cs, IsMod zs cs) ∧ ys = [] ∧ k = 20)
theorem Enc.unique {zs ys ys' : List Int} {k k' : Int} (h : Enc zs ys k) (h' : Enc zs ys' k') : ys = ys' ∧ k = k' := by
  rcases h with ⟨cs, ht, rfl, rfl⟩ | ⟨hn, rfl, rfl⟩ <;> rcases h' with ⟨ds, ht', rfl, rfl⟩ | ⟨hn', rfl, rfl⟩
  · rw [U8s_inj ht.1 ht'.1 (ht.2.symm.trans ht'.2)]; exact ⟨rfl, rfl⟩
  · exact absurd ⟨cs, ht⟩ hn'
  · exact absurd ⟨ds, ht'⟩ hn
  · exact ⟨rfl, rfl⟩
theorem Dec.unique {zs ys ys' : List Int} {k k' : Int} (h : Dec zs ys k) (h' : Dec zs ys' k') : ys = ys' ∧ k = k' := by
  rcases h with ⟨cs, ht, rfl, rfl⟩ | ⟨hn, rfl, rfl⟩ <;> rcases h' with ⟨ds, ht', rfl, rfl⟩ | ⟨hn', rfl, rfl⟩
  · rw [M8s_inj ht.1 ht'.1 (ht.2.symm.trans ht'.2)]; exact ⟨rfl, rfl⟩
  · exact absurd ⟨cs, ht⟩ hn'
  · exact absurd ⟨ds, ht'⟩ hn
  · exact ⟨rfl, rfl⟩
theorem no_text {zs : List Int} (hne : zs ≠ []) (h : ∀ c r, Sc c → zs ≠ enc8 c ++ r) : ¬ ∃ cs, IsText zs cs := by
  rintro ⟨cs, hs, rfl⟩
  cases cs with
  | nil => exact hne rfl
  | cons c cs => exact h c (U8s cs) hs.cons.1 (U8s_cons c cs)
theorem text_tail {c : Int} {r : List Int} (hc : Sc c) : (∃ cs, IsText (enc8 c ++ r) cs) ↔ ∃ cs, IsText r cs := by
  constructor
  · rintro ⟨cs, hs, h⟩
    cases cs with
    | nil => have := (u8_len hc).1; have e := congrArg List.length h; simp [U8s_nil] at e; rw [e.1] at this; simp at this
    | cons d cs => rw [U8s_cons] at h; exact ⟨cs, hs.cons.2, (u8_inj hc hs.cons.1 h).2⟩
  · rintro ⟨cs, hs, rfl⟩
    exact ⟨c :: cs, .mk hc hs, (U8s_cons c cs).symm⟩
def numsL (l : List UInt8) : List Int := l.map fun b => (b.toNat : Int)
def nums (s : ByteArray) : List Int := numsL s.data.toList
theorem nums_len (s : ByteArray) : (nums s).length = s.size := by simp [nums, numsL]
theorem nums_get (s : ByteArray) (i : Nat) : (nums s).getD i 0 = ((s.get! i).toNat : Int) := by
  rw [← getD_get!']
  simp only [nums, numsL, List.getD, List.getElem?_map]
  cases s.data.toList[i]? <;> rfl
theorem numsL_getD (l : List UInt8) (i : Nat) : (numsL l).getD i 0 = ((l.getD i 0).toNat : Int) := by
  simp only [numsL, List.getD, List.getElem?_map]
  cases l[i]? <;> rfl
theorem str_nums (s : ByteArray) : strOfNums (nums s) = s := by
  have e : (strOfNums (nums s)).data.toList = s.data.toList := by
    rw [strOfNums_data, nums, numsL, List.map_map]
    conv => rhs; rw [← List.map_id s.data.toList]
    apply List.map_congr_left
    intro b _
    simp
  have e2 : (strOfNums (nums s)).data = s.data := Array.toList_inj.1 e
  cases h : strOfNums (nums s); cases s
  rw [h] at e2
  simp at e2
  rw [e2]
theorem encodeRune_nums (c : Int) : numsL (Lib.encodeRune c) = enc8 c := by
  unfold numsL Lib.encodeRune enc8
  rw [List.map_map]
  conv => rhs; rw [← List.map_id (Lib.encodeRuneZ c)]
  apply List.map_congr_left
  intro z hz
  have := encodeRuneZ_byte c z hz
  simp [Function.comp]
  omega
set_option maxHeartbeats 2000000 in
theorem dec_head {l : List UInt8} {c : Int} {r : List Int} (hc : Sc c) (h : numsL l = enc8 c ++ r) : decodeL l = (c.toNat, (enc8 c).length) := by
  have hk : ∀ k, ((l.getD k 0).toNat : Int) = (enc8 c ++ r).getD k 0 := fun k => by rw [← h, numsL_getD]
  have hl : l.length = (enc8 c ++ r).length := by rw [← h]; simp [numsL]
  rw [decodeL_N]
  have k0 := hk 0; have k1 := hk 1; have k2 := hk 2; have k3 := hk 3
  have l0 := (l.getD 0 0).toNat_lt; have l1 := (l.getD 1 0).toNat_lt; have l2 := (l.getD 2 0).toNat_lt; have l3 := (l.getD 3 0).toNat_lt
  generalize (l.getD 0 0).toNat = b0 at *
  generalize (l.getD 1 0).toNat = b1 at *
  generalize (l.getD 2 0).toNat = b2 at *
  generalize (l.getD 3 0).toNat = b3 at *
  generalize l.length = n at *
  clear hk h
  rcases u8_cases hc with ⟨_, _, e⟩ | ⟨_, _, e⟩ | ⟨_, _, _, e⟩ | ⟨_, _, e⟩ <;> rw [e] at k0 k1 k2 k3 hl ⊢ <;> simp at k0 k1 k2 k3 hl ⊢ <;> unfold decodeN
  · rw [if_pos (by omega)]
    exact Prod.ext (by simp only; omega) rfl
  · rw [if_neg (by omega), if_pos (by omega), if_pos (by omega)]
    exact Prod.ext (by simp only; omega) rfl
  · rw [if_neg (by omega), if_neg (by omega), if_pos (by omega), if_pos (by omega)]
    exact Prod.ext (by simp only; omega) rfl
  · rw [if_neg (by omega), if_neg (by omega), if_neg (by omega), if_pos (by omega), if_pos (by omega)]
    exact Prod.ext (by simp only; omega) rfl
theorem dec_sc (l : List UInt8) (hv : ¬ ((decodeL l).1 = 65533 ∧ (decodeL l).2 = 1)) : Sc ((decodeL l).1 : Int) := by
  rw [decodeL_N] at hv ⊢
  have k0 := (l.getD 0 0).toNat_lt
  unfold Sc
  rcases decodeN_shape l.length (l.getD 0 0).toNat (l.getD 1 0).toNat (l.getD 2 0).toNat (l.getD 3 0).toNat with ⟨c, e⟩ | ⟨c1, c2, c3, cv, e⟩ | ⟨c1, c2, c3, c4, cv, cs, e⟩ | ⟨c1, c2, c3, c4, c5, cv, cw, e⟩ | e <;> rw [e] at hv ⊢ <;> simp only at hv ⊢ <;> omega
theorem valid_text : ∀ (n : Nat) (l : List UInt8), l.length ≤ n → (Lib.validD l = true ↔ ∃ cs, IsText (numsL l) cs)
  | 0, l, hn => by
    have : l = [] := List.eq_nil_of_length_eq_zero (by omega)
    subst this
    exact ⟨fun _ => ⟨[], .nil, rfl⟩, fun _ => rfl⟩
  | n + 1, l, hn => by
    by_cases hne : l = []
    · subst hne; exact ⟨fun _ => ⟨[], .nil, rfl⟩, fun _ => rfl⟩
    rw [validD_step l hne]
    by_cases hv : (decodeL l).1 = 65533 ∧ (decodeL l).2 = 1
    · rw [if_pos hv]
      refine ⟨fun h => by simp at h, fun h => ?_⟩
      exfalso
      refine no_text (zs := numsL l) (by intro e; exact hne (by simpa [numsL] using e)) (fun c r hc he => ?_) h
      have := dec_head hc he
      rw [this] at hv
      rcases u8_cases hc with ⟨_, _, e⟩ | ⟨_, _, e⟩ | ⟨_, _, _, e⟩ | ⟨_, _, e⟩ <;> rw [e] at hv <;> simp at hv <;> omega
    · rw [if_neg hv]
      have hw := decodeL_width l
      rw [valid_text n _ (by rw [List.length_drop]; omega)]
      have hs := dec_sc l hv
      have he := encode_decode l hne hv
      have e2 : numsL l = enc8 ((decodeL l).1 : Int) ++ numsL (l.drop (decodeL l).2) := by
        rw [← encodeRune_nums, he]
        simp only [numsL, ← List.map_append, List.take_append_drop]
      rw [e2, text_tail hs]
end Go.Proofs.YtgdgffnaknkbcaaGreatDoor
namespace Go.Proofs.YtgdgffnaknkbcaaGreatDoor
open Go.RowKit
theorem info_u8 : (Tryz.prog.info? 5).map (fun i => (i.zero, i.size, i.bytes)) = some (some (.int .u8 0), 1, 1) := by kernel_rfl
theorem cell_blk {w : World} {b : Nat} {c : Array Value} {t : TypeId} {f : Nat × Nat} (h : w.heap[b]? = some (.cells c t f)) (i : Nat) : w.cell? ⟨b, i, none⟩ = c[i]? := by simp [World.cell?, h]
theorem frozen_blk {w : World} {b : Nat} {c : Array Value} {t : TypeId} (h : w.heap[b]? = some (.cells c t (0, 0))) (i : Nat) : w.frozen? ⟨b, i, none⟩ = false := by simp [World.frozen?, h]
theorem slice_of_owns {w : World} {B e size n : Nat} {v : Value} {xs : List Value} (h : w.ownsRow B e size v n xs) : ∃ ao cap, v = .slice ao n cap ∧ n ≤ cap ∧ cap ≤ maxLen := by
  rcases h.2 with ⟨rfl, rfl⟩ | ⟨g, cap, cur, rfl, _, _, h1, h2, _⟩
  · exact ⟨none, 0, rfl, Nat.le_refl _, Nat.zero_le _⟩
  · exact ⟨_, cap, rfl, h1, h2⟩
theorem heap_setCell_at {w : World} {b i : Nat} {c : Array Value} {t : TypeId} {f : Nat × Nat} {u : Value} (h : w.heap[b]? = some (.cells c t f)) : (w.setCell ⟨b, i, none⟩ u).heap[b]? = some (.cells (c.setIfInBounds i u) t f) := by
  simp [World.setCell, Array.getElem?_modify, h]
theorem Src.few {w : World} {t : TypeId} {xs : List Value} (hu : ∀ u ∈ xs, u.oneCell' = true) : Src (w.alloc (.cells xs.toArray t)) 1 (.slice (some ⟨w.heap.size, 0, none⟩) xs.length xs.length) xs.length xs := by
  refine ⟨by simp, hu, _, xs.length, rfl, (fun e => by cases e), fun ad hd j u hj => ?_⟩
  cases hd
  rw [add_lit, Nat.zero_add, cell_blk (heap_alloc_new w _)]
  simpa using hj
def Row (w : World) (B : Nat) (v : Value) (ys : List Int) : Prop := w.ownsRow B 5 1 v ys.length (ys.map (Value.int .u8))
def RowTo (w : World) (B : Nat) (v : Value) (ys : List Int) (v' : Value) (w' : World) : Prop :=
  Row w' B v' ys ∧ Only (fun k => v.ownBlock = some k) w w' ∧ (∀ k, v'.ownBlock = some k → v.ownBlock = some k ∨ w.heap.size ≤ k)
theorem RowTo.of {w wa w1 : World} {B : Nat} {v v' : Value} {ys zs : List Int} (ha : Only (fun _ => False) w wa) (hown : w1.ownsRow B 5 1 v' (ys.length + zs.length) (ys.map (Value.int .u8) ++ zs.map (Value.int .u8))) (hg : wa.grownBy w1 v.ownBlock)
    (hn : ∀ k, v'.ownBlock = some k → v.ownBlock = some k ∨ wa.heap.size ≤ k) : RowTo w B v (ys ++ zs) v' w1 := by
  refine ⟨by unfold Row; rw [List.length_append, List.map_append]; exact hown, (ha.mono (fun _ h _ => h.elim)).grown hg (fun k hk _ => hk), fun k hk => ?_⟩
  rcases hn k hk with h | h
  · exact .inl h
  · exact .inr (Nat.le_trans ha.size h)
def Drawn (w w' : World) : Prop := ∃ nq, w' = w.drewN nq
theorem Drawn.only {S : Nat → Prop} {w w' : World} (h : Drawn w w') : Only S w w' := by
  obtain ⟨n, rfl⟩ := h
  exact (Only.refl _ _).drewN n
theorem Drawn.refl (w : World) : Drawn w w := ⟨0, rfl⟩
theorem Drawn.cell {w w' : World} (h : Drawn w w') (a : Addr) : w'.cell? a = w.cell? a := by obtain ⟨n, rfl⟩ := h; rfl
theorem Drawn.frozen {w w' : World} (h : Drawn w w') (a : Addr) : w'.frozen? a = w.frozen? a := by obtain ⟨n, rfl⟩ := h; rfl
theorem Row.only {S : Nat → Prop} {w w' : World} {B : Nat} {v : Value} {ys : List Int} (h : Row w B v ys) (ho : Only S w w') (hs : ∀ k, v.ownBlock = some k → ¬ S k) : Row w' B v ys := ho.owns h hs
theorem Row.ge {w : World} {B : Nat} {v : Value} {ys : List Int} (h : Row w B v ys) : ∀ k, v.ownBlock = some k → B ≤ k ∧ k < w.heap.size := fun k hk => World.ownsRow.lt h k hk
theorem Row.new {w : World} {xs : List Int} : xs.length ≤ maxLen → Row (w.alloc (.cells (xs.map (Value.int .u8)).toArray 5)) w.heap.size (.slice (some ⟨w.heap.size, 0, none⟩) xs.length xs.length) xs :=
  fun hm => ⟨by simp, .inr ⟨w.heap.size, xs.length, _, rfl, Nat.le_refl _, heap_alloc_new w _, Nat.le_refl _, hm, by simp, by rw [Nat.mul_one, List.take_of_length_le (by simp)]⟩⟩
theorem Row.push {w w2 w3 : World} {v v' : Value} {ys zs : List Int} (hr : Row w2 w.heap.size v ys) (hon : Only (fun _ => False) w w2)
    (hown : w3.ownsRow w.heap.size 5 1 v' (ys.length + zs.length) (ys.map (Value.int .u8) ++ zs.map (Value.int .u8))) (hg : w2.grownBy w3 v.ownBlock) (hn : ∀ k, v'.ownBlock = some k → v.ownBlock = some k ∨ w2.heap.size ≤ k) :
    Row w3 w.heap.size v' (ys ++ zs) ∧ Only (fun _ => False) w w3 := by
  have R := RowTo.of (Only.refl _ w2) hown hg hn
  exact ⟨R.1, hon.trans R.2.1 (fun k hk hl => by have := hr.ge k hk; omega)⟩
theorem Row.bytes {w : World} {B : Nat} {v : Value} {ys : List Int} (h : Row w B v ys) (hz : Bytish ys) : Bytes w v ys := Bytes.of_owns h hz
end Go.Proofs.YtgdgffnaknkbcaaGreatDoor
namespace Go.Proofs.YtgdgffnaknkbcaaGreatDoor
open Go.RowKit
set_option linter.unusedVariables false
set_option linter.unusedSimpArgs false
structure ConstV where
  tag : Int
  text : ByteArray
  n : Int
  a : Int
  b : Int
instance : Inhabited ConstV := ⟨⟨0, ⟨#[]⟩, 0, 0, 0⟩⟩
def I64 (z : Int) : Prop := -9223372036854775808 ≤ z ∧ z ≤ 9223372036854775807
structure ConstAt (w : World) (b o : Nat) (i : Nat) (c : ConstV) : Prop where
  c0 : w.cell? ⟨b, o + i * 5, none⟩ = some (.int .i64 c.tag)
  c1 : w.cell? ⟨b, o + i * 5 + 1, none⟩ = some (.string c.text)
  c2 : w.cell? ⟨b, o + i * 5 + 2, none⟩ = some (.int .i64 c.n)
  c3 : w.cell? ⟨b, o + i * 5 + 3, none⟩ = some (.int .i64 c.a)
  c4 : w.cell? ⟨b, o + i * 5 + 4, none⟩ = some (.int .i64 c.b)
structure ConstR (c : ConstV) : Prop where
  r0 : I64 c.tag
  r2 : I64 c.n
  r3 : I64 c.a
  r4 : I64 c.b
  rt : c.text.size ≤ 140737488351232
def Pool (w : World) (v : Value) (cs : List ConstV) : Prop :=
  ∃ ao cap, v = .slice ao cs.length cap ∧ cs.length ≤ cap ∧ cap ≤ 9223372036854775807 ∧ (ao = none → cap = 0) ∧ (∀ c ∈ cs, ConstR c) ∧
    ∀ x, ao = some x → 0 < cs.length → ∃ b o, x = ⟨b, o, none⟩ ∧ ∀ i, i < cs.length → ConstAt w b o i (cs.getD i default)
theorem ConstAt.only {S : Nat → Prop} {w w' : World} {b o i : Nat} {c : ConstV} (h : ConstAt w b o i c) (ho : Only S w w') (hs : ¬ S b) : ConstAt w' b o i c :=
  ⟨ho.cell h.c0 hs, ho.cell h.c1 hs, ho.cell h.c2 hs, ho.cell h.c3 hs, ho.cell h.c4 hs⟩
theorem Pool.only {S : Nat → Prop} {w w' : World} {v : Value} {cs : List ConstV} (h : Pool w v cs) (ho : Only S w w') (hs : ∀ k, v.ownBlock = some k → ¬ S k) : Pool w' v cs := by
  obtain ⟨ao, cap, rfl, h1, h2, h3, h4, h5⟩ := h
  refine ⟨ao, cap, rfl, h1, h2, h3, h4, fun x hx h0 => ?_⟩
  obtain ⟨b, o, rfl, h6⟩ := h5 x hx h0
  subst hx
  exact ⟨b, o, rfl, fun i hi => (h6 i hi).only ho (hs b rfl)⟩
theorem Pool.at {w : World} {ao : Option Addr} {cap : Nat} {cs : List ConstV} (h : Pool w (.slice ao cs.length cap) cs) {i : Nat} (hi : i < cs.length) : ∃ b o, ao = some ⟨b, o, none⟩ ∧ ConstAt w b o i (cs.getD i default) := by
  obtain ⟨ao', cap', e, h1, h2, h3, h4, h5⟩ := h
  injection e with e1 _ e3
  subst e1 e3
  cases ao with
  | none => have := h3 rfl; omega
  | some x =>
    obtain ⟨b, o, rfl, h6⟩ := h5 x rfl (by omega)
    exact ⟨b, o, rfl, h6 i hi⟩
theorem Pool.range {w : World} {v : Value} {cs : List ConstV} (h : Pool w v cs) {i : Nat} (hi : i < cs.length) : ConstR (cs.getD i default) := by
  obtain ⟨_, _, _, _, _, _, h4, _⟩ := h
  have e : cs.getD i default = cs[i] := by simp [List.getD, hi]
  rw [e]
  exact h4 _ (List.getElem_mem hi)
def isZ (cs : List ConstV) (i tag : Int) : Bool := decide (1 ≤ i) && (decide (i < cs.length) && decide ((cs.getD i.toNat default).tag = tag))
theorem empty_text (x : ByteArray) : (x = ⟨#[]⟩) = (x.toList = []) := by
  apply propext
  constructor
  · intro h; subst h; rw [ByteArray.toList_eq]
  · intro h
    rw [ByteArray.toList_eq] at h
    cases x
    simp at h
    rw [h]
def bareZ (c : ConstV) : Bool :=
  if c.tag = 1 then decide (c.n = 0) && (decide (c.a = 0) && decide (c.b = 0))
  else if c.tag = 3 ∨ c.tag = 5 then decide (c.text = ⟨#[]⟩) && (decide (c.a = 0) && decide (c.b = 0))
  else if c.tag = 7 then decide (c.text = ⟨#[]⟩) && (decide (c.n = 0) && decide (c.b = 0))
  else decide (c.text = ⟨#[]⟩) && decide (c.n = 0)
end Go.Proofs.YtgdgffnaknkbcaaGreatDoor
namespace Go.Proofs.YtgdgffnaknkbcaaGreatDoor
open Go.RowKit
set_option linter.unusedVariables false
set_option linter.unusedSimpArgs false
abbrev noT : ByteArray := ⟨#[]⟩
def textZ (cs : List ConstV) (i : Int) : ByteArray × Bool := if isZ cs i 1 = true then ((cs.getD i.toNat default).text, true) else (noT, false)
def classZ (cs : List ConstV) (i : Int) : ByteArray × Bool := if isZ cs i 7 = true then textZ cs (cs.getD i.toNat default).a else (noT, false)
def refZ (cs : List ConstV) (i : Int) : ByteArray × ByteArray × ByteArray × Bool :=
  if isZ cs i 9 = false ∧ isZ cs i 10 = false then (noT, noT, noT, false)
  else if (classZ cs (cs.getD i.toNat default).a).2 = false ∨ isZ cs (cs.getD i.toNat default).b 12 = false then (noT, noT, noT, false)
  else if (textZ cs (cs.getD (cs.getD i.toNat default).b.toNat default).a).2 = false ∨ (textZ cs (cs.getD (cs.getD i.toNat default).b.toNat default).b).2 = false then (noT, noT, noT, false)
  else ((classZ cs (cs.getD i.toNat default).a).1, (textZ cs (cs.getD (cs.getD i.toNat default).b.toNat default).a).1, (textZ cs (cs.getD (cs.getD i.toNat default).b.toNat default).b).1, true)
theorem isZ_lt {cs : List ConstV} {i tag : Int} (h : isZ cs i tag = true) : ∃ j : Nat, i = (j : Int) ∧ 1 ≤ j ∧ j < cs.length ∧ (cs.getD j default).tag = tag := by
  unfold isZ at h
  simp only [Bool.and_eq_true, decide_eq_true_eq] at h
  obtain ⟨h1, h2, h3⟩ := h
  refine ⟨i.toNat, by omega, by omega, by omega, h3⟩
end Go.Proofs.YtgdgffnaknkbcaaGreatDoor
namespace Go.Proofs.YtgdgffnaknkbcaaGreatDoor
open Go.RowKit
set_option linter.unusedVariables false
set_option linter.unusedSimpArgs false
def atC (cs : List ConstV) (i : Int) : ConstV := if 1 ≤ i ∧ i < cs.length then cs.getD i.toNat default else ⟨0, noT, 0, 0, 0⟩
theorem atC_tag (cs : List ConstV) (i : Int) {tag : Int} (h0 : tag ≠ 0) : isZ cs i tag = decide ((atC cs i).tag = tag) := by
  unfold isZ atC
  by_cases h : 1 ≤ i ∧ i < cs.length
  · rw [if_pos h, decide_eq_true h.1, decide_eq_true h.2]; rfl
  · rw [if_neg h]
    by_cases h1 : 1 ≤ i
    · rw [decide_eq_false (fun hh => h ⟨h1, hh⟩)]; simp; omega
    · rw [decide_eq_false h1]; simp; omega
theorem atC_range (w : World) (v : Value) (cs : List ConstV) (i : Int) (hp : Pool w v cs) : ConstR (atC cs i) := by
  unfold atC
  by_cases h : 1 ≤ i ∧ i < cs.length
  · rw [if_pos h]; exact hp.range (by omega)
  · rw [if_neg h]; exact ⟨by unfold I64; simp, by unfold I64; simp, by unfold I64; simp, by unfold I64; simp, by decide⟩
theorem textZ_at (cs : List ConstV) (i : Int) : textZ cs i = if (atC cs i).tag = 1 then ((atC cs i).text, true) else (noT, false) := by
  unfold textZ
  rw [atC_tag cs i (by decide)]
  by_cases h : (atC cs i).tag = 1
  · rw [if_pos h, if_pos (by simpa using h)]
    have hc : 1 ≤ i ∧ i < cs.length := Classical.byContradiction fun hc => by unfold atC at h; rw [if_neg hc] at h; simp at h
    unfold atC
    rw [if_pos hc]
  · rw [if_neg h, if_neg (by simpa using h)]
theorem classZ_at (cs : List ConstV) (i : Int) : classZ cs i = if (atC cs i).tag = 7 then textZ cs (atC cs i).a else (noT, false) := by
  unfold classZ
  rw [atC_tag cs i (by decide)]
  by_cases h : (atC cs i).tag = 7
  · rw [if_pos h, if_pos (by simpa using h)]
    have hc : 1 ≤ i ∧ i < cs.length := Classical.byContradiction fun hc => by unfold atC at h; rw [if_neg hc] at h; simp at h
    unfold atC
    rw [if_pos hc]
  · rw [if_neg h, if_neg (by simpa using h)]
set_option maxHeartbeats 1000000 in
theorem progAt (v : Value) (cs : List ConstV) (i : Int) (w : World) (hp : Pool w v cs) :
    Calls Tryz.prog 100 #[v, .int .i64 i] w fun e w' => e = .returned (.agg #[.int .i64 (atC cs i).tag, .string (atC cs i).text, .int .i64 (atC cs i).n, .int .i64 (atC cs i).a, .int .i64 (atC cs i).b]) ∧ Only (fun _ => False) w w' := by
  obtain ⟨ao, cap, rfl, h1, h2, h3, h4, h5⟩ := id hp
  by_cases hi : 1 ≤ i ∧ i < cs.length
  · have hA : atC cs i = cs.getD i.toNat default := by unfold atC; rw [if_pos hi]
    obtain ⟨hi1, hi2⟩ := hi
    obtain ⟨j, rfl⟩ := Int.eq_ofNat_of_zero_le (show 0 ≤ i by omega)
    rw [Int.toNat_natCast] at hA
    obtain ⟨b, o, rfl, hc⟩ := Pool.at hp (i := j) (by omega)
    have hc' := hc.only ((Only.refl (fun _ => False) w).alloc (.cells #[.int .i64 0, .string ⟨#[]⟩, .int .i64 0, .int .i64 0, .int .i64 0] 156)) (fun h => h)
    obtain ⟨g0, g1, g2, g3, g4⟩ := hc'
    have hge : ¬ ((cs.length : Int) ≤ (j : Int)) := by omega
    rw [hA]
    clear h3 h4 h5 hp hA hc
    generalize cs.getD j default = c at *
    obtain ⟨t, x, n, a, bb⟩ := c
    simp only at *
    go_enter Tryz.func100, Tryz.ntmps100
    go_wp2
    refine bodyPost_ret (v := .agg #[.int .i64 t, .string x, .int .i64 n, .int .i64 a, .int .i64 bb]) (by simp [results, Tryz.results100, go_sem, g0, g1, g2, g3, g4]) rfl ?_
    refine ⟨rfl, ?_⟩
    repeat (refine Only.setCell ?_ (fun hl => absurd hl (by simp)) _)
    exact (Only.refl _ _).alloc _
  · have hA : atC cs i = ⟨0, noT, 0, 0, 0⟩ := by unfold atC; rw [if_neg hi]
    rw [hA]
    clear h3 h4 h5 hp hA
    by_cases hi1 : i < 1
    · go_enter Tryz.func100, Tryz.ntmps100
      go_wp2
      refine bodyPost_ret (v := .agg #[.int .i64 0, .string noT, .int .i64 0, .int .i64 0, .int .i64 0]) (by simp [results, Tryz.results100, go_sem, noT]) rfl ?_
      refine ⟨rfl, ?_⟩
      repeat (refine Only.setCell ?_ (fun hl => absurd hl (by simp)) _)
      exact (Only.refl _ _).alloc _
    · have hge : (cs.length : Int) ≤ i := by omega
      go_enter Tryz.func100, Tryz.ntmps100
      go_wp2
      refine bodyPost_ret (v := .agg #[.int .i64 0, .string noT, .int .i64 0, .int .i64 0, .int .i64 0]) (by simp [results, Tryz.results100, go_sem, noT]) rfl ?_
      refine ⟨rfl, ?_⟩
      repeat (refine Only.setCell ?_ (fun hl => absurd hl (by simp)) _)
      exact (Only.refl _ _).alloc _
set_option maxHeartbeats 1000000 in
theorem progText (v : Value) (cs : List ConstV) (i : Int) (w : World) (hp : Pool w v cs) :
    Calls Tryz.prog 101 #[v, .int .i64 i] w fun e w' => e = .returned (.tuple #[.string (textZ cs i).1, .bool (textZ cs i).2]) ∧ Only (fun _ => False) w w' := by
  obtain ⟨ao, cap, rfl, _, _, _, _, _⟩ := id hp
  have hZ := textZ_at cs i
  have cA := progAt _ cs i w hp
  have hr := atC_range w _ cs i hp
  rw [hZ]
  clear hp hZ
  generalize atC cs i = c at *
  obtain ⟨t, x, n, a, bb⟩ := c
  obtain ⟨r0, _, _, _, _⟩ := hr
  simp only at *
  unfold I64 at r0
  by_cases h1 : t = 1
  · subst h1
    rw [if_pos rfl]
    go_enter Tryz.func101, Tryz.ntmps101
    go_wp2_with (fail)
    refine cA.mono ?_
    rintro e w1 ⟨rfl, ho⟩
    have HO := Lib.hid ho
    clear ho cA
    go_wp2
    go_ret2
    refine ⟨rfl, ?_⟩
    repeat (refine Only.setCell ?_ (fun hl => absurd hl (by simp)) _)
    exact (HO.out).alloc _
  · rw [if_neg h1]
    have hb : (t == 1) = false := by simpa using h1
    go_enter Tryz.func101, Tryz.ntmps101
    go_wp2_with (fail)
    refine cA.mono ?_
    rintro e w1 ⟨rfl, ho⟩
    have HO := Lib.hid ho
    clear ho cA
    go_wp2
    go_ret2
    refine ⟨rfl, ?_⟩
    repeat (refine Only.setCell ?_ (fun hl => absurd hl (by simp)) _)
    exact (HO.out).alloc _
set_option maxHeartbeats 1000000 in
theorem progClass (v : Value) (cs : List ConstV) (i : Int) (w : World) (hp : Pool w v cs) :
    Calls Tryz.prog 71 #[v, .int .i64 i] w fun e w' => e = .returned (.tuple #[.string (classZ cs i).1, .bool (classZ cs i).2]) ∧ Only (fun _ => False) w w' := by
  obtain ⟨ao, cap, rfl, _, _, _, _, _⟩ := id hp
  have hZ := classZ_at cs i
  have cA := progAt _ cs i w hp
  have hr := atC_range w _ cs i hp
  rw [hZ]
  have Hp := Lib.hid hp
  clear hp hZ
  generalize atC cs i = c at *
  obtain ⟨t, x, n, a, bb⟩ := c
  obtain ⟨r0, _, _, r3, _⟩ := hr
  simp only at *
  unfold I64 at r0 r3
  by_cases h1 : t = 7
  · subst h1
    rw [if_pos rfl]
    go_enter Tryz.func71, Tryz.ntmps71
    go_wp2_with (fail)
    refine cA.mono ?_
    rintro e w1 ⟨rfl, ho⟩
    have hp1 := (Hp.out).only (((ho.alloc (.cells #[.int .i64 7, .string x, .int .i64 n, .int .i64 a, .int .i64 bb] 156)))) (fun _ _ h => h)
    have HP1 := Lib.hid hp1
    have HO := Lib.hid ho
    clear ho cA hp1
    go_wp2_with (fail)
    refine (progText _ cs a _ (by exact HP1.out)).mono ?_
    rintro e w2 ⟨rfl, ho2⟩
    have HO2 := Lib.hid ho2
    clear ho2
    go_wp2
    go_ret2
    exact ⟨rfl, ((HO.out).alloc _).trans HO2.out (fun _ h => h.elim)⟩
  · rw [if_neg h1]
    have hb : (t == 7) = false := by simpa using h1
    go_enter Tryz.func71, Tryz.ntmps71
    go_wp2_with (fail)
    refine cA.mono ?_
    rintro e w1 ⟨rfl, ho⟩
    have HO := Lib.hid ho
    clear ho cA
    go_wp2
    go_ret2
    refine ⟨rfl, ?_⟩
    repeat (refine Only.setCell ?_ (fun hl => absurd hl (by simp)) _)
    exact (HO.out).alloc _
end Go.Proofs.YtgdgffnaknkbcaaGreatDoor
