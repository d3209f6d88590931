/- The document's own Text and Holds of a type. No condition but a length that a text can have, and numbers of 64 bits. A descriptor is its type's text, and a type's text is read back. Plain words. -/
import Derived.Test.YtddjdlbmadlefaaGreatDoorMKndBKndE
namespace Go.Proofs.YtddjdlbmadlefaaGreatDoor
open Go.RowKit
set_option linter.unusedVariables false
set_option linter.unusedSimpArgs false

def TypeR (t : TypeV) : Prop := (-9223372036854775808 ≤ t.k ∧ t.k ≤ 9223372036854775807) ∧ (-9223372036854775808 ≤ t.dims ∧ t.dims ≤ 9223372036854775807) ∧ (-9223372036854775808 ≤ t.elem ∧ t.elem ≤ 9223372036854775807) ∧ (-9223372036854775808 ≤ t.at_ ∧ t.at_ ≤ 9223372036854775807) ∧ t.name.size ≤ 140737488351232
/-- The text of a type that is no array. -/
def refB (nm : ByteArray) : ByteArray := ⟨#[76]⟩ ++ nm ++ ⟨#[59]⟩
def baseText (t : TypeV) : ByteArray :=
  if t.k = 1 then (if eqT t ⟨1, ⟨#[]⟩, 0, 0, 0⟩ then ⟨#[73]⟩ else ⟨#[]⟩)
  else if t.k = 2 then (if eqT t ⟨2, ⟨#[]⟩, 0, 0, 0⟩ then ⟨#[74]⟩ else ⟨#[]⟩)
  else if t.k = 8 then (if eqT t ⟨8, ⟨#[]⟩, 0, 0, 0⟩ then ⟨#[86]⟩ else ⟨#[]⟩)
  else if t.k = 4 then (if plainN (nums t.name) && eqT t ⟨4, t.name, 0, 0, 0⟩ then refB t.name else ⟨#[]⟩)
  else ⟨#[]⟩
def preB : Nat → ByteArray → ByteArray
  | 0, s => s
  | n + 1, s => ⟨#[91]⟩ ++ preB n s
def badArr (t : TypeV) : Bool := (decide (t.dims < 1) || decide (4 < t.dims)) || (t.at_ != 0 || (t.elem != 1 && (t.elem != 2 && t.elem != 4)))
def textZ8 (t : TypeV) : ByteArray :=
  if t.k = 5 then (if badArr t then ⟨#[]⟩ else let s := baseText ⟨t.elem, t.name, 0, 0, 0⟩; if s = ⟨#[]⟩ then ⟨#[]⟩ else preB t.dims.toNat s) else baseText t
theorem refB_ne (nm : ByteArray) : refB nm ≠ ⟨#[]⟩ := fun e => by
  have h := congrArg ByteArray.size e
  unfold refB at h
  rw [ByteArray.size_append, ByteArray.size_append] at h
  have h1 : (⟨#[76]⟩ : ByteArray).size = 1 := rfl
  have h2 : (⟨#[]⟩ : ByteArray).size = 0 := rfl
  omega
theorem preB_size : ∀ (n : Nat) (s : ByteArray), (preB n s).size = n + s.size
  | 0, s => by simp [preB]
  | n + 1, s => by
    rw [preB, ByteArray.size_append, preB_size n s]
    have : (⟨#[91]⟩ : ByteArray).size = 1 := rfl
    omega
theorem preB_ne (n : Nat) {s : ByteArray} (h : s ≠ ⟨#[]⟩) : preB n s ≠ ⟨#[]⟩ := fun e => by
  have := congrArg ByteArray.size e
  rw [preB_size] at this
  have h0 : s.size ≠ 0 := fun h0 => h (nums_inj (List.eq_nil_of_length_eq_zero (by rw [nums_len]; exact h0)))
  have : (⟨#[]⟩ : ByteArray).size = 0 := rfl
  omega
theorem base_other {t : TypeV} (h1 : t.k ≠ 1) (h2 : t.k ≠ 2) (h3 : t.k ≠ 8) (h4 : t.k ≠ 4) : baseText t = ⟨#[]⟩ := by
  unfold baseText
  rw [if_neg h1, if_neg h2, if_neg h3, if_neg h4]

def holdsZ8 (t : TypeV) : TypeV × Bool := if t.k = 5 then (if 1 < t.dims then (⟨5, t.name, t.dims - 1, t.elem, t.at_⟩, true) else (⟨t.elem, t.name, 0, 0, 0⟩, true)) else (zeroT, false)
theorem box2T {w : World} {c d : Array Value} {s t : TypeId} : ((w.alloc (.cells c s)).alloc (.cells d t)).heap[w.heap.size + 1]? = some (.cells d t (0, 0)) := by
  have h2 := heap_alloc_new (w.alloc (.cells c s)) (.cells d t)
  simpa using h2
theorem arr_bad {t : TypeV} (h5 : t.k = 5) (h : badArr t = true) : textZ8 t = ⟨#[]⟩ := by unfold textZ8; rw [if_pos h5, if_pos h]
theorem arr_none {t : TypeV} (h5 : t.k = 5) (h : badArr t = false) (hs : baseText ⟨t.elem, t.name, 0, 0, 0⟩ = ⟨#[]⟩) : textZ8 t = ⟨#[]⟩ := by unfold textZ8; rw [if_pos h5, h]; simp only [Bool.false_eq_true, if_false]; rw [if_pos hs]
theorem arr_some {t : TypeV} (h5 : t.k = 5) (h : badArr t = false) (hs : baseText ⟨t.elem, t.name, 0, 0, 0⟩ ≠ ⟨#[]⟩) : textZ8 t = preB t.dims.toNat (baseText ⟨t.elem, t.name, 0, 0, 0⟩) := by unfold textZ8; rw [if_pos h5, h]; simp only [Bool.false_eq_true, if_false]; rw [if_neg hs]
theorem base_size (t : TypeV) : (baseText t).size ≤ t.name.size + 2 := by
  have h1 : ∀ c, (⟨#[c]⟩ : ByteArray).size = 1 := fun _ => rfl
  have h0 : (⟨#[]⟩ : ByteArray).size = 0 := rfl
  unfold baseText refB
  repeat' split
  all_goals simp only [ByteArray.size_append, h1, h0]
  all_goals omega
end Go.Proofs.YtddjdlbmadlefaaGreatDoor
namespace Go.Proofs.YtddjdlbmadlefaaGreatDoor
open Go.RowKit
set_option linter.unusedVariables false
set_option linter.unusedSimpArgs false

theorem nums_cat (s t : ByteArray) : nums (s ++ t) = nums s ++ nums t := by simp [nums, numsL]
theorem nums_preB : ∀ (n : Nat) (s : ByteArray), nums (preB n s) = List.replicate n 91 ++ nums s
  | 0, s => rfl
  | n + 1, s => by rw [preB, nums_cat, nums_preB n s]; rfl
theorem nums_refB (nm : ByteArray) : nums (refB nm) = 76 :: (nums nm ++ [59]) := by
  rw [refB, nums_cat, nums_cat]
  rfl
theorem dims_split : ∀ zs : List Int, zs = List.replicate (dimsZ zs) 91 ++ zs.drop (dimsZ zs)
  | [] => rfl
  | c :: r => by
    by_cases h : c = 91
    · rw [dimsZ, if_pos h, List.replicate_succ, List.drop_succ_cons, List.cons_append, ← dims_split r, h]
    · rw [dimsZ, if_neg h]; rfl
theorem dims_head : ∀ (zs : List Int) {c : Int} {r : List Int}, zs.drop (dimsZ zs) = c :: r → c ≠ 91
  | [], c, r, h => by cases h
  | x :: q, c, r, h => by
    by_cases hx : x = 91
    · rw [dimsZ, if_pos hx, List.drop_succ_cons] at h
      exact dims_head q h
    · rw [dimsZ, if_neg hx, List.drop_zero] at h
      cases h
      exact hx
theorem dims_of : ∀ (n : Nat) {c : Int} {r : List Int}, c ≠ 91 → dimsZ (List.replicate n 91 ++ c :: r) = n
  | 0, c, r, h => by
    show dimsZ (c :: r) = 0
    rw [dimsZ, if_neg h]
  | n + 1, c, r, h => by rw [List.replicate_succ, List.cons_append, dimsZ, if_pos rfl, dims_of n h]
theorem semi_split : ∀ r : List Int, semiZ r ≠ r.length → r = r.take (semiZ r) ++ 59 :: r.drop (semiZ r + 1)
  | [], h => absurd rfl h
  | c :: r, h => by
    by_cases hc : c = 59
    · rw [semiZ, if_pos hc, hc]; rfl
    · rw [semiZ, if_neg hc] at h ⊢
      rw [List.take_succ_cons, List.drop_succ_cons, List.cons_append, ← semi_split r (by simpa using h)]
theorem semi_of : ∀ (x : List Int) {r : List Int}, (∀ z ∈ x, z ≠ 59) → semiZ (x ++ 59 :: r) = x.length
  | [], r, _ => by
    show semiZ (59 :: r) = 0
    rw [semiZ, if_pos rfl]
  | c :: q, r, h => by
    rw [List.cons_append, semiZ, if_neg (h c (by simp)), semi_of q (fun z hz => h z (by simp [hz]))]
    rfl
theorem plain_semi {x : List Int} (h : plainN x = true) : ∀ z ∈ x, z ≠ 59 := by
  intro z hz e
  subst e
  unfold plainN at h
  rw [Bool.and_eq_true, List.all_eq_true] at h
  have := h.2 59 hz
  revert this
  decide
/-- The base's text of one, two, a name. -/
def BaseOk (k : Int) (nm : ByteArray) : Prop := (k = 1 ∧ nm = ⟨#[]⟩) ∨ (k = 2 ∧ nm = ⟨#[]⟩) ∨ (k = 4 ∧ plainN (nums nm) = true)
def baseL (k : Int) (nm : ByteArray) : List Int := if k = 1 then [73] else if k = 2 then [74] else 76 :: (nums nm ++ [59])
theorem BaseOk.text {k : Int} {nm : ByteArray} (h : BaseOk k nm) : nums (baseText ⟨k, nm, 0, 0, 0⟩) = baseL k nm := by
  rcases h with ⟨rfl, rfl⟩ | ⟨rfl, rfl⟩ | ⟨rfl, hp⟩
  · rfl
  · rfl
  · show nums (if plainN (nums nm) && eqT ⟨4, nm, 0, 0, 0⟩ ⟨4, nm, 0, 0, 0⟩ then refB nm else ⟨#[]⟩) = _
    rw [hp, eqT_self, Bool.and_self, if_pos rfl, nums_refB]
    rfl
theorem BaseOk.ne {k : Int} {nm : ByteArray} (h : BaseOk k nm) : ∃ c r, baseL k nm = c :: r ∧ c ≠ 91 := by
  rcases h with ⟨rfl, rfl⟩ | ⟨rfl, rfl⟩ | ⟨rfl, hp⟩
  · exact ⟨73, [], rfl, by decide⟩
  · exact ⟨74, [], rfl, by decide⟩
  · exact ⟨76, _, rfl, by decide⟩
theorem BaseOk.some {k : Int} {nm : ByteArray} (h : BaseOk k nm) : baseText ⟨k, nm, 0, 0, 0⟩ ≠ ⟨#[]⟩ := fun e => by
  have h1 := h.text
  obtain ⟨c, r, h2, -⟩ := h.ne
  rw [e, h2] at h1
  cases h1
theorem BaseOk.arr {k : Int} {nm : ByteArray} (h : BaseOk k nm) {d : Nat} (hd : d ≤ 4) : textZ8 (arrT d k nm) = preB d (baseText ⟨k, nm, 0, 0, 0⟩) := by
  unfold arrT
  by_cases h0 : 0 < d
  · rw [if_pos h0]
    have hb : badArr ⟨5, nm, d, k, 0⟩ = false := by
      have : k = 1 ∨ k = 2 ∨ k = 4 := by rcases h with h | h | h <;> simp [h.1]
      unfold badArr
      rcases this with rfl | rfl | rfl <;> simp <;> omega
    rw [arr_some rfl hb h.some]
    rfl
  · rw [if_neg h0]
    obtain rfl : d = 0 := by omega
    have h5 : k ≠ 5 := by rcases h with h | h | h <;> rw [h.1] <;> decide
    unfold textZ8
    rw [if_neg h5]
    rfl
theorem BaseOk.read {k : Int} {nm : ByteArray} (h : BaseOk k nm) {d : Nat} (hd : d ≤ 4) (r : List Int) : baseZ d (baseL k nm ++ r) = Option.some (arrT d k nm, r) := by
  have hd' : ¬ 4 < d := by omega
  rcases h with ⟨rfl, rfl⟩ | ⟨rfl, rfl⟩ | ⟨rfl, hp⟩
  · show baseZ d (73 :: r) = _
    unfold baseZ
    simp only
    rw [if_neg hd', if_pos trivial]
  · show baseZ d (74 :: r) = _
    unfold baseZ
    simp only
    rw [if_neg hd', if_neg (by decide), if_pos trivial]
  · show baseZ d (76 :: (nums nm ++ [59] ++ r)) = _
    have e : nums nm ++ [59] ++ r = nums nm ++ 59 :: r := by simp
    have hs := semi_of (nums nm) (r := r) (plain_semi hp)
    rw [e]
    unfold baseZ
    simp only
    rw [if_neg hd', if_neg (by decide), if_neg (by decide), if_pos trivial, hs, if_neg (by simp), List.take_left', List.drop_append]
    · simp [hp, str_nums, List.drop_eq_nil_of_le]
    · rfl
theorem base_parts {d : Nat} {zs : List Int} {t : TypeV} {r : List Int} (hb : Bytish zs) (h : baseZ d zs = some (t, r)) : d ≤ 4 ∧ ∃ k nm, BaseOk k nm ∧ t = arrT d k nm ∧ zs = baseL k nm ++ r := by
  cases zs with
  | nil => cases h
  | cons c q =>
    unfold baseZ at h
    simp only at h
    by_cases hd : 4 < d
    · rw [if_pos hd] at h; cases h
    rw [if_neg hd] at h
    refine ⟨by omega, ?_⟩
    by_cases h1 : c = 73
    · rw [if_pos h1] at h
      cases h
      exact ⟨1, ⟨#[]⟩, .inl ⟨rfl, rfl⟩, rfl, by rw [h1]; rfl⟩
    rw [if_neg h1] at h
    by_cases h2 : c = 74
    · rw [if_pos h2] at h
      cases h
      exact ⟨2, ⟨#[]⟩, .inr (.inl ⟨rfl, rfl⟩), rfl, by rw [h2]; rfl⟩
    rw [if_neg h2] at h
    by_cases h3 : c = 76
    · rw [if_pos h3] at h
      by_cases h4 : semiZ q = q.length
      · rw [if_pos h4] at h; cases h
      rw [if_neg h4] at h
      cases hp : plainN (q.take (semiZ q)) with
      | false => rw [hp] at h; cases h
      | true =>
        rw [hp] at h
        have hq : Bytish (q.take (semiZ q)) := fun z hz => hb z (List.mem_cons_of_mem _ (List.mem_of_mem_take hz))
        have hn : nums (strOfNums (q.take (semiZ q))) = q.take (semiZ q) := nums_str hq
        have hs := semi_split q h4
        cases h
        refine ⟨4, _, .inr (.inr ⟨rfl, by rw [hn]; exact hp⟩), rfl, ?_⟩
        show c :: q = 76 :: (nums (strOfNums (q.take (semiZ q))) ++ [59] ++ q.drop (semiZ q + 1))
        rw [hn, h3, List.append_assoc]
        congr 1
    · rw [if_neg h3] at h; cases h
/-- What is read is its type's text, and what is left. -/
theorem field_text {zs : List Int} {t : TypeV} {r : List Int} (hb : Bytish zs) (h : fieldZ zs = some (t, r)) : zs = nums (textZ8 t) ++ r ∧ ∃ (d : Nat) (k : Int) (nm : ByteArray), d ≤ 4 ∧ BaseOk k nm ∧ t = arrT d k nm := by
  unfold fieldZ at h
  obtain ⟨hd, k, nm, hk, rfl, hz⟩ := base_parts (fun z hz => hb z (List.mem_of_mem_drop hz)) h
  refine ⟨?_, _, k, nm, hd, hk, rfl⟩
  rw [hk.arr hd, nums_preB, hk.text, List.append_assoc, ← hz]
  exact dims_split zs
/-- A type's text is read back, whatever comes behind it. -/
theorem arr_field {d : Nat} {k : Int} {nm : ByteArray} (hk : BaseOk k nm) (hd : d ≤ 4) (r : List Int) : fieldZ (nums (textZ8 (arrT d k nm)) ++ r) = some (arrT d k nm, r) := by
  rw [hk.arr hd, nums_preB, hk.text]
  obtain ⟨c, q, hq, hc⟩ := hk.ne
  have hdz : dimsZ (List.replicate d 91 ++ baseL k nm ++ r) = d := by
    rw [hq, List.append_assoc, List.cons_append]
    exact dims_of d hc
  unfold fieldZ
  rw [hdz, List.append_assoc, List.drop_left' (by simp)]
  exact hk.read hd r
/-- A type that has a text other than the void one's. -/
theorem text_arr {t : TypeV} (h : textZ8 t ≠ ⟨#[]⟩) (hv : textZ8 t ≠ ⟨#[86]⟩) : ∃ (d : Nat) (k : Int) (nm : ByteArray), d ≤ 4 ∧ BaseOk k nm ∧ t = arrT d k nm := by
  have base : ∀ {u : TypeV}, baseText u ≠ ⟨#[]⟩ → baseText u ≠ ⟨#[86]⟩ → BaseOk u.k u.name ∧ u = ⟨u.k, u.name, 0, 0, 0⟩ := by
    intro u h hv
    by_cases h1 : u.k = 1
    · have e : baseText u = if eqT u ⟨1, ⟨#[]⟩, 0, 0, 0⟩ then ⟨#[73]⟩ else ⟨#[]⟩ := by unfold baseText; rw [if_pos h1]
      cases he : eqT u ⟨1, ⟨#[]⟩, 0, 0, 0⟩ with
      | false => rw [e, he] at h; exact absurd rfl h
      | true =>
        have hu : u = ⟨1, ⟨#[]⟩, 0, 0, 0⟩ := by simpa [eqT] using he
        subst hu
        exact ⟨.inl ⟨rfl, rfl⟩, rfl⟩
    by_cases h2 : u.k = 2
    · have e : baseText u = if eqT u ⟨2, ⟨#[]⟩, 0, 0, 0⟩ then ⟨#[74]⟩ else ⟨#[]⟩ := by unfold baseText; rw [if_neg h1, if_pos h2]
      cases he : eqT u ⟨2, ⟨#[]⟩, 0, 0, 0⟩ with
      | false => rw [e, he] at h; exact absurd rfl h
      | true =>
        have hu : u = ⟨2, ⟨#[]⟩, 0, 0, 0⟩ := by simpa [eqT] using he
        subst hu
        exact ⟨.inr (.inl ⟨rfl, rfl⟩), rfl⟩
    by_cases h3 : u.k = 8
    · have e : baseText u = if eqT u ⟨8, ⟨#[]⟩, 0, 0, 0⟩ then ⟨#[86]⟩ else ⟨#[]⟩ := by unfold baseText; rw [if_neg h1, if_neg h2, if_pos h3]
      cases he : eqT u ⟨8, ⟨#[]⟩, 0, 0, 0⟩ with
      | false => rw [e, he] at h; exact absurd rfl h
      | true => rw [e, he] at hv; exact absurd rfl hv
    by_cases h4 : u.k = 4
    · have e : baseText u = if plainN (nums u.name) && eqT u ⟨4, u.name, 0, 0, 0⟩ then refB u.name else ⟨#[]⟩ := by unfold baseText; rw [if_neg h1, if_neg h2, if_neg h3, if_pos h4]
      cases he : (plainN (nums u.name) && eqT u ⟨4, u.name, 0, 0, 0⟩) with
      | false => rw [e, he] at h; exact absurd rfl h
      | true =>
        rw [Bool.and_eq_true] at he
        have hu : u = ⟨4, u.name, 0, 0, 0⟩ := by simpa [eqT] using he.2
        exact ⟨.inr (.inr ⟨h4, he.1⟩), by rw [h4]; exact hu⟩
    · exact absurd (base_other h1 h2 h3 h4) h
  by_cases h5 : t.k = 5
  · cases hb : badArr t with
    | true => exact absurd (arr_bad h5 hb) h
    | false =>
      by_cases hs : baseText ⟨t.elem, t.name, 0, 0, 0⟩ = ⟨#[]⟩
      · exact absurd (arr_none h5 hb hs) h
      · obtain ⟨tk, nm, d, el, at_⟩ := t
        simp only at h5 hs
        subst h5
        simp only [badArr, Bool.or_eq_false_iff, decide_eq_false_iff_not, Bool.and_eq_false_iff, bne_eq_false_iff_eq] at hb
        obtain ⟨⟨hd1, hd2⟩, rfl, hel⟩ := hb
        have hne : el ≠ 8 := by omega
        have hv2 : baseText ⟨el, nm, 0, 0, 0⟩ ≠ ⟨#[86]⟩ := by
          rcases hel with rfl | rfl | rfl
          · unfold baseText; rw [if_pos rfl]; split <;> decide
          · unfold baseText; rw [if_neg (by simp only; decide), if_pos rfl]; split <;> decide
          · unfold baseText
            rw [if_neg (by simp only; decide), if_neg (by simp only; decide), if_neg (by simp only; decide), if_pos rfl]
            split
            · intro e
              have := congrArg nums e
              rw [nums_refB] at this
              cases this
            · decide
        refine ⟨d.toNat, el, nm, by omega, (base hs hv2).1, ?_⟩
        unfold arrT
        rw [if_pos (by omega), Int.toNat_of_nonneg (by omega)]
  · have e : textZ8 t = baseText t := by unfold textZ8; rw [if_neg h5]
    rw [e] at h hv
    obtain ⟨h1, h2⟩ := base h hv
    exact ⟨0, t.k, t.name, by omega, h1, h2⟩
theorem text_field {t : TypeV} (h : textZ8 t ≠ ⟨#[]⟩) (hv : textZ8 t ≠ ⟨#[86]⟩) (r : List Int) : fieldZ (nums (textZ8 t) ++ r) = some (t, r) := by
  obtain ⟨d, k, nm, hd, hk, rfl⟩ := text_arr h hv
  exact arr_field hk hd r
/-- There and back, whole texts. -/
theorem one_text {s : ByteArray} {t : TypeV} (h : oneZ8 (nums s) = some t) : textZ8 t = s := by
  unfold oneZ8 at h
  cases hf : fieldZ (nums s) with
  | none => rw [hf] at h; cases h
  | some q =>
    obtain ⟨u, r⟩ := q
    rw [hf] at h
    cases r with
    | cons c r => cases h
    | nil =>
      cases h
      obtain ⟨h1, -⟩ := field_text (nums_byte s) hf
      rw [List.append_nil] at h1
      exact (nums_inj h1).symm
theorem text_one {t : TypeV} (h : textZ8 t ≠ ⟨#[]⟩) (hv : textZ8 t ≠ ⟨#[86]⟩) : oneZ8 (nums (textZ8 t)) = some t := by
  have := text_field h hv []
  rw [List.append_nil] at this
  unfold oneZ8
  rw [this]
/-- A whole descriptor ahead of anything. -/
theorem one_field {s : ByteArray} {t : TypeV} (h : oneZ8 (nums s) = some t) (r : List Int) : fieldZ (nums s ++ r) = some (t, r) := by
  unfold oneZ8 at h
  cases hf : fieldZ (nums s) with
  | none => rw [hf] at h; cases h
  | some q =>
    obtain ⟨u, x⟩ := q
    rw [hf] at h
    cases x with
    | cons c x => cases h
    | nil =>
      cases h
      obtain ⟨h1, d, k, nm, hd, hk, rfl⟩ := field_text (nums_byte s) hf
      rw [List.append_nil] at h1
      rw [h1]
      exact arr_field hk hd r
end Go.Proofs.YtddjdlbmadlefaaGreatDoor
