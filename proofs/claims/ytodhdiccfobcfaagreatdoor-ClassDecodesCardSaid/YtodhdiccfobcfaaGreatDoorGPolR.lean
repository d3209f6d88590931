/- Reading the constants of a pool, as a relation over plain lists: one answer at each place. No condition. Decode of a pool as a relation over plain lists, one answer for each list; rows of constants that are owned. No condition. A pool's bytes, whatever stands behind, are read as the pool. No condition. The document's own read: a constant's bytes behind its tag. No condition. The document's own Decode of a pool. The bound is the form's own reach. -/
import Derived.Test.YtodhdiccfobcfaaGreatDoorPolA
import Derived.Test.YtodhdiccfobcfaaGreatDoorNum
import Derived.Test.YtodhdiccfobcfaaGreatDoorPolC
import Derived.Test.YtodhdiccfobcfaaGreatDoorPolE
import Derived.Test.YtodhdiccfobcfaaGreatDoorRefR
import Derived.Test.YtodhdiccfobcfaaGreatDoorGTxtS
import Derived.WalkKit
namespace Go.Proofs.YtodhdiccfobcfaaGreatDoor
open Go.RowKit
set_option linter.unusedVariables false
set_option linter.unusedSimpArgs false

/-- The number that n bytes at the place k spell. -/
def uAt (zs : List Int) (k n : Nat) : Int := valB ((zs.drop k).take n)
def noText : ByteArray := ⟨#[]⟩
/-- A constant of one number. -/
def NumRd (zs : List Int) (k n : Nat) (mk : Int → ConstV) (c : ConstV) (k' : Nat) (e : Int) : Prop :=
  (zs.length < k + n ∧ e = 3) ∨ (k + n ≤ zs.length ∧ e = 0 ∧ c = mk (uAt zs k n) ∧ k' = k + n)
def PairRd (zs : List Int) (k : Nat) (tag : Int) (c : ConstV) (k' : Nat) (e : Int) : Prop :=
  (zs.length < k + 4 ∧ e = 3) ∨ (k + 4 ≤ zs.length ∧ e = 0 ∧ c = ⟨tag, noText, 0, uAt zs k 2, uAt zs (k + 2) 2⟩ ∧ k' = k + 4)
def TextRd (zs : List Int) (k : Nat) (c : ConstV) (k' : Nat) (e : Int) : Prop :=
  (zs.length < k + 2 ∧ e = 3) ∨ (k + 2 ≤ zs.length ∧ 256 < uAt zs k 2 ∧ e = 20) ∨ (k + 2 ≤ zs.length ∧ uAt zs k 2 ≤ 256 ∧ zs.length < k + 2 + (uAt zs k 2).toNat ∧ e = 3) ∨
  (k + 2 ≤ zs.length ∧ uAt zs k 2 ≤ 256 ∧ k + 2 + (uAt zs k 2).toNat ≤ zs.length ∧ ∃ ys, Dec ((zs.drop (k + 2)).take (uAt zs k 2).toNat) ys e ∧ c = ⟨1, strOfNums ys, 0, 0, 0⟩ ∧ k' = k + 2 + (uAt zs k 2).toNat)
/-- A constant's bytes behind its tag: the constant, the place behind it, the error (with an error the others say nothing). -/
def RdC (zs : List Int) (k : Nat) (tag : Int) (c : ConstV) (k' : Nat) (e : Int) : Prop :=
  if tag = 1 then TextRd zs k c k' e
  else if tag = 3 then NumRd zs k 4 (fun u => ⟨3, noText, sgn 4 u, 0, 0⟩) c k' e
  else if tag = 5 then NumRd zs k 8 (fun u => ⟨5, noText, sgn 8 u, 0, 0⟩) c k' e
  else if tag = 7 then NumRd zs k 2 (fun u => ⟨7, noText, 0, u, 0⟩) c k' e
  else if tag = 9 ∨ tag = 10 ∨ tag = 12 then PairRd zs k tag c k' e
  else e = 40
/-- A constant, its tag with it. -/
def RdOne (zs : List Int) (k : Nat) (c : ConstV) (k' : Nat) (e : Int) : Prop :=
  (zs.length < k + 1 ∧ e = 3) ∨ (k + 1 ≤ zs.length ∧ RdC zs (k + 1) (uAt zs k 1) c k' e)

theorem NumRd.unique {zs : List Int} {k n : Nat} {mk : Int → ConstV} {c c' : ConstV} {k1 k2 : Nat} {e e' : Int} (h : NumRd zs k n mk c k1 e) (h' : NumRd zs k n mk c' k2 e') : e = e' ∧ (e = 0 → c = c' ∧ k1 = k2) := by
  rcases h with ⟨h, rfl⟩ | ⟨h, rfl, rfl, rfl⟩ <;> rcases h' with ⟨h', rfl⟩ | ⟨h', rfl, rfl, rfl⟩
  · exact ⟨rfl, fun h => absurd h (by decide)⟩
  · omega
  · omega
  · exact ⟨rfl, fun _ => ⟨rfl, rfl⟩⟩
theorem PairRd.unique {zs : List Int} {k : Nat} {tag : Int} {c c' : ConstV} {k1 k2 : Nat} {e e' : Int} (h : PairRd zs k tag c k1 e) (h' : PairRd zs k tag c' k2 e') : e = e' ∧ (e = 0 → c = c' ∧ k1 = k2) := by
  rcases h with ⟨h, rfl⟩ | ⟨h, rfl, rfl, rfl⟩ <;> rcases h' with ⟨h', rfl⟩ | ⟨h', rfl, rfl, rfl⟩
  · exact ⟨rfl, fun h => absurd h (by decide)⟩
  · omega
  · omega
  · exact ⟨rfl, fun _ => ⟨rfl, rfl⟩⟩
theorem TextRd.unique {zs : List Int} {k : Nat} {c c' : ConstV} {k1 k2 : Nat} {e e' : Int} (h : TextRd zs k c k1 e) (h' : TextRd zs k c' k2 e') : e = e' ∧ (e = 0 → c = c' ∧ k1 = k2) := by
  rcases h with ⟨h, rfl⟩ | ⟨h, h2, rfl⟩ | ⟨h, h2, h3, rfl⟩ | ⟨h, h2, h3, ys, hd, rfl, rfl⟩ <;> rcases h' with ⟨h', rfl⟩ | ⟨h', h2', rfl⟩ | ⟨h', h2', h3', rfl⟩ | ⟨h', h2', h3', ys', hd', rfl, rfl⟩
  all_goals first
    | exact ⟨rfl, fun h => absurd h (by decide)⟩
    | omega
    | (obtain ⟨rfl, rfl⟩ := Dec.unique hd hd'; exact ⟨rfl, fun _ => ⟨rfl, rfl⟩⟩)
theorem RdC.unique {zs : List Int} {k : Nat} {tag : Int} {c c' : ConstV} {k1 k2 : Nat} {e e' : Int} (h : RdC zs k tag c k1 e) (h' : RdC zs k tag c' k2 e') : e = e' ∧ (e = 0 → c = c' ∧ k1 = k2) := by
  unfold RdC at h h'
  by_cases h1 : tag = 1
  · rw [if_pos h1] at h h'; exact h.unique h'
  rw [if_neg h1] at h h'
  by_cases h3 : tag = 3
  · rw [if_pos h3] at h h'; exact h.unique h'
  rw [if_neg h3] at h h'
  by_cases h5 : tag = 5
  · rw [if_pos h5] at h h'; exact h.unique h'
  rw [if_neg h5] at h h'
  by_cases h7 : tag = 7
  · rw [if_pos h7] at h h'; exact h.unique h'
  rw [if_neg h7] at h h'
  by_cases h9 : tag = 9 ∨ tag = 10 ∨ tag = 12
  · rw [if_pos h9] at h h'; exact h.unique h'
  rw [if_neg h9] at h h'
  subst h h'
  exact ⟨rfl, fun h => absurd h (by decide)⟩
theorem RdOne.unique {zs : List Int} {k : Nat} {c c' : ConstV} {k1 k2 : Nat} {e e' : Int} (h : RdOne zs k c k1 e) (h' : RdOne zs k c' k2 e') : e = e' ∧ (e = 0 → c = c' ∧ k1 = k2) := by
  rcases h with ⟨h, rfl⟩ | ⟨h, hr⟩ <;> rcases h' with ⟨h', rfl⟩ | ⟨h', hr'⟩
  · exact ⟨rfl, fun h => absurd h (by decide)⟩
  · omega
  · omega
  · exact hr.unique hr'

def zeroK : ConstV := ⟨0, noText, 0, 0, 0⟩
/-- So many constants were read, from the place 2 on; the next one begins at k. -/
inductive Reads (zs : List Int) : List ConstV → Nat → Prop
  | start : Reads zs [zeroK] 2
  | more {cs : List ConstV} {k k' : Nat} {c : ConstV} : Reads zs cs k → RdOne zs k c k' 0 → Reads zs (cs ++ [c]) k'
theorem Reads.ne_nil {zs : List Int} {cs : List ConstV} {k : Nat} (h : Reads zs cs k) : 0 < cs.length := by
  cases h with
  | start => simp
  | more _ _ => simp
theorem Reads.unique {zs : List Int} : ∀ {n : Nat} {cs ds : List ConstV} {k l : Nat}, cs.length = n → ds.length = n → Reads zs cs k → Reads zs ds l → cs = ds ∧ k = l
  | 0, cs, ds, k, l, hc, hd, h, h' => by have := h.ne_nil; omega
  | n + 1, cs, ds, k, l, hc, hd, h, h' => by
    cases h with
    | start =>
      cases h' with
      | start => exact ⟨rfl, rfl⟩
      | more h2 _ => have := h2.ne_nil; simp at hd hc; omega
    | more h1 r1 =>
      cases h' with
      | start => have := h1.ne_nil; simp at hd hc; omega
      | more h2 r2 =>
        simp only [List.length_append, List.length_cons, List.length_nil] at hc hd
        obtain ⟨rfl, rfl⟩ := Reads.unique (n := n) (by omega) (by omega) h1 h2
        obtain ⟨_, hu⟩ := r1.unique r2
        obtain ⟨rfl, rfl⟩ := hu rfl
        exact ⟨rfl, rfl⟩
/-- The first ones of what was read were read too. -/
theorem Reads.part {zs : List Int} {cs : List ConstV} {k : Nat} (h : Reads zs cs k) : ∀ {m : Nat}, 0 < m → m < cs.length → ∃ ds l c l', ds.length = m ∧ Reads zs ds l ∧ RdOne zs l c l' 0 := by
  induction h with
  | start => intro m h0 h1; simp at h1; omega
  | @more cs k k' c h1 r1 ih =>
    intro m h0 hm
    simp only [List.length_append, List.length_cons, List.length_nil] at hm
    by_cases e : m < cs.length
    · exact ih h0 e
    · exact ⟨cs, k, c, k', by omega, h1, r1⟩
/-- How it ends: an error at the next constant, or as many as were to be read. -/
def ReadsTo (zs : List Int) (N : Nat) (r : (List ConstV × Nat) ⊕ Int) : Prop :=
  (∃ ds k c k' e, Reads zs ds k ∧ ds.length < N ∧ RdOne zs k c k' e ∧ e ≠ 0 ∧ r = .inr e) ∨ (∃ ds k, Reads zs ds k ∧ ds.length = N ∧ r = .inl (ds, k))
theorem ReadsTo.unique {zs : List Int} {N : Nat} {r r' : (List ConstV × Nat) ⊕ Int} (h : ReadsTo zs N r) (h' : ReadsTo zs N r') : r = r' := by
  rcases h with ⟨ds, k, c, k', e, h1, h2, h3, h4, rfl⟩ | ⟨ds, k, h1, h2, rfl⟩ <;> rcases h' with ⟨ds', l, c', l', e', h1', h2', h3', h4', rfl⟩ | ⟨ds', l, h1', h2', rfl⟩
  · have hlen : ds.length = ds'.length := by
      rcases Nat.lt_trichotomy ds.length ds'.length with hl | hl | hl
      · obtain ⟨es, m, d, m', he, hr, ho⟩ := h1'.part h1.ne_nil hl
        obtain ⟨rfl, rfl⟩ := Reads.unique he rfl hr h1
        exact absurd (ho.unique h3).1.symm h4
      · exact hl
      · obtain ⟨es, m, d, m', he, hr, ho⟩ := h1.part h1'.ne_nil hl
        obtain ⟨rfl, rfl⟩ := Reads.unique he rfl hr h1'
        exact absurd (ho.unique h3').1.symm h4'
    obtain ⟨rfl, rfl⟩ := Reads.unique rfl hlen.symm h1 h1'
    rw [(h3.unique h3').1]
  · obtain ⟨es, m, d, m', he, hr, ho⟩ := h1'.part h1.ne_nil (by omega)
    obtain ⟨rfl, rfl⟩ := Reads.unique he rfl hr h1
    exact absurd (ho.unique h3).1.symm h4
  · obtain ⟨es, m, d, m', he, hr, ho⟩ := h1.part h1'.ne_nil (by omega)
    obtain ⟨rfl, rfl⟩ := Reads.unique he rfl hr h1'
    exact absurd (ho.unique h3').1.symm h4'
  · obtain ⟨rfl, rfl⟩ := Reads.unique h2 h2' h1 h1'
    rfl
end Go.Proofs.YtodhdiccfobcfaaGreatDoor
namespace Go.Proofs.YtodhdiccfobcfaaGreatDoor
open Go.RowKit
set_option linter.unusedVariables false
set_option linter.unusedSimpArgs false

/-- What Decode answers: the constants, how many bytes, the error. -/
def DecP (zs : List Int) (cs : List ConstV) (n e : Int) : Prop :=
  (zs.length < 2 ∧ cs = [] ∧ n = 0 ∧ e = 3) ∨ (2 ≤ zs.length ∧ 1024 < uAt zs 0 2 ∧ cs = [] ∧ n = 0 ∧ e = 2) ∨ (2 ≤ zs.length ∧ uAt zs 0 2 = 0 ∧ cs = [] ∧ n = 0 ∧ e = 40) ∨
  (2 ≤ zs.length ∧ 1 ≤ uAt zs 0 2 ∧ uAt zs 0 2 ≤ 1024 ∧
    ((∃ e0, ReadsTo zs (uAt zs 0 2).toNat (.inr e0) ∧ cs = [] ∧ n = 0 ∧ e = e0) ∨
     (∃ ds k, ReadsTo zs (uAt zs 0 2).toNat (.inl (ds, k)) ∧ ((checkZ ds ≠ 0 ∧ cs = [] ∧ n = 0 ∧ e = checkZ ds) ∨ (checkZ ds = 0 ∧ cs = ds ∧ n = (k : Int) ∧ e = 0)))))
theorem DecP.unique {zs : List Int} {cs cs' : List ConstV} {n n' e e' : Int} (h : DecP zs cs n e) (h' : DecP zs cs' n' e') : cs = cs' ∧ n = n' ∧ e = e' := by
  rcases h with ⟨h1, rfl, rfl, rfl⟩ | ⟨h1, h2, rfl, rfl, rfl⟩ | ⟨h1, h2, rfl, rfl, rfl⟩ | ⟨h1, h2, h3, hr⟩ <;> rcases h' with ⟨h1', rfl, rfl, rfl⟩ | ⟨h1', h2', rfl, rfl, rfl⟩ | ⟨h1', h2', rfl, rfl, rfl⟩ | ⟨h1', h2', h3', hr'⟩
  all_goals first
    | exact ⟨rfl, rfl, rfl⟩
    | omega
    | skip
  rcases hr with ⟨e0, hr, rfl, rfl, rfl⟩ | ⟨ds, k, hr, hc⟩ <;> rcases hr' with ⟨e0', hr', rfl, rfl, rfl⟩ | ⟨ds', k', hr', hc'⟩
  · have := hr.unique hr'
    injection this with this
    exact ⟨rfl, rfl, this⟩
  · have := hr.unique hr'; cases this
  · have := hr.unique hr'; cases this
  · have := hr.unique hr'
    injection this with this
    injection this with h1 h2
    subst h1 h2
    rcases hc with ⟨h4, rfl, rfl, rfl⟩ | ⟨h4, rfl, rfl, rfl⟩ <;> rcases hc' with ⟨h4', rfl, rfl, rfl⟩ | ⟨h4', rfl, rfl, rfl⟩
    · exact ⟨rfl, rfl, rfl⟩
    · exact absurd h4' h4
    · exact absurd h4 h4'
    · exact ⟨rfl, rfl, rfl⟩

/-- What was read fits: its numbers, its texts. -/
def Fits (c : ConstV) : Prop := ConstR c ∧ c.text.size ≤ 256
theorem noText_size : noText.size = 0 := rfl
theorem sgn_fits {n : Nat} (h : n = 4 ∨ n = 8) {u : Int} (h0 : 0 ≤ u) (h1 : u < 256 ^ n) : I64 (sgn n u) := by
  rcases h with rfl | rfl
  all_goals
    unfold I64 sgn
    simp only [Int.reducePow, Nat.reduceMul, Nat.reduceSub] at h1 ⊢
    split <;> omega
theorem uAt_fits {zs : List Int} (hz : Bytish zs) (k n : Nat) (h : k + n ≤ zs.length) : 0 ≤ uAt zs k n ∧ uAt zs k n < 256 ^ n := valB_lt n _ (by simp; omega) ((hz.drop k).take n)
theorem dec_small {zs ys : List Int} {e : Int} (h : Dec zs ys e) (hl : zs.length ≤ 256) : (strOfNums ys).size ≤ 256 := by
  rw [strOfNums_size]
  rcases h with ⟨cs, hm, rfl, _⟩ | ⟨_, rfl, _⟩
  · have := (M8s_len hm.1).1
    rw [hm.2] at hl
    omega
  · simp
theorem I64.small {z : Int} (h0 : -65536 ≤ z) (h1 : z ≤ 65536) : I64 z := ⟨by omega, by omega⟩
theorem fits_of {t n a b : Int} {x : ByteArray} (ht : I64 t) (hn : I64 n) (ha : I64 a) (hb : I64 b) (hx : x.size ≤ 256) : Fits ⟨t, x, n, a, b⟩ := ⟨⟨ht, hn, ha, hb, Nat.le_trans hx (by decide)⟩, hx⟩
theorem zeroK_fits : Fits zeroK := fits_of (I64.small (by decide) (by decide)) (I64.small (by decide) (by decide)) (I64.small (by decide) (by decide)) (I64.small (by decide) (by decide)) (by decide)
theorem RdC.fits {zs : List Int} (hz : Bytish zs) {k k' : Nat} {tag : Int} {c : ConstV} (h : RdC zs k tag c k' 0) : Fits c ∧ k' ≤ zs.length := by
  unfold RdC at h
  by_cases h1 : tag = 1
  · rw [if_pos h1] at h
    rcases h with ⟨_, h⟩ | ⟨_, _, h⟩ | ⟨_, _, _, h⟩ | ⟨ha, hb, hc, ys, hd, rfl, rfl⟩
    · cases h
    · cases h
    · cases h
    · have := dec_small hd (by simp; omega)
      exact ⟨fits_of (I64.small (by decide) (by decide)) (I64.small (by decide) (by decide)) (I64.small (by decide) (by decide)) (I64.small (by decide) (by decide)) this, hc⟩
  rw [if_neg h1] at h
  by_cases h3 : tag = 3
  · rw [if_pos h3] at h
    rcases h with ⟨_, h⟩ | ⟨ha, _, rfl, rfl⟩
    · cases h
    · have := uAt_fits hz k 4 ha
      exact ⟨fits_of (I64.small (by decide) (by decide)) (sgn_fits (.inl rfl) this.1 this.2) (I64.small (by decide) (by decide)) (I64.small (by decide) (by decide)) (by decide), ha⟩
  rw [if_neg h3] at h
  by_cases h5 : tag = 5
  · rw [if_pos h5] at h
    rcases h with ⟨_, h⟩ | ⟨ha, _, rfl, rfl⟩
    · cases h
    · have := uAt_fits hz k 8 ha
      exact ⟨fits_of (I64.small (by decide) (by decide)) (sgn_fits (.inr rfl) this.1 this.2) (I64.small (by decide) (by decide)) (I64.small (by decide) (by decide)) (by decide), ha⟩
  rw [if_neg h5] at h
  by_cases h7 : tag = 7
  · rw [if_pos h7] at h
    rcases h with ⟨_, h⟩ | ⟨ha, _, rfl, rfl⟩
    · cases h
    · have := uAt_fits hz k 2 ha
      simp only [Int.reducePow] at this
      exact ⟨fits_of (I64.small (by decide) (by decide)) (I64.small (by decide) (by decide)) (I64.small (by omega) (by omega)) (I64.small (by decide) (by decide)) (by decide), ha⟩
  rw [if_neg h7] at h
  by_cases h9 : tag = 9 ∨ tag = 10 ∨ tag = 12
  · rw [if_pos h9] at h
    rcases h with ⟨_, h⟩ | ⟨ha, _, rfl, rfl⟩
    · cases h
    · have h1 := uAt_fits hz k 2 (by omega)
      have h2 := uAt_fits hz (k + 2) 2 (by omega)
      simp only [Int.reducePow] at h1 h2
      exact ⟨fits_of (I64.small (by omega) (by omega)) (I64.small (by decide) (by decide)) (I64.small (by omega) (by omega)) (I64.small (by omega) (by omega)) (by decide), ha⟩
  rw [if_neg h9] at h
  cases h
theorem Reads.fits {zs : List Int} (hz : Bytish zs) (h2 : 2 ≤ zs.length) {cs : List ConstV} {k : Nat} (h : Reads zs cs k) : (∀ c ∈ cs, Fits c) ∧ k ≤ zs.length := by
  induction h with
  | start => exact ⟨fun c hc => by simp at hc; subst hc; exact zeroK_fits, h2⟩
  | more _ r ih =>
    rcases r with ⟨_, h⟩ | ⟨_, hr⟩
    · cases h
    · have := hr.fits hz
      refine ⟨fun c hc => ?_, this.2⟩
      rcases List.mem_append.1 hc with hc | hc
      · exact ih.1 c hc
      · simp at hc; subst hc; exact this.1

/-- The cells of a constant; an owned row of constants. -/
def cellsC (c : ConstV) : List Value := [.int .i64 c.tag, .string c.text, .int .i64 c.n, .int .i64 c.a, .int .i64 c.b]
def RowC (w : World) (B : Nat) (v : Value) (cs : List ConstV) : Prop := w.ownsRow B 67 5 v cs.length (cs.flatMap cellsC)
theorem cellsC_at : ∀ {cs : List ConstV} {i d : Nat}, i < cs.length → d < 5 → (cs.flatMap cellsC)[i * 5 + d]? = (cellsC (cs.getD i default))[d]?
  | c :: r, 0, d, _, hd => by
    rw [List.flatMap_cons, List.getElem?_append_left (by simp [cellsC]; omega)]
    simp
  | c :: r, i + 1, d, hi, hd => by
    rw [List.flatMap_cons, List.getElem?_append_right (by simp [cellsC]; omega)]
    have : (i + 1) * 5 + d - (cellsC c).length = i * 5 + d := by simp [cellsC]; omega
    rw [this, cellsC_at (by simpa using hi) hd]
    simp
theorem RowC.pool {w : World} {B : Nat} {v : Value} {cs : List ConstV} (h : RowC w B v cs) (hr : ∀ c ∈ cs, ConstR c) : Pool w v cs := by
  rcases h.2 with ⟨rfl, hn⟩ | ⟨g, cap, cur, rfl, hb, hg, hnc, hcm, hcs, htake⟩
  · have : cs = [] := List.eq_nil_of_length_eq_zero hn
    subst this
    exact ⟨none, 0, rfl, Nat.le_refl _, by omega, fun _ => rfl, hr, fun x hx _ => by cases hx⟩
  · refine ⟨_, cap, rfl, hnc, by unfold maxLen at hcm; omega, (fun e => by cases e), hr, fun x hx _ => ?_⟩
    cases hx
    refine ⟨g, 0, rfl, fun i hi => ?_⟩
    have hc : ∀ d, d < 5 → w.cell? ⟨g, 0 + i * 5 + d, none⟩ = (cellsC (cs.getD i default))[d]? := fun d hd => by
      rw [Nat.zero_add, ← cellsC_at hi hd]
      exact (show w.ownsRow B _ 5 _ _ _ from h).cellAt (g := g) (cap := cap) (i * 5 + d) (by omega)
    exact ⟨hc 0 (by decide), hc 1 (by decide), hc 2 (by decide), hc 3 (by decide), hc 4 (by decide)⟩
theorem RowC.only {S : Nat → Prop} {w w' : World} {B : Nat} {v : Value} {cs : List ConstV} (h : RowC w B v cs) (ho : Only S w w') (hs : ∀ k, v.ownBlock = some k → ¬ S k) : RowC w' B v cs := ho.owns h hs
theorem RowC.ge {w : World} {B : Nat} {v : Value} {cs : List ConstV} (h : RowC w B v cs) : ∀ k, v.ownBlock = some k → B ≤ k ∧ k < w.heap.size := fun k hk => World.ownsRow.lt h k hk
end Go.Proofs.YtodhdiccfobcfaaGreatDoor
namespace Go.Proofs.YtodhdiccfobcfaaGreatDoor
open Go.RowKit
set_option linter.unusedVariables false
set_option linter.unusedSimpArgs false

theorem uAt_mid (pre mid post : List Int) (k n : Nat) (hk : k = pre.length) (hn : mid.length = n) : uAt (pre ++ (mid ++ post)) k n = valB mid := by
  subst hk hn
  unfold uAt
  rw [List.drop_left, List.take_left]
theorem valB_be2 {n : Int} (h0 : 0 ≤ n) (h1 : n ≤ 65535) : valB (be2 n) = n := by
  simp [valB, be2]
  omega
theorem sgn_back {n : Nat} (h : n = 4 ∨ n = 8) {v z : Int} (h0 : -(2 ^ (8 * n - 1)) ≤ z) (h1 : z < 2 ^ (8 * n - 1)) (hv : v = z % 2 ^ (8 * n)) : sgn n v = z := by
  unfold sgn
  subst hv
  rcases h with rfl | rfl
  all_goals
    simp only [Nat.reduceMul, Nat.reduceSub, Int.reducePow] at h0 h1 ⊢
    by_cases hz : 0 ≤ z
    · rw [if_neg (by omega)]; omega
    · rw [if_pos (by omega)]; omega
theorem valB_four {n : Int} (h0 : -2147483648 ≤ n) (h1 : n ≤ 2147483647) : sgn 4 (valB [n / 16777216 % 256, n / 65536 % 256, n / 256 % 256, n % 256]) = n := by
  apply sgn_back (.inl rfl) (by simp only [Nat.reduceMul, Nat.reduceSub, Int.reducePow]; omega) (by simp only [Nat.reduceMul, Nat.reduceSub, Int.reducePow]; omega)
  simp only [valB, List.foldl, Nat.reduceMul, Int.reducePow]
  omega
theorem valB_eight {n : Int} (h : I64 n) : sgn 8 (valB [n / 72057594037927936 % 256, n / 281474976710656 % 256, n / 1099511627776 % 256, n / 4294967296 % 256, n / 16777216 % 256, n / 65536 % 256, n / 256 % 256, n % 256]) = n := by
  unfold I64 at h
  apply sgn_back (.inr rfl) (by simp only [Nat.reduceMul, Nat.reduceSub, Int.reducePow]; omega) (by simp only [Nat.reduceMul, Nat.reduceSub, Int.reducePow]; omega)
  simp only [valB, List.foldl, Nat.reduceMul, Int.reducePow]
  omega
theorem enc_dec {x : ByteArray} {ys : List Int} (h : Enc (nums x) ys 0) : Dec ys (nums x) 0 := by
  rcases h with ⟨cs, ht, rfl, _⟩ | ⟨_, _, h⟩
  · exact .inl ⟨cs, ⟨ht.1, rfl⟩, ht.2, rfl⟩
  · cases h

theorem strOf_nums (x : ByteArray) : strOfNums (nums x) = x := by
  rcases x with ⟨⟨l⟩⟩
  have : strOfNums (nums ⟨⟨l⟩⟩) = ⟨(((numsL l).map fun n => UInt8.ofNat n.toNat)).toArray⟩ := rfl
  rw [this]
  congr 2
  unfold numsL
  rw [List.map_map]
  conv => rhs; rw [← List.map_id l]
  apply List.map_congr_left
  intro u _
  simp

/-- Each constant's bytes are read as the constant. -/
theorem ConstB.read {pre post b : List Int} {c : ConstV} (h : ConstB c b) (hbare : bareZ c = true) (hn : I64 c.n)
    (hr : (c.tag = 3 → -2147483648 ≤ c.n ∧ c.n ≤ 2147483647) ∧ (c.tag = 7 ∨ c.tag = 9 ∨ c.tag = 10 ∨ c.tag = 12 → 0 ≤ c.a ∧ c.a ≤ 1023) ∧ (c.tag = 9 ∨ c.tag = 10 ∨ c.tag = 12 → 0 ≤ c.b ∧ c.b ≤ 1023)) :
    RdOne (pre ++ (b ++ post)) pre.length c (pre ++ b).length 0 := by
  obtain ⟨t, x, n, a, bb⟩ := c
  obtain ⟨hr3, hra, hrb⟩ := hr
  simp only at hr3 hra hrb hn hbare
  rcases h with ⟨ht, ys, he, hl, rfl⟩ | ⟨ht, rfl⟩ | ⟨ht, rfl⟩ | ⟨ht, rfl⟩ | ⟨ht, rfl⟩
  · simp only at ht he
    subst ht
    simp [bareZ] at hbare
    obtain ⟨rfl, rfl, rfl⟩ := hbare
    have e0 : pre ++ ((1 :: be2 (ys.length : Int) ++ ys) ++ post) = pre ++ ([1] ++ (be2 ys.length ++ ys ++ post)) := by simp
    have e1 : pre ++ ((1 :: be2 (ys.length : Int) ++ ys) ++ post) = (pre ++ [1]) ++ (be2 ys.length ++ (ys ++ post)) := by simp
    have e2 : pre ++ ((1 :: be2 (ys.length : Int) ++ ys) ++ post) = (pre ++ [1] ++ be2 ys.length) ++ (ys ++ post) := by simp
    have u0 : uAt (pre ++ ((1 :: be2 (ys.length : Int) ++ ys) ++ post)) pre.length 1 = 1 := by rw [e0, uAt_mid pre [1] _ _ 1 rfl rfl]; rfl
    have u1 : uAt (pre ++ ((1 :: be2 (ys.length : Int) ++ ys) ++ post)) (pre.length + 1) 2 = (ys.length : Int) := by
      rw [e1, uAt_mid (pre ++ [1]) (be2 ys.length) _ _ 2 (by simp) rfl, valB_be2 (by omega) (by omega)]
    refine .inr ⟨by simp, ?_⟩
    rw [u0]
    unfold RdC
    rw [if_pos rfl]
    refine .inr (.inr (.inr ⟨by simp [be2]; omega, by rw [u1]; omega, by rw [u1]; simp [be2]; omega, nums x, ?_, by rw [strOf_nums], by rw [u1]; simp [be2]; omega⟩))
    rw [u1, Int.toNat_natCast]
    have : ((pre ++ ((1 :: be2 (ys.length : Int) ++ ys) ++ post)).drop (pre.length + 1 + 2)).take ys.length = ys := by
      rw [e2, show pre.length + 1 + 2 = (pre ++ [1] ++ be2 (ys.length : Int)).length by simp [be2], List.drop_left, List.take_left]
    rw [this]
    exact enc_dec he
  · simp only at ht
    subst ht
    simp [bareZ] at hbare
    obtain ⟨rfl, rfl, rfl⟩ := hbare
    have e0 : pre ++ ((3 :: [n / 16777216 % 256, n / 65536 % 256, n / 256 % 256, n % 256]) ++ post) = pre ++ ([3] ++ ([n / 16777216 % 256, n / 65536 % 256, n / 256 % 256, n % 256] ++ post)) := by simp
    have e1 : pre ++ ((3 :: [n / 16777216 % 256, n / 65536 % 256, n / 256 % 256, n % 256]) ++ post) = (pre ++ [3]) ++ ([n / 16777216 % 256, n / 65536 % 256, n / 256 % 256, n % 256] ++ post) := by simp
    have u0 : uAt (pre ++ ((3 :: [n / 16777216 % 256, n / 65536 % 256, n / 256 % 256, n % 256]) ++ post)) pre.length 1 = 3 := by rw [e0, uAt_mid pre [3] _ _ 1 rfl rfl]; rfl
    have u1 : uAt (pre ++ ((3 :: [n / 16777216 % 256, n / 65536 % 256, n / 256 % 256, n % 256]) ++ post)) (pre.length + 1) 4 = valB ([n / 16777216 % 256, n / 65536 % 256, n / 256 % 256, n % 256]) := by rw [e1, uAt_mid (pre ++ [3]) ([n / 16777216 % 256, n / 65536 % 256, n / 256 % 256, n % 256]) _ _ 4 (by simp) rfl]
    refine .inr ⟨by simp, ?_⟩
    rw [u0]
    unfold RdC
    rw [if_neg (by decide), if_pos rfl]
    refine .inr ⟨by simp [be2]; omega, rfl, ?_, by simp⟩
    rw [u1]
    show _ = (⟨3, noText, sgn 4 (valB _), 0, 0⟩ : ConstV)
    rw [valB_four (hr3 rfl).1 (hr3 rfl).2]
    rfl
  · simp only at ht
    subst ht
    simp [bareZ] at hbare
    obtain ⟨rfl, rfl, rfl⟩ := hbare
    have e0 : pre ++ ((5 :: [n / 72057594037927936 % 256, n / 281474976710656 % 256, n / 1099511627776 % 256, n / 4294967296 % 256, n / 16777216 % 256, n / 65536 % 256, n / 256 % 256, n % 256]) ++ post) = pre ++ ([5] ++ ([n / 72057594037927936 % 256, n / 281474976710656 % 256, n / 1099511627776 % 256, n / 4294967296 % 256, n / 16777216 % 256, n / 65536 % 256, n / 256 % 256, n % 256] ++ post)) := by simp
    have e1 : pre ++ ((5 :: [n / 72057594037927936 % 256, n / 281474976710656 % 256, n / 1099511627776 % 256, n / 4294967296 % 256, n / 16777216 % 256, n / 65536 % 256, n / 256 % 256, n % 256]) ++ post) = (pre ++ [5]) ++ ([n / 72057594037927936 % 256, n / 281474976710656 % 256, n / 1099511627776 % 256, n / 4294967296 % 256, n / 16777216 % 256, n / 65536 % 256, n / 256 % 256, n % 256] ++ post) := by simp
    have u0 : uAt (pre ++ ((5 :: [n / 72057594037927936 % 256, n / 281474976710656 % 256, n / 1099511627776 % 256, n / 4294967296 % 256, n / 16777216 % 256, n / 65536 % 256, n / 256 % 256, n % 256]) ++ post)) pre.length 1 = 5 := by rw [e0, uAt_mid pre [5] _ _ 1 rfl rfl]; rfl
    have u1 : uAt (pre ++ ((5 :: [n / 72057594037927936 % 256, n / 281474976710656 % 256, n / 1099511627776 % 256, n / 4294967296 % 256, n / 16777216 % 256, n / 65536 % 256, n / 256 % 256, n % 256]) ++ post)) (pre.length + 1) 8 = valB ([n / 72057594037927936 % 256, n / 281474976710656 % 256, n / 1099511627776 % 256, n / 4294967296 % 256, n / 16777216 % 256, n / 65536 % 256, n / 256 % 256, n % 256]) := by rw [e1, uAt_mid (pre ++ [5]) ([n / 72057594037927936 % 256, n / 281474976710656 % 256, n / 1099511627776 % 256, n / 4294967296 % 256, n / 16777216 % 256, n / 65536 % 256, n / 256 % 256, n % 256]) _ _ 8 (by simp) rfl]
    refine .inr ⟨by simp, ?_⟩
    rw [u0]
    unfold RdC
    rw [if_neg (by decide), if_neg (by decide), if_pos rfl]
    refine .inr ⟨by simp [be2]; omega, rfl, ?_, by simp⟩
    rw [u1]
    show _ = (⟨5, noText, sgn 8 (valB _), 0, 0⟩ : ConstV)
    rw [valB_eight hn]
    rfl
  · simp only at ht
    subst ht
    simp [bareZ] at hbare
    obtain ⟨rfl, rfl, rfl⟩ := hbare
    have e0 : pre ++ ((7 :: be2 a) ++ post) = pre ++ ([7] ++ (be2 a ++ post)) := by simp
    have e1 : pre ++ ((7 :: be2 a) ++ post) = (pre ++ [7]) ++ (be2 a ++ post) := by simp
    have u0 : uAt (pre ++ ((7 :: be2 a) ++ post)) pre.length 1 = 7 := by rw [e0, uAt_mid pre [7] _ _ 1 rfl rfl]; rfl
    have u1 : uAt (pre ++ ((7 :: be2 a) ++ post)) (pre.length + 1) 2 = valB (be2 a) := by rw [e1, uAt_mid (pre ++ [7]) (be2 a) _ _ 2 (by simp) rfl]
    refine .inr ⟨by simp, ?_⟩
    rw [u0]
    unfold RdC
    rw [if_neg (by decide), if_neg (by decide), if_neg (by decide), if_pos rfl]
    refine .inr ⟨by simp [be2]; omega, rfl, ?_, by simp [be2]⟩
    rw [u1, valB_be2 (by have := hra (.inl rfl); omega) (by have := hra (.inl rfl); omega)]
    rfl
  · simp only at ht
    have hb : x = ⟨#[]⟩ ∧ n = 0 := by
      unfold bareZ at hbare
      simp only at hbare
      rw [if_neg (by omega), if_neg (by omega), if_neg (by omega)] at hbare
      simpa using hbare
    obtain ⟨rfl, rfl⟩ := hb
    have ha := hra (by rcases ht with h | h | h <;> simp [h])
    have hb := hrb ht
    have e0 : pre ++ ((t :: be2 a ++ be2 bb) ++ post) = pre ++ ([t] ++ (be2 a ++ be2 bb ++ post)) := by simp
    have e1 : pre ++ ((t :: be2 a ++ be2 bb) ++ post) = (pre ++ [t]) ++ (be2 a ++ (be2 bb ++ post)) := by simp
    have e2 : pre ++ ((t :: be2 a ++ be2 bb) ++ post) = (pre ++ [t] ++ be2 a) ++ (be2 bb ++ post) := by simp
    have u0 : uAt (pre ++ ((t :: be2 a ++ be2 bb) ++ post)) pre.length 1 = t := by rw [e0, uAt_mid pre [t] _ _ 1 rfl rfl]; simp [valB]
    have u1 : uAt (pre ++ ((t :: be2 a ++ be2 bb) ++ post)) (pre.length + 1) 2 = a := by rw [e1, uAt_mid (pre ++ [t]) (be2 a) _ _ 2 (by simp) rfl, valB_be2 (by omega) (by omega)]
    have u2 : uAt (pre ++ ((t :: be2 a ++ be2 bb) ++ post)) (pre.length + 1 + 2) 2 = bb := by rw [e2, uAt_mid (pre ++ [t] ++ be2 a) (be2 bb) _ _ 2 (by simp [be2]) rfl, valB_be2 (by omega) (by omega)]
    refine .inr ⟨by simp, ?_⟩
    rw [u0]
    unfold RdC
    rw [if_neg (by omega), if_neg (by omega), if_neg (by omega), if_neg (by omega), if_pos ht]
    refine .inr ⟨by simp [be2]; omega, rfl, ?_, by simp [be2]⟩
    rw [u1, u2]
    rfl

/-- What may stand in a pool that may be. -/
theorem bare_of_one {cs : List ConstV} {c : ConstV} (h : oneZ cs c = 0) : bareZ c = true := by
  unfold oneZ at h
  by_cases hb : bareZ c = false
  · rw [if_pos hb] at h; simp at h
  · simpa using hb
/-- The bytes of some constants, read one by one. -/
theorem ConstsB.reads {all : List ConstV} (hl : all.length ≤ 1024) {cs : List ConstV} {bs : List Int} (h : ConstsB cs bs) : (∀ c ∈ cs, oneZ all c = 0 ∧ I64 c.n) → ∀ {pre post : List Int}, pre.length = 2 →
    Reads (pre ++ (bs ++ post)) (zeroK :: cs) (pre ++ bs).length := by
  induction h with
  | nil => intro _ pre post hp; simp only [List.nil_append, List.append_nil]; rw [hp]; exact .start
  | @snoc cs bs c b h1 h2 ih =>
    intro hall pre post hp
    have hc := hall c (by simp)
    have hi := ih (fun d hd => hall d (by simp [hd])) (pre := pre) (post := b ++ post) hp
    have hz := oneZ_zero hl hc.1
    have hr := ConstB.read (pre := pre ++ bs) (post := post) h2 (bare_of_one hc.1) hc.2 (by
      rcases hz with ⟨h, _⟩ | ⟨h, h0, h1⟩ | h | ⟨h, h0, h1⟩ | ⟨h, ⟨h0, h1⟩, h2, h3⟩
      · exact ⟨fun e => by omega, fun e => by omega, fun e => by omega⟩
      · exact ⟨fun e => ⟨h0, h1⟩, fun e => by omega, fun e => by omega⟩
      · exact ⟨fun e => by omega, fun e => by omega, fun e => by omega⟩
      · exact ⟨fun e => by omega, fun e => ⟨h0, h1⟩, fun e => by omega⟩
      · exact ⟨fun e => by omega, fun e => ⟨h0, h1⟩, fun e => ⟨h2, h3⟩⟩)
    have hm := Reads.more (c := c) (k' := (pre ++ bs ++ b).length) (by simpa [List.append_assoc] using hi) (by simpa [List.append_assoc] using hr)
    simpa [List.append_assoc] using hm
/-- There and back. -/
theorem pool_back {cs : List ConstV} {bs : List Int} (hz : checkZ cs = 0) (hn : ∀ c ∈ cs, I64 c.n) (hb : ConstsB (cs.drop 1) bs) (post : List Int) :
    DecP (be2 cs.length ++ bs ++ post) cs ((be2 cs.length ++ bs).length : Int) 0 := by
  obtain ⟨h1, h2, h3, h4⟩ := checkZ_zero hz
  obtain ⟨c, r, rfl⟩ : ∃ c r, cs = c :: r := by cases cs with | nil => simp at h2 | cons c r => exact ⟨c, r, rfl⟩
  have hc : c = zeroK := h3
  subst hc
  have hlen : (be2 ((zeroK :: r).length : Int)).length = 2 := rfl
  have hrd := ConstsB.reads (all := zeroK :: r) h1 (cs := r) (by simpa using hb) (fun d hd => by
    obtain ⟨i, hi, rfl⟩ := List.mem_iff_getElem.1 hd
    have := h4 (i + 1) (by omega) (by simpa using hi)
    simp [List.getD, hi] at this
    exact ⟨this, hn _ (by simp)⟩) (pre := be2 ((zeroK :: r).length : Int)) (post := post) hlen
  rw [← List.append_assoc] at hrd
  have hu : uAt (be2 ((zeroK :: r).length : Int) ++ bs ++ post) 0 2 = ((zeroK :: r).length : Int) := by
    have := uAt_mid [] (be2 ((zeroK :: r).length : Int)) (bs ++ post) 0 2 rfl rfl
    rw [List.nil_append, ← List.append_assoc] at this
    rw [this, valB_be2 (by omega) (by omega)]
  refine .inr (.inr (.inr ⟨by simp [be2], by rw [hu]; simp only [List.length_cons]; omega, by rw [hu]; omega, .inr ⟨zeroK :: r, _, .inr ⟨_, _, hrd, by rw [hu]; simp, rfl⟩, .inr ⟨hz, rfl, rfl, rfl⟩⟩⟩))
end Go.Proofs.YtodhdiccfobcfaaGreatDoor
namespace Go.Proofs.YtodhdiccfobcfaaGreatDoor
open Go.RowKit
set_option linter.unusedVariables false
set_option linter.unusedSimpArgs false

/-- A block that holds one constant. -/
def C5 (w : World) (b : Nat) (c : ConstV) : Prop := w.heap[b]? = some (.cells #[.int .i64 c.tag, .string c.text, .int .i64 c.n, .int .i64 c.a, .int .i64 c.b] 67 (0, 0))
theorem C5.cells {w : World} {b : Nat} {c : ConstV} (h : C5 w b c) : w.cell? ⟨b, 0, none⟩ = some (.int .i64 c.tag) ∧ w.cell? ⟨b, 1, none⟩ = some (.string c.text) ∧ w.cell? ⟨b, 2, none⟩ = some (.int .i64 c.n) ∧ w.cell? ⟨b, 3, none⟩ = some (.int .i64 c.a) ∧ w.cell? ⟨b, 4, none⟩ = some (.int .i64 c.b) :=
  ⟨by rw [cell_blk h]; rfl, by rw [cell_blk h]; rfl, by rw [cell_blk h]; rfl, by rw [cell_blk h]; rfl, by rw [cell_blk h]; rfl⟩
theorem C5.free {w : World} {b : Nat} {c : ConstV} (h : C5 w b c) : w.frozen? ⟨b, 0, none⟩ = false ∧ w.frozen? ⟨b, 1, none⟩ = false ∧ w.frozen? ⟨b, 2, none⟩ = false ∧ w.frozen? ⟨b, 3, none⟩ = false ∧ w.frozen? ⟨b, 4, none⟩ = false :=
  ⟨frozen_blk h 0, frozen_blk h 1, frozen_blk h 2, frozen_blk h 3, frozen_blk h 4⟩
/-- What read leaves. -/
def ReadTo (w : World) (rb : Nat) (v : Value) (zs : List Int) (k : Nat) (tag : Int) (e : Ending) (w' : World) : Prop :=
  ∃ c k' e0, e = .returned (.tuple #[.agg #[.int .i64 c.tag, .string c.text, .int .i64 c.n, .int .i64 c.a, .int .i64 c.b], .int .i64 e0]) ∧ RdC zs k tag c k' e0 ∧ Only (fun j => j = rb) w w' ∧ (e0 = 0 → Rf w' rb v zs k')

theorem uAt_lt {zs : List Int} (hz : Bytish zs) (k n : Nat) (h : k + n ≤ zs.length) : 0 ≤ uAt zs k n ∧ uAt zs k n < 256 ^ n := valB_lt n _ (by simp; omega) ((hz.drop k).take n)
theorem Rf.bytish {w : World} {rb : Nat} {v : Value} {zs : List Int} {k : Nat} (h : Rf w rb v zs k) : Bytish zs := by obtain ⟨_, _, _, _, _, _, h, _⟩ := h.byt; exact h
theorem C5.only {S : Nat → Prop} {w w' : World} {b : Nat} {c : ConstV} (h : C5 w b c) (ho : Only S w w') (hs : ¬ S b) : C5 w' b c := ho.heap h hs

theorem rfU_ok (rb : Nat) (v : Value) (zs : List Int) (k n : Nat) (w : World) (h : Rf w rb v zs k) (hn1 : 1 ≤ n) (hn8 : n ≤ 8) (hroom : k + n ≤ zs.length) :
    Calls Tryz.prog 63 #[.pointer (some ⟨rb, 0, none⟩), .int .i64 n] w fun e w' => e = .returned (.tuple #[.int .u64 (uAt zs k n), .int .i64 0]) ∧ RfTo w rb v zs (k + n) w' := rfUintOk rb v zs k n w h hn1 hn8 hroom
theorem rfU_short (rb : Nat) (v : Value) (zs : List Int) (k n : Nat) (w : World) (h : Rf w rb v zs k) (hn1 : 1 ≤ n) (hn8 : n ≤ 8) (hroom : zs.length < k + n) :
    Calls Tryz.prog 63 #[.pointer (some ⟨rb, 0, none⟩), .int .i64 n] w fun e w' => e = .returned (.tuple #[.int .u64 0, .int .i64 3]) ∧ RfTo w rb v zs k w' := by
  have he : rdErr0 n ((zs.length : Int) - k) = 3 := by unfold rdErr0; rw [if_neg (by omega), if_pos (by omega)]
  have := rfUintErr rb v zs k n w h (by rw [he]; decide)
  rw [he] at this
  exact this.mono fun e w' hh => ⟨hh.1, RfTo.of_drawn h hh.2⟩
theorem rfI_ok (rb : Nat) (v : Value) (zs : List Int) (k n : Nat) (w : World) (h : Rf w rb v zs k) (hn1 : 1 ≤ n) (hn8 : n ≤ 8) (hroom : k + n ≤ zs.length) :
    Calls Tryz.prog 97 #[.pointer (some ⟨rb, 0, none⟩), .int .i64 n] w fun e w' => e = .returned (.tuple #[.int .i64 (sgn n (uAt zs k n)), .int .i64 0]) ∧ RfTo w rb v zs (k + n) w' := by
  have he : rdErr0 n ((zs.length : Int) - k) = 0 := by unfold rdErr0; rw [if_neg (by omega), if_neg (by omega)]
  have := rfInt rb v zs k n w h
  rw [he] at this
  simp only [rdI, rdK, if_true, Int.toNat_natCast] at this
  exact this
theorem rfI_short (rb : Nat) (v : Value) (zs : List Int) (k n : Nat) (w : World) (h : Rf w rb v zs k) (hn1 : 1 ≤ n) (hn8 : n ≤ 8) (hroom : zs.length < k + n) :
    Calls Tryz.prog 97 #[.pointer (some ⟨rb, 0, none⟩), .int .i64 n] w fun e w' => e = .returned (.tuple #[.int .i64 0, .int .i64 3]) ∧ RfTo w rb v zs k w' := by
  have he : rdErr0 n ((zs.length : Int) - k) = 3 := by unfold rdErr0; rw [if_neg (by omega), if_pos (by omega)]
  have := rfInt rb v zs k n w h
  rw [he] at this
  simp only [rdI, rdK, show ¬ ((3 : Int) = 0) by decide, if_false] at this
  exact this
theorem rfB_ok (rb : Nat) (v : Value) (zs : List Int) (k n : Nat) (w : World) (h : Rf w rb v zs k) (hroom : k + n ≤ zs.length) :
    Calls Tryz.prog 95 #[.pointer (some ⟨rb, 0, none⟩), .int .i64 n] w fun e w' => ∃ v', e = .returned (.tuple #[v', .int .i64 0]) ∧ RfTo w rb v zs (k + n) w' ∧ Row w' w.heap.size v' ((zs.drop k).take n) := by
  have he : rdErr1 n ((zs.length : Int) - k) = 0 := by unfold rdErr1; rw [if_neg (by omega), if_neg (by omega)]
  have := rfBytes rb v zs k n w h
  rw [he] at this
  simp only [rdPart, rdK, if_true, Int.toNat_natCast] at this
  exact this
theorem rfB_short (rb : Nat) (v : Value) (zs : List Int) (k n : Nat) (w : World) (h : Rf w rb v zs k) (hroom : zs.length < k + n) :
    Calls Tryz.prog 95 #[.pointer (some ⟨rb, 0, none⟩), .int .i64 n] w fun e w' => ∃ v', e = .returned (.tuple #[v', .int .i64 3]) ∧ RfTo w rb v zs k w' := by
  have he : rdErr1 n ((zs.length : Int) - k) = 3 := by unfold rdErr1; rw [if_neg (by omega), if_pos (by omega)]
  have := rfBytes rb v zs k n w h
  rw [he] at this
  simp only [rdPart, rdK, show ¬ ((3 : Int) = 0) by decide, if_false] at this
  exact this.mono fun e w' ⟨v', h1, h2, _⟩ => ⟨v', h1, h2⟩

/-- The world in which read's two constants are laid: the result's, the one that is filled. -/
theorem Rf.two {w : World} {rb : Nat} {v : Value} {zs : List Int} {k : Nat} (h : Rf w rb v zs k) (a b : Obj) : Rf ((w.alloc a).alloc b) rb v zs k :=
  h.only (((Only.refl (fun _ => False) w).alloc a).alloc b) (fun h => h) (fun _ _ _ h => h)
theorem two_left {w w1 : World} {rb : Nat} (hrb : rb < w.heap.size) (c d : ConstV) (h : Only (fun j => j = rb) ((w.alloc (.cells #[.int .i64 c.tag, .string c.text, .int .i64 c.n, .int .i64 c.a, .int .i64 c.b] 67)).alloc (.cells #[.int .i64 d.tag, .string d.text, .int .i64 d.n, .int .i64 d.a, .int .i64 d.b] 67)) w1) :
    C5 w1 w.heap.size c ∧ C5 w1 (w.heap.size + 1) d ∧ Only (fun j => j = rb) w w1 := by
  have h1 : C5 ((w.alloc (.cells #[.int .i64 c.tag, .string c.text, .int .i64 c.n, .int .i64 c.a, .int .i64 c.b] 67)).alloc (.cells #[.int .i64 d.tag, .string d.text, .int .i64 d.n, .int .i64 d.a, .int .i64 d.b] 67)) w.heap.size c :=
    ((Only.refl (fun _ => False) _).alloc _).heap (heap_alloc_new w _) (fun h => h)
  have h2 : C5 ((w.alloc (.cells #[.int .i64 c.tag, .string c.text, .int .i64 c.n, .int .i64 c.a, .int .i64 c.b] 67)).alloc (.cells #[.int .i64 d.tag, .string d.text, .int .i64 d.n, .int .i64 d.a, .int .i64 d.b] 67)) (w.heap.size + 1) d := by
    have := heap_alloc_new (w.alloc (.cells #[.int .i64 c.tag, .string c.text, .int .i64 c.n, .int .i64 c.a, .int .i64 c.b] 67)) (.cells #[.int .i64 d.tag, .string d.text, .int .i64 d.n, .int .i64 d.a, .int .i64 d.b] 67)
    rwa [show (w.alloc (.cells #[.int .i64 c.tag, .string c.text, .int .i64 c.n, .int .i64 c.a, .int .i64 c.b] 67)).heap.size = w.heap.size + 1 by simp] at this
  exact ⟨h.heap h1 (by omega), h.heap h2 (by omega), (((Only.refl _ w).alloc _).alloc _).trans h (fun _ h _ => h)⟩
/-- What was written behind the reader's call does not touch the reader. -/
theorem Rf.high {w w1 w' : World} {rb : Nat} {v : Value} {zs : List Int} {k k' : Nat} (h0 : Rf w rb v zs k) (h : Rf w1 rb v zs k') (ho : Only (fun j => w.heap.size ≤ j) w1 w') : Rf w' rb v zs k' :=
  h.only ho (by have := h0.lt; omega) (fun b hb hz => by have := h0.byt.lt b hb hz; omega)

set_option maxHeartbeats 2000000 in
set_option maxRecDepth 100000 in
theorem refReadNone (rb : Nat) (v : Value) (zs : List Int) (k : Nat) (tag : Int) (w : World) (h : Rf w rb v zs k) (h1 : tag ≠ 1) (h3 : tag ≠ 3) (h5 : tag ≠ 5) (h7 : tag ≠ 7) (h9 : ¬ (tag = 9 ∨ tag = 10 ∨ tag = 12)) :
    Calls Tryz.prog 64 #[.pointer (some ⟨rb, 0, none⟩), .int .i64 tag] w (ReadTo w rb v zs k tag) := by
  have hrd : RdC zs k tag ⟨tag, noText, 0, 0, 0⟩ k 40 := by unfold RdC; rw [if_neg h1, if_neg h3, if_neg h5, if_neg h7, if_neg h9]
  have b1 : (tag == 1) = false := by simpa using h1
  have b3 : (tag == 3) = false := by simpa using h3
  have b5 : (tag == 5) = false := by simpa using h5
  have b7 : (tag == 7) = false := by simpa using h7
  have b9 : (tag == 9) = false := by simp only [beq_eq_false_iff_ne]; omega
  have b10 : (tag == 10) = false := by simp only [beq_eq_false_iff_ne]; omega
  have b12 : (tag == 12) = false := by simp only [beq_eq_false_iff_ne]; omega
  clear h1 h3 h5 h7 h9
  go_enter Tryz.func64, Tryz.ntmps64
  go_wp2
  have hC : C5 ((w.alloc (.cells #[.int .i64 tag, .string { data := #[] }, .int .i64 0, .int .i64 0, .int .i64 0] 67)).alloc (.cells #[.int .i64 tag, .string { data := #[] }, .int .i64 0, .int .i64 0, .int .i64 0] 67)) w.heap.size ⟨tag, noText, 0, 0, 0⟩ :=
    ((Only.refl (fun _ => False) _).alloc _).heap (heap_alloc_new w _) (fun h => h)
  obtain ⟨k0, k1, k2, k3, k4⟩ := hC.cells
  refine bodyPost_ret (v := .tuple #[.agg #[.int .i64 tag, .string noText, .int .i64 0, .int .i64 0, .int .i64 0], .int .i64 40]) (by simp [results, Tryz.results64, go_sem, noText]) rfl ?_
  exact ⟨_, k, 40, rfl, hrd, ((Only.refl _ w).alloc _).alloc _, fun h => absurd h (by decide)⟩

set_option maxHeartbeats 4000000 in
set_option maxRecDepth 100000 in
theorem refReadIntOk (rb : Nat) (v : Value) (zs : List Int) (k : Nat) (w : World) (h : Rf w rb v zs k) (hk : k + 4 ≤ zs.length) :
    Calls Tryz.prog 64 #[.pointer (some ⟨rb, 0, none⟩), .int .i64 3] w (ReadTo w rb v zs k 3) := by
  have hrd : RdC zs k 3 ⟨3, noText, (sgn 4 (uAt zs k 4)), 0, 0⟩ (k + 4) 0 := by
    unfold RdC
    rw [if_neg (by decide), if_pos rfl]
    exact .inr ⟨hk, rfl, rfl, rfl⟩
  have Hrd := Lib.hid hrd
  have hrb := h.lt
  clear hrd
  go_enter Tryz.func64, Tryz.ntmps64
  go_wp2_with (go_at_call 97; refine (rfI_ok rb v zs k 4 _ (h.two _ _) (by decide) (by decide) (by omega)).mono ?_; rintro e w1 ⟨rfl, hto⟩; obtain ⟨hA, hB, ho1⟩ := two_left hrb ⟨0, noText, 0, 0, 0⟩ ⟨3, noText, 0, 0, 0⟩ hto.2; obtain ⟨k0, k1, k2, k3, k4⟩ := hA.cells; obtain ⟨l0, l1, l2, l3, l4⟩ := hB.cells; obtain ⟨f0, f1, f2, f3, f4⟩ := hA.free; obtain ⟨g0, g1, g2, g3, g4⟩ := hB.free)
  refine bodyPost_ret (v := .tuple #[.agg #[.int .i64 3, .string noText, .int .i64 (sgn 4 (uAt zs k 4)), .int .i64 0, .int .i64 0], .int .i64 0]) (by simp [results, Tryz.results64, go_sem, noText, k0, k1, k2, k3, k4, l0, l1, l2, l3, l4]) rfl ?_
  refine ⟨⟨3, noText, (sgn 4 (uAt zs k 4)), 0, 0⟩, k + 4, 0, rfl, Hrd.out, ?_, fun hh => ?_⟩
  · repeat (refine Only.setCell ?_ (fun hl => absurd hl (by simp)) _)
    exact ho1
  · refine h.high hto.1 ?_
    repeat (refine Only.setCell ?_ (fun _ => by simp) _)
    exact Only.refl _ _


set_option maxHeartbeats 4000000 in
set_option maxRecDepth 100000 in
theorem refReadIntShort (rb : Nat) (v : Value) (zs : List Int) (k : Nat) (w : World) (h : Rf w rb v zs k) (hk : zs.length < k + 4) :
    Calls Tryz.prog 64 #[.pointer (some ⟨rb, 0, none⟩), .int .i64 3] w (ReadTo w rb v zs k 3) := by
  have hrd : RdC zs k 3 ⟨3, noText, 0, 0, 0⟩ k 3 := by
    unfold RdC
    rw [if_neg (by decide), if_pos rfl]
    exact .inl ⟨hk, rfl⟩
  have Hrd := Lib.hid hrd
  have hrb := h.lt
  clear hrd
  go_enter Tryz.func64, Tryz.ntmps64
  go_wp2_with (go_at_call 97; refine (rfI_short rb v zs k 4 _ (h.two _ _) (by decide) (by decide) (by omega)).mono ?_; rintro e w1 ⟨rfl, hto⟩; obtain ⟨hA, hB, ho1⟩ := two_left hrb ⟨0, noText, 0, 0, 0⟩ ⟨3, noText, 0, 0, 0⟩ hto.2; obtain ⟨k0, k1, k2, k3, k4⟩ := hA.cells; obtain ⟨l0, l1, l2, l3, l4⟩ := hB.cells; obtain ⟨f0, f1, f2, f3, f4⟩ := hA.free; obtain ⟨g0, g1, g2, g3, g4⟩ := hB.free)
  refine bodyPost_ret (v := .tuple #[.agg #[.int .i64 3, .string noText, .int .i64 0, .int .i64 0, .int .i64 0], .int .i64 3]) (by simp [results, Tryz.results64, go_sem, noText, k0, k1, k2, k3, k4, l0, l1, l2, l3, l4]) rfl ?_
  refine ⟨⟨3, noText, 0, 0, 0⟩, k, 3, rfl, Hrd.out, ?_, fun hh => ?_⟩
  · repeat (refine Only.setCell ?_ (fun hl => absurd hl (by simp)) _)
    exact ho1
  · exact absurd hh (by decide)


set_option maxHeartbeats 4000000 in
set_option maxRecDepth 100000 in
theorem refReadLongOk (rb : Nat) (v : Value) (zs : List Int) (k : Nat) (w : World) (h : Rf w rb v zs k) (hk : k + 8 ≤ zs.length) :
    Calls Tryz.prog 64 #[.pointer (some ⟨rb, 0, none⟩), .int .i64 5] w (ReadTo w rb v zs k 5) := by
  have hrd : RdC zs k 5 ⟨5, noText, (sgn 8 (uAt zs k 8)), 0, 0⟩ (k + 8) 0 := by
    unfold RdC
    rw [if_neg (by decide), if_neg (by decide), if_pos rfl]
    exact .inr ⟨hk, rfl, rfl, rfl⟩
  have Hrd := Lib.hid hrd
  have hrb := h.lt
  clear hrd
  go_enter Tryz.func64, Tryz.ntmps64
  go_wp2_with (go_at_call 97; refine (rfI_ok rb v zs k 8 _ (h.two _ _) (by decide) (by decide) (by omega)).mono ?_; rintro e w1 ⟨rfl, hto⟩; obtain ⟨hA, hB, ho1⟩ := two_left hrb ⟨0, noText, 0, 0, 0⟩ ⟨5, noText, 0, 0, 0⟩ hto.2; obtain ⟨k0, k1, k2, k3, k4⟩ := hA.cells; obtain ⟨l0, l1, l2, l3, l4⟩ := hB.cells; obtain ⟨f0, f1, f2, f3, f4⟩ := hA.free; obtain ⟨g0, g1, g2, g3, g4⟩ := hB.free)
  refine bodyPost_ret (v := .tuple #[.agg #[.int .i64 5, .string noText, .int .i64 (sgn 8 (uAt zs k 8)), .int .i64 0, .int .i64 0], .int .i64 0]) (by simp [results, Tryz.results64, go_sem, noText, k0, k1, k2, k3, k4, l0, l1, l2, l3, l4]) rfl ?_
  refine ⟨⟨5, noText, (sgn 8 (uAt zs k 8)), 0, 0⟩, k + 8, 0, rfl, Hrd.out, ?_, fun hh => ?_⟩
  · repeat (refine Only.setCell ?_ (fun hl => absurd hl (by simp)) _)
    exact ho1
  · refine h.high hto.1 ?_
    repeat (refine Only.setCell ?_ (fun _ => by simp) _)
    exact Only.refl _ _


set_option maxHeartbeats 4000000 in
set_option maxRecDepth 100000 in
theorem refReadLongShort (rb : Nat) (v : Value) (zs : List Int) (k : Nat) (w : World) (h : Rf w rb v zs k) (hk : zs.length < k + 8) :
    Calls Tryz.prog 64 #[.pointer (some ⟨rb, 0, none⟩), .int .i64 5] w (ReadTo w rb v zs k 5) := by
  have hrd : RdC zs k 5 ⟨5, noText, 0, 0, 0⟩ k 3 := by
    unfold RdC
    rw [if_neg (by decide), if_neg (by decide), if_pos rfl]
    exact .inl ⟨hk, rfl⟩
  have Hrd := Lib.hid hrd
  have hrb := h.lt
  clear hrd
  go_enter Tryz.func64, Tryz.ntmps64
  go_wp2_with (go_at_call 97; refine (rfI_short rb v zs k 8 _ (h.two _ _) (by decide) (by decide) (by omega)).mono ?_; rintro e w1 ⟨rfl, hto⟩; obtain ⟨hA, hB, ho1⟩ := two_left hrb ⟨0, noText, 0, 0, 0⟩ ⟨5, noText, 0, 0, 0⟩ hto.2; obtain ⟨k0, k1, k2, k3, k4⟩ := hA.cells; obtain ⟨l0, l1, l2, l3, l4⟩ := hB.cells; obtain ⟨f0, f1, f2, f3, f4⟩ := hA.free; obtain ⟨g0, g1, g2, g3, g4⟩ := hB.free)
  refine bodyPost_ret (v := .tuple #[.agg #[.int .i64 5, .string noText, .int .i64 0, .int .i64 0, .int .i64 0], .int .i64 3]) (by simp [results, Tryz.results64, go_sem, noText, k0, k1, k2, k3, k4, l0, l1, l2, l3, l4]) rfl ?_
  refine ⟨⟨5, noText, 0, 0, 0⟩, k, 3, rfl, Hrd.out, ?_, fun hh => ?_⟩
  · repeat (refine Only.setCell ?_ (fun hl => absurd hl (by simp)) _)
    exact ho1
  · exact absurd hh (by decide)


set_option maxHeartbeats 4000000 in
set_option maxRecDepth 100000 in
theorem refReadClassOk (rb : Nat) (v : Value) (zs : List Int) (k : Nat) (w : World) (h : Rf w rb v zs k) (hk : k + 2 ≤ zs.length) :
    Calls Tryz.prog 64 #[.pointer (some ⟨rb, 0, none⟩), .int .i64 7] w (ReadTo w rb v zs k 7) := by
  have hrd : RdC zs k 7 ⟨7, noText, 0, (uAt zs k 2), 0⟩ (k + 2) 0 := by
    unfold RdC
    rw [if_neg (by decide), if_neg (by decide), if_neg (by decide), if_pos rfl]
    exact .inr ⟨hk, rfl, rfl, rfl⟩
  have Hrd := Lib.hid hrd
  have hrb := h.lt
  have hub := uAt_lt h.bytish k 2 (by omega)
  simp only [Int.reducePow] at hub
  obtain ⟨hu0a, hu1a⟩ := hub
  clear hrd
  go_enter Tryz.func64, Tryz.ntmps64
  go_wp2_with (go_at_call 63; refine (rfU_ok rb v zs k 2 _ (h.two _ _) (by decide) (by decide) (by omega)).mono ?_; rintro e w1 ⟨rfl, hto⟩; obtain ⟨hA, hB, ho1⟩ := two_left hrb ⟨0, noText, 0, 0, 0⟩ ⟨7, noText, 0, 0, 0⟩ hto.2; obtain ⟨k0, k1, k2, k3, k4⟩ := hA.cells; obtain ⟨l0, l1, l2, l3, l4⟩ := hB.cells; obtain ⟨f0, f1, f2, f3, f4⟩ := hA.free; obtain ⟨g0, g1, g2, g3, g4⟩ := hB.free)
  refine bodyPost_ret (v := .tuple #[.agg #[.int .i64 7, .string noText, .int .i64 0, .int .i64 (uAt zs k 2), .int .i64 0], .int .i64 0]) (by simp [results, Tryz.results64, go_sem, noText, k0, k1, k2, k3, k4, l0, l1, l2, l3, l4]) rfl ?_
  refine ⟨⟨7, noText, 0, (uAt zs k 2), 0⟩, k + 2, 0, rfl, Hrd.out, ?_, fun hh => ?_⟩
  · repeat (refine Only.setCell ?_ (fun hl => absurd hl (by simp)) _)
    exact ho1
  · refine h.high hto.1 ?_
    repeat (refine Only.setCell ?_ (fun _ => by simp) _)
    exact Only.refl _ _


set_option maxHeartbeats 4000000 in
set_option maxRecDepth 100000 in
theorem refReadClassShort (rb : Nat) (v : Value) (zs : List Int) (k : Nat) (w : World) (h : Rf w rb v zs k) (hk : zs.length < k + 2) :
    Calls Tryz.prog 64 #[.pointer (some ⟨rb, 0, none⟩), .int .i64 7] w (ReadTo w rb v zs k 7) := by
  have hrd : RdC zs k 7 ⟨7, noText, 0, 0, 0⟩ k 3 := by
    unfold RdC
    rw [if_neg (by decide), if_neg (by decide), if_neg (by decide), if_pos rfl]
    exact .inl ⟨hk, rfl⟩
  have Hrd := Lib.hid hrd
  have hrb := h.lt
  clear hrd
  go_enter Tryz.func64, Tryz.ntmps64
  go_wp2_with (go_at_call 63; refine (rfU_short rb v zs k 2 _ (h.two _ _) (by decide) (by decide) (by omega)).mono ?_; rintro e w1 ⟨rfl, hto⟩; obtain ⟨hA, hB, ho1⟩ := two_left hrb ⟨0, noText, 0, 0, 0⟩ ⟨7, noText, 0, 0, 0⟩ hto.2; obtain ⟨k0, k1, k2, k3, k4⟩ := hA.cells; obtain ⟨l0, l1, l2, l3, l4⟩ := hB.cells; obtain ⟨f0, f1, f2, f3, f4⟩ := hA.free; obtain ⟨g0, g1, g2, g3, g4⟩ := hB.free)
  refine bodyPost_ret (v := .tuple #[.agg #[.int .i64 7, .string noText, .int .i64 0, .int .i64 0, .int .i64 0], .int .i64 3]) (by simp [results, Tryz.results64, go_sem, noText, k0, k1, k2, k3, k4, l0, l1, l2, l3, l4]) rfl ?_
  refine ⟨⟨7, noText, 0, 0, 0⟩, k, 3, rfl, Hrd.out, ?_, fun hh => ?_⟩
  · repeat (refine Only.setCell ?_ (fun hl => absurd hl (by simp)) _)
    exact ho1
  · exact absurd hh (by decide)


set_option maxHeartbeats 4000000 in
set_option maxRecDepth 100000 in
theorem refReadPair9Short (rb : Nat) (v : Value) (zs : List Int) (k : Nat) (w : World) (h : Rf w rb v zs k) (hk : zs.length < k + 2) :
    Calls Tryz.prog 64 #[.pointer (some ⟨rb, 0, none⟩), .int .i64 9] w (ReadTo w rb v zs k 9) := by
  have hrd : RdC zs k 9 ⟨9, noText, 0, 0, 0⟩ k 3 := by
    unfold RdC
    rw [if_neg (by decide), if_neg (by decide), if_neg (by decide), if_neg (by decide), if_pos (by decide)]
    exact .inl ⟨by omega, rfl⟩
  have Hrd := Lib.hid hrd
  have hrb := h.lt
  clear hrd
  go_enter Tryz.func64, Tryz.ntmps64
  go_wp2_with (go_at_call 63; refine (rfU_short rb v zs k 2 _ (h.two _ _) (by decide) (by decide) (by omega)).mono ?_; rintro e w1 ⟨rfl, hto⟩; obtain ⟨hA, hB, ho1⟩ := two_left hrb ⟨0, noText, 0, 0, 0⟩ ⟨9, noText, 0, 0, 0⟩ hto.2; obtain ⟨k0, k1, k2, k3, k4⟩ := hA.cells; obtain ⟨l0, l1, l2, l3, l4⟩ := hB.cells; obtain ⟨f0, f1, f2, f3, f4⟩ := hA.free; obtain ⟨g0, g1, g2, g3, g4⟩ := hB.free)
  refine bodyPost_ret (v := .tuple #[.agg #[.int .i64 9, .string noText, .int .i64 0, .int .i64 0, .int .i64 0], .int .i64 3]) (by simp [results, Tryz.results64, go_sem, noText, k0, k1, k2, k3, k4, l0, l1, l2, l3, l4]) rfl ?_
  refine ⟨⟨9, noText, 0, 0, 0⟩, k, 3, rfl, Hrd.out, ?_, fun hh => ?_⟩
  · repeat (refine Only.setCell ?_ (fun hl => absurd hl (by simp)) _)
    exact ho1
  · exact absurd hh (by decide)


set_option maxHeartbeats 4000000 in
set_option maxRecDepth 100000 in
theorem refReadPair9Cut (rb : Nat) (v : Value) (zs : List Int) (k : Nat) (w : World) (h : Rf w rb v zs k) (hk : k + 2 ≤ zs.length) (hk2 : zs.length < k + 4) :
    Calls Tryz.prog 64 #[.pointer (some ⟨rb, 0, none⟩), .int .i64 9] w (ReadTo w rb v zs k 9) := by
  have hrd : RdC zs k 9 ⟨9, noText, 0, (uAt zs k 2), 0⟩ k 3 := by
    unfold RdC
    rw [if_neg (by decide), if_neg (by decide), if_neg (by decide), if_neg (by decide), if_pos (by decide)]
    exact .inl ⟨by omega, rfl⟩
  have Hrd := Lib.hid hrd
  have hrb := h.lt
  have hub := uAt_lt h.bytish k 2 (by omega)
  simp only [Int.reducePow] at hub
  obtain ⟨hu0a, hu1a⟩ := hub
  clear hrd
  go_enter Tryz.func64, Tryz.ntmps64
  go_wp2_with (fail)
  refine (rfU_ok rb v zs k 2 _ (h.two _ _) (by decide) (by decide) (by omega)).mono ?_
  rintro e w1 ⟨rfl, hto⟩
  obtain ⟨hA, hB, ho1⟩ := two_left hrb ⟨0, noText, 0, 0, 0⟩ ⟨9, noText, 0, 0, 0⟩ hto.2
  obtain ⟨k0, k1, k2, k3, k4⟩ := hA.cells; obtain ⟨l0, l1, l2, l3, l4⟩ := hB.cells; obtain ⟨f0, f1, f2, f3, f4⟩ := hA.free; obtain ⟨g0, g1, g2, g3, g4⟩ := hB.free
  go_wp2_with (fail)
  refine (rfU_short rb v zs (k + 2) 2 _ hto.1 (by decide) (by decide) (by omega)).mono ?_
  rintro e w2 ⟨rfl, hto2⟩
  clear k0 k1 k2 k3 k4 l0 l1 l2 l3 l4 f0 f1 f2 f3 f4 g0 g1 g2 g3 g4
  have hA2 := hA.only hto2.2 (by omega); have hB2 := hB.only hto2.2 (by omega); obtain ⟨k0, k1, k2, k3, k4⟩ := hA2.cells; obtain ⟨l0, l1, l2, l3, l4⟩ := hB2.cells; obtain ⟨f0, f1, f2, f3, f4⟩ := hA2.free; obtain ⟨g0, g1, g2, g3, g4⟩ := hB2.free
  go_wp2
  refine bodyPost_ret (v := .tuple #[.agg #[.int .i64 9, .string noText, .int .i64 0, .int .i64 (uAt zs k 2), .int .i64 0], .int .i64 3]) (by simp [results, Tryz.results64, go_sem, noText, k0, k1, k2, k3, k4, l0, l1, l2, l3, l4]) rfl ?_
  refine ⟨⟨9, noText, 0, (uAt zs k 2), 0⟩, k, 3, rfl, Hrd.out, ?_, fun hh => ?_⟩
  · repeat (refine Only.setCell ?_ (fun hl => absurd hl (by simp)) _)
    exact (ho1.trans hto2.2 (fun _ h _ => h))
  · exact absurd hh (by decide)


set_option maxHeartbeats 4000000 in
set_option maxRecDepth 100000 in
theorem refReadPair9Ok (rb : Nat) (v : Value) (zs : List Int) (k : Nat) (w : World) (h : Rf w rb v zs k) (hk : k + 4 ≤ zs.length) :
    Calls Tryz.prog 64 #[.pointer (some ⟨rb, 0, none⟩), .int .i64 9] w (ReadTo w rb v zs k 9) := by
  have hrd : RdC zs k 9 ⟨9, noText, 0, (uAt zs k 2), (uAt zs (k + 2) 2)⟩ (k + 4) 0 := by
    unfold RdC
    rw [if_neg (by decide), if_neg (by decide), if_neg (by decide), if_neg (by decide), if_pos (by decide)]
    exact .inr ⟨hk, rfl, rfl, rfl⟩
  have Hrd := Lib.hid hrd
  have hrb := h.lt
  have hub := uAt_lt h.bytish k 2 (by omega)
  simp only [Int.reducePow] at hub
  obtain ⟨hu0a, hu1a⟩ := hub
  have hub := uAt_lt h.bytish (k + 2) 2 (by omega)
  simp only [Int.reducePow] at hub
  obtain ⟨hu0b, hu1b⟩ := hub
  clear hrd
  go_enter Tryz.func64, Tryz.ntmps64
  go_wp2_with (fail)
  refine (rfU_ok rb v zs k 2 _ (h.two _ _) (by decide) (by decide) (by omega)).mono ?_
  rintro e w1 ⟨rfl, hto⟩
  obtain ⟨hA, hB, ho1⟩ := two_left hrb ⟨0, noText, 0, 0, 0⟩ ⟨9, noText, 0, 0, 0⟩ hto.2
  obtain ⟨k0, k1, k2, k3, k4⟩ := hA.cells; obtain ⟨l0, l1, l2, l3, l4⟩ := hB.cells; obtain ⟨f0, f1, f2, f3, f4⟩ := hA.free; obtain ⟨g0, g1, g2, g3, g4⟩ := hB.free
  go_wp2_with (fail)
  refine (rfU_ok rb v zs (k + 2) 2 _ hto.1 (by decide) (by decide) (by omega)).mono ?_
  rintro e w2 ⟨rfl, hto2⟩
  clear k0 k1 k2 k3 k4 l0 l1 l2 l3 l4 f0 f1 f2 f3 f4 g0 g1 g2 g3 g4
  have hA2 := hA.only hto2.2 (by omega); have hB2 := hB.only hto2.2 (by omega); obtain ⟨k0, k1, k2, k3, k4⟩ := hA2.cells; obtain ⟨l0, l1, l2, l3, l4⟩ := hB2.cells; obtain ⟨f0, f1, f2, f3, f4⟩ := hA2.free; obtain ⟨g0, g1, g2, g3, g4⟩ := hB2.free
  go_wp2
  refine bodyPost_ret (v := .tuple #[.agg #[.int .i64 9, .string noText, .int .i64 0, .int .i64 (uAt zs k 2), .int .i64 (uAt zs (k + 2) 2)], .int .i64 0]) (by simp [results, Tryz.results64, go_sem, noText, k0, k1, k2, k3, k4, l0, l1, l2, l3, l4]) rfl ?_
  refine ⟨⟨9, noText, 0, (uAt zs k 2), (uAt zs (k + 2) 2)⟩, k + 4, 0, rfl, Hrd.out, ?_, fun hh => ?_⟩
  · repeat (refine Only.setCell ?_ (fun hl => absurd hl (by simp)) _)
    exact (ho1.trans hto2.2 (fun _ h _ => h))
  · refine h.high hto2.1 ?_
    repeat (refine Only.setCell ?_ (fun _ => by simp) _)
    exact Only.refl _ _


set_option maxHeartbeats 4000000 in
set_option maxRecDepth 100000 in
theorem refReadPair10Short (rb : Nat) (v : Value) (zs : List Int) (k : Nat) (w : World) (h : Rf w rb v zs k) (hk : zs.length < k + 2) :
    Calls Tryz.prog 64 #[.pointer (some ⟨rb, 0, none⟩), .int .i64 10] w (ReadTo w rb v zs k 10) := by
  have hrd : RdC zs k 10 ⟨10, noText, 0, 0, 0⟩ k 3 := by
    unfold RdC
    rw [if_neg (by decide), if_neg (by decide), if_neg (by decide), if_neg (by decide), if_pos (by decide)]
    exact .inl ⟨by omega, rfl⟩
  have Hrd := Lib.hid hrd
  have hrb := h.lt
  clear hrd
  go_enter Tryz.func64, Tryz.ntmps64
  go_wp2_with (go_at_call 63; refine (rfU_short rb v zs k 2 _ (h.two _ _) (by decide) (by decide) (by omega)).mono ?_; rintro e w1 ⟨rfl, hto⟩; obtain ⟨hA, hB, ho1⟩ := two_left hrb ⟨0, noText, 0, 0, 0⟩ ⟨10, noText, 0, 0, 0⟩ hto.2; obtain ⟨k0, k1, k2, k3, k4⟩ := hA.cells; obtain ⟨l0, l1, l2, l3, l4⟩ := hB.cells; obtain ⟨f0, f1, f2, f3, f4⟩ := hA.free; obtain ⟨g0, g1, g2, g3, g4⟩ := hB.free)
  refine bodyPost_ret (v := .tuple #[.agg #[.int .i64 10, .string noText, .int .i64 0, .int .i64 0, .int .i64 0], .int .i64 3]) (by simp [results, Tryz.results64, go_sem, noText, k0, k1, k2, k3, k4, l0, l1, l2, l3, l4]) rfl ?_
  refine ⟨⟨10, noText, 0, 0, 0⟩, k, 3, rfl, Hrd.out, ?_, fun hh => ?_⟩
  · repeat (refine Only.setCell ?_ (fun hl => absurd hl (by simp)) _)
    exact ho1
  · exact absurd hh (by decide)


set_option maxHeartbeats 4000000 in
set_option maxRecDepth 100000 in
theorem refReadPair10Cut (rb : Nat) (v : Value) (zs : List Int) (k : Nat) (w : World) (h : Rf w rb v zs k) (hk : k + 2 ≤ zs.length) (hk2 : zs.length < k + 4) :
    Calls Tryz.prog 64 #[.pointer (some ⟨rb, 0, none⟩), .int .i64 10] w (ReadTo w rb v zs k 10) := by
  have hrd : RdC zs k 10 ⟨10, noText, 0, (uAt zs k 2), 0⟩ k 3 := by
    unfold RdC
    rw [if_neg (by decide), if_neg (by decide), if_neg (by decide), if_neg (by decide), if_pos (by decide)]
    exact .inl ⟨by omega, rfl⟩
  have Hrd := Lib.hid hrd
  have hrb := h.lt
  have hub := uAt_lt h.bytish k 2 (by omega)
  simp only [Int.reducePow] at hub
  obtain ⟨hu0a, hu1a⟩ := hub
  clear hrd
  go_enter Tryz.func64, Tryz.ntmps64
  go_wp2_with (fail)
  refine (rfU_ok rb v zs k 2 _ (h.two _ _) (by decide) (by decide) (by omega)).mono ?_
  rintro e w1 ⟨rfl, hto⟩
  obtain ⟨hA, hB, ho1⟩ := two_left hrb ⟨0, noText, 0, 0, 0⟩ ⟨10, noText, 0, 0, 0⟩ hto.2
  obtain ⟨k0, k1, k2, k3, k4⟩ := hA.cells; obtain ⟨l0, l1, l2, l3, l4⟩ := hB.cells; obtain ⟨f0, f1, f2, f3, f4⟩ := hA.free; obtain ⟨g0, g1, g2, g3, g4⟩ := hB.free
  go_wp2_with (fail)
  refine (rfU_short rb v zs (k + 2) 2 _ hto.1 (by decide) (by decide) (by omega)).mono ?_
  rintro e w2 ⟨rfl, hto2⟩
  clear k0 k1 k2 k3 k4 l0 l1 l2 l3 l4 f0 f1 f2 f3 f4 g0 g1 g2 g3 g4
  have hA2 := hA.only hto2.2 (by omega); have hB2 := hB.only hto2.2 (by omega); obtain ⟨k0, k1, k2, k3, k4⟩ := hA2.cells; obtain ⟨l0, l1, l2, l3, l4⟩ := hB2.cells; obtain ⟨f0, f1, f2, f3, f4⟩ := hA2.free; obtain ⟨g0, g1, g2, g3, g4⟩ := hB2.free
  go_wp2
  refine bodyPost_ret (v := .tuple #[.agg #[.int .i64 10, .string noText, .int .i64 0, .int .i64 (uAt zs k 2), .int .i64 0], .int .i64 3]) (by simp [results, Tryz.results64, go_sem, noText, k0, k1, k2, k3, k4, l0, l1, l2, l3, l4]) rfl ?_
  refine ⟨⟨10, noText, 0, (uAt zs k 2), 0⟩, k, 3, rfl, Hrd.out, ?_, fun hh => ?_⟩
  · repeat (refine Only.setCell ?_ (fun hl => absurd hl (by simp)) _)
    exact (ho1.trans hto2.2 (fun _ h _ => h))
  · exact absurd hh (by decide)


set_option maxHeartbeats 4000000 in
set_option maxRecDepth 100000 in
theorem refReadPair10Ok (rb : Nat) (v : Value) (zs : List Int) (k : Nat) (w : World) (h : Rf w rb v zs k) (hk : k + 4 ≤ zs.length) :
    Calls Tryz.prog 64 #[.pointer (some ⟨rb, 0, none⟩), .int .i64 10] w (ReadTo w rb v zs k 10) := by
  have hrd : RdC zs k 10 ⟨10, noText, 0, (uAt zs k 2), (uAt zs (k + 2) 2)⟩ (k + 4) 0 := by
    unfold RdC
    rw [if_neg (by decide), if_neg (by decide), if_neg (by decide), if_neg (by decide), if_pos (by decide)]
    exact .inr ⟨hk, rfl, rfl, rfl⟩
  have Hrd := Lib.hid hrd
  have hrb := h.lt
  have hub := uAt_lt h.bytish k 2 (by omega)
  simp only [Int.reducePow] at hub
  obtain ⟨hu0a, hu1a⟩ := hub
  have hub := uAt_lt h.bytish (k + 2) 2 (by omega)
  simp only [Int.reducePow] at hub
  obtain ⟨hu0b, hu1b⟩ := hub
  clear hrd
  go_enter Tryz.func64, Tryz.ntmps64
  go_wp2_with (fail)
  refine (rfU_ok rb v zs k 2 _ (h.two _ _) (by decide) (by decide) (by omega)).mono ?_
  rintro e w1 ⟨rfl, hto⟩
  obtain ⟨hA, hB, ho1⟩ := two_left hrb ⟨0, noText, 0, 0, 0⟩ ⟨10, noText, 0, 0, 0⟩ hto.2
  obtain ⟨k0, k1, k2, k3, k4⟩ := hA.cells; obtain ⟨l0, l1, l2, l3, l4⟩ := hB.cells; obtain ⟨f0, f1, f2, f3, f4⟩ := hA.free; obtain ⟨g0, g1, g2, g3, g4⟩ := hB.free
  go_wp2_with (fail)
  refine (rfU_ok rb v zs (k + 2) 2 _ hto.1 (by decide) (by decide) (by omega)).mono ?_
  rintro e w2 ⟨rfl, hto2⟩
  clear k0 k1 k2 k3 k4 l0 l1 l2 l3 l4 f0 f1 f2 f3 f4 g0 g1 g2 g3 g4
  have hA2 := hA.only hto2.2 (by omega); have hB2 := hB.only hto2.2 (by omega); obtain ⟨k0, k1, k2, k3, k4⟩ := hA2.cells; obtain ⟨l0, l1, l2, l3, l4⟩ := hB2.cells; obtain ⟨f0, f1, f2, f3, f4⟩ := hA2.free; obtain ⟨g0, g1, g2, g3, g4⟩ := hB2.free
  go_wp2
  refine bodyPost_ret (v := .tuple #[.agg #[.int .i64 10, .string noText, .int .i64 0, .int .i64 (uAt zs k 2), .int .i64 (uAt zs (k + 2) 2)], .int .i64 0]) (by simp [results, Tryz.results64, go_sem, noText, k0, k1, k2, k3, k4, l0, l1, l2, l3, l4]) rfl ?_
  refine ⟨⟨10, noText, 0, (uAt zs k 2), (uAt zs (k + 2) 2)⟩, k + 4, 0, rfl, Hrd.out, ?_, fun hh => ?_⟩
  · repeat (refine Only.setCell ?_ (fun hl => absurd hl (by simp)) _)
    exact (ho1.trans hto2.2 (fun _ h _ => h))
  · refine h.high hto2.1 ?_
    repeat (refine Only.setCell ?_ (fun _ => by simp) _)
    exact Only.refl _ _


set_option maxHeartbeats 4000000 in
set_option maxRecDepth 100000 in
theorem refReadPair12Short (rb : Nat) (v : Value) (zs : List Int) (k : Nat) (w : World) (h : Rf w rb v zs k) (hk : zs.length < k + 2) :
    Calls Tryz.prog 64 #[.pointer (some ⟨rb, 0, none⟩), .int .i64 12] w (ReadTo w rb v zs k 12) := by
  have hrd : RdC zs k 12 ⟨12, noText, 0, 0, 0⟩ k 3 := by
    unfold RdC
    rw [if_neg (by decide), if_neg (by decide), if_neg (by decide), if_neg (by decide), if_pos (by decide)]
    exact .inl ⟨by omega, rfl⟩
  have Hrd := Lib.hid hrd
  have hrb := h.lt
  clear hrd
  go_enter Tryz.func64, Tryz.ntmps64
  go_wp2_with (go_at_call 63; refine (rfU_short rb v zs k 2 _ (h.two _ _) (by decide) (by decide) (by omega)).mono ?_; rintro e w1 ⟨rfl, hto⟩; obtain ⟨hA, hB, ho1⟩ := two_left hrb ⟨0, noText, 0, 0, 0⟩ ⟨12, noText, 0, 0, 0⟩ hto.2; obtain ⟨k0, k1, k2, k3, k4⟩ := hA.cells; obtain ⟨l0, l1, l2, l3, l4⟩ := hB.cells; obtain ⟨f0, f1, f2, f3, f4⟩ := hA.free; obtain ⟨g0, g1, g2, g3, g4⟩ := hB.free)
  refine bodyPost_ret (v := .tuple #[.agg #[.int .i64 12, .string noText, .int .i64 0, .int .i64 0, .int .i64 0], .int .i64 3]) (by simp [results, Tryz.results64, go_sem, noText, k0, k1, k2, k3, k4, l0, l1, l2, l3, l4]) rfl ?_
  refine ⟨⟨12, noText, 0, 0, 0⟩, k, 3, rfl, Hrd.out, ?_, fun hh => ?_⟩
  · repeat (refine Only.setCell ?_ (fun hl => absurd hl (by simp)) _)
    exact ho1
  · exact absurd hh (by decide)


set_option maxHeartbeats 4000000 in
set_option maxRecDepth 100000 in
theorem refReadPair12Cut (rb : Nat) (v : Value) (zs : List Int) (k : Nat) (w : World) (h : Rf w rb v zs k) (hk : k + 2 ≤ zs.length) (hk2 : zs.length < k + 4) :
    Calls Tryz.prog 64 #[.pointer (some ⟨rb, 0, none⟩), .int .i64 12] w (ReadTo w rb v zs k 12) := by
  have hrd : RdC zs k 12 ⟨12, noText, 0, (uAt zs k 2), 0⟩ k 3 := by
    unfold RdC
    rw [if_neg (by decide), if_neg (by decide), if_neg (by decide), if_neg (by decide), if_pos (by decide)]
    exact .inl ⟨by omega, rfl⟩
  have Hrd := Lib.hid hrd
  have hrb := h.lt
  have hub := uAt_lt h.bytish k 2 (by omega)
  simp only [Int.reducePow] at hub
  obtain ⟨hu0a, hu1a⟩ := hub
  clear hrd
  go_enter Tryz.func64, Tryz.ntmps64
  go_wp2_with (fail)
  refine (rfU_ok rb v zs k 2 _ (h.two _ _) (by decide) (by decide) (by omega)).mono ?_
  rintro e w1 ⟨rfl, hto⟩
  obtain ⟨hA, hB, ho1⟩ := two_left hrb ⟨0, noText, 0, 0, 0⟩ ⟨12, noText, 0, 0, 0⟩ hto.2
  obtain ⟨k0, k1, k2, k3, k4⟩ := hA.cells; obtain ⟨l0, l1, l2, l3, l4⟩ := hB.cells; obtain ⟨f0, f1, f2, f3, f4⟩ := hA.free; obtain ⟨g0, g1, g2, g3, g4⟩ := hB.free
  go_wp2_with (fail)
  refine (rfU_short rb v zs (k + 2) 2 _ hto.1 (by decide) (by decide) (by omega)).mono ?_
  rintro e w2 ⟨rfl, hto2⟩
  clear k0 k1 k2 k3 k4 l0 l1 l2 l3 l4 f0 f1 f2 f3 f4 g0 g1 g2 g3 g4
  have hA2 := hA.only hto2.2 (by omega); have hB2 := hB.only hto2.2 (by omega); obtain ⟨k0, k1, k2, k3, k4⟩ := hA2.cells; obtain ⟨l0, l1, l2, l3, l4⟩ := hB2.cells; obtain ⟨f0, f1, f2, f3, f4⟩ := hA2.free; obtain ⟨g0, g1, g2, g3, g4⟩ := hB2.free
  go_wp2
  refine bodyPost_ret (v := .tuple #[.agg #[.int .i64 12, .string noText, .int .i64 0, .int .i64 (uAt zs k 2), .int .i64 0], .int .i64 3]) (by simp [results, Tryz.results64, go_sem, noText, k0, k1, k2, k3, k4, l0, l1, l2, l3, l4]) rfl ?_
  refine ⟨⟨12, noText, 0, (uAt zs k 2), 0⟩, k, 3, rfl, Hrd.out, ?_, fun hh => ?_⟩
  · repeat (refine Only.setCell ?_ (fun hl => absurd hl (by simp)) _)
    exact (ho1.trans hto2.2 (fun _ h _ => h))
  · exact absurd hh (by decide)


set_option maxHeartbeats 4000000 in
set_option maxRecDepth 100000 in
theorem refReadPair12Ok (rb : Nat) (v : Value) (zs : List Int) (k : Nat) (w : World) (h : Rf w rb v zs k) (hk : k + 4 ≤ zs.length) :
    Calls Tryz.prog 64 #[.pointer (some ⟨rb, 0, none⟩), .int .i64 12] w (ReadTo w rb v zs k 12) := by
  have hrd : RdC zs k 12 ⟨12, noText, 0, (uAt zs k 2), (uAt zs (k + 2) 2)⟩ (k + 4) 0 := by
    unfold RdC
    rw [if_neg (by decide), if_neg (by decide), if_neg (by decide), if_neg (by decide), if_pos (by decide)]
    exact .inr ⟨hk, rfl, rfl, rfl⟩
  have Hrd := Lib.hid hrd
  have hrb := h.lt
  have hub := uAt_lt h.bytish k 2 (by omega)
  simp only [Int.reducePow] at hub
  obtain ⟨hu0a, hu1a⟩ := hub
  have hub := uAt_lt h.bytish (k + 2) 2 (by omega)
  simp only [Int.reducePow] at hub
  obtain ⟨hu0b, hu1b⟩ := hub
  clear hrd
  go_enter Tryz.func64, Tryz.ntmps64
  go_wp2_with (fail)
  refine (rfU_ok rb v zs k 2 _ (h.two _ _) (by decide) (by decide) (by omega)).mono ?_
  rintro e w1 ⟨rfl, hto⟩
  obtain ⟨hA, hB, ho1⟩ := two_left hrb ⟨0, noText, 0, 0, 0⟩ ⟨12, noText, 0, 0, 0⟩ hto.2
  obtain ⟨k0, k1, k2, k3, k4⟩ := hA.cells; obtain ⟨l0, l1, l2, l3, l4⟩ := hB.cells; obtain ⟨f0, f1, f2, f3, f4⟩ := hA.free; obtain ⟨g0, g1, g2, g3, g4⟩ := hB.free
  go_wp2_with (fail)
  refine (rfU_ok rb v zs (k + 2) 2 _ hto.1 (by decide) (by decide) (by omega)).mono ?_
  rintro e w2 ⟨rfl, hto2⟩
  clear k0 k1 k2 k3 k4 l0 l1 l2 l3 l4 f0 f1 f2 f3 f4 g0 g1 g2 g3 g4
  have hA2 := hA.only hto2.2 (by omega); have hB2 := hB.only hto2.2 (by omega); obtain ⟨k0, k1, k2, k3, k4⟩ := hA2.cells; obtain ⟨l0, l1, l2, l3, l4⟩ := hB2.cells; obtain ⟨f0, f1, f2, f3, f4⟩ := hA2.free; obtain ⟨g0, g1, g2, g3, g4⟩ := hB2.free
  go_wp2
  refine bodyPost_ret (v := .tuple #[.agg #[.int .i64 12, .string noText, .int .i64 0, .int .i64 (uAt zs k 2), .int .i64 (uAt zs (k + 2) 2)], .int .i64 0]) (by simp [results, Tryz.results64, go_sem, noText, k0, k1, k2, k3, k4, l0, l1, l2, l3, l4]) rfl ?_
  refine ⟨⟨12, noText, 0, (uAt zs k 2), (uAt zs (k + 2) 2)⟩, k + 4, 0, rfl, Hrd.out, ?_, fun hh => ?_⟩
  · repeat (refine Only.setCell ?_ (fun hl => absurd hl (by simp)) _)
    exact (ho1.trans hto2.2 (fun _ h _ => h))
  · refine h.high hto2.1 ?_
    repeat (refine Only.setCell ?_ (fun _ => by simp) _)
    exact Only.refl _ _


set_option maxHeartbeats 4000000 in
set_option maxRecDepth 100000 in
theorem refReadTextShort (rb : Nat) (v : Value) (zs : List Int) (k : Nat) (w : World) (h : Rf w rb v zs k) (hk : zs.length < k + 2) :
    Calls Tryz.prog 64 #[.pointer (some ⟨rb, 0, none⟩), .int .i64 1] w (ReadTo w rb v zs k 1) := by
  have hrd : RdC zs k 1 ⟨1, noText, 0, 0, 0⟩ k 3 := by
    unfold RdC
    rw [if_pos rfl]
    exact .inl ⟨hk, rfl⟩
  have Hrd := Lib.hid hrd
  have hrb := h.lt
  clear hrd
  go_enter Tryz.func64, Tryz.ntmps64
  go_wp2_with (go_at_call 63; refine (rfU_short rb v zs k 2 _ (h.two _ _) (by decide) (by decide) (by omega)).mono ?_; rintro e w1 ⟨rfl, hto⟩; obtain ⟨hA, hB, ho1⟩ := two_left hrb ⟨0, noText, 0, 0, 0⟩ ⟨1, noText, 0, 0, 0⟩ hto.2; obtain ⟨k0, k1, k2, k3, k4⟩ := hA.cells; obtain ⟨l0, l1, l2, l3, l4⟩ := hB.cells; obtain ⟨f0, f1, f2, f3, f4⟩ := hA.free; obtain ⟨g0, g1, g2, g3, g4⟩ := hB.free)
  refine bodyPost_ret (v := .tuple #[.agg #[.int .i64 1, .string noText, .int .i64 0, .int .i64 0, .int .i64 0], .int .i64 3]) (by simp [results, Tryz.results64, go_sem, noText, k0, k1, k2, k3, k4, l0, l1, l2, l3, l4]) rfl ?_
  refine ⟨⟨1, noText, 0, 0, 0⟩, k, 3, rfl, Hrd.out, ?_, fun hh => ?_⟩
  · repeat (refine Only.setCell ?_ (fun hl => absurd hl (by simp)) _)
    exact ho1
  · exact absurd hh (by decide)


set_option maxHeartbeats 4000000 in
set_option maxRecDepth 100000 in
theorem refReadTextLong (rb : Nat) (v : Value) (zs : List Int) (k : Nat) (w : World) (h : Rf w rb v zs k) (hk : k + 2 ≤ zs.length) (hu : 256 < uAt zs k 2) :
    Calls Tryz.prog 64 #[.pointer (some ⟨rb, 0, none⟩), .int .i64 1] w (ReadTo w rb v zs k 1) := by
  have hrd : RdC zs k 1 ⟨1, noText, 0, 0, 0⟩ k 20 := by
    unfold RdC
    rw [if_pos rfl]
    exact .inr (.inl ⟨hk, hu, rfl⟩)
  have Hrd := Lib.hid hrd
  have hrb := h.lt
  have hub := uAt_lt h.bytish k 2 (by omega)
  simp only [Int.reducePow] at hub
  obtain ⟨hu0a, hu1a⟩ := hub
  clear hrd
  go_enter Tryz.func64, Tryz.ntmps64
  go_wp2_with (go_at_call 63; refine (rfU_ok rb v zs k 2 _ (h.two _ _) (by decide) (by decide) (by omega)).mono ?_; rintro e w1 ⟨rfl, hto⟩; obtain ⟨hA, hB, ho1⟩ := two_left hrb ⟨0, noText, 0, 0, 0⟩ ⟨1, noText, 0, 0, 0⟩ hto.2; obtain ⟨k0, k1, k2, k3, k4⟩ := hA.cells; obtain ⟨l0, l1, l2, l3, l4⟩ := hB.cells; obtain ⟨f0, f1, f2, f3, f4⟩ := hA.free; obtain ⟨g0, g1, g2, g3, g4⟩ := hB.free)
  refine bodyPost_ret (v := .tuple #[.agg #[.int .i64 1, .string noText, .int .i64 0, .int .i64 0, .int .i64 0], .int .i64 20]) (by simp [results, Tryz.results64, go_sem, noText, k0, k1, k2, k3, k4, l0, l1, l2, l3, l4]) rfl ?_
  refine ⟨⟨1, noText, 0, 0, 0⟩, k, 20, rfl, Hrd.out, ?_, fun hh => ?_⟩
  · repeat (refine Only.setCell ?_ (fun hl => absurd hl (by simp)) _)
    exact ho1
  · exact absurd hh (by decide)


set_option maxHeartbeats 4000000 in
set_option maxRecDepth 100000 in
theorem refReadTextCut (rb : Nat) (v : Value) (zs : List Int) (k : Nat) (w : World) (h : Rf w rb v zs k) (hk : k + 2 ≤ zs.length) (hu : uAt zs k 2 ≤ 256) (hc : zs.length < k + 2 + (uAt zs k 2).toNat) :
    Calls Tryz.prog 64 #[.pointer (some ⟨rb, 0, none⟩), .int .i64 1] w (ReadTo w rb v zs k 1) := by
  have hrd : RdC zs k 1 ⟨1, noText, 0, 0, 0⟩ k 3 := by
    unfold RdC
    rw [if_pos rfl]
    exact .inr (.inr (.inl ⟨hk, hu, hc, rfl⟩))
  have Hrd := Lib.hid hrd
  have hrb := h.lt
  obtain ⟨n, hun⟩ : ∃ n : Nat, uAt zs k 2 = (n : Int) := ⟨(uAt zs k 2).toNat, by have := (uAt_lt h.bytish k 2 (by omega)).1; omega⟩
  have hn256 : n ≤ 256 := by omega
  have hnz : (n : Int) ≤ 256 := by omega
  have htn : (uAt zs k 2).toNat = n := by omega
  rw [htn] at hc
  have Hun := Lib.hid hun
  clear hun htn
  clear hrd
  go_enter Tryz.func64, Tryz.ntmps64
  go_wp2_with (fail)
  refine (rfU_ok rb v zs k 2 _ (h.two _ _) (by decide) (by decide) (by omega)).mono ?_
  rintro e w1 ⟨rfl, hto⟩
  obtain ⟨hA, hB, ho1⟩ := two_left hrb ⟨0, noText, 0, 0, 0⟩ ⟨1, noText, 0, 0, 0⟩ hto.2
  obtain ⟨k0, k1, k2, k3, k4⟩ := hA.cells; obtain ⟨l0, l1, l2, l3, l4⟩ := hB.cells; obtain ⟨f0, f1, f2, f3, f4⟩ := hA.free; obtain ⟨g0, g1, g2, g3, g4⟩ := hB.free
  rw [Hun.out]
  go_wp2_with (fail)
  refine (rfB_short rb v zs (k + 2) n _ hto.1 (by omega)).mono ?_
  rintro e w2 ⟨v2, rfl, hto2⟩
  clear k0 k1 k2 k3 k4 l0 l1 l2 l3 l4 f0 f1 f2 f3 f4 g0 g1 g2 g3 g4
  have hA2 := hA.only hto2.2 (by omega); have hB2 := hB.only hto2.2 (by omega); obtain ⟨k0, k1, k2, k3, k4⟩ := hA2.cells; obtain ⟨l0, l1, l2, l3, l4⟩ := hB2.cells; obtain ⟨f0, f1, f2, f3, f4⟩ := hA2.free; obtain ⟨g0, g1, g2, g3, g4⟩ := hB2.free
  go_wp2
  refine bodyPost_ret (v := .tuple #[.agg #[.int .i64 1, .string noText, .int .i64 0, .int .i64 0, .int .i64 0], .int .i64 3]) (by simp [results, Tryz.results64, go_sem, noText, k0, k1, k2, k3, k4, l0, l1, l2, l3, l4]) rfl ?_
  refine ⟨⟨1, noText, 0, 0, 0⟩, k, 3, rfl, Hrd.out, ?_, fun hh => ?_⟩
  · repeat (refine Only.setCell ?_ (fun hl => absurd hl (by simp)) _)
    exact (ho1.trans hto2.2 (fun _ h _ => h))
  · exact absurd hh (by decide)


set_option maxHeartbeats 4000000 in
set_option maxRecDepth 100000 in
theorem refReadTextOk (rb : Nat) (v : Value) (zs : List Int) (k : Nat) (w : World) (h : Rf w rb v zs k) (hk : k + 2 ≤ zs.length) (hu : uAt zs k 2 ≤ 256) (hc : k + 2 + (uAt zs k 2).toNat ≤ zs.length) :
    Calls Tryz.prog 64 #[.pointer (some ⟨rb, 0, none⟩), .int .i64 1] w (ReadTo w rb v zs k 1) := by
  have hrb := h.lt
  obtain ⟨n, hun⟩ : ∃ n : Nat, uAt zs k 2 = (n : Int) := ⟨(uAt zs k 2).toNat, by have := (uAt_lt h.bytish k 2 (by omega)).1; omega⟩
  have hn256 : n ≤ 256 := by omega
  have hnz : (n : Int) ≤ 256 := by omega
  have htn : (uAt zs k 2).toNat = n := by omega
  rw [htn] at hc
  have Hun := Lib.hid hun
  have Htn := Lib.hid htn
  clear hun htn
  go_enter Tryz.func64, Tryz.ntmps64
  go_wp2_with (fail)
  refine (rfU_ok rb v zs k 2 _ (h.two _ _) (by decide) (by decide) (by omega)).mono ?_
  rintro e w1 ⟨rfl, hto⟩
  obtain ⟨hA, hB, ho1⟩ := two_left hrb ⟨0, noText, 0, 0, 0⟩ ⟨1, noText, 0, 0, 0⟩ hto.2
  obtain ⟨k0, k1, k2, k3, k4⟩ := hA.cells; obtain ⟨l0, l1, l2, l3, l4⟩ := hB.cells; obtain ⟨f0, f1, f2, f3, f4⟩ := hA.free; obtain ⟨g0, g1, g2, g3, g4⟩ := hB.free
  rw [Hun.out]
  go_wp2_with (fail)
  refine (rfB_ok rb v zs (k + 2) n _ hto.1 (by omega)).mono ?_
  rintro e w2 ⟨v2, rfl, hto2, hr2⟩
  have hb2 := hr2.bytes ((h.bytish.drop _).take _)
  go_wp2_with (fail)
  refine (refDecode v2 _ w2 hb2 (by simp; omega)).mono ?_
  rintro e w3 ⟨ys, e0, rfl, hd, ho3⟩
  have hrd : RdC zs k 1 ⟨1, strOfNums ys, 0, 0, 0⟩ (k + 2 + n) e0 := by
    unfold RdC
    rw [if_pos rfl]
    exact .inr (.inr (.inr ⟨hk, hu, by rw [Htn.out]; omega, ys, by rw [Htn.out]; exact hd, rfl, by rw [Htn.out]⟩))
  have Hrd := Lib.hid hrd
  clear hb2 hr2 hd hrd
  clear k0 k1 k2 k3 k4 l0 l1 l2 l3 l4 f0 f1 f2 f3 f4 g0 g1 g2 g3 g4
  have hA2 := hA.only (hto2.2.trans (ho3.mono (T := fun j => j = rb) (fun _ h _ => h.elim)) (fun _ h _ => h)) (by omega); have hB2 := hB.only (hto2.2.trans (ho3.mono (T := fun j => j = rb) (fun _ h _ => h.elim)) (fun _ h _ => h)) (by omega); obtain ⟨k0, k1, k2, k3, k4⟩ := hA2.cells; obtain ⟨l0, l1, l2, l3, l4⟩ := hB2.cells; obtain ⟨f0, f1, f2, f3, f4⟩ := hA2.free; obtain ⟨g0, g1, g2, g3, g4⟩ := hB2.free
  go_wp2
  refine bodyPost_ret (v := .tuple #[.agg #[.int .i64 1, .string (strOfNums ys), .int .i64 0, .int .i64 0, .int .i64 0], .int .i64 e0]) (by simp [results, Tryz.results64, go_sem, noText, k0, k1, k2, k3, k4, l0, l1, l2, l3, l4]) rfl ?_
  refine ⟨⟨1, (strOfNums ys), 0, 0, 0⟩, k + 2 + n, e0, rfl, Hrd.out, ?_, fun hh => ?_⟩
  · repeat (refine Only.setCell ?_ (fun hl => absurd hl (by simp)) _)
    exact (ho1.trans (hto2.2.trans (ho3.mono (T := fun j => j = rb) (fun _ h _ => h.elim)) (fun _ h _ => h)) (fun _ h _ => h))
  · refine h.high (hto2.1.only ho3 (fun h => h) (fun _ _ _ h => h)) ?_
    repeat (refine Only.setCell ?_ (fun _ => by simp) _)
    exact Only.refl _ _

end Go.Proofs.YtodhdiccfobcfaaGreatDoor
namespace Go.Proofs.YtodhdiccfobcfaaGreatDoor
open Go.RowKit
set_option linter.unusedVariables false
set_option linter.unusedSimpArgs false

theorem refRead (rb : Nat) (v : Value) (zs : List Int) (k : Nat) (tag : Int) (w : World) (h : Rf w rb v zs k) :
    Calls Tryz.prog 64 #[.pointer (some ⟨rb, 0, none⟩), .int .i64 tag] w (ReadTo w rb v zs k tag) := by
  by_cases h1 : tag = 1
  · subst h1
    by_cases hk : zs.length < k + 2
    · exact refReadTextShort rb v zs k w h hk
    by_cases hu : 256 < uAt zs k 2
    · exact refReadTextLong rb v zs k w h (by omega) hu
    by_cases hc : zs.length < k + 2 + (uAt zs k 2).toNat
    · exact refReadTextCut rb v zs k w h (by omega) (by omega) hc
    · exact refReadTextOk rb v zs k w h (by omega) (by omega) (by omega)
  by_cases h3 : tag = 3
  · subst h3
    by_cases hk : zs.length < k + 4
    · exact refReadIntShort rb v zs k w h hk
    · exact refReadIntOk rb v zs k w h (by omega)
  by_cases h5 : tag = 5
  · subst h5
    by_cases hk : zs.length < k + 8
    · exact refReadLongShort rb v zs k w h hk
    · exact refReadLongOk rb v zs k w h (by omega)
  by_cases h7 : tag = 7
  · subst h7
    by_cases hk : zs.length < k + 2
    · exact refReadClassShort rb v zs k w h hk
    · exact refReadClassOk rb v zs k w h (by omega)
  by_cases h9 : tag = 9
  · subst h9
    by_cases hk : zs.length < k + 2
    · exact refReadPair9Short rb v zs k w h hk
    by_cases hk2 : zs.length < k + 4
    · exact refReadPair9Cut rb v zs k w h (by omega) hk2
    · exact refReadPair9Ok rb v zs k w h (by omega)
  by_cases h10 : tag = 10
  · subst h10
    by_cases hk : zs.length < k + 2
    · exact refReadPair10Short rb v zs k w h hk
    by_cases hk2 : zs.length < k + 4
    · exact refReadPair10Cut rb v zs k w h (by omega) hk2
    · exact refReadPair10Ok rb v zs k w h (by omega)
  by_cases h12 : tag = 12
  · subst h12
    by_cases hk : zs.length < k + 2
    · exact refReadPair12Short rb v zs k w h hk
    by_cases hk2 : zs.length < k + 4
    · exact refReadPair12Cut rb v zs k w h (by omega) hk2
    · exact refReadPair12Ok rb v zs k w h (by omega)
  exact refReadNone rb v zs k tag w h h1 h3 h5 h7 (by omega)

theorem info_const : (Tryz.prog.info? 67).map (fun i => (i.zero, i.size, i.bytes)) = some (some (.agg #[.int .i64 0, .string ⟨#[]⟩, .int .i64 0, .int .i64 0, .int .i64 0]), 5, 48) := by kernel_rfl

/-- A reader made new. -/
theorem Rf.new {w : World} {v : Value} {zs : List Int} (hb : Bytes w v zs) (hl : zs.length ≤ 140737488355328) : Rf (w.alloc (.cells #[v, .int .i64 0] 78)) w.heap.size v zs 0 :=
  ⟨heap_alloc_new w _, hb.only ((Only.refl (fun _ => False) w).alloc _) (fun _ _ _ h => h), fun b hv hz e => by have := hb.lt b hv hz; omega, Nat.zero_le _, hl⟩

/-- A new row of one constant, as what is appended. -/
theorem Src.const {w : World} {m : Nat} (c : ConstV) (h : w.heap.size = m) : Src (w.alloc (.cells #[.int .i64 c.tag, .string c.text, .int .i64 c.n, .int .i64 c.a, .int .i64 c.b] 67)) 5 (.slice (some ⟨m, 0, none⟩) 1 1) 1 (cellsC c) := by
  subst h
  refine ⟨rfl, ?_, _, 1, rfl, (fun e => by cases e), fun ad hd j u hj => ?_⟩
  · intro x hx
    simp only [cellsC, List.mem_cons, List.mem_nil_iff, or_false] at hx
    rcases hx with rfl | rfl | rfl | rfl | rfl <;> rfl
  · cases hd
    rw [add_lit, Nat.zero_add, cell_blk (heap_alloc_new w _)]
    simpa [cellsC] using hj
/-- One constant more. -/
theorem RowC.more {w3 : World} {B : Nat} {v' : Value} {cs : List ConstV} {c : ConstV} (hown : w3.ownsRow B 67 5 v' (cs.length + 1) (cs.flatMap cellsC ++ cellsC c)) : RowC w3 B v' (cs ++ [c]) := by
  unfold RowC
  rw [List.length_append, List.flatMap_append]
  simpa using hown
theorem only_grown {w2 w3 : World} {v : Value} (hg : w2.grownBy w3 v.ownBlock) : Only (fun k => v.ownBlock = some k) w2 w3 := (Only.refl _ _).grown hg (fun k hk _ => hk)

/-- What Decode leaves. -/
def PoolTo (w : World) (zs : List Int) (e : Ending) (w' : World) : Prop :=
  ∃ v' cs n e0, e = .returned (.tuple #[v', .int .i64 n, .int .i64 e0]) ∧ DecP zs cs n e0 ∧ Only (fun _ => False) w w' ∧ RowC w' w.heap.size v' cs ∧ ∀ c ∈ cs, Fits c
theorem PoolTo.none {w w' : World} {zs : List Int} {e0 : Int} (h : DecP zs [] 0 e0) (ho : Only (fun _ => False) w w') : PoolTo w zs (.returned (.tuple #[.slice .none 0 0, .int .i64 0, .int .i64 e0])) w' :=
  ⟨_, [], 0, e0, rfl, h, ho, World.ownsRow_nil _ _ _ _, fun c hc => by cases hc⟩

set_option maxHeartbeats 4000000 in
set_option maxRecDepth 100000 in
theorem refPoolDecode (v : Value) (zs : List Int) (w : World) (hb : Bytes w v zs) (hl : zs.length ≤ 140737488351232) :
    Calls Tryz.prog 33 #[v] w (PoolTo w zs) := by
  obtain ⟨i0, hi, hz0, hz1, hz2⟩ := info_parts info_const
  obtain ⟨ao, cap, rfl, hq1, hq2, hq3, hbz, hcells⟩ := id hb
  have hrf := Rf.new hb (by omega)
  have Hrf := Lib.hid hrf
  have hon0 : Only (fun _ => False) w (w.alloc (.cells #[.slice ao zs.length cap, .int .i64 0] 78)) := (Only.refl _ w).alloc _
  have Hon0 := Lib.hid hon0
  clear hb hcells hq3 hrf hon0
  by_cases h2 : zs.length < 2
  · have hdec : DecP zs [] 0 3 := .inl ⟨h2, rfl, rfl, rfl⟩
    have Hdec := Lib.hid hdec
    clear hdec
    go_enter Tryz.func33, Tryz.ntmps33
    go_wp2_with (go_at_call 63; refine (rfU_short w.heap.size _ zs 0 2 _ Hrf.out (by decide) (by decide) (by omega)).mono ?_; rintro e w1 ⟨rfl, hto⟩)
    go_ret3
    exact PoolTo.none Hdec.out (Hon0.out.trans hto.2 (fun k hk hl => by omega))
  have hub := uAt_lt hbz 0 2 (by omega)
  simp only [Int.reducePow] at hub
  obtain ⟨N, hN⟩ : ∃ N : Nat, uAt zs 0 2 = (N : Int) := ⟨(uAt zs 0 2).toNat, by omega⟩
  have hrfU := rfU_ok w.heap.size (.slice ao zs.length cap) zs 0 2 _ Hrf.out (by decide) (by decide) (by omega)
  rw [hN, Nat.zero_add] at hrfU
  by_cases hbig : 1024 < N
  · have hdec : DecP zs [] 0 2 := .inr (.inl ⟨by omega, by omega, rfl, rfl, rfl⟩)
    have Hdec := Lib.hid hdec
    have hbz2 : (1024 : Int) < (N : Int) := by omega
    clear hdec hN hub
    go_enter Tryz.func33, Tryz.ntmps33
    go_wp2_with (go_at_call 63; refine hrfU.mono ?_; rintro e w1 ⟨rfl, hto⟩)
    go_ret3
    exact PoolTo.none Hdec.out (Hon0.out.trans hto.2 (fun k hk hl => by omega))
  by_cases hzero : N = 0
  · subst hzero
    have hdec : DecP zs [] 0 40 := .inr (.inr (.inl ⟨by omega, by omega, rfl, rfl, rfl⟩))
    have Hdec := Lib.hid hdec
    clear hdec hN hub
    go_enter Tryz.func33, Tryz.ntmps33
    go_wp2_with (go_at_call 63; refine hrfU.mono ?_; rintro e w1 ⟨rfl, hto⟩)
    go_ret3
    exact PoolTo.none Hdec.out (Hon0.out.trans hto.2 (fun k hk hl => by omega))
  have hNz : (N : Int) ≤ 1024 := by omega
  have hNp : ¬ (N : Int) = 0 := by omega
  have h2' : 2 ≤ zs.length := by omega
  have HN := Lib.hid hN
  have hNb : ((N : Int) == 0) = false := by simpa using hNp
  have hNd : decide ((1024 : Int) < (N : Int)) = false := decide_eq_false (by omega)
  clear hN hub
  go_enter Tryz.func33, Tryz.ntmps33
  go_wp2_with (go_at_call 63; refine hrfU.mono ?_; rintro e w1 ⟨rfl, hto⟩)
  have hon1 := Hon0.out.trans hto.2 (fun k hk hl => by omega)
  have hs1 : w.heap.size < w1.heap.size := hto.1.lt
  have hrowS : RowC (w1.alloc (.cells #[.int .i64 0, .string { data := #[] }, .int .i64 0, .int .i64 0, .int .i64 0] 67)) w1.heap.size (.slice (some ⟨w1.heap.size, 0, none⟩) 1 1) [zeroK] :=
    ⟨rfl, .inr ⟨w1.heap.size, 1, _, rfl, Nat.le_refl _, heap_alloc_new w1 _, Nat.le_refl _, by decide, rfl, rfl⟩⟩
  have hrfS := hto.1.only ((Only.refl (fun _ => False) w1).alloc (.cells #[.int .i64 0, .string { data := #[] }, .int .i64 0, .int .i64 0, .int .i64 0] 67)) (fun h => h) (fun _ _ _ h => h)
  have honS := hon1.trans ((Only.refl (fun _ => False) w1).alloc (.cells #[.int .i64 0, .string { data := #[] }, .int .i64 0, .int .i64 0, .int .i64 0] 67)) (fun _ h => h.elim)
  clear hto hon1 hrfU
  go_loopw [8, 9] (fun p i wr => ∃ (ds : List ConstV) (k : Nat), Reads zs ds k ∧ ds.length ≤ N ∧ i = .int .i64 ds.length ∧ RowC wr w1.heap.size p ds ∧ Rf wr w.heap.size (.slice ao zs.length cap) zs k ∧ Only (fun _ => False) w wr ∧ w1.heap.size ≤ wr.heap.size) (fun _ i _ => N - (intOf i).toNat)
  case atStart => exact ⟨[zeroK], 2, .start, by simp; omega, rfl, hrowS, hrfS, honS, by simp⟩
  case round =>
    obtain ⟨ds, k, hrd, hdl, rfl, hrow, hrf, hon, hsz⟩ := hrel
    clear hrowS hrfS honS
    have Hrd := Lib.hid hrd
    have hge := hrow.ge
    obtain ⟨aP, cP, rfl, _, _⟩ := slice_of_owns hrow
    by_cases hlt : ds.length < N
    · have hltz : (ds.length : Int) < (N : Int) := by omega
      by_cases hk : zs.length < k + 1
      · have hdec : DecP zs [] 0 3 := .inr (.inr (.inr ⟨h2', by rw [HN.out]; omega, by rw [HN.out]; omega, .inl ⟨3, .inl ⟨ds, k, zeroK, k, 3, Hrd.out, by rw [HN.out]; omega, .inl ⟨hk, rfl⟩, by decide, rfl⟩, rfl, rfl, rfl⟩⟩))
        have Hdec := Lib.hid hdec
        clear hdec hrd
        go_wp2_with (go_at_call 63; refine (rfU_short w.heap.size _ zs k 1 _ hrf (by decide) (by decide) (by omega)).mono ?_; rintro e w2 ⟨rfl, hto⟩)
        go_ret3
        exact PoolTo.none Hdec.out (hon.trans hto.2 (fun j hj hl => by omega))
      have hub := uAt_lt hbz k 1 (by omega)
      simp only [Int.reducePow] at hub
      obtain ⟨hu0, hu1⟩ := hub
      clear hrd
      go_wp2_with (fail)
      refine (rfU_ok w.heap.size _ zs k 1 _ hrf (by decide) (by decide) (by omega)).mono ?_
      rintro e w2 ⟨rfl, hto⟩
      have hon2 := hon.trans hto.2 (fun j hj hl => by omega)
      have hrow2 := hrow.only hto.2 (fun j hj e => by have := hge j hj; omega)
      clear hrow hrf
      go_wp2_with (fail)
      refine (refRead w.heap.size _ zs (k + 1) (uAt zs k 1) w2 hto.1).mono ?_
      rintro e w3 ⟨c, k', e0, rfl, hrc, ho3, hrf3⟩
      have hon3 := hon2.trans ho3 (fun j hj hl => by omega)
      have hrow3 := hrow2.only ho3 (fun j hj e => by have := hge j hj; omega)
      have hsz3 : w1.heap.size ≤ w3.heap.size := Nat.le_trans hsz (Nat.le_trans hto.2.size ho3.size)
      have hone : RdOne zs k c k' e0 := .inr ⟨by omega, hrc⟩
      clear hrow2 hto
      by_cases he0 : e0 = 0
      · subst he0
        have hrf3' := hrf3 rfl
        have Hone := Lib.hid hone
        have Hrow3 := Lib.hid hrow3
        have Hrf3 := Lib.hid hrf3'
        obtain ⟨ct, cx, cn, ca, cb⟩ := c
        clear hrf3 hrf3' hone hrow3 hrc
        have hgoC : ∀ o o', Only (fun _ => False) w3 ((w3.alloc o).alloc o') := fun o o' => ((Only.refl _ _).alloc o).alloc o'
        have HgoC := Lib.hid hgoC
        clear hgoC
        go_wp2_with (at_builtin; go_loud (refine wpList_append_src rfl (.tmp 54) (.tmp 56) 22 rfl 67 i0 _ 5 48 Tryz.underlying22 hi hz0 hz1 hz2 rfl (by decide) w1.heap.size (.slice aP ds.length cP) ds.length (ds.flatMap cellsC) rfl (by exact (Hrow3.out).only (HgoC.out _ _) (fun _ _ h => h)) (by exact Nat.le_trans hsz3 (HgoC.out _ _).size) (.slice (some ⟨w3.heap.size + 1, 0, none⟩) 1 1) 1 (cellsC ⟨ct, cx, cn, ca, cb⟩) rfl (by exact Src.const ⟨ct, cx, cn, ca, cb⟩ (by simp)) (by unfold maxLen; omega) (by omega) ?_); intro v' w4 hown hgrow hnew)
        have hog := only_grown hgrow
        have hrow4 := RowC.more (c := ⟨ct, cx, cn, ca, cb⟩) hown
        have hon4 : Only (fun _ => False) w w4 := (hon3.trans (HgoC.out _ _) (fun _ h => h.elim)).trans hog (fun j hj hl => by have := hge j hj; omega)
        have hrf4 := ((Hrf3.out).only (HgoC.out _ _) (fun h => h) (fun _ _ _ h => h)).only hog (fun hj => by have := hge _ hj; omega) (fun b hb hz hj => by
          have h1 := (Hrf.out).byt.lt b hb hz
          simp at h1
          have h2 := hge b hj
          omega)
        have hsz4 : w1.heap.size ≤ w4.heap.size := Nat.le_trans hsz3 (Nat.le_trans (HgoC.out _ _).size hog.size)
        clear hown hgrow hnew hog
        go_roundw
        case rel => exact ⟨ds ++ [⟨ct, cx, cn, ca, cb⟩], k', .more Hrd.out Hone.out, by simp; omega, by simp, hrow4, hrf4, hon4, hsz4⟩
        case measure => simp [intOf]; omega
      · have hdec : DecP zs [] 0 e0 := .inr (.inr (.inr ⟨h2', by rw [HN.out]; omega, by rw [HN.out]; omega, .inl ⟨e0, .inl ⟨ds, k, c, k', e0, Hrd.out, by rw [HN.out]; omega, hone, he0, rfl⟩, rfl, rfl, rfl⟩⟩))
        have Hdec := Lib.hid hdec
        have he0b : (e0 == 0) = false := by simpa using he0
        have he0c : (e0 != 0) = true := by simpa using he0
        clear hdec hrf3 hone hrc he0
        go_wp2
        go_ret3
        exact PoolTo.none Hdec.out (hon3.trans ((Only.refl (fun _ => False) w3).alloc _) (fun _ h => h.elim))
    · have hdn : ds.length = N := by omega
      have hfit := (hrd.fits hbz h2').1
      have hto : ReadsTo zs (uAt zs 0 2).toNat (.inl (ds, k)) := .inr ⟨ds, k, Hrd.out, by rw [HN.out]; omega, rfl⟩
      have hp := hrow.pool (fun c hc => (hfit c hc).1)
      have htx : Texts ds := fun c hc => Nat.le_trans (hfit c hc).2 (by decide)
      have hck := refCheck _ ds wr hp htx
      obtain ⟨e0, he0⟩ : ∃ e0, checkZ ds = e0 := ⟨_, rfl⟩
      rw [he0] at hck
      have hN1 : 1 ≤ uAt zs 0 2 ∧ uAt zs 0 2 ≤ 1024 := by rw [HN.out]; omega
      have Hto := Lib.hid hto
      have Hfit := Lib.hid hfit
      have Hrow := Lib.hid hrow
      have Hck := Lib.hid hck
      have He0 := Lib.hid he0
      have HN1 := Lib.hid hN1
      have Hrfk := Lib.hid hrf
      have hnl : (N : Int) ≤ (ds.length : Int) := by omega
      clear hfit hto hp htx hck hrow hrd he0 hN1 hrf hdn
      by_cases hz : e0 = 0
      · subst hz
        have hdec : DecP zs ds k 0 := .inr (.inr (.inr ⟨h2', HN1.out.1, HN1.out.2, .inr ⟨ds, k, Hto.out, .inr ⟨He0.out, rfl, rfl, rfl⟩⟩⟩))
        have Hdec := Lib.hid hdec
        clear hdec
        go_wp2_with (go_at_call 48; refine (Hck.out).mono ?_; rintro e w2 ⟨rfl, ho2⟩)
        have hon2 := hon.trans ho2 (fun _ h => h.elim)
        have hrf2 := (Hrfk.out).only ho2 (fun h => h) (fun _ _ _ h => h)
        have g1 := cell_blk hrf2.blk 1
        simp at g1
        have Hr2 := Lib.hid ((Hrow.out).only ho2 (fun _ _ h => h))
        clear hrf2
        go_quiet (fail)
        go_wp2
        go_ret3
        refine ⟨_, ds, k, 0, rfl, Hdec.out, hon2.drewN _, ?_, Hfit.out⟩
        have hd : Only (fun _ => False) w2 (w2.drewN nq) := (Only.refl _ _).drewN _
        exact owns_base ((Hr2.out).only hd (fun _ _ h => h)) (fun j hj => by have := hge j hj; omega)
      · have hdec : DecP zs [] 0 e0 := .inr (.inr (.inr ⟨h2', HN1.out.1, HN1.out.2, .inr ⟨ds, k, Hto.out, .inl ⟨by rw [He0.out]; exact hz, rfl, rfl, He0.out.symm⟩⟩⟩))
        have Hdec := Lib.hid hdec
        have he0b : (e0 == 0) = false := by simpa using hz
        have he0c : (e0 != 0) = true := by simpa using hz
        clear hdec hz
        go_wp2_with (go_at_call 48; refine (Hck.out).mono ?_; rintro e w2 ⟨rfl, ho2⟩)
        go_ret3
        exact PoolTo.none Hdec.out (hon.trans ho2 (fun _ h => h.elim))
end Go.Proofs.YtodhdiccfobcfaaGreatDoor
