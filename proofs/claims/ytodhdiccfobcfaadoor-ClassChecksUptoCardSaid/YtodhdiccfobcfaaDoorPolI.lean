/- A pool's bytes, whatever stands behind, are read as the pool. No condition. -/
import Derived.Test.YtodhdiccfobcfaaDoorPolH
import Derived.Test.YtodhdiccfobcfaaDoorPolE
namespace Go.Proofs.YtodhdiccfobcfaaDoor
open Go.RowKit
set_option linter.unusedVariables false
set_option linter.unusedSimpArgs false

theorem uAt_mid (pre mid post : List Int) (k n : Nat) (hk : k = pre.length) (hn : mid.length = n) : uAt (pre ++ (mid ++ post)) k n = valB mid := by
  subst hk hn
  unfold uAt
  rw [List.drop_left, List.take_left]
theorem valB_be2 {n : Int} (h0 : 0 ≤ n) (h1 : n ≤ 65535) : valB (be2 n) = n := by
  simp [valB, be2]
  omega
theorem sgn_back {n : Nat} (h : n = 4 ∨ n = 8) {v z : Int} (h0 : -(2 ^ (8 * n - 1)) ≤ z) (h1 : z < 2 ^ (8 * n - 1)) (hv : v = z % 2 ^ (8 * n)) : sgn n v = z := by
  unfold sgn
  subst hv
  rcases h with rfl | rfl
  all_goals
    simp only [Nat.reduceMul, Nat.reduceSub, Int.reducePow] at h0 h1 ⊢
    by_cases hz : 0 ≤ z
    · rw [if_neg (by omega)]; omega
    · rw [if_pos (by omega)]; omega
theorem valB_four {n : Int} (h0 : -2147483648 ≤ n) (h1 : n ≤ 2147483647) : sgn 4 (valB [n / 16777216 % 256, n / 65536 % 256, n / 256 % 256, n % 256]) = n := by
  apply sgn_back (.inl rfl) (by simp only [Nat.reduceMul, Nat.reduceSub, Int.reducePow]; omega) (by simp only [Nat.reduceMul, Nat.reduceSub, Int.reducePow]; omega)
  simp only [valB, List.foldl, Nat.reduceMul, Int.reducePow]
  omega
theorem valB_eight {n : Int} (h : I64 n) : sgn 8 (valB [n / 72057594037927936 % 256, n / 281474976710656 % 256, n / 1099511627776 % 256, n / 4294967296 % 256, n / 16777216 % 256, n / 65536 % 256, n / 256 % 256, n % 256]) = n := by
  unfold I64 at h
  apply sgn_back (.inr rfl) (by simp only [Nat.reduceMul, Nat.reduceSub, Int.reducePow]; omega) (by simp only [Nat.reduceMul, Nat.reduceSub, Int.reducePow]; omega)
  simp only [valB, List.foldl, Nat.reduceMul, Int.reducePow]
  omega
theorem enc_dec {x : ByteArray} {ys : List Int} (h : Enc (nums x) ys 0) : Dec ys (nums x) 0 := by
  rcases h with ⟨cs, ht, rfl, _⟩ | ⟨_, _, h⟩
  · exact .inl ⟨cs, ⟨ht.1, rfl⟩, ht.2, rfl⟩
  · cases h

theorem strOf_nums (x : ByteArray) : strOfNums (nums x) = x := by
  rcases x with ⟨⟨l⟩⟩
  have : strOfNums (nums ⟨⟨l⟩⟩) = ⟨(((numsL l).map fun n => UInt8.ofNat n.toNat)).toArray⟩ := rfl
  rw [this]
  congr 2
  unfold numsL
  rw [List.map_map]
  conv => rhs; rw [← List.map_id l]
  apply List.map_congr_left
  intro u _
  simp

/-- Each constant's bytes are read as the constant. -/
theorem ConstB.read {pre post b : List Int} {c : ConstV} (h : ConstB c b) (hbare : bareZ c = true) (hn : I64 c.n)
    (hr : (c.tag = 3 → -2147483648 ≤ c.n ∧ c.n ≤ 2147483647) ∧ (c.tag = 7 ∨ c.tag = 9 ∨ c.tag = 10 ∨ c.tag = 12 → 0 ≤ c.a ∧ c.a ≤ 1023) ∧ (c.tag = 9 ∨ c.tag = 10 ∨ c.tag = 12 → 0 ≤ c.b ∧ c.b ≤ 1023)) :
    RdOne (pre ++ (b ++ post)) pre.length c (pre ++ b).length 0 := by
  obtain ⟨t, x, n, a, bb⟩ := c
  obtain ⟨hr3, hra, hrb⟩ := hr
  simp only at hr3 hra hrb hn hbare
  rcases h with ⟨ht, ys, he, hl, rfl⟩ | ⟨ht, rfl⟩ | ⟨ht, rfl⟩ | ⟨ht, rfl⟩ | ⟨ht, rfl⟩
  · simp only at ht he
    subst ht
    simp [bareZ] at hbare
    obtain ⟨rfl, rfl, rfl⟩ := hbare
    have e0 : pre ++ ((1 :: be2 (ys.length : Int) ++ ys) ++ post) = pre ++ ([1] ++ (be2 ys.length ++ ys ++ post)) := by simp
    have e1 : pre ++ ((1 :: be2 (ys.length : Int) ++ ys) ++ post) = (pre ++ [1]) ++ (be2 ys.length ++ (ys ++ post)) := by simp
    have e2 : pre ++ ((1 :: be2 (ys.length : Int) ++ ys) ++ post) = (pre ++ [1] ++ be2 ys.length) ++ (ys ++ post) := by simp
    have u0 : uAt (pre ++ ((1 :: be2 (ys.length : Int) ++ ys) ++ post)) pre.length 1 = 1 := by rw [e0, uAt_mid pre [1] _ _ 1 rfl rfl]; rfl
    have u1 : uAt (pre ++ ((1 :: be2 (ys.length : Int) ++ ys) ++ post)) (pre.length + 1) 2 = (ys.length : Int) := by
      rw [e1, uAt_mid (pre ++ [1]) (be2 ys.length) _ _ 2 (by simp) rfl, valB_be2 (by omega) (by omega)]
    refine .inr ⟨by simp, ?_⟩
    rw [u0]
    unfold RdC
    rw [if_pos rfl]
    refine .inr (.inr (.inr ⟨by simp [be2]; omega, by rw [u1]; omega, by rw [u1]; simp [be2]; omega, nums x, ?_, by rw [strOf_nums], by rw [u1]; simp [be2]; omega⟩))
    rw [u1, Int.toNat_natCast]
    have : ((pre ++ ((1 :: be2 (ys.length : Int) ++ ys) ++ post)).drop (pre.length + 1 + 2)).take ys.length = ys := by
      rw [e2, show pre.length + 1 + 2 = (pre ++ [1] ++ be2 (ys.length : Int)).length by simp [be2], List.drop_left, List.take_left]
    rw [this]
    exact enc_dec he
  · simp only at ht
    subst ht
    simp [bareZ] at hbare
    obtain ⟨rfl, rfl, rfl⟩ := hbare
    have e0 : pre ++ ((3 :: [n / 16777216 % 256, n / 65536 % 256, n / 256 % 256, n % 256]) ++ post) = pre ++ ([3] ++ ([n / 16777216 % 256, n / 65536 % 256, n / 256 % 256, n % 256] ++ post)) := by simp
    have e1 : pre ++ ((3 :: [n / 16777216 % 256, n / 65536 % 256, n / 256 % 256, n % 256]) ++ post) = (pre ++ [3]) ++ ([n / 16777216 % 256, n / 65536 % 256, n / 256 % 256, n % 256] ++ post) := by simp
    have u0 : uAt (pre ++ ((3 :: [n / 16777216 % 256, n / 65536 % 256, n / 256 % 256, n % 256]) ++ post)) pre.length 1 = 3 := by rw [e0, uAt_mid pre [3] _ _ 1 rfl rfl]; rfl
    have u1 : uAt (pre ++ ((3 :: [n / 16777216 % 256, n / 65536 % 256, n / 256 % 256, n % 256]) ++ post)) (pre.length + 1) 4 = valB ([n / 16777216 % 256, n / 65536 % 256, n / 256 % 256, n % 256]) := by rw [e1, uAt_mid (pre ++ [3]) ([n / 16777216 % 256, n / 65536 % 256, n / 256 % 256, n % 256]) _ _ 4 (by simp) rfl]
    refine .inr ⟨by simp, ?_⟩
    rw [u0]
    unfold RdC
    rw [if_neg (by decide), if_pos rfl]
    refine .inr ⟨by simp [be2]; omega, rfl, ?_, by simp⟩
    rw [u1]
    show _ = (⟨3, noText, sgn 4 (valB _), 0, 0⟩ : ConstV)
    rw [valB_four (hr3 rfl).1 (hr3 rfl).2]
    rfl
  · simp only at ht
    subst ht
    simp [bareZ] at hbare
    obtain ⟨rfl, rfl, rfl⟩ := hbare
    have e0 : pre ++ ((5 :: [n / 72057594037927936 % 256, n / 281474976710656 % 256, n / 1099511627776 % 256, n / 4294967296 % 256, n / 16777216 % 256, n / 65536 % 256, n / 256 % 256, n % 256]) ++ post) = pre ++ ([5] ++ ([n / 72057594037927936 % 256, n / 281474976710656 % 256, n / 1099511627776 % 256, n / 4294967296 % 256, n / 16777216 % 256, n / 65536 % 256, n / 256 % 256, n % 256] ++ post)) := by simp
    have e1 : pre ++ ((5 :: [n / 72057594037927936 % 256, n / 281474976710656 % 256, n / 1099511627776 % 256, n / 4294967296 % 256, n / 16777216 % 256, n / 65536 % 256, n / 256 % 256, n % 256]) ++ post) = (pre ++ [5]) ++ ([n / 72057594037927936 % 256, n / 281474976710656 % 256, n / 1099511627776 % 256, n / 4294967296 % 256, n / 16777216 % 256, n / 65536 % 256, n / 256 % 256, n % 256] ++ post) := by simp
    have u0 : uAt (pre ++ ((5 :: [n / 72057594037927936 % 256, n / 281474976710656 % 256, n / 1099511627776 % 256, n / 4294967296 % 256, n / 16777216 % 256, n / 65536 % 256, n / 256 % 256, n % 256]) ++ post)) pre.length 1 = 5 := by rw [e0, uAt_mid pre [5] _ _ 1 rfl rfl]; rfl
    have u1 : uAt (pre ++ ((5 :: [n / 72057594037927936 % 256, n / 281474976710656 % 256, n / 1099511627776 % 256, n / 4294967296 % 256, n / 16777216 % 256, n / 65536 % 256, n / 256 % 256, n % 256]) ++ post)) (pre.length + 1) 8 = valB ([n / 72057594037927936 % 256, n / 281474976710656 % 256, n / 1099511627776 % 256, n / 4294967296 % 256, n / 16777216 % 256, n / 65536 % 256, n / 256 % 256, n % 256]) := by rw [e1, uAt_mid (pre ++ [5]) ([n / 72057594037927936 % 256, n / 281474976710656 % 256, n / 1099511627776 % 256, n / 4294967296 % 256, n / 16777216 % 256, n / 65536 % 256, n / 256 % 256, n % 256]) _ _ 8 (by simp) rfl]
    refine .inr ⟨by simp, ?_⟩
    rw [u0]
    unfold RdC
    rw [if_neg (by decide), if_neg (by decide), if_pos rfl]
    refine .inr ⟨by simp [be2]; omega, rfl, ?_, by simp⟩
    rw [u1]
    show _ = (⟨5, noText, sgn 8 (valB _), 0, 0⟩ : ConstV)
    rw [valB_eight hn]
    rfl
  · simp only at ht
    subst ht
    simp [bareZ] at hbare
    obtain ⟨rfl, rfl, rfl⟩ := hbare
    have e0 : pre ++ ((7 :: be2 a) ++ post) = pre ++ ([7] ++ (be2 a ++ post)) := by simp
    have e1 : pre ++ ((7 :: be2 a) ++ post) = (pre ++ [7]) ++ (be2 a ++ post) := by simp
    have u0 : uAt (pre ++ ((7 :: be2 a) ++ post)) pre.length 1 = 7 := by rw [e0, uAt_mid pre [7] _ _ 1 rfl rfl]; rfl
    have u1 : uAt (pre ++ ((7 :: be2 a) ++ post)) (pre.length + 1) 2 = valB (be2 a) := by rw [e1, uAt_mid (pre ++ [7]) (be2 a) _ _ 2 (by simp) rfl]
    refine .inr ⟨by simp, ?_⟩
    rw [u0]
    unfold RdC
    rw [if_neg (by decide), if_neg (by decide), if_neg (by decide), if_pos rfl]
    refine .inr ⟨by simp [be2]; omega, rfl, ?_, by simp [be2]⟩
    rw [u1, valB_be2 (by have := hra (.inl rfl); omega) (by have := hra (.inl rfl); omega)]
    rfl
  · simp only at ht
    have hb : x = ⟨#[]⟩ ∧ n = 0 := by
      unfold bareZ at hbare
      simp only at hbare
      rw [if_neg (by omega), if_neg (by omega), if_neg (by omega)] at hbare
      simpa using hbare
    obtain ⟨rfl, rfl⟩ := hb
    have ha := hra (by rcases ht with h | h | h <;> simp [h])
    have hb := hrb ht
    have e0 : pre ++ ((t :: be2 a ++ be2 bb) ++ post) = pre ++ ([t] ++ (be2 a ++ be2 bb ++ post)) := by simp
    have e1 : pre ++ ((t :: be2 a ++ be2 bb) ++ post) = (pre ++ [t]) ++ (be2 a ++ (be2 bb ++ post)) := by simp
    have e2 : pre ++ ((t :: be2 a ++ be2 bb) ++ post) = (pre ++ [t] ++ be2 a) ++ (be2 bb ++ post) := by simp
    have u0 : uAt (pre ++ ((t :: be2 a ++ be2 bb) ++ post)) pre.length 1 = t := by rw [e0, uAt_mid pre [t] _ _ 1 rfl rfl]; simp [valB]
    have u1 : uAt (pre ++ ((t :: be2 a ++ be2 bb) ++ post)) (pre.length + 1) 2 = a := by rw [e1, uAt_mid (pre ++ [t]) (be2 a) _ _ 2 (by simp) rfl, valB_be2 (by omega) (by omega)]
    have u2 : uAt (pre ++ ((t :: be2 a ++ be2 bb) ++ post)) (pre.length + 1 + 2) 2 = bb := by rw [e2, uAt_mid (pre ++ [t] ++ be2 a) (be2 bb) _ _ 2 (by simp [be2]) rfl, valB_be2 (by omega) (by omega)]
    refine .inr ⟨by simp, ?_⟩
    rw [u0]
    unfold RdC
    rw [if_neg (by omega), if_neg (by omega), if_neg (by omega), if_neg (by omega), if_pos ht]
    refine .inr ⟨by simp [be2]; omega, rfl, ?_, by simp [be2]⟩
    rw [u1, u2]
    rfl

/-- What may stand in a pool that may be. -/
theorem bare_of_one {cs : List ConstV} {c : ConstV} (h : oneZ cs c = 0) : bareZ c = true := by
  unfold oneZ at h
  by_cases hb : bareZ c = false
  · rw [if_pos hb] at h; simp at h
  · simpa using hb
/-- The bytes of some constants, read one by one. -/
theorem ConstsB.reads {all : List ConstV} (hl : all.length ≤ 1024) {cs : List ConstV} {bs : List Int} (h : ConstsB cs bs) : (∀ c ∈ cs, oneZ all c = 0 ∧ I64 c.n) → ∀ {pre post : List Int}, pre.length = 2 →
    Reads (pre ++ (bs ++ post)) (zeroK :: cs) (pre ++ bs).length := by
  induction h with
  | nil => intro _ pre post hp; simp only [List.nil_append, List.append_nil]; rw [hp]; exact .start
  | @snoc cs bs c b h1 h2 ih =>
    intro hall pre post hp
    have hc := hall c (by simp)
    have hi := ih (fun d hd => hall d (by simp [hd])) (pre := pre) (post := b ++ post) hp
    have hz := oneZ_zero hl hc.1
    have hr := ConstB.read (pre := pre ++ bs) (post := post) h2 (bare_of_one hc.1) hc.2 (by
      rcases hz with ⟨h, _⟩ | ⟨h, h0, h1⟩ | h | ⟨h, h0, h1⟩ | ⟨h, ⟨h0, h1⟩, h2, h3⟩
      · exact ⟨fun e => by omega, fun e => by omega, fun e => by omega⟩
      · exact ⟨fun e => ⟨h0, h1⟩, fun e => by omega, fun e => by omega⟩
      · exact ⟨fun e => by omega, fun e => by omega, fun e => by omega⟩
      · exact ⟨fun e => by omega, fun e => ⟨h0, h1⟩, fun e => by omega⟩
      · exact ⟨fun e => by omega, fun e => ⟨h0, h1⟩, fun e => ⟨h2, h3⟩⟩)
    have hm := Reads.more (c := c) (k' := (pre ++ bs ++ b).length) (by simpa [List.append_assoc] using hi) (by simpa [List.append_assoc] using hr)
    simpa [List.append_assoc] using hm
/-- There and back. -/
theorem pool_back {cs : List ConstV} {bs : List Int} (hz : checkZ cs = 0) (hn : ∀ c ∈ cs, I64 c.n) (hb : ConstsB (cs.drop 1) bs) (post : List Int) :
    DecP (be2 cs.length ++ bs ++ post) cs ((be2 cs.length ++ bs).length : Int) 0 := by
  obtain ⟨h1, h2, h3, h4⟩ := checkZ_zero hz
  obtain ⟨c, r, rfl⟩ : ∃ c r, cs = c :: r := by cases cs with | nil => simp at h2 | cons c r => exact ⟨c, r, rfl⟩
  have hc : c = zeroK := h3
  subst hc
  have hlen : (be2 ((zeroK :: r).length : Int)).length = 2 := rfl
  have hrd := ConstsB.reads (all := zeroK :: r) h1 (cs := r) (by simpa using hb) (fun d hd => by
    obtain ⟨i, hi, rfl⟩ := List.mem_iff_getElem.1 hd
    have := h4 (i + 1) (by omega) (by simpa using hi)
    simp [List.getD, hi] at this
    exact ⟨this, hn _ (by simp)⟩) (pre := be2 ((zeroK :: r).length : Int)) (post := post) hlen
  rw [← List.append_assoc] at hrd
  have hu : uAt (be2 ((zeroK :: r).length : Int) ++ bs ++ post) 0 2 = ((zeroK :: r).length : Int) := by
    have := uAt_mid [] (be2 ((zeroK :: r).length : Int)) (bs ++ post) 0 2 rfl rfl
    rw [List.nil_append, ← List.append_assoc] at this
    rw [this, valB_be2 (by omega) (by omega)]
  refine .inr (.inr (.inr ⟨by simp [be2], by rw [hu]; simp only [List.length_cons]; omega, by rw [hu]; omega, .inr ⟨zeroK :: r, _, .inr ⟨_, _, hrd, by rw [hu]; simp, rfl⟩, .inr ⟨hz, rfl, rfl, rfl⟩⟩⟩))
end Go.Proofs.YtodhdiccfobcfaaDoor
