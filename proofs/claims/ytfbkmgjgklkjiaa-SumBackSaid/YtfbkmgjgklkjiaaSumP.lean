/- The sum of bytes over plain numbers: bit by bit; a step loses nothing; one turned bit gives another sum. No condition. -/
import Derived.Test.YtfbkmgjgklkjiaaSep
namespace Go.Proofs.Ytfbkmgjgklkjiaa

def poly : Nat := 3988292384
/-- One bit into the sum. -/
def crcBit (s b : Nat) : Nat := if (s + b) % 2 = 1 then (s / 2) ^^^ poly else s / 2
def crcBits : Nat → Nat → Nat → Nat
  | 0, s, _ => s
  | k + 1, s, x => crcBits k (crcBit s (x % 2)) (x / 2)
def crcByte (s x : Nat) : Nat := crcBits 8 s x
def crcL : Nat → List Int → Nat
  | s, [] => s
  | s, z :: zs => crcL (crcByte s z.toNat) zs
/-- The sum of bytes. -/
def crc (zs : List Int) : Nat := crcL 4294967295 zs ^^^ 4294967295

theorem crcL_append (s : Nat) (a b : List Int) : crcL s (a ++ b) = crcL (crcL s a) b := by
  induction a generalizing s with
  | nil => rfl
  | cons z a ih => exact ih _
theorem crcL_snoc (s : Nat) (a : List Int) (z : Int) : crcL s (a ++ [z]) = crcByte (crcL s a) z.toNat := by rw [crcL_append]; rfl
theorem crcBit_lt {s : Nat} (b : Nat) (h : s < 4294967296) : crcBit s b < 4294967296 := by
  unfold crcBit
  split
  · exact Nat.xor_lt_two_pow (n := 32) (by omega) (by decide)
  · omega
theorem crcBits_lt (k : Nat) : ∀ {s : Nat} (x : Nat), s < 4294967296 → crcBits k s x < 4294967296 := by
  induction k with
  | zero => intro s x h; exact h
  | succ k ih => intro s x h; exact ih _ (crcBit_lt _ h)
theorem crcByte_lt {s : Nat} (x : Nat) (h : s < 4294967296) : crcByte s x < 4294967296 := crcBits_lt 8 x h
theorem crcL_lt (zs : List Int) : ∀ {s : Nat}, s < 4294967296 → crcL s zs < 4294967296 := by
  induction zs with
  | nil => intro s h; exact h
  | cons z zs ih => intro s h; exact ih (crcByte_lt _ h)
theorem crc_lt (zs : List Int) : crc zs < 4294967296 := Nat.xor_lt_two_pow (n := 32) (crcL_lt zs (by decide)) (by decide)

theorem xor_cancel {a b c : Nat} (h : a ^^^ c = b ^^^ c) : a = b := by
  have := congrArg (· ^^^ c) h
  simpa [Nat.xor_assoc] using this
/-- What was turned by the polynomial is great; what was not is small. -/
theorem poly_great {a : Nat} (ha : a < 2147483648) : ¬ a ^^^ poly < 2147483648 := by
  intro h
  have e : poly = a ^^^ (a ^^^ poly) := by rw [← Nat.xor_assoc, Nat.xor_self, Nat.zero_xor]
  have := Nat.xor_lt_two_pow (n := 31) ha h
  rw [← e] at this
  exact absurd this (by decide)
theorem crcBit_inj {s t b c : Nat} (hs : s < 4294967296) (ht : t < 4294967296) (h : crcBit s b = crcBit t c) : s / 2 = t / 2 ∧ (s + b) % 2 = (t + c) % 2 := by
  unfold crcBit at h
  by_cases h1 : (s + b) % 2 = 1 <;> by_cases h2 : (t + c) % 2 = 1
  · rw [if_pos h1, if_pos h2] at h
    exact ⟨xor_cancel h, by omega⟩
  · rw [if_pos h1, if_neg h2] at h
    exact absurd (by rw [h]; omega) (poly_great (a := s / 2) (by omega))
  · rw [if_neg h1, if_pos h2] at h
    exact absurd (by rw [← h]; omega) (poly_great (a := t / 2) (by omega))
  · rw [if_neg h1, if_neg h2] at h
    exact ⟨h, by omega⟩
theorem crcBits_inj (k : Nat) : ∀ {s t : Nat} (x : Nat), s < 4294967296 → t < 4294967296 → crcBits k s x = crcBits k t x → s = t := by
  induction k with
  | zero => intro s t x _ _ h; exact h
  | succ k ih =>
    intro s t x hs ht h
    have := crcBit_inj hs ht (ih _ (crcBit_lt _ hs) (crcBit_lt _ ht) h)
    omega
theorem crcL_inj (zs : List Int) : ∀ {s t : Nat}, s < 4294967296 → t < 4294967296 → crcL s zs = crcL t zs → s = t := by
  induction zs with
  | nil => intro s t _ _ h; exact h
  | cons z zs ih => intro s t hs ht h; exact crcBits_inj 8 _ hs ht (ih (crcByte_lt _ hs) (crcByte_lt _ ht) h)

/-- y is x but for its bit j. -/
def Flip : Nat → Nat → Nat → Prop
  | 0, x, y => x / 2 = y / 2 ∧ x % 2 ≠ y % 2
  | j + 1, x, y => x % 2 = y % 2 ∧ Flip j (x / 2) (y / 2)
instance Flip.dec : ∀ j x y, Decidable (Flip j x y)
  | 0, x, y => inferInstanceAs (Decidable (_ ∧ _))
  | j + 1, x, y => by
    have := Flip.dec j (x / 2) (y / 2)
    exact inferInstanceAs (Decidable (_ ∧ _))
theorem crcBits_flip (k : Nat) : ∀ (j : Nat) {s : Nat} {x y : Nat}, j < k → s < 4294967296 → Flip j x y → crcBits k s x ≠ crcBits k s y := by
  induction k with
  | zero => intro j s x y hj; omega
  | succ k ih =>
    intro j s x y hj hs hf h
    cases j with
    | zero =>
      obtain ⟨h1, h2⟩ := hf
      unfold crcBits at h
      rw [h1] at h
      have := (crcBit_inj hs hs (crcBits_inj k _ (crcBit_lt _ hs) (crcBit_lt _ hs) h)).2
      omega
    | succ j =>
      obtain ⟨h1, h2⟩ := hf
      unfold crcBits at h
      rw [h1] at h
      exact ih j (by omega) (crcBit_lt _ hs) h2 h
/-- A list of bytes with one bit turned has another sum. -/
theorem crc_turned {a b : List Int} {x y : Int} {j : Nat} (hj : j < 8) (hf : Flip j x.toNat y.toNat) : crc (a ++ x :: b) ≠ crc (a ++ y :: b) := by
  intro h
  have h := xor_cancel h
  rw [crcL_append, crcL_append] at h
  have hs := crcL_lt a (s := 4294967295) (by decide)
  exact crcBits_flip 8 j hj hs hf (crcL_inj b (crcByte_lt _ hs) (crcByte_lt _ hs) h)
set_option maxRecDepth 100000 in
theorem flip_all : ∀ (j : Fin 8) (x : Fin 256), Flip j.val x.val (x.val ^^^ 2 ^ j.val) := by decide +kernel
end Go.Proofs.Ytfbkmgjgklkjiaa
