/- Numbers out of bytes and back: plain arithmetic on integers, no program. -/
import Derived.Test.YtmgglicfhddmpaaSep
import Derived.Laws.BitsAllLaws
namespace Go.Proofs.Ytmgglicfhddmpaa
open Go.RowKit

theorem wrapU (n : Int) : IntKind.u64.wrap n = n % 18446744073709551616 := by simp [IntKind.wrap, IntKind.bits, IntKind.signed]
theorem wrapI (n : Int) : wrap64 n = (n + 9223372036854775808) % 18446744073709551616 - 9223372036854775808 := by unfold wrap64; rfl
theorem wrapI' (n : Int) : IntKind.i64.wrap n = wrap64 n := by rw [IntKind.wrap_i64, wrapI]

/-- Or of a multiple of 256 and a byte is their sum. -/
theorem bits_or_byte (k : IntKind) (hk : k.bits = 64) (x y : Int) (hx : x % 256 = 0) (h0 : 0 ≤ y) (h1 : y < 256) : bits .or k x y = k.wrap (x + y) := by
  have h2 : ∀ b, b = 64 → ((BitVec.ofInt b x ||| BitVec.ofInt b y).toNat : Int) = x % 18446744073709551616 + y := by
    intro b hb
    subst hb
    rw [BitVec.toNat_or]
    have hX : (BitVec.ofInt 64 x).toNat = (x % 18446744073709551616).toNat := by rw [BitVec.toNat_ofInt]; rfl
    have hY : (BitVec.ofInt 64 y).toNat = y.toNat := by rw [BitVec.toNat_ofInt]; congr 1; omega
    rw [hX, hY, nat_join 8 _ _ (by omega) (by omega)]
    omega
  have h3 : bits .or k x y = k.wrap (x % 18446744073709551616 + y) := by
    unfold bits
    simp only []
    rw [h2 _ hk]
  rw [h3]
  unfold IntKind.wrap
  simp only [hk]
  have : (x % 18446744073709551616 + y) % (2 ^ 64 : Int) = (x + y) % (2 ^ 64 : Int) := by omega
  rw [this]

/-- The number that bytes make, the highest first. -/
def valB (zs : List Int) : Int := zs.foldl (fun x c => x * 256 + c) 0
theorem valB_nil : valB [] = 0 := rfl
theorem valB_snoc (zs : List Int) (c : Int) : valB (zs ++ [c]) = valB zs * 256 + c := by simp [valB]
theorem valB_take (zs : List Int) (k : Nat) (hk : k < zs.length) : valB (zs.take (k + 1)) = valB (zs.take k) * 256 + zs.getD k 0 := by
  rw [List.take_succ_eq_append_getElem hk, valB_snoc]; simp [List.getD, hk]
theorem valB_lt : ∀ (n : Nat) (zs : List Int), zs.length = n → Bytish zs → 0 ≤ valB zs ∧ valB zs < 256 ^ n := by
  intro n
  induction n with
  | zero => intro zs h _; rw [List.eq_nil_of_length_eq_zero h]; simp [valB]
  | succ n ih =>
    intro zs h hz
    have hne : zs ≠ [] := by intro e; subst e; simp at h
    have he : zs = zs.dropLast ++ [zs.getLast hne] := (List.dropLast_concat_getLast hne).symm
    have h1 := ih zs.dropLast (by simp; omega) (fun z hz' => hz z ((List.dropLast_sublist zs).subset hz'))
    have h2 := hz (zs.getLast hne) (List.getLast_mem hne)
    unfold IsByte at h2
    rw [he, valB_snoc]
    have : (256 : Int) ^ (n + 1) = 256 ^ n * 256 := by rw [Int.pow_succ]
    rw [this]
    omega

theorem wrapU0 : IntKind.u64.wrap 0 = 0 := by rw [wrapU]; rfl
theorem wrapI0 : wrap64 0 = 0 := by rw [wrapI]; rfl
/-- What the program keeps of a number in n bytes. -/
def cutUv (n : Nat) (x : Int) : Int := IntKind.u64.wrap (x * 2 ^ (8 * (8 - n))) / 2 ^ (8 * (8 - n))
def cutIv (n : Nat) (x : Int) : Int := wrap64 (x * 2 ^ (8 * (8 - n))) / 2 ^ (8 * (8 - n))
/-- Two's complement of n bytes. -/
def sgn (n : Nat) (v : Int) : Int := if 2 ^ (8 * n - 1) ≤ v then v - 2 ^ (8 * n) else v

theorem width_cases {n : Nat} (h1 : 1 ≤ n) (h8 : n ≤ 8) : n = 1 ∨ n = 2 ∨ n = 3 ∨ n = 4 ∨ n = 5 ∨ n = 6 ∨ n = 7 ∨ n = 8 := by omega

theorem cutUv_eq (n : Nat) (h1 : 1 ≤ n) (h8 : n ≤ 8) (x : Int) : cutUv n x = x % 2 ^ (8 * n) := by
  unfold cutUv
  rw [wrapU]
  rcases width_cases h1 h8 with rfl | rfl | rfl | rfl | rfl | rfl | rfl | rfl <;> simp only [Nat.reduceSub, Nat.reduceMul, Int.reducePow] <;> omega
theorem cutIv_eq (n : Nat) (h1 : 1 ≤ n) (h8 : n ≤ 8) (x : Int) : cutIv n x = (x + 2 ^ (8 * n - 1)) % 2 ^ (8 * n) - 2 ^ (8 * n - 1) := by
  unfold cutIv
  rw [wrapI]
  rcases width_cases h1 h8 with rfl | rfl | rfl | rfl | rfl | rfl | rfl | rfl <;> simp only [Nat.reduceSub, Nat.reduceMul, Int.reducePow] <;> omega

theorem readU_val (n : Nat) (h1 : 1 ≤ n) (h8 : n ≤ 8) (v : Int) (h0 : 0 ≤ v) (hv : v < 256 ^ n) : cutUv n (IntKind.u64.wrap v) = v := by
  rw [cutUv_eq n h1 h8, wrapU]
  rcases width_cases h1 h8 with rfl | rfl | rfl | rfl | rfl | rfl | rfl | rfl <;> simp only [Nat.reduceMul, Int.reducePow] at * <;> omega
theorem readI_val (n : Nat) (h1 : 1 ≤ n) (h8 : n ≤ 8) (v : Int) (h0 : 0 ≤ v) (hv : v < 256 ^ n) : cutIv n (wrap64 v) = sgn n v := by
  rw [cutIv_eq n h1 h8, wrapI]
  unfold sgn
  rcases width_cases h1 h8 with rfl | rfl | rfl | rfl | rfl | rfl | rfl | rfl <;> simp only [Nat.reduceMul, Nat.reduceSub, Int.reducePow] at * <;> split <;> omega
theorem stepU (x v c : Int) (hx : x = IntKind.u64.wrap v) (h0 : 0 ≤ c) (h1 : c < 256) : bits .or .u64 (IntKind.u64.wrap (x * 256)) c = IntKind.u64.wrap (v * 256 + c) := by
  rw [bits_or_byte .u64 rfl _ _ (by rw [wrapU]; omega) h0 h1, hx]
  simp only [wrapU]
  omega
theorem stepI (x v c : Int) (hx : x = wrap64 v) (h0 : 0 ≤ c) (h1 : c < 256) : bits .or .i64 (wrap64 (x * 256)) c = wrap64 (v * 256 + c) := by
  rw [bits_or_byte .i64 rfl _ _ (by rw [wrapI]; omega) h0 h1, hx, wrapI']
  simp only [wrapI]
  omega
/-- Byte i of a number (from the lowest), and the first j of n bytes, the highest first. -/
def dig (x : Int) (i : Nat) : Int := IntKind.u8.wrap (x / 2 ^ (8 * i))
def digsTo (n : Nat) (x : Int) (j : Nat) : List Int := (List.range j).map (fun t => dig x (n - 1 - t))
def digs (n : Nat) (x : Int) : List Int := digsTo n x n
theorem digsTo_zero (n : Nat) (x : Int) : digsTo n x 0 = [] := rfl
theorem digsTo_succ (n : Nat) (x : Int) (j : Nat) : digsTo n x (j + 1) = digsTo n x j ++ [dig x (n - 1 - j)] := by simp [digsTo, List.range_succ]
theorem digsTo_length (n : Nat) (x : Int) (j : Nat) : (digsTo n x j).length = j := by simp [digsTo]
theorem digs_length (n : Nat) (x : Int) : (digs n x).length = n := digsTo_length n x n
theorem dig_byte (x : Int) (i : Nat) : IsByte (dig x i) := by
  unfold IsByte dig
  rw [IntKind.wrap_u8]
  omega
theorem digsTo_bytish (n : Nat) (x : Int) (j : Nat) : Bytish (digsTo n x j) := by
  intro z hz
  simp only [digsTo, List.mem_map] at hz
  obtain ⟨t, _, rfl⟩ := hz
  exact dig_byte _ _

end Go.Proofs.Ytmgglicfhddmpaa
