/- What is written is read: plain lemmas for the law WireBack. No condition. -/
import Derived.Test.YtgedfecleablpaaScrA
import Derived.Test.YtgedfecleablpaaRefV
import Derived.Test.YtgedfecleablpaaWireF
namespace Go.Proofs.Ytgedfecleablpaa
open Go.RowKit

theorem valB_digsTo (n : Nat) (x : Int) : ∀ j, j ≤ n → valB (digsTo n x j) = x / 2 ^ (8 * (n - j)) % 2 ^ (8 * j) := by
  intro j
  induction j with
  | zero => intro _; simp [digsTo_zero, valB_nil]
  | succ j ih =>
    intro hj
    rw [digsTo_succ, valB_snoc, ih (by omega)]
    unfold dig
    rw [IntKind.wrap_u8]
    have e1 : (2 : Int) ^ (8 * (n - j)) = 2 ^ (8 * (n - (j + 1))) * 256 := by
      rw [show (256 : Int) = 2 ^ 8 from rfl, ← Int.pow_add]; congr 1; omega
    have e2 : (2 : Int) ^ (8 * (j + 1)) = 256 * 2 ^ (8 * j) := by
      rw [show (256 : Int) = 2 ^ 8 from rfl, ← Int.pow_add]; congr 1; omega
    rw [e1, show n - 1 - j = n - (j + 1) by omega, e2]
    have hp : (0 : Int) < 2 ^ (8 * (n - (j + 1))) := Int.pow_pos (by decide)
    have hM : (0 : Int) < 2 ^ (8 * j) := Int.pow_pos (by decide)
    rw [← Int.ediv_ediv_of_nonneg (Int.le_of_lt hp)]
    generalize x / 2 ^ (8 * (n - (j + 1))) = q at *
    generalize (2 : Int) ^ (8 * j) = M at *
    have h1 : q = 256 * (q / 256) + q % 256 := by omega
    have h2 : q / 256 = M * (q / 256 / M) + q / 256 % M := (Int.mul_ediv_add_emod _ _).symm
    have h3 := Int.emod_nonneg (q / 256) (show M ≠ 0 by omega)
    have h4 := Int.emod_lt_of_pos (q / 256) hM
    have h5 : q = (q / 256 % M * 256 + q % 256) + 256 * M * (q / 256 / M) := by
      have : 256 * M * (q / 256 / M) = 256 * (M * (q / 256 / M)) := by rw [Int.mul_assoc]
      rw [this]
      omega
    have h6 : q % (256 * M) = (q / 256 % M * 256 + q % 256) % (256 * M) := by
      conv => lhs; rw [h5]
      exact Int.add_mul_emod_self_left _ _ _
    rw [h6]
    exact (Int.emod_eq_of_lt (by omega) (by omega)).symm
theorem valB_digs (n : Nat) (x : Int) : valB (digs n x) = x % 2 ^ (8 * n) := by
  unfold digs
  rw [valB_digsTo n x n (Nat.le_refl _)]
  simp

theorem back_U (n : Nat) (h1 : 1 ≤ n) (h8 : n ≤ 8) (x : Int) (h0 : 0 ≤ x) (hf : fitU n x = true) : valB (digs n x) = x := by
  rw [fitU_iff n h1 h8 x h0] at hf
  rw [valB_digs, Int.emod_eq_of_lt h0 (of_decide_eq_true hf)]
theorem back_I (n : Nat) (h1 : 1 ≤ n) (h8 : n ≤ 8) (x : Int) (hf : fitI n x = true) : sgn n (valB (digs n x)) = x := by
  rw [fitI_iff n h1 h8 x] at hf
  have hf := of_decide_eq_true hf
  rw [valB_digs]
  unfold sgn
  rcases width_cases h1 h8 with rfl | rfl | rfl | rfl | rfl | rfl | rfl | rfl <;> simp only [Nat.reduceMul, Nat.reduceSub, Int.reducePow] at * <;> split <;> omega

/-- The bytes of a call; whether they fit. -/
def enc (o : OpV) : List Int := if o.what = 0 then digs o.n.toNat o.x else if o.what = 1 then digs o.n.toNat o.y else o.bs
def Good (o : OpV) : Prop := (o.what = 0 → fitU o.n o.x = true) ∧ (o.what = 1 → fitI o.n o.y = true) ∧ (0 ≤ o.x ∧ o.x ≤ 18446744073709551615) ∧ (-9223372036854775808 ≤ o.y ∧ o.y ≤ 9223372036854775807) ∧ (-9223372036854775808 ≤ o.n ∧ o.n ≤ 9223372036854775807)
def cells5 (o : OpV) : List Value := [.int .i64 o.what, .int .i64 o.n, .int .u64 o.x, .int .i64 o.y, o.b]

theorem flat_len {L : List OpV} : (L.flatMap cells5).length = L.length * 5 := by
  induction L with
  | nil => rfl
  | cons a r ih => simp only [List.flatMap_cons, List.length_append, ih, List.length_cons]; simp [cells5]; omega
theorem flat_at {L : List OpV} : ∀ {j : Nat} (hj : j < L.length) (f : Nat), f < 5 → (L.flatMap cells5)[j * 5 + f]? = (cells5 L[j])[f]? := by
  induction L with
  | nil => intro j hj; simp at hj
  | cons a r ih =>
    intro j hj f hf
    have hl : (cells5 a).length = 5 := rfl
    rw [List.flatMap_cons]
    cases j with
    | zero => rw [List.getElem?_append_left (by omega)]; simp
    | succ j =>
      rw [List.getElem?_append_right (by omega), hl, show (j + 1) * 5 + f - 5 = j * 5 + f by omega]
      exact ih (by simpa using hj) f hf

/-- Where the bytes of call j stand. -/
theorem enc_at {L : List OpV} {j : Nat} (hj : j < L.length) : (L.flatMap enc).drop ((L.take j).flatMap enc).length = enc L[j] ++ (L.drop (j + 1)).flatMap enc := by
  have h : L = L.take j ++ (L[j] :: L.drop (j + 1)) := by rw [← List.drop_eq_getElem_cons hj, List.take_append_drop]
  conv => lhs; arg 2; rw [h]
  rw [List.flatMap_append, List.drop_left, List.flatMap_cons]
theorem enc_next {L : List OpV} {j : Nat} (hj : j < L.length) : ((L.take (j + 1)).flatMap enc).length = ((L.take j).flatMap enc).length + (enc L[j]).length := by
  rw [List.take_succ_eq_append_getElem hj, List.flatMap_append, List.length_append]
  simp
theorem enc_room {L : List OpV} {j : Nat} (hj : j < L.length) : ((L.take j).flatMap enc).length + (enc L[j]).length ≤ (L.flatMap enc).length := by
  have := congrArg List.length (enc_at hj)
  simp only [List.length_drop, List.length_append] at this
  have h2 : ((L.take j).flatMap enc).length ≤ (L.flatMap enc).length := by
    have h : L = L.take j ++ L.drop j := (List.take_append_drop _ _).symm
    conv => rhs; rw [h]
    rw [List.flatMap_append, List.length_append]
    omega
  by_cases h0 : enc L[j] = []
  · rw [h0]; simpa using h2
  · have : 0 < (enc L[j]).length := List.length_pos_iff.2 h0
    omega

theorem read_U {zs e rest : List Int} {k n : Nat} (h : zs.drop k = e ++ rest) (hn : e.length = n) (h1 : 1 ≤ n) (h8 : n ≤ 8) (hr : k + n ≤ zs.length) :
    rdErr0 n ((zs.length : Int) - k) = 0 ∧ rdU zs k n 0 = valB e ∧ rdI zs k n 0 = sgn n (valB e) ∧ rdK k n 0 = k + n := by
  have hp : (zs.drop k).take n = e := by rw [h, ← hn, List.take_left]
  have ht : ((n : Int)).toNat = n := by omega
  refine ⟨?_, ?_, ?_, ?_⟩
  · unfold rdErr0; rw [if_neg (by omega), if_neg (by omega)]
  · unfold rdU; rw [if_pos rfl, ht, hp]
  · unfold rdI; rw [if_pos rfl, ht, hp]
  · unfold rdK; rw [if_pos rfl, ht]
theorem read_B {zs e rest : List Int} {k : Nat} (h : zs.drop k = e ++ rest) (hr : k + e.length ≤ zs.length) :
    rdErr1 e.length ((zs.length : Int) - k) = 0 ∧ rdPart zs k e.length 0 = e ∧ rdK k e.length 0 = k + e.length := by
  have hp : (zs.drop k).take e.length = e := by rw [h, List.take_left]
  have ht : ((e.length : Int)).toNat = e.length := by omega
  refine ⟨?_, ?_, ?_⟩
  · unfold rdErr1; rw [if_neg (by omega), if_neg (by omega)]
  · unfold rdPart; rw [if_pos rfl, ht, hp]
  · unfold rdK; rw [if_pos rfl, ht]

/-- What a call of the writer adds, and whether it fits: of each kind of call. -/
def Fin (o : OpV) (bs : List Int) (e : Int) (bs' : List Int) : Prop := (e = 0 → Good o ∧ bs' = bs ++ enc o) ∧ (e ≠ 0 → bs' = bs)
theorem fin_U {what n X Y : Int} {b : Value} {bz bs : List Int} {room : Int} (hw : (what == 0) = true) (rn : -9223372036854775808 ≤ n ∧ n ≤ 9223372036854775807) (rx : 0 ≤ X ∧ X ≤ 18446744073709551615) (ry : -9223372036854775808 ≤ Y ∧ Y ≤ 9223372036854775807) :
    Fin ⟨what, n, X, Y, b, bz⟩ bs (wrErr (fitU n X) n room) (bs ++ addU (fitU n X) n X room) := by
  have hw := beq_iff_eq.1 hw
  subst hw
  refine ⟨fun he => ⟨⟨fun _ => (wrErr_zero he).1, fun h => by simp at h, rx, ry, rn⟩, ?_⟩, fun he => ?_⟩
  · unfold addU enc; rw [if_pos he]; simp
  · unfold addU; rw [if_neg he]; simp
theorem fin_I {what n X Y : Int} {b : Value} {bz bs : List Int} {room : Int} (hw : (what == 1) = true) (rn : -9223372036854775808 ≤ n ∧ n ≤ 9223372036854775807) (rx : 0 ≤ X ∧ X ≤ 18446744073709551615) (ry : -9223372036854775808 ≤ Y ∧ Y ≤ 9223372036854775807) :
    Fin ⟨what, n, X, Y, b, bz⟩ bs (wrErr (fitI n Y) n room) (bs ++ addU (fitI n Y) n Y room) := by
  have hw := beq_iff_eq.1 hw
  subst hw
  refine ⟨fun he => ⟨⟨fun h => by simp at h, fun _ => (wrErr_zero he).1, rx, ry, rn⟩, ?_⟩, fun he => ?_⟩
  · unfold addU enc; rw [if_pos he]; simp
  · unfold addU; rw [if_neg he]; simp
theorem fin_B {what n X Y : Int} {b : Value} {bz bs : List Int} {e : Int} (hw : (what == 0) = false) (hw1 : (what == 1) = false) (rn : -9223372036854775808 ≤ n ∧ n ≤ 9223372036854775807) (rx : 0 ≤ X ∧ X ≤ 18446744073709551615) (ry : -9223372036854775808 ≤ Y ∧ Y ≤ 9223372036854775807) :
    Fin ⟨what, n, X, Y, b, bz⟩ bs e (bs ++ addB bz e) := by
  have hw := beq_eq_false_iff_ne.1 hw
  have hw1 := beq_eq_false_iff_ne.1 hw1
  refine ⟨fun he => ⟨⟨fun h => absurd h hw, fun h => absurd h hw1, rx, ry, rn⟩, ?_⟩, fun he => ?_⟩
  · unfold addB enc; rw [if_pos he]; simp [hw, hw1]
  · unfold addB; rw [if_neg he]; simp
end Go.Proofs.Ytgedfecleablpaa
