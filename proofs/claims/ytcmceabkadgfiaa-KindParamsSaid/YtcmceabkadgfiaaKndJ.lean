/- Descriptors one behind the other, as a method's parameters. Plain words. -/
import Derived.Test.YtcmceabkadgfiaaKndI
import Derived.Test.YtcmceabkadgfiaaKndT
namespace Go.Proofs.Ytcmceabkadgfiaa
open Go.RowKit
set_option linter.unusedVariables false
set_option linter.unusedSimpArgs false

def flatP (P : List (ByteArray × TypeV)) : List Int := P.flatMap (fun p => nums p.1)
def typesP (P : List (ByteArray × TypeV)) : List TypeV := P.map (fun p => p.2)
def RightK (P : List (ByteArray × TypeV)) : Prop := ∀ p ∈ P, oneZ8 (nums p.1) = some p.2
theorem flatP_append (P Q : List (ByteArray × TypeV)) : flatP (P ++ Q) = flatP P ++ flatP Q := by simp [flatP]
theorem one_head {s : ByteArray} {t : TypeV} (h : oneZ8 (nums s) = some t) : ∃ c q, nums s = c :: q ∧ c ≠ 41 ∧ c ≠ 86 := by
  unfold oneZ8 at h
  cases hf : fieldZ (nums s) with
  | none => rw [hf] at h; cases h
  | some x =>
    obtain ⟨u, y⟩ := x
    rw [hf] at h
    cases y with
    | cons c y => cases h
    | nil =>
      obtain ⟨h1, d, k, nm, hd, hk, rfl⟩ := field_text (nums_byte s) hf
      rw [List.append_nil, hk.arr hd, nums_preB, hk.text] at h1
      cases d with
      | zero =>
        rw [h1]
        rcases hk with ⟨rfl, rfl⟩ | ⟨rfl, rfl⟩ | ⟨rfl, hp⟩
        · exact ⟨73, _, rfl, by decide, by decide⟩
        · exact ⟨74, _, rfl, by decide, by decide⟩
        · exact ⟨76, _, rfl, by decide, by decide⟩
      | succ d => exact ⟨91, _, h1, by decide, by decide⟩
theorem par_of {zs : List Int} : ∀ (P : List (ByteArray × TypeV)) (l : List TypeV) (r : List Int), RightK P → l.length + P.length ≤ 16 → Par zs l (flatP P ++ r) → Par zs (l ++ typesP P) r
  | [], l, r, _, _, h => by simpa [flatP, typesP] using h
  | p :: P, l, r, hr, hl, h => by
    have h0 := hr p (by simp)
    obtain ⟨c, q, hq, hc, -⟩ := one_head h0
    have hf := one_field h0 (flatP P ++ r)
    have e : flatP (p :: P) ++ r = nums p.1 ++ (flatP P ++ r) := by simp [flatP]
    rw [e, hq] at h
    rw [hq] at hf
    rw [List.length_cons] at hl
    have h2 := par_of P (l ++ [p.2]) r (fun x hx => hr x (by simp [hx])) (by simp; omega) (Par.snoc h hc hf (by omega))
    simpa [typesP] using h2
def paramsZ (P : List (ByteArray × TypeV)) (ret : List Int) : List TypeV × TypeV × Int := if P.length ≤ 16 then endM (typesP P) (41 :: ret) else ([], zeroT, 80)
theorem meth_params {P : List (ByteArray × TypeV)} (hr : RightK P) (ret : List Int) : Meth (40 :: (flatP P ++ 41 :: ret)) (paramsZ P ret) := by
  unfold paramsZ
  by_cases h : P.length ≤ 16
  · rw [if_pos h]
    refine .inr ⟨_, typesP P, 41 :: ret, rfl, ?_, fun c q e hc => ?_, rfl⟩
    · exact par_of P [] (41 :: ret) hr (by simpa using h) (Par.nil _)
    · cases e
      exact absurd rfl hc
  · rw [if_neg h]
    have hsp : P = P.take 16 ++ P.drop 16 := (List.take_append_drop 16 P).symm
    have hl : (P.take 16).length = 16 := by rw [List.length_take]; omega
    have hd : (P.drop 16) ≠ [] := fun e => by
      have := congrArg List.length e
      rw [List.length_drop] at this
      simp at this
      omega
    obtain ⟨p, Q, hQ⟩ := List.exists_cons_of_ne_nil hd
    have h0 := hr p (by rw [hsp, hQ]; simp)
    obtain ⟨c, q, hq, hc, -⟩ := one_head h0
    have ef : flatP P ++ 41 :: ret = flatP (P.take 16) ++ (c :: (q ++ (flatP Q ++ 41 :: ret))) := by
      rw [show flatP P = flatP (P.take 16) ++ flatP (P.drop 16) by rw [← flatP_append, List.take_append_drop], hQ]
      simp [flatP, hq]
    have hp := par_of (zs := flatP P ++ 41 :: ret) (P.take 16) [] (c :: (q ++ (flatP Q ++ 41 :: ret))) (fun x hx => hr x (List.mem_of_mem_take hx)) (by simp [hl]) (by rw [← ef]; exact Par.nil _)
    rw [List.nil_append] at hp
    refine .inr ⟨_, _, _, rfl, hp, fun c' q' e hc' t r' hf => ?_, ?_⟩
    · rw [typesP, List.length_map, hl]; omega
    · unfold endM
      simp only
      rw [if_neg hc]
theorem paramsZ_void (P : List (ByteArray × TypeV)) (h : P.length ≤ 16) : paramsZ P [86] = (typesP P, voidT, 0) := by
  unfold paramsZ endM
  rw [if_pos h]
  simp
theorem paramsZ_ret {P : List (ByteArray × TypeV)} (h : P.length ≤ 16) {ret : List Int} (hv : ret ≠ [86]) : paramsZ P ret = (match oneZ8 ret with | some t => (typesP P, t, 0) | none => ([], zeroT, 80)) := by
  unfold paramsZ endM
  rw [if_pos h]
  simp only
  rw [if_pos trivial, if_neg hv]
  cases oneZ8 ret <;> rfl
end Go.Proofs.Ytcmceabkadgfiaa
