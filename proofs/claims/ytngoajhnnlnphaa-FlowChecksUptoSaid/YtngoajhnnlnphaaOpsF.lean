/- The program's own operandsOf, read, write: the numbers behind a code. No condition. -/
import Derived.Test.YtngoajhnnlnphaaOpsD
import Derived.Test.YtngoajhnnlnphaaWireE
import Derived.Test.YtngoajhnnlnphaaWireF
import Derived.Lib.Hide
namespace Go.Proofs.Ytngoajhnnlnphaa
open Go.RowKit
set_option linter.unusedVariables false
set_option linter.unusedSimpArgs false

/-- What instructions of a shape have behind the code, as a value. -/
def opsV (s : Int) : Value := .agg #[.int .i64 (lenA s), .bool (sgA s), .int .i64 (lenB s), .bool (decide (s = 105)), .bool (leadsZ s)]
set_option maxHeartbeats 4000000 in
set_option maxRecDepth 100000 in
theorem progOperands (s : Int) (w : World) (hs : s = 45 ∨ s = 98 ∨ s = 115 ∨ s = 117 ∨ s = 99 ∨ s = 116 ∨ s = 105) :
    Calls Try.prog 38 #[.int .u8 s] w fun e w' => e = .returned (opsV s) ∧ Only (fun _ => False) w w' := by
  rcases hs with rfl | rfl | rfl | rfl | rfl | rfl | rfl
  all_goals
    go_enter Try.func38, Try.ntmps38
    go_wp2
    refine bodyPost_ret (v := opsV _) (by simp [results, Try.results38, go_sem, opsV, lenA, lenB, sgA, leadsZ]) rfl ⟨rfl, ?_⟩
    repeat first | exact Only.refl _ _ | refine Only.setCell ?_ (fun hx => absurd hx (by simp)) _ | refine Only.alloc ?_ _

theorem numZ_take {sg : Bool} {n : Nat} {zs : List Int} (hn : n ≠ 0) : numZ sg n zs = if sg then sgn n (valB (zs.take n)) else valB (zs.take n) := by
  unfold numZ
  rw [if_neg hn]
theorem valB_small {zs : List Int} (hz : Bytish zs) {n : Nat} (hn : n ≤ 2) : 0 ≤ valB (zs.take n) ∧ valB (zs.take n) ≤ 65535 := by
  have hl : (zs.take n).length ≤ 2 := by simp; omega
  have h := valB_lt (zs.take n).length (zs.take n) rfl (hz.take n)
  refine ⟨h.1, ?_⟩
  have h2 := h.2
  have hc : (zs.take n).length = 0 ∨ (zs.take n).length = 1 ∨ (zs.take n).length = 2 := by omega
  rcases hc with e | e | e <;> rw [e] at h2 <;> omega
set_option maxHeartbeats 4000000 in
set_option maxRecDepth 100000 in
/-- A number that is all there. -/
theorem progRead (n : Nat) (sg : Bool) (rb : Nat) (sv : Value) (zs : List Int) (k : Nat) (w : World) (h : Rd w rb sv zs k) (hn : n ≤ 2) (hroom : k + n ≤ zs.length) :
    Calls Try.prog 42 #[.agg #[.int .i64 n, .bool sg], .pointer (some ⟨rb, 0, none⟩)] w fun e w' =>
      e = .returned (.tuple #[.int .i64 (numZ sg n (zs.drop k)), .int .i64 0]) ∧ RdTo w rb sv zs (k + n) w' := by
  have ho := (Only.refl (fun _ => False) w).alloc (.cells #[.int .i64 n, .bool sg] 85)
  have h1 := h.only ho (fun h => h) (fun _ _ h => h)
  have hv := valB_small (h.byt.drop k) hn
  have HO := Lib.hid ho
  clear ho
  rcases Nat.eq_zero_or_pos n with rfl | hp
  · have H1 := Lib.hid h1
    clear h1 h
    go_enter Try.func42, Try.ntmps42
    go_wp2
    go_ret2
    exact ⟨rfl, H1.out, HO.out.mono (fun _ h _ => h.elim)⟩
  · have he : rdErr0 (n : Int) ((zs.length : Int) - k) = 0 := by
      unfold rdErr0
      rw [if_neg (by omega), if_neg (by omega)]
    have hK : rdK k (n : Int) 0 = k + n := by unfold rdK; simp
    have hne : ((n : Int) == 0) = false := by rw [beq_eq_false_iff_ne]; omega
    cases sg
    · have hU : rdU zs k (n : Int) 0 = valB ((zs.drop k).take n) := by unfold rdU; simp
      have hN : numZ false n (zs.drop k) = valB ((zs.drop k).take n) := by rw [numZ_take (by omega)]; rfl
      have c := rdUint rb sv zs k (n : Int) _ h1 (by omega) (by omega)
      rw [he, hK, hU] at c
      rw [hN]
      generalize valB ((zs.drop k).take n) = v at *
      have C := Lib.hid c
      clear c h1 h he hK hU hN
      go_enter Try.func42, Try.ntmps42
      go_wp2_with (fail)
      refine C.out.mono ?_
      rintro e w1 ⟨rfl, h2, ho2⟩
      have H2 := Lib.hid h2
      have HO2 := Lib.hid ho2
      clear h2 ho2 C
      go_wp2
      go_ret2
      exact ⟨rfl, H2.out, (HO.out.mono (fun _ h _ => h.elim)).trans HO2.out (fun _ h _ => h)⟩
    · have hU : rdI zs k (n : Int) 0 = sgn n (valB ((zs.drop k).take n)) := by unfold rdI; simp
      have hN : numZ true n (zs.drop k) = sgn n (valB ((zs.drop k).take n)) := by rw [numZ_take (by omega)]; rfl
      have c := rdInt rb sv zs k (n : Int) _ h1 (by omega) (by omega)
      rw [he, hK, hU] at c
      rw [hN]
      generalize sgn n (valB ((zs.drop k).take n)) = v at *
      have C := Lib.hid c
      clear c h1 h he hK hU hN
      go_enter Try.func42, Try.ntmps42
      go_wp2_with (fail)
      refine C.out.mono ?_
      rintro e w1 ⟨rfl, h2, ho2⟩
      have H2 := Lib.hid h2
      have HO2 := Lib.hid ho2
      clear h2 ho2 C
      go_wp2
      go_ret2
      exact ⟨rfl, H2.out, (HO.out.mono (fun _ h _ => h.elim)).trans HO2.out (fun _ h _ => h)⟩
set_option maxHeartbeats 4000000 in
set_option maxRecDepth 100000 in
/-- A number that is not all there. -/
theorem progReadShort (n : Nat) (sg : Bool) (rb : Nat) (sv : Value) (zs : List Int) (k : Nat) (w : World) (h : Rd w rb sv zs k) (hn : n ≤ 2) (hroom : zs.length < k + n) :
    Calls Try.prog 42 #[.agg #[.int .i64 n, .bool sg], .pointer (some ⟨rb, 0, none⟩)] w fun e w' =>
      e = .returned (.tuple #[.int .i64 0, .int .i64 3]) ∧ RdTo w rb sv zs k w' := by
  have ho := (Only.refl (fun _ => False) w).alloc (.cells #[.int .i64 n, .bool sg] 85)
  have h1 := h.only ho (fun h => h) (fun _ _ h => h)
  have HO := Lib.hid ho
  have hle := h.le
  clear ho
  have he : rdErr0 (n : Int) ((zs.length : Int) - k) = 3 := by
    unfold rdErr0
    rw [if_neg (by omega), if_pos (by omega)]
  have hK : rdK k (n : Int) 3 = k := by unfold rdK; simp
  have hne : ((n : Int) == 0) = false := by rw [beq_eq_false_iff_ne]; omega
  cases sg
  · have hU : rdU zs k (n : Int) 3 = 0 := by unfold rdU; simp
    have c := rdUint rb sv zs k (n : Int) _ h1 (by omega) (by omega)
    rw [he, hK, hU] at c
    have C := Lib.hid c
    clear c h1 h he hK hU
    go_enter Try.func42, Try.ntmps42
    go_wp2_with (fail)
    refine C.out.mono ?_
    rintro e w1 ⟨rfl, h2, ho2⟩
    have H2 := Lib.hid h2
    have HO2 := Lib.hid ho2
    clear h2 ho2 C
    go_wp2
    go_ret2
    exact ⟨rfl, H2.out, (HO.out.mono (fun _ h _ => h.elim)).trans HO2.out (fun _ h _ => h)⟩
  · have hU : rdI zs k (n : Int) 3 = 0 := by unfold rdI; simp
    have c := rdInt rb sv zs k (n : Int) _ h1 (by omega) (by omega)
    rw [he, hK, hU] at c
    have C := Lib.hid c
    clear c h1 h he hK hU
    go_enter Try.func42, Try.ntmps42
    go_wp2_with (fail)
    refine C.out.mono ?_
    rintro e w1 ⟨rfl, h2, ho2⟩
    have H2 := Lib.hid h2
    have HO2 := Lib.hid ho2
    clear h2 ho2 C
    go_wp2
    go_ret2
    exact ⟨rfl, H2.out, (HO.out.mono (fun _ h _ => h.elim)).trans HO2.out (fun _ h _ => h)⟩
end Go.Proofs.Ytngoajhnnlnphaa
