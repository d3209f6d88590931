/- The program's own Decode of an instruction. No condition. -/
import Derived.Test.YtngoajhnnlnphaaOpsH
import Derived.Deep.Slices
namespace Go.Proofs.Ytngoajhnnlnphaa
open Go.RowKit
set_option linter.unusedVariables false
set_option linter.unusedSimpArgs false

/-- More than three bytes are not looked at. -/
theorem decAt_take (at_ : Int) (zs : List Int) : decAt at_ (zs.take 3) = decAt at_ zs := by
  match zs with
  | [] => rfl
  | op :: rest =>
    rw [List.take_succ_cons]
    unfold decAt
    simp only
    cases hc : codeOf op with
    | none => rfl
    | some c =>
      simp only
      have hL := lens hc
      have h1 : ((rest.take 2).length < extraZ c.shape) = (rest.length < extraZ c.shape) := by
        rw [List.length_take]; apply propext; omega
      have h2 : aZ c.shape at_ (rest.take 2) = aZ c.shape at_ rest := by
        unfold aZ numZ
        rw [List.take_take, Nat.min_eq_left hL.1]
      have h3 : bZ c.shape (rest.take 2) = bZ c.shape rest := by
        unfold bZ numZ
        have e : ((rest.take 2).drop (lenA c.shape)).take (lenB c.shape) = (rest.drop (lenA c.shape)).take (lenB c.shape) := by
          rw [List.drop_take, List.take_take]
          congr 1
          have := hL.2.2
          unfold extraZ at this
          omega
        rw [e]
      simp only [h1, h2, h3]
theorem numZ_b (s : Int) (zs : List Int) : numZ (decide (s = 105)) (lenB s) zs = numZ true (lenB s) zs := by
  unfold lenB
  by_cases h : s = 105
  · rw [if_pos h]; simp [h]
  · rw [if_neg h]; rfl
/-- The part of a slice from a place on. -/
theorem Bytes.from_ {w : World} {x : Addr} {cap n : Nat} {zs : List Int} (hb : Bytes w (.slice (some x) zs.length cap) zs) (hn : n ≤ zs.length) {y : Option Addr} (hy : (if cap = n then some x else some (x.add n)) = y) :
    Bytes w (.slice y ((zs.drop n).take 3).length (cap - n)) ((zs.drop n).take 3) := by
  obtain ⟨ao, cap', e, h1, h2, h3, h4, h5⟩ := hb
  injection e with e1 e2 e3
  subst e1 e3
  refine ⟨y, cap - n, rfl, by simp; omega, by omega, fun hy0 => ?_, (h4.drop n).take 3, fun z hz j hj => ?_⟩
  · rw [hy0] at hy; split at hy <;> cases hy
  · have hjl : j < 3 ∧ j < zs.length - n := Nat.lt_min.1 (by simpa using hj)
    rw [hz] at hy
    rw [if_neg (by omega)] at hy
    injection hy with hy
    subst hy
    have := h5 x rfl (n + j) (by omega)
    rw [Go.Deep.add_add]
    rw [this]
    congr 2
    simp [List.getD, List.getElem?_take, hjl.1]

def DecTo (w : World) (at_ : Int) (ys : List Int) (e : Ending) (w' : World) : Prop := e = .returned (.tuple #[valI (decAt at_ ys).1, .int .i64 (decAt at_ ys).2]) ∧ Only (fun _ => False) w w'
set_option maxHeartbeats 8000000 in
set_option maxRecDepth 100000 in
theorem progDecodeA (x : Addr) (zs : List Int) (cap n : Nat) (w : World) (hb : Bytes w (.slice (some x) zs.length cap) zs) (hl : zs.length ≤ 140737488355328) (hn : n ≤ zs.length) (hc : zs.length ≤ cap) (hm : cap ≤ 9223372036854775807) :
    Calls Try.prog 29 #[.slice (some x) zs.length cap, .int .i64 n] w (DecTo w n ((zs.drop n).take 3)) := by
  have hnn : n ≤ cap := by omega
  obtain ⟨y, hy⟩ : ∃ y, (if cap = n then some x else some (x.add n)) = y := ⟨_, rfl⟩
  have hny : ¬ zs.length < n := by omega
  have hbz : Bytish zs := by obtain ⟨_, _, _, _, _, _, h, _⟩ := hb; exact h
  obtain ⟨ys, hys⟩ : ∃ ys, ys = (zs.drop n).take 3 := ⟨_, rfl⟩
  have hyz : Bytish ys := by rw [hys]; exact (hbz.drop n).take 3
  have hyl : ys.length ≤ 3 := by rw [hys]; simp; omega
  have hbr := hb.from_ hn hy
  obtain ⟨m, hm3⟩ : ∃ m : Nat, (min (3 : Int) ((zs.length - n : Nat) : Int)).toNat = m := ⟨_, rfl⟩
  have hml : ((zs.drop n).take 3).length = m := by rw [← hm3]; simp; omega
  rw [hml] at hbr
  rw [← hys] at hbr hml ⊢
  have hr0 := heap_alloc_new w (.cells #[.int .i64 0, .int .i64 0, .int .i64 0, .int .i64 0, .int .i64 0] 39)
  have ho1 := (Only.refl (fun _ => False) w).alloc (.cells #[.int .i64 0, .int .i64 0, .int .i64 0, .int .i64 0, .int .i64 0] 39)
  have c1 := newReader _ ys _ (hbr.only ho1 (fun _ _ _ h => h)) (by omega)
  have C1 := Lib.hid c1
  have HO1 := Lib.hid ho1
  have HR0 := Lib.hid hr0
  have HYZ := Lib.hid hyz
  have HML := Lib.hid hml
  have HYL := Lib.hid hyl
  clear hb hbz hys hyz hyl hbr hml hr0 ho1 c1
  go_enter Try.func29, Try.ntmps29
  go_wp2_with (fail)
  refine C1.out.mono ?_
  rintro e w2 ⟨rb, sv, rfl, hrd, hbel, hrb, hsv⟩
  have ho2 : Only (fun _ => False) w w2 := HO1.out.trans (Only.of_below hbel _) (fun _ h _ => h)
  have hr2 := (Only.of_below hbel (fun _ => False)).heap HR0.out (fun h => h)
  have hrb2 : w.heap.size + 1 ≤ rb := by simpa using hrb
  have HO2 := Lib.hid ho2
  have HR2 := Lib.hid hr2
  have HRB := Lib.hid hrb2
  clear hbel hrb hsv ho2 hr2 hrb2 C1 HO1 HR0
  have hnr : ¬ w.heap.size = rb := by have := HRB.out; omega
  have HNR := Lib.hid hnr
  clear hnr
  match ys, hrd, HYZ, HML, HYL with
  | [], hrd, HYZ, HML, HYL =>
    have c2 := rdUint rb sv [] 0 1 w2 hrd (by omega) (by omega)
    rw [show rdErr0 1 ((([] : List Int).length : Int) - (0 : Nat)) = 3 from rfl, show rdU [] 0 1 3 = 0 from rfl] at c2
    have C2 := Lib.hid c2
    clear c2 hrd
    go_wp2_with (fail)
    refine C2.out.mono ?_
    rintro e w3 ⟨rfl, _, ho3⟩
    have hr3 := ho3.heap HR2.out HNR.out
    have hon3 := HO2.out.trans ho3 (fun j hj hl => by have := HRB.out; omega)
    obtain ⟨f0, f1, f2, f3, f4⟩ := marks5 hr3
    obtain ⟨r0, r1, r2, r3, r4⟩ := cells5 hr3
    have HON3 := Lib.hid hon3
    have HR3 := Lib.hid hr3
    clear ho3 hr3 hon3 C2 HO2 HR2
    go_wp2
    refine bodyPost_ret (instr_result (i := zeroI) Try.results29 (store5 HR3.out) rfl rfl) rfl ⟨rfl, ?_⟩
    exact only5 HON3.out (fun hl => absurd hl (Nat.lt_irrefl _))
  | op :: rest, hrd, HYZ, HML, HYL =>
    have hob := HYZ.out op (by simp)
    have ho0 : 0 ≤ op := hob.1
    have ho9 : op ≤ 255 := hob.2
    have c2 := rdUint rb sv (op :: rest) 0 1 w2 hrd (by omega) (by omega)
    rw [show rdErr0 1 (((op :: rest).length : Int) - (0 : Nat)) = 0 by unfold rdErr0; rw [if_neg (by omega), if_neg (by simp only [List.length_cons]; omega)], show rdU (op :: rest) 0 1 0 = op by simp [rdU, valB], show rdK 0 1 0 = 1 from rfl] at c2
    have C2 := Lib.hid c2
    clear c2 hrd hob
    go_wp2_with (fail)
    refine C2.out.mono ?_
    rintro e w3 ⟨rfl, hrd3, ho3⟩
    have hr3 := ho3.heap HR2.out HNR.out
    have hon3 := HO2.out.trans ho3 (fun j hj hl => by have := HRB.out; omega)
    have HON3 := Lib.hid hon3
    have HR3 := Lib.hid hr3
    have HRD3 := Lib.hid hrd3
    clear ho3 hr3 hon3 C2 HO2 HR2 hrd3
    go_wp2_with (fail)
    refine (progShape op w3).mono ?_
    cases hc : codeOf op with
    | none =>
      rw [(shape_none hc).1, (shape_none hc).2.1]
      have HC := Lib.hid hc
      clear hc
      rintro e w4 ⟨rfl, ho4⟩
      have hr4 := ho4.heap HR3.out (fun h => h)
      have hon4 := HON3.out.trans ho4 (fun _ h _ => h)
      obtain ⟨f0, f1, f2, f3, f4⟩ := marks5 hr4
      obtain ⟨r0, r1, r2, r3, r4⟩ := cells5 hr4
      have HON4 := Lib.hid hon4
      have HR4 := Lib.hid hr4
      clear ho4 hr4 hon4 HON3 HR3
      go_wp2
      refine bodyPost_ret (instr_result (i := zeroI) Try.results29 (store5 HR4.out) rfl rfl) rfl ⟨?_, ?_⟩
      · unfold decAt; simp only; rw [HC.out]; rfl
      · exact only5 HON4.out (fun hl => absurd hl (Nat.lt_irrefl _))
    | some c =>
      rw [(shape_of hc).1, (shape_of hc).2.1]
      have hL := lens hc
      have HS := Lib.hid (codeOf_shape hc).1
      have HC := Lib.hid hc
      clear hc
      rintro e w4 ⟨rfl, ho4⟩
      have hr4 := ho4.heap HR3.out (fun h => h)
      have hon4 := HON3.out.trans ho4 (fun _ h _ => h)
      have hrd4 := HRD3.out.only ho4 (fun h => h) (fun _ _ h => h)
      have HON4 := Lib.hid hon4
      have HR4 := Lib.hid hr4
      have HRD4 := Lib.hid hrd4
      clear ho4 hr4 hon4 HON3 HR3 hrd4 HRD3
      go_wp2_with (fail)
      refine (progOperands c.shape w4 HS.out).mono ?_
      unfold opsV
      rintro e w5 ⟨rfl, ho5⟩
      have hr5 := ho5.heap HR4.out (fun h => h)
      have hon5 := HON4.out.trans ho5 (fun _ h _ => h)
      have hrd5 := HRD4.out.only ho5 (fun h => h) (fun _ _ h => h)
      have HON5 := Lib.hid hon5
      have HR5 := Lib.hid hr5
      clear ho5 hr5 hon5 HON4 HR4 HRD4
      by_cases hroom : rest.length < extraZ c.shape
      · have c6 := progOpsShort (lenA c.shape) (lenB c.shape) (sgA c.shape) (decide (c.shape = 105)) (leadsZ c.shape) (n : Int) rb sv (op :: rest) 1 w5 hrd5 hL.1 hL.2.1 (by unfold extraZ at hroom; simp only [List.length_cons]; omega)
        have HD : Hid (decAt (n : Int) (op :: rest) = (zeroI, 3)) := by
          refine Lib.hid ?_
          unfold decAt; simp only; rw [HC.out]; simp only; rw [if_pos hroom]
        have C6 := Lib.hid c6
        clear c6 hrd5 hroom hL
        generalize lenA c.shape = an at *
        generalize lenB c.shape = bn at *
        generalize sgA c.shape = asg at *
        generalize decide (c.shape = 105) = bsg at *
        generalize leadsZ c.shape = lds at *
        go_wp2_with (fail)
        refine C6.out.mono ?_
        unfold zeroI valI
        rintro e w6 ⟨rfl, ho6⟩
        have hr6 := ho6.heap HR5.out HNR.out
        have hon6 := HON5.out.trans ho6 (fun j hj hl => by have := HRB.out; omega)
        have hal := (Only.refl (fun _ => False) w6).alloc (.cells #[.int .i64 0, .int .i64 0, .int .i64 0, .int .i64 0, .int .i64 0] 39)
        have hr7 := hal.heap hr6 (fun h => h)
        have hon7 := hon6.trans hal (fun _ h _ => h)
        obtain ⟨f0, f1, f2, f3, f4⟩ := marks5 hr7
        obtain ⟨r0, r1, r2, r3, r4⟩ := cells5 hr7
        have HON7 := Lib.hid hon7
        have HR7 := Lib.hid hr7
        clear ho6 hr6 hon6 hal hr7 hon7 C6 HON5 HR5
        go_wp2
        refine bodyPost_ret (instr_result (i := zeroI) Try.results29 (store5 HR7.out) rfl rfl) rfl ⟨?_, ?_⟩
        · rw [HD.out]; rfl
        · exact only5 HON7.out (fun hl => absurd hl (Nat.lt_irrefl _))
      · have c6 := progOpsRead (lenA c.shape) (lenB c.shape) (sgA c.shape) (decide (c.shape = 105)) (leadsZ c.shape) (n : Int) rb sv (op :: rest) 1 w5 hrd5 hL.1 hL.2.1 (by unfold extraZ at hroom; simp only [List.length_cons]; omega) (by omega) (by omega)
        have HD : Hid (decAt (n : Int) (op :: rest) = (⟨n, op, aZ c.shape n rest, bZ c.shape rest, 1 + (extraZ c.shape : Int)⟩, 0)) := by
          refine Lib.hid ?_
          unfold decAt; simp only; rw [HC.out]; simp only; rw [if_neg hroom]
        have ea : numZ (sgA c.shape) (lenA c.shape) ((op :: rest).drop 1) + (if leadsZ c.shape then (n : Int) else 0) = aZ c.shape n rest := rfl
        have eb : numZ (decide (c.shape = 105)) (lenB c.shape) ((op :: rest).drop (1 + lenA c.shape)) = bZ c.shape rest := by
          rw [numZ_b, Nat.add_comm, List.drop_succ_cons]; rfl
        have es : ((1 + lenA c.shape + lenB c.shape : Nat) : Int) = 1 + (extraZ c.shape : Int) := by unfold extraZ; omega
        rw [ea, eb, es] at c6
        have hA : True := trivial
        have C6 := Lib.hid c6
        clear c6 hrd5 hroom hL ea eb es
        generalize aZ c.shape n rest = a at *
        generalize bZ c.shape rest = b at *
        generalize 1 + (extraZ c.shape : Int) = s at *
        generalize lenA c.shape = an at *
        generalize lenB c.shape = bn at *
        generalize sgA c.shape = asg at *
        generalize decide (c.shape = 105) = bsg at *
        generalize leadsZ c.shape = lds at *
        go_wp2_with (fail)
        refine C6.out.mono ?_
        unfold valI
        rintro e w6 ⟨rfl, _, ho6⟩
        have hr6 := ho6.heap HR5.out HNR.out
        have hon6 := HON5.out.trans ho6 (fun j hj hl => by have := HRB.out; omega)
        have hal := (Only.refl (fun _ => False) w6).alloc (.cells #[.int .i64 n, .int .i64 op, .int .i64 a, .int .i64 b, .int .i64 s] 39)
        have hr7 := hal.heap hr6 (fun h => h)
        have hon7 := hon6.trans hal (fun _ h _ => h)
        obtain ⟨f0, f1, f2, f3, f4⟩ := marks5 hr7
        obtain ⟨r0, r1, r2, r3, r4⟩ := cells5 hr7
        have HON7 := Lib.hid hon7
        have HR7 := Lib.hid hr7
        clear ho6 hr6 hon6 hal hr7 hon7 C6 HON5 HR5
        go_wp2
        refine bodyPost_ret (instr_result (i := ⟨n, op, a, b, s⟩) Try.results29 (store5 HR7.out) rfl rfl) rfl ⟨?_, ?_⟩
        · rw [HD.out]; rfl
        · exact only5 HON7.out (fun hl => absurd hl (Nat.lt_irrefl _))

set_option maxHeartbeats 8000000 in
set_option maxRecDepth 100000 in
/-- Of no bytes at all. -/
theorem progDecodeN (w : World) : Calls Try.prog 29 #[.slice none 0 0, .int .i64 0] w (DecTo w 0 []) := by
  have hr0 := heap_alloc_new w (.cells #[.int .i64 0, .int .i64 0, .int .i64 0, .int .i64 0, .int .i64 0] 39)
  have ho1 := (Only.refl (fun _ => False) w).alloc (.cells #[.int .i64 0, .int .i64 0, .int .i64 0, .int .i64 0, .int .i64 0] 39)
  have c1 := newReader (.slice none 0 0) [] (w.alloc (.cells #[.int .i64 0, .int .i64 0, .int .i64 0, .int .i64 0, .int .i64 0] 39)) ⟨none, 0, rfl, Nat.le_refl _, Nat.zero_le _, fun _ => rfl, Bytish.nil, fun x h => by cases h⟩ (by simp)
  have C1 := Lib.hid c1
  have HO1 := Lib.hid ho1
  have HR0 := Lib.hid hr0
  clear hr0 ho1 c1
  go_enter Try.func29, Try.ntmps29
  go_wp2_with (fail)
  refine C1.out.mono ?_
  rintro e w2 ⟨rb, sv, rfl, hrd, hbel, hrb, hsv⟩
  have ho2 : Only (fun _ => False) w w2 := HO1.out.trans (Only.of_below hbel _) (fun _ h _ => h)
  have hr2 := (Only.of_below hbel (fun _ => False)).heap HR0.out (fun h => h)
  have hrb2 : w.heap.size + 1 ≤ rb := by simpa using hrb
  have c2 := rdUint rb sv [] 0 1 w2 hrd (by omega) (by omega)
  rw [show rdErr0 1 ((([] : List Int).length : Int) - (0 : Nat)) = 3 from rfl, show rdU [] 0 1 3 = 0 from rfl] at c2
  have C2 := Lib.hid c2
  have HO2 := Lib.hid ho2
  have HR2 := Lib.hid hr2
  have HRB := Lib.hid hrb2
  clear hbel hrb hsv ho2 hr2 hrb2 C1 HO1 HR0 c2 hrd
  go_wp2_with (fail)
  refine C2.out.mono ?_
  rintro e w3 ⟨rfl, _, ho3⟩
  have hr3 := ho3.heap HR2.out (by have := HRB.out; omega)
  have hon3 := HO2.out.trans ho3 (fun j hj hl => by have := HRB.out; omega)
  obtain ⟨f0, f1, f2, f3, f4⟩ := marks5 hr3
  obtain ⟨r0, r1, r2, r3, r4⟩ := cells5 hr3
  have HON3 := Lib.hid hon3
  have HR3 := Lib.hid hr3
  clear ho3 hr3 hon3 C2 HO2 HR2
  go_wp2
  refine bodyPost_ret (instr_result (i := zeroI) Try.results29 (store5 HR3.out) rfl rfl) rfl ⟨rfl, ?_⟩
  exact only5 HON3.out (fun hl => absurd hl (Nat.lt_irrefl _))

set_option maxHeartbeats 8000000 in
set_option maxRecDepth 100000 in
/-- At no place of the bytes. -/
theorem progDecodeArg (ao : Option Addr) (len cap : Nat) (at_ : Int) (w : World) (h : at_ < 0 ∨ (len : Int) < at_) : Calls Try.prog 29 #[.slice ao len cap, .int .i64 at_] w fun e w' => e = .returned (.tuple #[valI zeroI, .int .i64 1]) ∧ Only (fun _ => False) w w' := by
  have hr0 := heap_alloc_new w (.cells #[.int .i64 0, .int .i64 0, .int .i64 0, .int .i64 0, .int .i64 0] 39)
  have ho1 := (Only.refl (fun _ => False) w).alloc (.cells #[.int .i64 0, .int .i64 0, .int .i64 0, .int .i64 0, .int .i64 0] 39)
  have HO1 := Lib.hid ho1
  have HR0 := Lib.hid hr0
  clear hr0 ho1
  rcases h with h | h
  · go_enter Try.func29, Try.ntmps29
    go_wp2
    refine bodyPost_ret (instr_result (i := zeroI) (b := w.heap.size) Try.results29 HR0.out rfl rfl) rfl ⟨rfl, HO1.out⟩
  · have h0 : ¬ at_ < 0 := by omega
    go_enter Try.func29, Try.ntmps29
    go_wp2
    refine bodyPost_ret (instr_result (i := zeroI) (b := w.heap.size) Try.results29 HR0.out rfl rfl) rfl ⟨rfl, HO1.out⟩

theorem progDecode (v : Value) (zs : List Int) (at_ : Int) (w : World) (hb : Bytes w v zs) (hl : zs.length ≤ 140737488355328) :
    Calls Try.prog 29 #[v, .int .i64 at_] w fun e w' => e = .returned (.tuple #[valI (decZ zs at_).1, .int .i64 (decZ zs at_).2]) ∧ Only (fun _ => False) w w' := by
  obtain ⟨ao, cap, rfl, h1, h2, h3, h4, h5⟩ := id hb
  unfold maxLen at h2
  unfold decZ
  by_cases hat : at_ < 0 ∨ (zs.length : Int) < at_
  · rw [if_pos hat]
    exact progDecodeArg ao zs.length cap at_ w hat
  · rw [if_neg hat]
    obtain ⟨n, rfl⟩ := Int.eq_ofNat_of_zero_le (show 0 ≤ at_ by omega)
    show Calls _ _ _ _ (DecTo w n (zs.drop n))
    have e : DecTo w n (zs.drop n) = DecTo w n ((zs.drop n).take 3) := by
      funext e w'
      unfold DecTo
      rw [decAt_take]
    cases ao with
    | none =>
      have hc := h3 rfl
      subst hc
      have hz : zs = [] := List.eq_nil_of_length_eq_zero (by omega)
      subst hz
      have hn : n = 0 := by simp at hat; omega
      subst hn
      exact progDecodeN w
    | some x =>
      rw [e]
      exact progDecodeA x zs cap n w hb hl (by omega) h1 h2
end Go.Proofs.Ytngoajhnnlnphaa
