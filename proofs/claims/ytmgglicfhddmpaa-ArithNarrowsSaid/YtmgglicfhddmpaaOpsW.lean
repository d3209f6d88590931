/- Plain words of layer 6: an instruction, what its bytes say, its bytes, its plain form; there and back. No condition. -/
import Derived.Test.YtmgglicfhddmpaaNum
import Derived.Test.YtmgglicfhddmpaaOpsB
namespace Go.Proofs.Ytmgglicfhddmpaa
open Go.RowKit
set_option linter.unusedVariables false
set_option linter.unusedSimpArgs false

structure InstrV where
  at_ : Int
  op : Int
  a : Int
  b : Int
  size : Int
deriving DecidableEq
def zeroI : InstrV := ⟨0, 0, 0, 0, 0⟩
def cellsI (i : InstrV) : List Value := [.int .i64 i.at_, .int .i64 i.op, .int .i64 i.a, .int .i64 i.b, .int .i64 i.size]
def valI (i : InstrV) : Value := .agg #[.int .i64 i.at_, .int .i64 i.op, .int .i64 i.a, .int .i64 i.b, .int .i64 i.size]
/-- How many bytes a shape has for A, for B; has it a sign. -/
def lenA (s : Int) : Nat := if s = 98 ∨ s = 117 ∨ s = 105 then 1 else if s = 115 ∨ s = 99 ∨ s = 116 then 2 else 0
def sgA (s : Int) : Bool := s == 98 || s == 115 || s == 116
def lenB (s : Int) : Nat := if s = 105 then 1 else 0
def leadsZ (s : Int) : Bool := s == 116
def numZ (sg : Bool) (n : Nat) (zs : List Int) : Int := if n = 0 then 0 else if sg then sgn n (valB (zs.take n)) else valB (zs.take n)
def aZ (s at_ : Int) (zs : List Int) : Int := numZ (sgA s) (lenA s) zs + (if leadsZ s then at_ else 0)
def bZ (s : Int) (zs : List Int) : Int := numZ true (lenB s) (zs.drop (lenA s))
def extraZ (s : Int) : Nat := lenA s + lenB s
/-- The instruction at a place of some bytes, or why there is none. -/
def decAt (at_ : Int) (zs : List Int) : InstrV × Int :=
  match zs with
  | [] => (zeroI, 3)
  | op :: rest =>
    match codeOf op with
    | none => (zeroI, 60)
    | some c => if rest.length < extraZ c.shape then (zeroI, 3) else (⟨at_, op, aZ c.shape at_ rest, bZ c.shape rest, 1 + (extraZ c.shape : Int)⟩, 0)
def decZ (zs : List Int) (at_ : Int) : InstrV × Int := if at_ < 0 ∨ (zs.length : Int) < at_ then (zeroI, 1) else decAt at_ (zs.drop at_.toNat)
/-- May a number stand in so many bytes. -/
def fitZ (sg : Bool) (n : Nat) (x : Int) : Bool := if n = 0 then x == 0 else if sg then decide (-(2 ^ (8 * n - 1)) ≤ x ∧ x < 2 ^ (8 * n - 1)) else decide (0 ≤ x ∧ x < 2 ^ (8 * n))
def isPlaceZ (n : Int) : Bool := decide (0 ≤ n) && decide (n ≤ 4096)
def numA (s : Int) (i : InstrV) : Int := if leadsZ s then i.a - i.at_ else i.a
def fineZ (s : Int) (i : InstrV) : Bool := (!leadsZ s || (isPlaceZ i.at_ && isPlaceZ i.a)) && (fitZ (sgA s) (lenA s) (numA s i) && fitZ true (lenB s) i.b)
def bytesZ (s : Int) (i : InstrV) : List Int := i.op :: (digs (lenA s) (numA s i) ++ digs (lenB s) i.b)
def encZ (i : InstrV) : List Int × Int :=
  match codeOf i.op with
  | none => ([], 60)
  | some c => if fineZ c.shape i then (bytesZ c.shape i, 0) else ([], 1)
/-- The plain form. -/
def plainZ (i : InstrV) : InstrV :=
  if 2 ≤ i.op ∧ i.op ≤ 8 then ⟨i.at_, 17, i.op - 3, 0, i.size⟩
  else if i.op = 16 then ⟨i.at_, 17, i.a, 0, i.size⟩
  else if i.op = 10 then ⟨i.at_, 9, 1, 0, i.size⟩
  else if 26 ≤ i.op ∧ i.op ≤ 29 then ⟨i.at_, 21, i.op - 26, 0, i.size⟩
  else if 30 ≤ i.op ∧ i.op ≤ 33 then ⟨i.at_, 22, i.op - 30, 0, i.size⟩
  else if 42 ≤ i.op ∧ i.op ≤ 45 then ⟨i.at_, 25, i.op - 42, 0, i.size⟩
  else if 59 ≤ i.op ∧ i.op ≤ 62 then ⟨i.at_, 54, i.op - 59, 0, i.size⟩
  else if 63 ≤ i.op ∧ i.op ≤ 66 then ⟨i.at_, 55, i.op - 63, 0, i.size⟩
  else if 75 ≤ i.op ∧ i.op ≤ 78 then ⟨i.at_, 58, i.op - 75, 0, i.size⟩
  else i

/-! What is known of the codes. -/
theorem codes_all : ∀ c ∈ codesV, (c.shape = 45 ∨ c.shape = 98 ∨ c.shape = 115 ∨ c.shape = 117 ∨ c.shape = 99 ∨ c.shape = 116 ∨ c.shape = 105) ∧ 0 ≤ c.op ∧ c.op < 200 := by
  decide
theorem codeOf_shape {op : Int} {c : CodeV} (h : codeOf op = some c) : (c.shape = 45 ∨ c.shape = 98 ∨ c.shape = 115 ∨ c.shape = 117 ∨ c.shape = 99 ∨ c.shape = 116 ∨ c.shape = 105) ∧ 0 ≤ op ∧ op < 200 := by
  have h1 := List.mem_of_find?_eq_some h
  have h2 := List.find?_some h
  have := codes_all c h1
  have e : c.op = op := by simpa using h2
  rw [e] at this
  exact this
theorem codeOf_far {op : Int} (h : op < 0 ∨ 200 ≤ op) : codeOf op = none := by
  cases hc : codeOf op with
  | none => rfl
  | some c => have := (codeOf_shape hc).2; omega
theorem shape_of {op : Int} {c : CodeV} (h : codeOf op = some c) : shapeK op = c.shape ∧ isK op = true ∧ nameK op = c.name := by
  unfold shapeK isK nameK
  rw [h]
  exact ⟨rfl, rfl, rfl⟩
theorem shape_none {op : Int} (h : codeOf op = none) : shapeK op = 0 ∧ isK op = false ∧ nameK op = ⟨#[]⟩ := by
  unfold shapeK isK nameK
  rw [h]
  exact ⟨rfl, rfl, rfl⟩

/-! Numbers there and back. -/
theorem odigs1 (x : Int) : digs 1 x = [dig x 0] := rfl
theorem odigs2 (x : Int) : digs 2 x = [dig x 1, dig x 0] := rfl
theorem digs0 (x : Int) : digs 0 x = [] := rfl
theorem wrap8 (n : Int) : IntKind.u8.wrap n = n % 256 := by simp [IntKind.wrap, IntKind.bits, IntKind.signed]
theorem dig0 (x : Int) : dig x 0 = x % 256 := by unfold dig; rw [wrap8]; simp
theorem dig1 (x : Int) : dig x 1 = x / 256 % 256 := by unfold dig; rw [wrap8]; simp
theorem valB1 (x : Int) : valB [x] = x := by simp [valB]
theorem valB2 (x y : Int) : valB [x, y] = x * 256 + y := by simp [valB]
theorem sgn1 (v : Int) : sgn 1 v = if 128 ≤ v then v - 256 else v := rfl
theorem sgn2 (v : Int) : sgn 2 v = if 32768 ≤ v then v - 65536 else v := rfl
/-- A number that fits is read as itself. -/
theorem num_back (sg : Bool) {n : Nat} (hn : n ≤ 2) {x : Int} (h : fitZ sg n x = true) (ys : List Int) : numZ sg n (digs n x ++ ys) = x := by
  have hc : n = 0 ∨ n = 1 ∨ n = 2 := by omega
  rcases hc with rfl | rfl | rfl
  · simp [fitZ] at h; simp [numZ, h]
  · cases sg <;> simp [fitZ] at h <;> simp [numZ, odigs1, dig0, valB1, sgn1] <;> omega
  · cases sg <;> simp [fitZ] at h <;> simp [numZ, odigs2, dig0, dig1, valB2, sgn2] <;> omega
/-- What is read of bytes fits, and has those bytes. -/
theorem num_fits (sg : Bool) {n : Nat} (hn : n ≤ 2) {zs : List Int} (hz : Bytish zs) (hl : n ≤ zs.length) : fitZ sg n (numZ sg n zs) = true ∧ digs n (numZ sg n zs) = zs.take n := by
  have hc : n = 0 ∨ n = 1 ∨ n = 2 := by omega
  rcases hc with rfl | rfl | rfl
  · exact ⟨rfl, rfl⟩
  · match zs, hl with
    | x :: r, _ =>
      have hx := hz x (by simp)
      unfold IsByte at hx
      cases sg <;> simp [fitZ, numZ, odigs1, dig0, valB1, sgn1] <;> constructor <;> (try split) <;> omega
  · match zs, hl with
    | x :: y :: r, _ =>
      have hx := hz x (by simp)
      have hy := hz y (by simp)
      unfold IsByte at hx hy
      cases sg <;> simp [fitZ, numZ, odigs2, dig0, dig1, valB2, sgn2] <;> constructor <;> (try split) <;> omega
theorem num_bound (sg : Bool) {n : Nat} (hn : n ≤ 2) {zs : List Int} (hz : Bytish zs) (hl : n ≤ zs.length) : -32768 ≤ numZ sg n zs ∧ numZ sg n zs ≤ 65535 := by
  have h := (num_fits sg hn hz hl).1
  have hc : n = 0 ∨ n = 1 ∨ n = 2 := by omega
  rcases hc with rfl | rfl | rfl
  · simp [numZ]
  · cases sg <;> simp [fitZ] at h <;> omega
  · cases sg <;> simp [fitZ] at h <;> omega
theorem lens {op : Int} {c : CodeV} (h : codeOf op = some c) : lenA c.shape ≤ 2 ∧ lenB c.shape ≤ 2 ∧ extraZ c.shape ≤ 2 := by
  have := (codeOf_shape h).1
  rcases this with e | e | e | e | e | e | e <;> rw [e] <;> decide

/-! There and back. -/
theorem digs_len (n : Nat) (x : Int) : (digs n x).length = n := digs_length n x
theorem enc_ok {i : InstrV} {bs : List Int} (h : encZ i = (bs, 0)) : ∃ c, codeOf i.op = some c ∧ fineZ c.shape i = true ∧ bs = bytesZ c.shape i := by
  unfold encZ at h
  cases hc : codeOf i.op with
  | none => rw [hc] at h; simp at h
  | some c =>
    rw [hc] at h
    simp only at h
    by_cases hf : fineZ c.shape i = true
    · rw [if_pos hf] at h
      exact ⟨c, rfl, hf, by simpa using h.symm⟩
    · rw [if_neg hf] at h
      simp at h
/-- What is written of an instruction is read as itself. -/
theorem op_enc_dec {i : InstrV} {bs : List Int} (h : encZ i = (bs, 0)) (at_ : Int) (ha : leadsZ (shapeK i.op) = true → at_ = i.at_) (ys : List Int) :
    decAt at_ (bs ++ ys) = (⟨at_, i.op, i.a, i.b, (bs.length : Int)⟩, 0) := by
  obtain ⟨c, hc, hf, rfl⟩ := enc_ok h
  have hl := lens hc
  rw [(shape_of hc).1] at ha
  unfold fineZ at hf
  simp only [Bool.and_eq_true] at hf
  obtain ⟨_, hfa, hfb⟩ := hf
  unfold bytesZ decAt
  simp only [List.cons_append]
  rw [hc]
  simp only
  have hlen : ¬ (digs (lenA c.shape) (numA c.shape i) ++ digs (lenB c.shape) i.b ++ ys).length < extraZ c.shape := by
    simp only [List.length_append, digs_len]
    unfold extraZ
    omega
  rw [if_neg hlen]
  have h1 : aZ c.shape at_ (digs (lenA c.shape) (numA c.shape i) ++ digs (lenB c.shape) i.b ++ ys) = i.a := by
    unfold aZ
    rw [List.append_assoc, num_back _ hl.1 hfa]
    unfold numA
    cases hd : leadsZ c.shape
    · simp
    · simp [ha hd]
  have h2 : bZ c.shape (digs (lenA c.shape) (numA c.shape i) ++ digs (lenB c.shape) i.b ++ ys) = i.b := by
    unfold bZ
    rw [List.append_assoc, List.drop_left' (digs_len _ _), num_back _ hl.2.1 hfb]
  rw [h1, h2]
  simp only [List.length_cons, List.length_append, digs_len]
  unfold extraZ
  simp
  omega
theorem enc_len {i : InstrV} {bs : List Int} (h : encZ i = (bs, 0)) : 1 ≤ bs.length ∧ bs.length ≤ 3 := by
  obtain ⟨c, hc, hf, rfl⟩ := enc_ok h
  have hl := lens hc
  unfold extraZ at hl
  unfold bytesZ
  simp only [List.length_cons, List.length_append, digs_len]
  omega
theorem enc_byte {i : InstrV} {bs : List Int} (h : encZ i = (bs, 0)) : Bytish bs := by
  obtain ⟨c, hc, hf, rfl⟩ := enc_ok h
  have h2 := (codeOf_shape hc).2
  unfold bytesZ
  intro z hz
  rcases List.mem_cons.1 hz with rfl | hz
  · exact ⟨h2.1, by omega⟩
  · exact (Bytish.append (digsTo_bytish _ _ _) (digsTo_bytish _ _ _)) z hz
theorem enc_err (i : InstrV) : (encZ i).2 = 0 ∨ (encZ i = ([], 60)) ∨ (encZ i = ([], 1)) := by
  unfold encZ
  cases hc : codeOf i.op with
  | none => simp
  | some c =>
    simp only
    by_cases hf : fineZ c.shape i = true
    · rw [if_pos hf]; simp
    · rw [if_neg hf]; simp
/-- What is read of bytes. -/
theorem dec_ok {zs : List Int} {k : InstrV} {at_ : Int} (h : decAt at_ zs = (k, 0)) : ∃ op rest c, zs = op :: rest ∧ codeOf op = some c ∧ extraZ c.shape ≤ rest.length ∧ k = ⟨at_, op, aZ c.shape at_ rest, bZ c.shape rest, 1 + (extraZ c.shape : Int)⟩ := by
  unfold decAt at h
  match zs with
  | [] => simp at h
  | op :: rest =>
    simp only at h
    cases hc : codeOf op with
    | none => rw [hc] at h; simp at h
    | some c =>
      rw [hc] at h
      simp only at h
      by_cases hl : rest.length < extraZ c.shape
      · rw [if_pos hl] at h; simp at h
      · rw [if_neg hl] at h
        exact ⟨op, rest, c, rfl, hc, by omega, by simpa using h.symm⟩
theorem dec_err (zs : List Int) (at_ : Int) : (decAt at_ zs).2 = 0 ∨ decAt at_ zs = (zeroI, 3) ∨ decAt at_ zs = (zeroI, 60) := by
  unfold decAt
  match zs with
  | [] => simp
  | op :: rest =>
    simp only
    cases hc : codeOf op with
    | none => simp
    | some c =>
      simp only
      by_cases hl : rest.length < extraZ c.shape
      · rw [if_pos hl]; simp
      · rw [if_neg hl]; simp
/-- Bytes that are an instruction at the beginning, which leads nowhere beyond, are its own. -/
theorem dec_enc {zs : List Int} {k : InstrV} (hz : Bytish zs) (h : decAt 0 zs = (k, 0)) (h0 : 0 ≤ k.a) (h1 : k.a ≤ 4096) : encZ k = (zs.take k.size.toNat, 0) ∧ k.size.toNat ≤ zs.length ∧ 0 ≤ k.size := by
  obtain ⟨op, rest, c, rfl, hc, hl, rfl⟩ := dec_ok h
  have hL := lens hc
  have hzr : Bytish rest := fun z hz' => hz z (List.mem_cons_of_mem _ hz')
  have hlA : lenA c.shape ≤ rest.length := by unfold extraZ at hl; omega
  have hlB : lenB c.shape ≤ (rest.drop (lenA c.shape)).length := by unfold extraZ at hl; simp; omega
  have hA := num_fits (sgA c.shape) hL.1 hzr hlA
  have hB := num_fits true hL.2.1 (hzr.drop (lenA c.shape)) hlB
  unfold encZ
  simp only at h0 h1 ⊢
  rw [hc]
  simp only
  have hn : numA c.shape ⟨0, op, aZ c.shape 0 rest, bZ c.shape rest, 1 + (extraZ c.shape : Int)⟩ = numZ (sgA c.shape) (lenA c.shape) rest := by
    unfold numA aZ
    cases leadsZ c.shape <;> simp
  have hf : fineZ c.shape ⟨0, op, aZ c.shape 0 rest, bZ c.shape rest, 1 + (extraZ c.shape : Int)⟩ = true := by
    unfold fineZ
    rw [hn, hA.1]
    unfold bZ
    rw [hB.1]
    simp [isPlaceZ, h0, h1]
  rw [if_pos hf]
  refine ⟨?_, ?_, by omega⟩
  · unfold bytesZ
    rw [hn, hA.2]
    unfold bZ
    rw [hB.2]
    have hs : (1 + (extraZ c.shape : Int)).toNat = extraZ c.shape + 1 := by omega
    rw [hs, List.take_succ_cons]
    unfold extraZ
    rw [List.take_add]
  · simp only [List.length_cons]
    omega
/-- What an instruction is read of does not hang on what stands behind it. -/
theorem dec_more {zs ys : List Int} {k : InstrV} (h : decAt 0 zs = (k, 0)) (n : Nat) (hn : (n : Int) = k.size) : n ≤ zs.length ∧ decAt 0 (zs.take n ++ ys) = (k, 0) ∧ decAt 0 (zs.take (n - 1)) = (zeroI, 3) := by
  obtain ⟨op, rest, c, rfl, hc, hl, rfl⟩ := dec_ok h
  have hL := lens hc
  simp only at hn
  have hs : n = extraZ c.shape + 1 := by omega
  subst hs
  refine ⟨by simp only [List.length_cons]; omega, ?_, ?_⟩
  · rw [List.take_succ_cons, List.cons_append]
    unfold decAt
    simp only
    rw [hc]
    simp only
    have hlen : ¬ (rest.take (extraZ c.shape) ++ ys).length < extraZ c.shape := by simp; omega
    rw [if_neg hlen]
    have hA : numZ (sgA c.shape) (lenA c.shape) (rest.take (extraZ c.shape) ++ ys) = numZ (sgA c.shape) (lenA c.shape) rest := by
      unfold numZ
      have e : (rest.take (extraZ c.shape) ++ ys).take (lenA c.shape) = rest.take (lenA c.shape) := by
        rw [List.take_append_of_le_length (by simp; unfold extraZ; unfold extraZ at hl; omega), List.take_take]
        congr 1
        unfold extraZ
        omega
      rw [e]
    have hB : bZ c.shape (rest.take (extraZ c.shape) ++ ys) = bZ c.shape rest := by
      unfold bZ numZ
      have e : ((rest.take (extraZ c.shape) ++ ys).drop (lenA c.shape)).take (lenB c.shape) = (rest.drop (lenA c.shape)).take (lenB c.shape) := by
        rw [List.drop_append_of_le_length (by simp; unfold extraZ; unfold extraZ at hl; omega), List.take_append_of_le_length (by simp; unfold extraZ; unfold extraZ at hl; omega), List.drop_take]
        unfold extraZ
        rw [Nat.add_sub_cancel_left, List.take_take]
        congr 1
        omega
      rw [e]
    unfold aZ
    rw [hA, hB]
  · rw [Nat.add_sub_cancel]
    by_cases h0 : extraZ c.shape = 0
    · rw [h0]; rfl
    · obtain ⟨m, hm⟩ : ∃ m, extraZ c.shape = m + 1 := ⟨extraZ c.shape - 1, by omega⟩
      rw [hm, List.take_succ_cons]
      unfold decAt
      simp only
      rw [hc]
      simp only
      rw [if_pos (by simp; omega)]
/-- An instruction's size by its shape. -/
theorem dec_size {zs : List Int} {k : InstrV} {at_ : Int} (h : decAt at_ zs = (k, 0)) : isK k.op = true ∧ k.size = (if shapeK k.op = 45 then 1 else if shapeK k.op = 98 ∨ shapeK k.op = 117 then 2 else 3) ∧ k.at_ = at_ := by
  obtain ⟨op, rest, c, rfl, hc, hl, rfl⟩ := dec_ok h
  simp only
  rw [(shape_of hc).1]
  refine ⟨(shape_of hc).2.1, ?_, trivial⟩
  rcases (codeOf_shape hc).1 with e | e | e | e | e | e | e <;> rw [e] <;> decide

/-! Plain forms. -/
/-- The codes of plain forms. -/
def PlainOp (op : Int) : Prop := op = 17 ∨ op = 9 ∨ op = 21 ∨ op = 22 ∨ op = 25 ∨ op = 54 ∨ op = 55 ∨ op = 58
theorem plain_of (i : InstrV) : plainZ i = i ∨ ∃ op x, PlainOp op ∧ plainZ i = ⟨i.at_, op, x, 0, i.size⟩ := by
  unfold plainZ PlainOp
  repeat' split
  all_goals first | exact Or.inl rfl | exact Or.inr ⟨_, _, by omega, rfl⟩ | (simp; done)
theorem plain_id {op : Int} (h : PlainOp op) (t x s : Int) : plainZ ⟨t, op, x, 0, s⟩ = ⟨t, op, x, 0, s⟩ := by
  unfold PlainOp at h
  rcases h with rfl | rfl | rfl | rfl | rfl | rfl | rfl | rfl <;> simp [plainZ]
theorem plain_twice (i : InstrV) : plainZ (plainZ i) = plainZ i := by
  rcases plain_of i with h | ⟨op, x, ho, h⟩
  · rw [h, h]
  · rw [h, plain_id ho]
theorem plain_keeps (i : InstrV) : (plainZ i).at_ = i.at_ ∧ (plainZ i).size = i.size := by
  rcases plain_of i with h | ⟨op, x, ho, h⟩ <;> rw [h] <;> exact ⟨rfl, rfl⟩
theorem isK_some : ∀ n : Nat, n < 79 → (2 ≤ n ∧ n ≤ 10 ∨ n = 16 ∨ n = 17 ∨ n = 21 ∨ n = 22 ∨ n = 25 ∨ 26 ≤ n ∧ n ≤ 33 ∨ 42 ≤ n ∧ n ≤ 45 ∨ n = 54 ∨ n = 55 ∨ n = 58 ∨ 59 ≤ n ∧ n ≤ 66 ∨ 75 ≤ n ∧ n ≤ 78) → isK n = true := by
  decide
theorem isK_int {op : Int} (h0 : 0 ≤ op) (h1 : op < 79) (h : 2 ≤ op ∧ op ≤ 10 ∨ op = 16 ∨ op = 17 ∨ op = 21 ∨ op = 22 ∨ op = 25 ∨ 26 ≤ op ∧ op ≤ 33 ∨ 42 ≤ op ∧ op ≤ 45 ∨ op = 54 ∨ op = 55 ∨ op = 58 ∨ 59 ≤ op ∧ op ≤ 66 ∨ 75 ≤ op ∧ op ≤ 78) : isK op = true := by
  obtain ⟨n, rfl⟩ := Int.eq_ofNat_of_zero_le h0
  exact isK_some n (by omega) (by omega)
theorem plain_isK (i : InstrV) : isK (plainZ i).op = isK i.op := by
  unfold plainZ
  repeat' split
  all_goals first | rfl | (rw [isK_int (op := i.op) (by omega) (by omega) (by omega), isK_int (by simp) (by simp) (by simp)])
end Go.Proofs.Ytmgglicfhddmpaa
