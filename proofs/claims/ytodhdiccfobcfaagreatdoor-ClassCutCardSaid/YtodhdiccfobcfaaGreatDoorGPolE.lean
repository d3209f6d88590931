/- The program writes a constant. No condition beyond a writer that was made and has room. The program's Encode of a pool: the bytes that the document says. No condition but the form's own reach. -/
import Derived.Test.YtodhdiccfobcfaaGreatDoorGPolP
import Derived.Test.YtodhdiccfobcfaaGreatDoorPolE
import Derived.Test.YtodhdiccfobcfaaGreatDoorGWire
import Derived.Test.YtodhdiccfobcfaaGreatDoorGTxtP
import Derived.Test.YtodhdiccfobcfaaGreatDoorPolN
namespace Go.Proofs.YtodhdiccfobcfaaGreatDoor
open Go.RowKit Go.Shelf
set_option linter.unusedVariables false
set_option linter.unusedSimpArgs false

theorem digs1 (x : Int) (h0 : 0 ≤ x) (h1 : x < 256) : digs 1 x = [x] := by
  simp only [digs, digsTo, List.range_succ, List.range_zero, List.nil_append, List.map_append, List.map_cons, List.map_nil, dig, IntKind.wrap_u8]
  simp
  omega
theorem digs2 (x : Int) : digs 2 x = be2 x := by
  simp only [digs, digsTo, List.range_succ, List.range_zero, List.nil_append, List.map_append, List.map_cons, List.map_nil, dig, IntKind.wrap_u8, be2]
  simp
theorem digs4 (x : Int) : digs 4 x = [x / 16777216 % 256, x / 65536 % 256, x / 256 % 256, x % 256] := by
  simp only [digs, digsTo, List.range_succ, List.range_zero, List.nil_append, List.map_append, List.map_cons, List.map_nil, dig, IntKind.wrap_u8]
  simp
theorem digs8 (x : Int) : digs 8 x = [x / 72057594037927936 % 256, x / 281474976710656 % 256, x / 1099511627776 % 256, x / 4294967296 % 256, x / 16777216 % 256, x / 65536 % 256, x / 256 % 256, x % 256] := by
  simp only [digs, digsTo, List.range_succ, List.range_zero, List.nil_append, List.map_append, List.map_cons, List.map_nil, dig, IntKind.wrap_u8]
  simp

/-- A writer beside two blocks that stay. -/
def St (w0 : World) (wb : Nat) (sv0 : Value) (most bx sb : Nat) (A S : Array Value) (bs : List Int) (w : World) : Prop :=
  ∃ sv, Wr w wb sv most bs ∧ Only (WrS wb sv0) w0 w ∧ w.heap[bx]? = some (.cells A 67 (0, 0)) ∧ w.heap[sb]? = some (.cells S 152 (0, 0)) ∧
    (∀ k, sv.ownBlock = some k → (sv0.ownBlock = some k ∨ w0.heap.size ≤ k) ∧ k ≠ bx ∧ k ≠ sb) ∧ wb ≠ bx ∧ wb ≠ sb
section
variable {w0 w w' : World} {wb : Nat} {sv0 : Value} {most bx sb : Nat} {A S : Array Value} {bs : List Int}
theorem St.quiet (h : St w0 wb sv0 most bx sb A S bs w) (ho : Only (fun _ => False) w w') : St w0 wb sv0 most bx sb A S bs w' := by
  obtain ⟨sv, h1, h2, h3, h4, h5, h6, h7⟩ := h
  exact ⟨sv, h1.only ho (fun h => h) (fun _ _ h => h), h2.trans ho (fun _ h => h.elim), ho.heap h3 (fun h => h), ho.heap h4 (fun h => h), h5, h6, h7⟩
theorem St.step {bs' : List Int} {sv : Value} (h1 : Wr w wb sv most bs) (h2 : Only (WrS wb sv0) w0 w) (h3 : w.heap[bx]? = some (.cells A 67 (0, 0))) (h4 : w.heap[sb]? = some (.cells S 152 (0, 0)))
    (h5 : ∀ k, sv.ownBlock = some k → (sv0.ownBlock = some k ∨ w0.heap.size ≤ k) ∧ k ≠ bx ∧ k ≠ sb) (h6 : wb ≠ bx) (h7 : wb ≠ sb) (hto : WrTo w wb sv most bs' w') : St w0 wb sv0 most bx sb A S bs' w' := by
  obtain ⟨sv', g1, g2, g3⟩ := hto
  have lx := heap_lt h3
  have ls := heap_lt h4
  refine ⟨sv', g1, h2.trans g2 ?_, g2.heap h3 ?_, g2.heap h4 ?_, ?_, h6, h7⟩
  · rintro i (rfl | hi) hl
    · exact .inl rfl
    · rcases (h5 i hi).1 with e | e
      · exact .inr e
      · omega
  · rintro (e | e)
    · exact h6 e.symm
    · exact (h5 _ e).2.1 rfl
  · rintro (e | e)
    · exact h7 e.symm
    · exact (h5 _ e).2.2 rfl
  · intro k hk
    rcases g3 k hk with e | e
    · exact h5 k e
    · exact ⟨.inr (Nat.le_trans h2.size e), by omega, by omega⟩
theorem St.cells (h : St w0 wb sv0 most bx sb A S bs w) (i : Nat) : w.cell? ⟨bx, i, none⟩ = A[i]? ∧ w.cell? ⟨sb, i, none⟩ = S[i]? := by
  obtain ⟨sv, h1, h2, h3, h4, h5, h6, h7⟩ := h
  exact ⟨cell_blk h3 i, cell_blk h4 i⟩
theorem stUint (n : Nat) (x : Int) (h : St w0 wb sv0 most bx sb A S bs w) (h1 : 1 ≤ n) (h8 : n ≤ 8) (h0 : 0 ≤ x) (hx : x < 2 ^ (8 * n)) (hroom : bs.length + n ≤ most) :
    Calls Tryz.prog 40 #[.pointer (some ⟨wb, 0, none⟩), .int .i64 n, .int .u64 x] w fun e w' => e = .returned (.int .i64 0) ∧ St w0 wb sv0 most bx sb A S (bs ++ digs n x) w' := by
  obtain ⟨sv, g1, g2, g3, g4, g5, g6, g7⟩ := h
  have hf : fitU n x = true := by rw [fitU_iff n h1 h8 x h0]; exact decide_eq_true hx
  have he : wrErr (fitU n x) n ((most : Int) - bs.length) = 0 := by unfold wrErr; rw [hf, if_neg (by simp), if_neg (by omega)]
  refine (wrUint wb sv most bs n x w g1).mono ?_
  rintro e w' ⟨rfl, hto⟩
  rw [he]
  unfold addU at hto
  rw [if_pos he, Int.toNat_natCast] at hto
  exact ⟨rfl, .step g1 g2 g3 g4 g5 g6 g7 hto⟩
theorem stInt (n : Nat) (x : Int) (h : St w0 wb sv0 most bx sb A S bs w) (h1 : 1 ≤ n) (h8 : n ≤ 8) (hx : -(2 ^ (8 * n - 1)) ≤ x ∧ x < 2 ^ (8 * n - 1)) (hroom : bs.length + n ≤ most) :
    Calls Tryz.prog 107 #[.pointer (some ⟨wb, 0, none⟩), .int .i64 n, .int .i64 x] w fun e w' => e = .returned (.int .i64 0) ∧ St w0 wb sv0 most bx sb A S (bs ++ digs n x) w' := by
  obtain ⟨sv, g1, g2, g3, g4, g5, g6, g7⟩ := h
  have hf : fitI n x = true := by rw [fitI_iff n h1 h8 x]; exact decide_eq_true hx
  have he : wrErr (fitI n x) n ((most : Int) - bs.length) = 0 := by unfold wrErr; rw [hf, if_neg (by simp), if_neg (by omega)]
  refine (wrInt wb sv most bs n x w g1).mono ?_
  rintro e w' ⟨rfl, hto⟩
  rw [he]
  unfold addU at hto
  rw [if_pos he, Int.toNat_natCast] at hto
  exact ⟨rfl, .step g1 g2 g3 g4 g5 g6 g7 hto⟩
theorem stBytes (v : Value) (zs : List Int) (h : St w0 wb sv0 most bx sb A S bs w) (hb : Bytes w v zs) (hroom : bs.length + zs.length ≤ most) :
    Calls Tryz.prog 42 #[.pointer (some ⟨wb, 0, none⟩), v] w fun e w' => e = .returned (.int .i64 0) ∧ St w0 wb sv0 most bx sb A S (bs ++ zs) w' := by
  obtain ⟨sv, g1, g2, g3, g4, g5, g6, g7⟩ := h
  have he : wrErr true zs.length ((most : Int) - bs.length) = 0 := by unfold wrErr; rw [if_neg (by simp), if_neg (by omega)]
  refine (wrBytes wb sv most bs v zs w g1 hb).mono ?_
  rintro e w' ⟨rfl, hto⟩
  rw [he]
  unfold addB at hto
  rw [if_pos he] at hto
  exact ⟨rfl, .step g1 g2 g3 g4 g5 g6 g7 hto⟩
end

/-- What writing a constant leaves. -/
def WroteTo (w : World) (wb : Nat) (sv : Value) (most : Nat) (bs b : List Int) (e : Ending) (w' : World) : Prop := e = .returned (.tuple #[]) ∧ WrTo w wb sv most (bs ++ b) w'
theorem St.done {w0 w : World} {wb : Nat} {sv0 : Value} {most bx sb : Nat} {A S : Array Value} {bs : List Int} (h : St w0 wb sv0 most bx sb A S bs w) : WrTo w0 wb sv0 most bs w := by
  obtain ⟨sv, h1, h2, h3, h4, h5, h6, h7⟩ := h
  exact ⟨sv, h1, h2, fun k hk => (h5 k hk).1⟩

set_option maxHeartbeats 4000000 in
set_option maxRecDepth 100000 in
theorem wrote3 (wb : Nat) (sv : Value) (most : Nat) (bs : List Int) (c : ConstV) (w : World) (hw : Wr w wb sv most bs) (hroom : bs.length + 259 ≤ most) (ht : c.tag = 3) (hn : -2147483648 ≤ c.n ∧ c.n ≤ 2147483647) :
    Calls Tryz.prog 75 #[.pointer (some ⟨wb, 0, none⟩), .agg #[.int .i64 c.tag, .string c.text, .int .i64 c.n, .int .i64 c.a, .int .i64 c.b]] w (WroteTo w wb sv most bs [3, c.n / 16777216 % 256, c.n / 65536 % 256, c.n / 256 % 256, c.n % 256]) := by
  have hl := hw.lim
  obtain ⟨t, x, n, a, b⟩ := c
  simp only at *
  subst ht
  have cS := progShape 3
  rw [show shapeZ 3 = (⟨false, 4, 0, 0⟩, true) from rfl] at cS
  simp only at cS
  have i0 : ∀ w, (Instr.index 150 (.agg #[.int .i64 a, .int .i64 b]) (.int .i64 0)).run Tryz.prog w = .ok (.int .i64 a) w := fun _ => by kernel_rfl
  have i1 : ∀ w, (Instr.index 150 (.agg #[.int .i64 a, .int .i64 b]) (.int .i64 1)).run Tryz.prog w = .ok (.int .i64 b) w := fun _ => by kernel_rfl
  have hlt := hw.lt
  have HW := Lib.hid hw
  have HL := Lib.hid hlt
  clear hw hlt
  go_enter Tryz.func75, Tryz.ntmps75
  go_wp2_with (fail)
  refine (cS _).mono ?_
  rintro e w1 ⟨rfl, ho1⟩
  have hbx := ho1.heap (heap_alloc_new w _) (fun h => h)
  have hs1 := ho1.size
  simp at hs1
  have st0 : St w wb sv most w.heap.size w1.heap.size #[.int .i64 3, .string x, .int .i64 n, .int .i64 a, .int .i64 b] #[.bool false, .int .i64 4, .int .i64 0, .int .i64 0] bs (w1.alloc (.cells #[.bool false, .int .i64 4, .int .i64 0, .int .i64 0] 152)) := by
    have hoA : Only (fun _ => False) w (w1.alloc (.cells #[.bool false, .int .i64 4, .int .i64 0, .int .i64 0] 152)) := (((Only.refl _ w).alloc _).trans ho1 (fun _ h => h.elim)).alloc _
    refine ⟨sv, HW.out.only hoA (fun h => h) (fun _ _ h => h), hoA.mono (fun _ h _ => h.elim), ((Only.refl (fun _ => False) w1).alloc _).heap hbx (fun h => h), heap_alloc_new w1 _, fun k hk => ?_, ?_, ?_⟩
    · have := HL.out.2 k hk
      exact ⟨.inl hk, by omega, by omega⟩
    · have := HL.out.1; omega
    · have := HL.out.1; omega
  clear ho1 hbx cS hs1
  have b0 := (st0.cells 0).1
  have b1 := (st0.cells 1).1
  have b2 := (st0.cells 2).1
  have b3 := (st0.cells 3).1
  have b4 := (st0.cells 4).1
  have s0 := (st0.cells 0).2
  have s1 := (st0.cells 1).2
  have s2 := (st0.cells 2).2
  have s3 := (st0.cells 3).2
  simp at b0 b1 b2 b3 b4 s0 s1 s2 s3
  have S_st0 := Lib.hid st0
  clear st0
  go_wp2_with (fail)
  refine (stUint 1 3 S_st0.out (by decide) (by decide) (by decide) (by decide) (by omega)).mono ?_
  rintro e w_st1 ⟨rfl, st1⟩
  clear b0 b1 b2 b3 b4 s0 s1 s2 s3
  have b0 := (st1.cells 0).1
  have b1 := (st1.cells 1).1
  have b2 := (st1.cells 2).1
  have b3 := (st1.cells 3).1
  have b4 := (st1.cells 4).1
  have s0 := (st1.cells 0).2
  have s1 := (st1.cells 1).2
  have s2 := (st1.cells 2).2
  have s3 := (st1.cells 3).2
  simp at b0 b1 b2 b3 b4 s0 s1 s2 s3
  have S_st1 := Lib.hid st1
  clear st1
  have hl1 : (bs ++ digs 1 3).length = bs.length + 1 := by rw [List.length_append, digs_length]
  have cI := stInt 4 n S_st1.out (by decide) (by decide) (by simp only [Nat.reduceMul, Nat.reduceSub, Int.reducePow]; omega) (by omega)
  have CI := Lib.hid cI
  clear hl1 cI
  go_wp2_with (fail)
  refine CI.out.mono ?_
  rintro e w_st2 ⟨rfl, st2⟩
  clear CI b0 b1 b2 b3 b4 s0 s1 s2 s3
  have b0 := (st2.cells 0).1
  have b1 := (st2.cells 1).1
  have b2 := (st2.cells 2).1
  have b3 := (st2.cells 3).1
  have b4 := (st2.cells 4).1
  have s0 := (st2.cells 0).2
  have s1 := (st2.cells 1).2
  have s2 := (st2.cells 2).2
  have s3 := (st2.cells 3).2
  simp at b0 b1 b2 b3 b4 s0 s1 s2 s3
  have S_st2 := Lib.hid st2
  clear st2
  go_wp2
  refine wp_loop_rounds 3 ?_
  rw [rounds_succ]
  go_wp2
  rw [rounds_succ]
  go_wp2
  rw [rounds_succ]
  go_wp2
  go_end0
  have hd := S_st2.out.done
  rw [digs1 3 (by decide) (by decide), digs4, List.append_assoc] at hd
  exact ⟨rfl, hd⟩

set_option maxHeartbeats 4000000 in
set_option maxRecDepth 100000 in
theorem wrote5 (wb : Nat) (sv : Value) (most : Nat) (bs : List Int) (c : ConstV) (w : World) (hw : Wr w wb sv most bs) (hroom : bs.length + 259 ≤ most) (ht : c.tag = 5) (hn : I64 c.n) :
    Calls Tryz.prog 75 #[.pointer (some ⟨wb, 0, none⟩), .agg #[.int .i64 c.tag, .string c.text, .int .i64 c.n, .int .i64 c.a, .int .i64 c.b]] w (WroteTo w wb sv most bs [5, c.n / 72057594037927936 % 256, c.n / 281474976710656 % 256, c.n / 1099511627776 % 256, c.n / 4294967296 % 256, c.n / 16777216 % 256, c.n / 65536 % 256, c.n / 256 % 256, c.n % 256]) := by
  have hl := hw.lim
  obtain ⟨t, x, n, a, b⟩ := c
  simp only at *
  subst ht
  have cS := progShape 5
  rw [show shapeZ 5 = (⟨false, 8, 0, 0⟩, true) from rfl] at cS
  simp only at cS
  have i0 : ∀ w, (Instr.index 150 (.agg #[.int .i64 a, .int .i64 b]) (.int .i64 0)).run Tryz.prog w = .ok (.int .i64 a) w := fun _ => by kernel_rfl
  have i1 : ∀ w, (Instr.index 150 (.agg #[.int .i64 a, .int .i64 b]) (.int .i64 1)).run Tryz.prog w = .ok (.int .i64 b) w := fun _ => by kernel_rfl
  have hlt := hw.lt
  have HW := Lib.hid hw
  have HL := Lib.hid hlt
  clear hw hlt
  go_enter Tryz.func75, Tryz.ntmps75
  go_wp2_with (fail)
  refine (cS _).mono ?_
  rintro e w1 ⟨rfl, ho1⟩
  have hbx := ho1.heap (heap_alloc_new w _) (fun h => h)
  have hs1 := ho1.size
  simp at hs1
  have st0 : St w wb sv most w.heap.size w1.heap.size #[.int .i64 5, .string x, .int .i64 n, .int .i64 a, .int .i64 b] #[.bool false, .int .i64 8, .int .i64 0, .int .i64 0] bs (w1.alloc (.cells #[.bool false, .int .i64 8, .int .i64 0, .int .i64 0] 152)) := by
    have hoA : Only (fun _ => False) w (w1.alloc (.cells #[.bool false, .int .i64 8, .int .i64 0, .int .i64 0] 152)) := (((Only.refl _ w).alloc _).trans ho1 (fun _ h => h.elim)).alloc _
    refine ⟨sv, HW.out.only hoA (fun h => h) (fun _ _ h => h), hoA.mono (fun _ h _ => h.elim), ((Only.refl (fun _ => False) w1).alloc _).heap hbx (fun h => h), heap_alloc_new w1 _, fun k hk => ?_, ?_, ?_⟩
    · have := HL.out.2 k hk
      exact ⟨.inl hk, by omega, by omega⟩
    · have := HL.out.1; omega
    · have := HL.out.1; omega
  clear ho1 hbx cS hs1
  have b0 := (st0.cells 0).1
  have b1 := (st0.cells 1).1
  have b2 := (st0.cells 2).1
  have b3 := (st0.cells 3).1
  have b4 := (st0.cells 4).1
  have s0 := (st0.cells 0).2
  have s1 := (st0.cells 1).2
  have s2 := (st0.cells 2).2
  have s3 := (st0.cells 3).2
  simp at b0 b1 b2 b3 b4 s0 s1 s2 s3
  have S_st0 := Lib.hid st0
  clear st0
  go_wp2_with (fail)
  refine (stUint 1 5 S_st0.out (by decide) (by decide) (by decide) (by decide) (by omega)).mono ?_
  rintro e w_st1 ⟨rfl, st1⟩
  clear b0 b1 b2 b3 b4 s0 s1 s2 s3
  have b0 := (st1.cells 0).1
  have b1 := (st1.cells 1).1
  have b2 := (st1.cells 2).1
  have b3 := (st1.cells 3).1
  have b4 := (st1.cells 4).1
  have s0 := (st1.cells 0).2
  have s1 := (st1.cells 1).2
  have s2 := (st1.cells 2).2
  have s3 := (st1.cells 3).2
  simp at b0 b1 b2 b3 b4 s0 s1 s2 s3
  have S_st1 := Lib.hid st1
  clear st1
  have hl1 : (bs ++ digs 1 5).length = bs.length + 1 := by rw [List.length_append, digs_length]
  have cI := stInt 8 n S_st1.out (by decide) (by decide) (by unfold I64 at hn; simp only [Nat.reduceMul, Nat.reduceSub, Int.reducePow]; omega) (by omega)
  have CI := Lib.hid cI
  clear hl1 cI
  go_wp2_with (fail)
  refine CI.out.mono ?_
  rintro e w_st2 ⟨rfl, st2⟩
  clear CI b0 b1 b2 b3 b4 s0 s1 s2 s3
  have b0 := (st2.cells 0).1
  have b1 := (st2.cells 1).1
  have b2 := (st2.cells 2).1
  have b3 := (st2.cells 3).1
  have b4 := (st2.cells 4).1
  have s0 := (st2.cells 0).2
  have s1 := (st2.cells 1).2
  have s2 := (st2.cells 2).2
  have s3 := (st2.cells 3).2
  simp at b0 b1 b2 b3 b4 s0 s1 s2 s3
  have S_st2 := Lib.hid st2
  clear st2
  go_wp2
  refine wp_loop_rounds 3 ?_
  rw [rounds_succ]
  go_wp2
  rw [rounds_succ]
  go_wp2
  rw [rounds_succ]
  go_wp2
  go_end0
  have hd := S_st2.out.done
  rw [digs1 5 (by decide) (by decide), digs8, List.append_assoc] at hd
  exact ⟨rfl, hd⟩

theorem stUintRow {w0 w1 w : World} {wb : Nat} {sv0 : Value} {most bx sb : Nat} {A S : Array Value} {bs : List Int} (n : Nat) (x : Int) (v : Value) (ys : List Int) (h : St w0 wb sv0 most bx sb A S bs w1) (ho : Only (fun _ => False) w1 w) (hr : Row w w1.heap.size v ys)
    (h1 : 1 ≤ n) (h8 : n ≤ 8) (h0 : 0 ≤ x) (hx : x < 2 ^ (8 * n)) (hroom : bs.length + n ≤ most) :
    Calls Tryz.prog 40 #[.pointer (some ⟨wb, 0, none⟩), .int .i64 n, .int .u64 x] w fun e w' => e = .returned (.int .i64 0) ∧ St w0 wb sv0 most bx sb A S (bs ++ digs n x) w' ∧ Row w' w1.heap.size v ys := by
  have hq := h.quiet ho
  obtain ⟨sv, g1, g2, g3, g4, g5, g6, g7⟩ := h
  have k1 := g1.only ho (fun h => h) (fun _ _ h => h)
  have hf : fitU n x = true := by rw [fitU_iff n h1 h8 x h0]; exact decide_eq_true hx
  have he : wrErr (fitU n x) n ((most : Int) - bs.length) = 0 := by unfold wrErr; rw [hf, if_neg (by simp), if_neg (by omega)]
  refine (wrUint wb sv most bs n x w k1).mono ?_
  rintro e w' ⟨rfl, hto⟩
  rw [he]
  unfold addU at hto
  rw [if_pos he, Int.toNat_natCast] at hto
  refine ⟨rfl, .step k1 (g2.trans ho (fun _ h => h.elim)) (ho.heap g3 (fun h => h)) (ho.heap g4 (fun h => h)) g5 g6 g7 hto, ?_⟩
  obtain ⟨sv', _, q2, _⟩ := hto
  refine hr.only q2 (fun k hk hS => ?_)
  have := (hr.ge k hk).1
  rcases hS with rfl | e
  · have := g1.lt.1; omega
  · have := g1.lt.2 k e; omega

set_option maxHeartbeats 4000000 in
set_option maxRecDepth 100000 in
theorem wrote7 (wb : Nat) (sv : Value) (most : Nat) (bs : List Int) (c : ConstV) (w : World) (hw : Wr w wb sv most bs) (hroom : bs.length + 259 ≤ most) (ht : c.tag = 7) (ha : 0 ≤ c.a ∧ c.a ≤ 1023) :
    Calls Tryz.prog 75 #[.pointer (some ⟨wb, 0, none⟩), .agg #[.int .i64 c.tag, .string c.text, .int .i64 c.n, .int .i64 c.a, .int .i64 c.b]] w (WroteTo w wb sv most bs (7 :: be2 c.a)) := by
  have hl := hw.lim
  obtain ⟨t, x, n, a, b⟩ := c
  simp only at *
  subst ht
  obtain ⟨ha0, ha1⟩ := ha
  have cS := progShape 7
  rw [show shapeZ 7 = (⟨false, 0, 1, 0⟩, true) from rfl] at cS
  simp only at cS
  have i0 : ∀ w, (Instr.index 150 (.agg #[.int .i64 a, .int .i64 b]) (.int .i64 0)).run Tryz.prog w = .ok (.int .i64 a) w := fun _ => by kernel_rfl
  have i1 : ∀ w, (Instr.index 150 (.agg #[.int .i64 a, .int .i64 b]) (.int .i64 1)).run Tryz.prog w = .ok (.int .i64 b) w := fun _ => by kernel_rfl
  have hlt := hw.lt
  have HW := Lib.hid hw
  have HL := Lib.hid hlt
  clear hw hlt
  go_enter Tryz.func75, Tryz.ntmps75
  go_wp2_with (fail)
  refine (cS _).mono ?_
  rintro e w1 ⟨rfl, ho1⟩
  have hbx := ho1.heap (heap_alloc_new w _) (fun h => h)
  have hs1 := ho1.size
  simp at hs1
  have st0 : St w wb sv most w.heap.size w1.heap.size #[.int .i64 7, .string x, .int .i64 n, .int .i64 a, .int .i64 b] #[.bool false, .int .i64 0, .int .i64 1, .int .i64 0] bs (w1.alloc (.cells #[.bool false, .int .i64 0, .int .i64 1, .int .i64 0] 152)) := by
    have hoA : Only (fun _ => False) w (w1.alloc (.cells #[.bool false, .int .i64 0, .int .i64 1, .int .i64 0] 152)) := (((Only.refl _ w).alloc _).trans ho1 (fun _ h => h.elim)).alloc _
    refine ⟨sv, HW.out.only hoA (fun h => h) (fun _ _ h => h), hoA.mono (fun _ h _ => h.elim), ((Only.refl (fun _ => False) w1).alloc _).heap hbx (fun h => h), heap_alloc_new w1 _, fun k hk => ?_, ?_, ?_⟩
    · have := HL.out.2 k hk
      exact ⟨.inl hk, by omega, by omega⟩
    · have := HL.out.1; omega
    · have := HL.out.1; omega
  clear ho1 hbx cS hs1
  have b0 := (st0.cells 0).1
  have b1 := (st0.cells 1).1
  have b2 := (st0.cells 2).1
  have b3 := (st0.cells 3).1
  have b4 := (st0.cells 4).1
  have s0 := (st0.cells 0).2
  have s1 := (st0.cells 1).2
  have s2 := (st0.cells 2).2
  have s3 := (st0.cells 3).2
  simp at b0 b1 b2 b3 b4 s0 s1 s2 s3
  have S_st0 := Lib.hid st0
  clear st0
  go_wp2_with (fail)
  refine (stUint 1 7 S_st0.out (by decide) (by decide) (by decide) (by decide) (by omega)).mono ?_
  rintro e w_st1 ⟨rfl, st1⟩
  clear b0 b1 b2 b3 b4 s0 s1 s2 s3
  have hl1 : (bs ++ digs 1 7).length = bs.length + 1 := by rw [List.length_append, digs_length]
  have b0 := (st1.cells 0).1
  have b1 := (st1.cells 1).1
  have b2 := (st1.cells 2).1
  have b3 := (st1.cells 3).1
  have b4 := (st1.cells 4).1
  have s0 := (st1.cells 0).2
  have s1 := (st1.cells 1).2
  have s2 := (st1.cells 2).2
  have s3 := (st1.cells 3).2
  simp at b0 b1 b2 b3 b4 s0 s1 s2 s3
  have S_st1 := Lib.hid st1
  clear st1
  have cU := fun w (h : Only (fun _ => False) w_st1 w) => stUint (w := w) 2 a (S_st1.out.quiet h) (by decide) (by decide) ha0 (by simp only [Nat.reduceMul, Int.reducePow]; omega) (by omega)
  have CU := Lib.hid cU
  have HL1 := Lib.hid hl1
  clear cU hl1
  go_wp2
  refine wp_loop_rounds 3 ?_
  rw [rounds_succ]
  go_wp2_with (fail)
  refine (CU.out _ (Only.refl _ _)).mono ?_
  rintro e w_st2 ⟨rfl, st2⟩
  clear CU b0 b1 b2 b3 b4 s0 s1 s2 s3
  have b0 := (st2.cells 0).1
  have b1 := (st2.cells 1).1
  have b2 := (st2.cells 2).1
  have b3 := (st2.cells 3).1
  have b4 := (st2.cells 4).1
  have s0 := (st2.cells 0).2
  have s1 := (st2.cells 1).2
  have s2 := (st2.cells 2).2
  have s3 := (st2.cells 3).2
  simp at b0 b1 b2 b3 b4 s0 s1 s2 s3
  have S_st2 := Lib.hid st2
  clear st2
  go_wp2
  rw [rounds_succ]
  go_wp2
  rw [rounds_succ]
  go_wp2
  go_end0
  have hd := S_st2.out.done
  rw [digs1 7 (by decide) (by decide), digs2, List.append_assoc] at hd
  exact ⟨rfl, hd⟩

set_option maxHeartbeats 4000000 in
set_option maxRecDepth 100000 in
theorem wroteP (wb : Nat) (sv : Value) (most : Nat) (bs : List Int) (c : ConstV) (w : World) (hw : Wr w wb sv most bs) (hroom : bs.length + 259 ≤ most) (la lb : Int) (hs : shapeZ c.tag = (⟨false, 0, la, lb⟩, true)) (hla : la ≠ 0) (hlb : lb ≠ 0) (htg : 0 ≤ c.tag ∧ c.tag ≤ 255) (ha : 0 ≤ c.a ∧ c.a ≤ 1023) (hb : 0 ≤ c.b ∧ c.b ≤ 1023) :
    Calls Tryz.prog 75 #[.pointer (some ⟨wb, 0, none⟩), .agg #[.int .i64 c.tag, .string c.text, .int .i64 c.n, .int .i64 c.a, .int .i64 c.b]] w (WroteTo w wb sv most bs (c.tag :: be2 c.a ++ be2 c.b)) := by
  have hl := hw.lim
  obtain ⟨t, x, n, a, b⟩ := c
  simp only at *
  obtain ⟨ha0, ha1⟩ := ha
  obtain ⟨ht0, ht1⟩ := htg
  obtain ⟨hb0, hb1⟩ := hb
  have a1 : (la == 0) = false := by simpa using hla
  have a2 : (la != 0) = true := by simpa using hla
  have c1 : (lb == 0) = false := by simpa using hlb
  have c2 : (lb != 0) = true := by simpa using hlb
  have cS := progShape t
  rw [show shapeZ t = (⟨false, 0, la, lb⟩, true) from hs] at cS
  simp only at cS
  have i0 : ∀ w, (Instr.index 150 (.agg #[.int .i64 a, .int .i64 b]) (.int .i64 0)).run Tryz.prog w = .ok (.int .i64 a) w := fun _ => by kernel_rfl
  have i1 : ∀ w, (Instr.index 150 (.agg #[.int .i64 a, .int .i64 b]) (.int .i64 1)).run Tryz.prog w = .ok (.int .i64 b) w := fun _ => by kernel_rfl
  have hlt := hw.lt
  have HW := Lib.hid hw
  have HL := Lib.hid hlt
  clear hw hlt
  go_enter Tryz.func75, Tryz.ntmps75
  go_wp2_with (fail)
  refine (cS _).mono ?_
  rintro e w1 ⟨rfl, ho1⟩
  have hbx := ho1.heap (heap_alloc_new w _) (fun h => h)
  have hs1 := ho1.size
  simp at hs1
  have st0 : St w wb sv most w.heap.size w1.heap.size #[.int .i64 t, .string x, .int .i64 n, .int .i64 a, .int .i64 b] #[.bool false, .int .i64 0, .int .i64 la, .int .i64 lb] bs (w1.alloc (.cells #[.bool false, .int .i64 0, .int .i64 la, .int .i64 lb] 152)) := by
    have hoA : Only (fun _ => False) w (w1.alloc (.cells #[.bool false, .int .i64 0, .int .i64 la, .int .i64 lb] 152)) := (((Only.refl _ w).alloc _).trans ho1 (fun _ h => h.elim)).alloc _
    refine ⟨sv, HW.out.only hoA (fun h => h) (fun _ _ h => h), hoA.mono (fun _ h _ => h.elim), ((Only.refl (fun _ => False) w1).alloc _).heap hbx (fun h => h), heap_alloc_new w1 _, fun k hk => ?_, ?_, ?_⟩
    · have := HL.out.2 k hk
      exact ⟨.inl hk, by omega, by omega⟩
    · have := HL.out.1; omega
    · have := HL.out.1; omega
  clear ho1 hbx cS hs1
  clear hs hla hlb
  have b0 := (st0.cells 0).1
  have b1 := (st0.cells 1).1
  have b2 := (st0.cells 2).1
  have b3 := (st0.cells 3).1
  have b4 := (st0.cells 4).1
  have s0 := (st0.cells 0).2
  have s1 := (st0.cells 1).2
  have s2 := (st0.cells 2).2
  have s3 := (st0.cells 3).2
  simp at b0 b1 b2 b3 b4 s0 s1 s2 s3
  have S_st0 := Lib.hid st0
  clear st0
  go_wp2_with (fail)
  refine (stUint 1 t S_st0.out (by decide) (by decide) (by omega) (by simp only [Nat.reduceMul, Int.reducePow]; omega) (by omega)).mono ?_
  rintro e w_st1 ⟨rfl, st1⟩
  clear b0 b1 b2 b3 b4 s0 s1 s2 s3
  have hl1 : (bs ++ digs 1 t).length = bs.length + 1 := by rw [List.length_append, digs_length]
  have b0 := (st1.cells 0).1
  have b1 := (st1.cells 1).1
  have b2 := (st1.cells 2).1
  have b3 := (st1.cells 3).1
  have b4 := (st1.cells 4).1
  have s0 := (st1.cells 0).2
  have s1 := (st1.cells 1).2
  have s2 := (st1.cells 2).2
  have s3 := (st1.cells 3).2
  simp at b0 b1 b2 b3 b4 s0 s1 s2 s3
  have S_st1 := Lib.hid st1
  clear st1
  have cU := fun w (h : Only (fun _ => False) w_st1 w) => stUint (w := w) 2 a (S_st1.out.quiet h) (by decide) (by decide) ha0 (by simp only [Nat.reduceMul, Int.reducePow]; omega) (by omega)
  have CU := Lib.hid cU
  have HL1 := Lib.hid hl1
  clear cU hl1
  go_wp2
  refine wp_loop_rounds 3 ?_
  rw [rounds_succ]
  go_wp2_with (fail)
  refine (CU.out _ (Only.refl _ _)).mono ?_
  rintro e w_st2 ⟨rfl, st2⟩
  clear CU b0 b1 b2 b3 b4 s0 s1 s2 s3
  have b0 := (st2.cells 0).1
  have b1 := (st2.cells 1).1
  have b2 := (st2.cells 2).1
  have b3 := (st2.cells 3).1
  have b4 := (st2.cells 4).1
  have s0 := (st2.cells 0).2
  have s1 := (st2.cells 1).2
  have s2 := (st2.cells 2).2
  have s3 := (st2.cells 3).2
  simp at b0 b1 b2 b3 b4 s0 s1 s2 s3
  have S_st2 := Lib.hid st2
  clear st2
  have hl2 : ((bs ++ digs 1 t) ++ digs 2 a).length = bs.length + 3 := by rw [List.length_append, digs_length, HL1.out]
  have cU := fun w (h : Only (fun _ => False) w_st2 w) => stUint (w := w) 2 b (S_st2.out.quiet h) (by decide) (by decide) hb0 (by simp only [Nat.reduceMul, Int.reducePow]; omega) (by omega)
  have CU := Lib.hid cU
  clear cU hl2
  go_wp2
  rw [rounds_succ]
  go_wp2_with (fail)
  refine (CU.out _ (Only.refl _ _)).mono ?_
  rintro e w_st3 ⟨rfl, st3⟩
  clear CU b0 b1 b2 b3 b4 s0 s1 s2 s3
  have b0 := (st3.cells 0).1
  have b1 := (st3.cells 1).1
  have b2 := (st3.cells 2).1
  have b3 := (st3.cells 3).1
  have b4 := (st3.cells 4).1
  have s0 := (st3.cells 0).2
  have s1 := (st3.cells 1).2
  have s2 := (st3.cells 2).2
  have s3 := (st3.cells 3).2
  simp at b0 b1 b2 b3 b4 s0 s1 s2 s3
  have S_st3 := Lib.hid st3
  clear st3
  go_wp2
  rw [rounds_succ]
  go_wp2
  go_end0
  have hd := S_st3.out.done
  rw [digs1 t ht0 (by omega), digs2, digs2, List.append_assoc, List.append_assoc] at hd
  exact ⟨rfl, hd⟩

set_option maxHeartbeats 4000000 in
set_option maxRecDepth 100000 in
theorem wrote1 (wb : Nat) (sv : Value) (most : Nat) (bs : List Int) (c : ConstV) (w : World) (hw : Wr w wb sv most bs) (hroom : bs.length + 259 ≤ most) (ht : c.tag = 1) (ys : List Int) (he : Enc (nums c.text) ys 0) (hys : ys.length ≤ 256) (hT : Tabs w) (h3 : 3 ≤ wb) (hs3 : ∀ k, sv.ownBlock = some k → 3 ≤ k) (hx : c.text.size ≤ 140737488355328) :
    Calls Tryz.prog 75 #[.pointer (some ⟨wb, 0, none⟩), .agg #[.int .i64 c.tag, .string c.text, .int .i64 c.n, .int .i64 c.a, .int .i64 c.b]] w (WroteTo w wb sv most bs (1 :: be2 ys.length ++ ys)) := by
  have hl := hw.lim
  obtain ⟨t, x, n, a, b⟩ := c
  simp only at *
  subst ht
  have HE := Lib.hid he
  have HT := Lib.hid hT
  have HX := Lib.hid hx
  have HS3 := Lib.hid hs3
  have hyz : (ys.length : Int) ≤ 256 := by omega
  clear he hT hx hs3
  have cS := progShape 1
  rw [show shapeZ 1 = (⟨true, 0, 0, 0⟩, true) from rfl] at cS
  simp only at cS
  have i0 : ∀ w, (Instr.index 150 (.agg #[.int .i64 a, .int .i64 b]) (.int .i64 0)).run Tryz.prog w = .ok (.int .i64 a) w := fun _ => by kernel_rfl
  have i1 : ∀ w, (Instr.index 150 (.agg #[.int .i64 a, .int .i64 b]) (.int .i64 1)).run Tryz.prog w = .ok (.int .i64 b) w := fun _ => by kernel_rfl
  have hlt := hw.lt
  have HW := Lib.hid hw
  have HL := Lib.hid hlt
  clear hw hlt
  go_enter Tryz.func75, Tryz.ntmps75
  go_wp2_with (fail)
  refine (cS _).mono ?_
  rintro e w1 ⟨rfl, ho1⟩
  have hbx := ho1.heap (heap_alloc_new w _) (fun h => h)
  have hs1 := ho1.size
  simp at hs1
  have st0 : St w wb sv most w.heap.size w1.heap.size #[.int .i64 1, .string x, .int .i64 n, .int .i64 a, .int .i64 b] #[.bool true, .int .i64 0, .int .i64 0, .int .i64 0] bs (w1.alloc (.cells #[.bool true, .int .i64 0, .int .i64 0, .int .i64 0] 152)) := by
    have hoA : Only (fun _ => False) w (w1.alloc (.cells #[.bool true, .int .i64 0, .int .i64 0, .int .i64 0] 152)) := (((Only.refl _ w).alloc _).trans ho1 (fun _ h => h.elim)).alloc _
    refine ⟨sv, HW.out.only hoA (fun h => h) (fun _ _ h => h), hoA.mono (fun _ h _ => h.elim), ((Only.refl (fun _ => False) w1).alloc _).heap hbx (fun h => h), heap_alloc_new w1 _, fun k hk => ?_, ?_, ?_⟩
    · have := HL.out.2 k hk
      exact ⟨.inl hk, by omega, by omega⟩
    · have := HL.out.1; omega
    · have := HL.out.1; omega
  clear ho1 hbx cS hs1
  have b0 := (st0.cells 0).1
  have b1 := (st0.cells 1).1
  have b2 := (st0.cells 2).1
  have b3 := (st0.cells 3).1
  have b4 := (st0.cells 4).1
  have s0 := (st0.cells 0).2
  have s1 := (st0.cells 1).2
  have s2 := (st0.cells 2).2
  have s3 := (st0.cells 3).2
  simp at b0 b1 b2 b3 b4 s0 s1 s2 s3
  have S_st0 := Lib.hid st0
  clear st0
  go_wp2_with (fail)
  refine (stUint 1 1 S_st0.out (by decide) (by decide) (by decide) (by decide) (by omega)).mono ?_
  rintro e w_st1 ⟨rfl, st1⟩
  clear b0 b1 b2 b3 b4 s0 s1 s2 s3
  have hl1 : (bs ++ digs 1 1).length = bs.length + 1 := by rw [List.length_append, digs_length]
  have b0 := (st1.cells 0).1
  have b1 := (st1.cells 1).1
  have b2 := (st1.cells 2).1
  have b3 := (st1.cells 3).1
  have b4 := (st1.cells 4).1
  have s0 := (st1.cells 0).2
  have s1 := (st1.cells 1).2
  have s2 := (st1.cells 2).2
  have s3 := (st1.cells 3).2
  simp at b0 b1 b2 b3 b4 s0 s1 s2 s3
  have S_st1 := Lib.hid st1
  clear st1
  have hT1 : Tabs w_st1 := by
    obtain ⟨_, _, g2, _⟩ := S_st1.out
    refine HT.out.only g2 ?_ ?_
    · rintro (e | e)
      · omega
      · have := HS3.out _ e; omega
    · rintro (e | e)
      · omega
      · have := HS3.out _ e; omega
  have cE := encode x w_st1 (by have := HX.out; omega) hT1 hT1.lt (fun cs hcs => by
    obtain ⟨e1, _⟩ := Enc.unique HE.out (.inl ⟨cs, hcs, rfl, rfl⟩)
    rw [← e1]; omega)
  have CE := Lib.hid cE
  have HL1 := Lib.hid hl1
  clear hT1 cE hl1
  go_wp2_with (fail)
  refine CE.out.mono ?_
  rintro e w2 ⟨v, ys', k, rfl, hen, hrow, ho2⟩
  obtain ⟨rfl, rfl⟩ := Enc.unique HE.out hen
  obtain ⟨av, cv, rfl, hcv, hcm⟩ := slice_of_owns hrow
  have hbz := hen.byte
  have st1 := S_st1.out.quiet ho2
  have cU := stUintRow 2 (ys.length : Int) _ ys S_st1.out ho2 hrow (by decide) (by decide) (by omega) (by simp only [Nat.reduceMul, Int.reducePow]; omega) (by have := HL1.out; omega)
  have CU := Lib.hid cU
  have HBZ := Lib.hid hbz
  clear CE hen hrow ho2 cU hbz b0 b1 b2 b3 b4 s0 s1 s2 s3
  clear S_st1
  have b0 := (st1.cells 0).1
  have b1 := (st1.cells 1).1
  have b2 := (st1.cells 2).1
  have b3 := (st1.cells 3).1
  have b4 := (st1.cells 4).1
  have s0 := (st1.cells 0).2
  have s1 := (st1.cells 1).2
  have s2 := (st1.cells 2).2
  have s3 := (st1.cells 3).2
  simp at b0 b1 b2 b3 b4 s0 s1 s2 s3
  have S_st1 := Lib.hid st1
  clear st1
  unfold maxLen at hcm
  go_wp2_with (fail)
  refine CU.out.mono ?_
  rintro e w_st2 ⟨rfl, st2, hrow2⟩
  have hl2 : ((bs ++ digs 1 1) ++ digs 2 (ys.length : Int)).length = bs.length + 3 := by rw [List.length_append, digs_length, HL1.out]
  have cB := stBytes _ ys st2 (hrow2.bytes HBZ.out) (by omega)
  have CB := Lib.hid cB
  clear CU hl2 hrow2 cB b0 b1 b2 b3 b4 s0 s1 s2 s3
  have b0 := (st2.cells 0).1
  have b1 := (st2.cells 1).1
  have b2 := (st2.cells 2).1
  have b3 := (st2.cells 3).1
  have b4 := (st2.cells 4).1
  have s0 := (st2.cells 0).2
  have s1 := (st2.cells 1).2
  have s2 := (st2.cells 2).2
  have s3 := (st2.cells 3).2
  simp at b0 b1 b2 b3 b4 s0 s1 s2 s3
  have S_st2 := Lib.hid st2
  clear st2
  go_wp2_with (fail)
  refine CB.out.mono ?_
  rintro e w_st3 ⟨rfl, st3⟩
  clear CB b0 b1 b2 b3 b4 s0 s1 s2 s3
  have b0 := (st3.cells 0).1
  have b1 := (st3.cells 1).1
  have b2 := (st3.cells 2).1
  have b3 := (st3.cells 3).1
  have b4 := (st3.cells 4).1
  have s0 := (st3.cells 0).2
  have s1 := (st3.cells 1).2
  have s2 := (st3.cells 2).2
  have s3 := (st3.cells 3).2
  simp at b0 b1 b2 b3 b4 s0 s1 s2 s3
  have S_st3 := Lib.hid st3
  clear st3
  go_wp2
  refine wp_loop_rounds 3 ?_
  rw [rounds_succ]
  go_wp2
  rw [rounds_succ]
  go_wp2
  rw [rounds_succ]
  go_wp2
  go_end0
  have hd := S_st3.out.done
  rw [digs1 1 (by decide) (by decide), digs2, List.append_assoc, List.append_assoc] at hd
  exact ⟨rfl, hd⟩
end Go.Proofs.YtodhdiccfobcfaaGreatDoor
namespace Go.Proofs.YtodhdiccfobcfaaGreatDoor
open Go.RowKit Go.Shelf
set_option linter.unusedVariables false
set_option linter.unusedSimpArgs false

theorem not_bad {x : ByteArray} (h : ¬ TextBad x) : ∃ ys, Enc (nums x) ys 0 ∧ ys.length ≤ 256 := by
  apply Classical.byContradiction
  intro hn
  apply h
  intro ys k he
  by_cases hk : k = 0
  · subst hk
    exact .inr (Nat.lt_of_not_le fun hl => hn ⟨ys, he, hl⟩)
  · exact .inl hk

/-- A constant that may be is written. -/
theorem writeOne (cs : List ConstV) (c : ConstV) (hl : cs.length ≤ 1024) (h : oneZ cs c = 0) (hr : ConstR c) (wb : Nat) (sv : Value) (most : Nat) (bs : List Int) (w : World) (hw : Wr w wb sv most bs) (hroom : bs.length + 259 ≤ most) (hT : Tabs w) (h3 : 3 ≤ wb) (hs3 : ∀ k, sv.ownBlock = some k → 3 ≤ k) :
    ∃ b, ConstB c b ∧ Calls Tryz.prog 75 #[.pointer (some ⟨wb, 0, none⟩), .agg #[.int .i64 c.tag, .string c.text, .int .i64 c.n, .int .i64 c.a, .int .i64 c.b]] w (WroteTo w wb sv most bs b) := by
  rcases oneZ_zero hl h with ⟨ht, hb⟩ | ⟨ht, h0, h1⟩ | ht | ⟨ht, h0, h1⟩ | ⟨ht, h0, h1⟩
  · obtain ⟨ys, he, hys⟩ := not_bad hb
    exact ⟨_, .inl ⟨ht, ys, he, hys, rfl⟩, wrote1 wb sv most bs c w hw hroom ht ys he hys hT h3 hs3 (by have := hr.rt; omega)⟩
  · exact ⟨_, .inr (.inl ⟨ht, rfl⟩), wrote3 wb sv most bs c w hw hroom ht ⟨h0, h1⟩⟩
  · exact ⟨_, .inr (.inr (.inl ⟨ht, rfl⟩)), wrote5 wb sv most bs c w hw hroom ht hr.r2⟩
  · exact ⟨_, .inr (.inr (.inr (.inl ⟨ht, rfl⟩))), wrote7 wb sv most bs c w hw hroom ht ⟨h0, h1⟩⟩
  · refine ⟨_, .inr (.inr (.inr (.inr ⟨ht, rfl⟩))), ?_⟩
    rcases ht with ht | ht | ht
    · exact wroteP wb sv most bs c w hw hroom 7 12 (by rw [ht]; rfl) (by decide) (by decide) (by omega) h0 h1
    · exact wroteP wb sv most bs c w hw hroom 7 12 (by rw [ht]; rfl) (by decide) (by decide) (by omega) h0 h1
    · exact wroteP wb sv most bs c w hw hroom 1 1 (by rw [ht]; rfl) (by decide) (by decide) (by omega) h0 h1

/-- What Encode leaves. -/
def EncPTo (w : World) (cs : List ConstV) (e : Ending) (w' : World) : Prop :=
  ∃ v' k, e = .returned (.tuple #[v', .int .i64 k]) ∧ Only (fun _ => False) w w' ∧
      ((checkZ cs = 0 ∧ k = 0 ∧ ∃ bs, ConstsB (cs.drop 1) bs ∧ Row w' w.heap.size v' (be2 cs.length ++ bs)) ∨ (checkZ cs ≠ 0 ∧ k = checkZ cs ∧ v' = .slice none 0 0))

set_option maxHeartbeats 4000000 in
set_option maxRecDepth 100000 in
theorem progEncode (v : Value) (cs : List ConstV) (w : World) (hp : Pool w v cs) (hT : Tabs w) (hg : ErrV w) :
    Calls Tryz.prog 41 #[v] w (EncPTo w cs) := by
  have cC := progCheck v cs w hp hT hg
  obtain ⟨ao, cap, rfl, hl1, hl2, h3, h4, h5⟩ := id hp
  have Hp := Lib.hid hp
  have HT := Lib.hid hT
  clear h3 h4 h5 hp hT hg
  by_cases hz : checkZ cs = 0
  · rw [hz] at cC
    obtain ⟨c1, c2, c3, c4⟩ := checkZ_zero hz
    have HZ := Lib.hid hz
    have HC4 := Lib.hid c4
    have CC := Lib.hid cC
    have hn64 : (cs.length : Int) ≤ 1024 := by omega
    have hn1 : (1 : Int) ≤ (cs.length : Int) := by omega
    obtain ⟨b, o, rfl, _⟩ := Pool.at Hp.out c2
    clear hz c4 cC c3
    go_enter Tryz.func41, Tryz.ntmps41
    go_wp2_with (fail)
    refine CC.out.mono ?_
    rintro e w1 ⟨rfl, ho1⟩
    have HO1 := Lib.hid ho1
    clear ho1 CC
    have cN := newWriterOk 264959 w1 (by decide)
    have CN := Lib.hid cN
    clear cN
    go_wp2_with (fail)
    refine CN.out.mono ?_
    rintro e w2 ⟨rfl, rfl⟩
    clear CN
    have hwr := Wr.new w1 264959 (by decide)
    have hf : fitU 2 (cs.length : Int) = true := by rw [show (2 : Int) = ((2 : Nat) : Int) from rfl, fitU_iff 2 (by decide) (by decide) _ (by omega)]; exact decide_eq_true (by simp only [Nat.reduceMul, Int.reducePow]; omega)
    have he : wrErr (fitU 2 (cs.length : Int)) 2 (((264959 : Nat) : Int) - ([] : List Int).length) = 0 := by rw [hf]; rfl
    have cU := wrUint w1.heap.size (.slice none 0 0) 264959 [] 2 (cs.length : Int) _ hwr
    rw [he] at cU
    unfold addU at cU
    rw [if_pos he] at cU
    have CU := Lib.hid cU
    clear hf he cU hwr
    go_wp2_with (fail)
    refine CU.out.mono ?_
    rintro e w3 ⟨rfl, hto⟩
    clear CU
    obtain ⟨sv, hw3, ho3, hs3⟩ := hto
    rw [List.nil_append, show (2 : Int).toNat = 2 from rfl, digs2] at hw3
    have hon3 : Only (fun _ => False) w w3 := (HO1.out.alloc (.cells #[.slice none 0 0, .int .i64 264959, .bool true] 99)).trans ho3 (fun k hk hl => by
      have := HO1.out.size
      rcases hk with rfl | e
      · omega
      · cases e)
    have hsv : ∀ k, sv.ownBlock = some k → w.heap.size ≤ k := fun k hk => by
      have := HO1.out.size
      rcases hs3 k hk with e | e
      · cases e
      · simp at e; omega
    have hwb : w.heap.size ≤ w1.heap.size := HO1.out.size
    have HW3 := Lib.hid hw3
    have HON3 := Lib.hid hon3
    have HSV := Lib.hid hsv
    clear hw3 ho3 hs3 hon3 hsv
    have hcz : (1 : Int) ≤ (cap : Int) := by omega
    by_cases hcap : cap = 1
    · have hlen : cs.length = 1 := by omega
      have hd : ConstsB (cs.drop 1) [] := by
        rw [List.drop_of_length_le (by omega)]; exact .nil
      have HD := Lib.hid hd
      subst hcap
      have HL1 := Lib.hid hlen
      clear hd
      have hq0 : ((cs.length - 1 : Nat) : Int) ≤ 0 := by omega
      clear hlen c1 c2
      go_wp2
      go_loopw [26] (fun i wr => i = .int .i64 0 ∧ w3 = wr) (fun _ _ => 0)
      case atStart => exact ⟨rfl, rfl⟩
      case round =>
        obtain ⟨rfl, rfl⟩ := hrel
        go_wp2_with (fail)
        refine (wrOut w1.heap.size sv 264959 _ _ (by exact HW3.out)).mono ?_
        rintro e w5 ⟨v', rfl, hown, hbel⟩
        have HOWN := Lib.hid hown
        have HBEL := Lib.hid hbel
        clear hown hbel
        go_wp2
        go_ret2
        refine ⟨v', 0, rfl, HON3.out.trans (Only.of_below HBEL.out (fun _ => False)) (fun _ h => h.elim), .inl ⟨HZ.out, rfl, [], HD.out, ?_⟩⟩
        rw [List.append_nil]
        refine owns_base (show Row _ _ v' _ from HOWN.out) (fun k hk => ?_)
        have h1 := Row.ge (show Row _ _ v' _ from HOWN.out) k hk
        have h2 := HON3.out.size
        omega
    · have hcz2 : (1 : Int) < (cap : Int) := by omega
      go_wp2
      go_loopw [26] (fun i wr => ∃ (j : Nat) (sv : Value) (bs : List Int), i = .int .i64 j ∧ j ≤ cs.length - 1 ∧ ConstsB ((cs.drop 1).take j) bs ∧ Wr wr w1.heap.size sv 264959 (be2 cs.length ++ bs) ∧ (∀ k, sv.ownBlock = some k → w.heap.size ≤ k) ∧ Only (fun _ => False) w wr) (fun i _ => cs.length - (intOf i).toNat)
      case atStart => exact ⟨0, sv, [], rfl, Nat.zero_le _, .nil, by rw [List.append_nil]; exact HW3.out, HSV.out, HON3.out⟩
      case round =>
        obtain ⟨j, sv2, bs, rfl, hj, hB, hwr, hs2, hon⟩ := hrel
        by_cases hlt : j < cs.length - 1
        · have hjz : (j : Int) < ((cs.length - 1 : Nat) : Int) := by omega
          have hlen := hB.len
          rw [List.length_take, List.length_drop, Nat.min_eq_left (by omega)] at hlen
          have hpw := Hp.out.only hon (fun _ _ h => h)
          obtain ⟨b', o', e2, hc⟩ := Pool.at hpw (i := j + 1) (by omega)
          injection e2 with e2
          injection e2 with e2 e3
          subst e2 e3
          have hr := hpw.range (i := j + 1) (by omega)
          have hT2 := HT.out.only hon (fun h => h) (fun h => h)
          have h3 := HT.out.lt3
          obtain ⟨k0, k1, k2, k3, k4⟩ := hc
          rw [show o + (j + 1) * 5 = o + 5 + j * 5 by omega] at k0 k1 k2 k3 k4
          have htk : (cs.drop 1).take (j + 1) = (cs.drop 1).take j ++ [cs.getD (j + 1) default] := by
            rw [List.take_succ_eq_append_getElem (by simp; omega)]
            congr 1
            simp [List.getD, show j + 1 < cs.length by omega, Nat.add_comm 1 j]
          have hone := HC4.out (j + 1) (by omega) (by omega)
          have hwW : ∀ o', Wr (wr.alloc o') w1.heap.size sv2 264959 (be2 cs.length ++ bs) := fun o' => hwr.only ((Only.refl (fun _ => False) wr).alloc o') (fun h => h) (fun _ _ h => h)
          have hTW : ∀ o', Tabs (wr.alloc o') := fun o' => hT2.only ((Only.refl (fun _ => False) wr).alloc o') (fun h => h) (fun h => h)
          have hex : ∀ o', _ := fun o' => writeOne cs (cs.getD (j + 1) default) c1 hone hr w1.heap.size sv2 264959 (be2 cs.length ++ bs) (wr.alloc o') (hwW o') (by rw [List.length_append]; have : (be2 (cs.length : Int)).length = 2 := rfl; omega) (hTW o') (by omega) (fun k hk => by have := hs2 k hk; omega)
          have HEX := Lib.hid hex
          have HTK := Lib.hid htk
          have HB := Lib.hid hB
          have HS2 := Lib.hid hs2
          have HON := Lib.hid hon
          have hr0 := hr.r0
          clear hwr hwW hTW hex htk hB hs2 hon hone hr hpw hT2
          generalize cs.getD (j + 1) default = c at *
          obtain ⟨t, x, n, a, bb⟩ := c
          simp only at *
          obtain ⟨bc, hbc, cW⟩ := HEX.out (.cells #[.int .i64 t, .string x, .int .i64 n, .int .i64 a, .int .i64 bb] 67)
          have HBC := Lib.hid hbc
          have CW := Lib.hid cW
          clear hbc cW HEX
          go_wp2_with (fail)
          refine CW.out.mono ?_
          rintro e w5 ⟨rfl, sv3, hw5, ho5, hs5⟩
          have hon5 : Only (fun _ => False) w w5 := (HON.out.alloc (.cells #[.int .i64 t, .string x, .int .i64 n, .int .i64 a, .int .i64 bb] 67)).trans ho5 (fun k hk hl => by
            rcases hk with rfl | e
            · omega
            · have := HS2.out k e; omega)
          have hs5' : ∀ k, sv3.ownBlock = some k → w.heap.size ≤ k := fun k hk => by
            rcases hs5 k hk with e | e
            · exact HS2.out k e
            · have := HON.out.size; simp at e; omega
          have HW5 := Lib.hid hw5
          have HON5 := Lib.hid hon5
          have HS5 := Lib.hid hs5'
          clear hw5 ho5 hs5 hon5 hs5' CW
          go_wp2
          go_roundw
          case rel => exact ⟨j + 1, sv3, bs ++ bc, by go_num, by omega, by rw [HTK.out]; exact .snoc HB.out HBC.out, by rw [← List.append_assoc]; exact HW5.out, HS5.out, HON5.out⟩
          case measure => simp [intOf]; omega
        · have hjn : j = cs.length - 1 := by omega
          rw [hjn, List.take_of_length_le (by simp)] at hB
          have hjz : ((cs.length - 1 : Nat) : Int) ≤ (j : Int) := by omega
          have HWR := Lib.hid hwr
          have HON := Lib.hid hon
          have HB := Lib.hid hB
          clear hwr hon hB hs2 hjn
          go_wp2_with (fail)
          refine (wrOut w1.heap.size sv2 264959 _ _ (by exact HWR.out)).mono ?_
          rintro e w5 ⟨v', rfl, hown, hbel⟩
          have HOWN := Lib.hid hown
          have HBEL := Lib.hid hbel
          clear hown hbel
          go_wp2
          go_ret2
          refine ⟨v', 0, rfl, HON.out.trans (Only.of_below HBEL.out (fun _ => False)) (fun _ h => h.elim), .inl ⟨HZ.out, rfl, bs, HB.out, ?_⟩⟩
          refine owns_base (show Row _ _ v' _ from HOWN.out) (fun k hk => ?_)
          have h1 := Row.ge (show Row _ _ v' _ from HOWN.out) k hk
          have h2 := HON.out.size
          omega
  · have HZ := Lib.hid hz
    have hkb : (checkZ cs == 0) = false := by simpa using hz
    have hkc : (checkZ cs != 0) = true := by simpa using hz
    clear hz
    go_enter Tryz.func41, Tryz.ntmps41
    go_wp2_with (fail)
    refine cC.mono ?_
    rintro e w1 ⟨rfl, ho1⟩
    have HO1 := Lib.hid ho1
    clear ho1 cC
    go_wp2
    go_ret2
    exact ⟨_, _, rfl, HO1.out, .inr ⟨HZ.out, rfl, rfl⟩⟩
end Go.Proofs.YtodhdiccfobcfaaGreatDoor
