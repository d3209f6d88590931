/- The program writes a constant. No condition beyond a writer that was made and has room. -/
import Derived.Test.YtpiandkiijienaaDoorPolX
import Derived.Test.YtpiandkiijienaaDoorPolE
import Derived.Test.YtpiandkiijienaaDoorWireE
import Derived.Test.YtpiandkiijienaaDoorTxtD
namespace Go.Proofs.YtpiandkiijienaaDoor
open Go.RowKit Go.Shelf
set_option linter.unusedVariables false
set_option linter.unusedSimpArgs false

theorem digs1 (x : Int) (h0 : 0 ≤ x) (h1 : x < 256) : digs 1 x = [x] := by
  simp only [digs, digsTo, List.range_succ, List.range_zero, List.nil_append, List.map_append, List.map_cons, List.map_nil, dig, IntKind.wrap_u8]
  simp
  omega
theorem digs2 (x : Int) : digs 2 x = be2 x := by
  simp only [digs, digsTo, List.range_succ, List.range_zero, List.nil_append, List.map_append, List.map_cons, List.map_nil, dig, IntKind.wrap_u8, be2]
  simp
theorem digs4 (x : Int) : digs 4 x = [x / 16777216 % 256, x / 65536 % 256, x / 256 % 256, x % 256] := by
  simp only [digs, digsTo, List.range_succ, List.range_zero, List.nil_append, List.map_append, List.map_cons, List.map_nil, dig, IntKind.wrap_u8]
  simp
theorem digs8 (x : Int) : digs 8 x = [x / 72057594037927936 % 256, x / 281474976710656 % 256, x / 1099511627776 % 256, x / 4294967296 % 256, x / 16777216 % 256, x / 65536 % 256, x / 256 % 256, x % 256] := by
  simp only [digs, digsTo, List.range_succ, List.range_zero, List.nil_append, List.map_append, List.map_cons, List.map_nil, dig, IntKind.wrap_u8]
  simp

/-- A writer beside two blocks that stay. -/
def St (w0 : World) (wb : Nat) (sv0 : Value) (most bx sb : Nat) (A S : Array Value) (bs : List Int) (w : World) : Prop :=
  ∃ sv, Wr w wb sv most bs ∧ Only (WrS wb sv0) w0 w ∧ w.heap[bx]? = some (.cells A 45 (0, 0)) ∧ w.heap[sb]? = some (.cells S 89 (0, 0)) ∧
    (∀ k, sv.ownBlock = some k → (sv0.ownBlock = some k ∨ w0.heap.size ≤ k) ∧ k ≠ bx ∧ k ≠ sb) ∧ wb ≠ bx ∧ wb ≠ sb
section
variable {w0 w w' : World} {wb : Nat} {sv0 : Value} {most bx sb : Nat} {A S : Array Value} {bs : List Int}
theorem St.quiet (h : St w0 wb sv0 most bx sb A S bs w) (ho : Only (fun _ => False) w w') : St w0 wb sv0 most bx sb A S bs w' := by
  obtain ⟨sv, h1, h2, h3, h4, h5, h6, h7⟩ := h
  exact ⟨sv, h1.only ho (fun h => h) (fun _ _ h => h), h2.trans ho (fun _ h => h.elim), ho.heap h3 (fun h => h), ho.heap h4 (fun h => h), h5, h6, h7⟩
theorem St.step {bs' : List Int} {sv : Value} (h1 : Wr w wb sv most bs) (h2 : Only (WrS wb sv0) w0 w) (h3 : w.heap[bx]? = some (.cells A 45 (0, 0))) (h4 : w.heap[sb]? = some (.cells S 89 (0, 0)))
    (h5 : ∀ k, sv.ownBlock = some k → (sv0.ownBlock = some k ∨ w0.heap.size ≤ k) ∧ k ≠ bx ∧ k ≠ sb) (h6 : wb ≠ bx) (h7 : wb ≠ sb) (hto : WrTo w wb sv most bs' w') : St w0 wb sv0 most bx sb A S bs' w' := by
  obtain ⟨sv', g1, g2, g3⟩ := hto
  have lx := heap_lt h3
  have ls := heap_lt h4
  refine ⟨sv', g1, h2.trans g2 ?_, g2.heap h3 ?_, g2.heap h4 ?_, ?_, h6, h7⟩
  · rintro i (rfl | hi) hl
    · exact .inl rfl
    · rcases (h5 i hi).1 with e | e
      · exact .inr e
      · omega
  · rintro (e | e)
    · exact h6 e.symm
    · exact (h5 _ e).2.1 rfl
  · rintro (e | e)
    · exact h7 e.symm
    · exact (h5 _ e).2.2 rfl
  · intro k hk
    rcases g3 k hk with e | e
    · exact h5 k e
    · exact ⟨.inr (Nat.le_trans h2.size e), by omega, by omega⟩
theorem St.cells (h : St w0 wb sv0 most bx sb A S bs w) (i : Nat) : w.cell? ⟨bx, i, none⟩ = A[i]? ∧ w.cell? ⟨sb, i, none⟩ = S[i]? := by
  obtain ⟨sv, h1, h2, h3, h4, h5, h6, h7⟩ := h
  exact ⟨cell_blk h3 i, cell_blk h4 i⟩
theorem stUint (n : Nat) (x : Int) (h : St w0 wb sv0 most bx sb A S bs w) (h1 : 1 ≤ n) (h8 : n ≤ 8) (h0 : 0 ≤ x) (hx : x < 2 ^ (8 * n)) (hroom : bs.length + n ≤ most) :
    Calls Tryd.prog 23 #[.pointer (some ⟨wb, 0, none⟩), .int .i64 n, .int .u64 x] w fun e w' => e = .returned (.int .i64 0) ∧ St w0 wb sv0 most bx sb A S (bs ++ digs n x) w' := by
  obtain ⟨sv, g1, g2, g3, g4, g5, g6, g7⟩ := h
  have hf : fitU n x = true := by rw [fitU_iff n h1 h8 x h0]; exact decide_eq_true hx
  have he : wrErr (fitU n x) n ((most : Int) - bs.length) = 0 := by unfold wrErr; rw [hf, if_neg (by simp), if_neg (by omega)]
  refine (wrUint wb sv most bs n x w g1).mono ?_
  rintro e w' ⟨rfl, hto⟩
  rw [he]
  unfold addU at hto
  rw [if_pos he, Int.toNat_natCast] at hto
  exact ⟨rfl, .step g1 g2 g3 g4 g5 g6 g7 hto⟩
theorem stInt (n : Nat) (x : Int) (h : St w0 wb sv0 most bx sb A S bs w) (h1 : 1 ≤ n) (h8 : n ≤ 8) (hx : -(2 ^ (8 * n - 1)) ≤ x ∧ x < 2 ^ (8 * n - 1)) (hroom : bs.length + n ≤ most) :
    Calls Tryd.prog 44 #[.pointer (some ⟨wb, 0, none⟩), .int .i64 n, .int .i64 x] w fun e w' => e = .returned (.int .i64 0) ∧ St w0 wb sv0 most bx sb A S (bs ++ digs n x) w' := by
  obtain ⟨sv, g1, g2, g3, g4, g5, g6, g7⟩ := h
  have hf : fitI n x = true := by rw [fitI_iff n h1 h8 x]; exact decide_eq_true hx
  have he : wrErr (fitI n x) n ((most : Int) - bs.length) = 0 := by unfold wrErr; rw [hf, if_neg (by simp), if_neg (by omega)]
  refine (wrInt wb sv most bs n x w g1).mono ?_
  rintro e w' ⟨rfl, hto⟩
  rw [he]
  unfold addU at hto
  rw [if_pos he, Int.toNat_natCast] at hto
  exact ⟨rfl, .step g1 g2 g3 g4 g5 g6 g7 hto⟩
theorem stBytes (v : Value) (zs : List Int) (h : St w0 wb sv0 most bx sb A S bs w) (hb : Bytes w v zs) (hroom : bs.length + zs.length ≤ most) :
    Calls Tryd.prog 43 #[.pointer (some ⟨wb, 0, none⟩), v] w fun e w' => e = .returned (.int .i64 0) ∧ St w0 wb sv0 most bx sb A S (bs ++ zs) w' := by
  obtain ⟨sv, g1, g2, g3, g4, g5, g6, g7⟩ := h
  have he : wrErr true zs.length ((most : Int) - bs.length) = 0 := by unfold wrErr; rw [if_neg (by simp), if_neg (by omega)]
  refine (wrBytes wb sv most bs v zs w g1 hb).mono ?_
  rintro e w' ⟨rfl, hto⟩
  rw [he]
  unfold addB at hto
  rw [if_pos he] at hto
  exact ⟨rfl, .step g1 g2 g3 g4 g5 g6 g7 hto⟩
end

/-- What writing a constant leaves. -/
def WroteTo (w : World) (wb : Nat) (sv : Value) (most : Nat) (bs b : List Int) (e : Ending) (w' : World) : Prop := e = .returned (.tuple #[]) ∧ WrTo w wb sv most (bs ++ b) w'
theorem St.done {w0 w : World} {wb : Nat} {sv0 : Value} {most bx sb : Nat} {A S : Array Value} {bs : List Int} (h : St w0 wb sv0 most bx sb A S bs w) : WrTo w0 wb sv0 most bs w := by
  obtain ⟨sv, h1, h2, h3, h4, h5, h6, h7⟩ := h
  exact ⟨sv, h1, h2, fun k hk => (h5 k hk).1⟩

set_option maxHeartbeats 4000000 in
set_option maxRecDepth 100000 in
theorem wrote3 (wb : Nat) (sv : Value) (most : Nat) (bs : List Int) (c : ConstV) (w : World) (hw : Wr w wb sv most bs) (hroom : bs.length + 259 ≤ most) (ht : c.tag = 3) (hn : -2147483648 ≤ c.n ∧ c.n ≤ 2147483647) :
    Calls Tryd.prog 24 #[.pointer (some ⟨wb, 0, none⟩), .agg #[.int .i64 c.tag, .string c.text, .int .i64 c.n, .int .i64 c.a, .int .i64 c.b]] w (WroteTo w wb sv most bs [3, c.n / 16777216 % 256, c.n / 65536 % 256, c.n / 256 % 256, c.n % 256]) := by
  have hl := hw.lim
  obtain ⟨t, x, n, a, b⟩ := c
  simp only at *
  subst ht
  have cS := progShape 3
  rw [show shapeZ 3 = (⟨false, 4, 0, 0⟩, true) from rfl] at cS
  simp only at cS
  have i0 : ∀ w, (Instr.index 87 (.agg #[.int .i64 a, .int .i64 b]) (.int .i64 0)).run Tryd.prog w = .ok (.int .i64 a) w := fun _ => by kernel_rfl
  have i1 : ∀ w, (Instr.index 87 (.agg #[.int .i64 a, .int .i64 b]) (.int .i64 1)).run Tryd.prog w = .ok (.int .i64 b) w := fun _ => by kernel_rfl
  have hlt := hw.lt
  have HW := Lib.hid hw
  have HL := Lib.hid hlt
  clear hw hlt
  go_enter Tryd.func24, Tryd.ntmps24
  go_wp2_with (fail)
  refine (cS _).mono ?_
  rintro e w1 ⟨rfl, ho1⟩
  have hbx := ho1.heap (heap_alloc_new w _) (fun h => h)
  have hs1 := ho1.size
  simp at hs1
  have st0 : St w wb sv most w.heap.size w1.heap.size #[.int .i64 3, .string x, .int .i64 n, .int .i64 a, .int .i64 b] #[.bool false, .int .i64 4, .int .i64 0, .int .i64 0] bs (w1.alloc (.cells #[.bool false, .int .i64 4, .int .i64 0, .int .i64 0] 89)) := by
    have hoA : Only (fun _ => False) w (w1.alloc (.cells #[.bool false, .int .i64 4, .int .i64 0, .int .i64 0] 89)) := (((Only.refl _ w).alloc _).trans ho1 (fun _ h => h.elim)).alloc _
    refine ⟨sv, HW.out.only hoA (fun h => h) (fun _ _ h => h), hoA.mono (fun _ h _ => h.elim), ((Only.refl (fun _ => False) w1).alloc _).heap hbx (fun h => h), heap_alloc_new w1 _, fun k hk => ?_, ?_, ?_⟩
    · have := HL.out.2 k hk
      exact ⟨.inl hk, by omega, by omega⟩
    · have := HL.out.1; omega
    · have := HL.out.1; omega
  clear ho1 hbx cS hs1
  have b0 := (st0.cells 0).1
  have b1 := (st0.cells 1).1
  have b2 := (st0.cells 2).1
  have b3 := (st0.cells 3).1
  have b4 := (st0.cells 4).1
  have s0 := (st0.cells 0).2
  have s1 := (st0.cells 1).2
  have s2 := (st0.cells 2).2
  have s3 := (st0.cells 3).2
  simp at b0 b1 b2 b3 b4 s0 s1 s2 s3
  have S_st0 := Lib.hid st0
  clear st0
  go_wp2_with (fail)
  refine (stUint 1 3 S_st0.out (by decide) (by decide) (by decide) (by decide) (by omega)).mono ?_
  rintro e w_st1 ⟨rfl, st1⟩
  clear b0 b1 b2 b3 b4 s0 s1 s2 s3
  have b0 := (st1.cells 0).1
  have b1 := (st1.cells 1).1
  have b2 := (st1.cells 2).1
  have b3 := (st1.cells 3).1
  have b4 := (st1.cells 4).1
  have s0 := (st1.cells 0).2
  have s1 := (st1.cells 1).2
  have s2 := (st1.cells 2).2
  have s3 := (st1.cells 3).2
  simp at b0 b1 b2 b3 b4 s0 s1 s2 s3
  have S_st1 := Lib.hid st1
  clear st1
  have hl1 : (bs ++ digs 1 3).length = bs.length + 1 := by rw [List.length_append, digs_length]
  have cI := stInt 4 n S_st1.out (by decide) (by decide) (by simp only [Nat.reduceMul, Nat.reduceSub, Int.reducePow]; omega) (by omega)
  have CI := Lib.hid cI
  clear hl1 cI
  go_wp2_with (fail)
  refine CI.out.mono ?_
  rintro e w_st2 ⟨rfl, st2⟩
  clear CI b0 b1 b2 b3 b4 s0 s1 s2 s3
  have b0 := (st2.cells 0).1
  have b1 := (st2.cells 1).1
  have b2 := (st2.cells 2).1
  have b3 := (st2.cells 3).1
  have b4 := (st2.cells 4).1
  have s0 := (st2.cells 0).2
  have s1 := (st2.cells 1).2
  have s2 := (st2.cells 2).2
  have s3 := (st2.cells 3).2
  simp at b0 b1 b2 b3 b4 s0 s1 s2 s3
  have S_st2 := Lib.hid st2
  clear st2
  go_wp2
  refine wp_loop_rounds 3 ?_
  rw [rounds_succ]
  go_wp2
  rw [rounds_succ]
  go_wp2
  rw [rounds_succ]
  go_wp2
  go_end0
  have hd := S_st2.out.done
  rw [digs1 3 (by decide) (by decide), digs4, List.append_assoc] at hd
  exact ⟨rfl, hd⟩

set_option maxHeartbeats 4000000 in
set_option maxRecDepth 100000 in
theorem wrote5 (wb : Nat) (sv : Value) (most : Nat) (bs : List Int) (c : ConstV) (w : World) (hw : Wr w wb sv most bs) (hroom : bs.length + 259 ≤ most) (ht : c.tag = 5) (hn : I64 c.n) :
    Calls Tryd.prog 24 #[.pointer (some ⟨wb, 0, none⟩), .agg #[.int .i64 c.tag, .string c.text, .int .i64 c.n, .int .i64 c.a, .int .i64 c.b]] w (WroteTo w wb sv most bs [5, c.n / 72057594037927936 % 256, c.n / 281474976710656 % 256, c.n / 1099511627776 % 256, c.n / 4294967296 % 256, c.n / 16777216 % 256, c.n / 65536 % 256, c.n / 256 % 256, c.n % 256]) := by
  have hl := hw.lim
  obtain ⟨t, x, n, a, b⟩ := c
  simp only at *
  subst ht
  have cS := progShape 5
  rw [show shapeZ 5 = (⟨false, 8, 0, 0⟩, true) from rfl] at cS
  simp only at cS
  have i0 : ∀ w, (Instr.index 87 (.agg #[.int .i64 a, .int .i64 b]) (.int .i64 0)).run Tryd.prog w = .ok (.int .i64 a) w := fun _ => by kernel_rfl
  have i1 : ∀ w, (Instr.index 87 (.agg #[.int .i64 a, .int .i64 b]) (.int .i64 1)).run Tryd.prog w = .ok (.int .i64 b) w := fun _ => by kernel_rfl
  have hlt := hw.lt
  have HW := Lib.hid hw
  have HL := Lib.hid hlt
  clear hw hlt
  go_enter Tryd.func24, Tryd.ntmps24
  go_wp2_with (fail)
  refine (cS _).mono ?_
  rintro e w1 ⟨rfl, ho1⟩
  have hbx := ho1.heap (heap_alloc_new w _) (fun h => h)
  have hs1 := ho1.size
  simp at hs1
  have st0 : St w wb sv most w.heap.size w1.heap.size #[.int .i64 5, .string x, .int .i64 n, .int .i64 a, .int .i64 b] #[.bool false, .int .i64 8, .int .i64 0, .int .i64 0] bs (w1.alloc (.cells #[.bool false, .int .i64 8, .int .i64 0, .int .i64 0] 89)) := by
    have hoA : Only (fun _ => False) w (w1.alloc (.cells #[.bool false, .int .i64 8, .int .i64 0, .int .i64 0] 89)) := (((Only.refl _ w).alloc _).trans ho1 (fun _ h => h.elim)).alloc _
    refine ⟨sv, HW.out.only hoA (fun h => h) (fun _ _ h => h), hoA.mono (fun _ h _ => h.elim), ((Only.refl (fun _ => False) w1).alloc _).heap hbx (fun h => h), heap_alloc_new w1 _, fun k hk => ?_, ?_, ?_⟩
    · have := HL.out.2 k hk
      exact ⟨.inl hk, by omega, by omega⟩
    · have := HL.out.1; omega
    · have := HL.out.1; omega
  clear ho1 hbx cS hs1
  have b0 := (st0.cells 0).1
  have b1 := (st0.cells 1).1
  have b2 := (st0.cells 2).1
  have b3 := (st0.cells 3).1
  have b4 := (st0.cells 4).1
  have s0 := (st0.cells 0).2
  have s1 := (st0.cells 1).2
  have s2 := (st0.cells 2).2
  have s3 := (st0.cells 3).2
  simp at b0 b1 b2 b3 b4 s0 s1 s2 s3
  have S_st0 := Lib.hid st0
  clear st0
  go_wp2_with (fail)
  refine (stUint 1 5 S_st0.out (by decide) (by decide) (by decide) (by decide) (by omega)).mono ?_
  rintro e w_st1 ⟨rfl, st1⟩
  clear b0 b1 b2 b3 b4 s0 s1 s2 s3
  have b0 := (st1.cells 0).1
  have b1 := (st1.cells 1).1
  have b2 := (st1.cells 2).1
  have b3 := (st1.cells 3).1
  have b4 := (st1.cells 4).1
  have s0 := (st1.cells 0).2
  have s1 := (st1.cells 1).2
  have s2 := (st1.cells 2).2
  have s3 := (st1.cells 3).2
  simp at b0 b1 b2 b3 b4 s0 s1 s2 s3
  have S_st1 := Lib.hid st1
  clear st1
  have hl1 : (bs ++ digs 1 5).length = bs.length + 1 := by rw [List.length_append, digs_length]
  have cI := stInt 8 n S_st1.out (by decide) (by decide) (by unfold I64 at hn; simp only [Nat.reduceMul, Nat.reduceSub, Int.reducePow]; omega) (by omega)
  have CI := Lib.hid cI
  clear hl1 cI
  go_wp2_with (fail)
  refine CI.out.mono ?_
  rintro e w_st2 ⟨rfl, st2⟩
  clear CI b0 b1 b2 b3 b4 s0 s1 s2 s3
  have b0 := (st2.cells 0).1
  have b1 := (st2.cells 1).1
  have b2 := (st2.cells 2).1
  have b3 := (st2.cells 3).1
  have b4 := (st2.cells 4).1
  have s0 := (st2.cells 0).2
  have s1 := (st2.cells 1).2
  have s2 := (st2.cells 2).2
  have s3 := (st2.cells 3).2
  simp at b0 b1 b2 b3 b4 s0 s1 s2 s3
  have S_st2 := Lib.hid st2
  clear st2
  go_wp2
  refine wp_loop_rounds 3 ?_
  rw [rounds_succ]
  go_wp2
  rw [rounds_succ]
  go_wp2
  rw [rounds_succ]
  go_wp2
  go_end0
  have hd := S_st2.out.done
  rw [digs1 5 (by decide) (by decide), digs8, List.append_assoc] at hd
  exact ⟨rfl, hd⟩

theorem stUintRow {w0 w1 w : World} {wb : Nat} {sv0 : Value} {most bx sb : Nat} {A S : Array Value} {bs : List Int} (n : Nat) (x : Int) (v : Value) (ys : List Int) (h : St w0 wb sv0 most bx sb A S bs w1) (ho : Only (fun _ => False) w1 w) (hr : Row w w1.heap.size v ys)
    (h1 : 1 ≤ n) (h8 : n ≤ 8) (h0 : 0 ≤ x) (hx : x < 2 ^ (8 * n)) (hroom : bs.length + n ≤ most) :
    Calls Tryd.prog 23 #[.pointer (some ⟨wb, 0, none⟩), .int .i64 n, .int .u64 x] w fun e w' => e = .returned (.int .i64 0) ∧ St w0 wb sv0 most bx sb A S (bs ++ digs n x) w' ∧ Row w' w1.heap.size v ys := by
  have hq := h.quiet ho
  obtain ⟨sv, g1, g2, g3, g4, g5, g6, g7⟩ := h
  have k1 := g1.only ho (fun h => h) (fun _ _ h => h)
  have hf : fitU n x = true := by rw [fitU_iff n h1 h8 x h0]; exact decide_eq_true hx
  have he : wrErr (fitU n x) n ((most : Int) - bs.length) = 0 := by unfold wrErr; rw [hf, if_neg (by simp), if_neg (by omega)]
  refine (wrUint wb sv most bs n x w k1).mono ?_
  rintro e w' ⟨rfl, hto⟩
  rw [he]
  unfold addU at hto
  rw [if_pos he, Int.toNat_natCast] at hto
  refine ⟨rfl, .step k1 (g2.trans ho (fun _ h => h.elim)) (ho.heap g3 (fun h => h)) (ho.heap g4 (fun h => h)) g5 g6 g7 hto, ?_⟩
  obtain ⟨sv', _, q2, _⟩ := hto
  refine hr.only q2 (fun k hk hS => ?_)
  have := (hr.ge k hk).1
  rcases hS with rfl | e
  · have := g1.lt.1; omega
  · have := g1.lt.2 k e; omega

set_option maxHeartbeats 4000000 in
set_option maxRecDepth 100000 in
theorem wrote7 (wb : Nat) (sv : Value) (most : Nat) (bs : List Int) (c : ConstV) (w : World) (hw : Wr w wb sv most bs) (hroom : bs.length + 259 ≤ most) (ht : c.tag = 7) (ha : 0 ≤ c.a ∧ c.a ≤ 1023) :
    Calls Tryd.prog 24 #[.pointer (some ⟨wb, 0, none⟩), .agg #[.int .i64 c.tag, .string c.text, .int .i64 c.n, .int .i64 c.a, .int .i64 c.b]] w (WroteTo w wb sv most bs (7 :: be2 c.a)) := by
  have hl := hw.lim
  obtain ⟨t, x, n, a, b⟩ := c
  simp only at *
  subst ht
  obtain ⟨ha0, ha1⟩ := ha
  have cS := progShape 7
  rw [show shapeZ 7 = (⟨false, 0, 1, 0⟩, true) from rfl] at cS
  simp only at cS
  have i0 : ∀ w, (Instr.index 87 (.agg #[.int .i64 a, .int .i64 b]) (.int .i64 0)).run Tryd.prog w = .ok (.int .i64 a) w := fun _ => by kernel_rfl
  have i1 : ∀ w, (Instr.index 87 (.agg #[.int .i64 a, .int .i64 b]) (.int .i64 1)).run Tryd.prog w = .ok (.int .i64 b) w := fun _ => by kernel_rfl
  have hlt := hw.lt
  have HW := Lib.hid hw
  have HL := Lib.hid hlt
  clear hw hlt
  go_enter Tryd.func24, Tryd.ntmps24
  go_wp2_with (fail)
  refine (cS _).mono ?_
  rintro e w1 ⟨rfl, ho1⟩
  have hbx := ho1.heap (heap_alloc_new w _) (fun h => h)
  have hs1 := ho1.size
  simp at hs1
  have st0 : St w wb sv most w.heap.size w1.heap.size #[.int .i64 7, .string x, .int .i64 n, .int .i64 a, .int .i64 b] #[.bool false, .int .i64 0, .int .i64 1, .int .i64 0] bs (w1.alloc (.cells #[.bool false, .int .i64 0, .int .i64 1, .int .i64 0] 89)) := by
    have hoA : Only (fun _ => False) w (w1.alloc (.cells #[.bool false, .int .i64 0, .int .i64 1, .int .i64 0] 89)) := (((Only.refl _ w).alloc _).trans ho1 (fun _ h => h.elim)).alloc _
    refine ⟨sv, HW.out.only hoA (fun h => h) (fun _ _ h => h), hoA.mono (fun _ h _ => h.elim), ((Only.refl (fun _ => False) w1).alloc _).heap hbx (fun h => h), heap_alloc_new w1 _, fun k hk => ?_, ?_, ?_⟩
    · have := HL.out.2 k hk
      exact ⟨.inl hk, by omega, by omega⟩
    · have := HL.out.1; omega
    · have := HL.out.1; omega
  clear ho1 hbx cS hs1
  have b0 := (st0.cells 0).1
  have b1 := (st0.cells 1).1
  have b2 := (st0.cells 2).1
  have b3 := (st0.cells 3).1
  have b4 := (st0.cells 4).1
  have s0 := (st0.cells 0).2
  have s1 := (st0.cells 1).2
  have s2 := (st0.cells 2).2
  have s3 := (st0.cells 3).2
  simp at b0 b1 b2 b3 b4 s0 s1 s2 s3
  have S_st0 := Lib.hid st0
  clear st0
  go_wp2_with (fail)
  refine (stUint 1 7 S_st0.out (by decide) (by decide) (by decide) (by decide) (by omega)).mono ?_
  rintro e w_st1 ⟨rfl, st1⟩
  clear b0 b1 b2 b3 b4 s0 s1 s2 s3
  have hl1 : (bs ++ digs 1 7).length = bs.length + 1 := by rw [List.length_append, digs_length]
  have b0 := (st1.cells 0).1
  have b1 := (st1.cells 1).1
  have b2 := (st1.cells 2).1
  have b3 := (st1.cells 3).1
  have b4 := (st1.cells 4).1
  have s0 := (st1.cells 0).2
  have s1 := (st1.cells 1).2
  have s2 := (st1.cells 2).2
  have s3 := (st1.cells 3).2
  simp at b0 b1 b2 b3 b4 s0 s1 s2 s3
  have S_st1 := Lib.hid st1
  clear st1
  have cU := fun w (h : Only (fun _ => False) w_st1 w) => stUint (w := w) 2 a (S_st1.out.quiet h) (by decide) (by decide) ha0 (by simp only [Nat.reduceMul, Int.reducePow]; omega) (by omega)
  have CU := Lib.hid cU
  have HL1 := Lib.hid hl1
  clear cU hl1
  go_wp2
  refine wp_loop_rounds 3 ?_
  rw [rounds_succ]
  go_wp2_with (fail)
  refine (CU.out _ (Only.refl _ _)).mono ?_
  rintro e w_st2 ⟨rfl, st2⟩
  clear CU b0 b1 b2 b3 b4 s0 s1 s2 s3
  have b0 := (st2.cells 0).1
  have b1 := (st2.cells 1).1
  have b2 := (st2.cells 2).1
  have b3 := (st2.cells 3).1
  have b4 := (st2.cells 4).1
  have s0 := (st2.cells 0).2
  have s1 := (st2.cells 1).2
  have s2 := (st2.cells 2).2
  have s3 := (st2.cells 3).2
  simp at b0 b1 b2 b3 b4 s0 s1 s2 s3
  have S_st2 := Lib.hid st2
  clear st2
  go_wp2
  rw [rounds_succ]
  go_wp2
  rw [rounds_succ]
  go_wp2
  go_end0
  have hd := S_st2.out.done
  rw [digs1 7 (by decide) (by decide), digs2, List.append_assoc] at hd
  exact ⟨rfl, hd⟩

set_option maxHeartbeats 4000000 in
set_option maxRecDepth 100000 in
theorem wroteP (wb : Nat) (sv : Value) (most : Nat) (bs : List Int) (c : ConstV) (w : World) (hw : Wr w wb sv most bs) (hroom : bs.length + 259 ≤ most) (la lb : Int) (hs : shapeZ c.tag = (⟨false, 0, la, lb⟩, true)) (hla : la ≠ 0) (hlb : lb ≠ 0) (htg : 0 ≤ c.tag ∧ c.tag ≤ 255) (ha : 0 ≤ c.a ∧ c.a ≤ 1023) (hb : 0 ≤ c.b ∧ c.b ≤ 1023) :
    Calls Tryd.prog 24 #[.pointer (some ⟨wb, 0, none⟩), .agg #[.int .i64 c.tag, .string c.text, .int .i64 c.n, .int .i64 c.a, .int .i64 c.b]] w (WroteTo w wb sv most bs (c.tag :: be2 c.a ++ be2 c.b)) := by
  have hl := hw.lim
  obtain ⟨t, x, n, a, b⟩ := c
  simp only at *
  obtain ⟨ha0, ha1⟩ := ha
  obtain ⟨ht0, ht1⟩ := htg
  obtain ⟨hb0, hb1⟩ := hb
  have a1 : (la == 0) = false := by simpa using hla
  have a2 : (la != 0) = true := by simpa using hla
  have c1 : (lb == 0) = false := by simpa using hlb
  have c2 : (lb != 0) = true := by simpa using hlb
  have cS := progShape t
  rw [show shapeZ t = (⟨false, 0, la, lb⟩, true) from hs] at cS
  simp only at cS
  have i0 : ∀ w, (Instr.index 87 (.agg #[.int .i64 a, .int .i64 b]) (.int .i64 0)).run Tryd.prog w = .ok (.int .i64 a) w := fun _ => by kernel_rfl
  have i1 : ∀ w, (Instr.index 87 (.agg #[.int .i64 a, .int .i64 b]) (.int .i64 1)).run Tryd.prog w = .ok (.int .i64 b) w := fun _ => by kernel_rfl
  have hlt := hw.lt
  have HW := Lib.hid hw
  have HL := Lib.hid hlt
  clear hw hlt
  go_enter Tryd.func24, Tryd.ntmps24
  go_wp2_with (fail)
  refine (cS _).mono ?_
  rintro e w1 ⟨rfl, ho1⟩
  have hbx := ho1.heap (heap_alloc_new w _) (fun h => h)
  have hs1 := ho1.size
  simp at hs1
  have st0 : St w wb sv most w.heap.size w1.heap.size #[.int .i64 t, .string x, .int .i64 n, .int .i64 a, .int .i64 b] #[.bool false, .int .i64 0, .int .i64 la, .int .i64 lb] bs (w1.alloc (.cells #[.bool false, .int .i64 0, .int .i64 la, .int .i64 lb] 89)) := by
    have hoA : Only (fun _ => False) w (w1.alloc (.cells #[.bool false, .int .i64 0, .int .i64 la, .int .i64 lb] 89)) := (((Only.refl _ w).alloc _).trans ho1 (fun _ h => h.elim)).alloc _
    refine ⟨sv, HW.out.only hoA (fun h => h) (fun _ _ h => h), hoA.mono (fun _ h _ => h.elim), ((Only.refl (fun _ => False) w1).alloc _).heap hbx (fun h => h), heap_alloc_new w1 _, fun k hk => ?_, ?_, ?_⟩
    · have := HL.out.2 k hk
      exact ⟨.inl hk, by omega, by omega⟩
    · have := HL.out.1; omega
    · have := HL.out.1; omega
  clear ho1 hbx cS hs1
  clear hs hla hlb
  have b0 := (st0.cells 0).1
  have b1 := (st0.cells 1).1
  have b2 := (st0.cells 2).1
  have b3 := (st0.cells 3).1
  have b4 := (st0.cells 4).1
  have s0 := (st0.cells 0).2
  have s1 := (st0.cells 1).2
  have s2 := (st0.cells 2).2
  have s3 := (st0.cells 3).2
  simp at b0 b1 b2 b3 b4 s0 s1 s2 s3
  have S_st0 := Lib.hid st0
  clear st0
  go_wp2_with (fail)
  refine (stUint 1 t S_st0.out (by decide) (by decide) (by omega) (by simp only [Nat.reduceMul, Int.reducePow]; omega) (by omega)).mono ?_
  rintro e w_st1 ⟨rfl, st1⟩
  clear b0 b1 b2 b3 b4 s0 s1 s2 s3
  have hl1 : (bs ++ digs 1 t).length = bs.length + 1 := by rw [List.length_append, digs_length]
  have b0 := (st1.cells 0).1
  have b1 := (st1.cells 1).1
  have b2 := (st1.cells 2).1
  have b3 := (st1.cells 3).1
  have b4 := (st1.cells 4).1
  have s0 := (st1.cells 0).2
  have s1 := (st1.cells 1).2
  have s2 := (st1.cells 2).2
  have s3 := (st1.cells 3).2
  simp at b0 b1 b2 b3 b4 s0 s1 s2 s3
  have S_st1 := Lib.hid st1
  clear st1
  have cU := fun w (h : Only (fun _ => False) w_st1 w) => stUint (w := w) 2 a (S_st1.out.quiet h) (by decide) (by decide) ha0 (by simp only [Nat.reduceMul, Int.reducePow]; omega) (by omega)
  have CU := Lib.hid cU
  have HL1 := Lib.hid hl1
  clear cU hl1
  go_wp2
  refine wp_loop_rounds 3 ?_
  rw [rounds_succ]
  go_wp2_with (fail)
  refine (CU.out _ (Only.refl _ _)).mono ?_
  rintro e w_st2 ⟨rfl, st2⟩
  clear CU b0 b1 b2 b3 b4 s0 s1 s2 s3
  have b0 := (st2.cells 0).1
  have b1 := (st2.cells 1).1
  have b2 := (st2.cells 2).1
  have b3 := (st2.cells 3).1
  have b4 := (st2.cells 4).1
  have s0 := (st2.cells 0).2
  have s1 := (st2.cells 1).2
  have s2 := (st2.cells 2).2
  have s3 := (st2.cells 3).2
  simp at b0 b1 b2 b3 b4 s0 s1 s2 s3
  have S_st2 := Lib.hid st2
  clear st2
  have hl2 : ((bs ++ digs 1 t) ++ digs 2 a).length = bs.length + 3 := by rw [List.length_append, digs_length, HL1.out]
  have cU := fun w (h : Only (fun _ => False) w_st2 w) => stUint (w := w) 2 b (S_st2.out.quiet h) (by decide) (by decide) hb0 (by simp only [Nat.reduceMul, Int.reducePow]; omega) (by omega)
  have CU := Lib.hid cU
  clear cU hl2
  go_wp2
  rw [rounds_succ]
  go_wp2_with (fail)
  refine (CU.out _ (Only.refl _ _)).mono ?_
  rintro e w_st3 ⟨rfl, st3⟩
  clear CU b0 b1 b2 b3 b4 s0 s1 s2 s3
  have b0 := (st3.cells 0).1
  have b1 := (st3.cells 1).1
  have b2 := (st3.cells 2).1
  have b3 := (st3.cells 3).1
  have b4 := (st3.cells 4).1
  have s0 := (st3.cells 0).2
  have s1 := (st3.cells 1).2
  have s2 := (st3.cells 2).2
  have s3 := (st3.cells 3).2
  simp at b0 b1 b2 b3 b4 s0 s1 s2 s3
  have S_st3 := Lib.hid st3
  clear st3
  go_wp2
  rw [rounds_succ]
  go_wp2
  go_end0
  have hd := S_st3.out.done
  rw [digs1 t ht0 (by omega), digs2, digs2, List.append_assoc, List.append_assoc] at hd
  exact ⟨rfl, hd⟩

set_option maxHeartbeats 4000000 in
set_option maxRecDepth 100000 in
theorem wrote1 (wb : Nat) (sv : Value) (most : Nat) (bs : List Int) (c : ConstV) (w : World) (hw : Wr w wb sv most bs) (hroom : bs.length + 259 ≤ most) (ht : c.tag = 1) (ys : List Int) (he : Enc (nums c.text) ys 0) (hys : ys.length ≤ 256) (hT : Tabs w) (h3 : 3 ≤ wb) (hs3 : ∀ k, sv.ownBlock = some k → 3 ≤ k) (hx : c.text.size ≤ 140737488355328) :
    Calls Tryd.prog 24 #[.pointer (some ⟨wb, 0, none⟩), .agg #[.int .i64 c.tag, .string c.text, .int .i64 c.n, .int .i64 c.a, .int .i64 c.b]] w (WroteTo w wb sv most bs (1 :: be2 ys.length ++ ys)) := by
  have hl := hw.lim
  obtain ⟨t, x, n, a, b⟩ := c
  simp only at *
  subst ht
  have HE := Lib.hid he
  have HT := Lib.hid hT
  have HX := Lib.hid hx
  have HS3 := Lib.hid hs3
  have hyz : (ys.length : Int) ≤ 256 := by omega
  clear he hT hx hs3
  have cS := progShape 1
  rw [show shapeZ 1 = (⟨true, 0, 0, 0⟩, true) from rfl] at cS
  simp only at cS
  have i0 : ∀ w, (Instr.index 87 (.agg #[.int .i64 a, .int .i64 b]) (.int .i64 0)).run Tryd.prog w = .ok (.int .i64 a) w := fun _ => by kernel_rfl
  have i1 : ∀ w, (Instr.index 87 (.agg #[.int .i64 a, .int .i64 b]) (.int .i64 1)).run Tryd.prog w = .ok (.int .i64 b) w := fun _ => by kernel_rfl
  have hlt := hw.lt
  have HW := Lib.hid hw
  have HL := Lib.hid hlt
  clear hw hlt
  go_enter Tryd.func24, Tryd.ntmps24
  go_wp2_with (fail)
  refine (cS _).mono ?_
  rintro e w1 ⟨rfl, ho1⟩
  have hbx := ho1.heap (heap_alloc_new w _) (fun h => h)
  have hs1 := ho1.size
  simp at hs1
  have st0 : St w wb sv most w.heap.size w1.heap.size #[.int .i64 1, .string x, .int .i64 n, .int .i64 a, .int .i64 b] #[.bool true, .int .i64 0, .int .i64 0, .int .i64 0] bs (w1.alloc (.cells #[.bool true, .int .i64 0, .int .i64 0, .int .i64 0] 89)) := by
    have hoA : Only (fun _ => False) w (w1.alloc (.cells #[.bool true, .int .i64 0, .int .i64 0, .int .i64 0] 89)) := (((Only.refl _ w).alloc _).trans ho1 (fun _ h => h.elim)).alloc _
    refine ⟨sv, HW.out.only hoA (fun h => h) (fun _ _ h => h), hoA.mono (fun _ h _ => h.elim), ((Only.refl (fun _ => False) w1).alloc _).heap hbx (fun h => h), heap_alloc_new w1 _, fun k hk => ?_, ?_, ?_⟩
    · have := HL.out.2 k hk
      exact ⟨.inl hk, by omega, by omega⟩
    · have := HL.out.1; omega
    · have := HL.out.1; omega
  clear ho1 hbx cS hs1
  have b0 := (st0.cells 0).1
  have b1 := (st0.cells 1).1
  have b2 := (st0.cells 2).1
  have b3 := (st0.cells 3).1
  have b4 := (st0.cells 4).1
  have s0 := (st0.cells 0).2
  have s1 := (st0.cells 1).2
  have s2 := (st0.cells 2).2
  have s3 := (st0.cells 3).2
  simp at b0 b1 b2 b3 b4 s0 s1 s2 s3
  have S_st0 := Lib.hid st0
  clear st0
  go_wp2_with (fail)
  refine (stUint 1 1 S_st0.out (by decide) (by decide) (by decide) (by decide) (by omega)).mono ?_
  rintro e w_st1 ⟨rfl, st1⟩
  clear b0 b1 b2 b3 b4 s0 s1 s2 s3
  have hl1 : (bs ++ digs 1 1).length = bs.length + 1 := by rw [List.length_append, digs_length]
  have b0 := (st1.cells 0).1
  have b1 := (st1.cells 1).1
  have b2 := (st1.cells 2).1
  have b3 := (st1.cells 3).1
  have b4 := (st1.cells 4).1
  have s0 := (st1.cells 0).2
  have s1 := (st1.cells 1).2
  have s2 := (st1.cells 2).2
  have s3 := (st1.cells 3).2
  simp at b0 b1 b2 b3 b4 s0 s1 s2 s3
  have S_st1 := Lib.hid st1
  clear st1
  have hT1 : Tabs w_st1 := by
    obtain ⟨_, _, g2, _⟩ := S_st1.out
    refine HT.out.only g2 ?_ ?_
    · rintro (e | e)
      · omega
      · have := HS3.out _ e; omega
    · rintro (e | e)
      · omega
      · have := HS3.out _ e; omega
  have cE := encode x w_st1 (by have := HX.out; omega) hT1 hT1.lt (fun cs hcs => by
    obtain ⟨e1, _⟩ := Enc.unique HE.out (.inl ⟨cs, hcs, rfl, rfl⟩)
    rw [← e1]; omega)
  have CE := Lib.hid cE
  have HL1 := Lib.hid hl1
  clear hT1 cE hl1
  go_wp2_with (fail)
  refine CE.out.mono ?_
  rintro e w2 ⟨v, ys', k, rfl, hen, hrow, ho2⟩
  obtain ⟨rfl, rfl⟩ := Enc.unique HE.out hen
  obtain ⟨av, cv, rfl, hcv, hcm⟩ := slice_of_owns hrow
  have hbz := hen.byte
  have st1 := S_st1.out.quiet ho2
  have cU := stUintRow 2 (ys.length : Int) _ ys S_st1.out ho2 hrow (by decide) (by decide) (by omega) (by simp only [Nat.reduceMul, Int.reducePow]; omega) (by have := HL1.out; omega)
  have CU := Lib.hid cU
  have HBZ := Lib.hid hbz
  clear CE hen hrow ho2 cU hbz b0 b1 b2 b3 b4 s0 s1 s2 s3
  clear S_st1
  have b0 := (st1.cells 0).1
  have b1 := (st1.cells 1).1
  have b2 := (st1.cells 2).1
  have b3 := (st1.cells 3).1
  have b4 := (st1.cells 4).1
  have s0 := (st1.cells 0).2
  have s1 := (st1.cells 1).2
  have s2 := (st1.cells 2).2
  have s3 := (st1.cells 3).2
  simp at b0 b1 b2 b3 b4 s0 s1 s2 s3
  have S_st1 := Lib.hid st1
  clear st1
  unfold maxLen at hcm
  go_wp2_with (fail)
  refine CU.out.mono ?_
  rintro e w_st2 ⟨rfl, st2, hrow2⟩
  have hl2 : ((bs ++ digs 1 1) ++ digs 2 (ys.length : Int)).length = bs.length + 3 := by rw [List.length_append, digs_length, HL1.out]
  have cB := stBytes _ ys st2 (hrow2.bytes HBZ.out) (by omega)
  have CB := Lib.hid cB
  clear CU hl2 hrow2 cB b0 b1 b2 b3 b4 s0 s1 s2 s3
  have b0 := (st2.cells 0).1
  have b1 := (st2.cells 1).1
  have b2 := (st2.cells 2).1
  have b3 := (st2.cells 3).1
  have b4 := (st2.cells 4).1
  have s0 := (st2.cells 0).2
  have s1 := (st2.cells 1).2
  have s2 := (st2.cells 2).2
  have s3 := (st2.cells 3).2
  simp at b0 b1 b2 b3 b4 s0 s1 s2 s3
  have S_st2 := Lib.hid st2
  clear st2
  go_wp2_with (fail)
  refine CB.out.mono ?_
  rintro e w_st3 ⟨rfl, st3⟩
  clear CB b0 b1 b2 b3 b4 s0 s1 s2 s3
  have b0 := (st3.cells 0).1
  have b1 := (st3.cells 1).1
  have b2 := (st3.cells 2).1
  have b3 := (st3.cells 3).1
  have b4 := (st3.cells 4).1
  have s0 := (st3.cells 0).2
  have s1 := (st3.cells 1).2
  have s2 := (st3.cells 2).2
  have s3 := (st3.cells 3).2
  simp at b0 b1 b2 b3 b4 s0 s1 s2 s3
  have S_st3 := Lib.hid st3
  clear st3
  go_wp2
  refine wp_loop_rounds 3 ?_
  rw [rounds_succ]
  go_wp2
  rw [rounds_succ]
  go_wp2
  rw [rounds_succ]
  go_wp2
  go_end0
  have hd := S_st3.out.done
  rw [digs1 1 (by decide) (by decide), digs2, List.append_assoc, List.append_assoc] at hd
  exact ⟨rfl, hd⟩
end Go.Proofs.YtpiandkiijienaaDoor
