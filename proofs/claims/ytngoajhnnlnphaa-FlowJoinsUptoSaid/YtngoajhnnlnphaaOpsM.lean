/- The document's own Decode of an instruction. No condition. -/
import Derived.Test.YtngoajhnnlnphaaOpsH
import Derived.Deep.RegionLaw
import Derived.BigRegion
import Derived.IntWalk
namespace Go.Proofs.Ytngoajhnnlnphaa
open Go.RowKit
set_option linter.unusedVariables false
set_option linter.unusedSimpArgs false

set_option maxHeartbeats 1000000 in
theorem refExtra (s : Int) (w : World) (hs : s = 45 ∨ s = 98 ∨ s = 115 ∨ s = 117 ∨ s = 99 ∨ s = 116 ∨ s = 105) :
    Calls Try.prog 30 #[.int .u8 s] w fun e w' => e = .returned (.int .i64 (extraZ s)) ∧ w = w' := by
  rcases hs with rfl | rfl | rfl | rfl | rfl | rfl | rfl
  all_goals
    go_enter Try.func30, Try.ntmps30
    go_wp2
    go_ret
    exact ⟨rfl, rfl⟩

theorem set_ne {w : World} {b i k : Nat} {u : Value} {o : Obj} (h : w.heap[k]? = some o) (hne : k ≠ b) : (w.setCell ⟨b, i, none⟩ u).heap[k]? = some o :=
  (Only.setCell (S := fun j => j = b) (p := ⟨b, i, none⟩) (Only.refl _ w) (fun _ => rfl) u).heap h hne
theorem only1 {S : Nat → Prop} {w w' : World} {b i : Nat} {u : Value} (h : Only S w w') (hb : b < w.heap.size → S b) : Only S w (w'.setCell ⟨b, i, none⟩ u) := Only.setCell (S := S) (p := ⟨b, i, none⟩) h hb u
theorem read_i8 {x : Int} (h0 : 0 ≤ x) (h1 : x ≤ 255) : IntKind.i8.wrap x = sgn 1 x := by
  rw [sgn1]
  simp [IntKind.wrap, IntKind.bits, IntKind.signed]
  split <;> omega
theorem only1d {S : Nat → Prop} {w w' : World} {b i : Nat} {u : Value} (h : Only S w w') (hb : b < w.heap.size → S b) : Only S w (w'.setCell ⟨b, i, none⟩ u).drew := (only1 h hb).drew
theorem or16 {x y : Int} (hx0 : 0 ≤ x) (hx1 : x < 256) (hy0 : 0 ≤ y) (hy1 : y < 256) : bits .or .u16 (x * 256) y = x * 256 + y := by
  rw [u16_or _ _ (by omega) (by omega) (by omega) (by omega), nat_join 8 _ _ (by omega) (by omega)]
  omega
theorem or64 {x y : Int} (hx0 : 0 ≤ x) (hx1 : x < 256) (hy0 : 0 ≤ y) (hy1 : y < 256) : bits .or .i64 (x * 256) y = x * 256 + y := by
  rw [bits_or_byte .i64 rfl _ _ (by omega) hy0 hy1, wrapI', wrapI]
  omega
theorem read_i16 {x y : Int} (hx0 : 0 ≤ x) (hx1 : x < 256) (hy0 : 0 ≤ y) (hy1 : y < 256) : wrap64 (IntKind.i16.wrap (bits .or .u16 (x * 256) y)) = sgn 2 (x * 256 + y) := by
  rw [or16 hx0 hx1 hy0 hy1, sgn2, wrapI]
  simp [IntKind.wrap, IntKind.bits, IntKind.signed]
  repeat' split
  all_goals omega
theorem fin98 (n : Nat) (op x : Int) (ys : List Int) (hx0 : 0 ≤ x) (hx1 : x < 256) : (⟨n, op, aZ 98 n (x :: ys), bZ 98 (x :: ys), 1 + ((1 : Nat) : Int)⟩ : InstrV) = ⟨n, op, wrap64 (IntKind.i8.wrap x), 0, 2⟩ := by
  have h : aZ 98 n (x :: ys) = wrap64 (IntKind.i8.wrap x) := by
    rw [read_i8 hx0 (by omega), sgn1, wrapI]
    simp [aZ, numZ, sgA, lenA, leadsZ, valB1, sgn1]
    split <;> omega
  rw [h]
  rfl
theorem fin117 (n : Nat) (op x : Int) (ys : List Int) (hx0 : 0 ≤ x) (hx1 : x < 256) : (⟨n, op, aZ 117 n (x :: ys), bZ 117 (x :: ys), 1 + ((1 : Nat) : Int)⟩ : InstrV) = ⟨n, op, x, 0, 2⟩ := by
  have h : aZ 117 n (x :: ys) = x := by simp [aZ, numZ, sgA, lenA, leadsZ, valB1]
  rw [h]
  rfl
theorem fin115 (n : Nat) (op x y : Int) (ys : List Int) (hx0 : 0 ≤ x) (hx1 : x < 256) (hy0 : 0 ≤ y) (hy1 : y < 256) : (⟨n, op, aZ 115 n (x :: y :: ys), bZ 115 (x :: y :: ys), 1 + ((2 : Nat) : Int)⟩ : InstrV) = ⟨n, op, wrap64 (IntKind.i16.wrap (bits BinOp.or IntKind.u16 (x * 256) y)), 0, 3⟩ := by
  have h : aZ 115 n (x :: y :: ys) = wrap64 (IntKind.i16.wrap (bits BinOp.or IntKind.u16 (x * 256) y)) := by
    rw [read_i16 hx0 hx1 hy0 hy1]
    simp [aZ, numZ, sgA, lenA, leadsZ, valB2]
  rw [h]
  rfl
theorem fin99 (n : Nat) (op x y : Int) (ys : List Int) (hx0 : 0 ≤ x) (hx1 : x < 256) (hy0 : 0 ≤ y) (hy1 : y < 256) : (⟨n, op, aZ 99 n (x :: y :: ys), bZ 99 (x :: y :: ys), 1 + ((2 : Nat) : Int)⟩ : InstrV) = ⟨n, op, bits BinOp.or IntKind.i64 (x * 256) y, 0, 3⟩ := by
  have h : aZ 99 n (x :: y :: ys) = bits BinOp.or IntKind.i64 (x * 256) y := by
    rw [or64 hx0 hx1 hy0 hy1]
    simp [aZ, numZ, sgA, lenA, leadsZ, valB2]
  rw [h]
  rfl
theorem fin116 (n : Nat) (op x y : Int) (ys : List Int) (hx0 : 0 ≤ x) (hx1 : x < 256) (hy0 : 0 ≤ y) (hy1 : y < 256) (hn : n ≤ 140737488355328) : (⟨n, op, aZ 116 n (x :: y :: ys), bZ 116 (x :: y :: ys), 1 + ((2 : Nat) : Int)⟩ : InstrV) = ⟨n, op, wrap64 ((n : Int) + wrap64 (IntKind.i16.wrap (bits BinOp.or IntKind.u16 (x * 256) y))), 0, 3⟩ := by
  have h : aZ 116 n (x :: y :: ys) = wrap64 ((n : Int) + wrap64 (IntKind.i16.wrap (bits BinOp.or IntKind.u16 (x * 256) y))) := by
    rw [read_i16 hx0 hx1 hy0 hy1, wrapI, sgn2]
    simp [aZ, numZ, sgA, lenA, leadsZ, valB2, sgn2]
    split <;> omega
  rw [h]
  rfl
theorem fin105 (n : Nat) (op x y : Int) (ys : List Int) (hx0 : 0 ≤ x) (hx1 : x < 256) (hy0 : 0 ≤ y) (hy1 : y < 256) : (⟨n, op, aZ 105 n (x :: y :: ys), bZ 105 (x :: y :: ys), 1 + ((2 : Nat) : Int)⟩ : InstrV) = ⟨n, op, x, wrap64 (IntKind.i8.wrap y), 3⟩ := by
  have h : aZ 105 n (x :: y :: ys) = x := by simp [aZ, numZ, sgA, lenA, leadsZ, valB1]
  have h2 : bZ 105 (x :: y :: ys) = wrap64 (IntKind.i8.wrap y) := by
    rw [read_i8 hy0 (by omega), sgn1, wrapI]
    simp [bZ, numZ, lenA, lenB, valB1, sgn1]
    split <;> omega
  rw [h, h2]
  rfl

set_option maxHeartbeats 8000000 in
set_option maxRecDepth 100000 in
theorem refDecodeA (g o cap : Nat) (zs : List Int) (n : Nat) (w : World) (hb : Bytes w (.slice (some ⟨g, o, none⟩) zs.length cap) zs) (hl : zs.length ≤ 140737488355328) (hn : n < zs.length) (hc : zs.length ≤ cap) (hm : cap ≤ 9223372036854775807) :
    Calls Try.prog 22 #[.slice (some ⟨g, o, none⟩) zs.length cap, .int .i64 n] w fun e w' => e = .returned (.tuple #[valI (decAt n (zs.drop n)).1, .int .i64 (decAt n (zs.drop n)).2]) ∧ Only (fun _ => False) w w' := by
  have hbz : Bytish zs := by obtain ⟨_, _, _, _, _, _, h, _⟩ := hb; exact h
  obtain ⟨op, hop⟩ : ∃ op, op = zs.getD n 0 := ⟨_, rfl⟩
  have hopb := hbz.getD hn
  rw [← hop] at hopb
  have hdr : zs.drop n = op :: zs.drop (n + 1) := by rw [hop, List.drop_eq_getElem_cons hn]; simp [List.getD, hn]
  obtain ⟨r, hr⟩ : ∃ r, r = decAt n (zs.drop n) := ⟨_, rfl⟩
  rw [← hr]
  rw [hdr] at hr
  have hcell := fun (w' : World) (ho : Only (fun _ => False) w w') => cellOf (hb.only ho (fun _ _ _ h => h))
  have ho1 := (Only.refl (fun _ => False) w).alloc (.cells #[.int .i64 0, .int .i64 0, .int .i64 0, .int .i64 0, .int .i64 0] 39)
  have hr1 := heap_alloc_new w (.cells #[.int .i64 0, .int .i64 0, .int .i64 0, .int .i64 0, .int .i64 0] 39)
  have ho2 := (Only.refl (fun _ => False) (w.alloc (.cells #[.int .i64 0, .int .i64 0, .int .i64 0, .int .i64 0, .int .i64 0] 39))).alloc (.cells #[.int .i64 n, .int .i64 op, .int .i64 0, .int .i64 0, .int .i64 0] 39)
  have hi2 := heap_alloc_new (w.alloc (.cells #[.int .i64 0, .int .i64 0, .int .i64 0, .int .i64 0, .int .i64 0] 39)) (.cells #[.int .i64 n, .int .i64 op, .int .i64 0, .int .i64 0, .int .i64 0] 39)
  rw [World.size_alloc] at hi2
  have hr2 := ho2.heap hr1 (fun h => h)
  have c0 := hcell _ ho1 n hn
  rw [← hop] at c0
  have hon2 := ho1.trans ho2 (fun _ h _ => h)
  have hzl : ¬ zs.length < n := by omega
  have hzl2 : ((n : Int) == (zs.length : Int)) = false := by rw [beq_eq_false_iff_ne]; omega
  have hnz : (n : Int) < (zs.length : Int) := by omega
  have ho0 := hopb.1
  have ho9 := hopb.2
  have HR := Lib.hid hr
  have HCELL := Lib.hid hcell
  have HI2 := Lib.hid hi2
  have HR2 := Lib.hid hr2
  have HON2 := Lib.hid hon2
  have HBZ := Lib.hid hbz
  have HB := Lib.hid hb
  clear hr hcell hi2 hr2 hon2 ho1 ho2 hr1 hdr hop hopb hbz hb
  go_enter Try.func22, Try.ntmps22
  go_wp2_with (fail)
  refine (refShape op _).mono ?_
  cases hc : codeOf op with
  | none =>
    rw [(shape_none hc).1, (shape_none hc).2.1]
    have HC := Lib.hid hc
    clear hc
    rintro e w3 ⟨rfl, ho3⟩
    have hr3 := ho3.heap HR2.out (fun h => h)
    have hon3 := HON2.out.trans ho3 (fun _ h _ => h)
    obtain ⟨f0, f1, f2, f3, f4⟩ := marks5 hr3
    obtain ⟨r0, r1, r2, r3, r4⟩ := cells5 hr3
    have HR3 := Lib.hid hr3
    have HON3 := Lib.hid hon3
    clear hr3 hon3 ho3 c0
    go_wp2
    refine bodyPost_ret (instr_result (i := zeroI) Try.results22 (store5 HR3.out) rfl rfl) rfl ⟨?_, ?_⟩
    · rw [HR.out]; unfold decAt; simp only; rw [HC.out]; rfl
    · exact only5 HON3.out (fun hl => absurd hl (Nat.lt_irrefl _))
  | some c =>
    rw [(shape_of hc).1, (shape_of hc).2.1]
    have hL := lens hc
    have hS := (codeOf_shape hc).1
    have HD : Hid (r = if (zs.drop (n + 1)).length < extraZ c.shape then (zeroI, 3) else (⟨n, op, aZ c.shape n (zs.drop (n + 1)), bZ c.shape (zs.drop (n + 1)), 1 + (extraZ c.shape : Int)⟩, 0)) := by
      refine Lib.hid ?_
      rw [HR.out]; unfold decAt; simp only; rw [hc]
    clear hc HR
    rintro e w3 ⟨rfl, ho3⟩
    have hr3 := ho3.heap HR2.out (fun h => h)
    have hi3 := ho3.heap HI2.out (fun h => h)
    have hon3 := HON2.out.trans ho3 (fun _ h _ => h)
    have HCELL3 := Lib.hid (HCELL.out w3 hon3)
    obtain ⟨f0, f1, f2, f3, f4⟩ := marks5 hr3
    obtain ⟨r0, r1, r2, r3, r4⟩ := cells5 hr3
    obtain ⟨m0, m1, m2, m3, m4⟩ := marks5 hi3
    obtain ⟨q0, q1, q2, q3, q4⟩ := cells5 hi3
    have HR3 := Lib.hid hr3
    have HI3 := Lib.hid hi3
    have HON3 := Lib.hid hon3
    clear hr3 hon3 ho3 c0 hi3 HR2 HI2 HON2 HCELL
    generalize c.shape = s at *
    have cE := refExtra s w3 hS
    have CE := Lib.hid cE
    clear cE
    by_cases hroom : (zs.drop (n + 1)).length < extraZ s
    · have HD2 : Hid (r = (zeroI, 3)) := Lib.hid (by rw [HD.out, if_pos hroom])
      have hrm : (zs.length : Int) - n < 1 + (extraZ s : Int) := by rw [List.length_drop] at hroom; omega
      have hel : (extraZ s : Int) ≤ 2 := by have := hL.2.2; omega
      generalize extraZ s = ex at *
      clear hS hL hroom HD
      go_wp2_with (fail)
      refine CE.out.mono ?_
      rintro e w4 ⟨rfl, rfl⟩
      go_wp2
      refine bodyPost_ret (instr_result (i := zeroI) Try.results22 ?_ rfl rfl) rfl ⟨?_, ?_⟩
      · refine store5 (o0 := .int .i64 0) (o1 := .int .i64 0) (o2 := .int .i64 0) (o3 := .int .i64 0) (o4 := .int .i64 0) ?_
        repeat first | exact HR3.out | refine set_ne ?_ (by omega)
      · rw [HD2.out]; rfl
      · refine only5 ?_ (fun hl => absurd hl (Nat.lt_irrefl _))
        repeat first | exact HON3.out | refine Only.setCell (S := fun _ => False) ?_ (fun hl => absurd hl (by simp)) _
    · have HD2 : Hid (r = (⟨n, op, aZ s n (zs.drop (n + 1)), bZ s (zs.drop (n + 1)), 1 + (extraZ s : Int)⟩, 0)) := Lib.hid (by rw [HD.out, if_neg hroom])
      have hrm : 1 + (extraZ s : Int) ≤ (zs.length : Int) - n := by rw [List.length_drop] at hroom; omega
      have hrn : n + 1 + extraZ s ≤ zs.length := by omega
      have hgl : g < w.heap.size := HB.out.lt g rfl (by intro h; rw [h] at hn; simp at hn)
      have hg1 : ¬ g = w.heap.size + 1 := by omega
      have hg2 : ¬ w.heap.size + 1 = g := by omega
      have hs1 : IntKind.i64.wrap ((n : Int) + 1) = (n : Int) + 1 := IntWalk.i64_in _ (by omega)
      have hs2 : IntKind.i64.wrap ((n : Int) + 2) = (n : Int) + 2 := IntWalk.i64_in _ (by omega)
      have ht1 : ((n : Int) + 1).toNat = n + 1 := by omega
      have ht2 : ((n : Int) + 2).toNat = n + 2 := by omega
      have hxb : 0 < extraZ s → 0 ≤ zs.getD (n + 1) 0 ∧ zs.getD (n + 1) 0 < 256 := fun h => HBZ.out.getD (by omega)
      have hyb : 1 < extraZ s → 0 ≤ zs.getD (n + 2) 0 ∧ zs.getD (n + 2) 0 < 256 := fun h => HBZ.out.getD (by omega)
      have hxc : 0 < extraZ s → w3.cell? ⟨g, o + (n + 1), none⟩ = some (.int .u8 (zs.getD (n + 1) 0)) := fun h => HCELL3.out (n + 1) (by omega)
      have hyc : 1 < extraZ s → w3.cell? ⟨g, o + (n + 2), none⟩ = some (.int .u8 (zs.getD (n + 2) 0)) := fun h => HCELL3.out (n + 2) (by omega)
      have hle1 : 0 < extraZ s → (n : Int) + 1 < (zs.length : Int) := fun h => by omega
      have hle2 : 1 < extraZ s → (n : Int) + 2 < (zs.length : Int) := fun h => by omega
      have HXY : Hid ((0 < extraZ s → zs.drop (n + 1) = zs.getD (n + 1) 0 :: zs.drop (n + 2)) ∧ (1 < extraZ s → zs.drop (n + 1) = zs.getD (n + 1) 0 :: zs.getD (n + 2) 0 :: zs.drop (n + 3))) := by
        refine Lib.hid ⟨fun h => ?_, fun h => ?_⟩
        · rw [List.drop_eq_getElem_cons (show n + 1 < zs.length by omega)]; simp [List.getD, show n + 1 < zs.length by omega]
        · rw [List.drop_eq_getElem_cons (show n + 1 < zs.length by omega), List.drop_eq_getElem_cons (show n + 2 < zs.length by omega)]; simp [List.getD, show n + 1 < zs.length by omega, show n + 2 < zs.length by omega]
      have hn0 : (0 : Int) ≤ (n : Int) + 1 := by omega
      have hn2 : (0 : Int) ≤ (n : Int) + 2 := by omega
      have HNE : Hid (w.heap.size ≠ w.heap.size + 1) := Lib.hid (by omega)
      clear hL hroom HD HB HCELL3 HBZ
      generalize zs.getD (n + 1) 0 = x at *
      generalize zs.getD (n + 2) 0 = y at *
      rcases hS with rfl | rfl | rfl | rfl | rfl | rfl | rfl
      · rw [show extraZ 45 = 0 from rfl] at *
        have HFIN : Hid (r = (⟨n, op, 0, 0, 1⟩, 0)) := Lib.hid (by rw [HD2.out]; rfl)
        clear HD2 HXY hxc hyc hle1 hle2 hxb hyb hs1 hs2 ht1 ht2 hn0 hn2
        go_wp2_with (fail)
        refine CE.out.mono ?_
        rintro e w4 ⟨rfl, rfl⟩
        go_wp2
        refine bodyPost_ret (instr_result (i := ⟨n, op, 0, 0, 1⟩) Try.results22 ?_ rfl rfl) rfl ⟨?_, ?_⟩
        · refine store5 (o0 := .int .i64 0) (o1 := .int .i64 0) (o2 := .int .i64 0) (o3 := .int .i64 0) (o4 := .int .i64 0) ?_
          repeat first | exact HR3.out | refine set_ne ?_ HNE.out
        · rw [HFIN.out]; rfl
        · refine only5 ?_ (fun hl => absurd hl (Nat.lt_irrefl _))
          repeat first | exact HON3.out | refine Only.setCell (S := fun _ => False) ?_ (fun hl => absurd hl (by simp)) _
      · rw [show extraZ 98 = 1 from rfl] at *
        have hxc := hxc (by omega)
        have hle1 := hle1 (by omega)
        obtain ⟨hx0, hx1⟩ := hxb (by omega)
        clear hyc hle2 hxb hyb hs2 ht2 hn2
        have HFIN : Hid (r = (⟨n, op, wrap64 (IntKind.i8.wrap x), 0, 2⟩, 0)) := Lib.hid (by rw [HD2.out, HXY.out.1 (by decide)]; exact congrArg (fun k : InstrV => (k, (0 : Int))) (fin98 n op x _ hx0 hx1))
        clear HD2 HXY
        go_wp2_with (fail)
        refine CE.out.mono ?_
        rintro e w4 ⟨rfl, rfl⟩
        go_wp2
        refine bodyPost_ret (instr_result (i := ⟨n, op, wrap64 (IntKind.i8.wrap x), 0, 2⟩) Try.results22 ?_ rfl rfl) rfl ⟨?_, ?_⟩
        · refine store5 (o0 := .int .i64 0) (o1 := .int .i64 0) (o2 := .int .i64 0) (o3 := .int .i64 0) (o4 := .int .i64 0) ?_
          repeat first | exact HR3.out | refine set_ne ?_ HNE.out
        · rw [HFIN.out]; rfl
        · refine only5 ?_ (fun hl => absurd hl (Nat.lt_irrefl _))
          repeat first | exact HON3.out | refine Only.setCell (S := fun _ => False) ?_ (fun hl => absurd hl (by simp)) _
      · rw [show extraZ 115 = 2 from rfl] at *
        have hxc := hxc (by omega)
        have hle1 := hle1 (by omega)
        obtain ⟨hx0, hx1⟩ := hxb (by omega)
        have hyc := hyc (by omega)
        have hle2 := hle2 (by omega)
        obtain ⟨hy0, hy1⟩ := hyb (by omega)
        clear hxb hyb
        have HFIN : Hid (r = (⟨n, op, wrap64 (IntKind.i16.wrap (bits BinOp.or IntKind.u16 (x * 256) y)), 0, 3⟩, 0)) := Lib.hid (by rw [HD2.out, HXY.out.2 (by decide)]; exact congrArg (fun k : InstrV => (k, (0 : Int))) (fin115 n op x y _ hx0 hx1 hy0 hy1))
        clear HD2 HXY
        go_wp2_with (fail)
        refine CE.out.mono ?_
        rintro e w4 ⟨rfl, rfl⟩
        go_wp2
        have hoS := only1 (b := w.heap.size + 1) (i := 4) (u := .int .i64 3) (Only.refl (fun j => j = w.heap.size + 1) w3) (fun _ => rfl)
        have hi4 := heap_setCell_at (i := 4) (u := .int .i64 3) HI3.out
        simp only [List.setIfInBounds_toArray, List.set_cons_zero, List.set_cons_succ] at hi4
        have hr4 := hoS.heap HR3.out HNE.out
        have hx4 := hoS.cell hxc hg1
        have hy4 := hoS.cell hyc hg1
        have hon4 := HON3.out.trans hoS (fun j hj hl => by rw [hj] at hl; exact absurd hl (by simp))
        clear hoS q0 q1 q2 q3 q4 m0 m1 m2 m3 m4 r0 r1 r2 r3 r4 f0 f1 f2 f3 f4 hxc hyc
        generalize w3.setCell ⟨w.heap.size + 1, 4, none⟩ (.int .i64 3) = w4 at *
        obtain ⟨q0, q1, q2, q3, q4⟩ := cells5 hi4
        obtain ⟨m0, m1, m2, m3, m4⟩ := marks5 hi4
        have HI4 := Lib.hid hi4
        have HR4 := Lib.hid hr4
        have HON4 := Lib.hid hon4
        clear hi4 hr4 hon4
        go_region
        have hoT := only1d (b := w.heap.size + 1) (i := 2) (u := .int .i64 (wrap64 (IntKind.i16.wrap (bits BinOp.or IntKind.u16 (x * 256) y)))) (Only.refl (fun j => j = w.heap.size + 1) w4) (fun _ => rfl)
        have hi5 := heap_drew (heap_setCell_at (i := 2) (u := .int .i64 (wrap64 (IntKind.i16.wrap (bits BinOp.or IntKind.u16 (x * 256) y)))) HI4.out)
        simp only [List.setIfInBounds_toArray, List.set_cons_zero, List.set_cons_succ] at hi5
        have hr5 := hoT.heap HR4.out HNE.out
        have hon5 := HON4.out.trans hoT (fun j hj hl => by rw [hj] at hl; exact absurd hl (by simp))
        clear hoT q0 q1 q2 q3 q4 m0 m1 m2 m3 m4 hs1 hs2 hx4 hy4 HI4 HR4 HON4
        generalize (w4.setCell ⟨w.heap.size + 1, 2, none⟩ (.int .i64 (wrap64 (IntKind.i16.wrap (bits BinOp.or IntKind.u16 (x * 256) y))))).drew = w5 at *
        generalize wrap64 (IntKind.i16.wrap (bits BinOp.or IntKind.u16 (x * 256) y)) = va at *
        obtain ⟨q0, q1, q2, q3, q4⟩ := cells5 hi5
        obtain ⟨r0, r1, r2, r3, r4⟩ := cells5 hr5
        obtain ⟨f0, f1, f2, f3, f4⟩ := marks5 hr5
        have HR5 := Lib.hid hr5
        have HON5 := Lib.hid hon5
        clear hi5 hr5 hon5
        go_wp2
        exact bodyPost_ret (instr_result (i := ⟨n, op, va, 0, 3⟩) Try.results22 (store5 HR5.out) rfl rfl) rfl ⟨by rw [HFIN.out]; rfl, only5 HON5.out (fun hl => absurd hl (Nat.lt_irrefl _))⟩
      · rw [show extraZ 117 = 1 from rfl] at *
        have hxc := hxc (by omega)
        have hle1 := hle1 (by omega)
        obtain ⟨hx0, hx1⟩ := hxb (by omega)
        clear hyc hle2 hxb hyb hs2 ht2 hn2
        have HFIN : Hid (r = (⟨n, op, x, 0, 2⟩, 0)) := Lib.hid (by rw [HD2.out, HXY.out.1 (by decide)]; exact congrArg (fun k : InstrV => (k, (0 : Int))) (fin117 n op x _ hx0 hx1))
        clear HD2 HXY
        go_wp2_with (fail)
        refine CE.out.mono ?_
        rintro e w4 ⟨rfl, rfl⟩
        go_wp2
        refine bodyPost_ret (instr_result (i := ⟨n, op, x, 0, 2⟩) Try.results22 ?_ rfl rfl) rfl ⟨?_, ?_⟩
        · refine store5 (o0 := .int .i64 0) (o1 := .int .i64 0) (o2 := .int .i64 0) (o3 := .int .i64 0) (o4 := .int .i64 0) ?_
          repeat first | exact HR3.out | refine set_ne ?_ HNE.out
        · rw [HFIN.out]; rfl
        · refine only5 ?_ (fun hl => absurd hl (Nat.lt_irrefl _))
          repeat first | exact HON3.out | refine Only.setCell (S := fun _ => False) ?_ (fun hl => absurd hl (by simp)) _
      · rw [show extraZ 99 = 2 from rfl] at *
        have hxc := hxc (by omega)
        have hle1 := hle1 (by omega)
        obtain ⟨hx0, hx1⟩ := hxb (by omega)
        have hyc := hyc (by omega)
        have hle2 := hle2 (by omega)
        obtain ⟨hy0, hy1⟩ := hyb (by omega)
        clear hxb hyb
        have HFIN : Hid (r = (⟨n, op, bits BinOp.or IntKind.i64 (x * 256) y, 0, 3⟩, 0)) := Lib.hid (by rw [HD2.out, HXY.out.2 (by decide)]; exact congrArg (fun k : InstrV => (k, (0 : Int))) (fin99 n op x y _ hx0 hx1 hy0 hy1))
        clear HD2 HXY
        go_wp2_with (fail)
        refine CE.out.mono ?_
        rintro e w4 ⟨rfl, rfl⟩
        go_wp2
        have hoS := only1 (b := w.heap.size + 1) (i := 4) (u := .int .i64 3) (Only.refl (fun j => j = w.heap.size + 1) w3) (fun _ => rfl)
        have hi4 := heap_setCell_at (i := 4) (u := .int .i64 3) HI3.out
        simp only [List.setIfInBounds_toArray, List.set_cons_zero, List.set_cons_succ] at hi4
        have hr4 := hoS.heap HR3.out HNE.out
        have hx4 := hoS.cell hxc hg1
        have hy4 := hoS.cell hyc hg1
        have hon4 := HON3.out.trans hoS (fun j hj hl => by rw [hj] at hl; exact absurd hl (by simp))
        clear hoS q0 q1 q2 q3 q4 m0 m1 m2 m3 m4 r0 r1 r2 r3 r4 f0 f1 f2 f3 f4 hxc hyc
        generalize w3.setCell ⟨w.heap.size + 1, 4, none⟩ (.int .i64 3) = w4 at *
        obtain ⟨q0, q1, q2, q3, q4⟩ := cells5 hi4
        obtain ⟨m0, m1, m2, m3, m4⟩ := marks5 hi4
        have HI4 := Lib.hid hi4
        have HR4 := Lib.hid hr4
        have HON4 := Lib.hid hon4
        clear hi4 hr4 hon4
        go_region
        have hoT := only1d (b := w.heap.size + 1) (i := 2) (u := .int .i64 (bits BinOp.or IntKind.i64 (x * 256) y)) (Only.refl (fun j => j = w.heap.size + 1) w4) (fun _ => rfl)
        have hi5 := heap_drew (heap_setCell_at (i := 2) (u := .int .i64 (bits BinOp.or IntKind.i64 (x * 256) y)) HI4.out)
        simp only [List.setIfInBounds_toArray, List.set_cons_zero, List.set_cons_succ] at hi5
        have hr5 := hoT.heap HR4.out HNE.out
        have hon5 := HON4.out.trans hoT (fun j hj hl => by rw [hj] at hl; exact absurd hl (by simp))
        clear hoT q0 q1 q2 q3 q4 m0 m1 m2 m3 m4 hs1 hs2 hx4 hy4 HI4 HR4 HON4
        generalize (w4.setCell ⟨w.heap.size + 1, 2, none⟩ (.int .i64 (bits BinOp.or IntKind.i64 (x * 256) y))).drew = w5 at *
        generalize bits BinOp.or IntKind.i64 (x * 256) y = va at *
        obtain ⟨q0, q1, q2, q3, q4⟩ := cells5 hi5
        obtain ⟨r0, r1, r2, r3, r4⟩ := cells5 hr5
        obtain ⟨f0, f1, f2, f3, f4⟩ := marks5 hr5
        have HR5 := Lib.hid hr5
        have HON5 := Lib.hid hon5
        clear hi5 hr5 hon5
        go_wp2
        exact bodyPost_ret (instr_result (i := ⟨n, op, va, 0, 3⟩) Try.results22 (store5 HR5.out) rfl rfl) rfl ⟨by rw [HFIN.out]; rfl, only5 HON5.out (fun hl => absurd hl (Nat.lt_irrefl _))⟩
      · rw [show extraZ 116 = 2 from rfl] at *
        have hxc := hxc (by omega)
        have hle1 := hle1 (by omega)
        obtain ⟨hx0, hx1⟩ := hxb (by omega)
        have hyc := hyc (by omega)
        have hle2 := hle2 (by omega)
        obtain ⟨hy0, hy1⟩ := hyb (by omega)
        clear hxb hyb
        have HFIN : Hid (r = (⟨n, op, wrap64 ((n : Int) + wrap64 (IntKind.i16.wrap (bits BinOp.or IntKind.u16 (x * 256) y))), 0, 3⟩, 0)) := Lib.hid (by rw [HD2.out, HXY.out.2 (by decide)]; exact congrArg (fun k : InstrV => (k, (0 : Int))) (fin116 n op x y _ hx0 hx1 hy0 hy1 (by omega)))
        clear HD2 HXY
        go_wp2_with (fail)
        refine CE.out.mono ?_
        rintro e w4 ⟨rfl, rfl⟩
        go_wp2
        have hoS := only1 (b := w.heap.size + 1) (i := 4) (u := .int .i64 3) (Only.refl (fun j => j = w.heap.size + 1) w3) (fun _ => rfl)
        have hi4 := heap_setCell_at (i := 4) (u := .int .i64 3) HI3.out
        simp only [List.setIfInBounds_toArray, List.set_cons_zero, List.set_cons_succ] at hi4
        have hr4 := hoS.heap HR3.out HNE.out
        have hx4 := hoS.cell hxc hg1
        have hy4 := hoS.cell hyc hg1
        have hon4 := HON3.out.trans hoS (fun j hj hl => by rw [hj] at hl; exact absurd hl (by simp))
        clear hoS q0 q1 q2 q3 q4 m0 m1 m2 m3 m4 r0 r1 r2 r3 r4 f0 f1 f2 f3 f4 hxc hyc
        generalize w3.setCell ⟨w.heap.size + 1, 4, none⟩ (.int .i64 3) = w4 at *
        obtain ⟨q0, q1, q2, q3, q4⟩ := cells5 hi4
        obtain ⟨m0, m1, m2, m3, m4⟩ := marks5 hi4
        have HI4 := Lib.hid hi4
        have HR4 := Lib.hid hr4
        have HON4 := Lib.hid hon4
        clear hi4 hr4 hon4
        go_region
        have hoT := only1d (b := w.heap.size + 1) (i := 2) (u := .int .i64 (wrap64 ((n : Int) + wrap64 (IntKind.i16.wrap (bits BinOp.or IntKind.u16 (x * 256) y))))) (Only.refl (fun j => j = w.heap.size + 1) w4) (fun _ => rfl)
        have hi5 := heap_drew (heap_setCell_at (i := 2) (u := .int .i64 (wrap64 ((n : Int) + wrap64 (IntKind.i16.wrap (bits BinOp.or IntKind.u16 (x * 256) y))))) HI4.out)
        simp only [List.setIfInBounds_toArray, List.set_cons_zero, List.set_cons_succ] at hi5
        have hr5 := hoT.heap HR4.out HNE.out
        have hon5 := HON4.out.trans hoT (fun j hj hl => by rw [hj] at hl; exact absurd hl (by simp))
        clear hoT q0 q1 q2 q3 q4 m0 m1 m2 m3 m4 hs1 hs2 hx4 hy4 HI4 HR4 HON4
        generalize (w4.setCell ⟨w.heap.size + 1, 2, none⟩ (.int .i64 (wrap64 ((n : Int) + wrap64 (IntKind.i16.wrap (bits BinOp.or IntKind.u16 (x * 256) y)))))).drew = w5 at *
        generalize wrap64 ((n : Int) + wrap64 (IntKind.i16.wrap (bits BinOp.or IntKind.u16 (x * 256) y))) = va at *
        obtain ⟨q0, q1, q2, q3, q4⟩ := cells5 hi5
        obtain ⟨r0, r1, r2, r3, r4⟩ := cells5 hr5
        obtain ⟨f0, f1, f2, f3, f4⟩ := marks5 hr5
        have HR5 := Lib.hid hr5
        have HON5 := Lib.hid hon5
        clear hi5 hr5 hon5
        go_wp2
        exact bodyPost_ret (instr_result (i := ⟨n, op, va, 0, 3⟩) Try.results22 (store5 HR5.out) rfl rfl) rfl ⟨by rw [HFIN.out]; rfl, only5 HON5.out (fun hl => absurd hl (Nat.lt_irrefl _))⟩
      · rw [show extraZ 105 = 2 from rfl] at *
        have hxc := hxc (by omega)
        have hle1 := hle1 (by omega)
        obtain ⟨hx0, hx1⟩ := hxb (by omega)
        have hyc := hyc (by omega)
        have hle2 := hle2 (by omega)
        obtain ⟨hy0, hy1⟩ := hyb (by omega)
        clear hxb hyb
        have HFIN : Hid (r = (⟨n, op, x, wrap64 (IntKind.i8.wrap y), 3⟩, 0)) := Lib.hid (by rw [HD2.out, HXY.out.2 (by decide)]; exact congrArg (fun k : InstrV => (k, (0 : Int))) (fin105 n op x y _ hx0 hx1 hy0 hy1))
        clear HD2 HXY
        go_wp2_with (fail)
        refine CE.out.mono ?_
        rintro e w4 ⟨rfl, rfl⟩
        go_wp2
        refine bodyPost_ret (instr_result (i := ⟨n, op, x, wrap64 (IntKind.i8.wrap y), 3⟩) Try.results22 ?_ rfl rfl) rfl ⟨?_, ?_⟩
        · refine store5 (o0 := .int .i64 0) (o1 := .int .i64 0) (o2 := .int .i64 0) (o3 := .int .i64 0) (o4 := .int .i64 0) ?_
          repeat first | exact HR3.out | refine set_ne ?_ HNE.out
        · rw [HFIN.out]; rfl
        · refine only5 ?_ (fun hl => absurd hl (Nat.lt_irrefl _))
          repeat first | exact HON3.out | refine Only.setCell (S := fun _ => False) ?_ (fun hl => absurd hl (by simp)) _

end Go.Proofs.Ytngoajhnnlnphaa
