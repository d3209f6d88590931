/- The document's own List of a code's instructions; two equal lists compared. No condition beyond a length that leaves room. -/
import Derived.Test.YtngoajhnnlnphaaFloR
import Derived.Deep.QuietTactic
import Derived.BigQuiet
namespace Go.Proofs.Ytngoajhnnlnphaa
open Go.RowKit
set_option linter.unusedVariables false
set_option linter.unusedSimpArgs false

/-- What List leaves. -/
def ListTo (w : World) (zs : List Int) (e : Ending) (w' : World) : Prop := ∃ v l e0, e = .returned (.tuple #[v, .int .i64 e0]) ∧ Listed zs l e0 ∧ Only (fun _ => False) w w' ∧ IRow w' w.heap.size v l
theorem Run.err {zs : List Int} {l : List InstrV} {p : Nat} {e : Int} (h : Run zs l p) (hp : p < zs.length) (hd : decAt p (zs.drop p) = (zeroI, e)) (he : e ≠ 0) : Listed zs [] e := .inr ⟨rfl, he, l, p, h, hp, by rw [hd]⟩
theorem Run.fin {zs : List Int} {l : List InstrV} {p : Nat} (h : Run zs l p) (hp : ¬ p < zs.length) : Listed zs l 0 := by
  have := h.length
  obtain rfl : p = zs.length := by omega
  exact .inl ⟨rfl, h⟩
theorem dec_case (zs : List Int) (p : Int) : (∃ e, (e == 0) = false ∧ (e != 0) = true ∧ e ≠ 0 ∧ decAt p zs = (zeroI, e)) ∨ ∃ k, decAt p zs = (k, 0) := by
  rcases dec_err zs p with h | h | h
  · exact .inr ⟨_, Prod.ext rfl h⟩
  · exact .inl ⟨3, rfl, rfl, by decide, h⟩
  · exact .inl ⟨60, rfl, rfl, by decide, h⟩
theorem decZp {zs : List Int} {p : Nat} (h : p ≤ zs.length) : decZ zs p = decAt p (zs.drop p) := by
  unfold decZ
  rw [if_neg (by omega), Int.toNat_natCast]

set_option maxHeartbeats 8000000 in
set_option maxRecDepth 100000 in
theorem refList (v : Value) (zs : List Int) (w : World) (hb : Bytes w v zs) (hl : zs.length ≤ 4194304) :
    Calls Try.prog 10 #[v] w (ListTo w zs) := by
  obtain ⟨i0, hi, hz0, hz1, hz2⟩ := info_parts info_instr
  obtain ⟨ao, cap, rfl, hq1, hq2, hq3, hbz, hcells⟩ := id hb
  unfold maxLen at hq2
  have Hb := Lib.hid hb
  clear hb hcells hq3 hbz
  go_enter Try.func10, Try.ntmps10
  go_wp2
  go_loopw [4, 5] (fun v i wr => ∃ (l : List InstrV) (p : Nat), i = .int .i64 p ∧ Run zs l p ∧ IRow wr w.heap.size v l ∧ Only (fun _ => False) w wr) (fun _ i _ => zs.length - (intOf i).toNat)
  case atStart => exact ⟨[], 0, rfl, Run.nil zs, IRow.nil w _, Only.refl _ _⟩
  case round =>
    obtain ⟨l, p, rfl, hrun, hrow, hon⟩ := hrel
    have hln := hrun.length
    have HRUN := Lib.hid hrun
    have HROW := Lib.hid hrow
    have HON := Lib.hid hon
    clear hrun hrow hon
    by_cases hlt : p < zs.length
    · have hpz : (p : Int) < (zs.length : Int) := by omega
      have c1 := refDecode _ zs p wr (Hb.out.only HON.out (fun _ _ _ h => h)) (by omega)
      rw [decZp (by omega)] at c1
      rcases dec_case (zs.drop p) p with ⟨e, he, he', hne, hd⟩ | ⟨k, hd⟩
      · rw [hd] at c1
        have HL := Lib.hid (HRUN.out.err hlt hd hne)
        unfold valI zeroI at c1
        have C1 := Lib.hid c1
        clear c1 hd hne
        go_wp2_with (fail)
        refine C1.out.mono ?_
        rintro e' w3 ⟨rfl, ho3⟩
        have HON3 := Lib.hid (HON.out.trans ho3 (fun _ h _ => h))
        clear ho3 C1
        go_wp2
        go_ret2
        exact ⟨_, [], e, rfl, HL.out, HON3.out.alloc _, IRow.nil _ _⟩
      · rw [hd] at c1
        obtain ⟨hf1, hf2, hf3, hf4, hf5⟩ := dec_fits hlt hd
        have HR2 := Lib.hid (HRUN.out.snoc hlt hd)
        obtain ⟨n, hn⟩ : ∃ n : Nat, k.size.toNat = n := ⟨_, rfl⟩
        rw [hn] at hf1 hf2 hf3 hf4 HR2
        unfold valI at c1
        rw [← hf4] at c1
        have HSZ := Lib.hid hf4
        have C1 := Lib.hid c1
        have HF3 := Lib.hid hf3
        clear c1 hd hn hf4 hf5 hf3
        go_wp2_with (fail)
        refine C1.out.mono ?_
        rintro e' w3 ⟨rfl, ho3⟩
        have hx4 := heap_alloc_new w3 (.cells #[.int .i64 k.at_, .int .i64 k.op, .int .i64 k.a, .int .i64 k.b, .int .i64 (n : Int)] 39)
        have hal := (Only.refl (fun _ => False) w3).alloc (.cells #[.int .i64 k.at_, .int .i64 k.op, .int .i64 k.a, .int .i64 k.b, .int .i64 (n : Int)] 39)
        have hal2 := hal.alloc (.cells #[.int .i64 k.at_, .int .i64 k.op, .int .i64 k.a, .int .i64 k.b, .int .i64 (n : Int)] 39)
        have hrow5 := (HROW.out.only ho3 (fun _ _ h => h)).only hal2 (fun _ _ h => h)
        have hsrc := Src.instr (w := w3.alloc (.cells #[.int .i64 k.at_, .int .i64 k.op, .int .i64 k.a, .int .i64 k.b, .int .i64 (n : Int)] 39)) (m := w3.heap.size + 1) ⟨k.at_, k.op, k.a, k.b, n⟩ (by simp)
        have hge := (HROW.out.only ho3 (fun _ _ h => h)).ge
        have hon4 := (HON.out.trans ho3 (fun _ h _ => h)).trans hal2 (fun _ h _ => h)
        have hxx := ((Only.refl (fun _ => False) (w3.alloc (.cells #[.int .i64 k.at_, .int .i64 k.op, .int .i64 k.a, .int .i64 k.b, .int .i64 (n : Int)] 39))).alloc (.cells #[.int .i64 k.at_, .int .i64 k.op, .int .i64 k.a, .int .i64 k.b, .int .i64 (n : Int)] 39)).heap hx4 (fun h => h)
        have HX := Lib.hid hxx
        have HROW5 := Lib.hid hrow5
        have HSRC := Lib.hid hsrc
        have HGE := Lib.hid hge
        have HON4 := Lib.hid hon4
        have hsz := hon4.size
        clear ho3 hx4 hal hal2 hrow5 hsrc hge hon4 hxx C1
        go_wp2_with (at_builtin; go_loud (refine wpList_append_src rfl (.tmp 21) (.tmp 23) 23 rfl 39 i0 (.agg #[.int .i64 0, .int .i64 0, .int .i64 0, .int .i64 0, .int .i64 0]) 5 40 Try.underlying23 hi hz0 hz1 hz2 rfl (by decide) w.heap.size u4 l.length (l.flatMap cellsI) rfl (by exact HROW5.out) (by exact HON4.out.size) (.slice (some ⟨w3.heap.size + 1, 0, none⟩) 1 1) 1 (cellsI ⟨k.at_, k.op, k.a, k.b, n⟩) rfl (by exact HSRC.out) (by unfold maxLen; omega) (by omega) ?_); intro v' w5 hown hgrow hnew; have hos := only_grownI hgrow; have hx5 := hos.heap HX.out (fun h => by have := HGE.out _ h; omega); have hrow6 := IRow.more hown; have hon6 := HON4.out.trans hos (fun j hj hl => by have := HGE.out _ hj; omega); clear hown hgrow hnew hos; obtain ⟨q0, q1, q2, q3, q4⟩ := cells5 hx5; have HROW6 := Lib.hid hrow6; have HON6 := Lib.hid hon6; clear hrow6 hon6 hx5)
        go_roundw
        case rel => exact ⟨l ++ [k], p + n, by go_num, HR2.out, by have := HROW6.out; rw [show (⟨k.at_, k.op, k.a, k.b, (n : Int)⟩ : InstrV) = k by rw [HSZ.out]] at this; exact this, HON6.out⟩
        case measure => have := HF3.out; simp [intOf]; omega
    · have HL := Lib.hid (HRUN.out.fin hlt)
      have hpz : ¬ (p : Int) < (zs.length : Int) := by omega
      go_wp2
      go_ret2
      exact ⟨_, l, 0, rfl, HL.out, HON.out, HROW.out⟩
end Go.Proofs.Ytngoajhnnlnphaa
