/- The program's own write of a number behind a code. No condition. -/
import Derived.Test.YtcfnikngapngkaaOpsF
namespace Go.Proofs.Ytcfnikngapngkaa
open Go.RowKit
set_option linter.unusedVariables false
set_option linter.unusedSimpArgs false

def IsI64 (x : Int) : Prop := -9223372036854775808 ≤ x ∧ x ≤ 9223372036854775807
theorem fitI_fitZ {n : Nat} (h1 : 1 ≤ n) (h2 : n ≤ 2) (x : Int) : fitI n x = fitZ true n x := by
  rw [fitI_iff n h1 (by omega)]
  unfold fitZ
  rw [if_neg (by omega)]
  simp
theorem fitU_fitZ {n : Nat} (h1 : 1 ≤ n) (h2 : n ≤ 2) {x : Int} (hx : IsI64 x) : fitU n (IntKind.u64.wrap x) = fitZ false n x := by
  unfold IsI64 at hx
  rw [wrapU, fitU_iff n h1 (by omega) _ (by omega)]
  unfold fitZ
  rw [if_neg (by omega)]
  have hc : n = 1 ∨ n = 2 := by omega
  show decide (_ < _) = decide (0 ≤ x ∧ x < 2 ^ (8 * n))
  apply decide_eq_decide.2
  rcases hc with rfl | rfl <;> constructor <;> intro h <;> simp at h ⊢ <;> omega
theorem digs_wrap {n : Nat} (h1 : 1 ≤ n) (h2 : n ≤ 2) {x : Int} (hx : IsI64 x) (h : fitZ false n x = true) : digs n (IntKind.u64.wrap x) = digs n x := by
  unfold IsI64 at hx
  have e : IntKind.u64.wrap x = x := by
    rw [wrapU]
    have hc : n = 1 ∨ n = 2 := by omega
    rcases hc with rfl | rfl <;> simp [fitZ] at h <;> omega
  rw [e]
set_option maxHeartbeats 4000000 in
set_option maxRecDepth 100000 in
theorem progWrite (n : Nat) (sg : Bool) (wb : Nat) (sv : Value) (most : Nat) (bs : List Int) (x : Int) (w : World) (h : Wr w wb sv most bs) (hn : n ≤ 2) (hroom : bs.length + n ≤ most) (hx : IsI64 x) :
    Calls Try.prog 31 #[.agg #[.int .i64 n, .bool sg], .pointer (some ⟨wb, 0, none⟩), .int .i64 x] w fun e w' =>
      e = .returned (.int .i64 (if fitZ sg n x then 0 else 1)) ∧ WrTo w wb sv most (bs ++ (if fitZ sg n x then digs n x else [])) w' := by
  have ho := (Only.refl (fun _ => False) w).alloc (.cells #[.int .i64 n, .bool sg] 58)
  have h1 := h.only ho (fun h => h) (fun _ _ h => h)
  have HO := Lib.hid ho
  clear ho
  rcases Nat.eq_zero_or_pos n with rfl | hp
  · have H1 := Lib.hid h1
    have hd : digs 0 x = [] := rfl
    have hz : fitZ sg 0 x = (x == 0) := rfl
    rw [hd, hz]
    clear h1 h hd hz hx
    by_cases hx : x = 0
    · subst hx
      go_enter Try.func31, Try.ntmps31
      go_wp2
      go_ret
      refine ⟨rfl, sv, by simpa using H1.out, HO.out.mono (fun _ h _ => h.elim), fun k hk => .inl hk⟩
    · have hne : (x == 0) = false := by rw [beq_eq_false_iff_ne]; exact hx
      have hne2 : (x != 0) = true := by rw [bne_iff_ne]; exact hx
      rw [hne]
      clear hx
      go_enter Try.func31, Try.ntmps31
      go_wp2
      go_ret
      refine ⟨rfl, sv, by simpa using H1.out, HO.out.mono (fun _ h _ => h.elim), fun k hk => .inl hk⟩
  · have hne : ((n : Int) == 0) = false := by rw [beq_eq_false_iff_ne]; omega
    have hle := h.fit
    have hto : ∀ (zs : List Int) (w' : World), WrTo (w.alloc (.cells #[.int .i64 n, .bool sg] 58)) wb sv most zs w' → WrTo w wb sv most zs w' := fun zs w' ht => WrTo.trans (HO.out.mono (fun _ h _ => h.elim)) (fun k hk => .inl hk) ht
    cases sg
    · have hf := fitU_fitZ hp hn hx
      have c := wrUint wb sv most bs (n : Int) (IntKind.u64.wrap x) _ h1
      have hE : wrErr (fitU n (IntKind.u64.wrap x)) n ((most : Int) - bs.length) = if fitZ false n x then 0 else 1 := by
        unfold wrErr
        rw [hf, if_neg (show ¬ ((most : Int) - bs.length < n) by omega)]
        cases fitZ false n x <;> rfl
      have hA : addU (fitU n (IntKind.u64.wrap x)) n (IntKind.u64.wrap x) ((most : Int) - bs.length) = if fitZ false n x then digs n x else [] := by
        unfold addU
        rw [hE]
        cases hq : fitZ false n x
        · rfl
        · simp only [if_true]
          exact digs_wrap hp hn hx hq
      rw [hE, hA] at c
      generalize (if fitZ false n x then digs n x else []) = ds at *
      generalize (if fitZ false n x then (0 : Int) else 1) = er at *
      have C := Lib.hid c
      have HTO := Lib.hid hto
      clear c h1 h hto hE hA hf hx
      go_enter Try.func31, Try.ntmps31
      go_wp2_with (fail)
      refine C.out.mono ?_
      rintro e w1 ⟨rfl, ht⟩
      have HT := Lib.hid (HTO.out _ _ ht)
      clear ht C HTO
      go_wp2
      go_ret
      exact ⟨rfl, HT.out⟩
    · have hf := fitI_fitZ hp hn x
      have c := wrInt wb sv most bs (n : Int) x _ h1
      have hE : wrErr (fitI n x) n ((most : Int) - bs.length) = if fitZ true n x then 0 else 1 := by
        unfold wrErr
        rw [hf, if_neg (show ¬ ((most : Int) - bs.length < n) by omega)]
        cases fitZ true n x <;> rfl
      have hA : addU (fitI n x) n x ((most : Int) - bs.length) = if fitZ true n x then digs n x else [] := by
        unfold addU
        rw [hE]
        cases hq : fitZ true n x
        · rfl
        · simp
      rw [hE, hA] at c
      generalize (if fitZ true n x then digs n x else []) = ds at *
      generalize (if fitZ true n x then (0 : Int) else 1) = er at *
      have C := Lib.hid c
      have HTO := Lib.hid hto
      clear c h1 h hto hE hA hf hx
      go_enter Try.func31, Try.ntmps31
      go_wp2_with (fail)
      refine C.out.mono ?_
      rintro e w1 ⟨rfl, ht⟩
      have HT := Lib.hid (HTO.out _ _ ht)
      clear ht C HTO
      go_wp2
      go_ret
      exact ⟨rfl, HT.out⟩
end Go.Proofs.Ytcfnikngapngkaa
