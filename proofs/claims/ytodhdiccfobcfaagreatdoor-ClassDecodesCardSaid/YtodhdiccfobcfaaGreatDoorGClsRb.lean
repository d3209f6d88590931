/- The document's own reading of a class file: its state, and what one call does to it. No program. The document's own reading of the parts of a class file: numbers, counts, bytes, texts. No condition beyond a reader that was made. -/
import Derived.Test.YtodhdiccfobcfaaGreatDoorGClsP
import Derived.Test.YtodhdiccfobcfaaGreatDoorClsT
import Derived.Test.YtodhdiccfobcfaaGreatDoorGPolR
import Derived.Deep.RegionHeld3
namespace Go.Proofs.YtodhdiccfobcfaaGreatDoor
open Go.RowKit
set_option linter.unusedVariables false
set_option linter.unusedSimpArgs false

/-- Where a reading stands: at a place, or at its first error. -/
abbrev StZ := Except Int Nat
def runP {α : Type} (p : Pr α) (zs : List Int) : StZ → Except Int (α × Nat)
  | .ok k => p zs k
  | .error e => .error e
def withZ {α : Type} (a : α) : StZ → Except Int (α × Nat)
  | .ok k => .ok (a, k)
  | .error e => .error e
/-- A part is read: from one state to the next, with a value (any one behind an error). -/
def Nx {α : Type} (p : Pr α) (zs : List Int) (σ : StZ) (a : α) (σ' : StZ) : Prop := runP p zs σ = withZ a σ'
theorem Nx.bind {α β : Type} {p : Pr α} {f : α → Pr β} {zs : List Int} {σ σ' σ'' : StZ} {a : α} {b : β} (h : Nx p zs σ a σ') (h2 : Nx (f a) zs σ' b σ'') : Nx (bindP p f) zs σ b σ'' := by
  unfold Nx at *
  cases σ with
  | error e =>
    cases σ' with
    | error e' => simp only [runP, withZ] at h h2 ⊢; injection h with h; subst h; exact h2
    | ok k => simp only [runP, withZ] at h; cases h
  | ok k =>
    cases σ' with
    | error e' =>
      simp only [runP, withZ] at h h2 ⊢
      rw [bindP_error h]
      exact h2
    | ok k' =>
      simp only [runP, withZ] at h h2 ⊢
      rw [bindP_ok h]
      exact h2
theorem Nx.ret {α : Type} (a : α) (zs : List Int) (σ : StZ) : Nx (retP a) zs σ a σ := by cases σ <;> rfl
theorem Nx.bad {α : Type} (p : Pr α) (a : α) (zs : List Int) (e : Int) : Nx p zs (.error e) a (.error e) := rfl
theorem Nx.of_ok {α : Type} {p : Pr α} {zs : List Int} {k k' : Nat} {a : α} (h : p zs k = .ok (a, k')) : Nx p zs (.ok k) a (.ok k') := h
theorem Nx.of_error {α : Type} {p : Pr α} {zs : List Int} {k : Nat} {e : Int} (a : α) (h : p zs k = .error e) : Nx p zs (.ok k) a (.error e) := h
def failS (x : Int) : StZ → StZ
  | .ok k => if x = 0 then .ok k else .error x
  | .error e => .error e
theorem Nx.must {zs : List Int} {σ : StZ} (b : Bool) : Nx (mustP b) zs σ () (if b = true then σ else failS 50 σ) := by
  unfold Nx
  cases σ <;> cases b <;> rfl
theorem Nx.fail {α : Type} (a : α) {zs : List Int} {σ : StZ} {x : Int} (h : x ≠ 0) : Nx (failP x) zs σ a (failS x σ) := by
  unfold Nx
  cases σ with
  | ok k => simp only [failS, if_neg h]; rfl
  | error e => rfl

def StK (σ : StZ) (k : Nat) (e : Int) : Prop := match σ with
  | .ok k' => k' = k ∧ e = 0
  | .error x => e = x ∧ x ≠ 0
theorem Nx.at {σ : StZ} {k : Nat} {e : Int} (zs : List Int) (h : StK σ k e) : Nx atP zs σ k σ := by
  unfold Nx
  cases σ with
  | ok k' => obtain ⟨rfl, _⟩ := h; rfl
  | error e => rfl
/-- What reads a class file in the document: the file's block, its reader's. -/
structure Fl (w : World) (fb rb : Nat) (v : Value) (zs : List Int) (σ : StZ) (k : Nat) (e : Int) : Prop where
  blk : w.heap[fb]? = some (.cells #[.pointer (some ⟨rb, 0, none⟩), .int .i64 e] 80 (0, 0))
  rf : Rf w rb v zs k
  st : StK σ k e
  ne : fb ≠ rb
  vb : ∀ j, v.ownBlock = some j → zs ≠ [] → ¬ j = fb
/-- What a call of it leaves. -/
def FlTo (w : World) (fb rb : Nat) (v : Value) (zs : List Int) (σ : StZ) (w' : World) : Prop := (∃ k e, Fl w' fb rb v zs σ k e) ∧ Only (fun j => j = fb ∨ j = rb) w w'
section
variable {w w' : World} {fb rb : Nat} {v : Value} {zs : List Int} {σ : StZ} {k k' : Nat} {e : Int}
theorem Fl.only {S : Nat → Prop} (h : Fl w fb rb v zs σ k e) (ho : Only S w w') (h1 : ¬ S fb) (h2 : ¬ S rb) (h3 : ∀ j, v.ownBlock = some j → zs ≠ [] → ¬ S j) : Fl w' fb rb v zs σ k e :=
  ⟨ho.heap h.blk h1, h.rf.only ho h2 h3, h.st, h.ne, h.vb⟩
theorem Fl.idle (h : Fl w fb rb v zs σ k e) (ho : Only (fun _ => False) w w') : Fl w' fb rb v zs σ k e := h.only ho (fun h => h) (fun h => h) (fun _ _ _ h => h)
theorem Fl.e_ok (h : Fl w fb rb v zs (.ok k') k e) : k' = k ∧ e = 0 := h.st
theorem Fl.e_no {x : Int} (h : Fl w fb rb v zs (.error x) k e) : e = x ∧ x ≠ 0 := h.st
theorem Fl.adv (h : Fl w fb rb v zs (.ok k) k 0) (hr : RfTo w rb v zs k' w') : Fl w' fb rb v zs (.ok k') k' 0 :=
  ⟨hr.2.heap h.blk h.ne, hr.1, ⟨rfl, rfl⟩, h.ne, h.vb⟩
theorem Fl.err (h : Fl w fb rb v zs (.ok k) k 0) {x : Int} (hx : x ≠ 0) : FlTo w fb rb v zs (.error x) (w.setCell ⟨fb, 1, none⟩ (.int .i64 x)) := by
  have ho := (Only.refl (fun j => j = fb) w).setCell (p := ⟨fb, 1, none⟩) (fun _ => rfl) (.int .i64 x)
  refine ⟨⟨k, x, ?_, h.rf.only ho (fun e => h.ne e.symm) h.vb, ⟨rfl, hx⟩, h.ne, h.vb⟩, ho.mono (fun _ h _ => .inl h)⟩
  rw [heap_setCell_at h.blk]
  simp
theorem FlTo.refl (h : Fl w fb rb v zs σ k e) : FlTo w fb rb v zs σ w := ⟨⟨k, e, h⟩, Only.refl _ _⟩
theorem FlTo.of_rf (h : Fl w fb rb v zs (.ok k) k 0) (hr : RfTo w rb v zs k' w') : FlTo w fb rb v zs (.ok k') w' := ⟨⟨k', 0, h.adv hr⟩, hr.2.mono (fun _ h _ => .inr h)⟩
theorem FlTo.then {w0 : World} {σ' : StZ} (h : FlTo w0 fb rb v zs σ w) (h2 : FlTo w fb rb v zs σ' w') : FlTo w0 fb rb v zs σ' w' := ⟨h2.1, h.2.trans h2.2 (fun _ h _ => h)⟩
theorem FlTo.idle (h : FlTo w fb rb v zs σ w') {w2 : World} (ho : Only (fun _ => False) w' w2) : FlTo w fb rb v zs σ w2 := by
  obtain ⟨⟨k, e, h1⟩, h2⟩ := h
  exact ⟨⟨k, e, h1.idle ho⟩, h2.trans ho (fun _ h _ => h.elim)⟩
end
/-- So much of a list is read, to a state. -/
def ListS {α : Type} (p : Pr α) (n : Nat) (zs : List Int) (σ0 : StZ) (l : List α) : StZ → Prop
  | .ok k => ∃ k0, σ0 = .ok k0 ∧ ListTo p n zs k0 l k
  | .error e => runP (listP p n) zs σ0 = .error e
section
variable {α : Type} {p : Pr α} {n : Nat} {zs : List Int} {σ0 σ σ' : StZ} {l : List α} {a : α}
theorem ListS.start : ListS p n zs σ0 [] σ0 := by
  cases σ0 with
  | ok k => exact ⟨k, rfl, ListTo.start⟩
  | error e => rfl
theorem ListS.more {k : Nat} (h : ListS p n zs σ0 l (.ok k)) (hl : l.length < n) (hp : Nx p zs (.ok k) a σ') : ListS p n zs σ0 (l ++ [a]) σ' := by
  obtain ⟨k0, rfl, h⟩ := h
  cases σ' with
  | ok k' => exact ⟨k0, rfl, h.more hl hp⟩
  | error e => exact h.fail hl hp
theorem ListS.done (h : ListS p n zs σ0 l σ) (hd : (∃ e, σ = .error e) ∨ l.length = n) : Nx (listP p n) zs σ0 l σ := by
  cases σ with
  | error e => exact h
  | ok k =>
    rcases hd with ⟨e, he⟩ | hd
    · cases he
    · obtain ⟨k0, rfl, h⟩ := h
      exact h.done hd
end
theorem nx_num_lt {n : Nat} {zs : List Int} {σ σ' : StZ} (hz : Bytish zs) : ∃ x σ', Nx (numP n) zs σ x σ' ∧ 0 ≤ x ∧ x < 256 ^ n ∧ (∀ e, σ' = .error e → x = 0) := by
  have hp : (0 : Int) < 256 ^ n := Int.pow_pos (by decide)
  cases σ with
  | error e => exact ⟨0, .error e, rfl, Int.le_refl _, hp, fun _ _ => rfl⟩
  | ok k =>
    unfold Nx runP numP
    by_cases hr : k + n ≤ zs.length
    · have := uAt_fits hz k n hr
      exact ⟨uAt zs k n, .ok (k + n), by simp only [if_pos hr]; rfl, this.1, this.2, fun e he => by cases he⟩
    · exact ⟨0, .error 3, by simp only [if_neg hr]; rfl, Int.le_refl _, hp, fun _ _ => rfl⟩
end Go.Proofs.YtodhdiccfobcfaaGreatDoor
namespace Go.Proofs.YtodhdiccfobcfaaGreatDoor
open Go.RowKit
set_option linter.unusedVariables false
set_option linter.unusedSimpArgs false

theorem rfB_none (rb : Nat) (v : Value) (zs : List Int) (k n : Nat) (w : World) (h : Rf w rb v zs k) (hroom : zs.length < k + n) :
    Calls Tryz.prog 95 #[.pointer (some ⟨rb, 0, none⟩), .int .i64 n] w fun e w' => ∃ v', e = .returned (.tuple #[v', .int .i64 3]) ∧ RfTo w rb v zs k w' ∧ w'.ownsRow w.heap.size 5 1 v' 0 [] := by
  have he : rdErr1 n ((zs.length : Int) - k) = 3 := by unfold rdErr1; rw [if_neg (by omega), if_pos (by omega)]
  have := rfBytes rb v zs k n w h
  rw [he] at this
  simp only [rdPart, rdK, show ¬ ((3 : Int) = 0) by decide, if_false, List.length_nil, List.map_nil] at this
  exact this
section
variable (fb rb : Nat) (v : Value) (zs : List Int) (σ : StZ) (k : Nat) (e : Int) (w : World)
theorem dfFail (x : Int) (h : Fl w fb rb v zs σ k e) :
    Calls Tryz.prog 32 #[.pointer (some ⟨fb, 0, none⟩), .int .i64 x] w fun en w' => en = .returned (.tuple #[]) ∧ FlTo w fb rb v zs (failS x σ) w' := by
  have q1 := cell_blk h.blk 1
  have f1 := frozen_blk h.blk 1
  simp at q1
  cases σ with
  | ok k' =>
    obtain ⟨rfl, rfl⟩ := h.e_ok
    have hto : FlTo w fb rb v zs (failS x (.ok k')) (w.setCell ⟨fb, 1, none⟩ (.int .i64 x)) := by
      by_cases hx : x = 0
      · subst hx
        have ho := (Only.refl (fun j => j = fb) w).setCell (p := ⟨fb, 1, none⟩) (fun _ => rfl) (.int .i64 0)
        refine ⟨⟨k', 0, ?_, h.rf.only ho (fun e => h.ne e.symm) h.vb, ⟨rfl, rfl⟩, h.ne, h.vb⟩, ho.mono (fun _ h _ => .inl h)⟩
        rw [heap_setCell_at h.blk]
        simp
      · have := h.err hx
        simp only [failS, if_neg hx]
        exact this
    have HTO := Lib.hid hto
    clear h hto
    go_enter Tryz.func32, Tryz.ntmps32
    go_wp2
    go_end0
    exact ⟨rfl, HTO.out⟩
  | error y =>
    obtain ⟨rfl, hy⟩ := h.e_no
    have hyb : (e == 0) = false := by simpa using hy
    have HTO := Lib.hid (FlTo.refl h)
    clear h hy f1
    go_enter Tryz.func32, Tryz.ntmps32
    go_wp2
    go_end0
    exact ⟨rfl, HTO.out⟩
theorem dfNum (n : Nat) (hn1 : 1 ≤ n) (hn4 : n ≤ 4) (h : Fl w fb rb v zs σ k e) :
    Calls Tryz.prog 31 #[.pointer (some ⟨fb, 0, none⟩), .int .i64 n] w fun en w' => ∃ x σ', en = .returned (.int .i64 x) ∧ Nx (numP n) zs σ x σ' ∧ (0 ≤ x ∧ x < 256 ^ n) ∧ FlTo w fb rb v zs σ' w' := by
  have hz := h.rf.bytish
  have q0 := cell_blk h.blk 0
  have q1 := cell_blk h.blk 1
  simp at q0 q1
  have hp : (0 : Int) < 256 ^ n := Int.pow_pos (by decide)
  cases σ with
  | ok k' =>
    obtain ⟨rfl, rfl⟩ := h.e_ok
    by_cases hr : k' + n ≤ zs.length
    · have cU := rfU_ok rb v zs k' n w h.rf hn1 (by omega) hr
      have hN : Nx (numP n) zs (.ok k') (uAt zs k' n) (.ok (k' + n)) := Nx.of_ok (by unfold numP; rw [if_pos hr])
      have hb := uAt_fits hz k' n hr
      have hlt : uAt zs k' n < 4294967296 := by
        have : (256 : Int) ^ n ≤ 256 ^ 4 := by rcases (show n = 1 ∨ n = 2 ∨ n = 3 ∨ n = 4 by omega) with rfl | rfl | rfl | rfl <;> decide
        have h4 : (256 : Int) ^ 4 = 4294967296 := by decide
        omega
      obtain ⟨u, hu⟩ : ∃ u, uAt zs k' n = u := ⟨_, rfl⟩
      rw [hu] at cU hN hb hlt
      have hw : IntKind.i64.wrap u = u := IntWalk.i64_in _ (by have := hb.1; omega)
      have HF := Lib.hid h
      have CU := Lib.hid cU
      have HN := Lib.hid hN
      have HB := Lib.hid hb
      clear h cU hN hb hlt hz hp hu hr
      go_enter Tryz.func31, Tryz.ntmps31
      go_wp2_with (go_at_call 63; refine CU.out.mono ?_; rintro en w1 ⟨rfl, hto⟩)
      go_ret
      exact ⟨_, _, rfl, HN.out, HB.out, FlTo.of_rf HF.out hto⟩
    · have cU := rfU_short rb v zs k' n w h.rf hn1 (by omega) (by omega)
      have hN : Nx (numP n) zs (.ok k') 0 (failS 3 (.ok k')) := Nx.of_error 0 (by unfold numP; rw [if_neg hr])
      have HF := Lib.hid h
      have CU := Lib.hid cU
      have HN := Lib.hid hN
      have HP := Lib.hid hp
      clear h cU hN hz hp hr
      go_enter Tryz.func31, Tryz.ntmps31
      go_wp2_with (fail)
      refine CU.out.mono ?_
      rintro en w1 ⟨rfl, hto⟩
      have H1 := Lib.hid (FlTo.of_rf HF.out hto)
      have HA := Lib.hid (HF.out.adv hto)
      clear hto q0 q1
      go_wp2_with (fail)
      refine (dfFail fb rb v zs (.ok k') k' 0 w1 3 HA.out).mono ?_
      rintro en w2 ⟨rfl, hto⟩
      have H2 := Lib.hid (H1.out.then hto)
      clear hto
      go_wp2
      go_ret
      exact ⟨_, _, rfl, HN.out, ⟨Int.le_refl _, HP.out⟩, H2.out⟩
  | error y =>
    obtain ⟨rfl, hy⟩ := h.e_no
    have hyb : (e != 0) = true := by simpa using hy
    have HTO := Lib.hid (FlTo.refl h)
    have HP := Lib.hid hp
    clear h hy hz hp
    go_enter Tryz.func31, Tryz.ntmps31
    go_wp2
    go_ret
    exact ⟨_, _, rfl, Nx.bad _ _ _ _, ⟨Int.le_refl _, HP.out⟩, HTO.out⟩
theorem dfMust (want : Int) (h : Fl w fb rb v zs σ k e) :
    Calls Tryz.prog 34 #[.pointer (some ⟨fb, 0, none⟩), .int .i64 want] w fun en w' => ∃ σ', en = .returned (.tuple #[]) ∧ Nx (fixedP 2 want) zs σ () σ' ∧ FlTo w fb rb v zs σ' w' := by
  have cN := dfNum fb rb v zs σ k e w 2 (by decide) (by decide) h
  have CN := Lib.hid cN
  clear cN h
  go_enter Tryz.func34, Tryz.ntmps34
  go_wp2_with (fail)
  refine CN.out.mono ?_
  rintro en w1 ⟨x, σ1, rfl, hN, hb, hto⟩
  have HN := Lib.hid hN
  have HTO := Lib.hid hto
  obtain ⟨⟨k1, e1, hf⟩, _⟩ := hto
  have HF := Lib.hid hf
  clear hN hb hf CN
  by_cases hx : x = want
  · subst hx
    go_wp2
    go_end0
    exact ⟨_, rfl, HN.out.bind (by have := Nx.must (zs := zs) (σ := σ1) (decide (x = x)); simpa using this), HTO.out⟩
  · have hxb : (x == want) = false := by simpa using hx
    have HM := Lib.hid (show Nx (mustP (decide (x = want))) zs σ1 () (failS 50 σ1) by have := Nx.must (zs := zs) (σ := σ1) (decide (x = want)); simpa [hx] using this)
    clear hx
    go_wp2_with (fail)
    refine (dfFail fb rb v zs σ1 k1 e1 w1 50 HF.out).mono ?_
    rintro en w2 ⟨rfl, hto⟩
    have H2 := Lib.hid (HTO.out.then hto)
    clear hto
    go_wp2
    go_end0
    exact ⟨_, rfl, HN.out.bind HM.out, H2.out⟩
theorem dfCount (n : Nat) (hn : n = 2 ∨ n = 4) (most : Nat) (hm : most ≤ 4096) (h : Fl w fb rb v zs σ k e) :
    Calls Tryz.prog 35 #[.pointer (some ⟨fb, 0, none⟩), .int .i64 n, .int .i64 most] w fun en w' => ∃ x σ', en = .returned (.int .i64 x) ∧ Nx (countP n most) zs σ x σ' ∧ (0 ≤ x ∧ x ≤ most) ∧ FlTo w fb rb v zs σ' w' := by
  have cN := dfNum fb rb v zs σ k e w n (by omega) (by omega) h
  have CN := Lib.hid cN
  clear cN h
  go_enter Tryz.func35, Tryz.ntmps35
  go_wp2_with (fail)
  refine CN.out.mono ?_
  rintro en w1 ⟨x, σ1, rfl, hN, hb, hto⟩
  have HN := Lib.hid hN
  have HTO := Lib.hid hto
  have HB := Lib.hid hb.1
  obtain ⟨⟨k1, e1, hf⟩, _⟩ := hto
  have HF := Lib.hid hf
  clear hN hb hf CN
  by_cases hx : (most : Int) < x
  · have HM := Lib.hid (show Nx (if (most : Int) < x then failP 2 else retP x) zs σ1 0 (failS 2 σ1) by rw [if_pos hx]; exact Nx.fail 0 (by decide))
    go_wp2_with (fail)
    refine (dfFail fb rb v zs σ1 k1 e1 w1 2 HF.out).mono ?_
    rintro en w2 ⟨rfl, hto⟩
    have H2 := Lib.hid (HTO.out.then hto)
    clear hto
    go_wp2
    go_ret
    exact ⟨_, _, rfl, HN.out.bind HM.out, ⟨Int.le_refl _, by omega⟩, H2.out⟩
  · have HM := Lib.hid (show Nx (if (most : Int) < x then failP 2 else retP x) zs σ1 x σ1 by rw [if_neg hx]; exact Nx.ret _ _ _)
    have hxl : x ≤ (most : Int) := by omega
    clear hx
    go_wp2
    go_ret
    exact ⟨_, _, rfl, HN.out.bind HM.out, ⟨HB.out, hxl⟩, HTO.out⟩
theorem dfBytes (n : Nat) (h : Fl w fb rb v zs σ k e) :
    Calls Tryz.prog 66 #[.pointer (some ⟨fb, 0, none⟩), .int .i64 n] w fun en w' => ∃ v' ys σ', en = .returned v' ∧ Nx (bytesP n) zs σ ys σ' ∧ FlTo w fb rb v zs σ' w' ∧ Row w' w.heap.size v' ys ∧ Bytish ys ∧ ys.length ≤ n := by
  have hz := h.rf.bytish
  have q0 := cell_blk h.blk 0
  have q1 := cell_blk h.blk 1
  simp at q0 q1
  cases σ with
  | ok k' =>
    obtain ⟨rfl, rfl⟩ := h.e_ok
    by_cases hr : k' + n ≤ zs.length
    · have cU := rfB_ok rb v zs k' n w h.rf hr
      have hN : Nx (bytesP n) zs (.ok k') ((zs.drop k').take n) (.ok (k' + n)) := Nx.of_ok (by unfold bytesP; rw [if_pos hr])
      have hb : Bytish ((zs.drop k').take n) := (hz.drop k').take n
      have hl : ((zs.drop k').take n).length ≤ n := by simp; omega
      obtain ⟨ys, hys⟩ : ∃ ys, (zs.drop k').take n = ys := ⟨_, rfl⟩
      rw [hys] at cU hN hb hl
      have HF := Lib.hid h
      have CU := Lib.hid cU
      have HN := Lib.hid hN
      have HB := Lib.hid hb
      have HL := Lib.hid hl
      clear h cU hN hb hz hys hr hl
      go_enter Tryz.func66, Tryz.ntmps66
      go_wp2_with (fail)
      refine CU.out.mono ?_
      rintro en w1 ⟨v', rfl, hto, hrow⟩
      obtain ⟨av, cv, rfl, _, _⟩ := slice_of_owns hrow
      have HROW := Lib.hid hrow
      have HTO := Lib.hid (FlTo.of_rf HF.out hto)
      clear hto hrow CU q0 q1
      go_wp2
      go_ret
      exact ⟨_, _, _, rfl, HN.out, HTO.out, HROW.out, HB.out, HL.out⟩
    · have cU := rfB_none rb v zs k' n w h.rf (by omega)
      have hN : Nx (bytesP n) zs (.ok k') [] (failS 3 (.ok k')) := Nx.of_error [] (by unfold bytesP; rw [if_neg hr])
      have HF := Lib.hid h
      have CU := Lib.hid cU
      have HN := Lib.hid hN
      clear h cU hN hz hr
      go_enter Tryz.func66, Tryz.ntmps66
      go_wp2_with (fail)
      refine CU.out.mono ?_
      rintro en w1 ⟨v', rfl, hto, hrow⟩
      obtain ⟨av, cv, rfl, _, _⟩ := slice_of_owns hrow
      have HROW := Lib.hid hrow
      have H1 := Lib.hid (FlTo.of_rf HF.out hto)
      have HA := Lib.hid (HF.out.adv hto)
      clear hto hrow CU q0 q1
      go_wp2_with (fail)
      refine (dfFail fb rb v zs (.ok k') k' 0 w1 3 HA.out).mono ?_
      rintro en w2 ⟨rfl, hto⟩
      have H2 := Lib.hid (H1.out.then hto)
      have HROW2 := Lib.hid (hto.2)
      clear hto
      go_wp2
      go_ret
      exact ⟨_, [], _, rfl, HN.out, H2.out, Row.keep (N := w.heap.size) (show Row w1 w.heap.size _ [] from HROW.out) HROW2.out (fun j hj => by have h1 := HF.out.rf.lt; have h2 := heap_lt HF.out.blk; rcases hj with rfl | rfl <;> assumption), Bytish.nil, Nat.zero_le _⟩
  | error y =>
    obtain ⟨rfl, hy⟩ := h.e_no
    have hyb : (e != 0) = true := by simpa using hy
    have HTO := Lib.hid (FlTo.refl h)
    clear h hy hz
    go_enter Tryz.func66, Tryz.ntmps66
    go_wp2
    go_ret
    exact ⟨_, [], _, rfl, Nx.bad _ _ _ _, HTO.out, World.ownsRow_nil _ _ _ _, Bytish.nil, Nat.zero_le _⟩
theorem dfNamed (ap : Option Addr) (np cp : Nat) (cs : List ConstV) (s : ByteArray) (hp : Pool w (.slice ap np cp) cs) (hpf : ∀ j, (Value.slice ap np cp).ownBlock = some j → ¬ (j = fb ∨ j = rb)) (h : Fl w fb rb v zs σ k e) :
    Calls Tryz.prog 65 #[.pointer (some ⟨fb, 0, none⟩), .slice ap np cp, .string s] w fun en w' => ∃ σ', en = .returned (.tuple #[]) ∧ Nx (textP cs s) zs σ () σ' ∧ FlTo w fb rb v zs σ' w' := by
  have cN := dfNum fb rb v zs σ k e w 2 (by decide) (by decide) h
  have CN := Lib.hid cN
  have HP := Lib.hid hp
  have HPF := Lib.hid hpf
  clear cN h hp hpf
  go_enter Tryz.func65, Tryz.ntmps65
  go_wp2_with (fail)
  refine CN.out.mono ?_
  rintro en w1 ⟨x, σ1, rfl, hN, hb, hto⟩
  have HN := Lib.hid hN
  have HTO := Lib.hid hto
  have HP1 := Lib.hid (Pool.only HP.out hto.2 HPF.out)
  obtain ⟨⟨k1, e1, hf⟩, _⟩ := hto
  have HF := Lib.hid hf
  clear hN hb CN HP
  go_wp2_with (fail)
  refine (refText _ cs x w1 HP1.out).mono ?_
  rintro en w2 ⟨rfl, rfl⟩
  have q1 := cell_blk hf.blk 1
  simp at q1
  cases σ1 with
  | error y =>
    obtain ⟨rfl, hy⟩ := hf.e_no
    have hyb : (e1 == 0) = false := by simpa using hy
    clear hf hy HP1
    go_wp2
    go_end0
    exact ⟨_, rfl, HN.out.bind (Nx.bad _ _ _ _), HTO.out⟩
  | ok k' =>
    obtain ⟨rfl, rfl⟩ := hf.e_ok
    clear hf
    by_cases ht : textZ cs x = (s, true)
    · have HM := Lib.hid (show Nx (fun _ k => open Classical in if textZ cs x = (s, true) then Except.ok ((), k) else .error (50 : Int)) zs (.ok k') () (.ok k') from Nx.of_ok (by rw [if_pos ht]))
      rw [ht]
      clear ht
      go_wp2
      go_end0
      exact ⟨_, rfl, HN.out.bind HM.out, HTO.out⟩
    · have HM := Lib.hid (show Nx (fun _ k => open Classical in if textZ cs x = (s, true) then Except.ok ((), k) else .error (50 : Int)) zs (.ok k') () (failS 50 (.ok k')) from Nx.of_error () (by rw [if_neg ht]))
      obtain ⟨⟨y, b⟩, hy⟩ : ∃ y, textZ cs x = y := ⟨_, rfl⟩
      rw [hy]
      rw [hy] at ht
      cases b with
      | false =>
        clear ht hy
        go_wp2_with (fail)
        refine (dfFail fb rb v zs (.ok k') k' 0 w1 50 HF.out).mono ?_
        rintro en w2 ⟨rfl, hto⟩
        have H2 := Lib.hid (HTO.out.then hto)
        clear hto
        go_wp2
        go_end0
        exact ⟨_, rfl, HN.out.bind HM.out, H2.out⟩
      | true =>
        have hne := text_ne (x := y) (y := s) (fun e => ht (by rw [e]))
        clear ht hy
        go_wp2_with (fail)
        refine (dfFail fb rb v zs (.ok k') k' 0 w1 50 HF.out).mono ?_
        rintro en w2 ⟨rfl, hto⟩
        have H2 := Lib.hid (HTO.out.then hto)
        clear hto
        go_wp2
        go_end0
        exact ⟨_, rfl, HN.out.bind HM.out, H2.out⟩
end
end Go.Proofs.YtodhdiccfobcfaaGreatDoor
