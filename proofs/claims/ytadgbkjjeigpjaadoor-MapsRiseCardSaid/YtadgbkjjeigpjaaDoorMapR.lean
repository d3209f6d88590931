/- The document's own reading of maps: its state, numbers, types. No condition beyond a reader that was made. -/
import Derived.Test.YtadgbkjjeigpjaaDoorMapV
import Derived.Test.YtadgbkjjeigpjaaDoorRfU
import Derived.Test.YtadgbkjjeigpjaaDoorPolD
namespace Go.Proofs.YtadgbkjjeigpjaaDoor
open Go.RowKit
set_option linter.unusedVariables false
set_option linter.unusedSimpArgs false

/-- A pool's block matters only if there are constants. -/
theorem Pool.only2 {S : Nat → Prop} {w w' : World} {v : Value} {cs : List ConstV} (h : Pool w v cs) (ho : Only S w w') (hs : ∀ k, v.ownBlock = some k → cs ≠ [] → ¬ S k) : Pool w' v cs := by
  obtain ⟨ao, cap, rfl, h1, h2, h3, h4, h5⟩ := h
  refine ⟨ao, cap, rfl, h1, h2, h3, h4, fun x hx h0 => ?_⟩
  obtain ⟨b, o, rfl, h6⟩ := h5 x hx h0
  subst hx
  exact ⟨b, o, rfl, fun i hi => (h6 i hi).only ho (hs b rfl (List.ne_nil_of_length_pos h0))⟩
theorem Pool.lt {w : World} {v : Value} {cs : List ConstV} (h : Pool w v cs) : ∀ k, v.ownBlock = some k → cs ≠ [] → k < w.heap.size := by
  obtain ⟨ao, cap, rfl, h1, h2, h3, h4, h5⟩ := h
  intro k hk hne
  have h0 : 0 < cs.length := List.length_pos_iff.2 hne
  cases ao with
  | none => cases hk
  | some x =>
    obtain ⟨b, o, rfl, h6⟩ := h5 x rfl h0
    cases hk
    exact World.block_lt_of_cell? w _ (h6 0 h0).c0
/-- What reads maps in the document: its block, its reader's. -/
structure Mq (w : World) (xb rb : Nat) (v pv : Value) (cs : List ConstV) (zs : List Int) (σ : StZ) (k : Nat) (e : Int) : Prop where
  blk : w.heap[xb]? = some (.cells #[.pointer (some ⟨rb, 0, none⟩), pv, .int .i64 e] 54 (0, 0))
  rf : Rf w rb v zs k
  pool : Pool w pv cs
  st : StK σ k e
  ne : xb ≠ rb
  vb : ∀ j, v.ownBlock = some j → zs ≠ [] → ¬ j = xb
  pb : ∀ j, pv.ownBlock = some j → cs ≠ [] → ¬ (j = xb ∨ j = rb)
/-- What a call of it leaves. -/
def MqTo (w : World) (xb rb : Nat) (v pv : Value) (cs : List ConstV) (zs : List Int) (σ : StZ) (w' : World) : Prop := (∃ k e, Mq w' xb rb v pv cs zs σ k e) ∧ Only (fun j => j = xb ∨ j = rb) w w'
section
variable {w w' : World} {xb rb : Nat} {v pv : Value} {cs : List ConstV} {zs : List Int} {σ : StZ} {k k' : Nat} {e : Int}
theorem Mq.only {S : Nat → Prop} (h : Mq w xb rb v pv cs zs σ k e) (ho : Only S w w') (h1 : ¬ S xb) (h2 : ¬ S rb) (h3 : ∀ j, v.ownBlock = some j → zs ≠ [] → ¬ S j) (h4 : ∀ j, pv.ownBlock = some j → cs ≠ [] → ¬ S j) : Mq w' xb rb v pv cs zs σ k e :=
  ⟨ho.heap h.blk h1, h.rf.only ho h2 h3, Pool.only2 h.pool ho h4, h.st, h.ne, h.vb, h.pb⟩
theorem Mq.idle (h : Mq w xb rb v pv cs zs σ k e) (ho : Only (fun _ => False) w w') : Mq w' xb rb v pv cs zs σ k e := h.only ho (fun h => h) (fun h => h) (fun _ _ _ h => h) (fun _ _ _ h => h)
theorem Mq.e_ok (h : Mq w xb rb v pv cs zs (.ok k') k e) : k' = k ∧ e = 0 := h.st
theorem Mq.e_no {x : Int} (h : Mq w xb rb v pv cs zs (.error x) k e) : e = x ∧ x ≠ 0 := h.st
theorem Mq.adv (h : Mq w xb rb v pv cs zs (.ok k) k 0) (hr : RfTo w rb v zs k' w') : Mq w' xb rb v pv cs zs (.ok k') k' 0 :=
  ⟨hr.2.heap h.blk h.ne, hr.1, Pool.only2 h.pool hr.2 (fun j hj hc e => h.pb j hj hc (.inr e)), ⟨rfl, rfl⟩, h.ne, h.vb, h.pb⟩
theorem Mq.err (h : Mq w xb rb v pv cs zs (.ok k) k 0) {x : Int} (hx : x ≠ 0) : MqTo w xb rb v pv cs zs (.error x) (w.setCell ⟨xb, 2, none⟩ (.int .i64 x)) := by
  have ho := (Only.refl (fun j => j = xb) w).setCell (p := ⟨xb, 2, none⟩) (fun _ => rfl) (.int .i64 x)
  refine ⟨⟨k, x, ?_, h.rf.only ho (fun e => h.ne e.symm) h.vb, Pool.only2 h.pool ho (fun j hj hc e => h.pb j hj hc (.inl e)), ⟨rfl, hx⟩, h.ne, h.vb, h.pb⟩, ho.mono (fun _ h _ => .inl h)⟩
  rw [heap_setCell_at h.blk]
  simp
theorem MqTo.refl (h : Mq w xb rb v pv cs zs σ k e) : MqTo w xb rb v pv cs zs σ w := ⟨⟨k, e, h⟩, Only.refl _ _⟩
theorem MqTo.of_rf (h : Mq w xb rb v pv cs zs (.ok k) k 0) (hr : RfTo w rb v zs k' w') : MqTo w xb rb v pv cs zs (.ok k') w' := ⟨⟨k', 0, h.adv hr⟩, hr.2.mono (fun _ h _ => .inr h)⟩
theorem MqTo.then {w0 : World} {σ' : StZ} (h : MqTo w0 xb rb v pv cs zs σ w) (h2 : MqTo w xb rb v pv cs zs σ' w') : MqTo w0 xb rb v pv cs zs σ' w' := ⟨h2.1, h.2.trans h2.2 (fun _ h _ => h)⟩
theorem MqTo.idle (h : MqTo w xb rb v pv cs zs σ w') {w2 : World} (ho : Only (fun _ => False) w' w2) : MqTo w xb rb v pv cs zs σ w2 := by
  obtain ⟨⟨k, e, h1⟩, h2⟩ := h
  exact ⟨⟨k, e, h1.idle ho⟩, h2.trans ho (fun _ h _ => h.elim)⟩
theorem MqTo.pre {w0 : World} (ho : Only (fun _ => False) w0 w) (h : MqTo w xb rb v pv cs zs σ w') : MqTo w0 xb rb v pv cs zs σ w' := ⟨h.1, (ho.mono (fun _ h _ => h.elim)).trans h.2 (fun _ h _ => h)⟩
/-- A new block is written. -/
theorem MqTo.newer {w0 w2 : World} {σ0 : StZ} {k0 : Nat} {e0 : Int} (h0 : Mq w0 xb rb v pv cs zs σ0 k0 e0) (h : MqTo w0 xb rb v pv cs zs σ w) (ho : Only (fun j => w0.heap.size ≤ j) w w2) : MqTo w0 xb rb v pv cs zs σ w2 := by
  obtain ⟨⟨k, e, h1⟩, h2⟩ := h
  have a := heap_lt h0.blk
  have b := h0.rf.lt
  exact ⟨⟨k, e, h1.only ho (by omega) (by omega) (fun j hj hz e => by have := Bytes.lt h0.rf.byt j hj hz; omega) (fun j hj hc e => by have := Pool.lt h0.pool j hj hc; omega)⟩, h2.trans ho (fun i hi hl => absurd hl (by omega))⟩
theorem Nx.mustM {zs : List Int} {σ : StZ} (b : Bool) : Nx (mustM b) zs σ () (if b = true then σ else failS 100 σ) := by
  unfold Nx
  cases σ <;> cases b <;> rfl
end
section
variable (xb rb : Nat) (v pv : Value) (cs : List ConstV) (zs : List Int) (σ : StZ) (k : Nat) (e : Int) (w : World)
theorem mqBad (b : Bool) (h : Mq w xb rb v pv cs zs σ k e) :
    Calls Tryd.prog 15 #[.pointer (some ⟨xb, 0, none⟩), .bool b] w fun en w' => en = .returned (.tuple #[]) ∧ MqTo w xb rb v pv cs zs (if b = true then failS 100 σ else σ) w' := by
  have q1 := cell_blk h.blk 2
  have f1 := frozen_blk h.blk 2
  simp at q1
  cases b with
  | false =>
    have HTO := Lib.hid (MqTo.refl h)
    clear h
    go_enter Tryd.func15, Tryd.ntmps15
    go_wp2
    go_end0
    exact ⟨rfl, HTO.out⟩
  | true =>
    cases σ with
    | ok k' =>
      obtain ⟨rfl, rfl⟩ := h.e_ok
      have HTO := Lib.hid (h.err (x := 100) (by decide))
      clear h
      go_enter Tryd.func15, Tryd.ntmps15
      go_wp2
      go_end0
      exact ⟨rfl, HTO.out⟩
    | error y =>
      obtain ⟨rfl, hy⟩ := h.e_no
      have hyb : (e == 0) = false := by simpa using hy
      have HTO := Lib.hid (MqTo.refl h)
      clear h hy f1
      go_enter Tryd.func15, Tryd.ntmps15
      go_wp2
      go_end0
      exact ⟨rfl, HTO.out⟩
theorem mqNum (n : Nat) (hn1 : 1 ≤ n) (hn4 : n ≤ 2) (h : Mq w xb rb v pv cs zs σ k e) :
    Calls Tryd.prog 14 #[.pointer (some ⟨xb, 0, none⟩), .int .i64 n] w fun en w' => ∃ x σ', en = .returned (.int .i64 x) ∧ Nx (numP n) zs σ x σ' ∧ (0 ≤ x ∧ x < 256 ^ n) ∧ MqTo w xb rb v pv cs zs σ' w' := by
  have hz := h.rf.bytish
  have q0 := cell_blk h.blk 0
  have q1 := cell_blk h.blk 2
  simp at q0 q1
  have hp : (0 : Int) < 256 ^ n := Int.pow_pos (by decide)
  cases σ with
  | ok k' =>
    obtain ⟨rfl, rfl⟩ := h.e_ok
    by_cases hr : k' + n ≤ zs.length
    · have cU := rfU_ok rb v zs k' n w h.rf hn1 (by omega) hr
      have hN : Nx (numP n) zs (.ok k') (uAt zs k' n) (.ok (k' + n)) := Nx.of_ok (by unfold numP; rw [if_pos hr])
      have hb := uAt_lt' hz k' n hr
      have hlt : uAt zs k' n < 4294967296 := by
        have : (256 : Int) ^ n ≤ 256 ^ 4 := by rcases (show n = 1 ∨ n = 2 by omega) with rfl | rfl <;> decide
        have h4 : (256 : Int) ^ 4 = 4294967296 := by decide
        omega
      obtain ⟨u, hu⟩ : ∃ u, uAt zs k' n = u := ⟨_, rfl⟩
      rw [hu] at cU hN hb hlt
      have hw : IntKind.i64.wrap u = u := IntWalk.i64_in _ (by have := hb.1; omega)
      have HF := Lib.hid h
      have CU := Lib.hid cU
      have HN := Lib.hid hN
      have HB := Lib.hid hb
      clear h cU hN hb hlt hz hp hu hr
      go_enter Tryd.func14, Tryd.ntmps14
      go_wp2_with (go_at_call 34; refine CU.out.mono ?_; rintro en w1 ⟨rfl, hto⟩)
      go_ret
      exact ⟨_, _, rfl, HN.out, HB.out, MqTo.of_rf HF.out hto⟩
    · have cU := rfU_short rb v zs k' n w h.rf hn1 (by omega) (by omega)
      have hN : Nx (numP n) zs (.ok k') 0 (.error 3) := Nx.of_error 0 (by unfold numP; rw [if_neg hr])
      have HF := Lib.hid h
      have CU := Lib.hid cU
      have HN := Lib.hid hN
      have HP := Lib.hid hp
      clear h cU hN hz hp hr
      go_enter Tryd.func14, Tryd.ntmps14
      go_wp2_with (fail)
      refine CU.out.mono ?_
      rintro en w1 ⟨rfl, hto⟩
      have H1 := Lib.hid (MqTo.of_rf HF.out hto)
      have hA := HF.out.adv hto
      have f2 := frozen_blk hA.blk 2
      have q2 := cell_blk hA.blk 2
      simp at q2
      have H2 := Lib.hid (H1.out.then (hA.err (x := 3) (by decide)))
      clear hto q0 q1 hA CU
      go_wp2
      go_ret
      exact ⟨_, _, rfl, HN.out, ⟨Int.le_refl _, HP.out⟩, H2.out⟩
  | error y =>
    obtain ⟨rfl, hy⟩ := h.e_no
    have hyb : (e != 0) = true := by simpa using hy
    have HTO := Lib.hid (MqTo.refl h)
    have HP := Lib.hid hp
    clear h hy hz hp
    go_enter Tryd.func14, Tryd.ntmps14
    go_wp2
    go_ret
    exact ⟨_, _, rfl, Nx.bad _ _ _ _, ⟨Int.le_refl _, HP.out⟩, HTO.out⟩
end
end Go.Proofs.YtadgbkjjeigpjaaDoor
