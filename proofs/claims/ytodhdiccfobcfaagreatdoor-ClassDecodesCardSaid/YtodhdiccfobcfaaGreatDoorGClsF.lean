/- The program reads a class file's first bytes, its pool, its names, its end. No condition beyond a reader that was made. The program reads a class file's pool. No condition beyond a reader that was made. -/
import Derived.Test.YtodhdiccfobcfaaGreatDoorClsT
import Derived.Test.YtodhdiccfobcfaaGreatDoorGPolD
import Derived.Test.YtodhdiccfobcfaaGreatDoorPart
namespace Go.Proofs.YtodhdiccfobcfaaGreatDoor
open Go.RowKit
set_option linter.unusedVariables false
set_option linter.unusedSimpArgs false

theorem bindP_assoc {α β γ : Type} (p : Pr α) (f : α → Pr β) (g : β → Pr γ) : bindP (bindP p f) g = bindP p (fun a => bindP (f a) g) := by
  funext zs k
  unfold bindP
  cases p zs k <;> rfl
theorem bindP_ret {α β : Type} (a : α) (g : α → Pr β) : bindP (retP a) g = g a := rfl
def namesP : Pr (Int × Int) := bindP (fixedP 2 0) fun _ => bindP (numP 2) fun this => bindP (numP 2) fun super => bindP (fixedP 2 0) fun _ => retP (this, super)
def fieldsP : Pr (List FieldV) := bindP (countP 2 64) fun n => listP fieldP n.toNat
noncomputable def methodsP (cs : List ConstV) : Pr (List MethodV) := bindP (countP 2 64) fun n => listP (methodP cs) n.toNat
/-- The end: nothing is left. -/
def lastP : Pr Unit := bindP (fixedP 2 0) fun _ zs k => if k = zs.length then .ok ((), k) else .error 50
theorem bodyP_eq (cs : List ConstV) : bodyP cs = bindP namesP (fun t => bindP fieldsP fun fs => bindP (methodsP cs) fun ms => bindP (fixedP 2 0) fun _ => retP ⟨cs, t.1, t.2, fs, ms⟩) := by
  unfold bodyP namesP fieldsP methodsP
  simp only [bindP_assoc, bindP_ret]
theorem DecP.good {zs : List Int} (hz : Bytish zs) {cs : List ConstV} {n : Int} (h : DecP zs cs n 0) : checkZ cs = 0 ∧ 0 < cs.length ∧ ∃ m : Nat, n = m ∧ m ≤ zs.length ∧ m ≤ 264959 := by
  have hn := h.n_le
  rcases h with ⟨_, _, _, h⟩ | ⟨_, _, _, _, h⟩ | ⟨_, _, _, _, h⟩ | ⟨h2, _, h3, hr⟩
  · exact absurd h (by decide)
  · exact absurd h (by decide)
  · exact absurd h (by decide)
  · rcases hr with ⟨e0, hr, _, _, he⟩ | ⟨ds, k, hr, ⟨h4, _, _, h5⟩ | ⟨h4, rfl, rfl, _⟩⟩
    · rcases hr with ⟨ds, k, c, k', e, _, _, _, h4, h5⟩ | ⟨ds, k, _, _, h5⟩
      · injection h5 with h5; exact absurd (he.trans h5).symm h4
      · cases h5
    · exact absurd h5.symm h4
    · rcases hr with ⟨_, _, _, _, _, _, _, _, _, h5⟩ | ⟨ds', k', h1, _, h5⟩
      · cases h5
      · injection h5 with h5
        injection h5 with h5 h6
        subst h5 h6
        exact ⟨h4, h1.ne_nil, k, rfl, (h1.fits hz h2).2, by omega⟩

/-- What stands apart: the reader's two blocks, the pool's, the bytes'. -/
structure Ap2 (b rb : Nat) (sv pv : Value) (n : Nat) : Prop where
  brb : b ≠ rb
  prb : ∀ j, pv.ownBlock = some j → ¬ j = rb
  pb : ∀ j, pv.ownBlock = some j → ¬ j = b
  sb : ∀ j, sv.ownBlock = some j → ¬ j = b
  rbn : rb < n
  bn : b < n
  pn : ∀ j, pv.ownBlock = some j → j < n
  sn : ∀ j, sv.ownBlock = some j → j < n
theorem Ap2.mono {b rb : Nat} {sv pv : Value} {n m : Nat} (h : Ap2 b rb sv pv n) (hm : n ≤ m) : Ap2 b rb sv pv m :=
  ⟨h.brb, h.prb, h.pb, h.sb, Nat.lt_of_lt_of_le h.rbn hm, Nat.lt_of_lt_of_le h.bn hm, fun j hj => Nat.lt_of_lt_of_le (h.pn j hj) hm, fun j hj => Nat.lt_of_lt_of_le (h.sn j hj) hm⟩
/-- A class reader that has read so far. -/
structure KS (w0 w : World) (b rb : Nat) (sv : Value) (zs : List Int) (k : Nat) (pv : Value) (cs : List ConstV) (bc : Array Value) : Prop where
  rd : Rd w rb sv zs k
  blk : w.heap[b]? = some (.cells bc 74 (0, 0))
  pool : Pool w pv cs
  only : Only (fun j => j = rb ∨ j = b) w0 w
section
variable {w0 w w' : World} {b rb : Nat} {sv : Value} {zs : List Int} {k k' : Nat} {pv : Value} {cs : List ConstV} {bc : Array Value} {n : Nat}
theorem KS.read (h : KS w0 w b rb sv zs k pv cs bc) (ne : Ap2 b rb sv pv n) (ho : Only (fun j => j = rb) w w') (hr : Rd w' rb sv zs k') : KS w0 w' b rb sv zs k' pv cs bc :=
  ⟨hr, ho.heap h.blk ne.brb, Pool.only h.pool ho ne.prb, h.only.trans ho (fun _ h _ => .inl h)⟩
theorem KS.idle (h : KS w0 w b rb sv zs k pv cs bc) (ho : Only (fun _ => False) w w') : KS w0 w' b rb sv zs k pv cs bc :=
  ⟨h.rd.only ho (fun h => h) (fun _ _ h => h), ho.heap h.blk (fun h => h), Pool.only h.pool ho (fun _ _ h => h), h.only.trans ho (fun _ h _ => h.elim)⟩
theorem KS.reset (h : KS w0 w b rb sv zs k pv cs bc) : KS w w b rb sv zs k pv cs bc := ⟨h.rd, h.blk, h.pool, Only.refl _ _⟩
theorem KS.then (h : KS w0 w b rb sv zs k pv cs bc) (ho : Only (fun j => j = rb) w w') : Only (fun j => j = rb ∨ j = b) w0 w' := h.only.trans ho (fun _ h _ => .inl h)
theorem KS.store (h : KS w0 w b rb sv zs k pv cs bc) (ne : Ap2 b rb sv pv n) (i : Nat) (u : Value) : KS w0 (w.setCell ⟨b, i, none⟩ u) b rb sv zs k pv cs (bc.setIfInBounds i u) := by
  have ho := (Only.refl (fun j => j = b) w).setCell (p := ⟨b, i, none⟩) (fun _ => rfl) u
  exact ⟨h.rd.only ho (fun e => ne.brb e.symm) ne.sb, heap_setCell_at h.blk, Pool.only h.pool ho ne.pb, h.only.trans ho (fun _ h _ => .inr h)⟩
end
/-- What reading a part leaves. -/
def KTo {α : Type} (w0 : World) (b rb : Nat) (Ok : α → Nat → World → Prop) (r : Except Int (α × Nat)) (e : Ending) (w' : World) : Prop :=
  (∃ a k, r = .ok (a, k) ∧ e = .returned (.tuple #[]) ∧ Ok a k w') ∨ (∃ x, r = .error x ∧ e = pan x ∧ Only (fun j => j = rb ∨ j = b) w0 w')
theorem KTo.no {α : Type} {w0 : World} {b rb : Nat} {Ok : α → Nat → World → Prop} {r : Except Int (α × Nat)} {w' : World} {x : Int} (h : r = .error x) (ho : Only (fun j => j = rb ∨ j = b) w0 w') : KTo w0 b rb Ok r (pan x) w' := .inr ⟨x, h, rfl, ho⟩
theorem KTo.ok {α : Type} {w0 : World} {b rb : Nat} {Ok : α → Nat → World → Prop} {r : Except Int (α × Nat)} {w' : World} {a : α} {k : Nat} (h : r = .ok (a, k)) (ho : Ok a k w') : KTo w0 b rb Ok r (.returned (.tuple #[])) w' := .inl ⟨a, k, h, rfl, ho⟩

set_option maxHeartbeats 1000000 in
theorem readHead (b rb : Nat) (sv : Value) (zs : List Int) (k : Nat) (w : World) (h : Rd w rb sv zs k) (q : w.cell? ⟨b, 0, none⟩ = some (.pointer (some ⟨rb, 0, none⟩))) (hne : b ≠ rb) :
    Calls Tryz.prog 57 #[.pointer (some ⟨b, 0, none⟩)] w (RdE unitV rb sv zs w (headP zs k)) := by
  have HR := Lib.hid h
  have NE := Lib.hid hne
  have Q := Lib.hid q
  clear h hne q
  go_enter Tryz.func57, Tryz.ntmps57
  go_wp2_with (fail)
  refine (readFixed b rb sv zs k w 4 (by decide) (by decide) 3405691582 HR.out Q.out).mono ?_
  rintro e w1 ⟨⟨_, k1, hx, rfl, hr⟩ | ⟨x, hx, rfl⟩, ho⟩
  rotate_left
  · exact ⟨rfl, RdE.no (show headP zs k = .error x from bindP_error hx) ho⟩
  have C := Lib.hid (show headP zs k = _ from bindP_ok hx)
  have HO := Lib.hid ho
  have HR1 := Lib.hid hr
  clear hx hr ho
  go_wp2_with (fail)
  refine (readFixed b rb sv zs k1 w1 4 (by decide) (by decide) 61 HR1.out (HO.out.cell Q.out NE.out)).mono ?_
  rintro e w2 ⟨⟨_, k2, hx, rfl, hr⟩ | ⟨x, hx, rfl⟩, ho⟩
  rotate_left
  · exact ⟨rfl, RdE.no (C.out.trans hx) (HO.out.rbs ho)⟩
  have C2 := Lib.hid (C.out.trans hx)
  have HO2 := Lib.hid (HO.out.rbs ho)
  have HR2 := Lib.hid hr
  clear hx hr ho
  go_wp2
  go_end0
  exact RdE.ok (V := unitV) C2.out HR2.out HO2.out

set_option maxHeartbeats 1000000 in
theorem readEnd (b rb : Nat) (sv : Value) (zs : List Int) (k : Nat) (w : World) (h : Rd w rb sv zs k) (q : w.cell? ⟨b, 0, none⟩ = some (.pointer (some ⟨rb, 0, none⟩))) (hne : b ≠ rb) :
    Calls Tryz.prog 62 #[.pointer (some ⟨b, 0, none⟩)] w (RdE unitV rb sv zs w (lastP zs k)) := by
  have HR := Lib.hid h
  have NE := Lib.hid hne
  have Q := Lib.hid q
  clear h hne q
  go_enter Tryz.func62, Tryz.ntmps62
  go_wp2_with (fail)
  refine (readFixed b rb sv zs k w 2 (by decide) (by decide) 0 HR.out Q.out).mono ?_
  rintro e w1 ⟨⟨_, k1, hx, rfl, hr⟩ | ⟨x, hx, rfl⟩, ho⟩
  rotate_left
  · exact ⟨rfl, RdE.no (show lastP zs k = .error x from bindP_error hx) ho⟩
  have C := Lib.hid (show lastP zs k = _ from bindP_ok hx)
  have HO := Lib.hid ho
  have HR1 := Lib.hid hr
  have HLE := Lib.hid hr.le
  have q1 := ho.cell Q.out NE.out
  clear hx hr ho
  go_wp2_with (fail)
  refine (rdLeftM rb sv zs k1 w1 HR1.out).mono ?_
  rintro e w2 ⟨rfl, hdr⟩
  have HO2 := Lib.hid (HO.out.rbs (Drawn.only hdr))
  have HR2 := Lib.hid (HR1.out.drawn hdr)
  clear hdr q1
  by_cases hl : k1 = zs.length
  · have C2 := Lib.hid (C.out.trans (if_pos hl))
    have hz : (zs.length : Int) - (k1 : Int) = 0 := by omega
    rw [hz]
    clear hl hz
    go_wp2_with (fail)
    refine (mustT _).mono ?_
    rintro e w3 ⟨rfl, rfl⟩
    go_wp2
    go_end0
    exact RdE.ok (V := unitV) C2.out HR2.out HO2.out
  · have C2 := Lib.hid (C.out.trans (if_neg hl))
    obtain ⟨d, hd⟩ : ∃ d : Int, (zs.length : Int) - (k1 : Int) = d := ⟨_, rfl⟩
    have hd0 : (d == 0) = false := by have := HLE.out; simp; omega
    rw [hd]
    clear hl hd HLE
    go_wp2_with (fail)
    refine (mustF _).mono ?_
    rintro e w3 ⟨rfl, rfl⟩
    exact ⟨rfl, RdE.no C2.out HO2.out⟩

set_option maxHeartbeats 2000000 in
set_option maxRecDepth 100000 in
theorem readNames (b rb : Nat) (sv : Value) (zs : List Int) (k : Nat) (w : World) (pv : Value) (cs : List ConstV) (wv fv mv : Value) (h : KS w w b rb sv zs k pv cs #[.pointer (some ⟨rb, 0, none⟩), wv, pv, .int .i64 0, .int .i64 0, fv, mv]) (ne : Ap2 b rb sv pv w.heap.size) :
    Calls Tryz.prog 59 #[.pointer (some ⟨b, 0, none⟩)] w (KTo w b rb (fun t k' w' => KS w w' b rb sv zs k' pv cs #[.pointer (some ⟨rb, 0, none⟩), wv, pv, .int .i64 t.1, .int .i64 t.2, fv, mv] ∧ I64 t.1 ∧ I64 t.2) (namesP zs k)) := by
  have HZ := Lib.hid h.rd.byt
  have NE := Lib.hid ne
  have H0 := Lib.hid h
  clear h ne
  go_enter Tryz.func59, Tryz.ntmps59
  go_wp2_with (fail)
  refine (readFixed b rb sv zs k w 2 (by decide) (by decide) 0 H0.out.rd (cell_blk H0.out.blk 0)).mono ?_
  rintro e w1 ⟨⟨_, k1, hx, rfl, hr⟩ | ⟨x, hx, rfl⟩, ho⟩
  rotate_left
  · exact ⟨rfl, KTo.no (show namesP zs k = .error x from bindP_error hx) (H0.out.then ho)⟩
  have C1 := Lib.hid (show namesP zs k = _ from bindP_ok hx)
  have H1 := Lib.hid (H0.out.read NE.out ho hr)
  clear hx hr ho H0
  go_wp2_with (fail)
  refine (readShort b rb sv zs k1 w1 H1.out.rd (cell_blk H1.out.blk 0)).mono ?_
  rintro e w2 ⟨⟨th, k2, hx, rfl, hr⟩ | ⟨x, hx, rfl⟩, ho⟩
  rotate_left
  · exact ⟨rfl, KTo.no (C1.out.trans (bindP_error hx)) (H1.out.then ho)⟩
  have C2 := Lib.hid (C1.out.trans (bindP_ok hx))
  have V1 := Lib.hid (i64_short (numP_val zs _ HZ.out hx))
  have H2 := Lib.hid (H1.out.read NE.out ho hr)
  clear hx hr ho H1 C1
  go_wp2_with (fail)
  refine (readShort b rb sv zs k2 w2 H2.out.rd (cell_blk H2.out.blk 0)).mono ?_
  rintro e w3 ⟨⟨su, k3, hx, rfl, hr⟩ | ⟨x, hx, rfl⟩, ho⟩
  rotate_left
  · exact ⟨rfl, KTo.no (C2.out.trans (bindP_error hx)) (H2.out.then ho)⟩
  have C3 := Lib.hid (C2.out.trans (bindP_ok hx))
  have V2 := Lib.hid (i64_short (numP_val zs _ HZ.out hx))
  have h3 := H2.out.read NE.out ho hr
  have q3 := cell_blk h3.blk 3
  have q4 := cell_blk h3.blk 4
  have f3 := frozen_blk h3.blk 3
  have f4 := frozen_blk h3.blk 4
  simp at q3 q4
  have H4 := Lib.hid (show KS w ((w3.setCell ⟨b, 3, none⟩ (.int .i64 th)).setCell ⟨b, 4, none⟩ (.int .i64 su)) b rb sv zs k3 pv cs #[.pointer (some ⟨rb, 0, none⟩), wv, pv, .int .i64 th, .int .i64 su, fv, mv] from (h3.store NE.out 3 (.int .i64 th)).store NE.out 4 (.int .i64 su))
  clear hx hr ho h3 H2 C2
  go_wp2_with (fail)
  clear q3 q4 f3 f4
  generalize (w3.setCell ⟨b, 3, none⟩ (.int .i64 th)).setCell ⟨b, 4, none⟩ (.int .i64 su) = w4 at *
  refine (readFixed b rb sv zs k3 w4 2 (by decide) (by decide) 0 H4.out.rd (cell_blk H4.out.blk 0)).mono ?_
  rintro e w5 ⟨⟨_, k4, hx, rfl, hr⟩ | ⟨x, hx, rfl⟩, ho⟩
  rotate_left
  · exact ⟨rfl, KTo.no (C3.out.trans (bindP_error hx)) (H4.out.then ho)⟩
  have C5 := Lib.hid (C3.out.trans (bindP_ok hx))
  have H5 := Lib.hid (H4.out.read NE.out ho hr)
  clear hx hr ho H4 C3
  go_wp2
  go_end0
  exact KTo.ok (a := (th, su)) C5.out ⟨H5.out, V1.out, V2.out⟩

/-- A pool stands where no string-less block is. -/
theorem Pool.apart {w : World} {ao : Option Addr} {n cap : Nat} {cs : List ConstV} (h : Pool w (.slice ao n cap) cs) (h0 : 0 < cs.length) {j : Nat} (hj : (Value.slice ao n cap).ownBlock = some j) : j < w.heap.size ∧ ∃ o s, w.cell? ⟨j, o, none⟩ = some (.string s) := by
  obtain ⟨ao', cap', e, h1, h2, h3, h4, h5⟩ := h
  injection e with e1 e2 e3
  subst e1 e2 e3
  cases ao with
  | none => cases hj
  | some x =>
    obtain ⟨b, o, rfl, h6⟩ := h5 x rfl h0
    have hc := (h6 0 h0).c1
    have hb : b = j := by simpa [Value.ownBlock] using hj
    subst hb
    exact ⟨World.block_lt_of_cell? w _ hc, _, _, hc⟩
/-- What reading the pool leaves. -/
def ClsPoolTo (w0 : World) (b rb : Nat) (sv : Value) (zs : List Int) (k : Nat) (wv fv mv : Value) (e : Ending) (w' : World) : Prop :=
  ∃ pv cs n e0, DecP (zs.drop k) cs n e0 ∧
    ((e0 = 0 ∧ e = .returned (.tuple #[]) ∧ KS w0 w' b rb sv zs (k + n.toNat) pv cs #[.pointer (some ⟨rb, 0, none⟩), wv, pv, .int .i64 0, .int .i64 0, fv, mv] ∧ Ap2 b rb sv pv w'.heap.size ∧ checkZ cs = 0 ∧ ∀ c ∈ cs, Fits c) ∨
     (e0 ≠ 0 ∧ e = pan e0 ∧ Only (fun j => j = rb ∨ j = b) w0 w'))
theorem no_string {w : World} {b : Nat} {bc : Array Value} {t : TypeId} (h : w.heap[b]? = some (.cells bc t (0, 0))) (hb : ∀ u ∈ bc.toList, ∀ s, u ≠ .string s) {o : Nat} {s : ByteArray} : w.cell? ⟨b, o, none⟩ ≠ some (.string s) := by
  intro hc
  rw [cell_blk h] at hc
  exact hb _ (by rw [← Array.getElem?_toList] at hc; exact List.mem_of_getElem? hc) s rfl

end Go.Proofs.YtodhdiccfobcfaaGreatDoor
namespace Go.Proofs.YtodhdiccfobcfaaGreatDoor
open Go.RowKit
set_option linter.unusedVariables false
set_option linter.unusedSimpArgs false

theorem Bytes.behind_if {w : World} {g o cap : Nat} {zs : List Int} (hb : Bytes w (.slice (some ⟨g, o, none⟩) zs.length cap) zs) (k : Nat) (hk : k ≤ zs.length) :
    Bytes w (.slice (if cap = k then (some ⟨g, o, none⟩ : Option Addr) else some (⟨g, o + k, none⟩ : Addr)) (zs.length - k) (cap - k)) (zs.drop k) := by
  by_cases h : cap = k
  · rw [if_pos h]
    obtain ⟨_, _, e, h1, h2, h3, h4, _⟩ := hb
    injection e with _ _ e3
    have hl : zs.length = k := by omega
    have hd : zs.drop k = [] := List.drop_eq_nil_of_le (by omega)
    rw [hd, show zs.length - k = 0 by omega, show cap - k = 0 by omega]
    exact ⟨_, 0, rfl, Nat.le_refl _, by unfold maxLen; omega, (fun e => by cases e), Bytish.nil, fun x hx j hj => by simp at hj⟩
  · rw [if_neg h]
    exact Bytes.behind hb k hk

set_option maxHeartbeats 4000000 in
set_option maxRecDepth 100000 in
theorem readConstants (b rb : Nat) (sv : Value) (zs : List Int) (k : Nat) (w : World) (g o L cap : Nat) (fv mv : Value) (hsl : ∀ s, fv ≠ .string s ∧ mv ≠ .string s)
    (h : KS w w b rb sv zs k (.slice none 0 0) [] #[.pointer (some ⟨rb, 0, none⟩), .slice (some ⟨g, o, none⟩) L cap, .slice none 0 0, .int .i64 0, .int .i64 0, fv, mv]) (ne : Ap2 b rb sv (.slice none 0 0) w.heap.size)
    (hw : Bytes w (.slice (some ⟨g, o, none⟩) L cap) zs) (hT : Tabs w) (hg : ErrV w) :
    Calls Tryz.prog 58 #[.pointer (some ⟨b, 0, none⟩)] w (ClsPoolTo w b rb sv zs k (.slice (some ⟨g, o, none⟩) L cap) fv mv) := by
  have hL : L = zs.length := by obtain ⟨_, _, e, _⟩ := hw; injection e
  subst hL
  have hz := h.rd.byt
  have hkle := h.rd.le
  have hlim := h.rd.lim
  obtain ⟨ao', cap', e0_, hcl, hcm, _, _, _⟩ := id hw
  injection e0_ with e1_ _ e3_
  subst e1_ e3_
  unfold maxLen at hcm
  have hwb := Bytes.behind_if hw k hkle
  have q0 := cell_blk h.blk 0
  have q1 := cell_blk h.blk 1
  simp at q0 q1
  have hkz : (k : Int) ≤ (zs.length : Int) := by omega
  have HW := Lib.hid hwb
  have HR := Lib.hid h.rd
  have HZ := Lib.hid hz
  have HT := Lib.hid hT
  have HG := Lib.hid hg
  have NE := Lib.hid ne
  have H0 := Lib.hid h
  have HS := Lib.hid hsl
  clear h ne hw hT hg hz hwb hsl
  go_enter Tryz.func58, Tryz.ntmps58
  go_wp2_with (fail)
  refine wp_region_held_drew (S := fun wc => (wc.cell? ⟨b, 0, none⟩ = some (.pointer (some ⟨rb, 0, none⟩)) ∧ wc.cell? ⟨b, 1, none⟩ = some (.slice (some ⟨g, o, none⟩) zs.length cap)) ∧ Only (fun _ => False) w wc) (by kernel_rfl) ⟨⟨q0, q1⟩, (Only.refl _ _).drew⟩ (fun hHeld => ?_)
  refine wpAnyH_take (i := 0) (v := ?_) (by simp only [List.getElem?_toArray, List.getElem?_cons_succ, List.getElem?_cons_zero]; rfl) (by kernel_rfl) (by kernel_rfl) (by kernel_rfl) (by exact fun _ _ _ h => h) (Or.inl ⟨by rfl, ?_⟩) (by assumption) ?_
  rotate_left 1
  · (intro w hSw; (try dsimp only at hSw); go_simp; try with_reducible rfl)
  try simp only [Act.put, List.setIfInBounds_toArray, List.set_cons_zero, List.set_cons_succ]
  refine wpAnyH_take (i := 1) (v := ?_) (by simp only [List.getElem?_toArray, List.getElem?_cons_succ, List.getElem?_cons_zero]; rfl) (by kernel_rfl) (by kernel_rfl) (by kernel_rfl) (by exact fun _ _ _ h => h) (Or.inl ⟨by rfl, ?_⟩) (by assumption) ?_
  rotate_left 1
  · (intro w hSw; (try dsimp only at hSw); go_simp; try with_reducible rfl)
  try simp only [Act.put, List.setIfInBounds_toArray, List.set_cons_zero, List.set_cons_succ]
  refine wpAnyH_take (i := 2) (v := ?_) (by simp only [List.getElem?_toArray, List.getElem?_cons_succ, List.getElem?_cons_zero]; rfl) (by kernel_rfl) (by kernel_rfl) (by kernel_rfl) (by exact fun _ _ _ h => h) (Or.inl ⟨by rfl, ?_⟩) (by assumption) ?_
  rotate_left 1
  · (intro w hSw; (try dsimp only at hSw); go_simp; try with_reducible rfl)
  try simp only [Act.put, List.setIfInBounds_toArray, List.set_cons_zero, List.set_cons_succ]
  refine wpAnyH_take (i := 3) (v := ?_) (by simp only [List.getElem?_toArray, List.getElem?_cons_succ, List.getElem?_cons_zero]; rfl) (by kernel_rfl) (by kernel_rfl) (by kernel_rfl) (by exact fun _ _ _ h => h) (Or.inl ⟨by rfl, ?_⟩) (by assumption) ?_
  rotate_left 1
  · (intro w hSw; (try dsimp only at hSw); go_simp; try with_reducible rfl)
  try simp only [Act.put, List.setIfInBounds_toArray, List.set_cons_zero, List.set_cons_succ]
  refine wpAnyH_take (i := 4) (v := ?_) (by simp only [List.getElem?_toArray, List.getElem?_cons_succ, List.getElem?_cons_zero]; rfl) (by kernel_rfl) (by kernel_rfl) (by kernel_rfl) (by exact fun _ _ _ h => h) (Or.inl ⟨by rfl, ?_⟩) (by assumption) ?_
  rotate_left 1
  · (intro w hSw; (try dsimp only at hSw); go_simp; try with_reducible rfl)
  try simp only [Act.put, List.setIfInBounds_toArray, List.set_cons_zero, List.set_cons_succ]
  refine wpAnyH_take (i := 5) (v := ?_) (by simp only [List.getElem?_toArray, List.getElem?_cons_succ, List.getElem?_cons_zero]; rfl) (by kernel_rfl) (by kernel_rfl) (by kernel_rfl) (by exact fun _ _ _ h => h) (Or.inl ⟨by rfl, ?_⟩) (by assumption) ?_
  rotate_left 1
  · (intro w hSw; (try dsimp only at hSw); go_simp; try with_reducible rfl)
  try simp only [Act.put, List.setIfInBounds_toArray, List.set_cons_zero, List.set_cons_succ]
  refine wpAnyH_take (i := 6) (v := ?_) (by simp only [List.getElem?_toArray, List.getElem?_cons_succ, List.getElem?_cons_zero]; rfl) (by kernel_rfl) (by kernel_rfl) (by kernel_rfl) (by exact fun _ _ _ h => h) (Or.inl ⟨by rfl, ?_⟩) (by assumption) ?_
  rotate_left 1
  · (intro w hSw; (try dsimp only at hSw); go_simp; try with_reducible rfl)
  try simp only [Act.put, List.setIfInBounds_toArray, List.set_cons_zero, List.set_cons_succ]
  refine wpAnyH_take (i := 7) (v := ?_) (by simp only [List.getElem?_toArray, List.getElem?_cons_succ, List.getElem?_cons_zero]; rfl) (by kernel_rfl) (by kernel_rfl) (by kernel_rfl) (by exact fun _ _ _ h => h) (Or.inl ⟨by rfl, ?_⟩) (by assumption) ?_
  rotate_left 1
  · (intro w hSw; (try dsimp only at hSw); go_simp; try with_reducible rfl)
  try simp only [Act.put, List.setIfInBounds_toArray, List.set_cons_zero, List.set_cons_succ]
  refine wpAnyH_ready (rs := [8]) (by kernel_rfl) (by simp) ?_
  refine AllReadyH.cons (by simp only [List.getElem?_toArray, List.getElem?_cons_succ, List.getElem?_cons_zero]; rfl) (fun K hK => ?_) AllReadyH.nil
  go_simp
  refine (rdAtM rb sv zs k _ (HR.out.only hHeld.2 (fun h => h) (fun _ _ h => h))).mono ?_; rintro e w1 ⟨rfl, rfl⟩
  go_wp2_with fail
  refine hK.out _ _ ?_ (fun hHeld2 => ?_)
  · exact hHeld
  clear hK K
  try simp only [Act.put, List.setIfInBounds_toArray, List.set_cons_zero, List.set_cons_succ]
  clear hHeld
  have hHeld := hHeld2
  clear hHeld2
  refine wpAnyH_take (i := 9) (v := ?_) (by simp only [List.getElem?_toArray, List.getElem?_cons_succ, List.getElem?_cons_zero]; rfl) (by kernel_rfl) (by kernel_rfl) (by kernel_rfl) (by exact fun _ _ _ h => h) (Or.inl ⟨by rfl, ?_⟩) (by assumption) ?_
  rotate_left 1
  · (intro w hSw; (try dsimp only at hSw); go_simp; try with_reducible rfl)
  try simp only [Act.put, List.setIfInBounds_toArray, List.set_cons_zero, List.set_cons_succ]
  refine wpAnyH_ready (rs := [10]) (by kernel_rfl) (by simp) ?_
  refine AllReadyH.cons (by simp only [List.getElem?_toArray, List.getElem?_cons_succ, List.getElem?_cons_zero]; rfl) (fun K hK => ?_) AllReadyH.nil
  go_simp
  refine (progDecode _ (zs.drop k) _ (HW.out.only hHeld.2 (fun _ _ _ h => h)) (by rw [List.length_drop]; omega) (HT.out.only hHeld.2 (fun h => h) (fun h => h)) (HG.out.only hHeld.2 (fun h => h))).mono ?_; rintro e w2 ⟨pv, cs', n, e0, rfl, hd, hod, hp, hf⟩; have HD := Lib.hid hd; have HP := Lib.hid hp; have HF := Lib.hid hf; have HQ := Lib.hid (And.intro (And.intro (hod.cell hHeld.1.1 (fun h => h)) (hod.cell hHeld.1.2 (fun h => h))) (hHeld.2.trans hod (fun _ h => h.elim))); clear hd hod hp hf; clear HW; generalize (if cap = k then (some (⟨g, o, none⟩ : Addr)) else some ⟨g, o + k, none⟩) = vs
  go_wp2_with fail
  refine hK.out _ _ ?_ (fun hHeld2 => ?_)
  · exact HQ.out
  clear hK K
  try simp only [Act.put, List.setIfInBounds_toArray, List.set_cons_zero, List.set_cons_succ]
  clear hHeld
  have hHeld := hHeld2
  clear hHeld2
  refine wpAnyH_take (i := 11) (v := ?_) (by simp only [List.getElem?_toArray, List.getElem?_cons_succ, List.getElem?_cons_zero]; rfl) (by kernel_rfl) (by kernel_rfl) (by kernel_rfl) (by exact fun _ _ _ h => h) (Or.inl ⟨by rfl, ?_⟩) (by assumption) ?_
  rotate_left 1
  · (intro w hSw; (try dsimp only at hSw); go_simp; try with_reducible rfl)
  try simp only [Act.put, List.setIfInBounds_toArray, List.set_cons_zero, List.set_cons_succ]
  refine wpAnyH_take (i := 12) (v := ?_) (by simp only [List.getElem?_toArray, List.getElem?_cons_succ, List.getElem?_cons_zero]; rfl) (by kernel_rfl) (by kernel_rfl) (by kernel_rfl) (by exact fun _ _ _ h => h) (Or.inl ⟨by rfl, ?_⟩) (by assumption) ?_
  rotate_left 1
  · (intro w hSw; (try dsimp only at hSw); go_simp; try with_reducible rfl)
  try simp only [Act.put, List.setIfInBounds_toArray, List.set_cons_zero, List.set_cons_succ]
  refine wpAnyH_take (i := 13) (v := ?_) (by simp only [List.getElem?_toArray, List.getElem?_cons_succ, List.getElem?_cons_zero]; rfl) (by kernel_rfl) (by kernel_rfl) (by kernel_rfl) (by exact fun _ _ _ h => h) (Or.inl ⟨by rfl, ?_⟩) (by assumption) ?_
  rotate_left 1
  · (intro w hSw; (try dsimp only at hSw); go_simp; try with_reducible rfl)
  try simp only [Act.put, List.setIfInBounds_toArray, List.set_cons_zero, List.set_cons_succ]
  refine wpAnyH_take (i := 14) (v := ?_) (by simp only [List.getElem?_toArray, List.getElem?_cons_succ, List.getElem?_cons_zero]; rfl) (by kernel_rfl) (by kernel_rfl) (by kernel_rfl) (by exact fun _ _ _ h => h) (Or.inl ⟨by rfl, ?_⟩) (by assumption) ?_
  rotate_left 1
  · (intro w hSw; (try dsimp only at hSw); go_simp; try with_reducible rfl)
  try simp only [Act.put, List.setIfInBounds_toArray, List.set_cons_zero, List.set_cons_succ]
  refine wpAnyH_take (i := 15) (v := ?_) (by simp only [List.getElem?_toArray, List.getElem?_cons_succ, List.getElem?_cons_zero]; rfl) (by kernel_rfl) (by kernel_rfl) (by kernel_rfl) (by exact fun _ _ _ h => h) (Or.inl ⟨by rfl, ?_⟩) (by assumption) ?_
  rotate_left 1
  · (intro w hSw; (try dsimp only at hSw); go_simp; try with_reducible rfl)
  try simp only [Act.put, List.setIfInBounds_toArray, List.set_cons_zero, List.set_cons_succ]
  refine wpAnyH_take (i := 16) (v := ?_) (by simp only [List.getElem?_toArray, List.getElem?_cons_succ, List.getElem?_cons_zero]; rfl) (by kernel_rfl) (by kernel_rfl) (by kernel_rfl) (by exact fun _ _ _ h => h) (Or.inl ⟨by rfl, ?_⟩) (by assumption) ?_
  rotate_left 1
  · (intro w hSw; (try dsimp only at hSw); go_simp; try with_reducible rfl)
  try simp only [Act.put, List.setIfInBounds_toArray, List.set_cons_zero, List.set_cons_succ]
  refine wpAnyH_take (i := 17) (v := ?_) (by simp only [List.getElem?_toArray, List.getElem?_cons_succ, List.getElem?_cons_zero]; rfl) (by kernel_rfl) (by kernel_rfl) (by kernel_rfl) (by exact fun _ _ _ h => h) (Or.inl ⟨by rfl, ?_⟩) (by assumption) ?_
  rotate_left 1
  · (intro w hSw; (try dsimp only at hSw); go_simp; try with_reducible rfl)
  try simp only [Act.put, List.setIfInBounds_toArray, List.set_cons_zero, List.set_cons_succ]
  refine wpAnyH_done (by kernel_rfl) ?_ _
  have HO2 := Lib.hid hHeld.2
  clear hHeld q0 q1 HQ
  by_cases h0 : e0 = 0
  rotate_left
  · have HNE := Lib.hid h0
    clear h0
    go_wp2_with (fail)
    refine (refuseN e0 HNE.out _).mono ?_
    rintro e w3 ⟨rfl, rfl⟩
    exact ⟨rfl, pv, cs', n, e0, HD.out, .inr ⟨HNE.out, rfl, HO2.out.mono (fun _ h _ => h.elim)⟩⟩
  subst h0
  obtain ⟨hchk, hpos, m, rfl, hm1, hm2⟩ := HD.out.good (HZ.out.drop k)
  rw [List.length_drop] at hm1
  obtain ⟨ap, cp, rfl, _, _, _, _, _⟩ := id HP.out
  have h2 := H0.out.idle HO2.out
  have q2 := cell_blk h2.blk 2
  have f2 := frozen_blk h2.blk 2
  simp at q2
  have hap : ∀ j, (Value.slice ap cs'.length cp).ownBlock = some j → ¬ j = rb ∧ ¬ j = b ∧ j < w2.heap.size := fun j hj => by
    obtain ⟨hlt, o', s', hc⟩ := Pool.apart HP.out hpos hj
    refine ⟨fun e => ?_, fun e => ?_, hlt⟩
    · subst e
      refine no_string h2.rd.blk (fun u hu s => ?_) hc
      obtain ⟨ao, cc, e, _⟩ := slice_of_owns h2.rd.own
      simp only [List.mem_cons, List.mem_nil_iff, or_false] at hu
      rcases hu with rfl | rfl | rfl
      · rw [e]; simp
      · simp
      · simp
    · subst e
      refine no_string h2.blk (fun u hu s => ?_) hc
      simp only [List.mem_cons, List.mem_nil_iff, or_false] at hu
      rcases hu with rfl | rfl | rfl | rfl | rfl | rfl | rfl
      · simp
      · simp
      · simp
      · simp
      · simp
      · exact (HS.out s).1
      · exact (HS.out s).2
  have hne2 : Ap2 b rb sv (.slice ap cs'.length cp) w2.heap.size :=
    ⟨NE.out.brb, fun j hj => (hap j hj).1, fun j hj => (hap j hj).2.1, NE.out.sb, Nat.lt_of_lt_of_le NE.out.rbn HO2.out.size, Nat.lt_of_lt_of_le NE.out.bn HO2.out.size, fun j hj => (hap j hj).2.2, fun j hj => Nat.lt_of_lt_of_le (NE.out.sn j hj) HO2.out.size⟩
  have h3 : KS w w2 b rb sv zs k (.slice ap cs'.length cp) cs' _ := ⟨h2.rd, h2.blk, HP.out, h2.only⟩
  have H3 := Lib.hid (show KS w (w2.setCell ⟨b, 2, none⟩ (.slice ap cs'.length cp)) b rb sv zs k (.slice ap cs'.length cp) cs' #[.pointer (some ⟨rb, 0, none⟩), .slice (some ⟨g, o, none⟩) zs.length cap, .slice ap cs'.length cp, .int .i64 0, .int .i64 0, fv, mv] from h3.store hne2 2 _)
  have NE3 := Lib.hid (hne2.mono (show w2.heap.size ≤ (w2.setCell ⟨b, 2, none⟩ (.slice ap cs'.length cp)).heap.size from ((Only.refl (fun j => j = b) w2).setCell (p := ⟨b, 2, none⟩) (fun _ => rfl) _).size))
  have HCH := Lib.hid hchk
  obtain ⟨N, hN⟩ : ∃ N, cs'.length = N := ⟨_, rfl⟩
  rw [hN] at H3 NE3
  rw [hN]
  have KM := Lib.hid (show k + m ≤ zs.length by omega)
  have hm3 : m ≤ 1048576 := by omega
  clear h2 h3 hap hne2 hchk hpos hm1 hm2 hN HO2 NE
  go_wp2_with (fail)
  refine (refuse0 _).mono ?_
  rintro e w3 ⟨rfl, rfl⟩
  go_wp2_with (fail)
  clear q2 f2
  generalize w2.setCell ⟨b, 2, none⟩ (.slice ap N cp) = w3 at *
  refine (readList b rb sv zs k w3 m hm3 H3.out.rd (cell_blk H3.out.blk 0)).mono ?_
  rintro e w4 ⟨⟨ys, k4, vl, hx, rfl, hr, hrow, hby⟩ | ⟨x, hx, rfl⟩, ho⟩
  rotate_left
  · exact absurd hx (by unfold bytesP; rw [if_pos KM.out]; simp)
  have hk4 : k4 = k + m := by
    unfold bytesP at hx
    rw [if_pos KM.out] at hx
    injection hx with hx
    injection hx with _ hx
    exact hx.symm
  subst hk4
  obtain ⟨al, cl, rfl, _, _⟩ := slice_of_owns hrow
  have H4 := Lib.hid (H3.out.read NE3.out ho hr)
  have NE4 := Lib.hid (NE3.out.mono ho.size)
  clear hx hr hrow hby ho H3 NE3
  go_wp2
  go_end0
  exact ⟨_, cs', m, 0, HD.out, .inl ⟨rfl, rfl, H4.out, NE4.out, HCH.out, HF.out⟩⟩
end Go.Proofs.YtodhdiccfobcfaaGreatDoor
