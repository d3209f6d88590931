/- The program reads a method's code. No condition beyond a reader that was made. -/
import Derived.Test.YtodhdiccfobcfaaGreatDoorGClsU
namespace Go.Proofs.YtodhdiccfobcfaaGreatDoor
open Go.RowKit
set_option linter.unusedVariables false
set_option linter.unusedSimpArgs false

theorem info_trap : (Tryz.prog.info? 88).map (fun i => (i.zero, i.size, i.bytes)) = some (some (.agg #[.int .i64 0, .int .i64 0, .int .i64 0, .int .i64 0]), 4, 32) := by kernel_rfl

/-- So much of a list is read. -/
def ListTo {α : Type} (p : Pr α) (n : Nat) (zs : List Int) (k : Nat) (l : List α) (k' : Nat) : Prop := listP p n zs k = bindP (listP p (n - l.length)) (fun r => retP (l ++ r)) zs k'
section
variable {α : Type} {p : Pr α} {n : Nat} {zs : List Int} {k k' k'' : Nat} {l : List α} {a : α} {e : Int}
theorem ListTo.start : ListTo p n zs k [] k := by
  unfold ListTo bindP retP
  simp only [List.length_nil, Nat.sub_zero, List.nil_append]
  cases listP p n zs k <;> rfl
theorem ListTo.more (h : ListTo p n zs k l k') (hl : l.length < n) (hp : p zs k' = .ok (a, k'')) : ListTo p n zs k (l ++ [a]) k'' := by
  unfold ListTo at *
  rw [h]
  obtain ⟨m, hm⟩ : ∃ m, n - l.length = m + 1 := ⟨n - l.length - 1, by omega⟩
  have hm2 : n - (l ++ [a]).length = m := by simp; omega
  rw [hm, hm2]
  simp only [listP, bindP, retP, hp]
  cases listP p m zs k'' with
  | error e => rfl
  | ok x => simp
theorem ListTo.fail (h : ListTo p n zs k l k') (hl : l.length < n) (hp : p zs k' = .error e) : listP p n zs k = .error e := by
  unfold ListTo at h
  rw [h]
  obtain ⟨m, hm⟩ : ∃ m, n - l.length = m + 1 := ⟨n - l.length - 1, by omega⟩
  rw [hm]
  simp only [listP, bindP, retP, hp]
theorem ListTo.done (h : ListTo p n zs k l k') (hl : l.length = n) : listP p n zs k = .ok (l, k') := by
  unfold ListTo at h
  rw [h, hl, Nat.sub_self]
  simp only [listP, bindP, retP, List.append_nil]
end
theorem countP_val {n : Nat} {most x : Int} {zs : List Int} {k k' : Nat} (hz : Bytish zs) (h : countP n most zs k = .ok (x, k')) : 0 ≤ x ∧ x ≤ most := by
  have h1 := countP_le h
  obtain ⟨y, k1, h2, h3⟩ := bindP_inv h
  have h4 := numP_val zs k hz h2
  split at h3
  · cases h3
  · simp only [retP] at h3
    injection h3 with h3
    injection h3 with h3 _
    subst h3
    exact ⟨h4.1, h1⟩
theorem i64_short {x : Int} (h : 0 ≤ x ∧ x < 256 ^ 2) : I64 x := by
  simp only [Int.reducePow] at h
  exact ⟨by omega, by omega⟩
theorem trap_small {a b c d : Int} (h1 : 0 ≤ a ∧ a < 256 ^ 2) (h2 : 0 ≤ b ∧ b < 256 ^ 2) (h3 : 0 ≤ c ∧ c < 256 ^ 2) (h4 : 0 ≤ d ∧ d < 256 ^ 2) : TrapR ⟨a, b, c, d⟩ := ⟨i64_short h1, i64_short h2, i64_short h3, i64_short h4⟩

/-- What stands apart: the reader's blocks, a method's block, the pool's. -/
structure Aparts (b rb mb : Nat) (sv pv : Value) (n : Nat) : Prop where
  brb : b ≠ rb
  bmb : b ≠ mb
  rbmb : rb ≠ mb
  prb : ∀ j, pv.ownBlock = some j → ¬ j = rb
  pmb : ∀ j, pv.ownBlock = some j → ¬ j = mb
  smb : ∀ j, sv.ownBlock = some j → ¬ j = mb
  rbn : rb < n
  mbn : mb < n
/-- A reader that has read so far, and the method's block. -/
structure RS (w0 w : World) (b rb mb : Nat) (sv : Value) (zs : List Int) (k : Nat) (pv : Value) (cs : List ConstV) (mc : Array Value) : Prop where
  rd : Rd w rb sv zs k
  q0 : w.cell? ⟨b, 0, none⟩ = some (.pointer (some ⟨rb, 0, none⟩))
  q2 : w.cell? ⟨b, 2, none⟩ = some pv
  pool : Pool w pv cs
  blk : w.heap[mb]? = some (.cells mc 62 (0, 0))
  only : Only (fun j => j = rb ∨ j = mb) w0 w
section
variable {w0 w w' : World} {b rb mb : Nat} {sv : Value} {zs : List Int} {k k' : Nat} {pv : Value} {cs : List ConstV} {mc : Array Value} {n : Nat}
theorem RS.read (h : RS w0 w b rb mb sv zs k pv cs mc) (ne : Aparts b rb mb sv pv n) (ho : Only (fun j => j = rb) w w') (hr : Rd w' rb sv zs k') : RS w0 w' b rb mb sv zs k' pv cs mc :=
  ⟨hr, ho.cell h.q0 ne.brb, ho.cell h.q2 ne.brb, Pool.only h.pool ho ne.prb, ho.heap h.blk (fun e => ne.rbmb e.symm), h.only.trans ho (fun _ h _ => .inl h)⟩
theorem RS.idle (h : RS w0 w b rb mb sv zs k pv cs mc) (ho : Only (fun _ => False) w w') : RS w0 w' b rb mb sv zs k pv cs mc :=
  ⟨h.rd.only ho (fun h => h) (fun _ _ h => h), ho.cell h.q0 (fun h => h), ho.cell h.q2 (fun h => h), Pool.only h.pool ho (fun _ _ h => h), ho.heap h.blk (fun h => h), h.only.trans ho (fun _ h _ => h.elim)⟩
theorem RS.then (h : RS w0 w b rb mb sv zs k pv cs mc) (ho : Only (fun j => j = rb) w w') : Only (fun j => j = rb ∨ j = mb) w0 w' := h.only.trans ho (fun _ h _ => .inl h)
theorem RS.store (h : RS w0 w b rb mb sv zs k pv cs mc) (ne : Aparts b rb mb sv pv n) (i : Nat) (u : Value) : RS w0 (w.setCell ⟨mb, i, none⟩ u) b rb mb sv zs k pv cs (mc.setIfInBounds i u) := by
  have ho := (Only.refl (fun j => j = mb) w).setCell (p := ⟨mb, i, none⟩) (fun _ => rfl) u
  exact ⟨h.rd.only ho ne.rbmb ne.smb, ho.cell h.q0 ne.bmb, ho.cell h.q2 ne.bmb, Pool.only h.pool ho ne.pmb, heap_setCell_at h.blk, h.only.trans ho (fun _ h _ => .inr h)⟩
theorem Row.base {w : World} {B B' : Nat} {v : Value} {ys : List Int} (h : Row w B v ys) (hb : B' ≤ B) : Row w B' v ys := owns_base h (fun k hk => Nat.le_trans hb (h.ge k hk).1)
theorem Row.keep {N : Nat} {v : Value} {ys : List Int} {S : Nat → Prop} (h : Row w N v ys) (ho : Only S w w') (hS : ∀ j, S j → j < N) : Row w' N v ys := h.only ho (fun k hk hs => by have := (h.ge k hk).1; have := hS k hs; omega)
theorem RowG.keep {α : Type} {T : TypeId} {m N : Nat} {cells : α → List Value} {v : Value} {l : List α} {S : Nat → Prop} (h : RowG T m cells w N v l) (ho : Only S w w') (hS : ∀ j, S j → j < N) : RowG T m cells w' N v l := RowG.only h ho (fun k hk hs => by have := (RowG.ge h k hk).1; have := hS k hs; omega)
end
/-- In the loop over the traps. -/
structure LS (w0 w : World) (b rb mb : Nat) (sv : Value) (zs : List Int) (k : Nat) (pv : Value) (cs : List ConstV) (fl nm ds st lo : Int) (vc : Value) (code : List Int) (vt : Value) (ts : List TrapV) : Prop where
  rs : RS w0 w b rb mb sv zs k pv cs #[.int .i64 fl, .int .i64 nm, .int .i64 ds, .int .i64 st, .int .i64 lo, vc, vt, .slice none 0 0]
  rg : RowG 88 4 cellsT w w0.heap.size vt ts
  row : Row w w0.heap.size vc code
  ap : ∀ j, vc.ownBlock = some j → vt.ownBlock ≠ some j
section
variable {w0 w w' : World} {b rb mb : Nat} {sv : Value} {zs : List Int} {k k' : Nat} {pv : Value} {cs : List ConstV} {fl nm ds st lo : Int} {vc : Value} {code : List Int} {vt : Value} {ts : List TrapV} {n : Nat}
theorem LS.read (h : LS w0 w b rb mb sv zs k pv cs fl nm ds st lo vc code vt ts) (ne : Aparts b rb mb sv pv w0.heap.size) (ho : Only (fun j => j = rb) w w') (hr : Rd w' rb sv zs k') : LS w0 w' b rb mb sv zs k' pv cs fl nm ds st lo vc code vt ts :=
  ⟨h.rs.read ne ho hr, h.rg.keep ho (fun j hj => by subst hj; exact ne.rbn), h.row.keep ho (fun j hj => by subst hj; exact ne.rbn), h.ap⟩
theorem LS.idle (h : LS w0 w b rb mb sv zs k pv cs fl nm ds st lo vc code vt ts) (ho : Only (fun _ => False) w w') : LS w0 w' b rb mb sv zs k pv cs fl nm ds st lo vc code vt ts :=
  ⟨h.rs.idle ho, RowG.only h.rg ho (fun _ _ h => h), h.row.only ho (fun _ _ h => h), h.ap⟩
theorem LS.push {w1 : World} {v' : Value} {t : TrapV} (h : LS w0 w b rb mb sv zs k pv cs fl nm ds st lo vc code vt ts) (ne : Aparts b rb mb sv pv w0.heap.size)
    (hown : w1.ownsRow w0.heap.size 88 4 v' (ts.length + 1) (ts.flatMap cellsT ++ cellsT t)) (hg : w.grownBy w1 vt.ownBlock) (hn : ∀ k, v'.ownBlock = some k → vt.ownBlock = some k ∨ w.heap.size ≤ k)
    (hp : ∀ j, pv.ownBlock = some j → j < w0.heap.size) (hs : ∀ j, sv.ownBlock = some j → j < w0.heap.size) (hb : b < w0.heap.size) :
    LS w0 (w1.setCell ⟨mb, 6, none⟩ v') b rb mb sv zs k pv cs fl nm ds st lo vc code v' (ts ++ [t]) ∧ w1.cell? ⟨mb, 6, none⟩ = some vt ∧ w1.frozen? ⟨mb, 6, none⟩ = false := by
  have hge := RowG.ge h.rg
  have ho : Only (fun j => vt.ownBlock = some j) w w1 := (Only.refl _ w).grown hg (fun k hk _ => hk)
  have far : ∀ j, j < w0.heap.size → ¬ vt.ownBlock = some j := fun j hj e => by have := (hge j e).1; omega
  have hrs : RS w0 w1 b rb mb sv zs k pv cs #[.int .i64 fl, .int .i64 nm, .int .i64 ds, .int .i64 st, .int .i64 lo, vc, vt, .slice none 0 0] :=
    ⟨h.rs.rd.only ho (far _ ne.rbn) (fun j hj => far j (hs j hj)), ho.cell h.rs.q0 (far _ hb), ho.cell h.rs.q2 (far _ hb), Pool.only h.rs.pool ho (fun j hj => far j (hp j hj)), ho.heap h.rs.blk (far _ ne.mbn),
      h.rs.only.trans ho (fun i hi hl => absurd hl (by have := (hge i hi).1; omega))⟩
  have hrow := h.row.only ho h.ap
  have ho2 := (Only.refl (fun j => j = mb) w1).setCell (p := ⟨mb, 6, none⟩) (fun _ => rfl) v'
  refine ⟨⟨hrs.store ne 6 v', (RowG.more hown).keep ho2 (fun j hj => by subst hj; exact ne.mbn), hrow.keep ho2 (fun j hj => by subst hj; exact ne.mbn), fun j hj e => ?_⟩, ?_, frozen_blk hrs.blk 6⟩
  · rcases hn j e with e1 | e1
    · exact h.ap j hj e1
    · have := (h.row.ge j hj).2; omega
  · rw [cell_blk hrs.blk 6]; rfl
end
/-- A method that was read: what its lists hold. -/
structure MIn (w : World) (B : Nat) (m : MethodV) (vc vt vm : Value) : Prop where
  code : Row w B vc m.code
  byt : Bytish m.code
  traps : RowG 88 4 cellsT w B vt m.traps
  tr : ∀ t ∈ m.traps, TrapR t
  maps : Row w B vm m.maps
  byt2 : Bytish m.maps
  r : I64 m.stack ∧ I64 m.locals
theorem MIn.keep {w w' : World} {B : Nat} {m : MethodV} {vc vt vm : Value} {S : Nat → Prop} (h : MIn w B m vc vt vm) (ho : Only S w w') (hS : ∀ j, S j → j < B) : MIn w' B m vc vt vm :=
  ⟨h.code.keep ho hS, h.byt, h.traps.keep ho hS, h.tr, h.maps.keep ho hS, h.byt2, h.r⟩
/-- What reading a method's code leaves. -/
def CodeTo (w0 : World) (b rb mb : Nat) (sv : Value) (zs : List Int) (pv : Value) (cs : List ConstV) (fl nm ds : Int) (r : Except Int (MethodV × Nat)) (e : Ending) (w' : World) : Prop :=
  (∃ m k vc vt vm, r = .ok (m, k) ∧ e = .returned (.tuple #[]) ∧ m.flags = fl ∧ m.name = nm ∧ m.desc = ds ∧ RS w0 w' b rb mb sv zs k pv cs #[.int .i64 fl, .int .i64 nm, .int .i64 ds, .int .i64 m.stack, .int .i64 m.locals, vc, vt, vm] ∧ MIn w' w0.heap.size m vc vt vm) ∨
  (∃ x, r = .error x ∧ e = pan x ∧ Only (fun j => j = rb ∨ j = mb) w0 w')
theorem CodeTo.no {w0 : World} {b rb mb : Nat} {sv : Value} {zs : List Int} {pv : Value} {cs : List ConstV} {fl nm ds : Int} {r : Except Int (MethodV × Nat)} {w' : World} {x : Int} (h : r = .error x) (ho : Only (fun j => j = rb ∨ j = mb) w0 w') : CodeTo w0 b rb mb sv zs pv cs fl nm ds r (pan x) w' := .inr ⟨x, h, rfl, ho⟩

set_option maxHeartbeats 16000000 in
set_option maxRecDepth 100000 in
theorem readCode (b rb mb : Nat) (sv : Value) (zs : List Int) (k : Nat) (w : World) (ap : Option Addr) (np cp : Nat) (cs : List ConstV) (fl nm ds : Int) (h : RS w w b rb mb sv zs k (.slice ap np cp) cs #[.int .i64 fl, .int .i64 nm, .int .i64 ds, .int .i64 0, .int .i64 0, .slice none 0 0, .slice none 0 0, .slice none 0 0])
    (ne : Aparts b rb mb sv (.slice ap np cp) w.heap.size) (hpl : ∀ j, (Value.slice ap np cp).ownBlock = some j → j < w.heap.size) (hb : b < w.heap.size) :
    Calls Tryz.prog 93 #[.pointer (some ⟨b, 0, none⟩), .pointer (some ⟨mb, 0, none⟩)] w (CodeTo w b rb mb sv zs (.slice ap np cp) cs fl nm ds (codeP cs fl nm ds zs k)) := by
  obtain ⟨i0, hi, hz0, hz1, hz2⟩ := info_parts info_trap
  have HS := Lib.hid h.rd.lt.2
  have HZ := Lib.hid h.rd.byt
  have NE := Lib.hid ne
  have HPL := Lib.hid hpl
  have HBL := Lib.hid hb
  have H0 := Lib.hid h
  clear h ne hpl hb
  go_enter Tryz.func93, Tryz.ntmps93
  go_wp2_with (fail)
  refine (readShort b rb sv zs k w H0.out.rd H0.out.q0).mono ?_
  rintro e w1 ⟨⟨st, k1, hx, rfl, hr⟩ | ⟨x, hx, rfl⟩, ho⟩
  rotate_left
  · exact ⟨rfl, CodeTo.no (bindP_error hx) (H0.out.then ho)⟩
  have C1 := Lib.hid (show codeP cs fl nm ds zs k = _ from bindP_ok hx)
  have VST := Lib.hid (i64_short (numP_val zs _ HZ.out hx))
  have H1 := Lib.hid (H0.out.read NE.out ho hr)
  clear hx hr ho
  go_wp2_with (fail)
  refine (readShort b rb sv zs k1 w1 H1.out.rd H1.out.q0).mono ?_
  rintro e w2 ⟨⟨lo, k2, hx, rfl, hr⟩ | ⟨x, hx, rfl⟩, ho⟩
  rotate_left
  · exact ⟨rfl, CodeTo.no (C1.out.trans (bindP_error hx)) (H1.out.then ho)⟩
  have C2 := Lib.hid (C1.out.trans (bindP_ok hx))
  have VLO := Lib.hid (i64_short (numP_val zs _ HZ.out hx))
  have h2 := H1.out.read NE.out ho hr
  have q3 := cell_blk h2.blk 3
  have q4 := cell_blk h2.blk 4
  have f3 := frozen_blk h2.blk 3
  have f4 := frozen_blk h2.blk 4
  simp at q3 q4
  have H3 := Lib.hid (show RS w ((w2.setCell ⟨mb, 3, none⟩ (.int .i64 st)).setCell ⟨mb, 4, none⟩ (.int .i64 lo)) b rb mb sv zs k2 (.slice ap np cp) cs #[.int .i64 fl, .int .i64 nm, .int .i64 ds, .int .i64 st, .int .i64 lo, .slice none 0 0, .slice none 0 0, .slice none 0 0] from (h2.store NE.out 3 (.int .i64 st)).store NE.out 4 (.int .i64 lo))
  clear hx hr ho h2 C1 H1
  go_wp2_with (fail)
  clear q3 q4 f3 f4
  generalize (w2.setCell ⟨mb, 3, none⟩ (.int .i64 st)).setCell ⟨mb, 4, none⟩ (.int .i64 lo) = w3 at *
  refine (readCount b rb sv zs k2 w3 4 (.inr rfl) 4096 (by decide) H3.out.rd H3.out.q0).mono ?_
  rintro e w4 ⟨⟨n, k3, hx, rfl, hr⟩ | ⟨x, hx, rfl⟩, ho⟩
  rotate_left
  · exact ⟨rfl, CodeTo.no (C2.out.trans (bindP_error hx)) (H3.out.then ho)⟩
  have C3 := Lib.hid (C2.out.trans (bindP_ok hx))
  obtain ⟨n0, n1⟩ := countP_val HZ.out hx
  obtain ⟨nn, rfl⟩ : ∃ nn : Nat, n = nn := ⟨n.toNat, by omega⟩
  have H4 := Lib.hid (H3.out.read NE.out ho hr)
  clear hx hr ho C2 H3
  go_wp2_with (fail)
  refine (readList b rb sv zs k3 w4 nn (by omega) H4.out.rd H4.out.q0).mono ?_
  rintro e w5 ⟨⟨code, k4, vc, hx, rfl, hr, hrow, hby⟩ | ⟨x, hx, rfl⟩, ho⟩
  rotate_left
  · exact ⟨rfl, CodeTo.no (C3.out.trans (bindP_error hx)) (H4.out.then ho)⟩
  have C4 := Lib.hid (C3.out.trans (bindP_ok hx))
  obtain ⟨ac, cc, rfl, _, _⟩ := slice_of_owns hrow
  have hrow5 := hrow.base H4.out.only.size
  have h5 := H4.out.read NE.out ho hr
  have q5 := cell_blk h5.blk 5
  have f5 := frozen_blk h5.blk 5
  simp at q5
  have H6 := Lib.hid (show RS w (w5.setCell ⟨mb, 5, none⟩ (.slice ac code.length cc)) b rb mb sv zs k4 (.slice ap np cp) cs #[.int .i64 fl, .int .i64 nm, .int .i64 ds, .int .i64 st, .int .i64 lo, .slice ac code.length cc, .slice none 0 0, .slice none 0 0] from h5.store NE.out 5 _)
  have HROW := Lib.hid (hrow5.keep ((Only.refl (fun j => j = mb) w5).setCell (p := ⟨mb, 5, none⟩) (fun _ => rfl) (.slice ac code.length cc)) (fun j hj => by subst hj; exact NE.out.mbn))
  have HBY := Lib.hid hby
  obtain ⟨cl, hcl⟩ : ∃ cl, code.length = cl := ⟨_, rfl⟩
  have HCL := Lib.hid hcl
  clear hx hr ho C3 H4 h5 hrow hrow5 hby n0 n1
  rw [hcl] at H6 HROW
  rw [hcl]
  clear hcl
  go_wp2_with (fail)
  clear q5 f5
  generalize w5.setCell ⟨mb, 5, none⟩ (.slice ac cl cc) = w6 at *
  refine (readMembers b rb sv zs k4 w6 H6.out.rd H6.out.q0).mono ?_
  rintro e w7 ⟨⟨m, k5, hx, rfl, hr⟩ | ⟨x, hx, rfl⟩, ho⟩
  rotate_left
  · exact ⟨rfl, CodeTo.no (C4.out.trans (bindP_error hx)) (H6.out.then ho)⟩
  have HC := Lib.hid (C4.out.trans (bindP_ok hx))
  obtain ⟨m0, m1⟩ := countP_val HZ.out hx
  obtain ⟨mm, rfl⟩ : ∃ mm : Nat, m = mm := ⟨m.toNat, by omega⟩
  have hL7 : LS w w7 b rb mb sv zs k5 (.slice ap np cp) cs fl nm ds st lo (.slice ac cl cc) code (.slice none 0 0) [] :=
    ⟨H6.out.read NE.out ho hr, RowG.nil _ _, HROW.out.keep ho (fun j hj => by subst hj; exact NE.out.rbn), fun j _ e => by cases e⟩
  have HL7 := Lib.hid hL7
  clear hx hr ho C4 H6 hL7 HROW m0
  go_wp2
  go_loopw [24] (fun i wr => ∃ (ts : List TrapV) (kk : Nat) (vt : Value), i = .int .i64 ts.length ∧ ts.length ≤ mm ∧ ListTo trapP mm zs k5 ts kk ∧ LS w wr b rb mb sv zs kk (.slice ap np cp) cs fl nm ds st lo (.slice ac cl cc) code vt ts ∧ ∀ t ∈ ts, TrapR t) (fun i _ => mm - (intOf i).toNat)
  case atStart => exact ⟨[], k5, _, rfl, Nat.zero_le _, .start, HL7.out, fun t ht => by cases ht⟩
  case round =>
    obtain ⟨ts, kk, vt, rfl, hle, hto, hl, htr⟩ := hrel
    obtain ⟨at_, ct, rfl, _, _⟩ := slice_of_owns hl.rg
    have HTO := Lib.hid hto
    have HTR := Lib.hid htr
    have HL := Lib.hid hl
    clear hto htr hl HL7
    by_cases hlt : ts.length < mm
    · have hltz : (ts.length : Int) < (mm : Int) := by omega
      have HL0 := Lib.hid (HL.out.idle (Only.refl (fun _ => False) wr).drew)
      have q6 := cell_blk HL0.out.rs.blk 6
      simp at q6
      clear HL
      go_wp2_with (fail)
      refine wp_region_held_drew (S := fun _ => True) (by kernel_rfl) trivial (fun hHeld => ?_)
      refine wpAnyH_take (i := 0) (v := ?_) (by simp only [List.getElem?_toArray, List.getElem?_cons_succ, List.getElem?_cons_zero]; rfl) (by kernel_rfl) (by kernel_rfl) (by kernel_rfl) (by exact fun _ _ _ h => h) (Or.inl ⟨by rfl, ?_⟩) (by assumption) ?_
      rotate_left 1
      · (intro w hSw; (try dsimp only at hSw); go_simp; try with_reducible rfl)
      try simp only [Act.put, List.setIfInBounds_toArray, List.set_cons_zero, List.set_cons_succ]
      refine wpAnyH_take (i := 1) (v := ?_) (by simp only [List.getElem?_toArray, List.getElem?_cons_succ, List.getElem?_cons_zero]; rfl) (by kernel_rfl) (by kernel_rfl) (by kernel_rfl) (by exact fun _ _ _ h => h) (Or.inl ⟨by rfl, ?_⟩) (by assumption) ?_
      rotate_left 1
      · (intro w hSw; (try dsimp only at hSw); go_simp; try with_reducible rfl)
      try simp only [Act.put, List.setIfInBounds_toArray, List.set_cons_zero, List.set_cons_succ]
      refine wpAnyH_take (i := 2) (v := ?_) (by simp only [List.getElem?_toArray, List.getElem?_cons_succ, List.getElem?_cons_zero]; rfl) (by kernel_rfl) (by kernel_rfl) (by kernel_rfl) (by exact fun _ _ _ h => h) (Or.inl ⟨by rfl, ?_⟩) (by assumption) ?_
      rotate_left 1
      · (intro w hSw; (try dsimp only at hSw); go_simp; try with_reducible rfl)
      try simp only [Act.put, List.setIfInBounds_toArray, List.set_cons_zero, List.set_cons_succ]
      refine wpAnyH_take (i := 3) (v := ?_) (by simp only [List.getElem?_toArray, List.getElem?_cons_succ, List.getElem?_cons_zero]; rfl) (by kernel_rfl) (by kernel_rfl) (by kernel_rfl) (by exact fun _ _ _ h => h) (Or.inl ⟨by rfl, ?_⟩) (by assumption) ?_
      rotate_left 1
      · (intro w hSw; (try dsimp only at hSw); go_simp; try with_reducible rfl)
      try simp only [Act.put, List.setIfInBounds_toArray, List.set_cons_zero, List.set_cons_succ]
      refine wpAnyH_take (i := 5) (v := ?_) (by simp only [List.getElem?_toArray, List.getElem?_cons_succ, List.getElem?_cons_zero]; rfl) (by kernel_rfl) (by kernel_rfl) (by kernel_rfl) (by exact fun _ _ _ h => h) (Or.inl ⟨by rfl, ?_⟩) (by assumption) ?_
      rotate_left 1
      · (intro w hSw; (try dsimp only at hSw); go_simp; try with_reducible rfl)
      try simp only [Act.put, List.setIfInBounds_toArray, List.set_cons_zero, List.set_cons_succ]
      refine wpAnyH_take (i := 7) (v := ?_) (by simp only [List.getElem?_toArray, List.getElem?_cons_succ, List.getElem?_cons_zero]; rfl) (by kernel_rfl) (by kernel_rfl) (by kernel_rfl) (by exact fun _ _ _ h => h) (Or.inl ⟨by rfl, ?_⟩) (by assumption) ?_
      rotate_left 1
      · (intro w hSw; (try dsimp only at hSw); go_simp; try with_reducible rfl)
      try simp only [Act.put, List.setIfInBounds_toArray, List.set_cons_zero, List.set_cons_succ]
      refine wpAnyH_take (i := 9) (v := ?_) (by simp only [List.getElem?_toArray, List.getElem?_cons_succ, List.getElem?_cons_zero]; rfl) (by kernel_rfl) (by kernel_rfl) (by kernel_rfl) (by exact fun _ _ _ h => h) (Or.inl ⟨by rfl, ?_⟩) (by assumption) ?_
      rotate_left 1
      · (intro w hSw; (try dsimp only at hSw); go_simp; try with_reducible rfl)
      try simp only [Act.put, List.setIfInBounds_toArray, List.set_cons_zero, List.set_cons_succ]
      refine wpAnyH_take (i := 11) (v := ?_) (by simp only [List.getElem?_toArray, List.getElem?_cons_succ, List.getElem?_cons_zero]; rfl) (by kernel_rfl) (by kernel_rfl) (by kernel_rfl) (by exact fun _ _ _ h => h) (Or.inl ⟨by rfl, ?_⟩) (by assumption) ?_
      rotate_left 1
      · (intro w hSw; (try dsimp only at hSw); go_simp; try with_reducible rfl)
      try simp only [Act.put, List.setIfInBounds_toArray, List.set_cons_zero, List.set_cons_succ]
      refine wpAnyH_ready (rs := [4, 6]) (by kernel_rfl) (by simp) ?_
      refine AllReadyH.cons (by simp only [List.getElem?_toArray, List.getElem?_cons_succ, List.getElem?_cons_zero]; rfl) (fun K hK => ?_) ?_
      · go_simp
        refine hK.out _ _ trivial (fun hHeld2 => ?_)
        clear hK K
        try simp only [Act.put, List.setIfInBounds_toArray, List.set_cons_zero, List.set_cons_succ]
        clear hHeld
        have hHeld := hHeld2
        clear hHeld2
        refine wpAnyH_ready (rs := [6]) (by kernel_rfl) (by simp) ?_
        refine AllReadyH.cons (by simp only [List.getElem?_toArray, List.getElem?_cons_succ, List.getElem?_cons_zero]; rfl) (fun K hK => ?_) AllReadyH.nil
        go_simp
        refine (readShort b rb sv zs _ _ HL0.out.rs.rd HL0.out.rs.q0).mono ?_
        rintro e w1 ⟨⟨a, kk1, hx, rfl, hr⟩ | ⟨x, hx, rfl⟩, ho⟩
        rotate_left
        · exact ⟨rfl, CodeTo.no (HC.out.trans (bindP_error (HTO.out.fail hlt ((bindP_error hx))))) (HL0.out.rs.then ho)⟩
        have T1 := Lib.hid (show trapP zs kk = _ from (bindP_ok hx))
        have V1 := Lib.hid (numP_val zs _ HZ.out hx)
        have HL1 := Lib.hid (HL0.out.read NE.out ho hr)
        have q6 := cell_blk HL1.out.rs.blk 6
        simp at q6
        clear hx hr ho
        go_wp2_with fail
        refine hK.out _ _ trivial (fun hHeld2 => ?_)
        clear hK K
        try simp only [Act.put, List.setIfInBounds_toArray, List.set_cons_zero, List.set_cons_succ]
        clear hHeld
        have hHeld := hHeld2
        clear hHeld2
        refine wpAnyH_ready (rs := [8]) (by kernel_rfl) (by simp) ?_
        refine AllReadyH.cons (by simp only [List.getElem?_toArray, List.getElem?_cons_succ, List.getElem?_cons_zero]; rfl) (fun K hK => ?_) AllReadyH.nil
        go_simp
        refine (readShort b rb sv zs _ _ HL1.out.rs.rd HL1.out.rs.q0).mono ?_
        rintro e w2 ⟨⟨b_, kk2, hx, rfl, hr⟩ | ⟨x, hx, rfl⟩, ho⟩
        rotate_left
        · exact ⟨rfl, CodeTo.no (HC.out.trans (bindP_error (HTO.out.fail hlt (T1.out.trans (bindP_error hx))))) (HL1.out.rs.then ho)⟩
        have T2 := Lib.hid (T1.out.trans (bindP_ok hx))
        have V2 := Lib.hid (numP_val zs _ HZ.out hx)
        have HL2 := Lib.hid (HL1.out.read NE.out ho hr)
        have q6 := cell_blk HL2.out.rs.blk 6
        simp at q6
        clear hx hr ho
        go_wp2_with fail
        refine hK.out _ _ trivial (fun hHeld2 => ?_)
        clear hK K
        try simp only [Act.put, List.setIfInBounds_toArray, List.set_cons_zero, List.set_cons_succ]
        clear hHeld
        have hHeld := hHeld2
        clear hHeld2
        refine wpAnyH_ready (rs := [10]) (by kernel_rfl) (by simp) ?_
        refine AllReadyH.cons (by simp only [List.getElem?_toArray, List.getElem?_cons_succ, List.getElem?_cons_zero]; rfl) (fun K hK => ?_) AllReadyH.nil
        go_simp
        refine (readShort b rb sv zs _ _ HL2.out.rs.rd HL2.out.rs.q0).mono ?_
        rintro e w3 ⟨⟨c_, kk3, hx, rfl, hr⟩ | ⟨x, hx, rfl⟩, ho⟩
        rotate_left
        · exact ⟨rfl, CodeTo.no (HC.out.trans (bindP_error (HTO.out.fail hlt (T2.out.trans (bindP_error hx))))) (HL2.out.rs.then ho)⟩
        have T3 := Lib.hid (T2.out.trans (bindP_ok hx))
        have V3 := Lib.hid (numP_val zs _ HZ.out hx)
        have HL3 := Lib.hid (HL2.out.read NE.out ho hr)
        have q6 := cell_blk HL3.out.rs.blk 6
        simp at q6
        clear hx hr ho
        go_wp2_with fail
        refine hK.out _ _ trivial (fun hHeld2 => ?_)
        clear hK K
        try simp only [Act.put, List.setIfInBounds_toArray, List.set_cons_zero, List.set_cons_succ]
        clear hHeld
        have hHeld := hHeld2
        clear hHeld2
        refine wpAnyH_ready (rs := [12]) (by kernel_rfl) (by simp) ?_
        refine AllReadyH.cons (by simp only [List.getElem?_toArray, List.getElem?_cons_succ, List.getElem?_cons_zero]; rfl) (fun K hK => ?_) AllReadyH.nil
        go_simp
        refine (readShort b rb sv zs _ _ HL3.out.rs.rd HL3.out.rs.q0).mono ?_
        rintro e w4 ⟨⟨d, kk4, hx, rfl, hr⟩ | ⟨x, hx, rfl⟩, ho⟩
        rotate_left
        · exact ⟨rfl, CodeTo.no (HC.out.trans (bindP_error (HTO.out.fail hlt (T3.out.trans (bindP_error hx))))) (HL3.out.rs.then ho)⟩
        have T4 := Lib.hid (T3.out.trans (bindP_ok hx))
        have V4 := Lib.hid (numP_val zs _ HZ.out hx)
        have HL4 := Lib.hid (HL3.out.read NE.out ho hr)
        have q6 := cell_blk HL4.out.rs.blk 6
        simp at q6
        clear hx hr ho
        go_wp2_with fail
        refine hK.out _ _ trivial (fun hHeld2 => ?_)
        clear hK K
        try simp only [Act.put, List.setIfInBounds_toArray, List.set_cons_zero, List.set_cons_succ]
        clear hHeld
        have hHeld := hHeld2
        clear hHeld2
        refine wpAnyH_take (i := 13) (v := ?_) (by simp only [List.getElem?_toArray, List.getElem?_cons_succ, List.getElem?_cons_zero]; rfl) (by kernel_rfl) (by kernel_rfl) (by kernel_rfl) (by exact fun _ _ _ h => h) (Or.inl ⟨by rfl, ?_⟩) (by assumption) ?_
        rotate_left 1
        · (intro w hSw; (try dsimp only at hSw); go_simp; try with_reducible rfl)
        try simp only [Act.put, List.setIfInBounds_toArray, List.set_cons_zero, List.set_cons_succ]
        refine wpAnyH_ready (rs := [14]) (by kernel_rfl) (by simp) ?_
        refine AllReadyH.cons (by simp only [List.getElem?_toArray, List.getElem?_cons_succ, List.getElem?_cons_zero]; rfl) (fun K hK => ?_) AllReadyH.nil
        go_simp
        have HLa := Lib.hid (HL4.out.idle ((Only.refl (fun _ => False) w4).alloc (.cells #[.int .i64 a, .int .i64 b_, .int .i64 c_, .int .i64 d] 88)))
        have q6 := cell_blk HLa.out.rs.blk 6
        simp at q6
        refine hK.out _ _ trivial (fun hHeld2 => ?_)
        clear hK K
        try simp only [Act.put, List.setIfInBounds_toArray, List.set_cons_zero, List.set_cons_succ]
        clear hHeld
        have hHeld := hHeld2
        clear hHeld2
        refine wpAnyH_ready (rs := [15]) (by kernel_rfl) (by simp) ?_
        refine AllReadyH.cons (by simp only [List.getElem?_toArray, List.getElem?_cons_succ, List.getElem?_cons_zero]; rfl) (fun K hK => ?_) AllReadyH.nil
        (refine step_append_src rfl (.tmp 30) (.tmp 40) 60 rfl 88 i0 (.agg #[.int .i64 0, .int .i64 0, .int .i64 0, .int .i64 0]) 4 32 Tryz.underlying60 hi hz0 hz1 hz2 rfl (by decide) w.heap.size (.slice at_ ts.length ct) ts.length (ts.flatMap cellsT) rfl (by exact HLa.out.rg) (by exact HLa.out.rs.only.size) (.slice (some ⟨w4.heap.size, 0, none⟩) 1 1) 1 (cellsT ⟨a, b_, c_, d⟩) rfl (by exact Src.struct (w := w4) (cellsT ⟨a, b_, c_, d⟩) rfl (by intro u hu; simp [cellsT] at hu; rcases hu with rfl | rfl | rfl | rfl <;> rfl) rfl) (by unfold maxLen; omega) (by omega) ?_; intro v' wz hown hgrow hnew; obtain ⟨av', cv', rfl, _, _⟩ := slice_of_owns hown)
        have hp := HLa.out.push NE.out hown hgrow hnew HPL.out HS.out HBL.out
        obtain ⟨hp, q6, f6⟩ := hp
        have HP := Lib.hid hp
        clear hown hgrow hnew hp
        refine hK.out _ _ trivial (fun hHeld2 => ?_)
        clear hK K
        try simp only [Act.put, List.setIfInBounds_toArray, List.set_cons_zero, List.set_cons_succ]
        clear hHeld
        have hHeld := hHeld2
        clear hHeld2
        refine wpAnyH_take (i := 16) (v := ?_) (by simp only [List.getElem?_toArray, List.getElem?_cons_succ, List.getElem?_cons_zero]; rfl) (by kernel_rfl) (by kernel_rfl) (by kernel_rfl) (by exact fun _ _ _ h => h) (Or.inl ⟨by rfl, ?_⟩) (by assumption) ?_
        rotate_left 1
        · (intro w hSw; (try dsimp only at hSw); go_simp; try with_reducible rfl)
        try simp only [Act.put, List.setIfInBounds_toArray, List.set_cons_zero, List.set_cons_succ]
        refine wpAnyH_take (i := 17) (v := ?_) (by simp only [List.getElem?_toArray, List.getElem?_cons_succ, List.getElem?_cons_zero]; rfl) (by kernel_rfl) (by kernel_rfl) (by kernel_rfl) (by exact fun _ _ _ h => h) (Or.inl ⟨by rfl, ?_⟩) (by assumption) ?_
        rotate_left 1
        · (intro w hSw; (try dsimp only at hSw); go_simp; try with_reducible rfl)
        try simp only [Act.put, List.setIfInBounds_toArray, List.set_cons_zero, List.set_cons_succ]
        refine wpAnyH_ready (rs := [18]) (by kernel_rfl) (by simp) ?_
        refine AllReadyH.cons (by simp only [List.getElem?_toArray, List.getElem?_cons_succ, List.getElem?_cons_zero]; rfl) (fun K hK => ?_) AllReadyH.nil
        go_simp
        refine hK.out _ _ trivial (fun hHeld2 => ?_)
        clear hK K
        try simp only [Act.put, List.setIfInBounds_toArray, List.set_cons_zero, List.set_cons_succ]
        clear hHeld
        have hHeld := hHeld2
        clear hHeld2
        refine wpAnyH_done (by kernel_rfl) ?_ _
        clear hHeld
        go_wp2
        go_roundw
        case rel =>
          exact ⟨ts ++ [⟨a, b_, c_, d⟩], kk4, _, by simp, by simp; omega, HTO.out.more hlt (show trapP zs kk = .ok (⟨a, b_, c_, d⟩, kk4) from T4.out), HP.out, fun t ht => by
            rcases List.mem_append.1 ht with ht | ht
            · exact HTR.out t ht
            · simp only [List.mem_cons, List.mem_nil_iff, or_false] at ht
              subst ht
              exact trap_small V1.out V2.out V3.out V4.out⟩
        case measure => simp [intOf]; omega
      refine AllReadyH.cons (by simp only [List.getElem?_toArray, List.getElem?_cons_succ, List.getElem?_cons_zero]; rfl) (fun K hK => ?_) AllReadyH.nil
      go_simp
      refine (readShort b rb sv zs _ _ HL0.out.rs.rd HL0.out.rs.q0).mono ?_
      rintro e w1 ⟨⟨a, kk1, hx, rfl, hr⟩ | ⟨x, hx, rfl⟩, ho⟩
      rotate_left
      · exact ⟨rfl, CodeTo.no (HC.out.trans (bindP_error (HTO.out.fail hlt ((bindP_error hx))))) (HL0.out.rs.then ho)⟩
      have T1 := Lib.hid (show trapP zs kk = _ from (bindP_ok hx))
      have V1 := Lib.hid (numP_val zs _ HZ.out hx)
      have HL1 := Lib.hid (HL0.out.read NE.out ho hr)
      have q6 := cell_blk HL1.out.rs.blk 6
      simp at q6
      clear hx hr ho
      go_wp2_with fail
      refine hK.out _ _ trivial (fun hHeld2 => ?_)
      clear hK K
      try simp only [Act.put, List.setIfInBounds_toArray, List.set_cons_zero, List.set_cons_succ]
      clear hHeld
      have hHeld := hHeld2
      clear hHeld2
      refine wpAnyH_ready (rs := [4, 8]) (by kernel_rfl) (by simp) ?_
      refine AllReadyH.cons (by simp only [List.getElem?_toArray, List.getElem?_cons_succ, List.getElem?_cons_zero]; rfl) (fun K hK => ?_) ?_
      · go_simp
        refine hK.out _ _ trivial (fun hHeld2 => ?_)
        clear hK K
        try simp only [Act.put, List.setIfInBounds_toArray, List.set_cons_zero, List.set_cons_succ]
        clear hHeld
        have hHeld := hHeld2
        clear hHeld2
        refine wpAnyH_ready (rs := [8]) (by kernel_rfl) (by simp) ?_
        refine AllReadyH.cons (by simp only [List.getElem?_toArray, List.getElem?_cons_succ, List.getElem?_cons_zero]; rfl) (fun K hK => ?_) AllReadyH.nil
        go_simp
        refine (readShort b rb sv zs _ _ HL1.out.rs.rd HL1.out.rs.q0).mono ?_
        rintro e w2 ⟨⟨b_, kk2, hx, rfl, hr⟩ | ⟨x, hx, rfl⟩, ho⟩
        rotate_left
        · exact ⟨rfl, CodeTo.no (HC.out.trans (bindP_error (HTO.out.fail hlt (T1.out.trans (bindP_error hx))))) (HL1.out.rs.then ho)⟩
        have T2 := Lib.hid (T1.out.trans (bindP_ok hx))
        have V2 := Lib.hid (numP_val zs _ HZ.out hx)
        have HL2 := Lib.hid (HL1.out.read NE.out ho hr)
        have q6 := cell_blk HL2.out.rs.blk 6
        simp at q6
        clear hx hr ho
        go_wp2_with fail
        refine hK.out _ _ trivial (fun hHeld2 => ?_)
        clear hK K
        try simp only [Act.put, List.setIfInBounds_toArray, List.set_cons_zero, List.set_cons_succ]
        clear hHeld
        have hHeld := hHeld2
        clear hHeld2
        refine wpAnyH_ready (rs := [10]) (by kernel_rfl) (by simp) ?_
        refine AllReadyH.cons (by simp only [List.getElem?_toArray, List.getElem?_cons_succ, List.getElem?_cons_zero]; rfl) (fun K hK => ?_) AllReadyH.nil
        go_simp
        refine (readShort b rb sv zs _ _ HL2.out.rs.rd HL2.out.rs.q0).mono ?_
        rintro e w3 ⟨⟨c_, kk3, hx, rfl, hr⟩ | ⟨x, hx, rfl⟩, ho⟩
        rotate_left
        · exact ⟨rfl, CodeTo.no (HC.out.trans (bindP_error (HTO.out.fail hlt (T2.out.trans (bindP_error hx))))) (HL2.out.rs.then ho)⟩
        have T3 := Lib.hid (T2.out.trans (bindP_ok hx))
        have V3 := Lib.hid (numP_val zs _ HZ.out hx)
        have HL3 := Lib.hid (HL2.out.read NE.out ho hr)
        have q6 := cell_blk HL3.out.rs.blk 6
        simp at q6
        clear hx hr ho
        go_wp2_with fail
        refine hK.out _ _ trivial (fun hHeld2 => ?_)
        clear hK K
        try simp only [Act.put, List.setIfInBounds_toArray, List.set_cons_zero, List.set_cons_succ]
        clear hHeld
        have hHeld := hHeld2
        clear hHeld2
        refine wpAnyH_ready (rs := [12]) (by kernel_rfl) (by simp) ?_
        refine AllReadyH.cons (by simp only [List.getElem?_toArray, List.getElem?_cons_succ, List.getElem?_cons_zero]; rfl) (fun K hK => ?_) AllReadyH.nil
        go_simp
        refine (readShort b rb sv zs _ _ HL3.out.rs.rd HL3.out.rs.q0).mono ?_
        rintro e w4 ⟨⟨d, kk4, hx, rfl, hr⟩ | ⟨x, hx, rfl⟩, ho⟩
        rotate_left
        · exact ⟨rfl, CodeTo.no (HC.out.trans (bindP_error (HTO.out.fail hlt (T3.out.trans (bindP_error hx))))) (HL3.out.rs.then ho)⟩
        have T4 := Lib.hid (T3.out.trans (bindP_ok hx))
        have V4 := Lib.hid (numP_val zs _ HZ.out hx)
        have HL4 := Lib.hid (HL3.out.read NE.out ho hr)
        have q6 := cell_blk HL4.out.rs.blk 6
        simp at q6
        clear hx hr ho
        go_wp2_with fail
        refine hK.out _ _ trivial (fun hHeld2 => ?_)
        clear hK K
        try simp only [Act.put, List.setIfInBounds_toArray, List.set_cons_zero, List.set_cons_succ]
        clear hHeld
        have hHeld := hHeld2
        clear hHeld2
        refine wpAnyH_take (i := 13) (v := ?_) (by simp only [List.getElem?_toArray, List.getElem?_cons_succ, List.getElem?_cons_zero]; rfl) (by kernel_rfl) (by kernel_rfl) (by kernel_rfl) (by exact fun _ _ _ h => h) (Or.inl ⟨by rfl, ?_⟩) (by assumption) ?_
        rotate_left 1
        · (intro w hSw; (try dsimp only at hSw); go_simp; try with_reducible rfl)
        try simp only [Act.put, List.setIfInBounds_toArray, List.set_cons_zero, List.set_cons_succ]
        refine wpAnyH_ready (rs := [14]) (by kernel_rfl) (by simp) ?_
        refine AllReadyH.cons (by simp only [List.getElem?_toArray, List.getElem?_cons_succ, List.getElem?_cons_zero]; rfl) (fun K hK => ?_) AllReadyH.nil
        go_simp
        have HLa := Lib.hid (HL4.out.idle ((Only.refl (fun _ => False) w4).alloc (.cells #[.int .i64 a, .int .i64 b_, .int .i64 c_, .int .i64 d] 88)))
        have q6 := cell_blk HLa.out.rs.blk 6
        simp at q6
        refine hK.out _ _ trivial (fun hHeld2 => ?_)
        clear hK K
        try simp only [Act.put, List.setIfInBounds_toArray, List.set_cons_zero, List.set_cons_succ]
        clear hHeld
        have hHeld := hHeld2
        clear hHeld2
        refine wpAnyH_ready (rs := [15]) (by kernel_rfl) (by simp) ?_
        refine AllReadyH.cons (by simp only [List.getElem?_toArray, List.getElem?_cons_succ, List.getElem?_cons_zero]; rfl) (fun K hK => ?_) AllReadyH.nil
        (refine step_append_src rfl (.tmp 30) (.tmp 40) 60 rfl 88 i0 (.agg #[.int .i64 0, .int .i64 0, .int .i64 0, .int .i64 0]) 4 32 Tryz.underlying60 hi hz0 hz1 hz2 rfl (by decide) w.heap.size (.slice at_ ts.length ct) ts.length (ts.flatMap cellsT) rfl (by exact HLa.out.rg) (by exact HLa.out.rs.only.size) (.slice (some ⟨w4.heap.size, 0, none⟩) 1 1) 1 (cellsT ⟨a, b_, c_, d⟩) rfl (by exact Src.struct (w := w4) (cellsT ⟨a, b_, c_, d⟩) rfl (by intro u hu; simp [cellsT] at hu; rcases hu with rfl | rfl | rfl | rfl <;> rfl) rfl) (by unfold maxLen; omega) (by omega) ?_; intro v' wz hown hgrow hnew; obtain ⟨av', cv', rfl, _, _⟩ := slice_of_owns hown)
        have hp := HLa.out.push NE.out hown hgrow hnew HPL.out HS.out HBL.out
        obtain ⟨hp, q6, f6⟩ := hp
        have HP := Lib.hid hp
        clear hown hgrow hnew hp
        refine hK.out _ _ trivial (fun hHeld2 => ?_)
        clear hK K
        try simp only [Act.put, List.setIfInBounds_toArray, List.set_cons_zero, List.set_cons_succ]
        clear hHeld
        have hHeld := hHeld2
        clear hHeld2
        refine wpAnyH_take (i := 16) (v := ?_) (by simp only [List.getElem?_toArray, List.getElem?_cons_succ, List.getElem?_cons_zero]; rfl) (by kernel_rfl) (by kernel_rfl) (by kernel_rfl) (by exact fun _ _ _ h => h) (Or.inl ⟨by rfl, ?_⟩) (by assumption) ?_
        rotate_left 1
        · (intro w hSw; (try dsimp only at hSw); go_simp; try with_reducible rfl)
        try simp only [Act.put, List.setIfInBounds_toArray, List.set_cons_zero, List.set_cons_succ]
        refine wpAnyH_take (i := 17) (v := ?_) (by simp only [List.getElem?_toArray, List.getElem?_cons_succ, List.getElem?_cons_zero]; rfl) (by kernel_rfl) (by kernel_rfl) (by kernel_rfl) (by exact fun _ _ _ h => h) (Or.inl ⟨by rfl, ?_⟩) (by assumption) ?_
        rotate_left 1
        · (intro w hSw; (try dsimp only at hSw); go_simp; try with_reducible rfl)
        try simp only [Act.put, List.setIfInBounds_toArray, List.set_cons_zero, List.set_cons_succ]
        refine wpAnyH_ready (rs := [18]) (by kernel_rfl) (by simp) ?_
        refine AllReadyH.cons (by simp only [List.getElem?_toArray, List.getElem?_cons_succ, List.getElem?_cons_zero]; rfl) (fun K hK => ?_) AllReadyH.nil
        go_simp
        refine hK.out _ _ trivial (fun hHeld2 => ?_)
        clear hK K
        try simp only [Act.put, List.setIfInBounds_toArray, List.set_cons_zero, List.set_cons_succ]
        clear hHeld
        have hHeld := hHeld2
        clear hHeld2
        refine wpAnyH_done (by kernel_rfl) ?_ _
        clear hHeld
        go_wp2
        go_roundw
        case rel =>
          exact ⟨ts ++ [⟨a, b_, c_, d⟩], kk4, _, by simp, by simp; omega, HTO.out.more hlt (show trapP zs kk = .ok (⟨a, b_, c_, d⟩, kk4) from T4.out), HP.out, fun t ht => by
            rcases List.mem_append.1 ht with ht | ht
            · exact HTR.out t ht
            · simp only [List.mem_cons, List.mem_nil_iff, or_false] at ht
              subst ht
              exact trap_small V1.out V2.out V3.out V4.out⟩
        case measure => simp [intOf]; omega
      refine AllReadyH.cons (by simp only [List.getElem?_toArray, List.getElem?_cons_succ, List.getElem?_cons_zero]; rfl) (fun K hK => ?_) AllReadyH.nil
      go_simp
      refine (readShort b rb sv zs _ _ HL1.out.rs.rd HL1.out.rs.q0).mono ?_
      rintro e w2 ⟨⟨b_, kk2, hx, rfl, hr⟩ | ⟨x, hx, rfl⟩, ho⟩
      rotate_left
      · exact ⟨rfl, CodeTo.no (HC.out.trans (bindP_error (HTO.out.fail hlt (T1.out.trans (bindP_error hx))))) (HL1.out.rs.then ho)⟩
      have T2 := Lib.hid (T1.out.trans (bindP_ok hx))
      have V2 := Lib.hid (numP_val zs _ HZ.out hx)
      have HL2 := Lib.hid (HL1.out.read NE.out ho hr)
      have q6 := cell_blk HL2.out.rs.blk 6
      simp at q6
      clear hx hr ho
      go_wp2_with fail
      refine hK.out _ _ trivial (fun hHeld2 => ?_)
      clear hK K
      try simp only [Act.put, List.setIfInBounds_toArray, List.set_cons_zero, List.set_cons_succ]
      clear hHeld
      have hHeld := hHeld2
      clear hHeld2
      refine wpAnyH_ready (rs := [4, 10]) (by kernel_rfl) (by simp) ?_
      refine AllReadyH.cons (by simp only [List.getElem?_toArray, List.getElem?_cons_succ, List.getElem?_cons_zero]; rfl) (fun K hK => ?_) ?_
      · go_simp
        refine hK.out _ _ trivial (fun hHeld2 => ?_)
        clear hK K
        try simp only [Act.put, List.setIfInBounds_toArray, List.set_cons_zero, List.set_cons_succ]
        clear hHeld
        have hHeld := hHeld2
        clear hHeld2
        refine wpAnyH_ready (rs := [10]) (by kernel_rfl) (by simp) ?_
        refine AllReadyH.cons (by simp only [List.getElem?_toArray, List.getElem?_cons_succ, List.getElem?_cons_zero]; rfl) (fun K hK => ?_) AllReadyH.nil
        go_simp
        refine (readShort b rb sv zs _ _ HL2.out.rs.rd HL2.out.rs.q0).mono ?_
        rintro e w3 ⟨⟨c_, kk3, hx, rfl, hr⟩ | ⟨x, hx, rfl⟩, ho⟩
        rotate_left
        · exact ⟨rfl, CodeTo.no (HC.out.trans (bindP_error (HTO.out.fail hlt (T2.out.trans (bindP_error hx))))) (HL2.out.rs.then ho)⟩
        have T3 := Lib.hid (T2.out.trans (bindP_ok hx))
        have V3 := Lib.hid (numP_val zs _ HZ.out hx)
        have HL3 := Lib.hid (HL2.out.read NE.out ho hr)
        have q6 := cell_blk HL3.out.rs.blk 6
        simp at q6
        clear hx hr ho
        go_wp2_with fail
        refine hK.out _ _ trivial (fun hHeld2 => ?_)
        clear hK K
        try simp only [Act.put, List.setIfInBounds_toArray, List.set_cons_zero, List.set_cons_succ]
        clear hHeld
        have hHeld := hHeld2
        clear hHeld2
        refine wpAnyH_ready (rs := [12]) (by kernel_rfl) (by simp) ?_
        refine AllReadyH.cons (by simp only [List.getElem?_toArray, List.getElem?_cons_succ, List.getElem?_cons_zero]; rfl) (fun K hK => ?_) AllReadyH.nil
        go_simp
        refine (readShort b rb sv zs _ _ HL3.out.rs.rd HL3.out.rs.q0).mono ?_
        rintro e w4 ⟨⟨d, kk4, hx, rfl, hr⟩ | ⟨x, hx, rfl⟩, ho⟩
        rotate_left
        · exact ⟨rfl, CodeTo.no (HC.out.trans (bindP_error (HTO.out.fail hlt (T3.out.trans (bindP_error hx))))) (HL3.out.rs.then ho)⟩
        have T4 := Lib.hid (T3.out.trans (bindP_ok hx))
        have V4 := Lib.hid (numP_val zs _ HZ.out hx)
        have HL4 := Lib.hid (HL3.out.read NE.out ho hr)
        have q6 := cell_blk HL4.out.rs.blk 6
        simp at q6
        clear hx hr ho
        go_wp2_with fail
        refine hK.out _ _ trivial (fun hHeld2 => ?_)
        clear hK K
        try simp only [Act.put, List.setIfInBounds_toArray, List.set_cons_zero, List.set_cons_succ]
        clear hHeld
        have hHeld := hHeld2
        clear hHeld2
        refine wpAnyH_take (i := 13) (v := ?_) (by simp only [List.getElem?_toArray, List.getElem?_cons_succ, List.getElem?_cons_zero]; rfl) (by kernel_rfl) (by kernel_rfl) (by kernel_rfl) (by exact fun _ _ _ h => h) (Or.inl ⟨by rfl, ?_⟩) (by assumption) ?_
        rotate_left 1
        · (intro w hSw; (try dsimp only at hSw); go_simp; try with_reducible rfl)
        try simp only [Act.put, List.setIfInBounds_toArray, List.set_cons_zero, List.set_cons_succ]
        refine wpAnyH_ready (rs := [14]) (by kernel_rfl) (by simp) ?_
        refine AllReadyH.cons (by simp only [List.getElem?_toArray, List.getElem?_cons_succ, List.getElem?_cons_zero]; rfl) (fun K hK => ?_) AllReadyH.nil
        go_simp
        have HLa := Lib.hid (HL4.out.idle ((Only.refl (fun _ => False) w4).alloc (.cells #[.int .i64 a, .int .i64 b_, .int .i64 c_, .int .i64 d] 88)))
        have q6 := cell_blk HLa.out.rs.blk 6
        simp at q6
        refine hK.out _ _ trivial (fun hHeld2 => ?_)
        clear hK K
        try simp only [Act.put, List.setIfInBounds_toArray, List.set_cons_zero, List.set_cons_succ]
        clear hHeld
        have hHeld := hHeld2
        clear hHeld2
        refine wpAnyH_ready (rs := [15]) (by kernel_rfl) (by simp) ?_
        refine AllReadyH.cons (by simp only [List.getElem?_toArray, List.getElem?_cons_succ, List.getElem?_cons_zero]; rfl) (fun K hK => ?_) AllReadyH.nil
        (refine step_append_src rfl (.tmp 30) (.tmp 40) 60 rfl 88 i0 (.agg #[.int .i64 0, .int .i64 0, .int .i64 0, .int .i64 0]) 4 32 Tryz.underlying60 hi hz0 hz1 hz2 rfl (by decide) w.heap.size (.slice at_ ts.length ct) ts.length (ts.flatMap cellsT) rfl (by exact HLa.out.rg) (by exact HLa.out.rs.only.size) (.slice (some ⟨w4.heap.size, 0, none⟩) 1 1) 1 (cellsT ⟨a, b_, c_, d⟩) rfl (by exact Src.struct (w := w4) (cellsT ⟨a, b_, c_, d⟩) rfl (by intro u hu; simp [cellsT] at hu; rcases hu with rfl | rfl | rfl | rfl <;> rfl) rfl) (by unfold maxLen; omega) (by omega) ?_; intro v' wz hown hgrow hnew; obtain ⟨av', cv', rfl, _, _⟩ := slice_of_owns hown)
        have hp := HLa.out.push NE.out hown hgrow hnew HPL.out HS.out HBL.out
        obtain ⟨hp, q6, f6⟩ := hp
        have HP := Lib.hid hp
        clear hown hgrow hnew hp
        refine hK.out _ _ trivial (fun hHeld2 => ?_)
        clear hK K
        try simp only [Act.put, List.setIfInBounds_toArray, List.set_cons_zero, List.set_cons_succ]
        clear hHeld
        have hHeld := hHeld2
        clear hHeld2
        refine wpAnyH_take (i := 16) (v := ?_) (by simp only [List.getElem?_toArray, List.getElem?_cons_succ, List.getElem?_cons_zero]; rfl) (by kernel_rfl) (by kernel_rfl) (by kernel_rfl) (by exact fun _ _ _ h => h) (Or.inl ⟨by rfl, ?_⟩) (by assumption) ?_
        rotate_left 1
        · (intro w hSw; (try dsimp only at hSw); go_simp; try with_reducible rfl)
        try simp only [Act.put, List.setIfInBounds_toArray, List.set_cons_zero, List.set_cons_succ]
        refine wpAnyH_take (i := 17) (v := ?_) (by simp only [List.getElem?_toArray, List.getElem?_cons_succ, List.getElem?_cons_zero]; rfl) (by kernel_rfl) (by kernel_rfl) (by kernel_rfl) (by exact fun _ _ _ h => h) (Or.inl ⟨by rfl, ?_⟩) (by assumption) ?_
        rotate_left 1
        · (intro w hSw; (try dsimp only at hSw); go_simp; try with_reducible rfl)
        try simp only [Act.put, List.setIfInBounds_toArray, List.set_cons_zero, List.set_cons_succ]
        refine wpAnyH_ready (rs := [18]) (by kernel_rfl) (by simp) ?_
        refine AllReadyH.cons (by simp only [List.getElem?_toArray, List.getElem?_cons_succ, List.getElem?_cons_zero]; rfl) (fun K hK => ?_) AllReadyH.nil
        go_simp
        refine hK.out _ _ trivial (fun hHeld2 => ?_)
        clear hK K
        try simp only [Act.put, List.setIfInBounds_toArray, List.set_cons_zero, List.set_cons_succ]
        clear hHeld
        have hHeld := hHeld2
        clear hHeld2
        refine wpAnyH_done (by kernel_rfl) ?_ _
        clear hHeld
        go_wp2
        go_roundw
        case rel =>
          exact ⟨ts ++ [⟨a, b_, c_, d⟩], kk4, _, by simp, by simp; omega, HTO.out.more hlt (show trapP zs kk = .ok (⟨a, b_, c_, d⟩, kk4) from T4.out), HP.out, fun t ht => by
            rcases List.mem_append.1 ht with ht | ht
            · exact HTR.out t ht
            · simp only [List.mem_cons, List.mem_nil_iff, or_false] at ht
              subst ht
              exact trap_small V1.out V2.out V3.out V4.out⟩
        case measure => simp [intOf]; omega
      refine AllReadyH.cons (by simp only [List.getElem?_toArray, List.getElem?_cons_succ, List.getElem?_cons_zero]; rfl) (fun K hK => ?_) AllReadyH.nil
      go_simp
      refine (readShort b rb sv zs _ _ HL2.out.rs.rd HL2.out.rs.q0).mono ?_
      rintro e w3 ⟨⟨c_, kk3, hx, rfl, hr⟩ | ⟨x, hx, rfl⟩, ho⟩
      rotate_left
      · exact ⟨rfl, CodeTo.no (HC.out.trans (bindP_error (HTO.out.fail hlt (T2.out.trans (bindP_error hx))))) (HL2.out.rs.then ho)⟩
      have T3 := Lib.hid (T2.out.trans (bindP_ok hx))
      have V3 := Lib.hid (numP_val zs _ HZ.out hx)
      have HL3 := Lib.hid (HL2.out.read NE.out ho hr)
      have q6 := cell_blk HL3.out.rs.blk 6
      simp at q6
      clear hx hr ho
      go_wp2_with fail
      refine hK.out _ _ trivial (fun hHeld2 => ?_)
      clear hK K
      try simp only [Act.put, List.setIfInBounds_toArray, List.set_cons_zero, List.set_cons_succ]
      clear hHeld
      have hHeld := hHeld2
      clear hHeld2
      refine wpAnyH_ready (rs := [4, 12]) (by kernel_rfl) (by simp) ?_
      refine AllReadyH.cons (by simp only [List.getElem?_toArray, List.getElem?_cons_succ, List.getElem?_cons_zero]; rfl) (fun K hK => ?_) ?_
      · go_simp
        refine hK.out _ _ trivial (fun hHeld2 => ?_)
        clear hK K
        try simp only [Act.put, List.setIfInBounds_toArray, List.set_cons_zero, List.set_cons_succ]
        clear hHeld
        have hHeld := hHeld2
        clear hHeld2
        refine wpAnyH_ready (rs := [12]) (by kernel_rfl) (by simp) ?_
        refine AllReadyH.cons (by simp only [List.getElem?_toArray, List.getElem?_cons_succ, List.getElem?_cons_zero]; rfl) (fun K hK => ?_) AllReadyH.nil
        go_simp
        refine (readShort b rb sv zs _ _ HL3.out.rs.rd HL3.out.rs.q0).mono ?_
        rintro e w4 ⟨⟨d, kk4, hx, rfl, hr⟩ | ⟨x, hx, rfl⟩, ho⟩
        rotate_left
        · exact ⟨rfl, CodeTo.no (HC.out.trans (bindP_error (HTO.out.fail hlt (T3.out.trans (bindP_error hx))))) (HL3.out.rs.then ho)⟩
        have T4 := Lib.hid (T3.out.trans (bindP_ok hx))
        have V4 := Lib.hid (numP_val zs _ HZ.out hx)
        have HL4 := Lib.hid (HL3.out.read NE.out ho hr)
        have q6 := cell_blk HL4.out.rs.blk 6
        simp at q6
        clear hx hr ho
        go_wp2_with fail
        refine hK.out _ _ trivial (fun hHeld2 => ?_)
        clear hK K
        try simp only [Act.put, List.setIfInBounds_toArray, List.set_cons_zero, List.set_cons_succ]
        clear hHeld
        have hHeld := hHeld2
        clear hHeld2
        refine wpAnyH_take (i := 13) (v := ?_) (by simp only [List.getElem?_toArray, List.getElem?_cons_succ, List.getElem?_cons_zero]; rfl) (by kernel_rfl) (by kernel_rfl) (by kernel_rfl) (by exact fun _ _ _ h => h) (Or.inl ⟨by rfl, ?_⟩) (by assumption) ?_
        rotate_left 1
        · (intro w hSw; (try dsimp only at hSw); go_simp; try with_reducible rfl)
        try simp only [Act.put, List.setIfInBounds_toArray, List.set_cons_zero, List.set_cons_succ]
        refine wpAnyH_ready (rs := [14]) (by kernel_rfl) (by simp) ?_
        refine AllReadyH.cons (by simp only [List.getElem?_toArray, List.getElem?_cons_succ, List.getElem?_cons_zero]; rfl) (fun K hK => ?_) AllReadyH.nil
        go_simp
        have HLa := Lib.hid (HL4.out.idle ((Only.refl (fun _ => False) w4).alloc (.cells #[.int .i64 a, .int .i64 b_, .int .i64 c_, .int .i64 d] 88)))
        have q6 := cell_blk HLa.out.rs.blk 6
        simp at q6
        refine hK.out _ _ trivial (fun hHeld2 => ?_)
        clear hK K
        try simp only [Act.put, List.setIfInBounds_toArray, List.set_cons_zero, List.set_cons_succ]
        clear hHeld
        have hHeld := hHeld2
        clear hHeld2
        refine wpAnyH_ready (rs := [15]) (by kernel_rfl) (by simp) ?_
        refine AllReadyH.cons (by simp only [List.getElem?_toArray, List.getElem?_cons_succ, List.getElem?_cons_zero]; rfl) (fun K hK => ?_) AllReadyH.nil
        (refine step_append_src rfl (.tmp 30) (.tmp 40) 60 rfl 88 i0 (.agg #[.int .i64 0, .int .i64 0, .int .i64 0, .int .i64 0]) 4 32 Tryz.underlying60 hi hz0 hz1 hz2 rfl (by decide) w.heap.size (.slice at_ ts.length ct) ts.length (ts.flatMap cellsT) rfl (by exact HLa.out.rg) (by exact HLa.out.rs.only.size) (.slice (some ⟨w4.heap.size, 0, none⟩) 1 1) 1 (cellsT ⟨a, b_, c_, d⟩) rfl (by exact Src.struct (w := w4) (cellsT ⟨a, b_, c_, d⟩) rfl (by intro u hu; simp [cellsT] at hu; rcases hu with rfl | rfl | rfl | rfl <;> rfl) rfl) (by unfold maxLen; omega) (by omega) ?_; intro v' wz hown hgrow hnew; obtain ⟨av', cv', rfl, _, _⟩ := slice_of_owns hown)
        have hp := HLa.out.push NE.out hown hgrow hnew HPL.out HS.out HBL.out
        obtain ⟨hp, q6, f6⟩ := hp
        have HP := Lib.hid hp
        clear hown hgrow hnew hp
        refine hK.out _ _ trivial (fun hHeld2 => ?_)
        clear hK K
        try simp only [Act.put, List.setIfInBounds_toArray, List.set_cons_zero, List.set_cons_succ]
        clear hHeld
        have hHeld := hHeld2
        clear hHeld2
        refine wpAnyH_take (i := 16) (v := ?_) (by simp only [List.getElem?_toArray, List.getElem?_cons_succ, List.getElem?_cons_zero]; rfl) (by kernel_rfl) (by kernel_rfl) (by kernel_rfl) (by exact fun _ _ _ h => h) (Or.inl ⟨by rfl, ?_⟩) (by assumption) ?_
        rotate_left 1
        · (intro w hSw; (try dsimp only at hSw); go_simp; try with_reducible rfl)
        try simp only [Act.put, List.setIfInBounds_toArray, List.set_cons_zero, List.set_cons_succ]
        refine wpAnyH_take (i := 17) (v := ?_) (by simp only [List.getElem?_toArray, List.getElem?_cons_succ, List.getElem?_cons_zero]; rfl) (by kernel_rfl) (by kernel_rfl) (by kernel_rfl) (by exact fun _ _ _ h => h) (Or.inl ⟨by rfl, ?_⟩) (by assumption) ?_
        rotate_left 1
        · (intro w hSw; (try dsimp only at hSw); go_simp; try with_reducible rfl)
        try simp only [Act.put, List.setIfInBounds_toArray, List.set_cons_zero, List.set_cons_succ]
        refine wpAnyH_ready (rs := [18]) (by kernel_rfl) (by simp) ?_
        refine AllReadyH.cons (by simp only [List.getElem?_toArray, List.getElem?_cons_succ, List.getElem?_cons_zero]; rfl) (fun K hK => ?_) AllReadyH.nil
        go_simp
        refine hK.out _ _ trivial (fun hHeld2 => ?_)
        clear hK K
        try simp only [Act.put, List.setIfInBounds_toArray, List.set_cons_zero, List.set_cons_succ]
        clear hHeld
        have hHeld := hHeld2
        clear hHeld2
        refine wpAnyH_done (by kernel_rfl) ?_ _
        clear hHeld
        go_wp2
        go_roundw
        case rel =>
          exact ⟨ts ++ [⟨a, b_, c_, d⟩], kk4, _, by simp, by simp; omega, HTO.out.more hlt (show trapP zs kk = .ok (⟨a, b_, c_, d⟩, kk4) from T4.out), HP.out, fun t ht => by
            rcases List.mem_append.1 ht with ht | ht
            · exact HTR.out t ht
            · simp only [List.mem_cons, List.mem_nil_iff, or_false] at ht
              subst ht
              exact trap_small V1.out V2.out V3.out V4.out⟩
        case measure => simp [intOf]; omega
      refine AllReadyH.cons (by simp only [List.getElem?_toArray, List.getElem?_cons_succ, List.getElem?_cons_zero]; rfl) (fun K hK => ?_) AllReadyH.nil
      go_simp
      refine (readShort b rb sv zs _ _ HL3.out.rs.rd HL3.out.rs.q0).mono ?_
      rintro e w4 ⟨⟨d, kk4, hx, rfl, hr⟩ | ⟨x, hx, rfl⟩, ho⟩
      rotate_left
      · exact ⟨rfl, CodeTo.no (HC.out.trans (bindP_error (HTO.out.fail hlt (T3.out.trans (bindP_error hx))))) (HL3.out.rs.then ho)⟩
      have T4 := Lib.hid (T3.out.trans (bindP_ok hx))
      have V4 := Lib.hid (numP_val zs _ HZ.out hx)
      have HL4 := Lib.hid (HL3.out.read NE.out ho hr)
      have q6 := cell_blk HL4.out.rs.blk 6
      simp at q6
      clear hx hr ho
      go_wp2_with fail
      refine hK.out _ _ trivial (fun hHeld2 => ?_)
      clear hK K
      try simp only [Act.put, List.setIfInBounds_toArray, List.set_cons_zero, List.set_cons_succ]
      clear hHeld
      have hHeld := hHeld2
      clear hHeld2
      refine wpAnyH_take (i := 13) (v := ?_) (by simp only [List.getElem?_toArray, List.getElem?_cons_succ, List.getElem?_cons_zero]; rfl) (by kernel_rfl) (by kernel_rfl) (by kernel_rfl) (by exact fun _ _ _ h => h) (Or.inl ⟨by rfl, ?_⟩) (by assumption) ?_
      rotate_left 1
      · (intro w hSw; (try dsimp only at hSw); go_simp; try with_reducible rfl)
      try simp only [Act.put, List.setIfInBounds_toArray, List.set_cons_zero, List.set_cons_succ]
      refine wpAnyH_ready (rs := [4, 14]) (by kernel_rfl) (by simp) ?_
      refine AllReadyH.cons (by simp only [List.getElem?_toArray, List.getElem?_cons_succ, List.getElem?_cons_zero]; rfl) (fun K hK => ?_) ?_
      · go_simp
        refine hK.out _ _ trivial (fun hHeld2 => ?_)
        clear hK K
        try simp only [Act.put, List.setIfInBounds_toArray, List.set_cons_zero, List.set_cons_succ]
        clear hHeld
        have hHeld := hHeld2
        clear hHeld2
        refine wpAnyH_ready (rs := [14]) (by kernel_rfl) (by simp) ?_
        refine AllReadyH.cons (by simp only [List.getElem?_toArray, List.getElem?_cons_succ, List.getElem?_cons_zero]; rfl) (fun K hK => ?_) AllReadyH.nil
        go_simp
        have HLa := Lib.hid (HL4.out.idle ((Only.refl (fun _ => False) w4).alloc (.cells #[.int .i64 a, .int .i64 b_, .int .i64 c_, .int .i64 d] 88)))
        have q6 := cell_blk HLa.out.rs.blk 6
        simp at q6
        refine hK.out _ _ trivial (fun hHeld2 => ?_)
        clear hK K
        try simp only [Act.put, List.setIfInBounds_toArray, List.set_cons_zero, List.set_cons_succ]
        clear hHeld
        have hHeld := hHeld2
        clear hHeld2
        refine wpAnyH_ready (rs := [15]) (by kernel_rfl) (by simp) ?_
        refine AllReadyH.cons (by simp only [List.getElem?_toArray, List.getElem?_cons_succ, List.getElem?_cons_zero]; rfl) (fun K hK => ?_) AllReadyH.nil
        (refine step_append_src rfl (.tmp 30) (.tmp 40) 60 rfl 88 i0 (.agg #[.int .i64 0, .int .i64 0, .int .i64 0, .int .i64 0]) 4 32 Tryz.underlying60 hi hz0 hz1 hz2 rfl (by decide) w.heap.size (.slice at_ ts.length ct) ts.length (ts.flatMap cellsT) rfl (by exact HLa.out.rg) (by exact HLa.out.rs.only.size) (.slice (some ⟨w4.heap.size, 0, none⟩) 1 1) 1 (cellsT ⟨a, b_, c_, d⟩) rfl (by exact Src.struct (w := w4) (cellsT ⟨a, b_, c_, d⟩) rfl (by intro u hu; simp [cellsT] at hu; rcases hu with rfl | rfl | rfl | rfl <;> rfl) rfl) (by unfold maxLen; omega) (by omega) ?_; intro v' wz hown hgrow hnew; obtain ⟨av', cv', rfl, _, _⟩ := slice_of_owns hown)
        have hp := HLa.out.push NE.out hown hgrow hnew HPL.out HS.out HBL.out
        obtain ⟨hp, q6, f6⟩ := hp
        have HP := Lib.hid hp
        clear hown hgrow hnew hp
        refine hK.out _ _ trivial (fun hHeld2 => ?_)
        clear hK K
        try simp only [Act.put, List.setIfInBounds_toArray, List.set_cons_zero, List.set_cons_succ]
        clear hHeld
        have hHeld := hHeld2
        clear hHeld2
        refine wpAnyH_take (i := 16) (v := ?_) (by simp only [List.getElem?_toArray, List.getElem?_cons_succ, List.getElem?_cons_zero]; rfl) (by kernel_rfl) (by kernel_rfl) (by kernel_rfl) (by exact fun _ _ _ h => h) (Or.inl ⟨by rfl, ?_⟩) (by assumption) ?_
        rotate_left 1
        · (intro w hSw; (try dsimp only at hSw); go_simp; try with_reducible rfl)
        try simp only [Act.put, List.setIfInBounds_toArray, List.set_cons_zero, List.set_cons_succ]
        refine wpAnyH_take (i := 17) (v := ?_) (by simp only [List.getElem?_toArray, List.getElem?_cons_succ, List.getElem?_cons_zero]; rfl) (by kernel_rfl) (by kernel_rfl) (by kernel_rfl) (by exact fun _ _ _ h => h) (Or.inl ⟨by rfl, ?_⟩) (by assumption) ?_
        rotate_left 1
        · (intro w hSw; (try dsimp only at hSw); go_simp; try with_reducible rfl)
        try simp only [Act.put, List.setIfInBounds_toArray, List.set_cons_zero, List.set_cons_succ]
        refine wpAnyH_ready (rs := [18]) (by kernel_rfl) (by simp) ?_
        refine AllReadyH.cons (by simp only [List.getElem?_toArray, List.getElem?_cons_succ, List.getElem?_cons_zero]; rfl) (fun K hK => ?_) AllReadyH.nil
        go_simp
        refine hK.out _ _ trivial (fun hHeld2 => ?_)
        clear hK K
        try simp only [Act.put, List.setIfInBounds_toArray, List.set_cons_zero, List.set_cons_succ]
        clear hHeld
        have hHeld := hHeld2
        clear hHeld2
        refine wpAnyH_done (by kernel_rfl) ?_ _
        clear hHeld
        go_wp2
        go_roundw
        case rel =>
          exact ⟨ts ++ [⟨a, b_, c_, d⟩], kk4, _, by simp, by simp; omega, HTO.out.more hlt (show trapP zs kk = .ok (⟨a, b_, c_, d⟩, kk4) from T4.out), HP.out, fun t ht => by
            rcases List.mem_append.1 ht with ht | ht
            · exact HTR.out t ht
            · simp only [List.mem_cons, List.mem_nil_iff, or_false] at ht
              subst ht
              exact trap_small V1.out V2.out V3.out V4.out⟩
        case measure => simp [intOf]; omega
      refine AllReadyH.cons (by simp only [List.getElem?_toArray, List.getElem?_cons_succ, List.getElem?_cons_zero]; rfl) (fun K hK => ?_) AllReadyH.nil
      go_simp
      have HLa := Lib.hid (HL4.out.idle ((Only.refl (fun _ => False) w4).alloc (.cells #[.int .i64 a, .int .i64 b_, .int .i64 c_, .int .i64 d] 88)))
      have q6 := cell_blk HLa.out.rs.blk 6
      simp at q6
      refine hK.out _ _ trivial (fun hHeld2 => ?_)
      clear hK K
      try simp only [Act.put, List.setIfInBounds_toArray, List.set_cons_zero, List.set_cons_succ]
      clear hHeld
      have hHeld := hHeld2
      clear hHeld2
      refine wpAnyH_ready (rs := [4]) (by kernel_rfl) (by simp) ?_
      refine AllReadyH.cons (by simp only [List.getElem?_toArray, List.getElem?_cons_succ, List.getElem?_cons_zero]; rfl) (fun K hK => ?_) AllReadyH.nil
      go_simp
      refine hK.out _ _ trivial (fun hHeld2 => ?_)
      clear hK K
      try simp only [Act.put, List.setIfInBounds_toArray, List.set_cons_zero, List.set_cons_succ]
      clear hHeld
      have hHeld := hHeld2
      clear hHeld2
      refine wpAnyH_ready (rs := [15]) (by kernel_rfl) (by simp) ?_
      refine AllReadyH.cons (by simp only [List.getElem?_toArray, List.getElem?_cons_succ, List.getElem?_cons_zero]; rfl) (fun K hK => ?_) AllReadyH.nil
      (refine step_append_src rfl (.tmp 30) (.tmp 40) 60 rfl 88 i0 (.agg #[.int .i64 0, .int .i64 0, .int .i64 0, .int .i64 0]) 4 32 Tryz.underlying60 hi hz0 hz1 hz2 rfl (by decide) w.heap.size (.slice at_ ts.length ct) ts.length (ts.flatMap cellsT) rfl (by exact HLa.out.rg) (by exact HLa.out.rs.only.size) (.slice (some ⟨w4.heap.size, 0, none⟩) 1 1) 1 (cellsT ⟨a, b_, c_, d⟩) rfl (by exact Src.struct (w := w4) (cellsT ⟨a, b_, c_, d⟩) rfl (by intro u hu; simp [cellsT] at hu; rcases hu with rfl | rfl | rfl | rfl <;> rfl) rfl) (by unfold maxLen; omega) (by omega) ?_; intro v' wz hown hgrow hnew; obtain ⟨av', cv', rfl, _, _⟩ := slice_of_owns hown)
      have hp := HLa.out.push NE.out hown hgrow hnew HPL.out HS.out HBL.out
      obtain ⟨hp, q6, f6⟩ := hp
      have HP := Lib.hid hp
      clear hown hgrow hnew hp
      refine hK.out _ _ trivial (fun hHeld2 => ?_)
      clear hK K
      try simp only [Act.put, List.setIfInBounds_toArray, List.set_cons_zero, List.set_cons_succ]
      clear hHeld
      have hHeld := hHeld2
      clear hHeld2
      refine wpAnyH_take (i := 16) (v := ?_) (by simp only [List.getElem?_toArray, List.getElem?_cons_succ, List.getElem?_cons_zero]; rfl) (by kernel_rfl) (by kernel_rfl) (by kernel_rfl) (by exact fun _ _ _ h => h) (Or.inl ⟨by rfl, ?_⟩) (by assumption) ?_
      rotate_left 1
      · (intro w hSw; (try dsimp only at hSw); go_simp; try with_reducible rfl)
      try simp only [Act.put, List.setIfInBounds_toArray, List.set_cons_zero, List.set_cons_succ]
      refine wpAnyH_take (i := 17) (v := ?_) (by simp only [List.getElem?_toArray, List.getElem?_cons_succ, List.getElem?_cons_zero]; rfl) (by kernel_rfl) (by kernel_rfl) (by kernel_rfl) (by exact fun _ _ _ h => h) (Or.inl ⟨by rfl, ?_⟩) (by assumption) ?_
      rotate_left 1
      · (intro w hSw; (try dsimp only at hSw); go_simp; try with_reducible rfl)
      try simp only [Act.put, List.setIfInBounds_toArray, List.set_cons_zero, List.set_cons_succ]
      refine wpAnyH_ready (rs := [18]) (by kernel_rfl) (by simp) ?_
      refine AllReadyH.cons (by simp only [List.getElem?_toArray, List.getElem?_cons_succ, List.getElem?_cons_zero]; rfl) (fun K hK => ?_) AllReadyH.nil
      go_simp
      refine hK.out _ _ trivial (fun hHeld2 => ?_)
      clear hK K
      try simp only [Act.put, List.setIfInBounds_toArray, List.set_cons_zero, List.set_cons_succ]
      clear hHeld
      have hHeld := hHeld2
      clear hHeld2
      refine wpAnyH_done (by kernel_rfl) ?_ _
      clear hHeld
      go_wp2
      go_roundw
      case rel =>
        exact ⟨ts ++ [⟨a, b_, c_, d⟩], kk4, _, by simp, by simp; omega, HTO.out.more hlt (show trapP zs kk = .ok (⟨a, b_, c_, d⟩, kk4) from T4.out), HP.out, fun t ht => by
          rcases List.mem_append.1 ht with ht | ht
          · exact HTR.out t ht
          · simp only [List.mem_cons, List.mem_nil_iff, or_false] at ht
            subst ht
            exact trap_small V1.out V2.out V3.out V4.out⟩
      case measure => simp [intOf]; omega
    · have hnz : (mm : Int) ≤ (ts.length : Int) := by omega
      have C6 := Lib.hid (HC.out.trans (bindP_ok (HTO.out.done (by omega))))
      clear HC HTO hi hz0 hz1 hz2
      go_wp2_with (fail)
      refine (readShort b rb sv zs kk wr HL.out.rs.rd HL.out.rs.q0).mono ?_
      rintro e w8 ⟨⟨t, k6, hx, rfl, hr⟩ | ⟨x, hx, rfl⟩, ho⟩
      rotate_left
      · exact ⟨rfl, CodeTo.no (C6.out.trans (bindP_error (bindP_error hx))) (HL.out.rs.then ho)⟩
      have M := Lib.hid (show mapsP cs zs kk = _ from bindP_ok hx)
      have H8 := Lib.hid (HL.out.read NE.out ho hr)
      clear hx hr ho HL
      by_cases ht0 : t = 0
      · subst ht0
        have E := Lib.hid (show mapsP cs zs kk = .ok ([], k6) from M.out.trans (by rw [if_pos rfl]; rfl))
        clear M
        go_wp2
        go_end0
        exact .inl ⟨⟨fl, nm, ds, st, lo, code, ts, []⟩, k6, _, _, _, C6.out.trans (bindP_ok E.out), rfl, rfl, rfl, rfl, H8.out.rs, H8.out.row, HBY.out, H8.out.rg, HTR.out, World.ownsRow_nil _ _ _ _, Bytish.nil, VST.out, VLO.out⟩
      have t0 : (t == 0) = false := by simpa using ht0
      by_cases ht1 : t = 1
      rotate_left
      · have t1 : (t == 1) = false := by simpa using ht1
        have E := Lib.hid (show mapsP cs zs kk = .error 50 from M.out.trans (by rw [if_neg ht0, if_neg ht1]; rfl))
        clear M ht0 ht1
        go_wp2_with (fail)
        refine (refuseN 50 (by decide) _).mono ?_
        rintro e w9 ⟨rfl, rfl⟩
        exact ⟨rfl, CodeTo.no (C6.out.trans (bindP_error E.out)) H8.out.rs.only⟩
      subst ht1
      have M2 := Lib.hid (M.out.trans (by rw [if_neg (by decide), if_pos rfl]))
      clear M ht0
      go_wp2_with (fail)
      refine (readText5 b rb sv zs k6 w8 ap np cp cs mapsT (by decide) H8.out.rs.rd H8.out.rs.q0 H8.out.rs.q2 H8.out.rs.pool NE.out.brb NE.out.prb).mono ?_
      rintro e w9 ⟨⟨_, k7, hx, rfl, hr⟩ | ⟨x, hx, rfl⟩, ho⟩
      rotate_left
      · exact ⟨rfl, CodeTo.no (C6.out.trans (bindP_error (M2.out.trans (bindP_error hx)))) (H8.out.rs.then ho)⟩
      have M3 := Lib.hid (M2.out.trans (bindP_ok hx))
      have H9 := Lib.hid (H8.out.read NE.out ho hr)
      clear hx hr ho M2 H8
      go_wp2_with (fail)
      refine (readCount b rb sv zs k7 w9 4 (.inr rfl) 4096 (by decide) H9.out.rs.rd H9.out.rs.q0).mono ?_
      rintro e w10 ⟨⟨n, k8, hx, rfl, hr⟩ | ⟨x, hx, rfl⟩, ho⟩
      rotate_left
      · exact ⟨rfl, CodeTo.no (C6.out.trans (bindP_error (M3.out.trans (bindP_error hx)))) (H9.out.rs.then ho)⟩
      have M4 := Lib.hid (M3.out.trans (bindP_ok hx))
      obtain ⟨n0, n1⟩ := countP_val HZ.out hx
      obtain ⟨nn2, rfl⟩ : ∃ nn2 : Nat, n = nn2 := ⟨n.toNat, by omega⟩
      have H10 := Lib.hid (H9.out.read NE.out ho hr)
      clear hx hr ho M3 H9 n0
      by_cases hn : nn2 = 0
      · subst hn
        have E := Lib.hid (show mapsP cs zs kk = .error 50 from M4.out.trans rfl)
        clear M4
        go_wp2_with (fail)
        refine (mustF _).mono ?_
        rintro e w11 ⟨rfl, rfl⟩
        exact ⟨rfl, CodeTo.no (C6.out.trans (bindP_error E.out)) H10.out.rs.only⟩
      have hnz2 : (0 : Int) < (nn2 : Int) := by omega
      have M5 := Lib.hid (M4.out.trans (bindP_ok (show mustP (decide ((0 : Int) < (nn2 : Int))) zs k8 = .ok ((), k8) from by unfold mustP; rw [if_pos (by simp; omega)])))
      have hnb : decide (0 < nn2) = true := by simp; omega
      clear M4 hn
      go_wp2_with (fail)
      clear hnb
      refine (mustT _).mono ?_
      rintro e w11 ⟨rfl, rfl⟩
      go_wp2_with (fail)
      refine (readList b rb sv zs k8 w10 nn2 (by omega) H10.out.rs.rd H10.out.rs.q0).mono ?_
      rintro e w12 ⟨⟨maps, k9, vm, hx, rfl, hr, hrow, hby⟩ | ⟨x, hx, rfl⟩, ho⟩
      rotate_left
      · exact ⟨rfl, CodeTo.no (C6.out.trans (bindP_error (M5.out.trans hx))) (H10.out.rs.then ho)⟩
      have M6 := Lib.hid (M5.out.trans hx)
      have H12 := H10.out.read NE.out ho hr
      obtain ⟨am, cm, rfl, _, _⟩ := slice_of_owns hrow
      have hrow12 := hrow.base H10.out.rs.only.size
      have q7 := cell_blk H12.rs.blk 7
      have f7 := frozen_blk H12.rs.blk 7
      simp at q7
      have ho3 := (Only.refl (fun j => j = mb) w12).setCell (p := ⟨mb, 7, none⟩) (fun _ => rfl) (.slice am maps.length cm)
      have hS : ∀ j, (fun j => j = mb) j → j < w.heap.size := fun j hj => by subst hj; exact NE.out.mbn
      have HF := Lib.hid (show CodeTo w b rb mb sv zs (.slice ap np cp) cs fl nm ds (codeP cs fl nm ds zs k) (.returned (.tuple #[])) (w12.setCell ⟨mb, 7, none⟩ (.slice am maps.length cm)) from
        .inl ⟨⟨fl, nm, ds, st, lo, code, ts, maps⟩, k9, _, _, _, C6.out.trans (bindP_ok M6.out), rfl, rfl, rfl, rfl, H12.rs.store NE.out 7 _, H12.row.keep ho3 hS, HBY.out, H12.rg.keep ho3 hS, HTR.out, hrow12.keep ho3 hS, hby, VST.out, VLO.out⟩)
      clear hx hr ho H12 hrow hrow12 ho3 hS hby
      go_wp2
      go_end0
      exact HF.out
end Go.Proofs.YtodhdiccfobcfaaGreatDoor
