import Derived.Test.YtinbelghhfodiaaGreatDoorMaTkH
import Derived.Deep.RegionHeld3
import Derived.Test.YtinbelghhfodiaaGreatDoorMaClsGLpE
import Derived.Test.YtinbelghhfodiaaGreatDoorMaLpHLpI
import Derived.Test.YtinbelghhfodiaaGreatDoorMaLpQLpY
import Derived.Test.YtinbelghhfodiaaGreatDoorMaPolMPolV
namespace Go.Proofs.YtinbelghhfodiaaGreatDoor
set_option maxHeartbeats 8000000
open Lib (hid)
open Go.RowKit Go.Maps
set_option linter.unusedVariables false
set_option linter.unusedSimpArgs false
section
variable {P : Program} {ops : Array Oper} {o : Oper} {a : Act} {w : World} {K : Act → World → Prop} {Q : Exit → Act → World → Prop} {E : Prop}
theorem step_look (hg : o.guard = none) (m x : Operand) (t : TypeId) (hop : o.op = Op.lookup t m x true) (k e : TypeId) (q : IntKind) (KY : Keyed P k) (ht : P.underlying t = some (.map k e)) (he : P.underlying e = some (.int q)) (hz : (zeroValue e).run P w = .ok (.int q 0) w)
  (b n : Nat) (D : DataW Unit) (hm : a.eval m = .map (some b)) (hown : w.ownsMap P k (plainElem P e) b n D) (key : Value) (kl : Lit) (hx : a.eval x = key) (hkey : keyOf P k key = some kl)
  (h : ∀ c : Int, K (a.put o.dst (.tuple #[.int q c, .bool (Maps.has D kl)])) w) : if Region.wanted o (yielded ops a.tmps) = true then Oper.wp P o a w K Q else E := by
 rw [if_pos (by simp [Region.wanted, hg])]
 obtain ⟨v, ps, hrun, hv⟩ := hown.look_ok KY ht hz (zd := .lit (.int q 0)) (zp := []) (plainElem_int he (by cases q <;> decide)) hkey
 obtain ⟨c, rfl, -, -⟩ := plainElem_int_inv he hv
 unfold Oper.wp
 simp [execOp, hop, hm, hx, hrun, Result.andThen, Oper.upon]
 exact h c
theorem step_put (hg : o.guard = none) (m x v : Operand) (t : TypeId) (hop : o.op = Op.mapUpdate t m x v) (k e : TypeId) (KY : Keyed P k) (ht : P.underlying t = some (.map k e)) (R : Value → Option (DataW Unit × List MemPlace)) (b n : Nat) (D : DataW Unit)
  (hm : a.eval m = .map (some b)) (hown : w.ownsMap P k R b n D) (hn : n < maxLen) (key val : Value) (kl : Lit) (hx : a.eval x = key) (hv : a.eval v = val) (hkey : keyOf P k key = some kl) (d : DataW Unit) (ps : List MemPlace) (hval : R val = some (d, ps))
  (h : ∀ w', w'.ownsMap P k R b (n + 1) (D.put kl d) → w.grownBy w' (some b) → K (a.put o.dst undef) w') : if Region.wanted o (yielded ops a.tmps) = true then Oper.wp P o a w K Q else E := by
 rw [if_pos (by simp [Region.wanted, hg])]
 obtain ⟨w', hrun, r1, r2⟩ := hown.update KY ht hn hkey hval
 unfold Oper.wp
 simp [execOp, hop, hm, hx, hv, hrun, Result.andThen, Oper.upon]
 exact h w' r1 r2
end
theorem findZ_snoc (ks : List KindV) (k : KindV) (x : ByteArray) : findZ (ks ++ [k]) x = if findZ ks x < 0 then (if k.name = x then (ks.length : Int) else -1) else findZ ks x := by
 rw [findZ_app]
 congr 1
theorem names_there {w : World} {mb : Nat} {ks : List KindV} {k : KindV} (h : NamesM w mb ks) (hk : ¬ findZ ks k.name < 0) : NamesM w mb (ks ++ [k]) := by
 obtain ⟨n, D, h1, h2, h3, h4⟩ := h
 refine ⟨n, D, by rw [List.length_append]; omega, h2, h3, fun x => ?_⟩
 have e : findZ (ks ++ [k]) x = findZ ks x := by
  rw [findZ_snoc]
  by_cases hx : findZ ks x < 0
  ·rw [if_pos hx, if_neg (fun e : k.name = x => hk (by rw [e]; exact hx))]
   rcases findZ_cases ks x with h | ⟨j, _, h⟩ <;> omega
  ·rw [if_neg hx]
 rw [e]
 exact h4 x
theorem names_new {w : World} {mb n : Nat} {D : DataW Unit} {ks : List KindV} {k : KindV} (h1 : n ≤ ks.length) (h2 : w.ownsMap Tryz.prog 9 (plainElem (H := Unit) Tryz.prog 3) mb (n + 1) (D.put (keyB k.name) (.lit (.int .i64 ks.length)))) (h3 : IsMap D)
  (h4 : ∀ x, Maps.has D (keyB x) = !decide (findZ ks x < 0) ∧ (¬ findZ ks x < 0 → D.atKey (keyB x) (.lit (.int .i64 0)) = .lit (.int .i64 (findZ ks x)))) (hk : findZ ks k.name < 0) : NamesM w mb (ks ++ [k]) := by
 refine ⟨n + 1, _, by rw [List.length_append]; simp; omega, h2, h3.put _ _, fun x => ?_⟩
 by_cases hx : k.name = x
 ·subst hx
  rw [findZ_snoc, if_pos hk, if_pos rfl, has_put_same h3 (by unfold keyB; trivial), atKey_put_same h3 (by unfold keyB; trivial)]
  exact ⟨by simp, fun _ => rfl⟩
 ·have hne : keyB x ≠ keyB k.name := fun e => hx (keyB_inj e).symm
  have e : findZ (ks ++ [k]) x = findZ ks x := by
   rw [findZ_snoc, if_neg hx]
   split
   ·rcases findZ_cases ks x with h | ⟨j, _, h⟩ <;> omega
   ·rfl
  rw [has_put_other hne, atKey_put_other hne, e]
  exact h4 x
theorem owns_map_only {S : Nat → Prop} {w w' : World} {k : TypeId} {R : Value → Option (DataW Unit × List MemPlace)} {b n : Nat} {D : DataW Unit} (h : w.ownsMap Tryz.prog k R b n D) (ho : Only S w w') (hs : ¬ S b) : w'.ownsMap Tryz.prog k R b n D := by
 obtain ⟨es, clock, h2, h3⟩ := h
 exact ⟨es, clock, ho.heap h2 hs, h3⟩
theorem info_known : (Tryz.prog.info? 143).map (fun i => (i.zero, i.size, i.bytes)) = some (some .nilIface, 1, 16) := by kernel_rfl
theorem Src.iface {w : World} {m : Nat} (T : TypeId) (v : Value) (h : w.heap.size = m) : Src (w.alloc (.cells #[.iface T v] 143)) 1 (.slice (some ⟨m, 0, none⟩) 1 1) 1 [.iface T v] := by
 subst h
 exact Src.few (xs := [.iface T v]) (fun u hu => by simp at hu; subst hu; rfl)
structure Added (B : Nat) (w : World) (pb mb : Nat) (vl : Value) (ks : List KindV) (ivs : List Value) (k : KindV) (iv : Value) (vl' : Value) (w' : World) : Prop where
 obj : w'.heap[pb]? = some (progO vl' mb)
 names : NamesM w' mb (ks ++ [k])
 row : w'.ownsRow B 143 1 vl' (ks.length + 1) (ivs ++ [iv])
 own : ∀ b, vl'.ownBlock = some b → vl.ownBlock = some b ∨ w.heap.size ≤ b
 only : Only (fun j => j = pb ∨ j = mb ∨ vl.ownBlock = some j) w w'
theorem only_grown9s {w2 w3 : World} {v : Value} (hg : w2.grownBy w3 v.ownBlock) : Only (fun k => v.ownBlock = some k) w2 w3 := (Only.refl _ _).grown hg (fun k hk _ => hk)
theorem Only.trans5 {S : Nat → Prop} {a b c : World} (h : Only (fun _ => False) a b) (k : Only S b c) : Only S a c := (h.mono (T := S) (fun _ h _ => h.elim)).trans k (fun _ h _ => h)
set_option maxRecDepth 100000 in
theorem pAdd {B : Nat} {w : World} {pb mb : Nat} {vl : Value} {ks : List KindV} {ivs : List Value} {k : KindV} {T nn : Nat} {v : Value} (hobj : w.heap[pb]? = some (progO vl mb)) (hnm : NamesM w mb ks) (hrow : w.ownsRow B 143 1 vl ks.length ivs) (hB : B ≤ w.heap.size)
  (hne : pb ≠ mb ∧ vl.ownBlock ≠ some pb ∧ vl.ownBlock ≠ some mb) (hk : Asks w T v "understudy/link.name" (.string k.name) nn) (hx : k.name.size ≤ maxLen) (hlen : ks.length ≤ 64) :
  Calls Tryz.prog 65 #[.pointer (some ⟨pb, 0, none⟩), .iface T v] w fun e w' => e = .returned (.tuple #[]) ∧ ∃ vl', Added B w pb mb vl ks ivs k (.iface T v) vl' w' := by
 obtain ⟨i0, hi, hz0, hz1, hz2⟩ := info_parts info_known
 obtain ⟨al, cl, rfl, -, -⟩ := slice_of_owns hrow
 obtain ⟨hqa, hena, hca⟩ := hk
 obtain ⟨n, D, d1, d2, d3, d4⟩ := id hnm
 obtain ⟨hh, -⟩ := d4 k.name
 have q0 : w.cell? ⟨pb, 0, none⟩ = some (.slice al ks.length cl) := cell_blk hobj 0
 have q1 : w.cell? ⟨pb, 1, none⟩ = some (.map (some mb)) := cell_blk hobj 1
 have CN := hid hca
 have HM := hid d2
 have HD := hid (And.intro d1 (And.intro d3 d4))
 have HNM := hid hnm
 have HROW := hid hrow
 have HOBJ := hid hobj
 have HNE := hid (show (¬ pb = mb) ∧ (¬ (Value.slice al ks.length cl).ownBlock = some pb) ∧ ¬ (Value.slice al ks.length cl).ownBlock = some mb from hne)
 have HX := hid hx
 have HBS := hid hB
 have hn64 : n ≤ 64 := by omega
 clear hca d1 d2 d3 d4 hnm hrow hobj hne hx hB
 by_cases hneg : findZ ks k.name < 0
 ·rw [show decide (findZ ks k.name < 0) = true by simpa using hneg, Bool.not_true] at hh
  have HH := hid hh
  have HNEG := hid hneg
  clear hh hneg
  go_enter Tryz.func65, Tryz.ntmps65
  go_wp2
  refine wp_region_held_drew (S := fun wc => wc.cell? ⟨pb, 0, none⟩ = some (.slice al ks.length cl) ∧ wc.cell? ⟨pb, 1, none⟩ = some (.map (some mb))) (by kernel_rfl) ⟨q0, q1⟩ (fun hHeld => ?_)
  refine tk2 0 (h := ?_)
  refine tk2 1 (h := ?_)
  refine tk2 2 (h := ?_)
  refine tk2 3 (h := ?_)
  refine tk2 4 (h := ?_)
  refine tkR 5 (h := fun K hK => ?_)
  go_simp
  (refine (CN.out _ (Only.refl (fun _ => False) w).drew).mono ?_; rintro e1 w1 ⟨rfl, ho1⟩; have HO1 := hid (((Only.refl (fun _ => False) w).drew).trans ho1 (fun _ h _ => h)); clear ho1)
  go_wp2_with fail
  refine hK.out _ _ ?_ (fun hHeld2 => ?_)
  ·exact ⟨HO1.out.cell q0 (fun h => h), HO1.out.cell q1 (fun h => h)⟩
  clear hK K
  try simp only [Act.put, sIB, sC0, sCS]
  clear hHeld
  have hHeld := hHeld2
  clear hHeld2
  refine tkR 6 (h := fun K hK => ?_)
  (refine step_look rfl _ _ 118 rfl 9 3 .i64 (Maps.string_keyed Tryz.underlying9) Tryz.underlying118 Tryz.underlying3 (zero_int8 _) mb n D rfl (by exact owns_map_only HM.out HO1.out (fun h => h)) _ _ rfl (Go.WideMaps.keyOf_string_mk Tryz.underlying9 HX.out) ?_; intro cc; rw [show Maps.has D (.string k.name.data.toList) = _ from HH.out])
  refine hK.out _ _ ?_ (fun hHeld2 => ?_)
  ·exact ⟨HO1.out.cell q0 (fun h => h), HO1.out.cell q1 (fun h => h)⟩
  clear hK K
  try simp only [Act.put, sIB, sC0, sCS]
  clear hHeld
  have hHeld := hHeld2
  clear hHeld2
  refine tk2 7 (h := ?_)
  refine tk2 8 (h := ?_)
  refine tk2 9 (h := ?_)
  refine tk2 10 (h := ?_)
  refine tk2 11 (h := ?_)
  refine wpAnyH_done (by kernel_rfl) ?_ _
  have p0 := HO1.out.cell q0 (fun h => h)
  have p1 := HO1.out.cell q1 (fun h => h)
  clear hHeld
  go_wp2
  refine wp_region_held_drew (S := fun wc => wc.cell? ⟨pb, 0, none⟩ = some (.slice al ks.length cl) ∧ wc.cell? ⟨pb, 1, none⟩ = some (.map (some mb))) (by kernel_rfl) ⟨p0, p1⟩ (fun hHeld => ?_)
  refine tk2 0 (h := ?_)
  refine tk2 1 (h := ?_)
  refine tk2 2 (h := ?_)
  refine tk2 3 (h := ?_)
  refine tk2 4 (h := ?_)
  refine tk2 6 (h := ?_)
  refine tk2 7 (h := ?_)
  refine tk2 8 (h := ?_)
  refine tk2 9 (h := ?_)
  refine tk2 10 (h := ?_)
  refine tkR 5 (h := fun K hK => ?_)
  go_simp
  (refine (CN.out _ HO1.out.drew).mono ?_; rintro e2 w2 ⟨rfl, ho2⟩; have HO2 := hid ((HO1.out.drew).trans ho2 (fun _ h _ => h)); clear ho2)
  go_wp2_with fail
  refine hK.out _ _ ?_ (fun hHeld2 => ?_)
  ·exact ⟨HO2.out.cell q0 (fun h => h), HO2.out.cell q1 (fun h => h)⟩
  clear hK K
  try simp only [Act.put, sIB, sC0, sCS]
  clear hHeld
  have hHeld := hHeld2
  clear hHeld2
  refine tkR 11 (h := fun K hK => ?_)
  (refine step_put rfl _ _ _ 118 rfl 9 3 (Maps.string_keyed Tryz.underlying9) Tryz.underlying118 _ mb n D rfl (by exact owns_map_only HM.out HO2.out (fun h => h)) (by unfold maxLen; omega) _ _ _ rfl rfl (Go.WideMaps.keyOf_string_mk Tryz.underlying9 HX.out) _ [] (plainElem_int Tryz.underlying3 (WalkArith.wf_i64 (by omega))) ?_; intro w3 hown3 hgrow3; have ho3 := ((HO2.out.mono (T := fun j => j = mb) (fun _ h _ => h.elim)).trans ((Only.refl (fun j => j = mb) _).grown hgrow3 (fun i hi _ => by cases hi; rfl)) (fun _ h _ => h)); have HO3 := hid ho3; have HOWN3 := hid hown3; have y0 := ho3.cell q0 (show ¬ pb = mb from HNE.out.1); have y1 := ho3.cell q1 (show ¬ pb = mb from HNE.out.1); clear hown3 hgrow3 ho3)
  refine hK.out _ _ ?_ (fun hHeld2 => ?_)
  ·exact ⟨y0, y1⟩
  clear hK K
  try simp only [Act.put, sIB, sC0, sCS]
  clear hHeld
  have hHeld := hHeld2
  clear hHeld2
  refine wpAnyH_done (by kernel_rfl) ?_ _
  clear hHeld p0 p1 y0 y1 q0 q1
  have hl := (HO3.out).heap HOBJ.out (show ¬ pb = mb from HNE.out.1)
  have hr := (HO3.out).owns HROW.out (show ∀ b, (Value.slice al ks.length cl).ownBlock = some b → ¬ b = mb from fun b e e2 => HNE.out.2.2 (e2 ▸ e))
  have hn' : NamesM w3 mb (ks ++ [k]) := names_new HD.out.1 HOWN3.out HD.out.2.1 (fun x => ⟨(HD.out.2.2 x).1, fun h => (HD.out.2.2 x).2 (by omega)⟩) (by have := HNEG.out; omega)
  obtain ⟨z0, z1⟩ : w3.cell? ⟨pb, 0, none⟩ = some (.slice al ks.length cl) ∧ w3.cell? ⟨pb, 1, none⟩ = some (.map (some mb)) := ⟨cell_blk hl 0, cell_blk hl 1⟩
  have fz := frozen_blk hl 0
  have HL := hid hl
  have HR := hid hr
  have HNN := hid hn'
  have HW := hid (HO3.out)
  have hal := (Only.refl (fun _ => False) w3).alloc (.cells #[.iface T v] 143)
  have HR1 := hid (hal.owns hr (fun _ _ h => h))
  have HAL := hid hal
  clear hl hr hn' hal
  go_wp2_with (at_builtin; go_loud (refine wpList_append_src rfl (.tmp 33) (.tmp 35) 119 rfl 143 i0 .nilIface 1 16 Tryz.underlying119 hi hz0 hz1 hz2 rfl (by decide) B (.slice al ks.length cl) ks.length ivs rfl (by exact HR1.out) (by have := HAL.out.size; have := HW.out.size; have := HBS.out; omega) (.slice (some ⟨w3.heap.size, 0, none⟩) 1 1) 1 [.iface T v] rfl (by exact Src.iface T v rfl) (by unfold maxLen; omega) (by omega) ?_); intro v' w5 hown hgrow hnew; have hos := only_grown9s hgrow; obtain ⟨an, cn, rfl, -, -⟩ := slice_of_owns hown; have ho5 := HAL.out.trans5 hos; have hl5 := ho5.heap HL.out (show ¬ (Value.slice al ks.length cl).ownBlock = some pb from HNE.out.2.1); have x0 := cell_blk hl5 0; have x1 := frozen_blk hl5 0; have hnn5 := HNN.out.only ho5 (show ¬ (Value.slice al ks.length cl).ownBlock = some mb from HNE.out.2.2); have HL5 := hid hl5; have HO5 := hid ho5; have HNN5 := hid hnn5; have HOWN := hid hown; have HNEW := hid hnew; clear hown hgrow hnew hos ho5 hl5 hnn5)
  have hst := (Only.refl (fun j => j = pb) w5).setCell (p := ⟨pb, 0, none⟩) (fun _ => rfl) (.slice an (ks.length + 1) cn)
  have hpl : pb < w3.heap.size := heap_lt HL.out
  have hml : mb < w3.heap.size := HNN.out.lt
  have hws := HW.out.size
  have hfin : Added B w pb mb (.slice al ks.length cl) ks ivs k (.iface T v) (.slice an (ks.length + 1) cn) (w5.setCell ⟨pb, 0, none⟩ (.slice an (ks.length + 1) cn)) := by
   refine ⟨?_, HNN5.out.only hst (fun e => HNE.out.1 e.symm), hst.owns HOWN.out (fun b hb e => ?_), fun b hb => ?_, ?_⟩
   ·have := heap_setCell_at (i := 0) (u := .slice an (ks.length + 1) cn) HL5.out
    simpa [progO] using this
   ·rcases HNEW.out b hb with h | h
    ·exact HNE.out.2.1 (e ▸ h)
    ·have hal := HAL.out.size
     have e' : b = pb := e
     omega
   ·rcases HNEW.out b hb with h | h
    ·exact .inl h
    ·have hal := HAL.out.size
     exact .inr (by omega)
   ·refine Only.trans (HW.out.mono (T := fun j => j = pb ∨ j = mb ∨ (Value.slice al ks.length cl).ownBlock = some j) (fun _ h _ => .inr (.inl h))) (Only.trans (HO5.out.mono (T := fun j => j = pb ∨ j = mb ∨ (Value.slice al ks.length cl).ownBlock = some j) (fun _ h _ => .inr (.inr h))) hst (S := fun j => j = pb ∨ j = mb ∨ (Value.slice al ks.length cl).ownBlock = some j) ?_) (fun _ h _ => h)
    intro i hi _
    exact .inl hi
  have HFIN := hid hfin
  clear hst hpl hml hws hfin z0 z1 fz
  go_wp2
  go_end0
  exact ⟨rfl, _, HFIN.out⟩
 ·rw [show decide (findZ ks k.name < 0) = false by simpa using hneg, Bool.not_false] at hh
  have HH := hid hh
  have HNEG := hid hneg
  clear hh hneg
  go_enter Tryz.func65, Tryz.ntmps65
  go_wp2
  refine wp_region_held_drew (S := fun wc => wc.cell? ⟨pb, 0, none⟩ = some (.slice al ks.length cl) ∧ wc.cell? ⟨pb, 1, none⟩ = some (.map (some mb))) (by kernel_rfl) ⟨q0, q1⟩ (fun hHeld => ?_)
  refine tk2 0 (h := ?_)
  refine tk2 1 (h := ?_)
  refine tk2 2 (h := ?_)
  refine tk2 3 (h := ?_)
  refine tk2 4 (h := ?_)
  refine tkR 5 (h := fun K hK => ?_)
  go_simp
  (refine (CN.out _ (Only.refl (fun _ => False) w).drew).mono ?_; rintro e1 w1 ⟨rfl, ho1⟩; have HO1 := hid (((Only.refl (fun _ => False) w).drew).trans ho1 (fun _ h _ => h)); clear ho1)
  go_wp2_with fail
  refine hK.out _ _ ?_ (fun hHeld2 => ?_)
  ·exact ⟨HO1.out.cell q0 (fun h => h), HO1.out.cell q1 (fun h => h)⟩
  clear hK K
  try simp only [Act.put, sIB, sC0, sCS]
  clear hHeld
  have hHeld := hHeld2
  clear hHeld2
  refine tkR 6 (h := fun K hK => ?_)
  (refine step_look rfl _ _ 118 rfl 9 3 .i64 (Maps.string_keyed Tryz.underlying9) Tryz.underlying118 Tryz.underlying3 (zero_int8 _) mb n D rfl (by exact owns_map_only HM.out HO1.out (fun h => h)) _ _ rfl (Go.WideMaps.keyOf_string_mk Tryz.underlying9 HX.out) ?_; intro cc; rw [show Maps.has D (.string k.name.data.toList) = _ from HH.out])
  refine hK.out _ _ ?_ (fun hHeld2 => ?_)
  ·exact ⟨HO1.out.cell q0 (fun h => h), HO1.out.cell q1 (fun h => h)⟩
  clear hK K
  try simp only [Act.put, sIB, sC0, sCS]
  clear hHeld
  have hHeld := hHeld2
  clear hHeld2
  refine tk2 7 (h := ?_)
  refine tk2 8 (h := ?_)
  refine tk2 9 (h := ?_)
  refine tk2 10 (h := ?_)
  refine tk2 11 (h := ?_)
  refine wpAnyH_done (by kernel_rfl) ?_ _
  clear hHeld q0 q1
  have hl := (HO1.out).heap HOBJ.out (fun h => h)
  have hr := (HO1.out).owns HROW.out (show ∀ b, (Value.slice al ks.length cl).ownBlock = some b → ¬ False from fun _ _ h => h)
  have hn' : NamesM w1 mb (ks ++ [k]) := (names_there HNM.out (k := k) (by have := HNEG.out; omega)).only (HO1.out) (fun h => h)
  obtain ⟨z0, z1⟩ : w1.cell? ⟨pb, 0, none⟩ = some (.slice al ks.length cl) ∧ w1.cell? ⟨pb, 1, none⟩ = some (.map (some mb)) := ⟨cell_blk hl 0, cell_blk hl 1⟩
  have fz := frozen_blk hl 0
  have HL := hid hl
  have HR := hid hr
  have HNN := hid hn'
  have HW := hid (HO1.out)
  have hal := (Only.refl (fun _ => False) w1).alloc (.cells #[.iface T v] 143)
  have HR1 := hid (hal.owns hr (fun _ _ h => h))
  have HAL := hid hal
  clear hl hr hn' hal
  go_wp2_with (at_builtin; go_loud (refine wpList_append_src rfl (.tmp 33) (.tmp 35) 119 rfl 143 i0 .nilIface 1 16 Tryz.underlying119 hi hz0 hz1 hz2 rfl (by decide) B (.slice al ks.length cl) ks.length ivs rfl (by exact HR1.out) (by have := HAL.out.size; have := HW.out.size; have := HBS.out; omega) (.slice (some ⟨w1.heap.size, 0, none⟩) 1 1) 1 [.iface T v] rfl (by exact Src.iface T v rfl) (by unfold maxLen; omega) (by omega) ?_); intro v' w5 hown hgrow hnew; have hos := only_grown9s hgrow; obtain ⟨an, cn, rfl, -, -⟩ := slice_of_owns hown; have ho5 := HAL.out.trans5 hos; have hl5 := ho5.heap HL.out (show ¬ (Value.slice al ks.length cl).ownBlock = some pb from HNE.out.2.1); have x0 := cell_blk hl5 0; have x1 := frozen_blk hl5 0; have hnn5 := HNN.out.only ho5 (show ¬ (Value.slice al ks.length cl).ownBlock = some mb from HNE.out.2.2); have HL5 := hid hl5; have HO5 := hid ho5; have HNN5 := hid hnn5; have HOWN := hid hown; have HNEW := hid hnew; clear hown hgrow hnew hos ho5 hl5 hnn5)
  have hst := (Only.refl (fun j => j = pb) w5).setCell (p := ⟨pb, 0, none⟩) (fun _ => rfl) (.slice an (ks.length + 1) cn)
  have hpl : pb < w1.heap.size := heap_lt HL.out
  have hml : mb < w1.heap.size := HNN.out.lt
  have hws := HW.out.size
  have hfin : Added B w pb mb (.slice al ks.length cl) ks ivs k (.iface T v) (.slice an (ks.length + 1) cn) (w5.setCell ⟨pb, 0, none⟩ (.slice an (ks.length + 1) cn)) := by
   refine ⟨?_, HNN5.out.only hst (fun e => HNE.out.1 e.symm), hst.owns HOWN.out (fun b hb e => ?_), fun b hb => ?_, ?_⟩
   ·have := heap_setCell_at (i := 0) (u := .slice an (ks.length + 1) cn) HL5.out
    simpa [progO] using this
   ·rcases HNEW.out b hb with h | h
    ·exact HNE.out.2.1 (e ▸ h)
    ·have hal := HAL.out.size
     have e' : b = pb := e
     omega
   ·rcases HNEW.out b hb with h | h
    ·exact .inl h
    ·have hal := HAL.out.size
     exact .inr (by omega)
   ·refine Only.trans (HW.out.mono (T := fun j => j = pb ∨ j = mb ∨ (Value.slice al ks.length cl).ownBlock = some j) (fun _ h _ => h.elim)) (Only.trans (HO5.out.mono (T := fun j => j = pb ∨ j = mb ∨ (Value.slice al ks.length cl).ownBlock = some j) (fun _ h _ => .inr (.inr h))) hst (S := fun j => j = pb ∨ j = mb ∨ (Value.slice al ks.length cl).ownBlock = some j) ?_) (fun _ h _ => h)
    intro i hi _
    exact .inl hi
  have HFIN := hid hfin
  clear hst hpl hml hws hfin z0 z1 fz
  go_wp2
  go_end0
  exact ⟨rfl, _, HFIN.out⟩
theorem marks4L {w : World} {b : Nat} {c : Array Value} {t : TypeId} (h : w.heap[b]? = some (.cells c t (0, 0))) :
  w.frozen? ⟨b, 0, none⟩ = false ∧ w.frozen? ⟨b, 1, none⟩ = false ∧ w.frozen? ⟨b, 2, none⟩ = false ∧ w.frozen? ⟨b, 3, none⟩ = false := ⟨frozen_blk h 0, frozen_blk h 1, frozen_blk h 2, frozen_blk h 3⟩
theorem store4L {w : World} {b : Nat} {T : TypeId} {f : Nat × Nat} {o0 o1 o2 o3 a0 a1 a2 a3 : Value} (h : w.heap[b]? = some (.cells #[o0, o1, o2, o3] T f)) :
  ((((w.setCell ⟨b, 0, none⟩ a0).setCell ⟨b, 1, none⟩ a1).setCell ⟨b, 2, none⟩ a2).setCell ⟨b, 3, none⟩ a3).heap[b]? = some (.cells #[a0, a1, a2, a3] T f) := by
 have h3 := heap_setCell_at (i := 3) (u := a3) (heap_setCell_at (i := 2) (u := a2) (heap_setCell_at (i := 1) (u := a1) (heap_setCell_at (i := 0) (u := a0) h)))
 simp only [List.setIfInBounds_toArray, List.set_cons_zero, List.set_cons_succ] at h3
 exact h3
theorem only4L {S : Nat → Prop} {w w' : World} {b : Nat} {a0 a1 a2 a3 : Value} (h : Only S w w') (hb : b < w.heap.size → S b) :
  Only S w ((((w'.setCell ⟨b, 0, none⟩ a0).setCell ⟨b, 1, none⟩ a1).setCell ⟨b, 2, none⟩ a2).setCell ⟨b, 3, none⟩ a3) := by
 iterate 4 (refine Only.setCell (S := S) ?_ hb _)
 exact h
theorem info4_mem : (Tryz.prog.info? 146).map (·.size) = some 4 := by kernel_rfl
theorem memb_alone {fn : Func} {p : Tmp} (hr : fn.results = #[.cell p 146]) {w : World} {b : Nat} {a0 a1 a2 a3 : Value} {tmps : Array Value} (h : w.heap[b]? = some (.cells #[a0, a1, a2, a3] 146 (0, 0))) (ht : tmps.getD p undef = .pointer (some ⟨b, 0, none⟩)) :
  (results fn tmps).run Tryz.prog w = .ok (.agg #[a0, a1, a2, a3]) w :=
 results_cell_row hr tmps w b 146 _ (0, 0) _ ht h Tryz.underlying146 rfl info4_mem
set_option maxRecDepth 100000 in
theorem pNewMember (v : Value) (cs : List ConstV) (n d f : Int) (w : World) (hp : Pool w v cs) :
  Calls Tryz.prog 101 #[v, .int .i64 n, .int .i64 d, .int .i64 f] w fun e w' => e = .returned (.agg #[.string (methK cs n d f).name, .string (methK cs n d f).desc, .int .i64 (methK cs n d f).flags, .int .i64 0]) ∧ Only (fun _ => False) w w' := by
 have ho0 := (Only.refl (fun _ => False) w).alloc (.cells #[.string ⟨#[]⟩, .string ⟨#[]⟩, .int .i64 0, .int .i64 0] 146)
 have hr0 := heap_alloc_new w (.cells #[.string ⟨#[]⟩, .string ⟨#[]⟩, .int .i64 0, .int .i64 0] 146)
 obtain ⟨W0, hW0⟩ : ∃ W0, w.alloc (.cells #[.string ⟨#[]⟩, .string ⟨#[]⟩, .int .i64 0, .int .i64 0] 146) = W0 := ⟨_, rfl⟩
 rw [hW0] at ho0 hr0
 have C := hid (fun W (hW : Only (fun _ => False) w W) i => progText v cs i W (hp.only hW (fun _ _ h => h)))
 obtain ⟨tn, htn⟩ : ∃ tn, textZ cs n = tn := ⟨_, rfl⟩
 obtain ⟨td, htd⟩ : ∃ td, textZ cs d = td := ⟨_, rfl⟩
 have HK := hid (show methK cs n d f = ⟨tn.1, td.1, f⟩ by unfold methK; rw [htn, htd])
 have HTN := hid htn
 have HTD := hid htd
 have HO0 := hid ho0
 have HR0 := hid hr0
 have HW0 := hid hW0
 rw [HK.out]
 clear ho0 hr0 hW0 htn htd hp
 go_enter Tryz.func101, Tryz.ntmps101
 go_wp2_with (fail)
 rw [HW0.out]
 refine (C.out _ HO0.out _).mono ?_
 rintro e w1 ⟨rfl, ho1⟩
 rw [HTN.out]
 have HO1 := hid (HO0.out.trans ho1 (fun _ h _ => h))
 have hr1 := ho1.heap HR0.out (fun h => h)
 have HR1 := hid hr1
 clear ho1 hr1
 go_wp2_with (fail)
 refine (C.out _ HO1.out _).mono ?_
 rintro e w2 ⟨rfl, ho2⟩
 rw [HTD.out]
 have HO2 := hid (HO1.out.trans ho2 (fun _ h _ => h))
 have hr2 := ho2.heap HR1.out (fun h => h)
 obtain ⟨c0, c1, c2, c3⟩ := cells4L hr2
 obtain ⟨f0, f1, f2, f3⟩ := marks4L hr2
 have HR2 := hid hr2
 clear ho2 hr2
 go_wp2
 exact bodyPost_ret (memb_alone (b := w.heap.size) Tryz.results101 (store4L HR2.out) rfl) rfl ⟨rfl, only4L HO2.out (fun hl => absurd hl (Nat.lt_irrefl _))⟩
end Go.Proofs.YtinbelghhfodiaaGreatDoor
