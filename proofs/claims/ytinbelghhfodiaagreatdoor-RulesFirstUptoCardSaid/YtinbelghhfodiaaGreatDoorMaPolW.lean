import Derived.Test.YtinbelghhfodiaaGreatDoorMaTkH
import Derived.Test.YtinbelghhfodiaaGreatDoorMaPolMPolV
import Derived.Deep.RegionHeld3
import Derived.Deep.DeepCutAuto
namespace Go.Proofs.YtinbelghhfodiaaGreatDoor
set_option maxHeartbeats 8000000
open Lib (hid)
open Go.RowKit
set_option linter.unusedVariables false
set_option linter.unusedSimpArgs false
def ledZ (cs : List ConstV) (l x : Int) : Bool := if l = 0 then decide (x = 0) else decide ((atC cs x).tag = l)
theorem atC_zero (cs : List ConstV) : atC cs 0 = ⟨0, noT, 0, 0, 0⟩ := by unfold atC; rw [if_neg (by omega)]
set_option maxRecDepth 100000 in
theorem progLed (v : Value) (cs : List ConstV) (txt : Bool) (sz la lb : Int) (c : ConstV) (w : World) (hp : Pool w v cs) :
  Calls Tryz.prog 175 #[.agg #[.bool txt, .int .i64 sz, .int .i64 la, .int .i64 lb], v, .agg #[.int .i64 c.tag, .string c.text, .int .i64 c.n, .int .i64 c.a, .int .i64 c.b]] w fun e w' => e = .returned (.bool (ledZ cs la c.a && ledZ cs lb c.b)) ∧ Only (fun _ => False) w w' := by
 obtain ⟨t, x, n, a, bb⟩ := c
 simp only at *
 obtain ⟨ao, cap, rfl, _, _, _, _, _⟩ := id hp
 have Hp := hid hp
 have i0 : ∀ w, (Instr.index 245 (.agg #[.int .i64 a, .int .i64 bb]) (.int .i64 0)).run Tryz.prog w = .ok (.int .i64 a) w := fun _ => by kernel_rfl
 have i1 : ∀ w, (Instr.index 245 (.agg #[.int .i64 a, .int .i64 bb]) (.int .i64 1)).run Tryz.prog w = .ok (.int .i64 bb) w := fun _ => by kernel_rfl
 have fA : ∀ (t' : Int) (x' : ByteArray) (n' a' b' : Int) (w : World), (Instr.field 113 (.agg #[.int .i64 t', .string x', .int .i64 n', .int .i64 a', .int .i64 b']) 0).run Tryz.prog w = .ok (.int .i64 t') w := fun _ _ _ _ _ _ => by kernel_rfl
 have ho0 : Only (fun _ => False) w ((w.alloc (.cells #[.bool txt, .int .i64 sz, .int .i64 la, .int .i64 lb] 247)).alloc (.cells #[.int .i64 t, .string x, .int .i64 n, .int .i64 a, .int .i64 bb] 113)) := ((Only.refl _ _).alloc _).alloc _
 have hb0 : ((w.alloc (.cells #[.bool txt, .int .i64 sz, .int .i64 la, .int .i64 lb] 247)).alloc (.cells #[.int .i64 t, .string x, .int .i64 n, .int .i64 a, .int .i64 bb] 113)).heap[w.heap.size]? = some (.cells #[.bool txt, .int .i64 sz, .int .i64 la, .int .i64 lb] 247 (0, 0)) :=
  ((Only.refl (fun _ => False) _).alloc _).heap (heap_alloc_new w _) (fun h => h)
 have Ho0 := hid ho0
 have Hb0 := hid hb0
 clear hp ho0 hb0
 go_enter Tryz.func175, Tryz.ntmps175
 go_wp2
 go_loopw [14] (fun i wr => (i = .int .i64 0 ∨ (i = .int .i64 1 ∧ ledZ cs la a = true) ∨ (i = .int .i64 2 ∧ ledZ cs la a = true ∧ ledZ cs lb bb = true)) ∧ Only (fun _ => False) w wr ∧ wr.heap[w.heap.size]? = some (.cells #[.bool txt, .int .i64 sz, .int .i64 la, .int .i64 lb] 247 (0, 0))) (fun i _ => 2 - (intOf i).toNat)
 case atStart => exact ⟨.inl rfl, Ho0.out, Hb0.out⟩
 case round =>
  obtain ⟨hrel, hon, hblk⟩ := hrel
  have q2 := cell_blk hblk 2
  have q3 := cell_blk hblk 3
  simp at q2 q3
  have Hon := hid hon
  have Hblk := hid hblk
  clear hon hblk
  rcases hrel with rfl | ⟨rfl, h1⟩ | ⟨rfl, h1, h2⟩
  ·by_cases hl : la = 0
   ·by_cases hx : a = 0
    ·have hL : ledZ cs la a = true := by unfold ledZ; rw [if_pos hl]; simpa using hx
     have HL := hid hL
     have Hl := hid hl
     have Hx := hid hx
     have cA := fun w' (ho : Only (fun _ => False) wr w') => progAt _ cs a w' ((Hp.out).only (Hon.out.trans ho (fun _ h => h.elim)) (fun _ _ h => h))
     rw [show atC cs a = ⟨0, noT, 0, 0, 0⟩ by rw [hx]; exact atC_zero cs] at cA
     have CA := hid cA
     have bl : (la == 0) = true := by simpa using hl
     have bl2 : (la != 0) = false := by simpa using hl
     have bx : (a != 0) = false := by simpa using hx
     have bx2 : (a == 0) = true := by simpa using hx
     clear hL hl hx cA
     go_wp2
     refine wp_region_held_drew (S := fun w' => w'.cell? ⟨w.heap.size, 2, none⟩ = some (.int .i64 la) ∧ w'.cell? ⟨w.heap.size, 3, none⟩ = some (.int .i64 lb) ∧ Only (fun _ => False) wr w') (by kernel_rfl) ⟨q2, q3, (Only.refl _ _).drew⟩ (fun hHeld => ?_)
     refine tk2 0 (h := ?_)
     refine tk2 1 (h := ?_)
     refine tk2 2 (h := ?_)
     refine tk2 3 (h := ?_)
     refine tk2 4 (h := ?_)
     refine tk2 5 (h := ?_)
     refine tk2 6 (h := ?_)
     refine tk2 7 (h := ?_)
     refine tk2 8 (h := ?_)
     refine tk2 9 (h := ?_)
     refine tk2 10 (h := ?_)
     refine tk2 11 (h := ?_)
     refine tk2 12 (h := ?_)
     refine tk2 13 (h := ?_)
     refine tk2 14 (h := ?_)
     refine tk2 15 (h := ?_)
     refine tkR 16 (h := fun K hK => ?_)
     go_simp
     refine (CA.out _ hHeld.2.2).mono ?_; rintro e w1 ⟨rfl, ho1⟩; have HW := hid (hHeld.2.2.trans ho1 (fun _ h => h.elim)); have Q2 := hid (ho1.cell hHeld.1 (fun h => h)); have Q3 := hid (ho1.cell hHeld.2.1 (fun h => h)); clear ho1
     go_wp2_with fail
     refine hK.out _ _ ?_ (fun hHeld2 => ?_)
     ·exact ⟨Q2.out, Q3.out, HW.out⟩
     clear hK K
     try simp only [Act.put, sIB, sC0, sCS]
     clear hHeld
     have hHeld := hHeld2
     clear hHeld2
     refine tk2 17 (h := ?_)
     refine tk2 18 (h := ?_)
     refine tk2 19 (h := ?_)
     refine wpAnyH_done (by kernel_rfl) ?_ _
     go_wp2
     go_roundw
     case rel => exact ⟨.inr (.inl ⟨rfl, HL.out⟩), Hon.out.trans HW.out (fun _ h => h.elim), HW.out.heap Hblk.out (fun h => h)⟩
     case measure => simp [intOf]
    ·have hL : ledZ cs la a = false := by unfold ledZ; rw [if_pos hl]; simpa using hx
     have HL := hid hL
     have bl : (la == 0) = true := by simpa using hl
     have bl2 : (la != 0) = false := by simpa using hl
     have bx : (a != 0) = true := by simpa using hx
     have bx2 : (a == 0) = false := by simpa using hx
     clear hL hl hx
     go_wp2
     go_quiet (fail)
     go_wp2
     go_ret
     exact ⟨congrArg (fun z => Ending.returned (.bool z)) (by rw [HL.out]; rfl), Hon.out.drewN _⟩
   ·have cA := fun w' (ho : Only (fun _ => False) wr w') => progAt _ cs a w' ((Hp.out).only (Hon.out.trans ho (fun _ h => h.elim)) (fun _ _ h => h))
    have CA := hid cA
    have bl : (la == 0) = false := by simpa using hl
    have bl2 : (la != 0) = true := by simpa using hl
    by_cases ht : (atC cs a).tag = la
    ·have hL : ledZ cs la a = true := by unfold ledZ; rw [if_neg hl]; simpa using ht
     have HL := hid hL
     have be : (la != (atC cs a).tag) = false := by rw [ht]; simp
     have be2 : (la == (atC cs a).tag) = true := by rw [ht]; simp
     clear hL hl ht cA
     go_wp2
     refine wp_region_held_drew (S := fun w' => w'.cell? ⟨w.heap.size, 2, none⟩ = some (.int .i64 la) ∧ w'.cell? ⟨w.heap.size, 3, none⟩ = some (.int .i64 lb) ∧ Only (fun _ => False) wr w') (by kernel_rfl) ⟨q2, q3, (Only.refl _ _).drew⟩ (fun hHeld => ?_)
     refine tk2 0 (h := ?_)
     refine tk2 1 (h := ?_)
     refine tk2 2 (h := ?_)
     refine tk2 3 (h := ?_)
     refine tk2 4 (h := ?_)
     refine tk2 5 (h := ?_)
     refine tk3 6 (h := ?_)
     refine tk3 7 (h := ?_)
     refine tk2 8 (h := ?_)
     refine tk2 9 (h := ?_)
     refine tk2 10 (h := ?_)
     refine tk2 11 (h := ?_)
     refine tk2 12 (h := ?_)
     refine tk2 13 (h := ?_)
     refine tk2 14 (h := ?_)
     refine tk2 15 (h := ?_)
     refine tkR 16 (h := fun K hK => ?_)
     go_simp
     refine (CA.out _ hHeld.2.2).mono ?_; rintro e w1 ⟨rfl, ho1⟩; have HW := hid (hHeld.2.2.trans ho1 (fun _ h => h.elim)); have Q2 := hid (ho1.cell hHeld.1 (fun h => h)); have Q3 := hid (ho1.cell hHeld.2.1 (fun h => h)); clear ho1
     go_wp2_with fail
     refine hK.out _ _ ?_ (fun hHeld2 => ?_)
     ·exact ⟨Q2.out, Q3.out, HW.out⟩
     clear hK K
     try simp only [Act.put, sIB, sC0, sCS]
     clear hHeld
     have hHeld := hHeld2
     clear hHeld2
     refine tk2 17 (h := ?_)
     refine tk2 18 (h := ?_)
     refine tk2 19 (h := ?_)
     refine wpAnyH_done (by kernel_rfl) ?_ _
     go_wp2
     go_roundw
     case rel => exact ⟨.inr (.inl ⟨rfl, HL.out⟩), Hon.out.trans HW.out (fun _ h => h.elim), HW.out.heap Hblk.out (fun h => h)⟩
     case measure => simp [intOf]
    ·have hL : ledZ cs la a = false := by unfold ledZ; rw [if_neg hl]; simpa using ht
     have HL := hid hL
     have be : (la != (atC cs a).tag) = true := by simpa using fun e => ht e.symm
     have be2 : (la == (atC cs a).tag) = false := by simpa using fun e => ht e.symm
     clear hL hl ht cA
     go_wp2
     refine wp_region_held_drew (S := fun w' => w'.cell? ⟨w.heap.size, 2, none⟩ = some (.int .i64 la) ∧ w'.cell? ⟨w.heap.size, 3, none⟩ = some (.int .i64 lb) ∧ Only (fun _ => False) wr w') (by kernel_rfl) ⟨q2, q3, (Only.refl _ _).drew⟩ (fun hHeld => ?_)
     refine tk2 0 (h := ?_)
     refine tk2 1 (h := ?_)
     refine tk2 2 (h := ?_)
     refine tk2 3 (h := ?_)
     refine tk2 4 (h := ?_)
     refine tk2 5 (h := ?_)
     refine tk3 6 (h := ?_)
     refine tk3 7 (h := ?_)
     refine tk2 8 (h := ?_)
     refine tk2 9 (h := ?_)
     refine tk2 10 (h := ?_)
     refine tk2 11 (h := ?_)
     refine tk2 12 (h := ?_)
     refine tk2 13 (h := ?_)
     refine tk2 14 (h := ?_)
     refine tk2 15 (h := ?_)
     refine tkR 16 (h := fun K hK => ?_)
     go_simp
     refine (CA.out _ hHeld.2.2).mono ?_; rintro e w1 ⟨rfl, ho1⟩; have HW := hid (hHeld.2.2.trans ho1 (fun _ h => h.elim)); have Q2 := hid (ho1.cell hHeld.1 (fun h => h)); have Q3 := hid (ho1.cell hHeld.2.1 (fun h => h)); clear ho1
     go_wp2_with fail
     refine hK.out _ _ ?_ (fun hHeld2 => ?_)
     ·exact ⟨Q2.out, Q3.out, HW.out⟩
     clear hK K
     try simp only [Act.put, sIB, sC0, sCS]
     clear hHeld
     have hHeld := hHeld2
     clear hHeld2
     refine tk2 17 (h := ?_)
     refine tk2 18 (h := ?_)
     refine tk2 19 (h := ?_)
     refine wpAnyH_done (by kernel_rfl) ?_ _
     go_wp2
     go_ret
     exact ⟨congrArg (fun z => Ending.returned (.bool z)) (by rw [HL.out]; rfl), Hon.out.trans HW.out (fun _ h => h.elim)⟩
  ·have H1 := hid h1
   clear h1
   by_cases hl : lb = 0
   ·by_cases hx : bb = 0
    ·have hL : ledZ cs lb bb = true := by unfold ledZ; rw [if_pos hl]; simpa using hx
     have HL := hid hL
     have Hl := hid hl
     have Hx := hid hx
     have cA := fun w' (ho : Only (fun _ => False) wr w') => progAt _ cs bb w' ((Hp.out).only (Hon.out.trans ho (fun _ h => h.elim)) (fun _ _ h => h))
     rw [show atC cs bb = ⟨0, noT, 0, 0, 0⟩ by rw [hx]; exact atC_zero cs] at cA
     have CA := hid cA
     have bl : (lb == 0) = true := by simpa using hl
     have bl2 : (lb != 0) = false := by simpa using hl
     have bx : (bb != 0) = false := by simpa using hx
     have bx2 : (bb == 0) = true := by simpa using hx
     clear hL hl hx cA
     go_wp2
     refine wp_region_held_drew (S := fun w' => w'.cell? ⟨w.heap.size, 2, none⟩ = some (.int .i64 la) ∧ w'.cell? ⟨w.heap.size, 3, none⟩ = some (.int .i64 lb) ∧ Only (fun _ => False) wr w') (by kernel_rfl) ⟨q2, q3, (Only.refl _ _).drew⟩ (fun hHeld => ?_)
     refine tk2 0 (h := ?_)
     refine tk2 1 (h := ?_)
     refine tk2 2 (h := ?_)
     refine tk2 3 (h := ?_)
     refine tk2 4 (h := ?_)
     refine tk2 5 (h := ?_)
     refine tk2 6 (h := ?_)
     refine tk2 7 (h := ?_)
     refine tk2 8 (h := ?_)
     refine tk2 9 (h := ?_)
     refine tk2 10 (h := ?_)
     refine tk2 11 (h := ?_)
     refine tk2 12 (h := ?_)
     refine tk2 13 (h := ?_)
     refine tk2 14 (h := ?_)
     refine tk2 15 (h := ?_)
     refine tkR 16 (h := fun K hK => ?_)
     go_simp
     refine (CA.out _ hHeld.2.2).mono ?_; rintro e w1 ⟨rfl, ho1⟩; have HW := hid (hHeld.2.2.trans ho1 (fun _ h => h.elim)); have Q2 := hid (ho1.cell hHeld.1 (fun h => h)); have Q3 := hid (ho1.cell hHeld.2.1 (fun h => h)); clear ho1
     go_wp2_with fail
     refine hK.out _ _ ?_ (fun hHeld2 => ?_)
     ·exact ⟨Q2.out, Q3.out, HW.out⟩
     clear hK K
     try simp only [Act.put, sIB, sC0, sCS]
     clear hHeld
     have hHeld := hHeld2
     clear hHeld2
     refine tk2 17 (h := ?_)
     refine tk2 18 (h := ?_)
     refine tk2 19 (h := ?_)
     refine wpAnyH_done (by kernel_rfl) ?_ _
     go_wp2
     go_roundw
     case rel => exact ⟨.inr (.inr ⟨rfl, H1.out, HL.out⟩), Hon.out.trans HW.out (fun _ h => h.elim), HW.out.heap Hblk.out (fun h => h)⟩
     case measure => simp [intOf]
    ·have hL : ledZ cs lb bb = false := by unfold ledZ; rw [if_pos hl]; simpa using hx
     have HL := hid hL
     have bl : (lb == 0) = true := by simpa using hl
     have bl2 : (lb != 0) = false := by simpa using hl
     have bx : (bb != 0) = true := by simpa using hx
     have bx2 : (bb == 0) = false := by simpa using hx
     clear hL hl hx
     go_wp2
     go_quiet (fail)
     go_wp2
     go_ret
     exact ⟨congrArg (fun z => Ending.returned (.bool z)) (by rw [H1.out, HL.out]; rfl), Hon.out.drewN _⟩
   ·have cA := fun w' (ho : Only (fun _ => False) wr w') => progAt _ cs bb w' ((Hp.out).only (Hon.out.trans ho (fun _ h => h.elim)) (fun _ _ h => h))
    have CA := hid cA
    have bl : (lb == 0) = false := by simpa using hl
    have bl2 : (lb != 0) = true := by simpa using hl
    by_cases ht : (atC cs bb).tag = lb
    ·have hL : ledZ cs lb bb = true := by unfold ledZ; rw [if_neg hl]; simpa using ht
     have HL := hid hL
     have be : (lb != (atC cs bb).tag) = false := by rw [ht]; simp
     have be2 : (lb == (atC cs bb).tag) = true := by rw [ht]; simp
     clear hL hl ht cA
     go_wp2
     refine wp_region_held_drew (S := fun w' => w'.cell? ⟨w.heap.size, 2, none⟩ = some (.int .i64 la) ∧ w'.cell? ⟨w.heap.size, 3, none⟩ = some (.int .i64 lb) ∧ Only (fun _ => False) wr w') (by kernel_rfl) ⟨q2, q3, (Only.refl _ _).drew⟩ (fun hHeld => ?_)
     refine tk2 0 (h := ?_)
     refine tk2 1 (h := ?_)
     refine tk2 2 (h := ?_)
     refine tk2 3 (h := ?_)
     refine tk2 4 (h := ?_)
     refine tk2 5 (h := ?_)
     refine tk3 6 (h := ?_)
     refine tk3 7 (h := ?_)
     refine tk2 8 (h := ?_)
     refine tk2 9 (h := ?_)
     refine tk2 10 (h := ?_)
     refine tk2 11 (h := ?_)
     refine tk2 12 (h := ?_)
     refine tk2 13 (h := ?_)
     refine tk2 14 (h := ?_)
     refine tk2 15 (h := ?_)
     refine tkR 16 (h := fun K hK => ?_)
     go_simp
     refine (CA.out _ hHeld.2.2).mono ?_; rintro e w1 ⟨rfl, ho1⟩; have HW := hid (hHeld.2.2.trans ho1 (fun _ h => h.elim)); have Q2 := hid (ho1.cell hHeld.1 (fun h => h)); have Q3 := hid (ho1.cell hHeld.2.1 (fun h => h)); clear ho1
     go_wp2_with fail
     refine hK.out _ _ ?_ (fun hHeld2 => ?_)
     ·exact ⟨Q2.out, Q3.out, HW.out⟩
     clear hK K
     try simp only [Act.put, sIB, sC0, sCS]
     clear hHeld
     have hHeld := hHeld2
     clear hHeld2
     refine tk2 17 (h := ?_)
     refine tk2 18 (h := ?_)
     refine tk2 19 (h := ?_)
     refine wpAnyH_done (by kernel_rfl) ?_ _
     go_wp2
     go_roundw
     case rel => exact ⟨.inr (.inr ⟨rfl, H1.out, HL.out⟩), Hon.out.trans HW.out (fun _ h => h.elim), HW.out.heap Hblk.out (fun h => h)⟩
     case measure => simp [intOf]
    ·have hL : ledZ cs lb bb = false := by unfold ledZ; rw [if_neg hl]; simpa using ht
     have HL := hid hL
     have be : (lb != (atC cs bb).tag) = true := by simpa using fun e => ht e.symm
     have be2 : (lb == (atC cs bb).tag) = false := by simpa using fun e => ht e.symm
     clear hL hl ht cA
     go_wp2
     refine wp_region_held_drew (S := fun w' => w'.cell? ⟨w.heap.size, 2, none⟩ = some (.int .i64 la) ∧ w'.cell? ⟨w.heap.size, 3, none⟩ = some (.int .i64 lb) ∧ Only (fun _ => False) wr w') (by kernel_rfl) ⟨q2, q3, (Only.refl _ _).drew⟩ (fun hHeld => ?_)
     refine tk2 0 (h := ?_)
     refine tk2 1 (h := ?_)
     refine tk2 2 (h := ?_)
     refine tk2 3 (h := ?_)
     refine tk2 4 (h := ?_)
     refine tk2 5 (h := ?_)
     refine tk3 6 (h := ?_)
     refine tk3 7 (h := ?_)
     refine tk2 8 (h := ?_)
     refine tk2 9 (h := ?_)
     refine tk2 10 (h := ?_)
     refine tk2 11 (h := ?_)
     refine tk2 12 (h := ?_)
     refine tk2 13 (h := ?_)
     refine tk2 14 (h := ?_)
     refine tk2 15 (h := ?_)
     refine tkR 16 (h := fun K hK => ?_)
     go_simp
     refine (CA.out _ hHeld.2.2).mono ?_; rintro e w1 ⟨rfl, ho1⟩; have HW := hid (hHeld.2.2.trans ho1 (fun _ h => h.elim)); have Q2 := hid (ho1.cell hHeld.1 (fun h => h)); have Q3 := hid (ho1.cell hHeld.2.1 (fun h => h)); clear ho1
     go_wp2_with fail
     refine hK.out _ _ ?_ (fun hHeld2 => ?_)
     ·exact ⟨Q2.out, Q3.out, HW.out⟩
     clear hK K
     try simp only [Act.put, sIB, sC0, sCS]
     clear hHeld
     have hHeld := hHeld2
     clear hHeld2
     refine tk2 17 (h := ?_)
     refine tk2 18 (h := ?_)
     refine tk2 19 (h := ?_)
     refine wpAnyH_done (by kernel_rfl) ?_ _
     go_wp2
     go_ret
     exact ⟨congrArg (fun z => Ending.returned (.bool z)) (by rw [H1.out, HL.out]; rfl), Hon.out.trans HW.out (fun _ h => h.elim)⟩
  ·go_wp2
   go_ret
   exact ⟨congrArg (fun z => Ending.returned (.bool z)) (by rw [h1, h2]; rfl), Hon.out⟩
end Go.Proofs.YtinbelghhfodiaaGreatDoor
