import Derived.Test.YtgdgffnaknkbcaaGreatDoorMiKndMLnkI
namespace Go.Proofs.YtgdgffnaknkbcaaGreatDoor
open Go.RowKit
set_option linter.unusedVariables false
set_option linter.unusedSimpArgs false
def cellsPr (p : PairV) : List Value := [.string p.name, .string p.super]
def PRow (w : World) (B : Nat) (v : Value) (l : List PairV) : Prop := w.ownsRow B 96 2 v l.length (l.flatMap cellsPr)
theorem cellsPr_at : ∀ {cs : List PairV} {i d : Nat}, i < cs.length → d < 2 → (cs.flatMap cellsPr)[i * 2 + d]? = (cellsPr (cs.getD i default))[d]?
 | c :: r, 0, d, _, hd => by
  rw [List.flatMap_cons, List.getElem?_append_left (by simp [cellsPr]; omega)]
  simp
 | c :: r, i + 1, d, hi, hd => by
  rw [List.flatMap_cons, List.getElem?_append_right (by simp [cellsPr]; omega)]
  have : (i + 1) * 2 + d - (cellsPr c).length = i * 2 + d := by simp [cellsPr]; omega
  rw [this, cellsPr_at (by simpa using hi) hd]
  simp
theorem PRow.only {S : Nat → Prop} {w w' : World} {B : Nat} {v : Value} {cs : List PairV} (h : PRow w B v cs) (ho : Only S w w') (hs : ∀ k, v.ownBlock = some k → ¬ S k) : PRow w' B v cs := ho.owns h hs
theorem PRow.ge {w : World} {B : Nat} {v : Value} {cs : List PairV} (h : PRow w B v cs) : ∀ k, v.ownBlock = some k → B ≤ k ∧ k < w.heap.size := fun k hk => World.ownsRow.lt h k hk
theorem PRow.nil (w : World) (B : Nat) : PRow w B (.slice none 0 0) [] := World.ownsRow_nil _ _ _ _
theorem PRow.more {w3 : World} {B : Nat} {v' : Value} {cs : List PairV} {c : PairV} (hown : w3.ownsRow B 96 2 v' (cs.length + 1) (cs.flatMap cellsPr ++ cellsPr c)) : PRow w3 B v' (cs ++ [c]) := by
 unfold PRow
 rw [List.length_append, List.flatMap_append]
 simpa using hown
def KindV.pr (k : KindV) : PairV := ⟨k.name, k.super⟩
def PairsTo (w : World) (l : List PairV) (e : Ending) (w' : World) : Prop := ∃ r, e = .returned r ∧ PRow w' w.heap.size r l ∧ Only (fun _ => False) w w'
def mainB : ByteArray := ⟨#[109, 97, 105, 110]⟩
def voidB : ByteArray := ⟨#[40, 41, 86]⟩
def mainZ (ks : List KindV) : MemV := memO (ownZ ks (ks.getD 13 default).name mainB voidB)
theorem info8_meth9 : (Tryz.prog.info? 70).map (·.size) = some 8 := by kernel_rfl
theorem cells8M {w : World} {b : Nat} {c0 c1 c2 c3 c4 c5 c6 c7 : Value} {t : TypeId} {f : Nat × Nat} (h : w.heap[b]? = some (.cells #[c0, c1, c2, c3, c4, c5, c6, c7] t f)) :
  w.cell? ⟨b, 0, none⟩ = some c0 ∧ w.cell? ⟨b, 1, none⟩ = some c1 ∧ w.cell? ⟨b, 2, none⟩ = some c2 ∧ w.cell? ⟨b, 3, none⟩ = some c3 ∧ w.cell? ⟨b, 4, none⟩ = some c4 ∧ w.cell? ⟨b, 5, none⟩ = some c5 ∧ w.cell? ⟨b, 6, none⟩ = some c6 ∧ w.cell? ⟨b, 7, none⟩ = some c7 :=
 ⟨cell_blk h 0, cell_blk h 1, cell_blk h 2, cell_blk h 3, cell_blk h 4, cell_blk h 5, cell_blk h 6, cell_blk h 7⟩
theorem marks8M {w : World} {b : Nat} {c : Array Value} {t : TypeId} (h : w.heap[b]? = some (.cells c t (0, 0))) :
  w.frozen? ⟨b, 0, none⟩ = false ∧ w.frozen? ⟨b, 1, none⟩ = false ∧ w.frozen? ⟨b, 2, none⟩ = false ∧ w.frozen? ⟨b, 3, none⟩ = false ∧ w.frozen? ⟨b, 4, none⟩ = false ∧ w.frozen? ⟨b, 5, none⟩ = false ∧ w.frozen? ⟨b, 6, none⟩ = false ∧ w.frozen? ⟨b, 7, none⟩ = false :=
 ⟨frozen_blk h 0, frozen_blk h 1, frozen_blk h 2, frozen_blk h 3, frozen_blk h 4, frozen_blk h 5, frozen_blk h 6, frozen_blk h 7⟩
theorem store8M {w : World} {b : Nat} {T : TypeId} {f : Nat × Nat} {o0 o1 o2 o3 o4 o5 o6 o7 a0 a1 a2 a3 a4 a5 a6 a7 : Value} (h : w.heap[b]? = some (.cells #[o0, o1, o2, o3, o4, o5, o6, o7] T f)) :
  ((((((((w.setCell ⟨b, 0, none⟩ a0).setCell ⟨b, 1, none⟩ a1).setCell ⟨b, 2, none⟩ a2).setCell ⟨b, 3, none⟩ a3).setCell ⟨b, 4, none⟩ a4).setCell ⟨b, 5, none⟩ a5).setCell ⟨b, 6, none⟩ a6).setCell ⟨b, 7, none⟩ a7).heap[b]? = some (.cells #[a0, a1, a2, a3, a4, a5, a6, a7] T f) := by
 have h0 := heap_setCell_at (i := 0) (u := a0) h
 simp only [List.setIfInBounds_toArray, List.set_cons_zero, List.set_cons_succ] at h0
 have h1 := heap_setCell_at (i := 1) (u := a1) h0
 simp only [List.setIfInBounds_toArray, List.set_cons_zero, List.set_cons_succ] at h1
 have h2 := heap_setCell_at (i := 2) (u := a2) h1
 simp only [List.setIfInBounds_toArray, List.set_cons_zero, List.set_cons_succ] at h2
 have h3 := heap_setCell_at (i := 3) (u := a3) h2
 simp only [List.setIfInBounds_toArray, List.set_cons_zero, List.set_cons_succ] at h3
 have h4 := heap_setCell_at (i := 4) (u := a4) h3
 simp only [List.setIfInBounds_toArray, List.set_cons_zero, List.set_cons_succ] at h4
 have h5 := heap_setCell_at (i := 5) (u := a5) h4
 simp only [List.setIfInBounds_toArray, List.set_cons_zero, List.set_cons_succ] at h5
 have h6 := heap_setCell_at (i := 6) (u := a6) h5
 simp only [List.setIfInBounds_toArray, List.set_cons_zero, List.set_cons_succ] at h6
 have h7 := heap_setCell_at (i := 7) (u := a7) h6
 simp only [List.setIfInBounds_toArray, List.set_cons_zero, List.set_cons_succ] at h7
 exact h7
theorem only8M {S : Nat → Prop} {w w' : World} {b : Nat} {a0 a1 a2 a3 a4 a5 a6 a7 : Value} (h : Only S w w') (hb : b < w.heap.size → S b) :
  Only S w ((((((((w'.setCell ⟨b, 0, none⟩ a0).setCell ⟨b, 1, none⟩ a1).setCell ⟨b, 2, none⟩ a2).setCell ⟨b, 3, none⟩ a3).setCell ⟨b, 4, none⟩ a4).setCell ⟨b, 5, none⟩ a5).setCell ⟨b, 6, none⟩ a6).setCell ⟨b, 7, none⟩ a7) := by
 iterate 8 (refine Only.setCell (S := S) ?_ hb _)
 exact h
def flagM (f : Int) : Value := .agg #[.int .i64 f, .int .i64 0, .int .i64 0, .int .i64 0, .int .i64 0, .slice none 0 0, .slice none 0 0, .slice none 0 0]
def noMeth (ks : List KindV) (n i : Int) : Prop := n < 0 ∨ (ks.length : Int) ≤ n ∨ i < 0 ∨ ((ks.getD n.toNat default).meths.length : Int) ≤ i
def MethListTo (w : World) (m : MethodV) (nm ds : ByteArray) (e : Ending) (w' : World) : Prop :=
 ∃ vc vt vm, e = .returned (.tuple #[.agg #[.int .i64 m.flags, .int .i64 m.name, .int .i64 m.desc, .int .i64 m.stack, .int .i64 m.locals, vc, vt, vm], .string nm, .string ds, .bool true]) ∧ Inside w' m vc vt vm ∧ Only (fun _ => False) w w'
def sysB : ByteArray := ⟨#[83, 121, 115]⟩
theorem lit_sys : (⟨#[83, 121, 115]⟩ : ByteArray).toList = [83, 121, 115] := by rw [ByteArray.toList_eq]
def topsF (ks : List KindV) : Nat → Int → Bool
 | 0, _ => false
 | f + 1, x => if x = 0 then true else if superZ ks x < 0 then false else if (ks.getD (superZ ks x).toNat default).name = sysB then false else topsF ks f (superZ ks x)
def topsZ (ks : List KindV) (x : Int) : Bool := topsF ks (ks.length + 1) x
set_option maxHeartbeats 4000000 in
set_option maxRecDepth 100000 in
theorem refTops (pb : Nat) (ks : List KindV) (cs : List ClassV) (a : Int) (w : World) (hd : DocP w pb ks cs) (hn : ks.length ≤ 4611686018427387904) :
  Calls Tryz.prog 46 #[.pointer (some ⟨pb, 0, none⟩), .int .i64 a] w fun e w' => e = .returned (.bool (topsZ ks a)) ∧ w = w' := by
 have HD := Lib.hid hd
 obtain ⟨vl, vi, q0, q1, hk, hc⟩ := hd
 obtain ⟨ao, cap, rfl, p1, p2⟩ := hk.len
 have HK := Lib.hid hk
 have HR : Hid (topsZ ks a = topsF ks (ks.length + 1) a) := Lib.hid rfl
 have hlit := lit_sys
 clear hk hc q1
 go_enter Tryz.func46, Tryz.ntmps46
 go_wp2
 go_loop [1, 5] (fun av nv => ∃ (x : Int) (k : Nat), av = .int .i64 x ∧ nv = .int .i64 k ∧ k ≤ ks.length + 1 ∧ Hid (topsZ ks a = topsF ks (ks.length + 1 - k) x)) (fun _ nv => ks.length + 1 - (intOf nv).toNat)
 case atStart => exact ⟨a, 0, rfl, rfl, Nat.zero_le _, HR⟩
 case round =>
  obtain ⟨x, k, rfl, rfl, hk, HS⟩ := hrel
  by_cases hkl : k ≤ ks.length
  ·have hkz : (k : Int) ≤ (ks.length : Int) := by omega
   have HU : Hid (topsF ks (ks.length + 1 - k) x = if x = 0 then true else if superZ ks x < 0 then false else if (ks.getD (superZ ks x).toNat default).name = sysB then false else topsF ks (ks.length + 1 - (k + 1)) (superZ ks x)) := Lib.hid (by rw [show ks.length + 1 - k = (ks.length + 1 - (k + 1)) + 1 by omega]; rfl)
   by_cases x0 : x = 0
   ·subst x0
    have HF := Lib.hid (show topsZ ks a = true by rw [HS.out, HU.out, if_pos rfl])
    go_wp2
    go_ret
    rw [HF.out]
    exact ⟨rfl, rfl⟩
   have hx0 : (x == 0) = false := by rw [beq_eq_false_iff_ne]; exact x0
   have C1 := Lib.hid (refSuperN pb ks cs x w HD.out hn)
   rcases superZ_cases ks x with hs | ⟨j, hj, hs⟩
   ·have HF := Lib.hid (show topsZ ks a = false by rw [HS.out, HU.out, if_neg x0, hs, if_pos (by decide)])
    rw [hs] at C1
    clear hs x0
    go_wp2_with (fail)
    refine C1.out.mono ?_
    rintro e w2 ⟨rfl, rfl⟩
    go_wp2
    go_ret
    rw [HF.out]
    exact ⟨rfl, rfl⟩
   ·rw [hs] at C1
    have hjz : (j : Int) < (ks.length : Int) := by omega
    have hj0 : (0 : Int) ≤ (j : Int) := by omega
    have hj1 : ¬ (j : Int) < 0 := by omega
    obtain ⟨b, o, vf, vm, rfl, y, -, -⟩ := HK.out.at hj
    have q2 := y.c0
    by_cases hn : (ks.getD j default).name = sysB
    ·have HF := Lib.hid (show topsZ ks a = false by rw [HS.out, HU.out, if_neg x0, hs, if_neg hj1, Int.toNat_natCast, if_pos hn])
     rw [hn] at q2
     unfold sysB at q2
     clear hs x0 hn y
     go_wp2_with (fail)
     refine C1.out.mono ?_
     rintro e w2 ⟨rfl, rfl⟩
     go_wp2
     go_ret
     rw [HF.out]
     exact ⟨rfl, rfl⟩
    ·have HF := Lib.hid (show topsZ ks a = topsF ks (ks.length + 1 - (k + 1)) (j : Int) by rw [HS.out, HU.out, if_neg x0, hs, if_neg hj1, Int.toNat_natCast, if_neg hn])
     obtain ⟨n1, n2⟩ := toList_beq hn
     unfold sysB at n1 n2
     rw [lit_sys] at n1 n2
     generalize (ks.getD j default).name = nm at *
     clear hs x0 hn y
     go_wp2_with (fail)
     refine C1.out.mono ?_
     rintro e w2 ⟨rfl, rfl⟩
     go_wp2
     go_round
     case rel => exact ⟨_, k + 1, rfl, by go_num, by omega, HF⟩
     case measure => simp [intOf]; omega
  ·obtain rfl : k = ks.length + 1 := by omega
   have HF := Lib.hid (show topsZ ks a = false by rw [HS.out, Nat.sub_self]; rfl)
   clear hkl hk
   go_wp2
   go_ret
   rw [HF.out]
   exact ⟨rfl, rfl⟩
end Go.Proofs.YtgdgffnaknkbcaaGreatDoor
