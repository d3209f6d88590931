/- The document's own Method of a program, of a class of the list. Condition: the class is in its place. The document's own tops: do the supers lead to Object? No condition but a length that leaves room. The document's own keeps: is a method static just as those above? Condition: the program is small, its chains end. -/
import Derived.Test.YtddjdlbmadlefaaGreatDoorMLnkILnkL
import Derived.BigQuiet
namespace Go.Proofs.YtddjdlbmadlefaaGreatDoor
open Go.RowKit
set_option linter.unusedVariables false
set_option linter.unusedSimpArgs false

/-- What Method answers of a class of the list. -/
def MethListTo (w : World) (m : MethodV) (nm ds : ByteArray) (e : Ending) (w' : World) : Prop :=
  ∃ vc vt vm, e = .returned (.tuple #[.agg #[.int .i64 m.flags, .int .i64 m.name, .int .i64 m.desc, .int .i64 m.stack, .int .i64 m.locals, vc, vt, vm], .string nm, .string ds, .bool true]) ∧ Inside w' m vc vt vm ∧ Only (fun _ => False) w w'
set_option maxHeartbeats 16000000 in
set_option maxRecDepth 100000 in
theorem refMethodList (pb : Nat) (ks : List KindV) (cs : List ClassV) (j i k : Nat) (w : World) (hd : DocP w pb ks cs) (hj : j < ks.length) (hj13 : 13 ≤ j) (hi : i < (ks.getD j default).meths.length) (hpl : (ks.getD j default).place = (k : Int)) (hk : k < cs.length) (him : i < (cs.getD k default).methods.length) :
    Calls Tryz.prog 68 #[.pointer (some ⟨pb, 0, none⟩), .int .i64 j, .int .i64 i] w (MethListTo w ((cs.getD k default).methods.getD i default) ((ks.getD j default).meths.getD i default).name ((ks.getD j default).meths.getD i default).desc) := by
  have ho0 := (Only.refl (fun _ => False) w).alloc (.cells #[.int .i64 0, .int .i64 0, .int .i64 0, .int .i64 0, .int .i64 0, .slice none 0 0, .slice none 0 0, .slice none 0 0] 70)
  obtain ⟨vl, vi, g0, g1, hks, fc, hc1, hc2⟩ := hd
  obtain ⟨ao, cap, rfl, p1, p2⟩ := hks.len
  obtain ⟨ac, capc, rfl, p3, p4⟩ := hc1.slice
  have hjz : (j : Int) < (ks.length : Int) := by omega
  have hj0 : (0 : Int) ≤ (j : Int) := by omega
  have hj00 : ¬ (j : Int) < 0 := by omega
  have hjg : ¬ (ks.length : Int) ≤ (j : Int) := by omega
  have hi0 : (0 : Int) ≤ (i : Int) := by omega
  have hi00 : ¬ (i : Int) < 0 := by omega
  have h13 : ¬ (j : Int) < 13 := by omega
  have hk0 : (0 : Int) ≤ (k : Int) := by omega
  have hkz : (k : Int) < (cs.length : Int) := by omega
  obtain ⟨b, o, vf, vm, rfl, y, -, hm⟩ := hks.at hj
  obtain ⟨am, cm, rfl, m1, m2, m3, -⟩ := id hm
  obtain ⟨bm, om, rfl, z0, z1, z2⟩ := Sl.at hm hi
  obtain ⟨bc, oc, rfl, yc⟩ := Sl.at hc1 hk
  obtain ⟨-, -, hms, -, -⟩ := hc2 k hk
  obtain ⟨fm, hm1, hm2, hm3⟩ := hms
  have ec := yc.c4
  obtain ⟨an, cn, hvn, n1, n2⟩ := hm1.slice
  rw [hvn] at hm1 ec
  obtain ⟨bn, on, rfl, yn⟩ := Sl.at hm1 him
  obtain ⟨e0, e1, e2, e3, e4, e5, e6, e7⟩ := yn
  have hins := hm2 i him
  generalize (fm i).1 = vc at *
  generalize (fm i).2.1 = vt at *
  generalize (fm i).2.2 = vmp at *
  obtain ⟨a5, c5, h5, -⟩ := id hins.1
  obtain ⟨a6, c6, h6, -⟩ := id hins.2.1.1
  obtain ⟨a7, c7, h7, -⟩ := id hins.2.2
  subst h5 h6 h7
  have y3 := y.c3
  have y4 := y.c4
  rw [hpl] at y4
  have hiz : (i : Int) < ((ks.getD j default).meths.length : Int) := by omega
  have hig : ¬ ((ks.getD j default).meths.length : Int) ≤ (i : Int) := by omega
  have himz : (i : Int) < ((cs.getD k default).methods.length : Int) := by omega
  generalize ks.getD j default = p at *
  generalize p.meths.getD i default = m at *
  generalize cs.getD k default = c at *
  generalize c.methods.getD i default = mv at *
  have q0 := ho0.cell g0 (fun h => h)
  have q2 := ho0.cell y3 (fun h => h)
  have q3 := ho0.cell z0 (fun h => h)
  have q4 := ho0.cell z1 (fun h => h)
  have q5 := ho0.cell z2 (fun h => h)
  have ho1 := ho0.alloc (.cells #[.string m.name, .string m.desc, .int .i64 m.flags] 61)
  have hr1 := heap_alloc_new (w.alloc (.cells #[.int .i64 0, .int .i64 0, .int .i64 0, .int .i64 0, .int .i64 0, .slice none 0 0, .slice none 0 0, .slice none 0 0] 70)) (.cells #[.string m.name, .string m.desc, .int .i64 m.flags] 61)
  have hr2 : ((w.alloc (.cells #[.int .i64 0, .int .i64 0, .int .i64 0, .int .i64 0, .int .i64 0, .slice none 0 0, .slice none 0 0, .slice none 0 0] 70)).alloc (.cells #[.string m.name, .string m.desc, .int .i64 m.flags] 61)).heap[w.heap.size]? = some (.cells #[.int .i64 0, .int .i64 0, .int .i64 0, .int .i64 0, .int .i64 0, .slice none 0 0, .slice none 0 0, .slice none 0 0] 70 (0, 0)) := heap2
  obtain ⟨W, hW⟩ : ∃ W, (w.alloc (.cells #[.int .i64 0, .int .i64 0, .int .i64 0, .int .i64 0, .int .i64 0, .slice none 0 0, .slice none 0 0, .slice none 0 0] 70)).alloc (.cells #[.string m.name, .string m.desc, .int .i64 m.flags] 61) = W := ⟨_, rfl⟩
  rw [hW] at ho1 hr1 hr2
  rw [show (w.alloc (.cells #[.int .i64 0, .int .i64 0, .int .i64 0, .int .i64 0, .int .i64 0, .slice none 0 0, .slice none 0 0, .slice none 0 0] 70)).heap.size = w.heap.size + 1 by simp] at hr1
  have hx0 := cell_blk hr1 0
  have hx1 := cell_blk hr1 1
  have hmk := marks8M hr2
  obtain ⟨S, hS⟩ : ∃ S : World → Prop, S = fun W' => (W'.cell? ⟨w.heap.size + 1, 0, none⟩ = some (.string m.name) ∧ W'.cell? ⟨w.heap.size + 1, 1, none⟩ = some (.string m.desc)) ∧ (W'.cell? ⟨pb, 0, none⟩ = some (.slice (some ⟨b, o, none⟩) ks.length cap) ∧ W'.cell? ⟨pb, 1, none⟩ = some (.slice (some ⟨bc, oc, none⟩) cs.length capc) ∧ W'.cell? ⟨b, o + j * 5 + 4, none⟩ = some (.int .i64 k) ∧ W'.cell? ⟨bc, oc + k * 5 + 4, none⟩ = some (.slice (some ⟨bn, on, none⟩) c.methods.length cn)) ∧ (W'.cell? ⟨bn, on + i * 8, none⟩ = some (.int .i64 mv.flags) ∧ W'.cell? ⟨bn, on + i * 8 + 1, none⟩ = some (.int .i64 mv.name) ∧ W'.cell? ⟨bn, on + i * 8 + 2, none⟩ = some (.int .i64 mv.desc) ∧ W'.cell? ⟨bn, on + i * 8 + 3, none⟩ = some (.int .i64 mv.stack) ∧ W'.cell? ⟨bn, on + i * 8 + 4, none⟩ = some (.int .i64 mv.locals) ∧ W'.cell? ⟨bn, on + i * 8 + 5, none⟩ = some (.slice a5 mv.code.length c5) ∧ W'.cell? ⟨bn, on + i * 8 + 6, none⟩ = some (.slice a6 mv.traps.length c6) ∧ W'.cell? ⟨bn, on + i * 8 + 7, none⟩ = some (.slice a7 mv.maps.length c7)) ∧ Only (fun k => k = w.heap.size) W W' := ⟨_, rfl⟩
  have MKS : Hid (∀ W', Only (fun k => k = w.heap.size) W W' → S W') := Lib.hid (fun W' h => by
    have h2 : Only (fun _ => False) w W' := ho1.trans h (fun k hk hl => by omega)
    rw [hS]
    exact ⟨⟨h.cell hx0 (by simp), h.cell hx1 (by simp)⟩, ⟨h2.cell g0 (fun h => h), h2.cell g1 (fun h => h), h2.cell y4 (fun h => h), h2.cell ec (fun h => h)⟩, ⟨h2.cell e0 (fun h => h), h2.cell e1 (fun h => h), h2.cell e2 (fun h => h), h2.cell e3 (fun h => h), h2.cell e4 (fun h => h), h2.cell e5 (fun h => h), h2.cell e6 (fun h => h), h2.cell e7 (fun h => h)⟩, h⟩)
  have HO := Lib.hid ho1
  have HR := Lib.hid hr2
  have HW := Lib.hid hW
  have HMK := Lib.hid hmk
  have HIN : Hid (∀ W', Only (fun _ => False) w W' → Inside W' mv (.slice a5 mv.code.length c5) (.slice a6 mv.traps.length c6) (.slice a7 mv.maps.length c7)) := Lib.hid (fun W' h => ⟨hins.1.only h (fun _ _ _ h => h), hins.2.1.only h, hins.2.2.only h (fun _ _ _ h => h)⟩)
  clear hks hc1 hc2 hm y yc m3 hr1 hr2 hW hx0 hx1 hmk ho1 ho0 hm1 hm2 hm3 hvn hins g0 g1 y3 y4 z0 z1 z2 ec e0 e1 e2 e3 e4 e5 e6 e7 hpl
  go_enter Tryz.func68, Tryz.ntmps68
  go_wp2
  rw [HW.out]
  obtain ⟨f0, f1, f2, f3, f4, f5, f6, f7⟩ := HMK.out
  obtain ⟨r0, r1, r2, r3, r4, r5, r6, r7⟩ := cells8M HR.out
  have hoo : Only (fun k => k = w.heap.size) W W := Only.refl _ _
  have hs0 := MKS.out W hoo
  clear q0 q2 q3 q4 q5
  subst hS
  obtain ⟨⟨x0, x1⟩, ⟨g0, g1, y4, ec⟩, ⟨e0, e1, e2, e3, e4, e5, e6, e7⟩, -⟩ := hs0
  go_region_held3 (fun W' => (W'.cell? ⟨w.heap.size + 1, 0, none⟩ = some (.string m.name) ∧ W'.cell? ⟨w.heap.size + 1, 1, none⟩ = some (.string m.desc)) ∧ (W'.cell? ⟨pb, 0, none⟩ = some (.slice (some ⟨b, o, none⟩) ks.length cap) ∧ W'.cell? ⟨pb, 1, none⟩ = some (.slice (some ⟨bc, oc, none⟩) cs.length capc) ∧ W'.cell? ⟨b, o + j * 5 + 4, none⟩ = some (.int .i64 k) ∧ W'.cell? ⟨bc, oc + k * 5 + 4, none⟩ = some (.slice (some ⟨bn, on, none⟩) c.methods.length cn)) ∧ (W'.cell? ⟨bn, on + i * 8, none⟩ = some (.int .i64 mv.flags) ∧ W'.cell? ⟨bn, on + i * 8 + 1, none⟩ = some (.int .i64 mv.name) ∧ W'.cell? ⟨bn, on + i * 8 + 2, none⟩ = some (.int .i64 mv.desc) ∧ W'.cell? ⟨bn, on + i * 8 + 3, none⟩ = some (.int .i64 mv.stack) ∧ W'.cell? ⟨bn, on + i * 8 + 4, none⟩ = some (.int .i64 mv.locals) ∧ W'.cell? ⟨bn, on + i * 8 + 5, none⟩ = some (.slice a5 mv.code.length c5) ∧ W'.cell? ⟨bn, on + i * 8 + 6, none⟩ = some (.slice a6 mv.traps.length c6) ∧ W'.cell? ⟨bn, on + i * 8 + 7, none⟩ = some (.slice a7 mv.maps.length c7)) ∧ Only (fun k => k = w.heap.size) W W')
    ((refine MKS.out _ ?_; first | with_reducible exact hoo.drew | with_reducible assumption | with_reducible exact (only8M hoo (fun _ => rfl)).drew | with_reducible exact only8M hoo.drew (fun _ => rfl) | with_reducible exact only8M hoo (fun _ => rfl)))
    (fail)
  all_goals
    clear x0 x1 g0 g1 y4 ec e0 e1 e2 e3 e4 e5 e6 e7 f0 f1 f2 f3 f4 f5 f6 f7 r0 r1 r2 r3 r4 r5 r6 r7 hoo
    have hfin := store8M (a0 := .int .i64 mv.flags) (a1 := .int .i64 mv.name) (a2 := .int .i64 mv.desc) (a3 := .int .i64 mv.stack) (a4 := .int .i64 mv.locals) (a5 := .slice a5 mv.code.length c5) (a6 := .slice a6 mv.traps.length c6) (a7 := .slice a7 mv.maps.length c7) HR.out
    have hofin := (only8M (a0 := .int .i64 mv.flags) (a1 := .int .i64 mv.name) (a2 := .int .i64 mv.desc) (a3 := .int .i64 mv.stack) (a4 := .int .i64 mv.locals) (a5 := .slice a5 mv.code.length c5) (a6 := .slice a6 mv.traps.length c6) (a7 := .slice a7 mv.maps.length c7) HO.out (fun hl => absurd hl (Nat.lt_irrefl w.heap.size))).drew
    generalize ((((((((W.setCell ⟨w.heap.size, 0, none⟩ (.int .i64 mv.flags)).setCell ⟨w.heap.size, 1, none⟩ (.int .i64 mv.name)).setCell ⟨w.heap.size, 2, none⟩ (.int .i64 mv.desc)).setCell ⟨w.heap.size, 3, none⟩ (.int .i64 mv.stack)).setCell ⟨w.heap.size, 4, none⟩ (.int .i64 mv.locals)).setCell ⟨w.heap.size, 5, none⟩ (.slice a5 mv.code.length c5)).setCell ⟨w.heap.size, 6, none⟩ (.slice a6 mv.traps.length c6)).setCell ⟨w.heap.size, 7, none⟩ (.slice a7 mv.maps.length c7)) = W6 at *
    go_wp2
    exact bodyPost_ret (method_result4 (b := w.heap.size) Tryz.results68 (heap_drewT hfin) rfl rfl rfl rfl) rfl ⟨_, _, _, rfl, HIN.out _ hofin, hofin⟩
end Go.Proofs.YtddjdlbmadlefaaGreatDoor
namespace Go.Proofs.YtddjdlbmadlefaaGreatDoor
open Go.RowKit
set_option linter.unusedVariables false
set_option linter.unusedSimpArgs false

def sysB : ByteArray := ⟨#[83, 121, 115]⟩
theorem lit_sys : (⟨#[83, 121, 115]⟩ : ByteArray).toList = [83, 121, 115] := by rw [ByteArray.toList_eq]
def topsF (ks : List KindV) : Nat → Int → Bool
  | 0, _ => false
  | f + 1, x => if x = 0 then true else if superZ ks x < 0 then false else if (ks.getD (superZ ks x).toNat default).name = sysB then false else topsF ks f (superZ ks x)
def topsZ (ks : List KindV) (x : Int) : Bool := topsF ks (ks.length + 1) x
set_option maxHeartbeats 4000000 in
set_option maxRecDepth 100000 in
theorem refTops (pb : Nat) (ks : List KindV) (cs : List ClassV) (a : Int) (w : World) (hd : DocP w pb ks cs) (hn : ks.length ≤ 4611686018427387904) :
    Calls Tryz.prog 61 #[.pointer (some ⟨pb, 0, none⟩), .int .i64 a] w fun e w' => e = .returned (.bool (topsZ ks a)) ∧ w = w' := by
  have HD := Lib.hid hd
  obtain ⟨vl, vi, q0, q1, hk, hc⟩ := hd
  obtain ⟨ao, cap, rfl, p1, p2⟩ := hk.len
  have HK := Lib.hid hk
  have HR : Hid (topsZ ks a = topsF ks (ks.length + 1) a) := Lib.hid rfl
  have hlit := lit_sys
  clear hk hc q1
  go_enter Tryz.func61, Tryz.ntmps61
  go_wp2
  go_loop [1, 5] (fun av nv => ∃ (x : Int) (k : Nat), av = .int .i64 x ∧ nv = .int .i64 k ∧ k ≤ ks.length + 1 ∧ Hid (topsZ ks a = topsF ks (ks.length + 1 - k) x)) (fun _ nv => ks.length + 1 - (intOf nv).toNat)
  case atStart => exact ⟨a, 0, rfl, rfl, Nat.zero_le _, HR⟩
  case round =>
    obtain ⟨x, k, rfl, rfl, hk, HS⟩ := hrel
    by_cases hkl : k ≤ ks.length
    · have hkz : (k : Int) ≤ (ks.length : Int) := by omega
      have HU : Hid (topsF ks (ks.length + 1 - k) x = if x = 0 then true else if superZ ks x < 0 then false else if (ks.getD (superZ ks x).toNat default).name = sysB then false else topsF ks (ks.length + 1 - (k + 1)) (superZ ks x)) := Lib.hid (by rw [show ks.length + 1 - k = (ks.length + 1 - (k + 1)) + 1 by omega]; rfl)
      by_cases x0 : x = 0
      · subst x0
        have HF := Lib.hid (show topsZ ks a = true by rw [HS.out, HU.out, if_pos rfl])
        go_wp2
        go_ret
        rw [HF.out]
        exact ⟨rfl, rfl⟩
      have hx0 : (x == 0) = false := by rw [beq_eq_false_iff_ne]; exact x0
      have C1 := Lib.hid (refSuperN pb ks cs x w HD.out hn)
      rcases superZ_cases ks x with hs | ⟨j, hj, hs⟩
      · have HF := Lib.hid (show topsZ ks a = false by rw [HS.out, HU.out, if_neg x0, hs, if_pos (by decide)])
        rw [hs] at C1
        clear hs x0
        go_wp2_with (fail)
        refine C1.out.mono ?_
        rintro e w2 ⟨rfl, rfl⟩
        go_wp2
        go_ret
        rw [HF.out]
        exact ⟨rfl, rfl⟩
      · rw [hs] at C1
        have hjz : (j : Int) < (ks.length : Int) := by omega
        have hj0 : (0 : Int) ≤ (j : Int) := by omega
        have hj1 : ¬ (j : Int) < 0 := by omega
        obtain ⟨b, o, vf, vm, rfl, y, -, -⟩ := HK.out.at hj
        have q2 := y.c0
        by_cases hn : (ks.getD j default).name = sysB
        · have HF := Lib.hid (show topsZ ks a = false by rw [HS.out, HU.out, if_neg x0, hs, if_neg hj1, Int.toNat_natCast, if_pos hn])
          rw [hn] at q2
          unfold sysB at q2
          clear hs x0 hn y
          go_wp2_with (fail)
          refine C1.out.mono ?_
          rintro e w2 ⟨rfl, rfl⟩
          go_wp2
          go_ret
          rw [HF.out]
          exact ⟨rfl, rfl⟩
        · have HF := Lib.hid (show topsZ ks a = topsF ks (ks.length + 1 - (k + 1)) (j : Int) by rw [HS.out, HU.out, if_neg x0, hs, if_neg hj1, Int.toNat_natCast, if_neg hn])
          obtain ⟨n1, n2⟩ := toList_beq hn
          unfold sysB at n1 n2
          rw [lit_sys] at n1 n2
          generalize (ks.getD j default).name = nm at *
          clear hs x0 hn y
          go_wp2_with (fail)
          refine C1.out.mono ?_
          rintro e w2 ⟨rfl, rfl⟩
          go_wp2
          go_round
          case rel => exact ⟨_, k + 1, rfl, by go_num, by omega, HF⟩
          case measure => simp [intOf]; omega
    · obtain rfl : k = ks.length + 1 := by omega
      have HF := Lib.hid (show topsZ ks a = false by rw [HS.out, Nat.sub_self]; rfl)
      clear hkl hk
      go_wp2
      go_ret
      rw [HF.out]
      exact ⟨rfl, rfl⟩
end Go.Proofs.YtddjdlbmadlefaaGreatDoor
namespace Go.Proofs.YtddjdlbmadlefaaGreatDoor
open Go.RowKit
set_option linter.unusedVariables false
set_option linter.unusedSimpArgs false

def keepAt (ks : List KindV) (m : MethN) (u : Nat) : Bool := if hasZ (ks.getD u default).meths m.name m.desc < 0 then true else ((ks.getD u default).meths.getD (hasZ (ks.getD u default).meths m.name m.desc).toNat default).flags == m.flags
def keepsM (ks : List KindV) (x : Nat) (m : MethN) : Bool := if m.name = initB then true else (upZ ks (superZ ks x)).all (keepAt ks m)
def keepsZ (ks : List KindV) (x : Nat) : Bool := (ks.getD x default).meths.all (keepsM ks x)
theorem all_at {α : Type} [Inhabited α] {l : List α} {f : α → Bool} {j : Nat} (h : j < l.length) : (l.drop j).all f = (f (l.getD j default) && (l.drop (j + 1)).all f) := by
  rw [List.drop_eq_getElem_cons h, List.all_cons]
  rw [show l.getD j default = l[j] by simp [List.getD, h]]

set_option maxHeartbeats 16000000 in
set_option maxRecDepth 100000 in
theorem refKeeps (pb : Nat) (ks : List KindV) (cs : List ClassV) (x : Nat) (w : World) (hd : DocP w pb ks cs) (hs : SmallK ks) (he : EndsAll ks) (hx : x < ks.length) :
    Calls Tryz.prog 62 #[.pointer (some ⟨pb, 0, none⟩), .int .i64 x] w fun e w' => e = .returned (.bool (keepsZ ks x)) ∧ Only (fun _ => False) w w' := by
  have HD := Lib.hid hd
  have HS := Lib.hid hs
  have HE := Lib.hid he
  have hkl := hs.1
  obtain ⟨vl, vi, q0, q1, hk, hc⟩ := hd
  obtain ⟨ao, cap, rfl, p1, p2⟩ := hk.len
  obtain ⟨b, o, vf, vm, rfl, y, -, hm⟩ := hk.at hx
  have q2 := y.c3
  obtain ⟨am, cm, rfl, m1, m2, m3, -⟩ := id hm
  have hxz : (x : Int) < (ks.length : Int) := by omega
  have hx0 : (0 : Int) ≤ (x : Int) := by omega
  have HK0 : Hid (keepsZ ks x = ((ks.getD x default).meths.drop 0).all (keepsM ks x)) := Lib.hid (by rw [List.drop_zero]; rfl)
  have HM := Lib.hid hm
  have hml := (hs.2 _ (getD_mem hx)).2
  have C1 := Lib.hid (fun W (h : DocP W pb ks cs) => refSuperN pb ks cs x W h (by omega))
  have HSL := Lib.hid (superZ_lt ks x)
  have hli := lit_init
  have HKX : Hid (∀ m, keepsM ks x m = if m.name = initB then true else (upZ ks (superZ ks x)).all (keepAt ks m)) := Lib.hid (fun m => rfl)
  generalize keepsM ks x = fm at *
  generalize superZ ks x = sx at *
  generalize ks.getD x default = px at *
  generalize px.meths = ms at *
  generalize keepsZ ks x = kz at *
  clear hk hc q1 y hs he hm m3
  go_enter Tryz.func62, Tryz.ntmps62
  go_wp2
  clear q0 q2
  go_loopw [6] (fun iv wr => ∃ i : Nat, iv = .int .i64 i ∧ i ≤ ms.length ∧ Hid (kz = (ms.drop i).all fm) ∧ Hid (Only (fun _ => False) w wr)) (fun iv _ => ms.length - (intOf iv).toNat)
  case atStart => exact ⟨0, rfl, Nat.zero_le _, HK0, Lib.hid (Only.refl _ _)⟩
  case round =>
    obtain ⟨i, rfl, hi, HL, HO⟩ := hrel
    by_cases hlt : i < ms.length
    · have hiz : (i : Int) < (ms.length : Int) := by omega
      have hi0 : (0 : Int) ≤ (i : Int) := by omega
      have HST := Lib.hid (all_at (f := fm) hlt)
      obtain ⟨bm, om, rfl, z⟩ := Sl.at (HM.out.only HO.out) hlt
      have C2 := Lib.hid (C1.out _ (HD.out.only HO.out))
      have HZ := Lib.hid z
      have HZW : Hid (∀ W, Only (fun _ => False) w W → MethNAt W bm om i (ms.getD i default)) := Lib.hid (fun W hW => by
        obtain ⟨b', o', hb', z'⟩ := Sl.at (HM.out.only hW) hlt
        injection hb' with hb'
        injection hb' with h1 h2 h3
        subst h1 h2
        exact z')
      have HFM := Lib.hid (HKX.out (ms.getD i default))
      generalize ms.getD i default = m at *
      clear z
      by_cases hni : m.name = initB
      · have HL2 := Lib.hid (show kz = (ms.drop (i + 1)).all fm by rw [HL.out, HST.out, HFM.out, if_pos hni, Bool.true_and])
        have z0 := HZ.out.c0
        rw [hni] at z0
        unfold initB at z0
        clear hni
        go_wp2_with (fail)
        refine C2.out.mono ?_
        rintro e w2 ⟨rfl, hww⟩
        subst hww
        go_wp2
        go_loopw [7] (fun uv wr2 => uv = .int .i64 sx ∧ _ = wr2) (fun _ _ => 0)
        case atStart => exact ⟨rfl, rfl⟩
        case round =>
          obtain ⟨rfl, hww⟩ := hrel
          subst hww
          by_cases hx : 0 ≤ sx
          · go_wp2
            go_roundw
            case rel => exact ⟨i + 1, by go_num, by omega, HL2, HO⟩
            case measure => simp [intOf]; omega
          · go_wp2
            go_roundw
            case rel => exact ⟨i + 1, by go_num, by omega, HL2, HO⟩
            case measure => simp [intOf]; omega
      · obtain ⟨n1, n2⟩ := toList_beq hni
        unfold initB at n1 n2
        rw [lit_init] at n1 n2
        have n3 : (m.name.toList != [60, 105, 110, 105, 116, 62]) = true := by rw [bne, n1]; rfl
        have HK1 : Hid (kz = ((upZ ks sx).all (keepAt ks m) && (ms.drop (i + 1)).all fm)) := Lib.hid (by rw [HL.out, HST.out, HFM.out, if_neg hni])
        obtain ⟨rest, hrest⟩ : ∃ rest, (ms.drop (i + 1)).all fm = rest := ⟨_, rfl⟩
        rw [hrest] at HK1
        have HRS := Lib.hid hrest
        clear hrest
        clear hni
        go_wp2_with (fail)
        refine C2.out.mono ?_
        rintro e w2 ⟨rfl, hww⟩
        subst hww
        go_wp2
        go_loopw [7] (fun uv wr2 => ∃ u : Int, uv = .int .i64 u ∧ u < ks.length ∧ Hid (kz = ((upZ ks u).all (keepAt ks m) && rest)) ∧ Hid (Only (fun _ => False) w wr2)) (fun uv _ => (upZ ks (intOf uv)).length)
        case atStart => exact ⟨sx, rfl, HSL.out, HK1, HO⟩
        case round =>
          obtain ⟨u, rfl, hul, HKU, HO2⟩ := hrel
          by_cases hu : 0 ≤ u
          · obtain ⟨j, rfl⟩ := Int.eq_ofNat_of_zero_le hu
            have hjk : j < ks.length := by omega
            have hjz : (j : Int) < (ks.length : Int) := by omega
            have HUP := Lib.hid (upZ_step HE.out hjk)
            have HUL : Hid ((upZ ks (superZ ks j)).length < (upZ ks (j : Int)).length) := Lib.hid (by rw [HUP.out, List.length_cons]; omega)
            have HSJ := Lib.hid (superZ_lt ks j)
            have CS := Lib.hid (fun W (h : DocP W pb ks cs) => refSuperN pb ks cs j W h (by omega))
            have HAT : Hid (keepAt ks m j = _) := Lib.hid (by unfold keepAt; rfl)
            obtain ⟨vl, vi, q0, q1, hk, hc⟩ := HD.out.only HO2.out
            obtain ⟨ao2, cap2, hv2, r1, r2⟩ := hk.len
            subst hv2
            obtain ⟨b2, o2, vf2, vm2, rfl, y, -, hm2⟩ := hk.at hjk
            have q2 := y.c3
            obtain ⟨aj, cj, rfl, j1, j2, j3, -⟩ := id hm2
            have hmlj := (HS.out.2 _ (getD_mem hjk)).2
            obtain ⟨z0, z1, z2⟩ := HZW.out _ HO2.out
            have hO2 := HO2.out
            generalize superZ ks j = sj at *
            generalize ks.getD j default = pj at *
            have CH := Lib.hid (fun W (h : MethNs W (.slice aj pj.meths.length cj) pj.meths) => refHas _ pj.meths m.name m.desc W h (by omega))
            have HMJ : Hid (∀ W, Only (fun _ => False) wr W → MethNs W (.slice aj pj.meths.length cj) pj.meths) := Lib.hid (fun W h => hm2.only h)
            have hON := Only.refl (fun _ => False) wr
            rcases hasZ_cases pj.meths m.name m.desc with hh | ⟨a, ha, hh⟩
            · have HKN := Lib.hid (show kz = ((upZ ks sj).all (keepAt ks m) && rest) by rw [HKU.out, HUP.out, List.all_cons, HAT.out, hh, if_pos (by decide), Bool.true_and])
              rw [hh] at CH
              have MKS : Hid (∀ W, Only (fun _ => False) wr W → (W.cell? ⟨pb, 0, none⟩ = some (.slice (some ⟨b2, o2, none⟩) ks.length cap2) ∧ W.cell? ⟨b2, o2 + j * 5 + 3, none⟩ = some (.slice aj pj.meths.length cj) ∧ W.cell? ⟨bm, om + i * 3, none⟩ = some (.string m.name) ∧ W.cell? ⟨bm, om + i * 3 + 1, none⟩ = some (.string m.desc) ∧ W.cell? ⟨bm, om + i * 3 + 2, none⟩ = some (.int .i64 m.flags)) ∧ Only (fun _ => False) wr W) := Lib.hid (fun W h => ⟨⟨h.cell q0 (fun h => h), h.cell q2 (fun h => h), h.cell z0 (fun h => h), h.cell z1 (fun h => h), h.cell z2 (fun h => h)⟩, h⟩)
              clear hh hk hc q1 y j3 hm2
              go_wp2
              go_region_held3 (fun W => (W.cell? ⟨pb, 0, none⟩ = some (.slice (some ⟨b2, o2, none⟩) ks.length cap2) ∧ W.cell? ⟨b2, o2 + j * 5 + 3, none⟩ = some (.slice aj pj.meths.length cj) ∧ W.cell? ⟨bm, om + i * 3, none⟩ = some (.string m.name) ∧ W.cell? ⟨bm, om + i * 3 + 1, none⟩ = some (.string m.desc) ∧ W.cell? ⟨bm, om + i * 3 + 2, none⟩ = some (.int .i64 m.flags)) ∧ Only (fun _ => False) wr W)
                (first | exact MKS.out _ hON.drew | exact MKS.out _ hON | exact hkp | exact MKS.out _ (And.right (by assumption)))
                (first | (go_at_call 63; refine (CH.out _ (HMJ.out _ (And.right (by assumption)))).mono ?_; rintro e w8 ⟨rfl, hww⟩; subst hww; have hkp := MKS.out _ (And.right (by assumption))))
              all_goals
                go_wp2
                go_quiet (fail)
                all_goals
                  have HO9 := Lib.hid (HO2.out.trans (show Only (fun _ => False) wr (wr.drewN (1 + nq)) from (Only.refl _ wr).drewN _) (fun _ h _ => h))
                  go_wp2_with (fail)
                  refine (CS.out _ (HD.out.only HO9.out)).mono ?_
                  rintro e w8 ⟨rfl, hww⟩
                  subst hww
                  go_wp2
                  go_roundw
                  case rel => exact ⟨_, rfl, HSJ.out, HKN, HO9⟩
                  case measure => exact HUL.out
            · obtain ⟨bt, ot, rfl, t0, t1, t2⟩ := Sl.at hm2 ha
              have ha0 : (0 : Int) ≤ (a : Int) := by omega
              have haz : (a : Int) < (pj.meths.length : Int) := by omega
              have HKA : Hid (keepAt ks m j = ((pj.meths.getD a default).flags == m.flags)) := Lib.hid (by rw [HAT.out, hh, if_neg (by omega), Int.toNat_natCast])
              rw [hh] at CH
              generalize (pj.meths.getD a default).flags = tf at *
              clear hh t0 t1
              have MKS : Hid (∀ W, Only (fun _ => False) wr W → (W.cell? ⟨pb, 0, none⟩ = some (.slice (some ⟨b2, o2, none⟩) ks.length cap2) ∧ W.cell? ⟨b2, o2 + j * 5 + 3, none⟩ = some (.slice (some ⟨bt, ot, none⟩) pj.meths.length cj) ∧ W.cell? ⟨bm, om + i * 3, none⟩ = some (.string m.name) ∧ W.cell? ⟨bm, om + i * 3 + 1, none⟩ = some (.string m.desc) ∧ W.cell? ⟨bm, om + i * 3 + 2, none⟩ = some (.int .i64 m.flags)) ∧ Only (fun _ => False) wr W) := Lib.hid (fun W h => ⟨⟨h.cell q0 (fun h => h), h.cell q2 (fun h => h), h.cell z0 (fun h => h), h.cell z1 (fun h => h), h.cell z2 (fun h => h)⟩, h⟩)
              clear hk hc q1 y j3
              go_wp2
              go_region_held3 (fun W => (W.cell? ⟨pb, 0, none⟩ = some (.slice (some ⟨b2, o2, none⟩) ks.length cap2) ∧ W.cell? ⟨b2, o2 + j * 5 + 3, none⟩ = some (.slice (some ⟨bt, ot, none⟩) pj.meths.length cj) ∧ W.cell? ⟨bm, om + i * 3, none⟩ = some (.string m.name) ∧ W.cell? ⟨bm, om + i * 3 + 1, none⟩ = some (.string m.desc) ∧ W.cell? ⟨bm, om + i * 3 + 2, none⟩ = some (.int .i64 m.flags)) ∧ Only (fun _ => False) wr W)
                (first | exact MKS.out _ hON.drew | exact MKS.out _ hON | exact hkp | exact MKS.out _ (And.right (by assumption)))
                (first | (go_at_call 63; refine (CH.out _ (HMJ.out _ (And.right (by assumption)))).mono ?_; rintro e w8 ⟨rfl, hww⟩; subst hww; have hkp := MKS.out _ (And.right (by assumption))))
              all_goals
                have u0 := MKS.out _ (Only.refl (fun _ => False) wr).drew
                obtain ⟨⟨v0, v2, w0, w1, w2⟩, -⟩ := u0
                have vt := ((Only.refl (fun _ => False) wr).drew).cell t2 (fun h => h)
                by_cases hfl : tf = m.flags
                · have HKN := Lib.hid (show kz = ((upZ ks sj).all (keepAt ks m) && rest) by rw [HKU.out, HUP.out, List.all_cons, HKA.out, hfl, beq_self_eq_true, Bool.true_and])
                  have hfb : (tf != m.flags) = false := by rw [bne_eq_false_iff_eq]; exact hfl
                  clear hfl
                  go_wp2
                  go_quiet (fail)
                  have HO9 := Lib.hid (HO2.out.trans (show Only (fun _ => False) wr (wr.drewN (1 + nq)) from (Only.refl _ wr).drewN _) (fun _ h _ => h))
                  go_wp2_with (fail)
                  refine (CS.out _ (HD.out.only HO9.out)).mono ?_
                  rintro e w8 ⟨rfl, hww⟩
                  subst hww
                  go_wp2
                  go_roundw
                  case rel => exact ⟨_, rfl, HSJ.out, HKN, HO9⟩
                  case measure => exact HUL.out
                · have HKF := Lib.hid (show kz = false by rw [HKU.out, HUP.out, List.all_cons, HKA.out, show (tf == m.flags) = false by rw [beq_eq_false_iff_ne]; exact hfl, Bool.false_and, Bool.false_and])
                  have hfb : (tf != m.flags) = true := by rw [bne_iff_ne]; exact hfl
                  clear hfl
                  go_wp2
                  go_quiet (fail)
                  have HO9 := Lib.hid (HO2.out.trans (show Only (fun _ => False) wr (wr.drew.drewN nq) from (Only.refl _ wr).drew.drewN _) (fun _ h _ => h))
                  go_wp2
                  go_ret
                  rw [HKF.out]
                  exact ⟨rfl, HO9.out⟩
          · have HL2 := Lib.hid (show kz = (ms.drop (i + 1)).all fm by rw [HKU.out, upZ_end (by omega), HRS.out]; rfl)
            go_wp2
            go_roundw
            case rel => exact ⟨i + 1, by go_num, by omega, HL2, HO2⟩
            case measure => simp [intOf]; omega
    · have hie : i = ms.length := by omega
      subst hie
      have HT := Lib.hid (show kz = true by rw [HL.out, List.drop_length]; rfl)
      go_wp2
      go_ret
      rw [HT.out]
      exact ⟨rfl, HO.out⟩
end Go.Proofs.YtddjdlbmadlefaaGreatDoor
