import Derived.Test.YtgdgffnaknkbcaaGreatDoorMlLnkCLnkE
import Derived.Test.YtgdgffnaknkbcaaGreatDoorMlMemPolV
import Derived.OwnWalk
import Derived.ArgAppend
import Derived.Test.YtgdgffnaknkbcaaGreatDoorMlKndCLnkB
import Derived.Test.YtgdgffnaknkbcaaGreatDoorMlPolXClsB
namespace Go.Proofs.YtgdgffnaknkbcaaGreatDoor
open Go.RowKit
set_option linter.unusedVariables false
set_option linter.unusedSimpArgs false
def slotAt (ks : List KindV) (j i : Nat) : Nat :=
 if ((ks.getD j default).fields.getD i default).flags = 8 then staticsN ks j + countL 8 ((ks.getD j default).fields.take i) else slotsN ks (superZ ks j) + countL 0 ((ks.getD j default).fields.take i)
def fieldAt (ks : List KindV) (j : Nat) (n d : ByteArray) : Option MemV :=
 if hasZ (ks.getD j default).fields n d < 0 then none
 else some ⟨j, hasZ (ks.getD j default).fields n d, d, ((ks.getD j default).fields.getD (hasZ (ks.getD j default).fields n d).toNat default).flags == 8, (slotAt ks j (hasZ (ks.getD j default).fields n d).toNat : Int)⟩
def docField (ks : List KindV) (c n d : ByteArray) : Option MemV := firstO (upZ ks (findZ ks c)) (fun j => fieldAt ks j n d)
theorem setS {w W : World} {B : Nat} {v : Value} (h : Only (fun _ => False) w W) (hB : w.heap.size ≤ B) (i : Nat) : Only (fun _ => False) w (W.setCell ⟨B, i, none⟩ v) := h.setCell (fun hl => by have h3 : B < w.heap.size := hl; omega) _
theorem only2 {w W : World} {a0 a1 : Addr} {v0 v1 : Value} (h : (W.cell? a0 = some v0 ∧ W.cell? a1 = some v1) ∧ Only (fun _ => False) w W) : Only (fun _ => False) w W := h.2
set_option maxHeartbeats 16000000 in
set_option maxRecDepth 100000 in
theorem refDocField (pb : Nat) (ks : List KindV) (cs : List ClassV) (c n d : ByteArray) (w : World) (hd : DocP w pb ks cs) (hs : SmallK ks) (he : EndsAll ks) :
  Calls Tryz.prog 14 #[.pointer (some ⟨pb, 0, none⟩), .string c, .string n, .string d] w (MemTo w (docField ks c n d)) := by
 have ho0 := (Only.refl (fun _ => False) w).alloc (.cells #[.int .i64 0, .int .i64 0, .string ⟨#[]⟩, .bool false, .int .i64 0] 34)
 have hr0 := heap_alloc_new w (.cells #[.int .i64 0, .int .i64 0, .string ⟨#[]⟩, .bool false, .int .i64 0] 34)
 have HDw := Lib.hid hd
 have HD := Lib.hid (hd.only ho0)
 have HR := Lib.hid hr0
 have HO := Lib.hid ho0
 have C1 := Lib.hid (refFind pb ks cs c _ HD.out (by have := hs.1; omega))
 have HS := Lib.hid hs
 have HE := Lib.hid he
 have hfl : findZ ks c < ks.length := by
  rcases findZ_cases ks c with h | ⟨j, hj, h⟩
  ·rw [h]; omega
  ·rw [h]; omega
 have HFL := Lib.hid hfl
 have hkl := hs.1
 have HB0 := Lib.hid (show docField ks c n d = firstO (upZ ks (findZ ks c)) (fun j => fieldAt ks j n d) from rfl)
 clear hd hs he ho0 hr0 hfl
 go_enter Tryz.func14, Tryz.ntmps14
 go_wp2_with (fail)
 refine C1.out.mono ?_
 rintro e w2 ⟨rfl, rfl⟩
 go_wp2
 go_loopw [10] (fun xv wr => ∃ x : Int, xv = .int .i64 x ∧ x < ks.length ∧ Hid (docField ks c n d = firstO (upZ ks x) (fun j => fieldAt ks j n d)) ∧ Hid (DocP wr pb ks cs) ∧ Hid (wr.heap[w.heap.size]? = some (.cells #[.int .i64 0, .int .i64 0, .string ⟨#[]⟩, .bool false, .int .i64 0] 34 (0, 0))) ∧ Hid (Only (fun _ => False) w wr)) (fun xv _ => (upZ ks (intOf xv)).length)
 case atStart => exact ⟨_, rfl, HFL.out, HB0, HD, HR, HO⟩
 case round =>
  obtain ⟨x, rfl, hxl, HL, HDW, HRW, HOW⟩ := hrel
  by_cases hx : 0 ≤ x
  ·obtain ⟨j, rfl⟩ := Int.eq_ofNat_of_zero_le hx
   have hjk : j < ks.length := by omega
   have hjkz : (j : Int) < (ks.length : Int) := by omega
   have HUP := Lib.hid (upZ_step HE.out hjk)
   obtain ⟨vl, vi, q0, q1, hk, hc⟩ := HDW.out
   obtain ⟨ao, cap, rfl, p1, p2⟩ := hk.len
   obtain ⟨b, o, vf, vm, rfl, y, hf, -⟩ := hk.at hjk
   have q2 := y.c2
   have hfll := (HS.out.2 _ (getD_mem hjk)).1
   have c2 := refHas vf _ n d wr hf (by omega)
   have CS := Lib.hid (fun W (h : DocP W pb ks cs) => refSuperN pb ks cs j W h (by omega))
   have HF0 : Hid (fieldAt ks j n d = _) := Lib.hid (by unfold fieldAt slotAt; rfl)
   have CT := Lib.hid (fun W (h : DocP W pb ks cs) => refStaticsN pb ks cs j W h HS.out (by omega))
   have hstl := staticsN_le HS.out (show j ≤ ks.length by omega)
   have CN := Lib.hid (fun W (h : DocP W pb ks cs) => refSlotsN pb ks cs HS.out HE.out _ (superZ ks j) (superZ_lt ks j) rfl W h)
   have hsll := slotsN_small HS.out HE.out (superZ_lt ks j)
   have HLS := Lib.hid (superZ_lt ks j)
   have HUL : Hid ((upZ ks (superZ ks j)).length < (upZ ks (j : Int)).length) := Lib.hid (by rw [HUP.out, List.length_cons]; omega)
   rcases hasZ_cases (ks.getD j default).fields n d with hh | ⟨i, hi, hh⟩
   ·have HL2 := Lib.hid (show docField ks c n d = firstO (upZ ks (superZ ks j)) (fun j => fieldAt ks j n d) by rw [HL.out, HUP.out]; show (match fieldAt ks j n d with | some m => some m | none => _) = _; rw [HF0.out, hh]; rfl)
    rw [hh] at c2
    have C2 := Lib.hid c2
    generalize superZ ks j = sz at *
    generalize ks.getD j default = p at *
    clear hk hc q1 y c2 hh hf
    go_wp2_with (fail)
    refine C2.out.mono ?_
    rintro e w3 ⟨rfl, hww⟩
    subst hww
    go_wp2_with (fail)
    refine (CS.out _ HDW.out).mono ?_
    rintro e w4 ⟨rfl, hww⟩
    subst hww
    go_wp2
    go_roundw
    case rel => exact ⟨_, rfl, HLS.out, HL2, HDW, HRW, HOW⟩
    case measure => exact HUL.out
   ·have HF1 := Lib.hid (show docField ks c n d = some ⟨j, i, d, ((ks.getD j default).fields.getD i default).flags == 8, (slotAt ks j i : Int)⟩ by rw [HL.out, HUP.out]; show (match fieldAt ks j n d with | some m => some m | none => _) = _; unfold fieldAt; rw [hh, if_neg (by omega)]; rfl)
    rw [hh] at c2
    have C2 := Lib.hid c2
    have hiz : (i : Int) < ((ks.getD j default).fields.length : Int) := by omega
    have hi0 : (0 : Int) ≤ (i : Int) := by omega
    have hi1 : ¬ (i : Int) < 0 := by omega
    obtain ⟨af, cf, rfl, f1, f2, f3, -⟩ := id hf
    obtain ⟨bf, of_, rfl, z⟩ := Sl.at hf hi
    obtain ⟨z0, z1, z2⟩ := z
    have hcl8 := countL_le 8 ((ks.getD j default).fields.take i)
    have hcl0 := countL_le 0 ((ks.getD j default).fields.take i)
    have CC8 : Hid (∀ W, MethNs W (.slice (some ⟨bf, of_, none⟩) (ks.getD j default).fields.length cf) (ks.getD j default).fields → _) := Lib.hid (fun W h => refCount _ (ks.getD j default).fields i 8 W h (by omega) (by omega))
    have CC0 : Hid (∀ W, MethNs W (.slice (some ⟨bf, of_, none⟩) (ks.getD j default).fields.length cf) (ks.getD j default).fields → _) := Lib.hid (fun W h => refCount _ (ks.getD j default).fields i 0 W h (by omega) (by omega))
    have HSL := Lib.hid (show slotAt ks j i = if ((ks.getD j default).fields.getD i default).flags = 8 then staticsN ks j + countL 8 ((ks.getD j default).fields.take i) else slotsN ks (superZ ks j) + countL 0 ((ks.getD j default).fields.take i) from rfl)
    rw [List.length_take] at hcl8 hcl0
    have HMF := Lib.hid hf
    have hO3 := HOW.out
    generalize slotAt ks j i = sl at *
    generalize superZ ks j = sz at *
    generalize ks.getD j default = p at *
    generalize countL 8 (p.fields.take i) = k8 at *
    generalize countL 0 (p.fields.take i) = k0 at *
    generalize staticsN ks j = st at *
    generalize slotsN ks sz = sn at *
    generalize p.fields.getD i default = fx at *
    have MKS : Hid (∀ W, Only (fun _ => False) wr W → (W.cell? ⟨pb, 0, none⟩ = some (.slice (some ⟨b, o, none⟩) ks.length cap) ∧ W.cell? ⟨b, o + j * 5 + 2, none⟩ = some (.slice (some ⟨bf, of_, none⟩) p.fields.length cf)) ∧ Only (fun _ => False) wr W) := Lib.hid (fun W h => ⟨⟨h.cell q0 (fun h => h), h.cell q2 (fun h => h)⟩, h⟩)
    have hs8 : IntKind.i64.wrap ((st : Int) + (k8 : Int)) = (st : Int) + (k8 : Int) := by rw [IntKind.wrap_i64]; omega
    have hs0 : IntKind.i64.wrap ((sn : Int) + (k0 : Int)) = (sn : Int) + (k0 : Int) := by rw [IntKind.wrap_i64]; omega
    have halN : ∀ bo, Only (fun _ => False) wr (wr.alloc (.cells #[.int .i64 j, .int .i64 i, .string d, .bool bo, .int .i64 0] 34)) := fun bo => (Only.refl _ wr).alloc _
    have hnw : ∀ bo, (wr.alloc (.cells #[.int .i64 j, .int .i64 i, .string d, .bool bo, .int .i64 0] 34)).heap[wr.heap.size]? = some (.cells #[.int .i64 j, .int .i64 i, .string d, .bool bo, .int .i64 0] 34 (0, 0)) := fun bo => heap_alloc_new wr _
    have HALN := Lib.hid halN
    have HNW := Lib.hid hnw
    by_cases h8 : fx.flags = 8
    ·have HV : Hid (docField ks c n d = some ⟨j, i, d, true, ((st + k8 : Nat) : Int)⟩) := Lib.hid (by rw [HF1.out, HSL.out, if_pos h8, h8]; rfl)
     rw [h8] at z2
     obtain ⟨s0, s1, s2, s3, s4⟩ := cells5T (HNW.out true)
     obtain ⟨t0, t1, t2, t3, t4⟩ := marks5T (HNW.out true)
     have hM := MKS.out _ (HALN.out true)
     obtain ⟨⟨u0, u2⟩, uo⟩ := hM
     have HB := Lib.hid (HNW.out true)
     clear hk hc q1 y c2 hh hf h8 f3 halN hnw z0 z1
     go_wp2_with (fail)
     refine C2.out.mono ?_
     rintro e w3 ⟨rfl, hww⟩
     subst hww
     go_wp2
     go_region_held3 (fun W => (W.cell? ⟨pb, 0, none⟩ = some (.slice (some ⟨b, o, none⟩) ks.length cap) ∧ W.cell? ⟨b, o + j * 5 + 2, none⟩ = some (.slice (some ⟨bf, of_, none⟩) p.fields.length cf)) ∧ Only (fun _ => False) wr W)
      (first | exact ⟨⟨u0, u2⟩, uo⟩ | exact ⟨⟨u0, u2⟩, uo.drew⟩ | exact hkp | exact MKS.out _ (setS (only2 (by assumption)) (Nat.le_refl _) 4))
      (first
       | (go_at_call 59; refine (CC8.out _ (HMF.out.only (only2 (by assumption)))).mono ?_; rintro e wc ⟨rfl, hww⟩; subst hww; have hkp := MKS.out _ (only2 (by assumption)))
       | (go_at_call 58; refine (CT.out _ (HDW.out.only (only2 (by assumption)))).mono ?_; rintro e w5 ⟨rfl, h5⟩; have hkp := MKS.out _ ((only2 (by assumption)).trans h5 (fun _ h _ => h)); have hb5 := h5.heap HB.out (fun h => h); obtain ⟨t0, t1, t2, t3, t4⟩ := marks5T hb5; obtain ⟨s0, s1, s2, s3, s4⟩ := cells5T hb5; have HB5 := Lib.hid hb5; have HR5 := Lib.hid (h5.heap ((HALN.out true).heap HRW.out (fun h => h)) (fun h => h)); clear hb5))
     all_goals
      obtain ⟨W6, hW6⟩ : ∃ W6, w5.setCell ⟨wr.heap.size, 4, none⟩ (.int .i64 ((st : Int) + (k8 : Int))) = W6 := ⟨_, rfl⟩
      have hb6 : W6.heap[wr.heap.size]? = some (.cells #[.int .i64 j, .int .i64 i, .string d, .bool true, .int .i64 ((st : Int) + (k8 : Int))] 34 (0, 0)) := by rw [← hW6]; exact heap_setCell_at (i := 4) HB5.out
      have hr6 : W6.heap[w.heap.size]? = some (.cells #[.int .i64 0, .int .i64 0, .string ⟨#[]⟩, .bool false, .int .i64 0] 34 (0, 0)) := by rw [← hW6]; exact (Below.heap_setCell _ _ _ _ (by have h1 := heap_lt HRW.out; intro h2; simp at h2; omega)).trans HR5.out
      have ho6 : Only (fun _ => False) wr W6 := by rw [← hW6]; exact setS (only2 (W := w5) (by assumption)) (Nat.le_refl _) 4
      have HO6 := Lib.hid (HOW.out.trans ho6 (fun _ h _ => h))
      rw [hW6]
      have HR6 := Lib.hid hr6
      clear s0 s1 s2 s3 s4 t0 t1 t2 t3 t4 hW6 ho6
      obtain ⟨s0, s1, s2, s3, s4⟩ := cells5T hb6
      obtain ⟨t0, t1, t2, t3, t4⟩ := marks5T hr6
      obtain ⟨r0, r1, r2, r3, r4⟩ := cells5T hr6
      clear hb6 hr6
      go_wp2
      exact bodyPost_ret (mem_result2 (t := ⟨j, i, d, true, (st : Int) + (k8 : Int)⟩) (b := w.heap.size) Tryz.results14 (store5T HR6.out) rfl rfl) rfl (MemTo.yes HV.out (only5T HO6.out (fun hl => absurd hl (Nat.lt_irrefl _))))
    ·have h8b : (fx.flags == 8) = false := by rw [beq_eq_false_iff_ne]; exact h8
     have HV : Hid (docField ks c n d = some ⟨j, i, d, false, ((sn + k0 : Nat) : Int)⟩) := Lib.hid (by rw [HF1.out, HSL.out, if_neg h8, h8b])
     obtain ⟨s0, s1, s2, s3, s4⟩ := cells5T (HNW.out false)
     obtain ⟨t0, t1, t2, t3, t4⟩ := marks5T (HNW.out false)
     have hM := MKS.out _ (HALN.out false)
     obtain ⟨⟨u0, u2⟩, uo⟩ := hM
     have HB := Lib.hid (HNW.out false)
     clear hk hc q1 y c2 hh hf h8 f3 halN hnw z0 z1
     go_wp2_with (fail)
     refine C2.out.mono ?_
     rintro e w3 ⟨rfl, hww⟩
     subst hww
     go_wp2
     go_region_held3 (fun W => (W.cell? ⟨pb, 0, none⟩ = some (.slice (some ⟨b, o, none⟩) ks.length cap) ∧ W.cell? ⟨b, o + j * 5 + 2, none⟩ = some (.slice (some ⟨bf, of_, none⟩) p.fields.length cf)) ∧ Only (fun _ => False) wr W)
      (first | exact ⟨⟨u0, u2⟩, uo⟩ | exact ⟨⟨u0, u2⟩, uo.drew⟩ | exact hkp | exact MKS.out _ (setS (only2 (by assumption)) (Nat.le_refl _) 4))
      (first
       | (go_at_call 59; refine (CC0.out _ (HMF.out.only (only2 (by assumption)))).mono ?_; rintro e wc ⟨rfl, hww⟩; subst hww; have hkp := MKS.out _ (only2 (by assumption)))
       | (go_at_call 51; refine (CS.out _ (HDW.out.only (only2 (by assumption)))).mono ?_; rintro e wc ⟨rfl, hww⟩; subst hww; have hkp := MKS.out _ (only2 (by assumption)))
       | (go_at_call 58; refine (CN.out _ (HDW.out.only (only2 (by assumption)))).mono ?_; rintro e w5 ⟨rfl, h5⟩; have hkp := MKS.out _ ((only2 (by assumption)).trans h5 (fun _ h _ => h)); have hb5 := h5.heap HB.out (fun h => h); obtain ⟨t0, t1, t2, t3, t4⟩ := marks5T hb5; obtain ⟨s0, s1, s2, s3, s4⟩ := cells5T hb5; have HB5 := Lib.hid hb5; have HR5 := Lib.hid (h5.heap ((HALN.out false).heap HRW.out (fun h => h)) (fun h => h)); clear hb5))
     all_goals
      obtain ⟨W6, hW6⟩ : ∃ W6, w5.setCell ⟨wr.heap.size, 4, none⟩ (.int .i64 ((sn : Int) + (k0 : Int))) = W6 := ⟨_, rfl⟩
      have hb6 : W6.heap[wr.heap.size]? = some (.cells #[.int .i64 j, .int .i64 i, .string d, .bool false, .int .i64 ((sn : Int) + (k0 : Int))] 34 (0, 0)) := by rw [← hW6]; exact heap_setCell_at (i := 4) HB5.out
      have hr6 : W6.heap[w.heap.size]? = some (.cells #[.int .i64 0, .int .i64 0, .string ⟨#[]⟩, .bool false, .int .i64 0] 34 (0, 0)) := by rw [← hW6]; exact (Below.heap_setCell _ _ _ _ (by have h1 := heap_lt HRW.out; intro h2; simp at h2; omega)).trans HR5.out
      have ho6 : Only (fun _ => False) wr W6 := by rw [← hW6]; exact setS (only2 (W := w5) (by assumption)) (Nat.le_refl _) 4
      have HO6 := Lib.hid (HOW.out.trans ho6 (fun _ h _ => h))
      rw [hW6]
      have HR6 := Lib.hid hr6
      clear s0 s1 s2 s3 s4 t0 t1 t2 t3 t4 hW6 ho6
      obtain ⟨s0, s1, s2, s3, s4⟩ := cells5T hb6
      obtain ⟨t0, t1, t2, t3, t4⟩ := marks5T hr6
      obtain ⟨r0, r1, r2, r3, r4⟩ := cells5T hr6
      clear hb6 hr6
      go_wp2
      exact bodyPost_ret (mem_result2 (t := ⟨j, i, d, false, (sn : Int) + (k0 : Int)⟩) (b := w.heap.size) Tryz.results14 (store5T HR6.out) rfl rfl) rfl (MemTo.yes HV.out (only5T HO6.out (fun hl => absurd hl (Nat.lt_irrefl _))))
  ·have HB := Lib.hid (show docField ks c n d = none by rw [HL.out, upZ_end (by omega)]; rfl)
   have hr4 := HRW.out
   obtain ⟨f0, f1, f2, f3, f4⟩ := marks5T hr4
   obtain ⟨r0, r1, r2, r3, r4⟩ := cells5T hr4
   clear hr4
   go_wp2
   exact bodyPost_ret (mem_result2 (t := zeroM) (b := w.heap.size) Tryz.results14 (store5T HRW.out) rfl rfl) rfl (MemTo.no HB.out (only5T HOW.out (fun hl => absurd hl (Nat.lt_irrefl _))))
section
variable {P : Program} (w : World)
end
structure TypeAt (w : World) (b o i : Nat) (k : TypeV) : Prop where
 c0 : w.cell? ⟨b, o + i * 5, none⟩ = some (.int .i64 k.k)
 c1 : w.cell? ⟨b, o + i * 5 + 1, none⟩ = some (.string k.name)
 c2 : w.cell? ⟨b, o + i * 5 + 2, none⟩ = some (.int .i64 k.dims)
 c3 : w.cell? ⟨b, o + i * 5 + 3, none⟩ = some (.int .i64 k.elem)
 c4 : w.cell? ⟨b, o + i * 5 + 4, none⟩ = some (.int .i64 k.at_)
def Types (w : World) (v : Value) (l : List TypeV) : Prop := Sl v l.length (fun b o i => TypeAt w b o i (l.getD i default))
theorem TypeAt.only {S : Nat → Prop} {w w' : World} {b o i : Nat} {k : TypeV} (h : TypeAt w b o i k) (ho : Only S w w') (hs : ¬ S b) : TypeAt w' b o i k :=
 ⟨ho.cell h.c0 hs, ho.cell h.c1 hs, ho.cell h.c2 hs, ho.cell h.c3 hs, ho.cell h.c4 hs⟩
theorem Types.only {w w' : World} {v : Value} {l : List TypeV} (h : Types w v l) (ho : Only (fun _ => False) w w') : Types w' v l := h.imp (fun _ _ _ _ _ h => h.only ho (fun h => h))
theorem Types.nil (w : World) : Types w (.slice none 0 0) [] := Sl.nil _
def TRow (w : World) (B : Nat) (v : Value) (l : List TypeV) : Prop := w.ownsRow B 63 5 v l.length (l.flatMap cellsTy)
theorem cellsT_at : ∀ {cs : List TypeV} {i d : Nat}, i < cs.length → d < 5 → (cs.flatMap cellsTy)[i * 5 + d]? = (cellsTy (cs.getD i default))[d]?
 | c :: r, 0, d, _, hd => by
  rw [List.flatMap_cons, List.getElem?_append_left (by simp [cellsTy]; omega)]
  simp
 | c :: r, i + 1, d, hi, hd => by
  rw [List.flatMap_cons, List.getElem?_append_right (by simp [cellsTy]; omega)]
  have : (i + 1) * 5 + d - (cellsTy c).length = i * 5 + d := by simp [cellsTy]; omega
  rw [this, cellsT_at (by simpa using hi) hd]
  simp
theorem TRow.types {w : World} {B : Nat} {v : Value} {cs : List TypeV} (h : TRow w B v cs) : Types w v cs := by
 rcases h.2 with ⟨rfl, hn⟩ | ⟨g, cap, cur, rfl, hb, hg, hnc, hcm, hcs, htake⟩
 ·have : cs = [] := List.eq_nil_of_length_eq_zero hn
  subst this
  exact Sl.nil _
 ·refine ⟨_, cap, rfl, hnc, by unfold maxLen at hcm; omega, (fun e => by cases e), fun x hx _ => ?_⟩
  cases hx
  refine ⟨g, 0, rfl, fun i hi => ?_⟩
  have hc : ∀ d, d < 5 → w.cell? ⟨g, 0 + i * 5 + d, none⟩ = (cellsTy (cs.getD i default))[d]? := fun d hd => by
   rw [Nat.zero_add, ← cellsT_at hi hd]
   exact (show w.ownsRow B _ 5 _ _ _ from h).cellAt (g := g) (cap := cap) (i * 5 + d) (by omega)
  exact ⟨hc 0 (by decide), hc 1 (by decide), hc 2 (by decide), hc 3 (by decide), hc 4 (by decide)⟩
theorem TRow.only {S : Nat → Prop} {w w' : World} {B : Nat} {v : Value} {cs : List TypeV} (h : TRow w B v cs) (ho : Only S w w') (hs : ∀ k, v.ownBlock = some k → ¬ S k) : TRow w' B v cs := ho.owns h hs
theorem TRow.ge {w : World} {B : Nat} {v : Value} {cs : List TypeV} (h : TRow w B v cs) : ∀ k, v.ownBlock = some k → B ≤ k ∧ k < w.heap.size := fun k hk => World.ownsRow.lt h k hk
theorem TRow.nil (w : World) (B : Nat) : TRow w B (.slice none 0 0) [] := World.ownsRow_nil _ _ _ _
theorem Src.type {w : World} {m : Nat} (c : TypeV) (h : w.heap.size = m) : Src (w.alloc (.cells #[.int .i64 c.k, .string c.name, .int .i64 c.dims, .int .i64 c.elem, .int .i64 c.at_] 63)) 5 (.slice (some ⟨m, 0, none⟩) 1 1) 1 (cellsTy c) := by
 subst h
 refine ⟨rfl, ?_, _, 1, rfl, (fun e => by cases e), fun ad hd j u hj => ?_⟩
 ·intro x hx
  simp only [cellsTy, List.mem_cons, List.mem_nil_iff, or_false] at hx
  rcases hx with rfl | rfl | rfl | rfl | rfl <;> rfl
 ·cases hd
  rw [add_lit, Nat.zero_add, cell_blk (heap_alloc_new w _)]
  simpa [cellsTy] using hj
theorem TRow.more {w3 : World} {B : Nat} {v' : Value} {cs : List TypeV} {c : TypeV} (hown : w3.ownsRow B 63 5 v' (cs.length + 1) (cs.flatMap cellsTy ++ cellsTy c)) : TRow w3 B v' (cs ++ [c]) := by
 unfold TRow
 rw [List.length_append, List.flatMap_append]
 simpa using hown
theorem info_type : (Tryz.prog.info? 63).map (fun i => (i.zero, i.size, i.bytes)) = some (some (.agg #[.int .i64 0, .string ⟨#[]⟩, .int .i64 0, .int .i64 0, .int .i64 0]), 5, 48) := by kernel_rfl
theorem only_grownT {w2 w3 : World} {v : Value} (hg : w2.grownBy w3 v.ownBlock) : Only (fun k => v.ownBlock = some k) w2 w3 := (Only.refl _ _).grown hg (fun k hk _ => hk)
def parN (zs : List Int) : Nat → Option (List TypeV × List Int)
 | 0 => some ([], zs)
 | n + 1 =>
  match parN zs n with
  | none => none
  | some (l, r) =>
   match r with
   | [] => none
   | c :: q =>
    if c = 41 then none else
    match fieldZ (c :: q) with
    | none => none
    | some (t, r') => if l.length < 16 then some (l ++ [t], r') else none
def Par (zs : List Int) (l : List TypeV) (r : List Int) : Prop := parN zs l.length = some (l, r)
theorem Par.nil (zs : List Int) : Par zs [] zs := rfl
theorem parN_pred {zs : List Int} {n : Nat} {l : List TypeV} {r : List Int} (h : parN zs (n + 1) = some (l, r)) :
  ∃ l' c q t, parN zs n = some (l', c :: q) ∧ c ≠ 41 ∧ fieldZ (c :: q) = some (t, r) ∧ l'.length < 16 ∧ l = l' ++ [t] := by
 unfold parN at h
 cases hs : parN zs n with
 | none => rw [hs] at h; cases h
 | some p =>
  obtain ⟨l', r0⟩ := p
  rw [hs] at h
  simp only at h
  cases r0 with
  | nil => cases h
  | cons c q =>
   simp only at h
   split at h
   ·cases h
   rename_i hc
   cases hf : fieldZ (c :: q) with
   | none => rw [hf] at h; cases h
   | some p2 =>
    obtain ⟨t, r'⟩ := p2
    rw [hf] at h
    simp only at h
    split at h
    ·simp only [Option.some.injEq, Prod.mk.injEq] at h
     obtain ⟨rfl, rfl⟩ := h
     exact ⟨l', c, q, t, rfl, hc, hf, by assumption, rfl⟩
    ·cases h
theorem parN_len {zs : List Int} : ∀ {n : Nat} {l : List TypeV} {r : List Int}, parN zs n = some (l, r) → l.length = n
 | 0, l, r, h => by simp only [parN, Option.some.injEq, Prod.mk.injEq] at h; rw [← h.1]; rfl
 | n + 1, l, r, h => by
  obtain ⟨l', c, q, t, hs, _, _, _, rfl⟩ := parN_pred h
  rw [List.length_append, parN_len hs]; rfl
theorem parN_rest {zs : List Int} : ∀ {n : Nat} {l : List TypeV} {r : List Int}, parN zs n = some (l, r) → n ≤ 16 ∧ ∃ m, r = zs.drop m
 | 0, l, r, h => by
  simp only [parN, Option.some.injEq, Prod.mk.injEq] at h
  exact ⟨by omega, 0, h.2.symm⟩
 | n + 1, l, r, h => by
  obtain ⟨l', c, q, t, hs, _, hf, hl, rfl⟩ := parN_pred h
  obtain ⟨_, m, hm⟩ := parN_rest hs
  obtain ⟨k, hk, _⟩ := field_rest hf
  have := parN_len hs
  exact ⟨by omega, m + k, by rw [hk, hm, List.drop_drop]⟩
theorem Par.snoc {zs : List Int} {l : List TypeV} {c : Int} {q r : List Int} {t : TypeV} (h : Par zs l (c :: q)) (hc : c ≠ 41) (hf : fieldZ (c :: q) = some (t, r)) (hl : l.length < 16) : Par zs (l ++ [t]) r := by
 unfold Par at h ⊢
 rw [List.length_append, List.length_singleton]
 unfold parN
 rw [h]
 simp only
 rw [if_neg hc, hf]
 simp only
 rw [if_pos hl]
def Stop (l : List TypeV) (r : List Int) : Prop := ∀ c q, r = c :: q → c ≠ 41 → ∀ t r', fieldZ (c :: q) = some (t, r') → ¬ l.length < 16
theorem parN_mono {zs : List Int} : ∀ {m n : Nat}, n ≤ m → ∀ {q}, parN zs m = some q → ∃ q', parN zs n = some q'
 | 0, n, h, q, hq => by
  obtain rfl : n = 0 := by omega
  exact ⟨_, hq⟩
 | m + 1, n, h, q, hq => by
  by_cases e : n = m + 1
  ·subst e; exact ⟨_, hq⟩
  ·obtain ⟨l, p⟩ := q
   obtain ⟨l', c, q, t, hs, _⟩ := parN_pred hq
   exact parN_mono (by omega) hs
theorem par_unique {zs : List Int} {l l' : List TypeV} {r r' : List Int} (h : Par zs l r) (h' : Par zs l' r') (hs : Stop l r) (hs' : Stop l' r') : l = l' ∧ r = r' := by
 have key : ∀ {l l' : List TypeV} {r r' : List Int}, Par zs l r → Par zs l' r' → Stop l r → ¬ l.length < l'.length := by
  intro l l' r r' h h' hs hlt
  obtain ⟨q, hq⟩ := parN_mono (n := l.length + 1) (by omega) h'
  obtain ⟨l2, p2⟩ := q
  obtain ⟨l3, c, q, t, h3, h4, h5, h6, _⟩ := parN_pred hq
  unfold Par at h
  rw [h] at h3
  injection h3 with h3
  injection h3 with e1 e2
  subst e1
  exact hs c q e2 h4 t p2 h5 h6
 have e : l.length = l'.length := by
  have := key h h' hs
  have := key h' h hs'
  omega
 unfold Par at h h'
 rw [e, h'] at h
 injection h with h
 injection h with e1 e2
 exact ⟨e1.symm, e2.symm⟩
def voidT : TypeV := ⟨8, ⟨#[]⟩, 0, 0, 0⟩
def endM (l : List TypeV) (r : List Int) : List TypeV × TypeV × Int :=
 match r with
 | [] => ([], zeroT, 80)
 | c :: q => if c = 41 then (if q = [86] then (l, voidT, 0) else match oneZ8 q with | some t => (l, t, 0) | none => ([], zeroT, 80)) else ([], zeroT, 80)
def Meth (zs : List Int) (x : List TypeV × TypeV × Int) : Prop :=
 (¬ (∃ q, zs = 40 :: q) ∧ x = ([], zeroT, 80)) ∨ ∃ q l r, zs = 40 :: q ∧ Par q l r ∧ Stop l r ∧ x = endM l r
theorem Meth.unique {zs : List Int} {x x' : List TypeV × TypeV × Int} (h : Meth zs x) (h' : Meth zs x') : x = x' := by
 rcases h with ⟨h1, rfl⟩ | ⟨q, l, r, rfl, hp, hs, rfl⟩ <;> rcases h' with ⟨h1', rfl⟩ | ⟨q', l', r', hq, hp', hs', rfl⟩
 ·rfl
 ·exact absurd ⟨_, hq⟩ h1
 ·exact absurd ⟨_, rfl⟩ h1'
 ·injection hq with _ hq
  subst hq
  obtain ⟨rfl, rfl⟩ := par_unique hp hp' hs hs'
  rfl
end Go.Proofs.YtgdgffnaknkbcaaGreatDoor
