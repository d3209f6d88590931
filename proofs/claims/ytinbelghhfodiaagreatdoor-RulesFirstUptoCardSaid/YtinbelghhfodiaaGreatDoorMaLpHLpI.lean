import Derived.Test.YtinbelghhfodiaaGreatDoorMaLpFLpG
import Derived.Test.YtinbelghhfodiaaGreatDoorMaPrsBig
namespace Go.Proofs.YtinbelghhfodiaaGreatDoor
set_option maxHeartbeats 4000000
open Lib (hid)
open Go.RowKit Go.Maps
set_option linter.unusedVariables false
set_option linter.unusedSimpArgs false
section
variable {G : Nat → Prop} {fv : Nat → Value} {pb : Nat} {ks : List KindV} {cl : Nat → ClassV} {sl : Nat → Nat → Int}
theorem ofFields (hf : ∀ k ∈ ks, FineK k) : OfV G fv pb ks cl sl 105 (fun j => (ks.getD j default).fields) sl := by
 refine ⟨enters_of Tryz.func105 (by kernel_rfl) rfl, fun W hW j hj iv hk => ?_, fun j hj => (hf _ (getD_mem hj)).fields⟩
 obtain ⟨T, v, vom, rfl, -, -, ⟨nn, hq, hen, hcalls⟩, -, -⟩ := hk.told
 refine ⟨fv j, (hW.fields j hj).mem, fun W' hO => ?_⟩
 have C := hid (hcalls W' hO)
 clear hcalls hk hW
 go_enter Tryz.func105, Tryz.ntmps105
 go_wp2_with (fail)
 refine C.out.mono ?_
 rintro e w1 ⟨rfl, ho⟩
 have HO := hid ho
 clear ho
 go_wp2
 go_ret
 exact ⟨rfl, HO.out⟩
theorem ofMethods (hf : ∀ k ∈ ks, FineK k) : OfV G fv pb ks cl sl 107 (fun j => (ks.getD j default).meths) (fun _ _ => 0) := by
 refine ⟨enters_of Tryz.func107 (by kernel_rfl) rfl, fun W hW j hj iv hk => ?_, fun j hj => (hf _ (getD_mem hj)).meths⟩
 obtain ⟨T, v, vom, rfl, -, -, -, ⟨nn, hq, hen, hcalls⟩, hmem⟩ := hk.told
 refine ⟨vom, hmem, fun W' hO => ?_⟩
 have C := hid (hcalls W' hO)
 clear hcalls hk hW hmem
 go_enter Tryz.func107, Tryz.ntmps107
 go_wp2_with (fail)
 refine C.out.mono ?_
 rintro e w1 ⟨rfl, ho⟩
 have HO := hid ho
 clear ho
 go_wp2
 go_ret
 exact ⟨rfl, HO.out⟩
def fieldP (ks : List KindV) (sl : Nat → Nat → Int) (c n d : ByteArray) : Option MemV := firstO (upZ ks (findZ ks c)) (fun j => placeAt (ks.getD j default).fields (sl j) j n d)
theorem place_own (ks : List KindV) (j : Nat) (n d : ByteArray) : placeAt (ks.getD j default).meths (fun _ => 0) j n d = ownAt ks j n d := rfl
theorem findZ_lt (ks : List KindV) (c : ByteArray) : findZ ks c < ks.length := by
 rcases findZ_cases ks c with h | ⟨j, hj, h⟩
 ·rw [h]; omega
 ·rw [h]; omega
theorem look_seq (ks : List KindV) (c n d : ByteArray) : firstO (seqX ks (findZ ks c)) (fun j => placeAt (ks.getD j default).meths (fun _ => 0) j n d) = if n = initB then firstO (upZ ks (findZ ks c)) (fun j => ownAt ks j n d) else lookZ ks c n d := by
 rw [seqX_in (findZ_lt ks c)]
 split
 ·rfl
 ·unfold lookZ; rw [if_neg (by assumption)]; rfl
theorem own_seq (ks : List KindV) (c n d : ByteArray) : firstO (oneX ks (findZ ks c)) (fun j => placeAt (ks.getD j default).meths (fun _ => 0) j n d) = ownZ ks c n d := by
 have h := findZ_lt ks c
 unfold oneX ownZ
 split
 ·rfl
 ·rw [if_neg (by omega)]
  show (match placeAt _ _ _ n d with | some m => some m | none => none) = _
  rw [place_own]
  cases ownAt ks (findZ ks c).toNat n d <;> rfl
variable {w : World} (h : ProgG G fv w pb ks cl sl) (hg : GoodK ks)
include h hg
set_option maxRecDepth 100000 in
theorem pLook (c n d : ByteArray) (hc : c.size ≤ maxLen) (hn : n ≠ initB) :
  Calls Tryz.prog 138 #[.pointer (some ⟨pb, 0, none⟩), .string c, .string n, .string d] w (MemTo w (lookZ ks c n d)) := by
 have hp0 := hg.pos
 have ho0 := (Only.refl (fun _ => False) w).alloc (.cells #[.int .i64 0, .int .i64 0, .string ⟨#[]⟩, .bool false, .int .i64 0] 138)
 have hr0 := heap_alloc_new w (.cells #[.int .i64 0, .int .i64 0, .string ⟨#[]⟩, .bool false, .int .i64 0] 138)
 obtain ⟨W0, hW0⟩ : ∃ W0, w.alloc (.cells #[.int .i64 0, .int .i64 0, .string ⟨#[]⟩, .bool false, .int .i64 0] 138) = W0 := ⟨_, rfl⟩
 rw [hW0] at ho0 hr0
 have h1 := h.only ho0
 have C1 := hid (pFind h1 (by omega) c hc)
 have hlt := findZ_lt ks c
 have HSQ := hid (look_seq ks c n d)
 obtain ⟨fz, hfz⟩ : ∃ fz, findZ ks c = fz := ⟨_, rfl⟩
 rw [hfz] at C1 HSQ hlt
 have ha : Only (fun _ => False) W0 ((W0.alloc (.cells #[.pointer (some ⟨pb, 0, none⟩)] 41)).alloc (.cells #[.int .i64 fz] 3)) := ((Only.refl _ W0).alloc _).alloc _
 have hbp : ((W0.alloc (.cells #[.pointer (some ⟨pb, 0, none⟩)] 41)).alloc (.cells #[.int .i64 fz] 3)).cell? ⟨W0.heap.size, 0, none⟩ = some (.pointer (some ⟨pb, 0, none⟩)) := cell1 (((Only.refl (fun _ => False) _).alloc _).heap (heap_alloc_new W0 (.cells #[.pointer (some ⟨pb, 0, none⟩)] 41)) (fun h => h))
 have hbn : ((W0.alloc (.cells #[.pointer (some ⟨pb, 0, none⟩)] 41)).alloc (.cells #[.int .i64 fz] 3)).cell? ⟨W0.heap.size + 1, 0, none⟩ = some (.int .i64 fz) := by
  have := cell1 (heap_alloc_new (W0.alloc (.cells #[.pointer (some ⟨pb, 0, none⟩)] 41)) (.cells #[.int .i64 fz] 3))
  rwa [World.size_alloc] at this
 have CU := hid (pUp pb fz W0)
 have h2 := h1.only ha
 have C2 := hid (pFirst h2 (by omega) (enters_of Tryz.func178 (by kernel_rfl) rfl) (fun W hW => up_in 8 (by decide) (h2.only hW) hg fz (W0.heap.size + 1) W0.heap.size (hW.cell hbn (fun h => h)) (hW.cell hbp (fun h => h))) (ofMethods hg.fine) n d)
 rw [show firstO (seqX ks fz) _ = _ from HSQ.out] at C2
 have HR1 := hid (ha.heap hr0 (fun h => h))
 have HO1 := hid (ho0.trans ha (fun _ h _ => h))
 rw [if_neg hn] at C2
 generalize lookZ ks c n d = oz at *
 obtain ⟨m, hm⟩ : ∃ m, memO oz = m := ⟨_, rfl⟩
 obtain ⟨er, her⟩ : ∃ er, errM oz = er := ⟨_, rfl⟩
 have HM := hid hm
 have HER := hid her
 have HW0 := hid hW0
 obtain ⟨n1, n2⟩ := toList_beq hn
 unfold initB at n1 n2
 rw [lit_init] at n1 n2
 have hli := lit_init
 clear h h1 h2 ha hbp hbn ho0 hr0 hm her hW0 hlt hfz hg hn
 go_enter Tryz.func138, Tryz.ntmps138
 go_wp2_with (fail)
 rw [HW0.out]
 refine C1.out.mono ?_
 rintro e w2 ⟨rfl, hww⟩
 subst hww
 go_wp2_with (fail)
 refine CU.out.mono ?_
 rintro e w3 ⟨rfl, hw3⟩
 subst hw3
 go_wp2_with (fail)
 refine C2.out.mono ?_
 rintro e w4 ⟨rfl, ho4⟩
 rw [HM.out, HER.out]
 unfold valM
 have HO4 := hid (HO1.out.trans ho4 (fun _ h _ => h))
 have hr4 := ho4.heap HR1.out (fun h => h)
 obtain ⟨u0, u1, u2, u3, u4⟩ := cells5T hr4
 obtain ⟨v0, v1, v2, v3, v4⟩ := marks5T hr4
 have HR4 := hid hr4
 clear ho4 hr4
 go_wp2
 exact bodyPost_ret (mem_result2 (t := m) (b := w.heap.size) Tryz.results138 (store5T HR4.out) rfl rfl) rfl ⟨by rw [HM.out, HER.out]; rfl, only5T HO4.out (fun hl => absurd hl (Nat.lt_irrefl _))⟩
set_option maxRecDepth 100000 in
theorem pOwn (c n d : ByteArray) (hc : c.size ≤ maxLen) :
  Calls Tryz.prog 110 #[.pointer (some ⟨pb, 0, none⟩), .string c, .string n, .string d] w (MemTo w (ownZ ks c n d)) := by
 have hp0 := hg.pos
 have ho0 := (Only.refl (fun _ => False) w).alloc (.cells #[.int .i64 0, .int .i64 0, .string ⟨#[]⟩, .bool false, .int .i64 0] 138)
 have hr0 := heap_alloc_new w (.cells #[.int .i64 0, .int .i64 0, .string ⟨#[]⟩, .bool false, .int .i64 0] 138)
 obtain ⟨W0, hW0⟩ : ∃ W0, w.alloc (.cells #[.int .i64 0, .int .i64 0, .string ⟨#[]⟩, .bool false, .int .i64 0] 138) = W0 := ⟨_, rfl⟩
 rw [hW0] at ho0 hr0
 have h1 := h.only ho0
 have C1 := hid (pFind h1 (by omega) c hc)
 have hlt := findZ_lt ks c
 have HSQ := hid (own_seq ks c n d)
 obtain ⟨fz, hfz⟩ : ∃ fz, findZ ks c = fz := ⟨_, rfl⟩
 rw [hfz] at C1 HSQ hlt
 have ha : Only (fun _ => False) W0 ((W0.alloc (.cells #[.pointer (some ⟨pb, 0, none⟩)] 41)).alloc (.cells #[.int .i64 fz] 3)) := ((Only.refl _ W0).alloc _).alloc _
 have hbp : ((W0.alloc (.cells #[.pointer (some ⟨pb, 0, none⟩)] 41)).alloc (.cells #[.int .i64 fz] 3)).cell? ⟨W0.heap.size, 0, none⟩ = some (.pointer (some ⟨pb, 0, none⟩)) := cell1 (((Only.refl (fun _ => False) _).alloc _).heap (heap_alloc_new W0 (.cells #[.pointer (some ⟨pb, 0, none⟩)] 41)) (fun h => h))
 have hbn : ((W0.alloc (.cells #[.pointer (some ⟨pb, 0, none⟩)] 41)).alloc (.cells #[.int .i64 fz] 3)).cell? ⟨W0.heap.size + 1, 0, none⟩ = some (.int .i64 fz) := by
  have := cell1 (heap_alloc_new (W0.alloc (.cells #[.pointer (some ⟨pb, 0, none⟩)] 41)) (.cells #[.int .i64 fz] 3))
  rwa [World.size_alloc] at this
 have CU := hid (pAlone pb fz W0)
 have h2 := h1.only ha
 have C2 := hid (pFirst h2 (by omega) (enters_of Tryz.func163 (by kernel_rfl) rfl) (fun W hW => alone_in 8 (by decide) (h2.only hW) (by omega) fz (W0.heap.size + 1) W0.heap.size (hW.cell hbn (fun h => h)) (hW.cell hbp (fun h => h))) (ofMethods hg.fine) n d)
 rw [show firstO (oneX ks fz) _ = _ from HSQ.out] at C2
 have HR1 := hid (ha.heap hr0 (fun h => h))
 have HO1 := hid (ho0.trans ha (fun _ h _ => h))
 skip
 generalize ownZ ks c n d = oz at *
 obtain ⟨m, hm⟩ : ∃ m, memO oz = m := ⟨_, rfl⟩
 obtain ⟨er, her⟩ : ∃ er, errM oz = er := ⟨_, rfl⟩
 have HM := hid hm
 have HER := hid her
 have HW0 := hid hW0
 skip
 skip
 skip
 skip
 clear h h1 h2 ha hbp hbn ho0 hr0 hm her hW0 hlt hfz hg
 go_enter Tryz.func110, Tryz.ntmps110
 go_wp2_with (fail)
 rw [HW0.out]
 refine C1.out.mono ?_
 rintro e w2 ⟨rfl, hww⟩
 subst hww
 go_wp2_with (fail)
 refine CU.out.mono ?_
 rintro e w3 ⟨rfl, hw3⟩
 subst hw3
 go_wp2_with (fail)
 refine C2.out.mono ?_
 rintro e w4 ⟨rfl, ho4⟩
 rw [HM.out, HER.out]
 unfold valM
 have HO4 := hid (HO1.out.trans ho4 (fun _ h _ => h))
 have hr4 := ho4.heap HR1.out (fun h => h)
 obtain ⟨u0, u1, u2, u3, u4⟩ := cells5T hr4
 obtain ⟨v0, v1, v2, v3, v4⟩ := marks5T hr4
 have HR4 := hid hr4
 clear ho4 hr4
 go_wp2
 exact bodyPost_ret (mem_result2 (t := m) (b := w.heap.size) Tryz.results110 (store5T HR4.out) rfl rfl) rfl ⟨by rw [HM.out, HER.out]; rfl, only5T HO4.out (fun hl => absurd hl (Nat.lt_irrefl _))⟩
set_option maxRecDepth 100000 in
theorem pLookI (c d : ByteArray) : Calls Tryz.prog 138 #[.pointer (some ⟨pb, 0, none⟩), .string c, .string ⟨#[60, 105, 110, 105, 116, 62]⟩, .string d] w (MemTo w (lookZ ks c initB d)) := by
 have hp0 := hg.pos
 have ho0 := (Only.refl (fun _ => False) w).alloc (.cells #[.int .i64 0, .int .i64 0, .string ⟨#[]⟩, .bool false, .int .i64 0] 138)
 have hr0 := heap_alloc_new w (.cells #[.int .i64 0, .int .i64 0, .string ⟨#[]⟩, .bool false, .int .i64 0] 138)
 have C2 := hid (pFirst (h.only ho0) (by omega) (enters_of Tryz.func161 (by kernel_rfl) rfl) (fun W hW => none_in 8 0 ks W) (ofMethods hg.fine) ⟨#[60, 105, 110, 105, 116, 62]⟩ d)
 have HB := hid (show lookZ ks c initB d = none from if_pos rfl)
 have HO := hid ho0
 have HR := hid hr0
 have hli := lit_init
 clear h ho0 hr0 hg
 go_enter Tryz.func138, Tryz.ntmps138
 go_wp2_with (fail)
 refine C2.out.mono ?_
 rintro e w4 ⟨he, ho4⟩
 obtain rfl : e = .returned (.tuple #[valM zeroM, .int .i64 91]) := he
 unfold valM zeroM
 have HO4 := hid (HO.out.trans ho4 (fun _ h _ => h))
 have hr4 := ho4.heap HR.out (fun h => h)
 obtain ⟨u0, u1, u2, u3, u4⟩ := cells5T hr4
 obtain ⟨v0, v1, v2, v3, v4⟩ := marks5T hr4
 have HR4 := hid hr4
 clear ho4 hr4
 go_wp2
 exact bodyPost_ret (mem_result2 (t := zeroM) (b := w.heap.size) Tryz.results138 (store5T HR4.out) rfl rfl) rfl (MemTo.no HB.out (only5T HO4.out (fun hl => absurd hl (Nat.lt_irrefl _))))
end
attribute [local go_sem] Oper.semAt_some
def subP (ks : List KindV) (a b : Int) : Bool := (seqX ks a).any (fun j => (j : Int) == b)
def SubV (w W : World) (b : Int) (x : Bool) : Prop := W.heap[w.heap.size]? = some (.cells #[.int .i64 b] 3 (0, 0)) ∧ W.heap[w.heap.size + 1]? = some (.cells #[.bool x] 4 (0, 0))
theorem SubV.own {w X Y : World} {b : Int} {x : Bool} {row : Option Nat} {N : Nat} (h : SubV w X b x) (hg : X.grownBy Y row) (hr : ∀ r, row = some r → N ≤ r ∧ ∃ o : Obj, X.heap[r]? = some o ∧ o.isCells = false) : SubV w Y b x := ⟨own_heap h.1 rfl hg hr, own_heap h.2 rfl hg hr⟩
def cellsMem (m : MethN) : List Value := [.string m.name, .string m.desc, .int .i64 m.flags, .int .i64 0]
def MRow (w : World) (B : Nat) (v : Value) (l : List MethN) : Prop := w.ownsRow B 146 4 v l.length (l.flatMap cellsMem)
theorem cellsMem_at : ∀ {cs : List MethN} {i d : Nat}, i < cs.length → d < 4 → (cs.flatMap cellsMem)[i * 4 + d]? = (cellsMem (cs.getD i default))[d]?
 | c :: r, 0, d, _, hd => by
  rw [List.flatMap_cons, List.getElem?_append_left (by simp [cellsMem]; omega)]
  simp
 | c :: r, i + 1, d, hi, hd => by
  rw [List.flatMap_cons, List.getElem?_append_right (by simp [cellsMem]; omega)]
  have : (i + 1) * 4 + d - (cellsMem c).length = i * 4 + d := by simp [cellsMem]; omega
  rw [this, cellsMem_at (by simpa using hi) hd]
  simp
theorem MRow.flds {w : World} {B : Nat} {v : Value} {cs : List MethN} (h : MRow w B v cs) : FldS w v cs (fun _ => 0) := by
 rcases h.2 with ⟨rfl, hn⟩ | ⟨g, cap, cur, rfl, hb, hg, hnc, hcm, hcs, htake⟩
 ·have : cs = [] := List.eq_nil_of_length_eq_zero hn
  subst this
  exact Sl.nil _
 ·refine ⟨_, cap, rfl, hnc, by unfold maxLen at hcm; omega, (fun e => by cases e), fun x hx _ => ?_⟩
  cases hx
  refine ⟨g, 0, rfl, fun i hi => ?_⟩
  have hc : ∀ d, d < 4 → w.cell? ⟨g, 0 + i * 4 + d, none⟩ = (cellsMem (cs.getD i default))[d]? := fun d hd => by
   rw [Nat.zero_add, ← cellsMem_at hi hd]
   exact (show w.ownsRow B _ 4 _ _ _ from h).cellAt (g := g) (cap := cap) (i * 4 + d) (by omega)
  exact ⟨⟨hc 0 (by decide), hc 1 (by decide), hc 2 (by decide), hc 3 (by decide)⟩, frozen_blk hg _⟩
theorem MRow.only {S : Nat → Prop} {w w' : World} {B : Nat} {v : Value} {cs : List MethN} (h : MRow w B v cs) (ho : Only S w w') (hs : ∀ k, v.ownBlock = some k → ¬ S k) : MRow w' B v cs := ho.owns h hs
theorem MRow.ge {w : World} {B : Nat} {v : Value} {cs : List MethN} (h : MRow w B v cs) : ∀ k, v.ownBlock = some k → B ≤ k ∧ k < w.heap.size := fun k hk => World.ownsRow.lt h k hk
theorem MRow.nil (w : World) (B : Nat) : MRow w B (.slice none 0 0) [] := World.ownsRow_nil _ _ _ _
theorem MRow.memG {G : Nat → Prop} {w : World} {B : Nat} {v : Value} {cs : List MethN} (h : MRow w B v cs) (hG : ∀ k, v.ownBlock = some k → ¬ G k) : MemG G w v cs := h.flds.imp (fun b o i hb hi hc => ⟨hc.1, hG b hb⟩)
theorem Src.member {w : World} {m : Nat} (c : MethN) (h : w.heap.size = m) : Src (w.alloc (.cells #[.string c.name, .string c.desc, .int .i64 c.flags, .int .i64 0] 146)) 4 (.slice (some ⟨m, 0, none⟩) 1 1) 1 (cellsMem c) := by
 subst h
 refine ⟨rfl, ?_, _, 1, rfl, (fun e => by cases e), fun ad hd j u hj => ?_⟩
 ·intro x hx
  simp only [cellsMem, List.mem_cons, List.mem_nil_iff, or_false] at hx
  rcases hx with rfl | rfl | rfl | rfl <;> rfl
 ·cases hd
  rw [add_lit, Nat.zero_add, cell_blk (heap_alloc_new w _)]
  simpa [cellsMem] using hj
theorem MRow.more {w3 : World} {B : Nat} {v' : Value} {cs : List MethN} {c : MethN} (hown : w3.ownsRow B 146 4 v' (cs.length + 1) (cs.flatMap cellsMem ++ cellsMem c)) : MRow w3 B v' (cs ++ [c]) := by
 unfold MRow
 rw [List.length_append, List.flatMap_append]
 simpa using hown
theorem info_member : (Tryz.prog.info? 146).map (fun i => (i.zero, i.size, i.bytes)) = some (some (.agg #[.string ⟨#[]⟩, .string ⟨#[]⟩, .int .i64 0, .int .i64 0]), 4, 48) := by kernel_rfl
def StrS (w : World) (v : Value) (ns : List ByteArray) : Prop := Sl v ns.length (fun b o i => w.cell? ⟨b, o + i, none⟩ = some (.string (ns.getD i ⟨#[]⟩)))
theorem StrS.only {w w' : World} {v : Value} {ns : List ByteArray} (h : StrS w v ns) (ho : Only (fun _ => False) w w') : StrS w' v ns := h.imp (fun _ _ _ _ _ h => ho.cell h (fun h => h))
theorem StrS.new {w : World} {ns : List ByteArray} (hl : ns.length ≤ 64) : StrS (w.alloc (.cells (ns.map Value.string).toArray 9)) (.slice (some ⟨w.heap.size, 0, none⟩) ns.length ns.length) ns := by
 refine ⟨_, _, rfl, Nat.le_refl _, by omega, (fun e => by cases e), fun x hx h0 => ?_⟩
 cases hx
 refine ⟨_, 0, rfl, fun i hi => ?_⟩
 show (w.alloc (.cells (ns.map Value.string).toArray 9)).cell? ⟨w.heap.size, 0 + i, none⟩ = _
 rw [cell_blk (heap_alloc_new w _)]
 simp [List.getD, hi]
def plainM (n : ByteArray) : MethN := ⟨n, voidB, 0⟩
set_option maxRecDepth 100000 in
theorem pSimple (v : Value) (ns : List ByteArray) (w : World) (hs : StrS w v ns) (hn : ns.length ≤ 64) :
  Calls Tryz.prog 100 #[v] w fun e w' => ∃ r, e = .returned r ∧ MRow w' w.heap.size r (ns.map plainM) ∧ Only (fun _ => False) w w' := by
 obtain ⟨i0, hi, hz0, hz1, hz2⟩ := info_parts info_member
 obtain ⟨ao, cap, rfl, p1, p2, p3, -⟩ := id hs
 have HS := hid hs
 clear hs p3
 go_enter Tryz.func100, Tryz.ntmps100
 go_wp2
 go_loopw [8, 3] (fun iv lv wr => ∃ j : Nat, iv = .int .i64 j ∧ j ≤ ns.length ∧ Hid (MRow wr w.heap.size lv ((ns.take j).map plainM)) ∧ Hid (Only (fun _ => False) w wr)) (fun iv _ _ => ns.length - (intOf iv).toNat)
 case atStart => exact ⟨0, rfl, Nat.zero_le _, hid (MRow.nil _ _), hid (Only.refl _ _)⟩
 case round =>
  obtain ⟨j, rfl, hj, HROW, HON⟩ := hrel
  by_cases hlt : j < ns.length
  ·have hjz : (j : Int) < (ns.length : Int) := by omega
   have hj0 : (0 : Int) ≤ (j : Int) := by omega
   obtain ⟨b, o, rfl, y⟩ := Sl.at (HS.out.only HON.out) hlt
   have HST := hid (show (ns.take (j + 1)).map plainM = (ns.take j).map plainM ++ [plainM (ns.getD j ⟨#[]⟩)] by rw [List.take_succ_eq_append_getElem hlt, List.map_append]; simp [List.getD, hlt])
   have hln : ((ns.take j).map plainM).length ≤ 64 := by rw [List.length_map, List.length_take]; omega
   generalize ns.getD j ⟨#[]⟩ = x at *
   generalize (ns.take j).map plainM = ms at *
   obtain ⟨al, cl, rfl, l1, l2, -, -⟩ := id HROW.out.flds
   have ho2 := (Only.refl (fun _ => False) wr).alloc (.cells #[.string x, .string ⟨#[40, 41, 86]⟩, .int .i64 0, .int .i64 0] 146)
   have HROW5 := hid (HROW.out.only ho2 (fun _ _ h => h))
   have HBASE := hid (Nat.le_trans HON.out.size ho2.size)
   have HSRC := hid (Src.member (w := wr) (plainM x) rfl)
   have HON4 := hid (HON.out.trans ho2 (fun _ h _ => h))
   clear ho2
   go_wp2_with (at_builtin; go_loud (refine wpList_append_src rfl (.tmp 12) (.tmp 15) 124 rfl 146 i0 (.agg #[.string ⟨#[]⟩, .string ⟨#[]⟩, .int .i64 0, .int .i64 0]) 4 48 Tryz.underlying124 hi hz0 hz1 hz2 rfl (by decide) w.heap.size (.slice al ms.length cl) ms.length (ms.flatMap cellsMem) rfl (by exact HROW5.out) (by exact HBASE.out) (.slice (some ⟨wr.heap.size, 0, none⟩) 1 1) 1 (cellsMem (plainM x)) rfl (by exact HSRC.out) (by unfold maxLen; omega) (by omega) ?_); intro v' w5 hown hgrow hnew; have hos := only_grownT hgrow; have hrow6 := MRow.more hown; have hon6 := HON4.out.trans hos (fun j hj hl => by have := (HROW5.out.ge _ hj).1; omega); clear hown hgrow hnew hos; have HROW6 := hid hrow6; have HON6 := hid hon6; clear hrow6 hon6)
   go_roundw
   case rel => exact ⟨j + 1, rfl, by omega, by rw [HST.out]; exact HROW6, HON6⟩
   case measure => show _ - _ < _ - _; simp only [intOf]; omega
  ·have hje : j = ns.length := by omega
   subst hje
   go_wp2
   go_ret
   refine ⟨_, rfl, ?_, HON.out⟩
   rw [show ns.map plainM = (ns.take ns.length).map plainM by rw [List.take_length]]
   exact HROW.out
end Go.Proofs.YtinbelghhfodiaaGreatDoor
