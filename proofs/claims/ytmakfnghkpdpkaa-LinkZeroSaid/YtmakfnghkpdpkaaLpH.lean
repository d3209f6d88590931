/- The program's Field, Look, Own. Condition: the program is as it was laid; all chains end. -/
import Derived.Test.YtmakfnghkpdpkaaLpG
namespace Go.Proofs.Ytmakfnghkpdpkaa
open Go.RowKit Go.Maps
set_option linter.unusedVariables false
set_option linter.unusedSimpArgs false

section
variable {G : Nat → Prop} {fv : Nat → Value} {pb : Nat} {ks : List KindV} {cl : Nat → ClassV} {sl : Nat → Nat → Int}
theorem ofFields (hf : ∀ k ∈ ks, FineK k) : OfV G fv pb ks cl sl 20 (fun j => (ks.getD j default).fields) sl := by
  refine ⟨enters_of Try.func20 (by kernel_rfl) rfl, fun W hW j hj iv hk => ?_, fun j hj => (hf _ (getD_mem hj)).fields⟩
  obtain ⟨T, v, vom, rfl, -, -, ⟨nn, hq, hen, hcalls⟩, -, -⟩ := hk.told
  refine ⟨fv j, (hW.fields j hj).mem, fun W' hO => ?_⟩
  have C := Lib.hid (hcalls W' hO)
  clear hcalls hk hW
  go_enter Try.func20, Try.ntmps20
  go_wp2_with (fail)
  refine C.out.mono ?_
  rintro e w1 ⟨rfl, ho⟩
  have HO := Lib.hid ho
  clear ho
  go_wp2
  go_ret
  exact ⟨rfl, HO.out⟩
theorem ofMethods (hf : ∀ k ∈ ks, FineK k) : OfV G fv pb ks cl sl 22 (fun j => (ks.getD j default).meths) (fun _ _ => 0) := by
  refine ⟨enters_of Try.func22 (by kernel_rfl) rfl, fun W hW j hj iv hk => ?_, fun j hj => (hf _ (getD_mem hj)).meths⟩
  obtain ⟨T, v, vom, rfl, -, -, -, ⟨nn, hq, hen, hcalls⟩, hmem⟩ := hk.told
  refine ⟨vom, hmem, fun W' hO => ?_⟩
  have C := Lib.hid (hcalls W' hO)
  clear hcalls hk hW hmem
  go_enter Try.func22, Try.ntmps22
  go_wp2_with (fail)
  refine C.out.mono ?_
  rintro e w1 ⟨rfl, ho⟩
  have HO := Lib.hid ho
  clear ho
  go_wp2
  go_ret
  exact ⟨rfl, HO.out⟩
/-- A field that is found, by the slots that are laid. -/
def fieldP (ks : List KindV) (sl : Nat → Nat → Int) (c n d : ByteArray) : Option MemV := firstO (upZ ks (findZ ks c)) (fun j => placeAt (ks.getD j default).fields (sl j) j n d)
theorem place_own (ks : List KindV) (j : Nat) (n d : ByteArray) : placeAt (ks.getD j default).meths (fun _ => 0) j n d = ownAt ks j n d := rfl
theorem findZ_lt (ks : List KindV) (c : ByteArray) : findZ ks c < ks.length := by
  rcases findZ_cases ks c with h | ⟨j, hj, h⟩
  · rw [h]; omega
  · rw [h]; omega
theorem look_seq (ks : List KindV) (c n d : ByteArray) : firstO (seqX ks (findZ ks c)) (fun j => placeAt (ks.getD j default).meths (fun _ => 0) j n d) = if n = initB then firstO (upZ ks (findZ ks c)) (fun j => ownAt ks j n d) else lookZ ks c n d := by
  rw [seqX_in (findZ_lt ks c)]
  split
  · rfl
  · unfold lookZ; rw [if_neg (by assumption)]; rfl
theorem field_seq (ks : List KindV) (c n d : ByteArray) : firstO (seqX ks (findZ ks c)) (fun j => placeAt (ks.getD j default).fields (sl j) j n d) = fieldP ks sl c n d := by
  rw [seqX_in (findZ_lt ks c)]; rfl
theorem own_seq (ks : List KindV) (c n d : ByteArray) : firstO (oneX ks (findZ ks c)) (fun j => placeAt (ks.getD j default).meths (fun _ => 0) j n d) = ownZ ks c n d := by
  have h := findZ_lt ks c
  unfold oneX ownZ
  split
  · rfl
  · rw [if_neg (by omega)]
    show (match placeAt _ _ _ n d with | some m => some m | none => none) = _
    rw [place_own]
    cases ownAt ks (findZ ks c).toNat n d <;> rfl
variable {w : World} (h : ProgG G fv w pb ks cl sl) (hg : GoodK ks)
include h hg
set_option maxHeartbeats 4000000 in
set_option maxRecDepth 100000 in
theorem pField (c n d : ByteArray) (hc : c.size ≤ maxLen) :
    Calls Try.prog 4 #[.pointer (some ⟨pb, 0, none⟩), .string c, .string n, .string d] w (MemTo w (fieldP ks sl c n d)) := by
  have hp0 := hg.pos
  have ho0 := (Only.refl (fun _ => False) w).alloc (.cells #[.int .i64 0, .int .i64 0, .string ⟨#[]⟩, .bool false, .int .i64 0] 28)
  have hr0 := heap_alloc_new w (.cells #[.int .i64 0, .int .i64 0, .string ⟨#[]⟩, .bool false, .int .i64 0] 28)
  obtain ⟨W0, hW0⟩ : ∃ W0, w.alloc (.cells #[.int .i64 0, .int .i64 0, .string ⟨#[]⟩, .bool false, .int .i64 0] 28) = W0 := ⟨_, rfl⟩
  rw [hW0] at ho0 hr0
  have h1 := h.only ho0
  have C1 := Lib.hid (pFind h1 (by omega) c hc)
  have hlt := findZ_lt ks c
  have HSQ := Lib.hid (field_seq (sl := sl) ks c n d)
  obtain ⟨fz, hfz⟩ : ∃ fz, findZ ks c = fz := ⟨_, rfl⟩
  rw [hfz] at C1 HSQ hlt
  have ha : Only (fun _ => False) W0 ((W0.alloc (.cells #[.pointer (some ⟨pb, 0, none⟩)] 22)).alloc (.cells #[.int .i64 fz] 3)) := ((Only.refl _ W0).alloc _).alloc _
  have hbp : ((W0.alloc (.cells #[.pointer (some ⟨pb, 0, none⟩)] 22)).alloc (.cells #[.int .i64 fz] 3)).cell? ⟨W0.heap.size, 0, none⟩ = some (.pointer (some ⟨pb, 0, none⟩)) := cell1 (((Only.refl (fun _ => False) _).alloc _).heap (heap_alloc_new W0 (.cells #[.pointer (some ⟨pb, 0, none⟩)] 22)) (fun h => h))
  have hbn : ((W0.alloc (.cells #[.pointer (some ⟨pb, 0, none⟩)] 22)).alloc (.cells #[.int .i64 fz] 3)).cell? ⟨W0.heap.size + 1, 0, none⟩ = some (.int .i64 fz) := by
    have := cell1 (heap_alloc_new (W0.alloc (.cells #[.pointer (some ⟨pb, 0, none⟩)] 22)) (.cells #[.int .i64 fz] 3))
    rwa [World.size_alloc] at this
  have CU := Lib.hid (pUp pb fz W0)
  have h2 := h1.only ha
  have C2 := Lib.hid (pFirst h2 (by omega) (enters_of Try.func32 (by kernel_rfl) rfl) (fun W hW => up_in 8 (by decide) (h2.only hW) hg fz (W0.heap.size + 1) W0.heap.size (hW.cell hbn (fun h => h)) (hW.cell hbp (fun h => h))) (ofFields hg.fine) n d)
  rw [show firstO (seqX ks fz) _ = _ from HSQ.out] at C2
  have HR1 := Lib.hid (ha.heap hr0 (fun h => h))
  have HO1 := Lib.hid (ho0.trans ha (fun _ h _ => h))
  skip
  generalize fieldP ks sl c n d = oz at *
  obtain ⟨m, hm⟩ : ∃ m, memO oz = m := ⟨_, rfl⟩
  obtain ⟨er, her⟩ : ∃ er, errM oz = er := ⟨_, rfl⟩
  have HM := Lib.hid hm
  have HER := Lib.hid her
  have HW0 := Lib.hid hW0
  skip
  skip
  skip
  skip
  clear h h1 h2 ha hbp hbn ho0 hr0 hm her hW0 hlt hfz hg
  go_enter Try.func4, Try.ntmps4
  go_wp2_with (fail)
  rw [HW0.out]
  refine C1.out.mono ?_
  rintro e w2 ⟨rfl, hww⟩
  subst hww
  go_wp2_with (fail)
  refine CU.out.mono ?_
  rintro e w3 ⟨rfl, hw3⟩
  subst hw3
  go_wp2_with (fail)
  refine C2.out.mono ?_
  rintro e w4 ⟨rfl, ho4⟩
  rw [HM.out, HER.out]
  unfold valM
  have HO4 := Lib.hid (HO1.out.trans ho4 (fun _ h _ => h))
  have hr4 := ho4.heap HR1.out (fun h => h)
  obtain ⟨u0, u1, u2, u3, u4⟩ := cells5T hr4
  obtain ⟨v0, v1, v2, v3, v4⟩ := marks5T hr4
  have HR4 := Lib.hid hr4
  clear ho4 hr4
  go_wp2
  exact bodyPost_ret (mem_result2 (t := m) (b := w.heap.size) Try.results4 (store5T HR4.out) rfl rfl) rfl ⟨by rw [HM.out, HER.out]; rfl, only5T HO4.out (fun hl => absurd hl (Nat.lt_irrefl _))⟩
set_option maxHeartbeats 4000000 in
set_option maxRecDepth 100000 in
theorem pLook (c n d : ByteArray) (hc : c.size ≤ maxLen) (hn : n ≠ initB) :
    Calls Try.prog 5 #[.pointer (some ⟨pb, 0, none⟩), .string c, .string n, .string d] w (MemTo w (lookZ ks c n d)) := by
  have hp0 := hg.pos
  have ho0 := (Only.refl (fun _ => False) w).alloc (.cells #[.int .i64 0, .int .i64 0, .string ⟨#[]⟩, .bool false, .int .i64 0] 28)
  have hr0 := heap_alloc_new w (.cells #[.int .i64 0, .int .i64 0, .string ⟨#[]⟩, .bool false, .int .i64 0] 28)
  obtain ⟨W0, hW0⟩ : ∃ W0, w.alloc (.cells #[.int .i64 0, .int .i64 0, .string ⟨#[]⟩, .bool false, .int .i64 0] 28) = W0 := ⟨_, rfl⟩
  rw [hW0] at ho0 hr0
  have h1 := h.only ho0
  have C1 := Lib.hid (pFind h1 (by omega) c hc)
  have hlt := findZ_lt ks c
  have HSQ := Lib.hid (look_seq ks c n d)
  obtain ⟨fz, hfz⟩ : ∃ fz, findZ ks c = fz := ⟨_, rfl⟩
  rw [hfz] at C1 HSQ hlt
  have ha : Only (fun _ => False) W0 ((W0.alloc (.cells #[.pointer (some ⟨pb, 0, none⟩)] 22)).alloc (.cells #[.int .i64 fz] 3)) := ((Only.refl _ W0).alloc _).alloc _
  have hbp : ((W0.alloc (.cells #[.pointer (some ⟨pb, 0, none⟩)] 22)).alloc (.cells #[.int .i64 fz] 3)).cell? ⟨W0.heap.size, 0, none⟩ = some (.pointer (some ⟨pb, 0, none⟩)) := cell1 (((Only.refl (fun _ => False) _).alloc _).heap (heap_alloc_new W0 (.cells #[.pointer (some ⟨pb, 0, none⟩)] 22)) (fun h => h))
  have hbn : ((W0.alloc (.cells #[.pointer (some ⟨pb, 0, none⟩)] 22)).alloc (.cells #[.int .i64 fz] 3)).cell? ⟨W0.heap.size + 1, 0, none⟩ = some (.int .i64 fz) := by
    have := cell1 (heap_alloc_new (W0.alloc (.cells #[.pointer (some ⟨pb, 0, none⟩)] 22)) (.cells #[.int .i64 fz] 3))
    rwa [World.size_alloc] at this
  have CU := Lib.hid (pUp pb fz W0)
  have h2 := h1.only ha
  have C2 := Lib.hid (pFirst h2 (by omega) (enters_of Try.func32 (by kernel_rfl) rfl) (fun W hW => up_in 8 (by decide) (h2.only hW) hg fz (W0.heap.size + 1) W0.heap.size (hW.cell hbn (fun h => h)) (hW.cell hbp (fun h => h))) (ofMethods hg.fine) n d)
  rw [show firstO (seqX ks fz) _ = _ from HSQ.out] at C2
  have HR1 := Lib.hid (ha.heap hr0 (fun h => h))
  have HO1 := Lib.hid (ho0.trans ha (fun _ h _ => h))
  rw [if_neg hn] at C2
  generalize lookZ ks c n d = oz at *
  obtain ⟨m, hm⟩ : ∃ m, memO oz = m := ⟨_, rfl⟩
  obtain ⟨er, her⟩ : ∃ er, errM oz = er := ⟨_, rfl⟩
  have HM := Lib.hid hm
  have HER := Lib.hid her
  have HW0 := Lib.hid hW0
  obtain ⟨n1, n2⟩ := toList_beq hn
  unfold initB at n1 n2
  rw [lit_init] at n1 n2
  have hli := lit_init
  clear h h1 h2 ha hbp hbn ho0 hr0 hm her hW0 hlt hfz hg hn
  go_enter Try.func5, Try.ntmps5
  go_wp2_with (fail)
  rw [HW0.out]
  refine C1.out.mono ?_
  rintro e w2 ⟨rfl, hww⟩
  subst hww
  go_wp2_with (fail)
  refine CU.out.mono ?_
  rintro e w3 ⟨rfl, hw3⟩
  subst hw3
  go_wp2_with (fail)
  refine C2.out.mono ?_
  rintro e w4 ⟨rfl, ho4⟩
  rw [HM.out, HER.out]
  unfold valM
  have HO4 := Lib.hid (HO1.out.trans ho4 (fun _ h _ => h))
  have hr4 := ho4.heap HR1.out (fun h => h)
  obtain ⟨u0, u1, u2, u3, u4⟩ := cells5T hr4
  obtain ⟨v0, v1, v2, v3, v4⟩ := marks5T hr4
  have HR4 := Lib.hid hr4
  clear ho4 hr4
  go_wp2
  exact bodyPost_ret (mem_result2 (t := m) (b := w.heap.size) Try.results5 (store5T HR4.out) rfl rfl) rfl ⟨by rw [HM.out, HER.out]; rfl, only5T HO4.out (fun hl => absurd hl (Nat.lt_irrefl _))⟩
set_option maxHeartbeats 4000000 in
set_option maxRecDepth 100000 in
theorem pOwn (c n d : ByteArray) (hc : c.size ≤ maxLen) :
    Calls Try.prog 6 #[.pointer (some ⟨pb, 0, none⟩), .string c, .string n, .string d] w (MemTo w (ownZ ks c n d)) := by
  have hp0 := hg.pos
  have ho0 := (Only.refl (fun _ => False) w).alloc (.cells #[.int .i64 0, .int .i64 0, .string ⟨#[]⟩, .bool false, .int .i64 0] 28)
  have hr0 := heap_alloc_new w (.cells #[.int .i64 0, .int .i64 0, .string ⟨#[]⟩, .bool false, .int .i64 0] 28)
  obtain ⟨W0, hW0⟩ : ∃ W0, w.alloc (.cells #[.int .i64 0, .int .i64 0, .string ⟨#[]⟩, .bool false, .int .i64 0] 28) = W0 := ⟨_, rfl⟩
  rw [hW0] at ho0 hr0
  have h1 := h.only ho0
  have C1 := Lib.hid (pFind h1 (by omega) c hc)
  have hlt := findZ_lt ks c
  have HSQ := Lib.hid (own_seq ks c n d)
  obtain ⟨fz, hfz⟩ : ∃ fz, findZ ks c = fz := ⟨_, rfl⟩
  rw [hfz] at C1 HSQ hlt
  have ha : Only (fun _ => False) W0 ((W0.alloc (.cells #[.pointer (some ⟨pb, 0, none⟩)] 22)).alloc (.cells #[.int .i64 fz] 3)) := ((Only.refl _ W0).alloc _).alloc _
  have hbp : ((W0.alloc (.cells #[.pointer (some ⟨pb, 0, none⟩)] 22)).alloc (.cells #[.int .i64 fz] 3)).cell? ⟨W0.heap.size, 0, none⟩ = some (.pointer (some ⟨pb, 0, none⟩)) := cell1 (((Only.refl (fun _ => False) _).alloc _).heap (heap_alloc_new W0 (.cells #[.pointer (some ⟨pb, 0, none⟩)] 22)) (fun h => h))
  have hbn : ((W0.alloc (.cells #[.pointer (some ⟨pb, 0, none⟩)] 22)).alloc (.cells #[.int .i64 fz] 3)).cell? ⟨W0.heap.size + 1, 0, none⟩ = some (.int .i64 fz) := by
    have := cell1 (heap_alloc_new (W0.alloc (.cells #[.pointer (some ⟨pb, 0, none⟩)] 22)) (.cells #[.int .i64 fz] 3))
    rwa [World.size_alloc] at this
  have CU := Lib.hid (pAlone pb fz W0)
  have h2 := h1.only ha
  have C2 := Lib.hid (pFirst h2 (by omega) (enters_of Try.func33 (by kernel_rfl) rfl) (fun W hW => alone_in 8 (by decide) (h2.only hW) (by omega) fz (W0.heap.size + 1) W0.heap.size (hW.cell hbn (fun h => h)) (hW.cell hbp (fun h => h))) (ofMethods hg.fine) n d)
  rw [show firstO (oneX ks fz) _ = _ from HSQ.out] at C2
  have HR1 := Lib.hid (ha.heap hr0 (fun h => h))
  have HO1 := Lib.hid (ho0.trans ha (fun _ h _ => h))
  skip
  generalize ownZ ks c n d = oz at *
  obtain ⟨m, hm⟩ : ∃ m, memO oz = m := ⟨_, rfl⟩
  obtain ⟨er, her⟩ : ∃ er, errM oz = er := ⟨_, rfl⟩
  have HM := Lib.hid hm
  have HER := Lib.hid her
  have HW0 := Lib.hid hW0
  skip
  skip
  skip
  skip
  clear h h1 h2 ha hbp hbn ho0 hr0 hm her hW0 hlt hfz hg
  go_enter Try.func6, Try.ntmps6
  go_wp2_with (fail)
  rw [HW0.out]
  refine C1.out.mono ?_
  rintro e w2 ⟨rfl, hww⟩
  subst hww
  go_wp2_with (fail)
  refine CU.out.mono ?_
  rintro e w3 ⟨rfl, hw3⟩
  subst hw3
  go_wp2_with (fail)
  refine C2.out.mono ?_
  rintro e w4 ⟨rfl, ho4⟩
  rw [HM.out, HER.out]
  unfold valM
  have HO4 := Lib.hid (HO1.out.trans ho4 (fun _ h _ => h))
  have hr4 := ho4.heap HR1.out (fun h => h)
  obtain ⟨u0, u1, u2, u3, u4⟩ := cells5T hr4
  obtain ⟨v0, v1, v2, v3, v4⟩ := marks5T hr4
  have HR4 := Lib.hid hr4
  clear ho4 hr4
  go_wp2
  exact bodyPost_ret (mem_result2 (t := m) (b := w.heap.size) Try.results6 (store5T HR4.out) rfl rfl) rfl ⟨by rw [HM.out, HER.out]; rfl, only5T HO4.out (fun hl => absurd hl (Nat.lt_irrefl _))⟩
end
end Go.Proofs.Ytmakfnghkpdpkaa
