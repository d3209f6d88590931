import Derived.Test.YtinbelghhfodiaaGreatDoorMaTkH
import Derived.Deep.RegionHeld3
import Derived.Test.YtinbelghhfodiaaGreatDoorMaLpQLpY
import Derived.Test.YtinbelghhfodiaaGreatDoorMaClsGLpE
import Derived.Test.YtinbelghhfodiaaGreatDoorMaIxALpRa
import Derived.Test.YtinbelghhfodiaaGreatDoorMaKndOLpO
import Derived.Test.YtinbelghhfodiaaGreatDoorMaLpJKndSh
namespace Go.Proofs.YtinbelghhfodiaaGreatDoor
set_option maxHeartbeats 16000000
open Lib (hid)
open Go.RowKit Go.Maps
set_option linter.unusedVariables false
set_option linter.unusedSimpArgs false
section
variable {G : Nat → Prop} {fv : Nat → Value} {w : World} {pb : Nat} {ks : List KindV} {cl : Nat → ClassV} {sl : Nat → Nat → Int} (h : ProgG G fv w pb ks cl sl) (hpos : 0 < ks.length)
 {lb i : Nat} {c : ClassV} {vp vf vm vof vom : Value} (hl : w.heap[lb]? = some (listedO i c vp vf vm vof vom)) (hp : Pool w vp c.pool) {k : KindV} (hkn : k.name = (classZ c.pool c.this).1) (hna : k.name.size ≤ 256)
include h hpos hl hp hkn hna
set_option maxRecDepth 100000 in
theorem pHasOwn : Calls Tryz.prog 102 #[.pointer (some ⟨pb, 0, none⟩), .pointer (some ⟨lb, 0, none⟩)] w fun e w' => e = .returned (.bool (plainN (nums k.name) && (findZ ks k.name == (i : Int)))) ∧ Only (fun _ => False) w w' := by
 have CM := hid (fun (W : World) (ho : Only (fun _ => False) w W) => lName (ho.heap hl (fun h => h)) (hp.only ho (fun _ _ h => h)))
 have CN := hid (fun (W : World) => pIsName k.name W hna)
 have CF := hid (fun (W : World) (ho : Only (fun _ => False) w W) => pFind (h.only ho) hpos k.name (by unfold maxLen; omega))
 rw [← hkn] at CM
 have hq := (cells8L hl).1
 have HS0 := hid (show (fun wc => wc.cell? ⟨lb, 0, none⟩ = some (.int .i64 (i : Int)) ∧ Only (fun _ => False) w wc) (w.drewN 1) from ⟨hq, (Only.refl _ _).drewN 1⟩)
 generalize findZ ks k.name = fz at *
 generalize plainN (nums k.name) = pl at *
 generalize k.name = nm at *
 clear h hpos hl hp hkn hna hq
 go_enter Tryz.func102, Tryz.ntmps102
 cases pl
 ·go_wp2_with (fail)
  refine wp_region_held_drew (S := fun wc => wc.cell? ⟨lb, 0, none⟩ = some (.int .i64 (i : Int)) ∧ Only (fun _ => False) w wc) (by kernel_rfl) HS0.out (fun hHeld => ?_)
  refine tk2 0 (h := ?_)
  refine tkR 1 (h := fun K hK => ?_)
  go_simp
  (refine (CM.out _ hHeld.2).mono ?_; rintro e w2 ⟨rfl, ho⟩; have HQ1 := hid (show (fun wc => wc.cell? ⟨lb, 0, none⟩ = some (.int .i64 (i : Int)) ∧ Only (fun _ => False) w wc) w2 from ⟨ho.cell hHeld.1 (fun h => h), hHeld.2.trans ho (fun _ h _ => h)⟩); clear ho)
  go_wp2_with fail
  refine hK.out _ _ ?_ (fun hHeld2 => ?_)
  ·exact HQ1.out
  clear hK K
  try simp only [Act.put, sIB, sC0, sCS]
  clear hHeld
  have hHeld := hHeld2
  clear hHeld2
  refine tkR 2 (h := fun K hK => ?_)
  go_simp
  (refine (CN.out _).mono ?_; rintro e w3 ⟨rfl, ho⟩; have HQ2 := hid (show (fun wc => wc.cell? ⟨lb, 0, none⟩ = some (.int .i64 (i : Int)) ∧ Only (fun _ => False) w wc) w3 from ⟨ho.cell hHeld.1 (fun h => h), hHeld.2.trans ho (fun _ h _ => h)⟩); clear ho)
  go_wp2_with fail
  refine hK.out _ _ ?_ (fun hHeld2 => ?_)
  ·exact HQ2.out
  clear hK K
  try simp only [Act.put, sIB, sC0, sCS]
  clear hHeld
  have hHeld := hHeld2
  clear hHeld2
  refine tk2 3 (h := ?_)
  refine tk3 4 (h := ?_)
  refine tk3 5 (h := ?_)
  refine tk3 6 (h := ?_)
  refine tk3 7 (h := ?_)
  refine tk3 8 (h := ?_)
  refine tk3 9 (h := ?_)
  refine tk3 10 (h := ?_)
  refine tk3 11 (h := ?_)
  refine tk3 12 (h := ?_)
  refine tk2 13 (h := ?_)
  refine tk2 14 (h := ?_)
  refine wpAnyH_done (by kernel_rfl) ?_ _
  have HF := hid HQ2.out.2
  clear HQ1 HQ2 HS0
  go_wp2
  go_ret
  exact ⟨rfl, HF.out⟩
 ·go_wp2_with (fail)
  refine wp_region_held_drew (S := fun wc => wc.cell? ⟨lb, 0, none⟩ = some (.int .i64 (i : Int)) ∧ Only (fun _ => False) w wc) (by kernel_rfl) HS0.out (fun hHeld => ?_)
  refine tk2 0 (h := ?_)
  refine tkR 1 (h := fun K hK => ?_)
  go_simp
  (refine (CM.out _ hHeld.2).mono ?_; rintro e w2 ⟨rfl, ho⟩; have HQ1 := hid (show (fun wc => wc.cell? ⟨lb, 0, none⟩ = some (.int .i64 (i : Int)) ∧ Only (fun _ => False) w wc) w2 from ⟨ho.cell hHeld.1 (fun h => h), hHeld.2.trans ho (fun _ h _ => h)⟩); clear ho)
  go_wp2_with fail
  refine hK.out _ _ ?_ (fun hHeld2 => ?_)
  ·exact HQ1.out
  clear hK K
  try simp only [Act.put, sIB, sC0, sCS]
  clear hHeld
  have hHeld := hHeld2
  clear hHeld2
  refine tkR 2 (h := fun K hK => ?_)
  go_simp
  (refine (CN.out _).mono ?_; rintro e w3 ⟨rfl, ho⟩; have HQ2 := hid (show (fun wc => wc.cell? ⟨lb, 0, none⟩ = some (.int .i64 (i : Int)) ∧ Only (fun _ => False) w wc) w3 from ⟨ho.cell hHeld.1 (fun h => h), hHeld.2.trans ho (fun _ h _ => h)⟩); clear ho)
  go_wp2_with fail
  refine hK.out _ _ ?_ (fun hHeld2 => ?_)
  ·exact HQ2.out
  clear hK K
  try simp only [Act.put, sIB, sC0, sCS]
  clear hHeld
  have hHeld := hHeld2
  clear hHeld2
  refine tk2 3 (h := ?_)
  refine tk2 4 (h := ?_)
  refine tk2 5 (h := ?_)
  refine tk2 8 (h := ?_)
  refine tk2 9 (h := ?_)
  refine tk2 10 (h := ?_)
  refine tk2 11 (h := ?_)
  refine tkR 6 (h := fun K hK => ?_)
  go_simp
  (refine (CM.out _ hHeld.2).mono ?_; rintro e w4 ⟨rfl, ho⟩; have HQ3 := hid (show (fun wc => wc.cell? ⟨lb, 0, none⟩ = some (.int .i64 (i : Int)) ∧ Only (fun _ => False) w wc) w4 from ⟨ho.cell hHeld.1 (fun h => h), hHeld.2.trans ho (fun _ h _ => h)⟩); clear ho)
  go_wp2_with fail
  refine hK.out _ _ ?_ (fun hHeld2 => ?_)
  ·exact HQ3.out
  clear hK K
  try simp only [Act.put, sIB, sC0, sCS]
  clear hHeld
  have hHeld := hHeld2
  clear hHeld2
  refine tkR 7 (h := fun K hK => ?_)
  go_simp
  (refine (CF.out _ hHeld.2).mono ?_; rintro e w5 ⟨rfl, hw5⟩; subst hw5; have HQ4 := hid hHeld)
  go_wp2_with fail
  refine hK.out _ _ ?_ (fun hHeld2 => ?_)
  ·exact HQ4.out
  clear hK K
  try simp only [Act.put, sIB, sC0, sCS]
  clear hHeld
  have hHeld := hHeld2
  clear hHeld2
  refine tk2 12 (h := ?_)
  refine tk2 13 (h := ?_)
  refine tk2 14 (h := ?_)
  refine wpAnyH_done (by kernel_rfl) ?_ _
  have HF := hid HQ4.out.2
  clear HQ1 HQ2 HQ3 HQ4 HS0
  go_wp2
  go_ret
  exact ⟨rfl, HF.out⟩
end
attribute [local go_sem] Oper.semAt_some
set_option maxRecDepth 100000 in
theorem pEach {ofn isn : FuncId} (eof : ∀ args W, (callFunc ofn args).run Tryz.prog W = .ok (.enter ofn args) W) (eis : ∀ args W, (callFunc isn args).run Tryz.prog W = .ok (.enter isn args) W)
  {w : World} (pv : Value) {lb b2 b3 : Nat} (hb2 : w.cell? ⟨b2, 0, none⟩ = some (.func (.func ofn) #[] #[])) (hb3 : w.cell? ⟨b3, 0, none⟩ = some (.func (.func isn) #[] #[]))
  (v : Value) (l : List MethN) (sl : Nat → Int) (g : Nat → Bool) (hv : MemS w v l sl) (h64 : l.length ≤ 64)
  (hOf : Calls Tryz.prog ofn #[.iface 128 (.pointer (some ⟨lb, 0, none⟩))] w fun e w' => e = .returned v ∧ Only (fun _ => False) w w')
  (hIs : ∀ j, j < l.length → ∀ W, Calls Tryz.prog isn #[.agg #[.string (l.getD j default).name, .string (l.getD j default).desc, .int .i64 (l.getD j default).flags, .int .i64 (sl j)]] W fun e w' => e = .returned (.bool (g j)) ∧ Only (fun _ => False) W w') :
  Calls Tryz.prog 135 #[pv, .pointer (some ⟨lb, 0, none⟩), .pointer (some ⟨b2, 0, none⟩), .pointer (some ⟨b3, 0, none⟩)] w fun e w' => (∃ b : Bool, e = .returned (.bool b) ∧ (b = true ↔ ∀ j, j < l.length → g j = true ∧ hasZ l (l.getD j default).name (l.getD j default).desc = (j : Int))) ∧ Only (fun _ => False) w w' := by
 obtain ⟨ok, hok⟩ : ∃ ok : Prop, ok = ∀ j, j < l.length → g j = true ∧ hasZ l (l.getD j default).name (l.getD j default).desc = (j : Int) := ⟨_, rfl⟩
 rw [← hok]
 have HOK : Hid (ok ↔ ∀ j, j < l.length → g j = true ∧ hasZ l (l.getD j default).name (l.getD j default).desc = (j : Int)) := hid (by rw [hok])
 obtain ⟨ao, cap, rfl, -, -, -, -⟩ := id hv
 have HV := hid hv
 have HOF := hid hOf
 have HIS := hid hIs
 have HB3 := hid hb3
 have hlz : ((l.length : Nat) : Int) ≤ 64 := by omega
 clear hok hv hOf hIs hb3
 go_enter Tryz.func135, Tryz.ntmps135
 go_wp2_with (fail)
 refine HOF.out.mono ?_
 rintro e w1 ⟨rfl, ho1⟩
 have HO1 := hid ho1
 clear HOF ho1 hb2
 go_wp2
 go_loopw [8, 9, 16] (fun _ _ iv wr => ∃ j : Nat, iv = .int .i64 j ∧ j ≤ l.length ∧ Hid (∀ i, i < j → g i = true ∧ hasZ l (l.getD i default).name (l.getD i default).desc = (i : Int)) ∧ Hid (Only (fun _ => False) w wr)) (fun _ _ iv _ => l.length - (Lib.intOf iv).toNat)
 case atStart => exact ⟨0, rfl, Nat.zero_le _, hid (fun i h => absurd h (Nat.not_lt_zero i)), HO1⟩
 case round =>
  obtain ⟨j, rfl, hj, HT, HO⟩ := hrel
  by_cases hlt : j < l.length
  ·have hjz : (j : Int) < (l.length : Int) := by omega
   have hj0 : (0 : Int) ≤ (j : Int) := by omega
   obtain ⟨b, o, rfl, y0, y1, y2, y3⟩ := Sl.at (HV.out.only HO.out) hlt
   have hi := HIS.out j hlt
   have cp := fun (W : World) (ho : Only (fun _ => False) w W) => pPlaceOf _ l sl (l.getD j default).name (l.getD j default).desc W (HV.out.only ho) (by omega)
   have HG : Hid (∀ i, i < j + 1 → i ≠ j → g i = true ∧ hasZ l (l.getD i default).name (l.getD i default).desc = (i : Int)) := hid (fun i h1 h2 => HT.out i (by omega))
   have HJ : Hid (ok → g j = true ∧ hasZ l (l.getD j default).name (l.getD j default).desc = (j : Int)) := hid (fun h => HOK.out.1 h j hlt)
   have HN : Hid ((g j = true ∧ hasZ l (l.getD j default).name (l.getD j default).desc = (j : Int)) → ∀ i, i < j + 1 → g i = true ∧ hasZ l (l.getD i default).name (l.getD i default).desc = (i : Int)) := hid (fun h i hi => by
    by_cases e : i = j
    ·subst e; exact h
    ·exact HG.out i hi e)
   generalize hasZ l (l.getD j default).name (l.getD j default).desc = hz at *
   generalize g j = gj at *
   obtain ⟨m, hm⟩ : ∃ m, l.getD j default = m := ⟨_, rfl⟩
   obtain ⟨s, hs⟩ : ∃ s, sl j = s := ⟨_, rfl⟩
   rw [hm] at y0 y1 y2 hi cp
   rw [hs] at hi
   rw [hs] at y3
   clear hm hs HG
   have hal := (Only.refl (fun _ => False) wr).alloc (.cells #[.string m.name, .string m.desc, .int .i64 m.flags, .int .i64 s] 146)
   have hrn := heap_alloc_new wr (.cells #[.string m.name, .string m.desc, .int .i64 m.flags, .int .i64 s] 146)
   have hoa := HO.out.trans hal (fun _ h _ => h)
   have hq3 := hoa.cell HB3.out (fun h => h)
   have HOA := hid hoa
   have HRN := hid hrn
   have HI := hid hi
   have CP := hid cp
   have HLJ := hid (show j < l.length from hlt)
   clear hal hrn hoa hi cp HIS
   go_wp2_with (fail)
   refine (HI.out _).mono ?_
   rintro e w3 ⟨rfl, ho3⟩
   have hr3 := ho3.heap HRN.out (fun h => h)
   have z0 := cell_blk hr3 0
   have z1 := cell_blk hr3 1
   have ho3' := HOA.out.trans ho3 (fun _ h _ => h)
   have C2 := hid (CP.out _ ho3')
   have HO3 := hid ho3'
   clear hr3 ho3 ho3' hq3 HRN HOA CP HI
   cases gj
   ·have HB := hid (show ¬ ok from fun h => by have := (HJ.out h).1; cases this)
    clear HN HJ C2
    go_wp2
    go_ret
    first | exact ⟨.inl ⟨rfl, HB.out⟩, HO3.out⟩ | exact ⟨⟨false, rfl, fun h => absurd h (by decide), fun h => absurd h HB.out⟩, HO3.out⟩
   ·by_cases hzj : hz = (j : Int)
    ·have HT2 := hid (HN.out ⟨rfl, hzj⟩)
     have hzb : (hz != (j : Int)) = false := by rw [bne_eq_false_iff_eq]; exact hzj
     clear HN HJ hzj
     go_wp2_with (fail)
     refine C2.out.mono ?_
     rintro e w4 ⟨rfl, ho4⟩
     have HF := hid (HO3.out.trans ho4 (fun _ h _ => h))
     clear ho4 C2
     go_wp2
     go_roundw
     case measure => simp [Lib.intOf]; omega
     case rel => exact ⟨j + 1, by simp, by omega, HT2, HF⟩
    ·have HB := hid (show ¬ ok from fun h => hzj (HJ.out h).2)
     have hzb : (hz != (j : Int)) = true := by simpa using hzj
     clear HN HJ hzj
     go_wp2_with (fail)
     refine C2.out.mono ?_
     rintro e w4 ⟨rfl, ho4⟩
     have HF := hid (HO3.out.trans ho4 (fun _ h _ => h))
     clear ho4 C2
     go_wp2
     go_ret
     first | exact ⟨.inl ⟨rfl, HB.out⟩, HF.out⟩ | exact ⟨⟨false, rfl, fun h => absurd h (by decide), fun h => absurd h HB.out⟩, HF.out⟩
  ·obtain rfl : j = l.length := by omega
   have HB := hid (HOK.out.2 HT.out)
   have hnl : ¬ ((l.length : Nat) : Int) < ((l.length : Nat) : Int) := by omega
   go_wp2
   go_ret
   first | exact ⟨.inr ⟨rfl, HB.out⟩, HO.out⟩ | exact ⟨⟨true, rfl, fun _ => HB.out, fun _ => rfl⟩, HO.out⟩
attribute [local go_sem] Oper.semAt_some
theorem alloc_sz (w : World) (o : Obj) : (w.alloc o).heap.size = w.heap.size + 1 := by simp
theorem info1_rule : (Tryz.prog.info? 134).map (·.size) = some 1 := by kernel_rfl
theorem rule_result {fn : Func} {p : Tmp} (hr : fn.results = #[.cell p 134]) {w : World} {b : Nat} {f : Value} {tmps : Array Value} (h : w.heap[b]? = some (.cells #[f] 134 (0, 0))) (ht : tmps.getD p undef = .pointer (some ⟨b, 0, none⟩)) :
  (results fn tmps).run Tryz.prog w = .ok (.agg #[f]) w := by
 have hp' : tmps[p]?.getD undef = .pointer (some ⟨b, 0, none⟩) := by simpa using ht
 have hL := run_loadVar_row w b 134 134 _ (0, 0) _ h Tryz.underlying134 rfl info1_rule
 simp only [results, hr]
 simp [Sem.run_bind, Result.andThen, hp', asAddr, hL]
set_option maxRecDepth 100000 in
theorem pForEach (ofn isn : FuncId) (w : World) :
  Calls Tryz.prog 104 #[.func (.func ofn) #[] #[], .func (.func isn) #[] #[]] w fun e w' => e = .returned (.agg #[.func (.func 135) #[] #[.pointer (some ⟨w.heap.size, 0, none⟩), .pointer (some ⟨w.heap.size + 1, 0, none⟩)]]) ∧
   w'.cell? ⟨w.heap.size, 0, none⟩ = some (.func (.func ofn) #[] #[]) ∧ w'.cell? ⟨w.heap.size + 1, 0, none⟩ = some (.func (.func isn) #[] #[]) ∧ Only (fun _ => False) w w' := by
 have hmf : ∀ (fn : Fn) (first cap : Array Value) (w : World), (Instr.makeFunc fn first cap).run Tryz.prog w = .ok (.func fn first cap) w := fun _ _ _ _ => rfl
 have hsf : ∀ a n (f c : Array Value) W, (store a (.func (.func n) f c)).run Tryz.prog W = stored Tryz.prog W a (.func (.func n) f c) .plain := fun a n f c W => run_store _ W a _ .plain rfl
 go_enter Tryz.func104, Tryz.ntmps104
 have ho := (((Only.refl (fun _ => False) w).alloc (.cells #[.func (.func ofn) #[] #[]] 181)).alloc (.cells #[.func (.func isn) #[] #[]] 182)).alloc (.cells #[.func (.func 135) #[] #[.pointer (some ⟨w.heap.size, 0, none⟩), .pointer (some ⟨w.heap.size + 1, 0, none⟩)]] 134)
 have h1 := heap_alloc_new w (.cells #[.func (.func ofn) #[] #[]] 181)
 have h2 := heap_alloc_new (w.alloc (.cells #[.func (.func ofn) #[] #[]] 181)) (.cells #[.func (.func isn) #[] #[]] 182)
 have h3 := heap_alloc_new ((w.alloc (.cells #[.func (.func ofn) #[] #[]] 181)).alloc (.cells #[.func (.func isn) #[] #[]] 182)) (.cells #[.func (.func 135) #[] #[.pointer (some ⟨w.heap.size, 0, none⟩), .pointer (some ⟨w.heap.size + 1, 0, none⟩)]] 134)
 rw [alloc_sz, alloc_sz] at h3
 rw [alloc_sz] at h2
 have a1 := ((((Only.refl (fun _ => False) _).alloc (.cells #[.func (.func isn) #[] #[]] 182)).alloc (.cells #[.func (.func 135) #[] #[.pointer (some ⟨w.heap.size, 0, none⟩), .pointer (some ⟨w.heap.size + 1, 0, none⟩)]] 134)).heap h1 (fun h => h))
 have a2 := ((Only.refl (fun _ => False) _).alloc (.cells #[.func (.func 135) #[] #[.pointer (some ⟨w.heap.size, 0, none⟩), .pointer (some ⟨w.heap.size + 1, 0, none⟩)]] 134)).heap h2 (fun h => h)
 have HO := hid ho
 have H1 := hid a1
 have H2 := hid a2
 have H3 := hid h3
 clear ho h1 h2 h3 a1 a2
 go_wp2
 refine bodyPost_ret (rule_result (b := w.heap.size + 1 + 1) Tryz.results104 ?_ rfl) rfl ⟨rfl, ?_, ?_, ?_⟩
 ·exact H3.out
 ·exact cell_blk H1.out 0
 ·exact cell_blk H2.out 0
 ·exact HO.out
end Go.Proofs.YtinbelghhfodiaaGreatDoor
namespace Go.Proofs.YtinbelghhfodiaaGreatDoor
set_option maxHeartbeats 16000000
open Lib (hid)
open Go.RowKit
set_option linter.unusedVariables false
set_option linter.unusedSimpArgs false
def NamesR (l : List PairV) : Prop := ∀ p ∈ l, p.name.size ≤ maxLen ∧ p.super.size ≤ maxLen
def superV (l : List PairV) (x : ByteArray) : ByteArray := if pairOf l x < 0 then ⟨#[]⟩ else (l.getD (pairOf l x).toNat default).super
set_option maxRecDepth 100000 in
theorem progAsked (v pv : Value) (l : List PairV) (x : ByteArray) (b3 b1 : Nat) (w w0 : World) (hp : Pairs w v l) (h1 : w.cell? ⟨b1, 0, none⟩ = some v) (h3 : w.cell? ⟨b3, 0, none⟩ = some pv) (hpv : PlaceV w0 l pv) (hw : Only (fun _ => False) w0 w) (hx : x.size ≤ maxLen) :
  Calls Tryz.prog 123 #[.string x, .pointer (some ⟨b3, 0, none⟩), .pointer (some ⟨b1, 0, none⟩)] w fun e w' => e = .returned (.tuple #[.string (superV l x), .bool (!decide (pairOf l x < 0))]) ∧ Only (fun _ => False) w w' := by
 obtain ⟨n, b, rfl, hen, hcall⟩ := hpv
 have c1 := hcall w x hw hx
 have C1 := hid c1
 have HP := hid hp
 have H1 := hid h1
 clear hcall c1 h1 hw
 rcases pairOf_cases l x with hq | ⟨q, hql, hq⟩
 ·have hs : superV l x = ⟨#[]⟩ := by unfold superV; rw [hq]; rfl
  rw [hs]
  rw [hq] at C1 ⊢
  clear hs hq hp
  go_enter Tryz.func123, Tryz.ntmps123
  go_wp2_with (fail)
  refine C1.out.mono ?_
  rintro e w1 ⟨rfl, ho1⟩
  have HO1 := hid ho1
  clear ho1 C1
  go_wp2
  go_ret2
  exact ⟨rfl, HO1.out⟩
 ·have hs : superV l x = (l.getD q default).super := by unfold superV; rw [hq, if_neg (by omega)]; rfl
  rw [hs]
  rw [hq] at C1 ⊢
  have hd : decide ((q : Int) < 0) = false := by simp
  rw [hd]
  obtain ⟨p, hpe⟩ : ∃ p, l.getD q default = p := ⟨_, rfl⟩
  rw [hpe]
  have HPE := hid hpe
  obtain ⟨ao, cap, rfl, p1, p2, p3, -⟩ := id hp
  clear hs hq hp p3 hd hpe
  have hqz : (q : Int) < (l.length : Int) := by omega
  have hq0 : (0 : Int) ≤ (q : Int) := by omega
  have hq1 : ¬ (q : Int) < 0 := by omega
  go_enter Tryz.func123, Tryz.ntmps123
  go_wp2_with (fail)
  refine C1.out.mono ?_
  rintro e w1 ⟨rfl, ho1⟩
  obtain ⟨g, o, rfl, y⟩ := Sl.at (HP.out.only ho1) hql
  rw [HPE.out] at y
  obtain ⟨y0, y1⟩ := y
  have h1' := ho1.cell H1.out (fun h => h)
  have HO1 := hid ho1
  clear ho1 C1 H1
  go_wp2
  go_ret2
  exact ⟨rfl, HO1.out⟩
def AskV (w : World) (l : List PairV) (av : Value) : Prop := ∃ b3 b1, av = .func (.func 123) #[] #[.pointer (some ⟨b3, 0, none⟩), .pointer (some ⟨b1, 0, none⟩)] ∧
 ∀ W x, Only (fun _ => False) w W → x.size ≤ maxLen → Calls Tryz.prog 123 #[.string x, .pointer (some ⟨b3, 0, none⟩), .pointer (some ⟨b1, 0, none⟩)] W fun e w' => e = .returned (.tuple #[.string (superV l x), .bool (!decide (pairOf l x < 0))]) ∧ Only (fun _ => False) W w'
theorem store_func8 (n b : Nat) (a : Addr) (w : World) : (store a (.func (.func n) #[] #[.pointer (some ⟨b, 0, none⟩)])).run Tryz.prog w = stored Tryz.prog w a (.func (.func n) #[] #[.pointer (some ⟨b, 0, none⟩)]) .plain := run_store _ w a _ .plain rfl
set_option maxRecDepth 100000 in
theorem progAsking (v : Value) (l : List PairV) (w : World) (hp : Pairs w v l) (hlen : l.length ≤ 4611686018427387904) (hsz : NamesR l) :
  Calls Tryz.prog 87 #[v] w fun e w' => ∃ av, e = .returned av ∧ AskV w' l av ∧ Only (fun _ => False) w w' := by
 obtain ⟨ao, cap, rfl, p1, p2, p3, -⟩ := id hp
 have ho1 := (Only.refl (fun _ => False) w).alloc (.cells #[.slice ao l.length cap] 53)
 have hb1 := heap_alloc_new w (.cells #[.slice ao l.length cap] 53)
 have c1 := progPlacing _ l _ (hp.only ho1) hlen (fun p h => (hsz p h).1)
 have C1 := hid c1
 have HO := hid ho1
 have HB := hid hb1
 have HP := hid hp
 clear p3 hb1 ho1 c1 hp
 go_enter Tryz.func87, Tryz.ntmps87
 go_wp2_with (fail)
 refine C1.out.mono ?_
 rintro e w1 ⟨pv, rfl, hpv, ho1⟩
 have hal := (Only.refl (fun _ => False) w1).alloc (.cells #[pv] 72)
 have hn := heap_alloc_new w1 (.cells #[pv] 72)
 have HPV := hid (hpv.only hal)
 have HO1 := hid ((HO.out.trans ho1 (fun _ h _ => h)).trans hal (fun _ h _ => h))
 have HC1 := hid (cell_blk (hal.heap (ho1.heap HB.out (fun h => h)) (fun h => h)) 0)
 have HC3 := hid (cell_blk hn 0)
 obtain ⟨n, b, hpve, -⟩ := hpv
 subst hpve
 have hsf := fun a w => store_func8 n b a w
 clear hal hn ho1 C1
 go_wp2
 go_ret
 exact ⟨_, rfl, ⟨_, _, rfl, fun W x hW hx => progAsked _ _ l x _ _ W _ (HP.out.only (HO1.out.trans hW (fun _ h _ => h))) (hW.cell HC1.out (fun h => h)) (hW.cell HC3.out (fun h => h)) HPV.out hW hx⟩, HO1.out⟩
set_option maxRecDepth 100000 in
theorem progBelow (v : Value) (l : List PairV) (a b : ByteArray) (w : World) (hp : Pairs w v l) (hlen : l.length ≤ 4611686018427387904) (hsz : NamesR l) (ha : a.size ≤ maxLen) :
  Calls Tryz.prog 50 #[v, .string a, .string b] w fun e w' => e = .returned (.bool (belowZ l a b)) ∧ Only (fun _ => False) w w' := by
 obtain ⟨ao, cap, rfl, p1, p2, p3, -⟩ := id hp
 have c1 := progAsking _ l w hp hlen hsz
 have C1 := hid c1
 have HS := hid hsz
 have HA := hid ha
 clear p3 hp c1 hsz ha
 by_cases hab : a = b
 ·subst hab
  have HR := hid (show belowZ l a a = true from belowN_same l a _)
  go_enter Tryz.func50, Tryz.ntmps50
  go_wp2
  go_ret
  rw [HR.out]
  exact ⟨rfl, Only.refl _ _⟩
 ·obtain ⟨e1, e2⟩ := toList_beq hab
  have HAB := hid hab
  clear hab
  go_enter Tryz.func50, Tryz.ntmps50
  go_wp2_with (fail)
  refine C1.out.mono ?_
  rintro e w1 ⟨av, rfl, ⟨b3, b1, rfl, hav⟩, ho1⟩
  have HAV := hid hav
  have HO1 := hid ho1
  have hen : ∀ args w, (callFunc 123 args).run Tryz.prog w = .ok (.enter 123 args) w := enters_of Tryz.func123 (by kernel_rfl) rfl
  clear hav ho1 C1 e1 e2
  go_wp2
  go_loopw [1, 17] (fun av iv wr => ∃ (c : ByteArray) (k : Nat), av = .string c ∧ iv = .int .i64 k ∧ k ≤ l.length ∧ Hid (c ≠ b) ∧ Hid (c.size ≤ maxLen) ∧ Hid (belowZ l a b = belowN l b (l.length - k) c) ∧ Hid (Only (fun _ => False) w1 wr)) (fun _ iv _ => l.length - (intOf iv).toNat)
  case atStart => exact ⟨a, 0, rfl, rfl, Nat.zero_le _, HAB, HA, hid rfl, hid (Only.refl _ _)⟩
  case round =>
   obtain ⟨c, k, rfl, rfl, hk, HCB, HC, HB, HON⟩ := hrel
   by_cases hlt : k < l.length
   ·have hkz : (k : Int) < (l.length : Int) := by omega
    have c2 := HAV.out wr c HON.out HC.out
    rcases pairOf_cases l c with hq | ⟨q, hql, hq⟩
    ·have HR := hid (show belowZ l a b = false by rw [HB.out, belowN_none HCB.out hq])
     have hs : superV l c = ⟨#[]⟩ := by unfold superV; rw [hq]; rfl
     rw [hs, hq] at c2
     have C2 := hid c2
     clear c2 hq hs
     go_wp2_with (fail)
     refine C2.out.mono ?_
     rintro e w2 ⟨rfl, ho2⟩
     have HO2 := hid ((HO1.out.trans HON.out (fun _ h _ => h)).trans ho2 (fun _ h _ => h))
     clear ho2 C2
     go_wp2
     go_ret
     rw [HR.out]
     exact ⟨rfl, HO2.out⟩
    ·have hs : superV l c = (l.getD q default).super := by unfold superV; rw [hq, if_neg (by omega)]; rfl
     have hst : belowZ l a b = belowN l b (l.length - (k + 1)) (l.getD q default).super := by
      rw [HB.out, show l.length - k = (l.length - (k + 1)) + 1 by omega, belowN_step HCB.out hq]
     have HSR := hid (HS.out _ (getD_mem hql)).2
     rw [hs, hq, show decide ((q : Int) < 0) = false by simp, Bool.not_false] at c2
     have HST := hid hst
     have C2 := hid c2
     clear c2 hq hs hst
     generalize (l.getD q default).super = sp at *
     by_cases hsb : sp = b
     ·subst hsb
      have HR := hid (show belowZ l a sp = true by rw [HST.out, belowN_same])
      go_wp2_with (fail)
      refine C2.out.mono ?_
      rintro e w2 ⟨rfl, ho2⟩
      have HO2 := hid ((HO1.out.trans HON.out (fun _ h _ => h)).trans ho2 (fun _ h _ => h))
      clear ho2 C2
      go_wp2
      go_ret
      rw [HR.out]
      exact ⟨rfl, HO2.out⟩
     ·obtain ⟨n1, n2⟩ := toList_beq hsb
      have HSB := hid hsb
      clear hsb
      go_wp2_with (fail)
      refine C2.out.mono ?_
      rintro e w2 ⟨rfl, ho2⟩
      have HO2 := hid (HON.out.trans ho2 (fun _ h _ => h))
      clear ho2 C2
      go_wp2
      go_roundw
      case rel => exact ⟨sp, k + 1, rfl, by go_num, by omega, HSB, HSR, HST, HO2⟩
      case measure => simp [intOf]; omega
   ·obtain rfl : k = l.length := by omega
    have HR := hid (show belowZ l a b = false by rw [HB.out, Nat.sub_self, belowN_last HCB.out])
    have HO2 := hid (HO1.out.trans HON.out (fun _ h _ => h))
    clear hlt hk
    go_wp2
    go_ret
    rw [HR.out]
    exact ⟨rfl, HO2.out⟩
end Go.Proofs.YtinbelghhfodiaaGreatDoor
namespace Go.Proofs.YtinbelghhfodiaaGreatDoor
set_option maxHeartbeats 16000000
open Lib (hid)
open Go.RowKit Go.Maps
set_option linter.unusedVariables false
set_option linter.unusedSimpArgs false
def leadsZ (ks : List KindV) (k : KindV) : Bool := decide (k.super ≠ sysB) && belowZ (treeZ ks) k.name objB
section
variable {G : Nat → Prop} {fv : Nat → Value} {w : World} {pb : Nat} {ks : List KindV} {cl : Nat → ClassV} {sl : Nat → Nat → Int} (h : ProgG G fv w pb ks cl sl) (hpos : 0 < ks.length) (hsm : ks.length ≤ 64) (hnr : NamesR (treeZ ks))
 {lb i : Nat} {c : ClassV} {vp vf vm vof vom : Value} (hl : w.heap[lb]? = some (listedO i c vp vf vm vof vom)) (hp : Pool w vp c.pool) {k : KindV} (hkn : k.name = (classZ c.pool c.this).1) (hks : k.super = (classZ c.pool c.super).1) (hna : k.name.size ≤ maxLen)
include h hpos hsm hnr hl hp hkn hks hna
set_option maxRecDepth 100000 in
theorem pLeads : Calls Tryz.prog 103 #[.pointer (some ⟨pb, 0, none⟩), .pointer (some ⟨lb, 0, none⟩)] w fun e w' => e = .returned (.bool (leadsZ ks k)) ∧ Only (fun _ => False) w w' := by
 have C1 := hid (lSuper hl hp)
 have C2 := hid (fun (W : World) (ho : Only (fun _ => False) w W) => pTree (h.only ho) hpos hsm)
 have C3 := hid (fun (W : World) (ho : Only (fun _ => False) w W) => lName (ho.heap hl (fun h => h)) (hp.only ho (fun _ _ h => h)))
 have C4 := hid (fun (v : Value) (W : World) (hv : Pairs W v (treeZ ks)) => progBelow v (treeZ ks) k.name objB W hv (by rw [treeZ_len]; omega) hnr hna)
 have HZ : Hid (leadsZ ks k = (decide (k.super ≠ sysB) && belowZ (treeZ ks) k.name objB)) := hid rfl
 rw [← hkn] at C3
 rw [← hks] at C1
 generalize leadsZ ks k = z at *
 obtain ⟨nm, hnm⟩ : ∃ nm, k.name = nm := ⟨_, rfl⟩
 obtain ⟨su, hsu⟩ : ∃ su, k.super = su := ⟨_, rfl⟩
 rw [hnm] at C3 C4 HZ
 rw [hsu] at C1 HZ
 generalize treeZ ks = tr at *
 clear h hpos hsm hnr hl hp hkn hks hna hnm hsu
 unfold objB at C4 HZ
 generalize belowZ tr nm ⟨#[79, 98, 106, 101, 99, 116]⟩ = bz at *
 go_enter Tryz.func103, Tryz.ntmps103
 by_cases hs : su = sysB
 ·have HE : Hid (z = false) := hid (by rw [HZ.out]; simp [hs])
  unfold sysB at hs
  subst hs
  have hli := lit_sys
  clear HZ
  go_wp2_with (go_at_call 134; refine C1.out.mono ?_; rintro e w1 ⟨rfl, ho1⟩)
  go_ret
  exact ⟨by rw [HE.out]; rfl, ho1⟩
 ·have HE : Hid (z = bz) := hid (by rw [HZ.out]; simp [hs])
  obtain ⟨n1, n2⟩ := toList_beq hs
  unfold sysB at n1 n2
  rw [lit_sys] at n1 n2
  clear HZ hs
  go_wp2_with (first
   | (go_at_call 134; refine C1.out.mono ?_; rintro e w1 ⟨rfl, ho1⟩)
   | (go_at_call 45; refine (C2.out _ ho1).mono ?_; rintro e w2 ⟨r, rfl, hr, ho2⟩)
   | (go_at_call 133; refine (C3.out _ (ho1.trans ho2 (fun _ h _ => h))).mono ?_; rintro e w3 ⟨rfl, ho3⟩)
   | (go_at_call 50; refine (C4.out _ _ (hr.only ho3)).mono ?_; rintro e w4 ⟨rfl, ho4⟩))
  go_ret
  exact ⟨by rw [HE.out]; rfl, ((ho1.trans ho2 (fun _ h _ => h)).trans ho3 (fun _ h _ => h)).trans ho4 (fun _ h _ => h)⟩
end
end Go.Proofs.YtinbelghhfodiaaGreatDoor
