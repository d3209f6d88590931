import Derived.Test.YtinbelghhfodiaaGreatDoorMaTlk
import Derived.Test.YtinbelghhfodiaaGreatDoorMaKndPRulA
import Derived.Deep.RegionHeld3
import Derived.Test.YtinbelghhfodiaaGreatDoorMaTillPolI
import Derived.Laws.CopyRow
namespace Go.Proofs.YtinbelghhfodiaaGreatDoor
set_option maxHeartbeats 8000000
open Lib (hid)
open Go.RowKit
set_option linter.unusedVariables false
set_option linter.unusedSimpArgs false
section
variable {w : World} {xb pb : Nat} {ks : List KindV} {p : PlcV} (h : PlaceP w xb pb ks p) {G : Nat → Prop} {fv : Nat → Value} {cl : Nat → ClassV} {sl : Nat → Nat → Int} (hp : ProgG G fv w pb ks cl sl) (hn : 0 < ks.length) (n : Int)
include h hp hn
end
theorem run_copy_rowN (P : Program) (w : World) (dT sT ty elem : TypeId) (g o dLen dCap : Nat) (a : Addr) (sLen sCap : Nat) (cur : Array Value) (t : TypeId) (cs : List Value) (size : Nat)
  (hu : P.underlying dT = some (.slice elem)) (hs : (P.info? elem).map (·.size) = some size)
  (hg : w.heap[g]? = some (.cells cur t (0, 0))) (hn : cs.length = Nat.min sLen dLen * size)
  (hsrc : ∀ j v, cs[j]? = some v → w.cell? (a.add j) = some v) (hfit : o + cs.length ≤ cur.size) (h1 : ∀ v ∈ cs, v.oneCell' = true) :
  (Builtin.copy_ #[dT, sT] ty #[.slice (some ⟨g, o, none⟩) dLen dCap, .slice (some a) sLen sCap]).run P w =
   .ok (goInt (Nat.min sLen dLen)) (w.setRow g (cur.toList.take o ++ cs ++ cur.toList.drop (o + cs.length)).toArray) := by
 have hl := run_loadCells_list (P := P) w a cs hsrc
 have hst := run_storeCells_at P g o t cs 0 cur w hg (by simpa using hfit) h1
 cases hq : P.info? elem with
 | none => simp [hq] at hs
 | some i =>
  have hi : i.size = size := by simpa [hq] using hs
  simp [Builtin.copy_, run_underlying hu, Builtin.lenOf, Builtin.firstCells, sizeOf, typeInfo, hq, hi, ← hn, hl, hst]
def refT (nm : ByteArray) : TypeV := ⟨4, nm, 0, 0, 0⟩
theorem pClassType (nm : ByteArray) (w : World) : Calls Tryz.prog 121 #[.string nm] w fun e w' => e = .returned (valT (refT nm)) ∧ Only (fun _ => False) w w' := by
 have ho := (Only.refl (fun _ => False) w).alloc (.cells #[.int .i64 4, .string nm, .int .i64 0, .int .i64 0, .int .i64 0] 33)
 have hr := heap_alloc_new w (.cells #[.int .i64 4, .string nm, .int .i64 0, .int .i64 0, .int .i64 0] 33)
 have HO := hid ho
 have HR := hid hr
 clear ho hr
 go_enter Tryz.func121, Tryz.ntmps121
 go_wp2
 refine bodyPost_ret (type_alone (i := refT nm) (b := w.heap.size) Tryz.results121 HR.out rfl) rfl ⟨rfl, HO.out⟩
section
variable {w : World} {xb pb : Nat} {ks : List KindV} {p : PlcV} (h : PlaceP w xb pb ks p) {G : Nat → Prop} {fv : Nat → Value} {cl : Nat → ClassV} {sl : Nat → Nat → Int} (hp : ProgG G fv w pb ks cl sl) (hn : 0 < ks.length) (n : Int)
include h hp hn
end
def thisT (nm : ByteArray) (fr : Bool) : TypeV := if fr then ⟨7, ⟨#[]⟩, 0, 0, 0⟩ else refT nm
section
variable {w : World} {xb pb : Nat} {ks : List KindV} {p : PlcV} (h : PlaceP w xb pb ks p) {G : Nat → Prop} {fv : Nat → Value} {cl : Nat → ClassV} {sl : Nat → Nat → Int} (hp : ProgG G fv w pb ks cl sl) (hn : 0 < ks.length)
include h hp hn
set_option maxRecDepth 100000 in
theorem pThis (fr : Bool) : Calls Tryz.prog 85 #[.pointer (some ⟨xb, 0, none⟩), .bool fr] w fun e w' => e = .returned (valT (thisT (nameZ ks p.cls) fr)) ∧ Only (fun _ => False) w w' := by
 have ho := (Only.refl (fun _ => False) w).alloc (.cells #[.int .i64 0, .string ⟨#[]⟩, .int .i64 0, .int .i64 0, .int .i64 0] 33)
 have hr := heap_alloc_new w (.cells #[.int .i64 0, .string ⟨#[]⟩, .int .i64 0, .int .i64 0, .int .i64 0] 33)
 obtain ⟨W0, hW0⟩ : ∃ W0, w.alloc (.cells #[.int .i64 0, .string ⟨#[]⟩, .int .i64 0, .int .i64 0, .int .i64 0] 33) = W0 := ⟨_, rfl⟩
 rw [hW0] at ho hr
 obtain ⟨tv, pv, cv, lv, sv, h1, -⟩ := h.only ho
 have z0 := cell_blk h1 0
 have z2 := cell_blk h1 2
 simp only [List.getElem?_toArray, List.getElem?_cons_zero, List.getElem?_cons_succ] at z0 z2
 have CN := hid (fun W (hW : Only (fun _ => False) W0 W) => pName ((hp.only ho).only hW) hn p.cls)
 have CT := hid (fun W => pClassType (nameZ ks p.cls) W)
 obtain ⟨y0, y1, y2, y3, y4⟩ := cells5T hr
 obtain ⟨m0, m1, m2, m3, m4⟩ := marks5T hr
 have HR := hid hr
 have HO := hid ho
 have HW0 := hid hW0
 have hSd : W0.drew.cell? ⟨xb, 0, none⟩ = some (.pointer (some ⟨pb, 0, none⟩)) ∧ W0.drew.cell? ⟨xb, 2, none⟩ = some (.int .i64 p.cls) := ⟨z0, z2⟩
 clear h hp h1 hr ho hW0 z0 z2
 cases fr
 ·clear y0 y1 y2 y3 y4 m0 m1 m2 m3 m4
  go_enter Tryz.func85, Tryz.ntmps85
  go_upto_region 3 with fail
  rw [HW0.out]
  refine wp_till 8 (fun wc => wc.cell? ⟨xb, 0, none⟩ = some (.pointer (some ⟨pb, 0, none⟩)) ∧ wc.cell? ⟨xb, 2, none⟩ = some (.int .i64 p.cls)) (by kernel_rfl) ?_
  refine Till.tv 0 [3, 2, 1] (h := ?_)
  refine Till.tv 1 [3, 2] (h := ?_)
  refine Till.tv 2 [3] (h := ?_)
  refine Till.tk 3 (h := ?_)
  refine Till.tv 4 [7, 6, 5] (h := ?_)
  refine Till.tv 5 [7, 6] (h := ?_)
  refine Till.tv 6 [7] (h := ?_)
  refine Till.tk 7 (h := ?_)
  refine Till.ts 8 (h := fun K hK => ?_)
  go_simp
  (refine (CN.out _ (Only.refl (fun _ => False) W0).drew).mono ?_; rintro e1 w1 ⟨rfl, ho1⟩; have HO1 := hid ((Only.refl (fun _ => False) W0).drew.trans ho1 (fun _ h _ => h)); clear ho1)
  go_wp2_with fail
  refine hK.out _ _ ?_ ?_
  ·exact fun h => by cases h
  clear hK K
  try simp only [Act.put, sIB, sC0, sCS]
  refine Till.ts 9 (h := fun K hK => ?_)
  go_simp
  (refine (CT.out _).mono ?_; rintro e2 w2 ⟨rfl, ho2⟩; have HO2 := hid (HO1.out.trans ho2 (fun _ h _ => h)); have hx2 := HO2.out.heap HR.out (fun h => h); obtain ⟨f0, f1, f2, f3, f4⟩ := marks5T hx2; obtain ⟨y0, y1, y2, y3, y4⟩ := cells5T hx2; have HX2 := hid hx2; clear ho2 hx2; unfold valT refT)
  go_wp2_with fail
  refine hK.out _ _ ?_ ?_
  ·exact fun h => by cases h
  clear hK K
  try simp only [Act.put, sIB, sC0, sCS]
  refine Till.ts 10 (h := fun K hK => ?_)
  go_simp
  refine hK.out _ _ ?_ ?_
  ·exact fun h => by cases h
  clear hK K
  try simp only [Act.put, sIB, sC0, sCS]
  refine Till.done (by kernel_rfl) ?_ _
  have HO5 := hid (HO.out.trans HO2.out (fun _ h _ => h))
  go_wp2
  refine bodyPost_ret (type_alone (i := refT (nameZ ks p.cls)) (b := w.heap.size) Tryz.results85 (store5T HX2.out) rfl) rfl ⟨rfl, only5T HO5.out (fun hl => absurd hl (Nat.lt_irrefl _))⟩
 ·go_enter Tryz.func85, Tryz.ntmps85
  go_upto_region 2 with fail
  rw [HW0.out]
  go_wp2
  refine bodyPost_ret (type_alone (i := ⟨7, ⟨#[]⟩, 0, 0, 0⟩) (b := w.heap.size) Tryz.results85 (store5T HR.out) rfl) rfl ⟨rfl, only5T HO.out (fun hl => absurd hl (Nat.lt_irrefl _))⟩
end
end Go.Proofs.YtinbelghhfodiaaGreatDoor
