import Derived.Test.YtemplkpcckmcoaaGreatDoorMkPolW
import Derived.Test.YtemplkpcckmcoaaGreatDoorMkTxtEPolC
import Derived.Test.YtemplkpcckmcoaaGreatDoorMkTxtATxtD
import Derived.Test.YtemplkpcckmcoaaGreatDoorMkPolAPolV
import Derived.Lib.IfaceEq
import Derived.Stop.Asserts
import Derived.LaidEql
import Derived.RowKitTokens
import Derived.Test.YtemplkpcckmcoaaGreatDoorRows
import Derived.Test.YtemplkpcckmcoaaGreatDoorMkSepMem
import Derived.ProofKit
import Derived.SizedLaws
import Derived.Deep.Slices
import Derived.Deep.Fields
namespace Go.Proofs.YtemplkpcckmcoaaGreatDoor
set_option maxHeartbeats 4000000
open Lib (hid)
open Go.RowKit Go.Shelf
set_option linter.unusedVariables false
set_option linter.unusedSimpArgs false
theorem empty_enc : Enc (nums ⟨#[]⟩) [] 0 := .inl ⟨[], ⟨(fun c hc => (by cases hc)), rfl⟩, rfl, rfl⟩
theorem empty_not_bad : ¬ TextBad ⟨#[]⟩ := fun h => by
 rcases h [] 0 empty_enc with h | h
 ·exact h rfl
 ·simp at h
theorem bad_len {x : ByteArray} {ys : List Int} {k : Int} (h : Enc (nums x) ys k) : TextBad x ↔ (256 < ys.length ∨ (ys.length = 0 ∧ x ≠ ⟨#[]⟩)) := by
 constructor
 ·intro hb
  rcases hb ys k h with hk | hl
  ·rcases h with ⟨cs, ht, rfl, rfl⟩ | ⟨hn, rfl, rfl⟩
   ·exact absurd rfl hk
   ·refine .inr ⟨rfl, fun e => hn ?_⟩
    subst e
    exact ⟨[], ⟨fun c hc => (by cases hc), rfl⟩⟩
  ·exact .inl hl
 ·intro hb ys' k' h'
  obtain ⟨rfl, rfl⟩ := Enc.unique h h'
  rcases hb with hl | ⟨h0, hx⟩
  ·exact .inr hl
  ·rcases h with ⟨cs, ht, rfl, rfl⟩ | ⟨hn, rfl, rfl⟩
   ·exfalso
    have h1 := (M8s_len ht.1).1
    rw [← ht.2, nums_len, h0] at h1
    apply hx
    rcases x with ⟨⟨l⟩⟩
    cases l with
    | nil => rfl
    | cons a r => simp [ByteArray.size] at h1
   ·exact .inl (by decide)
open Classical in
theorem oneZ_shape (cs : List ConstV) (c : ConstV) : oneZ cs c = if (shapeZ c.tag).2 = true ∧ holdsZ (shapeZ c.tag).1 c = true ∧ (ledZ cs (shapeZ c.tag).1.la c.a && ledZ cs (shapeZ c.tag).1.lb c.b) = true then (if TextBad c.text then 20 else 0) else 40 := by
 obtain ⟨t, x, n, a, b⟩ := c
 have e0 : ∀ z, ledZ cs 0 z = decide (z = 0) := fun z => by unfold ledZ; rw [if_pos rfl]
 have e1 : ∀ l z, l ≠ 0 → ledZ cs l z = isZ cs z l := fun l z hl => by unfold ledZ; rw [if_neg hl, atC_tag cs z hl]
 unfold oneZ bareZ shapeZ holdsZ
 simp only
 by_cases h1 : t = 1
 ·subst h1
  by_cases hn : n = 0 <;> by_cases ha : a = 0 <;> by_cases hb : b = 0 <;> simp [e0, hn, ha, hb]
 by_cases h5 : t = 5
 ·subst h5
  by_cases hx : x = ⟨#[]⟩ <;> by_cases ha : a = 0 <;> by_cases hb : b = 0 <;> simp [e0, hx, ha, hb, empty_not_bad]
 by_cases h3 : t = 3
 ·subst h3
  by_cases hx : x = ⟨#[]⟩ <;> by_cases hn : -2147483648 ≤ n ∧ n ≤ 2147483647 <;> by_cases ha : a = 0 <;> by_cases hb : b = 0 <;> simp [e0, hx, hn, ha, hb, empty_not_bad]
 by_cases h12 : t = 12
 ·subst h12
  cases hA : isZ cs a 1 <;> cases hB : isZ cs b 1 <;> by_cases hx : x = ⟨#[]⟩ <;> by_cases hn : n = 0 <;> simp [e1, hA, hB, hx, hn, empty_not_bad]
 by_cases h7 : t = 7
 ·subst h7
  cases hA : isZ cs a 1 <;> by_cases hx : x = ⟨#[]⟩ <;> by_cases hn : n = 0 <;> by_cases hb : b = 0 <;> simp [e0, e1, hA, hx, hn, hb, empty_not_bad]
 by_cases h9 : t = 9 ∨ t = 10
 ·cases hA : isZ cs a 7 <;> cases hB : isZ cs b 12 <;> by_cases hx : x = ⟨#[]⟩ <;> by_cases hn : n = 0 <;> simp [h1, h3, h5, h7, h9, h12, e1, hA, hB, hx, hn, empty_not_bad]
 simp [h1, h3, h5, h7, h9, h12]
theorem progHolds (txt : Bool) (sz la lb : Int) (c : ConstV) (w : World) (hr : ConstR c) (hs : sz = 0 ∨ sz = 4 ∨ sz = 8) :
  Calls Tryz.prog 142 #[.agg #[.bool txt, .int .i64 sz, .int .i64 la, .int .i64 lb], .agg #[.int .i64 c.tag, .string c.text, .int .i64 c.n, .int .i64 c.a, .int .i64 c.b]] w fun e w' => e = .returned (.bool (holdsZ ⟨txt, sz, la, lb⟩ c)) ∧ Only (fun _ => False) w w' := by
 rcases hs with rfl | rfl | rfl
 ·exact progHolds0 txt la lb c w hr
 ·exact progHolds4 txt la lb c w hr
 ·exact progHolds8 txt la lb c w hr
theorem shapeZ_size (t : Int) : (shapeZ t).1.size = 0 ∨ (shapeZ t).1.size = 4 ∨ (shapeZ t).1.size = 8 := by
 unfold shapeZ
 repeat' split
 all_goals simp
theorem Tabs.lt {w : World} (h : Tabs w) : 1 < w.heap.size := by
 have h2 := (h.2 0 (by decide)).1
 have := World.block_lt_of_cell? w _ h2
 simp at this
 omega
set_option maxRecDepth 100000 in
theorem progConst (v : Value) (cs : List ConstV) (c : ConstV) (w : World) (hp : Pool w v cs) (hr : ConstR c) (hT : Tabs w) :
  Calls Tryz.prog 122 #[v, .agg #[.int .i64 c.tag, .string c.text, .int .i64 c.n, .int .i64 c.a, .int .i64 c.b]] w fun e w' => e = .returned (.int .i64 (oneZ cs c)) ∧ Only (fun _ => False) w w' := by
 obtain ⟨ao, cap, rfl, _, _, _, _, _⟩ := id hp
 have hz := oneZ_shape cs c
 have hsz := shapeZ_size c.tag
 obtain ⟨q, hq⟩ : ∃ q, shapeZ c.tag = q := ⟨_, rfl⟩
 have cS := fun w => progShape c.tag w
 rw [hq] at hz hsz cS
 obtain ⟨⟨tx, sz, la, lb⟩, ok⟩ := q
 have cH := fun w => progHolds tx sz la lb c w hr hsz
 have cL := fun w' (ho : Only (fun _ => False) w w') => progLed _ cs tx sz la lb c w' (hp.only ho (fun _ _ h => h))
 have cN := fun w' (ho : Only (fun _ => False) w w') => lenOf c.text w' (by have := hr.rt; omega) (hT.only ho (fun h => h) (fun h => h)) (hT.only ho (fun h => h) (fun h => h)).lt
 simp only at hz cS cH cL cN hsz
 have hbad : ∀ ys k, Enc (nums c.text) ys k → _ := fun ys k h => bad_len h
 obtain ⟨H, hH⟩ : ∃ H, holdsZ ⟨tx, sz, la, lb⟩ c = H := ⟨_, rfl⟩
 obtain ⟨L, hL⟩ : ∃ L, (ledZ cs la c.a && ledZ cs lb c.b) = L := ⟨_, rfl⟩
 rw [hH, hL] at hz
 rw [hH] at cH
 rw [hL] at cL
 obtain ⟨t, x, n, a, b⟩ := c
 obtain ⟨r0, r2, r3, r4, _⟩ := hr
 unfold I64 at r0 r2 r3 r4
 simp only at *
 have CS := hid cS
 have CH := hid cH
 have CL := hid cL
 have CN := hid cN
 have HZ := hid hz
 have HB := hid hbad
 clear cS cH cL cN hz hbad hH hL hq hp hT hsz
 go_enter Tryz.func122, Tryz.ntmps122
 go_wp2_with (fail)
 refine (CS.out _).mono ?_
 rintro e w1 ⟨rfl, ho1⟩
 have hblk := ho1.heap (heap_alloc_new w _) (fun h => h)
 have q0 := cell_blk hblk 0
 have q1 := cell_blk hblk 1
 have q2 := cell_blk hblk 2
 have q3 := cell_blk hblk 3
 have q4 := cell_blk hblk 4
 simp at q0 q1 q2 q3 q4
 have HO1 := hid (((Only.refl (fun _ => False) w).alloc _).trans ho1 (fun _ h => h.elim))
 have hsA : Only (fun _ => False) w1 (w1.alloc (.cells #[.bool tx, .int .i64 sz, .int .i64 la, .int .i64 lb] 210)) := (Only.refl _ _).alloc _
 have u0 := hsA.cell q0 (fun h => h)
 have u1 := hsA.cell q1 (fun h => h)
 have u2 := hsA.cell q2 (fun h => h)
 have u3 := hsA.cell q3 (fun h => h)
 have u4 := hsA.cell q4 (fun h => h)
 clear ho1 hblk hsA
 cases ok with
 | false =>
  go_wp2
  go_ret
  exact ⟨congrArg (fun z => Ending.returned (.int .i64 z)) (by rw [HZ.out, if_neg (by simp)]), HO1.out.alloc _⟩
 | true =>
  cases H with
  | false =>
   go_wp2_with (fail)
   refine (CH.out _).mono ?_
   rintro e w2 ⟨rfl, ho2⟩
   have HO2 := hid ((HO1.out.alloc _).trans ho2 (fun _ h => h.elim))
   clear ho2
   go_wp2
   go_ret
   exact ⟨congrArg (fun z => Ending.returned (.int .i64 z)) (by rw [HZ.out, if_neg (by simp)]), HO2.out⟩
  | true =>
   go_wp2_with (fail)
   refine (CH.out _).mono ?_
   rintro e w2 ⟨rfl, ho2⟩
   have ho12 := ((Only.refl (fun _ => False) w1).alloc (.cells #[.bool tx, .int .i64 sz, .int .i64 la, .int .i64 lb] 210)).trans ho2 (fun _ h => h.elim)
   have HO2 := hid (HO1.out.trans ho12 (fun _ h => h.elim))
   have hsb := ho2.heap (heap_alloc_new w1 _) (fun h => h)
   have s0 := cell_blk hsb 0
   have s1 := cell_blk hsb 1
   have s2 := cell_blk hsb 2
   have s3 := cell_blk hsb 3
   simp at s0 s1 s2 s3
   have p0 := ho12.cell q0 (fun h => h)
   have p1 := ho12.cell q1 (fun h => h)
   have p2 := ho12.cell q2 (fun h => h)
   have p3 := ho12.cell q3 (fun h => h)
   have p4 := ho12.cell q4 (fun h => h)
   clear q0 q1 q2 q3 q4 u0 u1 u2 u3 u4 hsb ho2 ho12
   cases L with
   | false =>
    go_wp2_with (fail)
    refine (CL.out _ (HO2.out)).mono ?_
    rintro e w3 ⟨rfl, ho3⟩
    have HO3 := hid (HO2.out.trans ho3 (fun _ h => h.elim))
    clear ho3
    go_wp2
    go_ret
    exact ⟨congrArg (fun z => Ending.returned (.int .i64 z)) (by rw [HZ.out, if_neg (by simp)]), HO3.out⟩
   | true =>
    go_wp2_with (fail)
    refine (CL.out _ (HO2.out)).mono ?_
    rintro e w3 ⟨rfl, ho3⟩
    have HO3 := hid (HO2.out.trans ho3 (fun _ h => h.elim))
    have x1 := ho3.cell p1 (fun h => h)
    clear ho3 p0 p1 p2 p3 p4 s0 s1 s2 s3
    go_wp2_with (fail)
    refine (CN.out _ (HO3.out)).mono ?_
    rintro e w4 ⟨ys, k, rfl, henc, ho4⟩
    have hb := HB.out ys k henc
    have y1 := ho4.cell x1 (fun h => h)
    have HO4 := hid (HO3.out.trans ho4 (fun _ h => h.elim))
    clear ho4 x1 henc
    by_cases h1 : 256 < ys.length
    ·have HT := hid (hb.2 (.inl h1))
     have h1z : (256 : Int) < (ys.length : Int) := by omega
     clear hb
     go_wp2
     go_ret
     exact ⟨congrArg (fun z => Ending.returned (.int .i64 z)) (by rw [HZ.out, if_pos (by simp), if_pos HT.out]), HO4.out⟩
    have h1z : (ys.length : Int) ≤ 256 := by omega
    by_cases h2 : ys.length = 0
    ·by_cases h3 : x = ⟨#[]⟩
     ·have HT := hid (show ¬ TextBad x from fun h => by rcases hb.1 h with h | h; (exact h1 h); (exact h.2 h3))
      subst h3
      have h2z : (ys.length : Int) = 0 := by omega
      clear hb
      go_wp2
      go_ret
      exact ⟨congrArg (fun z => Ending.returned (.int .i64 z)) (by rw [HZ.out, if_pos (by simp), if_neg HT.out]), HO4.out⟩
     ·have HT := hid (hb.2 (.inr ⟨h2, h3⟩))
      have hx1 : x.toList.isEmpty = false := by
       rw [Bool.eq_false_iff]
       intro h
       exact h3 (by rw [empty_text]; simpa using h)
      have h2z : (ys.length : Int) = 0 := by omega
      clear hb h3
      go_wp2
      go_ret
      exact ⟨congrArg (fun z => Ending.returned (.int .i64 z)) (by rw [HZ.out, if_pos (by simp), if_pos HT.out]), HO4.out⟩
    ·have HT := hid (show ¬ TextBad x from fun h => by rcases hb.1 h with h | h; (exact h1 h); (exact h2 h.1))
     have h2z : ((ys.length : Int) == 0) = false := by simp only [beq_eq_false_iff_ne]; omega
     clear hb h2
     go_wp2
     go_ret
     exact ⟨congrArg (fun z => Ending.returned (.int .i64 z)) (by rw [HZ.out, if_pos (by simp), if_neg HT.out]), HO4.out⟩
end Go.Proofs.YtemplkpcckmcoaaGreatDoor
namespace Go.Proofs.YtemplkpcckmcoaaGreatDoor
set_option maxHeartbeats 4000000
open Lib (hid)
open Go.RowKit Go.Extern.Stop Go.Stop Go.Extern
set_option linter.unusedVariables false
set_option linter.unusedSimpArgs false
theorem asValP (t : Addr) (w : World) : (ReflectliteValue.unpack (.iface 180 (.pointer (some t)))).run Tryz.prog w
  = .ok (.agg #[.pointer (some ⟨4, 180, none⟩), .pointer (some ⟨w.heap.size, 0, none⟩), .int .u64 150]) (w.alloc (.cells #[.pointer (some t)] 180)) := by kernel_rfl
theorem asTypeP (a : Addr) (w : World) : (ReflectliteValue.methodAny (ReflectliteValue.valueError "reflectlite.Value.Type" 0) (fun t _ _ _ => ReflectliteType.toType t) #[.agg #[.pointer (some ⟨4, 180, none⟩), .pointer (some a), .int .u64 150]]).run Tryz.prog w
  = .ok (.iface 220 (.agg #[.pointer (some ⟨4, 180, none⟩)])) w := by kernel_rfl
theorem asMethodKind (n : Nat) (h : Value) (w : World) : (Go.method (n + 1) 220 (.agg #[h]) "Kind").run Tryz.prog w = .ok (198, h) w := by kernel_rfl
theorem asKindP (w : World) : ((ReflectliteType.abiMethod fun t => (fun a : Nat => Value.int IntKind.u8 (a : Int)) <$> Rtype.kind t) #[.pointer (some ⟨4, 180, none⟩)]).run Tryz.prog w = .ok (.int .u8 22) w := by kernel_rfl
theorem asKindE (w : World) : ((ReflectliteType.abiMethod fun t => (fun a : Nat => Value.int IntKind.u8 (a : Int)) <$> Rtype.kind t) #[.pointer (some ⟨4, 24, none⟩)]).run Tryz.prog w = .ok (.int .u8 2) w := by kernel_rfl
theorem asIsNilRun (a : Addr) (W : World) : (ReflectliteValue.method (ReflectliteValue.valueError "reflectlite.Value.IsNil" 0) ReflectliteValue.isNil #[.agg #[.pointer (some ⟨4, 180, none⟩), .pointer (some a), .int .u64 150]]).run Tryz.prog W = (ReflectliteValue.isNil 180 a 150 22).run Tryz.prog W := by kernel_rfl
theorem asIsNilP (a p : Addr) (W : World) (ha : W.cell? a = some (.pointer (some p))) :
  (ReflectliteValue.method (ReflectliteValue.valueError "reflectlite.Value.IsNil" 0) ReflectliteValue.isNil #[.agg #[.pointer (some ⟨4, 180, none⟩), .pointer (some a), .int .u64 150]]).run Tryz.prog W = .ok (.bool false) W := by
 rw [asIsNilRun]
 simp [ReflectliteValue.isNil, loadVar, isAgg, underlying, Tryz.underlying180, ha, Result.andThen]
theorem asMethodElem (n : Nat) (h : Value) (w : World) : (Go.method (n + 1) 220 (.agg #[h]) "Elem").run Tryz.prog w = .ok (217, .agg #[h]) w := by kernel_rfl
theorem asMethodImplements (n : Nat) (h : Value) (w : World) : (Go.method (n + 1) 220 (.agg #[h]) "Implements").run Tryz.prog w = .ok (218, .agg #[h]) w := by kernel_rfl
theorem asMethodAssignable (n : Nat) (h : Value) (w : World) : (Go.method (n + 1) 220 (.agg #[h]) "AssignableTo").run Tryz.prog w = .ok (215, .agg #[h]) w := by kernel_rfl
theorem asElemP (w : World) : (ReflectliteType.method ReflectliteType.elem #[.agg #[.pointer (some ⟨4, 180, none⟩)]]).run Tryz.prog w = .ok (.iface 220 (.agg #[.pointer (some ⟨4, 24, none⟩)])) w := by kernel_rfl
theorem asImplements (w : World) : (ReflectliteType.relation "Implements" ReflectliteType.implements_ #[.agg #[.pointer (some ⟨4, 24, none⟩)], .iface 220 (.agg #[.pointer (some ⟨4, 166, none⟩)])]).run Tryz.prog w = .ok (.bool true) w := by kernel_rfl
theorem asTypeOfE (v : Value) (w : World) : (ReflectliteType.typeOf #[.iface 24 v]).run Tryz.prog w = .ok (.iface 220 (.agg #[.pointer (some ⟨4, 24, none⟩)])) w := by kernel_rfl
theorem asTypeOfF (v : Value) (w : World) : (ReflectliteType.typeOf #[.iface 183 v]).run Tryz.prog w = .ok (.iface 220 (.agg #[.pointer (some ⟨4, 183, none⟩)])) w := by kernel_rfl
theorem asAssignE (w : World) : (ReflectliteType.relation "AssignableTo" ReflectliteType.assignableTo #[.agg #[.pointer (some ⟨4, 24, none⟩)], .iface 220 (.agg #[.pointer (some ⟨4, 24, none⟩)])]).run Tryz.prog w = .ok (.bool true) w := by kernel_rfl
theorem asAssignF (w : World) : (ReflectliteType.relation "AssignableTo" ReflectliteType.assignableTo #[.agg #[.pointer (some ⟨4, 183, none⟩)], .iface 220 (.agg #[.pointer (some ⟨4, 24, none⟩)])]).run Tryz.prog w = .ok (.bool false) w := by kernel_rfl
theorem asValE (k : Int) (w : World) : (ReflectliteValue.unpack (.iface 24 (.int .i64 k))).run Tryz.prog w
  = .ok (.agg #[.pointer (some ⟨4, 24, none⟩), .pointer (some ⟨w.heap.size, 0, none⟩), .int .u64 130]) (w.alloc (.cells #[.int .i64 k] 24)) := by kernel_rfl
theorem asElemOfP (w : World) : (Rtype.elem? 180).run Tryz.prog w = .ok (some 24) w := by kernel_rfl
theorem asMkE (p : Addr) (w : World) : (ReflectliteValue.mk 24 p ReflectliteValue.flagAddr).run Tryz.prog w = .ok (.agg #[.pointer (some ⟨4, 24, none⟩), .pointer (some p), .int .u64 386]) w := by kernel_rfl
theorem asElemRun (a : Addr) (W : World) : (ReflectliteValue.method (ReflectliteValue.valueError "reflectlite.Value.Elem" 0) ReflectliteValue.elem #[.agg #[.pointer (some ⟨4, 180, none⟩), .pointer (some a), .int .u64 150]]).run Tryz.prog W = (ReflectliteValue.elem 180 a 150 22).run Tryz.prog W := by kernel_rfl
theorem asElemV (a p : Addr) (W : World) (ha : W.cell? a = some (.pointer (some p))) :
  (ReflectliteValue.method (ReflectliteValue.valueError "reflectlite.Value.Elem" 0) ReflectliteValue.elem #[.agg #[.pointer (some ⟨4, 180, none⟩), .pointer (some a), .int .u64 150]]).run Tryz.prog W
   = .ok (.agg #[.pointer (some ⟨4, 24, none⟩), .pointer (some p), .int .u64 386]) W := by
 rw [asElemRun]
 simp [ReflectliteValue.elem, loadVar, isAgg, underlying, Tryz.underlying180, ha, Result.andThen, asElemOfP, asMkE]
theorem asSetRun (ta b : Addr) (W : World) : (ReflectliteValue.set #[.agg #[.pointer (some ⟨4, 24, none⟩), .pointer (some ta), .int .u64 386], .agg #[.pointer (some ⟨4, 24, none⟩), .pointer (some b), .int .u64 130]]).run Tryz.prog W
  = (loadVar 24 b >>= fun u => storeVar 24 ta u >>= fun _ => pure (.tuple #[]) : Sem Value).run Tryz.prog W := by kernel_rfl
theorem asSet (ta b : Addr) (k : Int) (old : Value) (W : World) (hb : W.cell? b = some (.int .i64 k)) (ht : W.cell? ta = some old) (hf : W.frozen? ta = false) :
  (ReflectliteValue.set #[.agg #[.pointer (some ⟨4, 24, none⟩), .pointer (some ta), .int .u64 386], .agg #[.pointer (some ⟨4, 24, none⟩), .pointer (some b), .int .u64 130]]).run Tryz.prog W
   = .ok (.tuple #[]) (W.setCell ta (.int .i64 k)) := by
 rw [asSetRun]
 simp [loadVar, isAgg, underlying, Tryz.underlying24, hb, Result.andThen, storeVar, Value.cells, storeCells, Addr.add]
 rw [run_store Tryz.prog W ta _ _ (by rfl)]
 simp [ht, hf]
theorem asNoAsF (v : Value) (xT : TypeId) (w : World) : (Instr.typeAssert (.iface 183 v) xT 225 true).run Tryz.prog w = .ok (.tuple #[.nilIface, .bool false]) w := run_typeAssert_lacksB Tryz.underlying225 (by kernel_rfl) (by kernel_rfl) v xT w
theorem asHasUnwrapF (v : Value) (xT : TypeId) (w : World) : (Instr.typeAssert (.iface 183 v) xT 228 true).run Tryz.prog w = .ok (.tuple #[.iface 183 v, .bool true]) w := run_typeAssert_hasB Tryz.underlying228 (by kernel_rfl) v xT w
theorem asMethodUnwrap (n : Nat) (v : Value) (w : World) : (Go.method (n + 1) 183 v "Unwrap").run Tryz.prog w = .ok (210, v) w := by kernel_rfl
def ErrV (w : World) : Prop := w.cell? ⟨0, 0, none⟩ = some (.iface 220 (.agg #[.pointer (some ⟨4, 166, none⟩)]))
theorem ErrV.only {S : Nat → Prop} {w w' : World} (h : ErrV w) (ho : Only S w w') (h0 : ¬ S 0) : ErrV w' := Only.cell ho h h0
theorem asNil (t : Value) (w : World) : Calls Tryz.prog 120 #[.nilIface, t] w fun e w' => e = .returned (.bool false) ∧ w = w' := by
 go_enter Tryz.func120, Tryz.ntmps120
 go_wp2
 go_ret
 exact ⟨rfl, rfl⟩
theorem whichNil (w : World) :
  Calls Tryz.prog 98 #[.nilIface] w fun e w' => e = .returned (.int .i64 0) ∧ Only (fun _ => False) w w' := by
 go_enter Tryz.func98, Tryz.ntmps98
 go_wp2_with (go_at_call 120; refine (asNil _ _).mono ?_; rintro e w1 ⟨rfl, rfl⟩)
 go_ret
 exact ⟨rfl, (Only.refl _ _).alloc _⟩
end Go.Proofs.YtemplkpcckmcoaaGreatDoor
namespace Go.Proofs.YtemplkpcckmcoaaGreatDoor
set_option maxHeartbeats 4000000
open Lib (hid)
open Go.ChangeShapes Go.WideShapes Go.ChangeAt Go.RowKit Go.Deep
section
variable {H : Type} {enc : TypeId × Value → H} {P : Program} {w : World} {held : Bool}
def Light (P : Program) (t : TypeId) (d : DataW H) : Prop := ∀ n ∈ d.weights P t, n ≤ reachBytes
theorem light_arg {ts : List TypeId} {ds : List (DataW H)} (h : (DataW.weightsEach P ts ds).all (· ≤ reachBytes) = true) {j : Nat} {t : TypeId} {d : DataW H} (ht : ts[j]? = some t) (hd : ds[j]? = some d) : Light P t d :=
 fun n hn => of_decide_eq_true (List.all_eq_true.1 h n (DataW.weights_mem_each ht hd n hn))
theorem weights_in_all {e : TypeId} : ∀ {l : List (DataW H)} {d : DataW H}, d ∈ l → ∀ n ∈ d.weights P e, n ∈ DataW.weightsAll P e l := by
 intro l
 induction l with
 | nil => intro d hd; cases hd
 | cons a r ih =>
  intro d hd n hn
  unfold DataW.weightsAll
  rcases List.mem_cons.1 hd with rfl | hr
  ·exact List.mem_append_left _ hn
  ·exact List.mem_append_right _ (ih hr n hn)
theorem light_elem {t e : TypeId} {elems spare : List (DataW H)} (ht : P.underlying t = some (.slice e)) (h : Light P t (.slice elems spare)) {d : DataW H} (hd : d ∈ elems) : Light P e d :=
 fun n hn => h n (by simp only [DataW.weights, ht]; exact List.mem_cons_of_mem _ (List.mem_append_left _ (weights_in_all hd n hn)))
theorem light_len {t e : TypeId} {elems spare : List (DataW H)} (ht : P.underlying t = some (.slice e)) (h : Light P t (.slice elems spare)) : (elems.length + spare.length) * P.bytesOf e ≤ reachBytes :=
 h _ (by simp only [DataW.weights, ht]; exact List.mem_cons_self)
theorem light_field {t : TypeId} {fs : Array Field} {parts : List (DataW H)} (ht : P.underlying t = some (.struct fs)) (h : Light P t (.agg parts)) {j : Nat} {f : Field} {d : DataW H} (hf : fs[j]? = some f) (hd : parts[j]? = some d) : Light P f.type d :=
 fun n hn => h n (by simp only [DataW.weights, ht]; exact DataW.weights_mem_each (j := j) (by simp [hf]) hd n hn)
theorem open_bytes {t e : TypeId} (ht : P.underlying t = some (.slice e)) (he : P.underlying e = some (.int .u8)) (hc : P.cellsOf e = 1) (hb : P.bytesOf e = 1) {fuel : Nat} {cs : List Value} {x : DataW H × List MemPlace}
  (h : DataW.trod enc P w 0 (fun _ => true) held fuel t cs = some x) (hL : Light P t x.1) : ∃ v zs, cs = [v] ∧ Bytes w v zs ∧ zs.length ≤ 140737488351232 := by
 rcases open_ints ht he hc h with ⟨rfl, _⟩ | ⟨a, len, cap, zs, rfl, _, hl, hm, hz, rfl, hcell, hwz⟩
 ·exact ⟨_, [], rfl, ⟨none, 0, rfl, Nat.le_refl _, by unfold maxLen; omega, fun _ => rfl, Bytish.nil, fun x hx => by cases hx⟩, by simp⟩
 ·refine ⟨_, zs.take len, rfl, Bytes.of_cells hl hm (by simpa using hz) hcell hwz, ?_⟩
  have := light_len ht hL
  rw [hb] at this
  simp only [lits, List.length_map, List.length_take, List.length_drop, reachBytes] at this
  simp only [List.length_take]
  simp at hz
  omega
theorem open_field {t : TypeId} {fs : Array Field} (ht : P.underlying t = some (.struct fs)) (hone : oneCellFields P fs = true) {fuel : Nat} {cs : List Value} {x : DataW H × List MemPlace}
  (h : DataW.trod enc P w 0 (fun _ => true) held fuel t cs = some x) (hcs : cs.length = fs.size) (hL : Light P t x.1) {j : Nat} {f : Field} (hf : fs[j]? = some f) :
  ∃ v n y, cs[j]? = some v ∧ DataW.trod enc P w 0 (fun _ => true) held n f.type [v] = some y ∧ Light P f.type y.1 := by
 obtain ⟨xs, n, _, rfl, _, hxl, hg⟩ := DataW.trod_struct ht h
 obtain ⟨ho, hk⟩ := hone_of hone j f hf
 have hj : j < fs.size := (Array.getElem?_eq_some_iff.1 hf).1
 have hjc : j < cs.length := by omega
 have h1 := hg j f hf
 rw [ho, hk, List.drop_eq_getElem_cons hjc] at h1
 have hx : xs[j]? = some (xs[j]'(by omega)) := List.getElem?_eq_getElem (by omega)
 refine ⟨cs[j], n, xs[j]'(by omega), List.getElem?_eq_getElem hjc, h1.trans hx, light_field ht hL hf (by simp [hx])⟩
end
theorem cells_const : Tryz.prog.cellsOf 145 = 5 := by kernel_rfl
theorem bytes_const : Tryz.prog.bytesOf 145 = 48 := by kernel_rfl
theorem bulk_mem {H : Type} : ∀ {l : List (DataW H)} {d : DataW H}, d ∈ l → Rows.uptoBulk d ≤ Rows.uptoBulkAll l
 | [], d, h => by cases h
 | a :: r, d, h => by
  simp only [Rows.uptoBulkAll]
  rcases List.mem_cons.1 h with rfl | h
  ·omega
  ·have := bulk_mem h; omega
section
variable {H : Type} {enc : TypeId × Value → H} {w : World} {held : Bool}
theorem const_field {fuel : Nat} {cs : List Value} {x : DataW H × List MemPlace} (h : DataW.trod enc Tryz.prog w 0 (fun _ => true) held fuel 145 cs = some x) (hcs : cs.length = 5) (hL : Light Tryz.prog 145 x.1) {fs : Array Field} (hf : Tryz.prog.underlying 145 = some (.struct fs)) (hone : oneCellFields Tryz.prog fs = true) (hfs : fs.size = 5) {j : Nat} {f : Field} (hj : fs[j]? = some f) :
  ∃ v n y, cs[j]? = some v ∧ DataW.trod enc Tryz.prog w 0 (fun _ => true) held n f.type [v] = some y ∧ Light Tryz.prog f.type y.1 ∧ Rows.uptoBulk y.1 ≤ Rows.uptoBulk x.1 := by
 obtain ⟨xs, n, _, rfl, _, hxl, hg⟩ := DataW.trod_struct hf h
 obtain ⟨ho, hk⟩ := hone_of hone j f hj
 have hjs : j < fs.size := (Array.getElem?_eq_some_iff.1 hj).1
 have hjc : j < cs.length := by omega
 have h1 := hg j f hj
 rw [ho, hk, List.drop_eq_getElem_cons hjc] at h1
 have hx : xs[j]? = some (xs[j]'(by omega)) := List.getElem?_eq_getElem (by omega)
 refine ⟨cs[j], n, xs[j]'(by omega), List.getElem?_eq_getElem hjc, h1.trans hx, light_field hf hL hj (by simp [hx]), ?_⟩
 simp only [Rows.uptoBulk]
 have := bulk_mem (l := xs.map (·.1)) (d := (xs[j]'(by omega)).1) (List.mem_map.2 ⟨_, List.getElem_mem _, rfl⟩)
 omega
set_option maxRecDepth 100000 in
theorem open_const {fuel : Nat} {cs : List Value} {x : DataW H × List MemPlace} (h : DataW.trod enc Tryz.prog w 0 (fun _ => true) held fuel 145 cs = some x) (hcs : cs.length = 5) (hL : Light Tryz.prog 145 x.1) :
  ∃ c : ConstV, cs = [.int .i64 c.tag, .string c.text, .int .i64 c.n, .int .i64 c.a, .int .i64 c.b] ∧ ConstR c ∧ c.text.size ≤ Rows.uptoBulk x.1 := by
 have F := fun j f hj => const_field (j := j) (f := f) h hcs hL Tryz.underlying145 (by kernel_rfl) (by kernel_rfl) hj
 obtain ⟨v0, n0, y0, d0, t0, _, _⟩ := F 0 _ rfl
 obtain ⟨v1, n1, y1, d1, t1, l1, b1⟩ := F 1 _ rfl
 obtain ⟨v2, n2, y2, d2, t2, _, _⟩ := F 2 _ rfl
 obtain ⟨v3, n3, y3, d3, t3, _, _⟩ := F 3 _ rfl
 obtain ⟨v4, n4, y4, d4, t4, _, _⟩ := F 4 _ rfl
 obtain ⟨k0, e0, _, w0⟩ := DataW.trod_int Tryz.underlying3 t0
 obtain ⟨s, e1, ey, w1⟩ := DataW.trod_string Tryz.underlying9 t1
 obtain ⟨k2, e2, _, w2⟩ := DataW.trod_int Tryz.underlying2 t2
 obtain ⟨k3, e3, _, w3⟩ := DataW.trod_int Tryz.underlying3 t3
 obtain ⟨k4, e4, _, w4⟩ := DataW.trod_int Tryz.underlying3 t4
 simp only [List.cons.injEq, and_true] at e0 e1 e2 e3 e4
 subst e0 e1 e2 e3 e4 ey
 have hsz : s.size ≤ 140737488351232 := by
  have := l1 s.data.toList.length (by simp [DataW.weights])
  simpa [reachBytes] using this
 have hbk : s.size ≤ Rows.uptoBulk x.1 := by
  simp only [Rows.uptoBulk] at b1
  have : s.data.toList.length = s.size := by simp
  omega
 refine ⟨⟨k0, s, k2, k3, k4⟩, ?_, ⟨bounds_i64 w0, bounds_i64 w2, bounds_i64 w3, bounds_i64 w4, hsz⟩, hbk⟩
 match cs, hcs with
 | [c0, c1, c2, c3, c4], _ =>
  simp only [List.getElem?_cons_zero, List.getElem?_cons_succ, Option.some.injEq] at d0 d1 d2 d3 d4
  rw [d0, d1, d2, d3, d4]
set_option maxRecDepth 100000 in
theorem open_pool {fuel : Nat} {cs : List Value} {x : DataW H × List MemPlace} (h : DataW.trod enc Tryz.prog w 0 (fun _ => true) held fuel 33 cs = some x) (hL : Light Tryz.prog 33 x.1) :
  ∃ v ks, cs = [v] ∧ Pool w v ks ∧ (∀ c ∈ ks, c.text.size ≤ Rows.uptoBulk x.1) ∧ ks.length * 48 ≤ 140737488351232 := by
 rcases Go.Deep.open_slice Tryz.underlying33 h with ⟨rfl, _⟩ | ⟨a, len, cap, m, n, D, Pl, rfl, _, hl, hm, hmm, rfl, hi⟩
 ·exact ⟨_, [], rfl, ⟨none, 0, rfl, Nat.le_refl _, by omega, fun _ => rfl, (fun c hc => by cases hc), fun x hx _ => by cases hx⟩, (fun c hc => by cases hc), by simp⟩
 ·simp only [if_true] at hmm
  subst hmm
  have hall : ∀ i, i < len → ∃ c : ConstV, (w.cells? 0 (a.add (i * 5)) 5 = some [.int .i64 c.tag, .string c.text, .int .i64 c.n, .int .i64 c.a, .int .i64 c.b]) ∧ ConstR c ∧ c.text.size ≤ Rows.uptoBulk (D i) := by
   intro i hil
   obtain ⟨cs', hcs', htr⟩ := hi i (by omega)
   rw [cells_const] at hcs'
   obtain ⟨_, hlen, _⟩ := World.cells?_some hcs'
   have hLi : Light Tryz.prog 145 (D i) := light_elem Tryz.underlying33 hL (List.mem_map.2 ⟨i, List.mem_range.2 hil, rfl⟩)
   obtain ⟨c, rfl, hr, hb⟩ := open_const htr hlen hLi
   exact ⟨c, hcs', hr, hb⟩
  obtain ⟨f, hf⟩ := choose_lt hall
  have hget : ∀ i, i < len → ((List.range len).map f).getD i default = f i := fun i hi => by simp [List.getD, hi]
  refine ⟨_, (List.range len).map f, rfl, ⟨some a, _, by rw [List.length_map, List.length_range], by rw [List.length_map, List.length_range]; exact hl, by unfold maxLen at hm; omega, (fun e => by cases e), ?_, ?_⟩, ?_, ?_⟩
  ·intro c hc
   obtain ⟨i, hi2, rfl⟩ := List.mem_map.1 hc
   exact (hf i (List.mem_range.1 hi2)).2.1
  ·intro x hx h0
   cases hx
   rw [List.length_map, List.length_range] at h0
   have hcell : ∀ i, i < len → ∀ d u, ([.int .i64 (f i).tag, .string (f i).text, .int .i64 (f i).n, .int .i64 (f i).a, .int .i64 (f i).b] : List Value)[d]? = some u → w.cell? (a.add (i * 5 + d)) = some u := by
    intro i hi d u hu
    obtain ⟨_, _, hat⟩ := World.cells?_some (hf i hi).1
    have hd : d < 5 := by
     have := (List.getElem?_eq_some_iff.1 hu).1
     simpa using this
    have := hat d hd
    rw [Go.Deep.add_add] at this
    rw [this, hu]
   have hp := plain_of_cell (x := a) (by have := hcell 0 h0 0 _ rfl; simpa using this)
   refine ⟨a.block, a.off, hp, fun i hi => ?_⟩
   rw [List.length_map, List.length_range] at hi
   rw [hget i hi]
   have hc : ∀ d u, ([.int .i64 (f i).tag, .string (f i).text, .int .i64 (f i).n, .int .i64 (f i).a, .int .i64 (f i).b] : List Value)[d]? = some u → w.cell? ⟨a.block, a.off + i * 5 + d, none⟩ = some u := fun d u hu => by
    have := hcell i hi d u hu
    rw [hp, add_lit] at this
    rw [Nat.add_assoc]
    exact this
   exact ⟨hc 0 _ rfl, hc 1 _ rfl, hc 2 _ rfl, hc 3 _ rfl, hc 4 _ rfl⟩
  ·intro c hc
   obtain ⟨i, hi2, rfl⟩ := List.mem_map.1 hc
   have h1 := (hf i (List.mem_range.1 hi2)).2.2
   have h2 := bulk_mem (l := (List.range len).map D) (d := D i) (List.mem_map.2 ⟨i, hi2, rfl⟩)
   simp only [Rows.uptoBulk]
   omega
  ·have h1 := light_len Tryz.underlying33 hL
   rw [bytes_const] at h1
   simp only [List.length_map, List.length_range, reachBytes] at h1 ⊢
   omega
end
end Go.Proofs.YtemplkpcckmcoaaGreatDoor
namespace Go.Proofs.YtemplkpcckmcoaaGreatDoor
set_option maxHeartbeats 4000000
open Lib (hid)
open Go.RowKit
set_option linter.unusedVariables false
set_option linter.unusedSimpArgs false
structure FieldV where
 flags : Int
 name : Int
 desc : Int
instance : Inhabited FieldV := ⟨⟨0, 0, 0⟩⟩
structure TrapV where
 from_ : Int
 to_ : Int
 hand : Int
 type : Int
instance : Inhabited TrapV := ⟨⟨0, 0, 0, 0⟩⟩
structure MethodV where
 flags : Int
 name : Int
 desc : Int
 stack : Int
 locals : Int
 code : List Int
 traps : List TrapV
 maps : List Int
instance : Inhabited MethodV := ⟨⟨0, 0, 0, 0, 0, [], [], []⟩⟩
structure ClassV where
 pool : List ConstV
 this : Int
 super : Int
 fields : List FieldV
 methods : List MethodV
def Sl (v : Value) (n : Nat) (At : Nat → Nat → Nat → Prop) : Prop :=
 ∃ ao cap, v = .slice ao n cap ∧ n ≤ cap ∧ cap ≤ 9223372036854775807 ∧ (ao = none → cap = 0) ∧ ∀ x, ao = some x → 0 < n → ∃ b o, x = ⟨b, o, none⟩ ∧ ∀ i, i < n → At b o i
theorem Sl.imp {v : Value} {n : Nat} {At At' : Nat → Nat → Nat → Prop} (h : Sl v n At) (hi : ∀ b o i, v.ownBlock = some b → i < n → At b o i → At' b o i) : Sl v n At' := by
 obtain ⟨ao, cap, rfl, h1, h2, h3, h4⟩ := h
 refine ⟨ao, cap, rfl, h1, h2, h3, fun x hx h0 => ?_⟩
 obtain ⟨b, o, rfl, h5⟩ := h4 x hx h0
 subst hx
 exact ⟨b, o, rfl, fun i hl => hi b o i rfl hl (h5 i hl)⟩
theorem Sl.at {ao : Option Addr} {n cap : Nat} {At : Nat → Nat → Nat → Prop} (h : Sl (.slice ao n cap) n At) {i : Nat} (hi : i < n) : ∃ b o, ao = some ⟨b, o, none⟩ ∧ At b o i := by
 obtain ⟨ao', cap', e, h1, h2, h3, h4⟩ := h
 injection e with e1 _ e3
 subst e1 e3
 cases ao with
 | none => have := h3 rfl; omega
 | some x =>
  obtain ⟨b, o, rfl, h5⟩ := h4 x rfl (by omega)
  exact ⟨b, o, rfl, h5 i hi⟩
theorem Sl.slice {v : Value} {n : Nat} {At : Nat → Nat → Nat → Prop} (h : Sl v n At) : ∃ ao cap, v = .slice ao n cap ∧ n ≤ cap ∧ cap ≤ 9223372036854775807 := by
 obtain ⟨ao, cap, e, h1, h2, _⟩ := h
 exact ⟨ao, cap, e, h1, h2⟩
theorem Sl.nil (At : Nat → Nat → Nat → Prop) : Sl (.slice none 0 0) 0 At := ⟨none, 0, rfl, Nat.le_refl _, by omega, fun _ => rfl, fun x hx => by cases hx⟩
structure FieldAt (w : World) (b o i : Nat) (f : FieldV) : Prop where
 c0 : w.cell? ⟨b, o + i * 3, none⟩ = some (.int .i64 f.flags)
 c1 : w.cell? ⟨b, o + i * 3 + 1, none⟩ = some (.int .i64 f.name)
 c2 : w.cell? ⟨b, o + i * 3 + 2, none⟩ = some (.int .i64 f.desc)
structure TrapAt (w : World) (b o i : Nat) (t : TrapV) : Prop where
 c0 : w.cell? ⟨b, o + i * 4, none⟩ = some (.int .i64 t.from_)
 c1 : w.cell? ⟨b, o + i * 4 + 1, none⟩ = some (.int .i64 t.to_)
 c2 : w.cell? ⟨b, o + i * 4 + 2, none⟩ = some (.int .i64 t.hand)
 c3 : w.cell? ⟨b, o + i * 4 + 3, none⟩ = some (.int .i64 t.type)
structure MethodAt (w : World) (b o i : Nat) (m : MethodV) (vc vt vm : Value) : Prop where
 c0 : w.cell? ⟨b, o + i * 8, none⟩ = some (.int .i64 m.flags)
 c1 : w.cell? ⟨b, o + i * 8 + 1, none⟩ = some (.int .i64 m.name)
 c2 : w.cell? ⟨b, o + i * 8 + 2, none⟩ = some (.int .i64 m.desc)
 c3 : w.cell? ⟨b, o + i * 8 + 3, none⟩ = some (.int .i64 m.stack)
 c4 : w.cell? ⟨b, o + i * 8 + 4, none⟩ = some (.int .i64 m.locals)
 c5 : w.cell? ⟨b, o + i * 8 + 5, none⟩ = some vc
 c6 : w.cell? ⟨b, o + i * 8 + 6, none⟩ = some vt
 c7 : w.cell? ⟨b, o + i * 8 + 7, none⟩ = some vm
def FieldR (f : FieldV) : Prop := I64 f.flags ∧ I64 f.name ∧ I64 f.desc
def TrapR (t : TrapV) : Prop := I64 t.from_ ∧ I64 t.to_ ∧ I64 t.hand ∧ I64 t.type
def MethodR (m : MethodV) : Prop := I64 m.flags ∧ I64 m.name ∧ I64 m.desc ∧ I64 m.stack ∧ I64 m.locals
def Fields (w : World) (v : Value) (fs : List FieldV) : Prop := Sl v fs.length (fun b o i => FieldAt w b o i (fs.getD i default)) ∧ ∀ f ∈ fs, FieldR f
def Traps (w : World) (v : Value) (ts : List TrapV) : Prop := Sl v ts.length (fun b o i => TrapAt w b o i (ts.getD i default)) ∧ ∀ t ∈ ts, TrapR t
def Inside (w : World) (m : MethodV) (vc vt vm : Value) : Prop := Bytes w vc m.code ∧ Traps w vt m.traps ∧ Bytes w vm m.maps
def Methods (w : World) (v : Value) (ms : List MethodV) : Prop :=
 ∃ f : Nat → Value × Value × Value, Sl v ms.length (fun b o i => MethodAt w b o i (ms.getD i default) (f i).1 (f i).2.1 (f i).2.2) ∧ (∀ i, i < ms.length → Inside w (ms.getD i default) (f i).1 (f i).2.1 (f i).2.2) ∧ ∀ m ∈ ms, MethodR m
def ClassM (w : World) (vp vf vm : Value) (c : ClassV) : Prop := Pool w vp c.pool ∧ Fields w vf c.fields ∧ Methods w vm c.methods ∧ I64 c.this ∧ I64 c.super
section
variable {w w' : World} (ho : Only (fun _ => False) w w')
include ho
theorem FieldAt.only {b o i : Nat} {f : FieldV} (h : FieldAt w b o i f) : FieldAt w' b o i f := ⟨ho.cell h.c0 (fun h => h), ho.cell h.c1 (fun h => h), ho.cell h.c2 (fun h => h)⟩
theorem TrapAt.only {b o i : Nat} {t : TrapV} (h : TrapAt w b o i t) : TrapAt w' b o i t := ⟨ho.cell h.c0 (fun h => h), ho.cell h.c1 (fun h => h), ho.cell h.c2 (fun h => h), ho.cell h.c3 (fun h => h)⟩
theorem MethodAt.only {b o i : Nat} {m : MethodV} {vc vt vm : Value} (h : MethodAt w b o i m vc vt vm) : MethodAt w' b o i m vc vt vm :=
 ⟨ho.cell h.c0 (fun h => h), ho.cell h.c1 (fun h => h), ho.cell h.c2 (fun h => h), ho.cell h.c3 (fun h => h), ho.cell h.c4 (fun h => h), ho.cell h.c5 (fun h => h), ho.cell h.c6 (fun h => h), ho.cell h.c7 (fun h => h)⟩
theorem Fields.only {v : Value} {fs : List FieldV} (h : Fields w v fs) : Fields w' v fs := ⟨h.1.imp (fun _ _ _ _ _ h => h.only ho), h.2⟩
theorem Traps.only {v : Value} {ts : List TrapV} (h : Traps w v ts) : Traps w' v ts := ⟨h.1.imp (fun _ _ _ _ _ h => h.only ho), h.2⟩
theorem Inside.only {m : MethodV} {vc vt vm : Value} (h : Inside w m vc vt vm) : Inside w' m vc vt vm := ⟨h.1.only ho (fun _ _ _ h => h), h.2.1.only ho, h.2.2.only ho (fun _ _ _ h => h)⟩
theorem Methods.only {v : Value} {ms : List MethodV} (h : Methods w v ms) : Methods w' v ms := by
 obtain ⟨f, h1, h2, h3⟩ := h
 exact ⟨f, h1.imp (fun _ _ _ _ _ h => h.only ho), fun i hi => (h2 i hi).only ho, h3⟩
theorem ClassM.only {vp vf vm : Value} {c : ClassV} (h : ClassM w vp vf vm c) : ClassM w' vp vf vm c := ⟨Pool.only h.1 ho (fun _ _ h => h), h.2.1.only ho, h.2.2.1.only ho, h.2.2.2⟩
end
theorem getD_mem {α : Type} [Inhabited α] {l : List α} {i : Nat} (h : i < l.length) : l.getD i default ∈ l := by
 have e : l.getD i default = l[i] := by simp [List.getD, h]
 rw [e]
 exact List.getElem_mem h
end Go.Proofs.YtemplkpcckmcoaaGreatDoor
