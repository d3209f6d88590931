import Derived.Test.YtgdgffnaknkbcaaGreatDoorMjTxtPPolM
import Derived.Test.YtgdgffnaknkbcaaGreatDoorMjTxtDTxtF
import Derived.Test.YtgdgffnaknkbcaaGreatDoorMjPolW
import Derived.Lib.IfaceEq
import Derived.Stop.Asserts
import Derived.LaidEql
import Derived.RowKitTokens
namespace Go.Proofs.YtgdgffnaknkbcaaGreatDoor
open Go.RowKit Go.Shelf
set_option linter.unusedVariables false
set_option linter.unusedSimpArgs false
def TextBad (x : ByteArray) : Prop := ∀ ys k, Enc (nums x) ys k → k ≠ 0 ∨ 256 < ys.length
open Classical in
noncomputable def oneZ (cs : List ConstV) (c : ConstV) : Int :=
  if bareZ c = false then 40
  else if c.tag = 1 then (if TextBad c.text then 20 else 0)
  else if c.tag = 3 then (if -2147483648 ≤ c.n ∧ c.n ≤ 2147483647 then 0 else 40)
  else if c.tag = 5 then 0
  else if c.tag = 7 then (if isZ cs c.a 1 = true then 0 else 40)
  else if c.tag = 12 then (if isZ cs c.a 1 = true ∧ isZ cs c.b 1 = true then 0 else 40)
  else if c.tag = 9 ∨ c.tag = 10 then (if isZ cs c.a 7 = true ∧ isZ cs c.b 12 = true then 0 else 40)
  else 40
end Go.Proofs.YtgdgffnaknkbcaaGreatDoor
namespace Go.Proofs.YtgdgffnaknkbcaaGreatDoor
open Go.RowKit Go.Shelf
set_option linter.unusedVariables false
set_option linter.unusedSimpArgs false
def zeroC : ConstV := ⟨0, ⟨#[]⟩, 0, 0, 0⟩
open Classical in
noncomputable def errs (cs : List ConstV) : List ConstV → Int
  | [] => 0
  | c :: r => if oneZ cs c ≠ 0 then oneZ cs c else errs cs r
open Classical in
noncomputable def checkZ (cs : List ConstV) : Int := if 1024 < cs.length then 2 else if cs = [] ∨ cs.getD 0 default ≠ zeroC then 40 else errs cs (cs.drop 1)
def Texts (cs : List ConstV) : Prop := ∀ c ∈ cs, c.text.size ≤ 70368744177664
theorem Texts.at {cs : List ConstV} (h : Texts cs) {i : Nat} (hi : i < cs.length) : (cs.getD i default).text.size ≤ 70368744177664 := by
  have e : cs.getD i default = cs[i] := by simp [List.getD, hi]
  rw [e]
  exact h _ (List.getElem_mem hi)
end Go.Proofs.YtgdgffnaknkbcaaGreatDoor
namespace Go.Proofs.YtgdgffnaknkbcaaGreatDoor
open Go.RowKit Go.Shelf
set_option linter.unusedVariables false
set_option linter.unusedSimpArgs false
theorem empty_enc : Enc (nums ⟨#[]⟩) [] 0 := .inl ⟨[], ⟨(fun c hc => (by cases hc)), rfl⟩, rfl, rfl⟩
theorem empty_not_bad : ¬ TextBad ⟨#[]⟩ := fun h => by
  rcases h [] 0 empty_enc with h | h
  · exact h rfl
  · simp at h
theorem bad_len {x : ByteArray} {ys : List Int} {k : Int} (h : Enc (nums x) ys k) : TextBad x ↔ (256 < ys.length ∨ (ys.length = 0 ∧ x ≠ ⟨#[]⟩)) := by
  constructor
  · intro hb
    rcases hb ys k h with hk | hl
    · rcases h with ⟨cs, ht, rfl, rfl⟩ | ⟨hn, rfl, rfl⟩
      · exact absurd rfl hk
      · refine .inr ⟨rfl, fun e => hn ?_⟩
        subst e
        exact ⟨[], ⟨fun c hc => (by cases hc), rfl⟩⟩
    · exact .inl hl
  · intro hb ys' k' h'
    obtain ⟨rfl, rfl⟩ := Enc.unique h h'
    rcases hb with hl | ⟨h0, hx⟩
    · exact .inr hl
    · rcases h with ⟨cs, ht, rfl, rfl⟩ | ⟨hn, rfl, rfl⟩
      · exfalso
        have h1 := (M8s_len ht.1).1
        rw [← ht.2, nums_len, h0] at h1
        apply hx
        rcases x with ⟨⟨l⟩⟩
        cases l with
        | nil => rfl
        | cons a r => simp [ByteArray.size] at h1
      · exact .inl (by decide)
open Classical in
theorem oneZ_shape (cs : List ConstV) (c : ConstV) : oneZ cs c = if (shapeZ c.tag).2 = true ∧ holdsZ (shapeZ c.tag).1 c = true ∧ (ledZ cs (shapeZ c.tag).1.la c.a && ledZ cs (shapeZ c.tag).1.lb c.b) = true then (if TextBad c.text then 20 else 0) else 40 := by
  obtain ⟨t, x, n, a, b⟩ := c
  have e0 : ∀ z, ledZ cs 0 z = decide (z = 0) := fun z => by unfold ledZ; rw [if_pos rfl]
  have e1 : ∀ l z, l ≠ 0 → ledZ cs l z = isZ cs z l := fun l z hl => by unfold ledZ; rw [if_neg hl, atC_tag cs z hl]
  unfold oneZ bareZ shapeZ holdsZ
  simp only
  by_cases h1 : t = 1
  · subst h1
    by_cases hn : n = 0 <;> by_cases ha : a = 0 <;> by_cases hb : b = 0 <;> simp [e0, hn, ha, hb]
  by_cases h5 : t = 5
  · subst h5
    by_cases hx : x = ⟨#[]⟩ <;> by_cases ha : a = 0 <;> by_cases hb : b = 0 <;> simp [e0, hx, ha, hb, empty_not_bad]
  by_cases h3 : t = 3
  · subst h3
    by_cases hx : x = ⟨#[]⟩ <;> by_cases hn : -2147483648 ≤ n ∧ n ≤ 2147483647 <;> by_cases ha : a = 0 <;> by_cases hb : b = 0 <;> simp [e0, hx, hn, ha, hb, empty_not_bad]
  by_cases h12 : t = 12
  · subst h12
    cases hA : isZ cs a 1 <;> cases hB : isZ cs b 1 <;> by_cases hx : x = ⟨#[]⟩ <;> by_cases hn : n = 0 <;> simp [e1, hA, hB, hx, hn, empty_not_bad]
  by_cases h7 : t = 7
  · subst h7
    cases hA : isZ cs a 1 <;> by_cases hx : x = ⟨#[]⟩ <;> by_cases hn : n = 0 <;> by_cases hb : b = 0 <;> simp [e0, e1, hA, hx, hn, hb, empty_not_bad]
  by_cases h9 : t = 9 ∨ t = 10
  · cases hA : isZ cs a 7 <;> cases hB : isZ cs b 12 <;> by_cases hx : x = ⟨#[]⟩ <;> by_cases hn : n = 0 <;> simp [h1, h3, h5, h7, h9, h12, e1, hA, hB, hx, hn, empty_not_bad]
  simp [h1, h3, h5, h7, h9, h12]
theorem progHolds (txt : Bool) (sz la lb : Int) (c : ConstV) (w : World) (hr : ConstR c) (hs : sz = 0 ∨ sz = 4 ∨ sz = 8) :
    Calls Tryz.prog 167 #[.agg #[.bool txt, .int .i64 sz, .int .i64 la, .int .i64 lb], .agg #[.int .i64 c.tag, .string c.text, .int .i64 c.n, .int .i64 c.a, .int .i64 c.b]] w fun e w' => e = .returned (.bool (holdsZ ⟨txt, sz, la, lb⟩ c)) ∧ Only (fun _ => False) w w' := by
  rcases hs with rfl | rfl | rfl
  · exact progHolds0 txt la lb c w hr
  · exact progHolds4 txt la lb c w hr
  · exact progHolds8 txt la lb c w hr
theorem shapeZ_size (t : Int) : (shapeZ t).1.size = 0 ∨ (shapeZ t).1.size = 4 ∨ (shapeZ t).1.size = 8 := by
  unfold shapeZ
  repeat' split
  all_goals simp
theorem Tabs.lt {w : World} (h : Tabs w) : 1 < w.heap.size := by
  have h2 := (h.2 0 (by decide)).1
  have := World.block_lt_of_cell? w _ h2
  simp at this
  omega
set_option maxHeartbeats 4000000 in
set_option maxRecDepth 100000 in
theorem progConst (v : Value) (cs : List ConstV) (c : ConstV) (w : World) (hp : Pool w v cs) (hr : ConstR c) (hT : Tabs w) :
    Calls Tryz.prog 153 #[v, .agg #[.int .i64 c.tag, .string c.text, .int .i64 c.n, .int .i64 c.a, .int .i64 c.b]] w fun e w' => e = .returned (.int .i64 (oneZ cs c)) ∧ Only (fun _ => False) w w' := by
  obtain ⟨ao, cap, rfl, _, _, _, _, _⟩ := id hp
  have hz := oneZ_shape cs c
  have hsz := shapeZ_size c.tag
  obtain ⟨q, hq⟩ : ∃ q, shapeZ c.tag = q := ⟨_, rfl⟩
  have cS := fun w => progShape c.tag w
  rw [hq] at hz hsz cS
  obtain ⟨⟨tx, sz, la, lb⟩, ok⟩ := q
  have cH := fun w => progHolds tx sz la lb c w hr hsz
  have cL := fun w' (ho : Only (fun _ => False) w w') => progLed _ cs tx sz la lb c w' (hp.only ho (fun _ _ h => h))
  have cN := fun w' (ho : Only (fun _ => False) w w') => lenOf c.text w' (by have := hr.rt; omega) (hT.only ho (fun h => h) (fun h => h)) (hT.only ho (fun h => h) (fun h => h)).lt
  simp only at hz cS cH cL cN hsz
  have hbad : ∀ ys k, Enc (nums c.text) ys k → _ := fun ys k h => bad_len h
  obtain ⟨H, hH⟩ : ∃ H, holdsZ ⟨tx, sz, la, lb⟩ c = H := ⟨_, rfl⟩
  obtain ⟨L, hL⟩ : ∃ L, (ledZ cs la c.a && ledZ cs lb c.b) = L := ⟨_, rfl⟩
  rw [hH, hL] at hz
  rw [hH] at cH
  rw [hL] at cL
  obtain ⟨t, x, n, a, b⟩ := c
  obtain ⟨r0, r2, r3, r4, _⟩ := hr
  unfold I64 at r0 r2 r3 r4
  simp only at *
  have CS := Lib.hid cS
  have CH := Lib.hid cH
  have CL := Lib.hid cL
  have CN := Lib.hid cN
  have HZ := Lib.hid hz
  have HB := Lib.hid hbad
  clear cS cH cL cN hz hbad hH hL hq hp hT hsz
  go_enter Tryz.func153, Tryz.ntmps153
  go_wp2_with (fail)
  refine (CS.out _).mono ?_
  rintro e w1 ⟨rfl, ho1⟩
  have hblk := ho1.heap (heap_alloc_new w _) (fun h => h)
  have q0 := cell_blk hblk 0
  have q1 := cell_blk hblk 1
  have q2 := cell_blk hblk 2
  have q3 := cell_blk hblk 3
  have q4 := cell_blk hblk 4
  simp at q0 q1 q2 q3 q4
  have HO1 := Lib.hid (((Only.refl (fun _ => False) w).alloc _).trans ho1 (fun _ h => h.elim))
  have hsA : Only (fun _ => False) w1 (w1.alloc (.cells #[.bool tx, .int .i64 sz, .int .i64 la, .int .i64 lb] 227)) := (Only.refl _ _).alloc _
  have u0 := hsA.cell q0 (fun h => h)
  have u1 := hsA.cell q1 (fun h => h)
  have u2 := hsA.cell q2 (fun h => h)
  have u3 := hsA.cell q3 (fun h => h)
  have u4 := hsA.cell q4 (fun h => h)
  clear ho1 hblk hsA
  cases ok with
  | false =>
    go_wp2
    go_ret
    exact ⟨congrArg (fun z => Ending.returned (.int .i64 z)) (by rw [HZ.out, if_neg (by simp)]), HO1.out.alloc _⟩
  | true =>
    cases H with
    | false =>
      go_wp2_with (fail)
      refine (CH.out _).mono ?_
      rintro e w2 ⟨rfl, ho2⟩
      have HO2 := Lib.hid ((HO1.out.alloc _).trans ho2 (fun _ h => h.elim))
      clear ho2
      go_wp2
      go_ret
      exact ⟨congrArg (fun z => Ending.returned (.int .i64 z)) (by rw [HZ.out, if_neg (by simp)]), HO2.out⟩
    | true =>
      go_wp2_with (fail)
      refine (CH.out _).mono ?_
      rintro e w2 ⟨rfl, ho2⟩
      have ho12 := ((Only.refl (fun _ => False) w1).alloc (.cells #[.bool tx, .int .i64 sz, .int .i64 la, .int .i64 lb] 227)).trans ho2 (fun _ h => h.elim)
      have HO2 := Lib.hid (HO1.out.trans ho12 (fun _ h => h.elim))
      have hsb := ho2.heap (heap_alloc_new w1 _) (fun h => h)
      have s0 := cell_blk hsb 0
      have s1 := cell_blk hsb 1
      have s2 := cell_blk hsb 2
      have s3 := cell_blk hsb 3
      simp at s0 s1 s2 s3
      have p0 := ho12.cell q0 (fun h => h)
      have p1 := ho12.cell q1 (fun h => h)
      have p2 := ho12.cell q2 (fun h => h)
      have p3 := ho12.cell q3 (fun h => h)
      have p4 := ho12.cell q4 (fun h => h)
      clear q0 q1 q2 q3 q4 u0 u1 u2 u3 u4 hsb ho2 ho12
      cases L with
      | false =>
        go_wp2_with (fail)
        refine (CL.out _ (HO2.out)).mono ?_
        rintro e w3 ⟨rfl, ho3⟩
        have HO3 := Lib.hid (HO2.out.trans ho3 (fun _ h => h.elim))
        clear ho3
        go_wp2
        go_ret
        exact ⟨congrArg (fun z => Ending.returned (.int .i64 z)) (by rw [HZ.out, if_neg (by simp)]), HO3.out⟩
      | true =>
        go_wp2_with (fail)
        refine (CL.out _ (HO2.out)).mono ?_
        rintro e w3 ⟨rfl, ho3⟩
        have HO3 := Lib.hid (HO2.out.trans ho3 (fun _ h => h.elim))
        have x1 := ho3.cell p1 (fun h => h)
        clear ho3 p0 p1 p2 p3 p4 s0 s1 s2 s3
        go_wp2_with (fail)
        refine (CN.out _ (HO3.out)).mono ?_
        rintro e w4 ⟨ys, k, rfl, henc, ho4⟩
        have hb := HB.out ys k henc
        have y1 := ho4.cell x1 (fun h => h)
        have HO4 := Lib.hid (HO3.out.trans ho4 (fun _ h => h.elim))
        clear ho4 x1 henc
        by_cases h1 : 256 < ys.length
        · have HT := Lib.hid (hb.2 (.inl h1))
          have h1z : (256 : Int) < (ys.length : Int) := by omega
          clear hb
          go_wp2
          go_ret
          exact ⟨congrArg (fun z => Ending.returned (.int .i64 z)) (by rw [HZ.out, if_pos (by simp), if_pos HT.out]), HO4.out⟩
        have h1z : (ys.length : Int) ≤ 256 := by omega
        by_cases h2 : ys.length = 0
        · by_cases h3 : x = ⟨#[]⟩
          · have HT := Lib.hid (show ¬ TextBad x from fun h => by rcases hb.1 h with h | h; (exact h1 h); (exact h.2 h3))
            subst h3
            have h2z : (ys.length : Int) = 0 := by omega
            clear hb
            go_wp2
            go_ret
            exact ⟨congrArg (fun z => Ending.returned (.int .i64 z)) (by rw [HZ.out, if_pos (by simp), if_neg HT.out]), HO4.out⟩
          · have HT := Lib.hid (hb.2 (.inr ⟨h2, h3⟩))
            have hx1 : x.toList.isEmpty = false := by
              rw [Bool.eq_false_iff]
              intro h
              exact h3 (by rw [empty_text]; simpa using h)
            have h2z : (ys.length : Int) = 0 := by omega
            clear hb h3
            go_wp2
            go_ret
            exact ⟨congrArg (fun z => Ending.returned (.int .i64 z)) (by rw [HZ.out, if_pos (by simp), if_pos HT.out]), HO4.out⟩
        · have HT := Lib.hid (show ¬ TextBad x from fun h => by rcases hb.1 h with h | h; (exact h1 h); (exact h2 h.1))
          have h2z : ((ys.length : Int) == 0) = false := by simp only [beq_eq_false_iff_ne]; omega
          clear hb h2
          go_wp2
          go_ret
          exact ⟨congrArg (fun z => Ending.returned (.int .i64 z)) (by rw [HZ.out, if_pos (by simp), if_neg HT.out]), HO4.out⟩
end Go.Proofs.YtgdgffnaknkbcaaGreatDoor
namespace Go.Proofs.YtgdgffnaknkbcaaGreatDoor
open Go.RowKit Go.Extern.Stop Go.Stop Go.Extern
set_option linter.unusedVariables false
set_option linter.unusedSimpArgs false
theorem asValP (t : Addr) (w : World) : (ReflectliteValue.unpack (.iface 200 (.pointer (some t)))).run Tryz.prog w
    = .ok (.agg #[.pointer (some ⟨4, 200, none⟩), .pointer (some ⟨w.heap.size, 0, none⟩), .int .u64 150]) (w.alloc (.cells #[.pointer (some t)] 200)) := by kernel_rfl
theorem asTypeP (a : Addr) (w : World) : (ReflectliteValue.methodAny (ReflectliteValue.valueError "reflectlite.Value.Type" 0) (fun t _ _ _ => ReflectliteType.toType t) #[.agg #[.pointer (some ⟨4, 200, none⟩), .pointer (some a), .int .u64 150]]).run Tryz.prog w
    = .ok (.iface 234 (.agg #[.pointer (some ⟨4, 200, none⟩)])) w := by kernel_rfl
theorem asMethodKind (n : Nat) (h : Value) (w : World) : (Go.method (n + 1) 234 (.agg #[h]) "Kind").run Tryz.prog w = .ok (210, h) w := by kernel_rfl
theorem asKindP (w : World) : ((ReflectliteType.abiMethod fun t => (fun a : Nat => Value.int IntKind.u8 (a : Int)) <$> Rtype.kind t) #[.pointer (some ⟨4, 200, none⟩)]).run Tryz.prog w = .ok (.int .u8 22) w := by kernel_rfl
theorem asKindE (w : World) : ((ReflectliteType.abiMethod fun t => (fun a : Nat => Value.int IntKind.u8 (a : Int)) <$> Rtype.kind t) #[.pointer (some ⟨4, 24, none⟩)]).run Tryz.prog w = .ok (.int .u8 2) w := by kernel_rfl
theorem asIsNilRun (a : Addr) (W : World) : (ReflectliteValue.method (ReflectliteValue.valueError "reflectlite.Value.IsNil" 0) ReflectliteValue.isNil #[.agg #[.pointer (some ⟨4, 200, none⟩), .pointer (some a), .int .u64 150]]).run Tryz.prog W = (ReflectliteValue.isNil 200 a 150 22).run Tryz.prog W := by kernel_rfl
theorem asIsNilP (a p : Addr) (W : World) (ha : W.cell? a = some (.pointer (some p))) :
    (ReflectliteValue.method (ReflectliteValue.valueError "reflectlite.Value.IsNil" 0) ReflectliteValue.isNil #[.agg #[.pointer (some ⟨4, 200, none⟩), .pointer (some a), .int .u64 150]]).run Tryz.prog W = .ok (.bool false) W := by
  rw [asIsNilRun]
  simp [ReflectliteValue.isNil, loadVar, isAgg, underlying, Tryz.underlying200, ha, Result.andThen]
theorem asMethodElem (n : Nat) (h : Value) (w : World) : (Go.method (n + 1) 234 (.agg #[h]) "Elem").run Tryz.prog w = .ok (229, .agg #[h]) w := by kernel_rfl
theorem asMethodImplements (n : Nat) (h : Value) (w : World) : (Go.method (n + 1) 234 (.agg #[h]) "Implements").run Tryz.prog w = .ok (230, .agg #[h]) w := by kernel_rfl
theorem asMethodAssignable (n : Nat) (h : Value) (w : World) : (Go.method (n + 1) 234 (.agg #[h]) "AssignableTo").run Tryz.prog w = .ok (227, .agg #[h]) w := by kernel_rfl
theorem asElemP (w : World) : (ReflectliteType.method ReflectliteType.elem #[.agg #[.pointer (some ⟨4, 200, none⟩)]]).run Tryz.prog w = .ok (.iface 234 (.agg #[.pointer (some ⟨4, 24, none⟩)])) w := by kernel_rfl
theorem asImplements (w : World) : (ReflectliteType.relation "Implements" ReflectliteType.implements_ #[.agg #[.pointer (some ⟨4, 24, none⟩)], .iface 234 (.agg #[.pointer (some ⟨4, 189, none⟩)])]).run Tryz.prog w = .ok (.bool true) w := by kernel_rfl
theorem asTypeOfE (v : Value) (w : World) : (ReflectliteType.typeOf #[.iface 24 v]).run Tryz.prog w = .ok (.iface 234 (.agg #[.pointer (some ⟨4, 24, none⟩)])) w := by kernel_rfl
theorem asTypeOfF (v : Value) (w : World) : (ReflectliteType.typeOf #[.iface 203 v]).run Tryz.prog w = .ok (.iface 234 (.agg #[.pointer (some ⟨4, 203, none⟩)])) w := by kernel_rfl
theorem asAssignE (w : World) : (ReflectliteType.relation "AssignableTo" ReflectliteType.assignableTo #[.agg #[.pointer (some ⟨4, 24, none⟩)], .iface 234 (.agg #[.pointer (some ⟨4, 24, none⟩)])]).run Tryz.prog w = .ok (.bool true) w := by kernel_rfl
theorem asAssignF (w : World) : (ReflectliteType.relation "AssignableTo" ReflectliteType.assignableTo #[.agg #[.pointer (some ⟨4, 203, none⟩)], .iface 234 (.agg #[.pointer (some ⟨4, 24, none⟩)])]).run Tryz.prog w = .ok (.bool false) w := by kernel_rfl
theorem asValE (k : Int) (w : World) : (ReflectliteValue.unpack (.iface 24 (.int .i64 k))).run Tryz.prog w
    = .ok (.agg #[.pointer (some ⟨4, 24, none⟩), .pointer (some ⟨w.heap.size, 0, none⟩), .int .u64 130]) (w.alloc (.cells #[.int .i64 k] 24)) := by kernel_rfl
theorem asElemOfP (w : World) : (Rtype.elem? 200).run Tryz.prog w = .ok (some 24) w := by kernel_rfl
theorem asMkE (p : Addr) (w : World) : (ReflectliteValue.mk 24 p ReflectliteValue.flagAddr).run Tryz.prog w = .ok (.agg #[.pointer (some ⟨4, 24, none⟩), .pointer (some p), .int .u64 386]) w := by kernel_rfl
theorem asElemRun (a : Addr) (W : World) : (ReflectliteValue.method (ReflectliteValue.valueError "reflectlite.Value.Elem" 0) ReflectliteValue.elem #[.agg #[.pointer (some ⟨4, 200, none⟩), .pointer (some a), .int .u64 150]]).run Tryz.prog W = (ReflectliteValue.elem 200 a 150 22).run Tryz.prog W := by kernel_rfl
theorem asElemV (a p : Addr) (W : World) (ha : W.cell? a = some (.pointer (some p))) :
    (ReflectliteValue.method (ReflectliteValue.valueError "reflectlite.Value.Elem" 0) ReflectliteValue.elem #[.agg #[.pointer (some ⟨4, 200, none⟩), .pointer (some a), .int .u64 150]]).run Tryz.prog W
      = .ok (.agg #[.pointer (some ⟨4, 24, none⟩), .pointer (some p), .int .u64 386]) W := by
  rw [asElemRun]
  simp [ReflectliteValue.elem, loadVar, isAgg, underlying, Tryz.underlying200, ha, Result.andThen, asElemOfP, asMkE]
theorem asSetRun (ta b : Addr) (W : World) : (ReflectliteValue.set #[.agg #[.pointer (some ⟨4, 24, none⟩), .pointer (some ta), .int .u64 386], .agg #[.pointer (some ⟨4, 24, none⟩), .pointer (some b), .int .u64 130]]).run Tryz.prog W
    = (loadVar 24 b >>= fun u => storeVar 24 ta u >>= fun _ => pure (.tuple #[]) : Sem Value).run Tryz.prog W := by kernel_rfl
theorem asSet (ta b : Addr) (k : Int) (old : Value) (W : World) (hb : W.cell? b = some (.int .i64 k)) (ht : W.cell? ta = some old) (hf : W.frozen? ta = false) :
    (ReflectliteValue.set #[.agg #[.pointer (some ⟨4, 24, none⟩), .pointer (some ta), .int .u64 386], .agg #[.pointer (some ⟨4, 24, none⟩), .pointer (some b), .int .u64 130]]).run Tryz.prog W
      = .ok (.tuple #[]) (W.setCell ta (.int .i64 k)) := by
  rw [asSetRun]
  simp [loadVar, isAgg, underlying, Tryz.underlying24, hb, Result.andThen, storeVar, Value.cells, storeCells, Addr.add]
  rw [run_store Tryz.prog W ta _ _ (by rfl)]
  simp [ht, hf]
theorem asNoAsF (v : Value) (xT : TypeId) (w : World) : (Instr.typeAssert (.iface 203 v) xT 239 true).run Tryz.prog w = .ok (.tuple #[.nilIface, .bool false]) w := run_typeAssert_lacksB Tryz.underlying239 (by kernel_rfl) (by kernel_rfl) v xT w
theorem asHasUnwrapF (v : Value) (xT : TypeId) (w : World) : (Instr.typeAssert (.iface 203 v) xT 242 true).run Tryz.prog w = .ok (.tuple #[.iface 203 v, .bool true]) w := run_typeAssert_hasB Tryz.underlying242 (by kernel_rfl) v xT w
theorem asMethodUnwrap (n : Nat) (v : Value) (w : World) : (Go.method (n + 1) 203 v "Unwrap").run Tryz.prog w = .ok (222, v) w := by kernel_rfl
def ErrV (w : World) : Prop := w.cell? ⟨0, 0, none⟩ = some (.iface 234 (.agg #[.pointer (some ⟨4, 189, none⟩)]))
theorem ErrV.only {S : Nat → Prop} {w w' : World} (h : ErrV w) (ho : Only S w w') (h0 : ¬ S 0) : ErrV w' := Only.cell ho h h0
theorem asNil (t : Value) (w : World) : Calls Tryz.prog 151 #[.nilIface, t] w fun e w' => e = .returned (.bool false) ∧ w = w' := by
  go_enter Tryz.func151, Tryz.ntmps151
  go_wp2
  go_ret
  exact ⟨rfl, rfl⟩
set_option maxHeartbeats 1000000 in
theorem whichNil (w : World) :
    Calls Tryz.prog 134 #[.nilIface] w fun e w' => e = .returned (.int .i64 0) ∧ Only (fun _ => False) w w' := by
  go_enter Tryz.func134, Tryz.ntmps134
  go_wp2_with (go_at_call 151; refine (asNil _ _).mono ?_; rintro e w1 ⟨rfl, rfl⟩)
  go_ret
  exact ⟨rfl, (Only.refl _ _).alloc _⟩
end Go.Proofs.YtgdgffnaknkbcaaGreatDoor
