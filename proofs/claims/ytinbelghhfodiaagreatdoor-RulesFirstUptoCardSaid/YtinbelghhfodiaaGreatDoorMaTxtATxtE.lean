import Derived.Test.YtinbelghhfodiaaGreatDoorRows
import Derived.Test.YtinbelghhfodiaaGreatDoorMaSepPolT
import Derived.Deep.QuietTactic
import Derived.BigQuiet
import Derived.Deep.RegionLaw
import Derived.Shelf.Strings.Builder1
import Derived.Shelf.Strings.BuilderF
import Derived.Shelf.Strings.BuilderK
import Derived.Shelf.Strings.BuilderRune
import Derived.Shelf.Unicode.ValidAny
import Derived.Test.YtinbelghhfodiaaGreatDoorProg
import Derived.Lib.OthersKept
import Derived.WalkKit
import Derived.BigCall
import Derived.Handy
namespace Go.Proofs.YtinbelghhfodiaaGreatDoor
set_option maxHeartbeats 4000000
open Lib (hid)
open Go.RowKit
set_option linter.unusedVariables false
set_option linter.unusedSimpArgs false
def Span (w : World) (v : Value) (a b : Int) : Prop :=
 ∃ p q, v = .func (.func 203) #[] #[.pointer (some ⟨p, 0, none⟩), .pointer (some ⟨q, 0, none⟩)] ∧ w.cell? ⟨p, 0, none⟩ = some (.int .i32 a) ∧ w.cell? ⟨q, 0, none⟩ = some (.int .i32 b)
def sizeU (u : Int) : Int := if 1 ≤ u ∧ u < 128 then 1 else if 2048 ≤ u ∧ u < 65536 then 3 else 2
theorem unitSize (u : Int) (w : World) :
  Calls Tryz.prog 191 #[.int .i32 u] w fun e w' => e = .returned (.int .i64 (sizeU u)) ∧ Only (fun _ => False) w w' := by
 have hmf : ∀ (fn : Fn) (first cap : Array Value) (w : World), (Instr.makeFunc fn first cap).run Tryz.prog w = .ok (.func fn first cap) w := fun _ _ _ _ => rfl
 go_enter Tryz.func191, Tryz.ntmps191
 go_wp2
 all_goals go_ret
 all_goals refine ⟨congrArg (fun z => Ending.returned (.int .i64 z)) ?_, by repeat (first | exact Only.refl _ _ | apply Only.alloc)⟩
 all_goals unfold sizeU
 all_goals first | rw [if_pos (by omega)] | rw [if_neg (by omega), if_pos (by omega)] | rw [if_neg (by omega), if_neg (by omega)]
def leadU (c : Int) : Int := if c < 128 then c else if 192 ≤ c ∧ c < 224 then c - 192 else if 224 ≤ c ∧ c < 240 then c - 224 else 0
def leadN (c : Int) : Int := if c < 128 then 1 else if 192 ≤ c ∧ c < 224 then 2 else if 224 ≤ c ∧ c < 240 then 3 else 0
theorem i32_and63 {x : Int} (h₀ : 0 ≤ x) (h₁ : x < 2147483648) : bits .and .i32 x 63 = x % 64 := bits_mask .i32 31 (by decide) wraps_i32 6 (by decide) x h₀ h₁
theorem i32_and1023 {x : Int} (h₀ : 0 ≤ x) (h₁ : x < 2147483648) : bits .and .i32 x 1023 = x % 1024 := bits_mask .i32 31 (by decide) wraps_i32 10 (by decide) x h₀ h₁
theorem lowest (u : Int) (n : Nat) (w : World) (hn : n = 6 ∨ n = 10) (h0 : 0 ≤ u) (h1 : u ≤ 1114111) :
  Calls Tryz.prog 192 #[.int .i32 u, .int .i64 n] w fun e w' => e = .returned (.int .i32 (u % 2 ^ n)) ∧ w = w' := by
 rcases hn with rfl | rfl
 all_goals go_enter Tryz.func192, Tryz.ntmps192
 all_goals go_wp2
 all_goals go_ret
 all_goals refine ⟨congrArg (fun z => Ending.returned (.int .i32 z)) ?_, rfl⟩
 ·exact (i32_and63 h0 (by omega))
 ·exact (i32_and1023 h0 (by omega))
end Go.Proofs.YtinbelghhfodiaaGreatDoor
namespace Go.Proofs
open Go.Shelf
def Tryz.laysValid_ren : Go.Shelf.Ren := ⟨fun | 196 => 190 | 259 => 199 | n => n, fun | 9 => 9 | 4 => 4 | 3 => 3 | 5 => 5 | 12 => 12 | 119 => 281 | 0 => 0 | 46 => 252 | 139 => 284 | 138 => 283 | 53 => 289 | n => n, fun | 3 => 2 | 4 => 3 | n => n⟩
theorem Tryz.laysValid : Go.Proofs.Lays.n196 Tryz.prog Tryz.laysValid_ren := {
 mixed := by kernel_rfl
 f196 := Tryz.func190.trans (congrArg some (by kernel_rfl))
 f259 := Tryz.func199.trans (congrArg some (by kernel_rfl))
 t0 := Tryz.underlying0
 a0 := Tryz.isAgg0
 z0 := Tryz.sizeOf0
 v0 := Tryz.zeroValue0
 t3 := Tryz.underlying3
 a3 := Tryz.isAgg3
 z3 := Tryz.sizeOf3
 v3 := Tryz.zeroValue3
 t4 := Tryz.underlying4
 a4 := Tryz.isAgg4
 z4 := Tryz.sizeOf4
 v4 := Tryz.zeroValue4
 t5 := Tryz.underlying5
 a5 := Tryz.isAgg5
 z5 := Tryz.sizeOf5
 v5 := Tryz.zeroValue5
 t9 := Tryz.underlying9
 a9 := Tryz.isAgg9
 z9 := Tryz.sizeOf9
 v9 := Tryz.zeroValue9
 t12 := Tryz.underlying12
 a12 := Tryz.isAgg12
 z12 := Tryz.sizeOf12
 v12 := Tryz.zeroValue12
 t46 := Tryz.underlying252
 a46 := Tryz.isAgg252
 z46 := Tryz.sizeOf252
 v46 := Tryz.zeroValue252
 t53 := Tryz.underlying289
 a53 := Tryz.isAgg289
 z53 := Tryz.sizeOf289
 v53 := Tryz.zeroValue289
 t119 := Tryz.underlying281
 a119 := Tryz.isAgg281
 z119 := Tryz.sizeOf281
 t138 := Tryz.underlying283
 a138 := Tryz.isAgg283
 z138 := Tryz.sizeOf283
 v138 := Tryz.zeroValue283
 t139 := Tryz.underlying284
 a139 := Tryz.isAgg284
 z139 := Tryz.sizeOf284
 v139 := Tryz.zeroValue284
 g3 := by kernel_rfl
 g4 := by kernel_rfl }
end Go.Proofs
namespace Go.Proofs.YtinbelghhfodiaaGreatDoor
set_option maxHeartbeats 4000000
open Lib (hid)
open Go.RowKit Go.Shelf
set_option linter.unusedVariables false
set_option linter.unusedSimpArgs false
def Tabs (w : World) : Prop := Lib.Utf8Tabs 2 3 w
theorem Tabs.only {S : Nat → Prop} {w w' : World} (h : Tabs w) (ho : Only S w w') (h0 : ¬ S 2) (h1 : ¬ S 3) : Tabs w' :=
 ⟨fun c hc => ho.cell (h.1 c hc) h0, fun i hi => ⟨ho.cell (h.2 i hi).1 h1, ho.cell (h.2 i hi).2 h1⟩⟩
def unitsOf (c : Int) : List Int := if c < 65536 then [c] else [hiU c, loU c]
def Us (cs : List Int) : List Int := cs.flatMap unitsOf
def UN (us : List Int) : List Int := us.flatMap unitZ
theorem UN_append (a b : List Int) : UN (a ++ b) = UN a ++ UN b := by simp [UN]
theorem UN_one (u : Int) : UN [u] = unitZ u := by simp [UN]
theorem Us_snoc (a : List Int) (c : Int) : Us (a ++ [c]) = Us a ++ unitsOf c := by simp [Us]
theorem UN_units (c : Int) : UN (unitsOf c) = m8 c := by unfold unitsOf m8; split <;> simp [UN]
theorem UN_Us (cs : List Int) : UN (Us cs) = M8s cs := by
 induction cs with
 | nil => rfl
 | cons c cs ih =>
  have e : Us (c :: cs) = unitsOf c ++ Us cs := by simp [Us]
  rw [e, UN_append, ih, UN_units, M8s_cons]
theorem decode_head {s : ByteArray} {pre suf : List Int} {c : Int} (hc : Sc c) (h : nums s = U8s pre ++ (enc8 c ++ suf)) : Utf8.decode s (U8s pre).length = (c.toNat, (enc8 c).length) := by
 rw [← Lib.decodeL_drop]
 apply dec_head hc (r := suf)
 have e : numsL (s.data.toList.drop (U8s pre).length) = (nums s).drop (U8s pre).length := by simp only [nums, numsL, List.map_drop]
 rw [e, h, List.drop_left]
theorem valid (s : ByteArray) (w : World) (hs : s.size ≤ 9223372036854775807) (hT : Tabs w) :
  Calls Tryz.prog 190 #[.string s] w fun e w' => e = .returned (.bool (Lib.validD s.data.toList)) ∧ Only (fun _ => False) w w' :=
 (Any.utf8_ValidString Tryz.laysValid s w hs hT).mono fun e w' h => ⟨h.1, Only.of_below h.2 _⟩
set_option maxRecDepth 1000000 in
theorem eachUnit (n cb : Nat) (he : Enters Tryz.prog n) (I : Nat → List Int → World → Prop) (N : Nat) (s : ByteArray) (w : World) (hs : s.size ≤ 9223372036854775807) (hT : Tabs w)
  (hstart : ∀ it w', w.heap.size ≤ it → Only (fun _ => False) w w' → I it [] w')
  (hkeep : ∀ it us w1 w2, I it us w1 → Only (fun k => k = it) w1 w2 → I it us w2)
  (htell : ∀ it us u w1, it < w1.heap.size → I it us w1 → 0 ≤ u → u ≤ 65535 → (UN us).length + (unitZ u).length ≤ N →
   Calls Tryz.prog n #[.int .i32 u, .int .i64 (sizeU u), .pointer (some ⟨cb, 0, none⟩)] w1 fun e w2 => e = .returned (.tuple #[]) ∧ I it (us ++ [u]) w2 ∧ w1.heap.size ≤ w2.heap.size ∧ w2.heap[it]? = w1.heap[it]?)
  (hN : ∀ cs, IsText (nums s) cs → (M8s cs).length ≤ N) :
  Calls Tryz.prog 183 #[.string s, .func (.func n) #[] #[.pointer (some ⟨cb, 0, none⟩)]] w fun e w' =>
   (∃ cs it, IsText (nums s) cs ∧ e = .returned (.bool true) ∧ w.heap.size ≤ it ∧ I it (Us cs) w') ∨ ((¬ ∃ cs, IsText (nums s) cs) ∧ e = .returned (.bool false) ∧ Only (fun _ => False) w w') := by
 have hen : ∀ args w, (callFunc n args).run Tryz.prog w = .ok (.enter n args) w := he
 have cV := valid s w hs hT
 by_cases hv : ∃ cs, IsText (nums s) cs
 ·have e1 : Lib.validD s.data.toList = true := (valid_text _ s.data.toList (Nat.le_refl _)).2 hv
  rw [e1] at cV
  obtain ⟨cs, hcs⟩ := hv
  have hN := hN cs hcs
  have HS := hid hstart
  have HK := hid hkeep
  have HT := hid htell
  have HC := hid hcs
  clear hstart hkeep htell hcs e1 hT
  go_enter Tryz.func183, Tryz.ntmps183
  go_wp2_with (first | (go_at_call 190; refine cV.mono ?_; rintro e w1 ⟨rfl, hb⟩))
  clear cV
  have hb1 := hb.size
  go_loopw [] (fun wr => ∃ pre suf : List Int, cs = pre ++ suf ∧ wr.heap[w1.heap.size]? = some (.stringIter s (U8s pre).length) ∧ I w1.heap.size (Us pre) wr) (fun wr => s.size - wr.iterPos w1.heap.size)
  case atStart => exact ⟨[], cs, rfl, World.iter_heap w1 s 0, HS.out _ _ hb1 (hb.alloc _)⟩
  case round =>
   obtain ⟨pre, suf, hps, hit, hI⟩ := hrel
   have hcs := HC.out
   have hlen0 : s.size = (U8s cs).length := by rw [← nums_len, hcs.2]
   cases suf with
   | nil =>
    rw [List.append_nil] at hps
    subst hps
    have hp : ¬ (U8s cs).length < s.size := by omega
    have hnx : ∀ ty, (Instr.next (.pointer (some ⟨w1.heap.size, 0, none⟩)) true ty).run Tryz.prog wr = _ := fun ty => Lib.run_next_end_at wr w1.heap.size s _ ty hit hp
    clear hcs
    go_wp2
    go_ret
    exact .inl ⟨cs, _, HC.out, rfl, hb1, hI⟩
   | cons c suf =>
    have hall : AllSc (pre ++ c :: suf) := by rw [← hps]; exact hcs.1
    have hsc : Sc c := hall c (by simp)
    have hnum : nums s = U8s pre ++ (enc8 c ++ U8s suf) := by rw [hcs.2, hps, U8s_append, U8s_cons]
    have hdec := decode_head hsc hnum
    have hu8 := u8_len hsc
    have hm : M8s cs = M8s pre ++ (m8 c ++ M8s suf) := by rw [hps, M8s_append, M8s_cons]
    have hml : (M8s pre).length + (m8 c).length ≤ N := by rw [hm] at hN; simp only [List.length_append] at hN; omega
    have hp : (U8s pre).length < s.size := by rw [hlen0, hps, U8s_append, U8s_cons]; simp only [List.length_append]; omega
    have hz : ((c.toNat : Nat) : Int) = c := by unfold Sc at hsc; omega
    have hz0 : 0 ≤ c ∧ c ≤ 1114111 := by unfold Sc at hsc; omega
    have hnx : ∀ ty, (Instr.next (.pointer (some ⟨w1.heap.size, 0, none⟩)) true ty).run Tryz.prog wr = .ok (.tuple #[.bool true, .int .i64 (U8s pre).length, .int .i32 c]) (wr.iterAt w1.heap.size s ((U8s pre).length + (enc8 c).length)) := by
     intro ty
     rw [Lib.run_next_any_at wr w1.heap.size s _ ty hit hp, hdec, hz]
    have hIa : I w1.heap.size (Us pre) (wr.iterAt w1.heap.size s ((U8s pre).length + (enc8 c).length)) := HK.out _ _ _ _ hI ⟨rfl, rfl, rfl, by rw [Lib.iterAt_size]; exact Nat.le_refl _, fun k _ hk => Lib.iterAt_other wr w1.heap.size k s _ hk⟩
    have hita := Lib.iterAt_heap wr w1.heap.size s _ ((U8s pre).length + (enc8 c).length) hit
    have hmeas : s.size - ((U8s pre).length + (enc8 c).length) < s.size - wr.iterPos w1.heap.size := by simp only [World.iterPos, hit]; omega
    have hpre : (U8s (pre ++ [c])).length = (U8s pre).length + (enc8 c).length := by rw [U8s_append, U8s_cons, U8s_nil]; simp
    have hps2 : cs = (pre ++ [c]) ++ suf := by rw [hps]; simp
    generalize wr.iterAt w1.heap.size s ((U8s pre).length + (enc8 c).length) = wa at *
    have Hps := hid hps2
    have Hpre := hid hpre
    have Hmeas := hid hmeas
    clear hcs hall hnum hdec hm hp hz hit hI hps hps2 hpre hmeas hlen0
    by_cases hc : 65536 ≤ c
    ·have hm8 : m8 c = unitZ (hiU c) ++ unitZ (loU c) := by unfold m8; rw [if_neg (by omega)]
     have hus : unitsOf c = [hiU c, loU c] := by unfold unitsOf; rw [if_neg (by omega)]
     rw [hm8, List.length_append] at hml
     have Hus := hid hus
     clear hm8 hus
     unfold hiU loU at *
     go_wp2_with (go_at_call 191; refine (unitSize _ _).mono ?_; rintro e w2 ⟨rfl, hb2⟩)
     have hI2 := HK.out _ _ _ _ hIa (hb2.mono fun _ h _ => h.elim)
     have hit2 := hb2.heap hita (fun h => h)
     refine (HT.out w1.heap.size (Us pre) _ w2 (heap_lt hit2) hI2 (by omega) (by omega) (by rw [UN_Us]; omega)).mono ?_
     rintro e w3 ⟨rfl, hI3, hs3, hit3⟩
     rw [hit2] at hit3
     clear hI2 hit2 hIa hita hs3 hb2
     go_wp2_with (first | (go_at_call 192; refine (lowest _ 10 _ (.inr rfl) (by omega) (by omega)).mono ?_; rintro e w' ⟨rfl, rfl⟩) | (go_at_call 191; refine (unitSize _ _).mono ?_; rintro e w4 ⟨rfl, hb4⟩))
     have hI4 := HK.out _ _ _ _ hI3 (hb4.mono fun _ h _ => h.elim)
     have hit4 := hb4.heap hit3 (fun h => h)
     refine (HT.out w1.heap.size _ _ w4 (heap_lt hit4) hI4 (by omega) (by omega) (by rw [UN_append, UN_Us, UN_one, List.length_append]; omega)).mono ?_
     rintro e w5 ⟨rfl, hI5, hs5, hit5⟩
     rw [hit4] at hit5
     clear hI4 hit4 hI3 hit3 hs5 hb4
     rw [List.append_assoc, List.cons_append, List.nil_append, ← Hus.out, ← Us_snoc] at hI5
     go_wp2
     go_roundw
     case rel => exact ⟨pre ++ [c], suf, Hps.out, by rw [Hpre.out]; exact hit5, hI5⟩
     case measure => have := Hmeas.out; simp only [World.iterPos, hit5]; exact this
    ·have hm8 : m8 c = unitZ c := by unfold m8; rw [if_pos (by omega)]
     have hus : unitsOf c = [c] := by unfold unitsOf; rw [if_pos (by omega)]
     rw [hm8] at hml
     have Hus := hid hus
     clear hm8 hus
     go_wp2_with (go_at_call 191; refine (unitSize _ _).mono ?_; rintro e w2 ⟨rfl, hb2⟩)
     have hI2 := HK.out _ _ _ _ hIa (hb2.mono fun _ h _ => h.elim)
     have hit2 := hb2.heap hita (fun h => h)
     refine (HT.out w1.heap.size (Us pre) _ w2 (heap_lt hit2) hI2 (by omega) (by omega) (by rw [UN_Us]; omega)).mono ?_
     rintro e w3 ⟨rfl, hI3, hs3, hit3⟩
     rw [hit2] at hit3
     clear hI2 hit2 hIa hita hs3 hb2
     rw [← Hus.out, ← Us_snoc] at hI3
     go_wp2
     go_roundw
     case rel => exact ⟨pre ++ [c], suf, Hps.out, by rw [Hpre.out]; exact hit3, hI3⟩
     case measure => have := Hmeas.out; simp only [World.iterPos, hit3]; exact this
 ·have e1 : Lib.validD s.data.toList = false := by
   cases h : Lib.validD s.data.toList with
   | false => rfl
   | true => exact absurd ((valid_text _ s.data.toList (Nat.le_refl _)).1 h) hv
  rw [e1] at cV
  clear hstart hkeep htell e1 hT
  go_enter Tryz.func183, Tryz.ntmps183
  go_wp2_with (first | (go_at_call 190; refine cV.mono ?_; rintro e w1 ⟨rfl, hb⟩))
  go_ret
  exact .inr ⟨hv, rfl, hb⟩
def EncSt (w0 : World) (cb it : Nat) (us : List Int) (w : World) : Prop :=
 ∃ v, w.heap[cb]? = some (.cells #[v] 55 (0, 0)) ∧ Row w w0.heap.size v (UN us) ∧ v.ownBlock ≠ some it ∧ Only (fun k => k = cb) w0 w ∧ w0.heap.size ≤ it ∧ cb < w0.heap.size
theorem EncSt.keep {w0 : World} {cb : Nat} (it : Nat) (us : List Int) (w1 w2 : World) (h : EncSt w0 cb it us w1) (ho : Only (fun k => k = it) w1 w2) : EncSt w0 cb it us w2 := by
 obtain ⟨v, hb, hr, hne, hon, hit, hcb⟩ := h
 refine ⟨v, ho.heap hb (by omega), hr.only ho (fun k hk e => hne (by rw [hk, e])), hne, hon.trans ho (fun k hk hl => by omega), hit, hcb⟩
theorem EncSt.start {w0 : World} {cb : Nat} (hcb : w0.heap[cb]? = some (.cells #[.slice none 0 0] 55 (0, 0))) (it : Nat) (w' : World) (hit : w0.heap.size ≤ it) (ho : Only (fun _ => False) w0 w') : EncSt w0 cb it [] w' :=
 ⟨.slice none 0 0, ho.heap hcb (fun h => h), World.ownsRow_nil _ _ _ _, by simp [Value.ownBlock], ho.mono (fun _ h _ => h.elim), hit, heap_lt hcb⟩
def EncTo (w : World) (s : ByteArray) (v : Value) (ys : List Int) (k : Int) (w' : World) : Prop :=
 Enc (nums s) ys k ∧ Row w' w.heap.size v ys ∧ Only (fun _ => False) w w'
def LenSt (w0 : World) (cb it : Nat) (us : List Int) (w : World) : Prop :=
 w.heap[cb]? = some (.cells #[.int .i64 (UN us).length] 3 (0, 0)) ∧ Only (fun k => k = cb) w0 w ∧ w0.heap.size ≤ it ∧ cb < w0.heap.size
theorem LenSt.keep {w0 : World} {cb : Nat} (it : Nat) (us : List Int) (w1 w2 : World) (h : LenSt w0 cb it us w1) (ho : Only (fun k => k = it) w1 w2) : LenSt w0 cb it us w2 := by
 obtain ⟨hb, hon, hit, hcb⟩ := h
 exact ⟨ho.heap hb (by omega), hon.trans ho (fun k hk hl => by omega), hit, hcb⟩
theorem LenSt.start {w0 : World} {cb : Nat} (hcb : w0.heap[cb]? = some (.cells #[.int .i64 0] 3 (0, 0))) (it : Nat) (w' : World) (hit : w0.heap.size ≤ it) (ho : Only (fun _ => False) w0 w') : LenSt w0 cb it [] w' :=
 ⟨ho.heap hcb (fun h => h), ho.mono (fun _ h _ => h.elim), hit, heap_lt hcb⟩
theorem sizeU_len {u : Int} (h0 : 0 ≤ u) (h1 : u ≤ 65535) : sizeU u = ((unitZ u).length : Int) := by
 unfold sizeU
 by_cases c1 : 1 ≤ u ∧ u ≤ 127
 ·rw [if_pos (by omega), unitZ_one c1.1 c1.2]; rfl
 by_cases c2 : u ≤ 2047
 ·rw [if_neg (by omega), if_neg (by omega), unitZ_two (by omega) c2]; rfl
 ·rw [if_neg (by omega), if_pos (by omega), unitZ_three (by omega)]; rfl
theorem lenTell (w0 : World) (cb it : Nat) (us : List Int) (u : Int) (w1 : World) (hlt : it < w1.heap.size) (h : LenSt w0 cb it us w1) (h0 : 0 ≤ u) (h1 : u ≤ 65535) (hlen : (UN us).length + (unitZ u).length ≤ 1152921504606846976) :
  Calls Tryz.prog 184 #[.int .i32 u, .int .i64 (sizeU u), .pointer (some ⟨cb, 0, none⟩)] w1 fun e w2 => e = .returned (.tuple #[]) ∧ LenSt w0 cb it (us ++ [u]) w2 ∧ w1.heap.size ≤ w2.heap.size ∧ w2.heap[it]? = w1.heap[it]? := by
 obtain ⟨hb, hon, hit, hcb⟩ := h
 have hc0 := cell_blk hb 0
 have hff := frozen_blk hb 0
 simp at hc0
 have hset : Only (fun k => k = cb) w1 (w1.setCell ⟨cb, 0, none⟩ (.int .i64 (((UN us).length : Int) + (unitZ u).length))) := Only.setCell (S := fun k => k = cb) (Only.refl _ _) (fun _ => rfl) _
 have hone : (1 : Int) ≤ ((unitZ u).length : Int) := by rw [← sizeU_len h0 h1]; unfold sizeU; repeat' split <;> omega
 rw [sizeU_len h0 h1]
 have hw : IntKind.i64.wrap (((UN us).length : Int) + (unitZ u).length) = ((UN us).length : Int) + (unitZ u).length := IntWalk.i64_in _ (by omega)
 go_enter Tryz.func184, Tryz.ntmps184
 go_wp2
 first | go_ret | go_end0
 refine ⟨rfl, ⟨by rw [heap_setCell_at hb, UN_append, UN_one, List.length_append]; simp, hon.trans hset (fun k hk _ => hk), hit, hcb⟩, hset.size, ?_⟩
 exact hset.block it hlt (by omega)
theorem lenOf (s : ByteArray) (w : World) (hs : s.size ≤ 140737488355328) (hT : Tabs w) (h1w : 1 < w.heap.size) :
  Calls Tryz.prog 176 #[.string s] w fun e w' => ∃ ys k, e = .returned (.int .i64 ys.length) ∧ Enc (nums s) ys k ∧ Only (fun _ => False) w w' := by
 have hmf : ∀ (fn : Fn) (first cap : Array Value) (w : World), (Instr.makeFunc fn first cap).run Tryz.prog w = .ok (.func fn first cap) w := fun _ _ _ _ => rfl
 have hen : Enters Tryz.prog 184 := enters_of Tryz.func184 (by kernel_rfl) rfl
 have ho0 : Only (fun _ => False) w (w.alloc (.cells #[.int .i64 0] 3)) := (Only.refl _ _).alloc _
 have hT0 := hT.only ho0 (fun h => h) (fun h => h)
 have hcb := heap_alloc_new w (.cells #[.int .i64 0] 3)
 have cE := eachUnit 184 w.heap.size hen (LenSt (w.alloc (.cells #[.int .i64 0] 3)) w.heap.size) 1152921504606846976 s (w.alloc (.cells #[.int .i64 0] 3)) (by omega) hT0
  (LenSt.start hcb) LenSt.keep (lenTell _ _) (fun cs hcs => by have := (M8s_len hcs.1).2; rw [← hcs.2, nums_len] at this; omega)
 go_enter Tryz.func176, Tryz.ntmps176
 go_wp2_with (fail)
 refine cE.mono ?_
 rintro e w1 (⟨cs, it, ht, rfl, hge, hb, hon, hit, hlt⟩ | ⟨hn, rfl, hon⟩)
 ·have hc := cell_blk hb 0
  simp at hc
  clear cE
  go_wp2
  go_ret
  rw [UN_Us]
  have hon2 : Only (fun _ => False) w w1 := ho0.trans hon (fun k hk hl => by subst hk; exact Nat.lt_irrefl _ hl)
  exact ⟨M8s cs, 0, rfl, .inl ⟨cs, ht, rfl, rfl⟩, hon2⟩
 ·clear cE
  go_wp2
  go_ret
  exact ⟨[], 20, rfl, .inr ⟨hn, rfl, rfl⟩, ho0.trans hon (fun _ h => h.elim)⟩
def PointTo (zs : List Int) (c : Int) (n : Nat) : Prop := (Sc c ∧ n = (enc8 c).length ∧ ∃ r, zs = enc8 c ++ r) ∨ ((∀ c r, Sc c → zs ≠ enc8 c ++ r) ∧ c = 0 ∧ n = 0)
theorem wraps_i64 (n : Int) (h₀ : 0 ≤ n) (h₁ : n < 2 ^ 63) : IntKind.i64.wrap n = n := by rw [IntKind.wrap_i64]; omega
theorem i64_or6 (x y : Int) (hx₀ : 0 ≤ x) (hx : x % 64 = 0) (hx₁ : x < 9223372036854775808) (h₀ : 0 ≤ y) (h₁ : y < 64) : bits .or .i64 x y = x + y :=
 bits_join .i64 63 (by decide) wraps_i64 6 x y hx₀ hx hx₁ h₀ h₁ (by omega)
theorem i64_and31 (x : Int) (h₀ : 0 ≤ x) (h₁ : x < 256) : bits .and .i64 x 31 = x % 32 := bits_mask .i64 63 (by decide) wraps_i64 5 (by decide) x h₀ (by omega)
theorem i64_and15 (x : Int) (h₀ : 0 ≤ x) (h₁ : x < 256) : bits .and .i64 x 15 = x % 16 := bits_mask .i64 63 (by decide) wraps_i64 4 (by decide) x h₀ (by omega)
theorem i64_and7 (x : Int) (h₀ : 0 ≤ x) (h₁ : x < 256) : bits .and .i64 x 7 = x % 8 := bits_mask .i64 63 (by decide) wraps_i64 3 (by decide) x h₀ (by omega)
theorem head_facts {zs r : List Int} {c : Int} (hc : Sc c) (h : zs = enc8 c ++ r) :
  (0 ≤ c ∧ c ≤ 127 ∧ zs.getD 0 0 = c ∧ 1 ≤ zs.length) ∨ (128 ≤ c ∧ c ≤ 2047 ∧ zs.getD 0 0 = 192 + c / 64 ∧ zs.getD 1 0 = 128 + c % 64 ∧ 2 ≤ zs.length) ∨
  (2048 ≤ c ∧ (c < 55296 ∨ 57344 ≤ c) ∧ c ≤ 65535 ∧ zs.getD 0 0 = 224 + c / 4096 ∧ zs.getD 1 0 = 128 + c / 64 % 64 ∧ zs.getD 2 0 = 128 + c % 64 ∧ 3 ≤ zs.length) ∨
  (65536 ≤ c ∧ c ≤ 1114111 ∧ zs.getD 0 0 = 240 + c / 262144 ∧ zs.getD 1 0 = 128 + c / 4096 % 64 ∧ zs.getD 2 0 = 128 + c / 64 % 64 ∧ zs.getD 3 0 = 128 + c % 64 ∧ 4 ≤ zs.length) := by
 subst h
 rcases u8_cases hc with ⟨a, b, e⟩ | ⟨a, b, e⟩ | ⟨a, b, b', e⟩ | ⟨a, b, e⟩ <;> rw [e]
 ·exact .inl ⟨a, b, rfl, by simp⟩
 ·exact .inr (.inl ⟨a, b, rfl, rfl, by simp⟩)
 ·exact .inr (.inr (.inl ⟨a, b, b', rfl, rfl, rfl, by simp⟩))
 ·exact .inr (.inr (.inr ⟨a, b, rfl, rfl, rfl, rfl, by simp⟩))
theorem ok1 {zs : List Int} (hl : 1 ≤ zs.length) (c : Int) (h0 : 0 ≤ c) (h1 : c ≤ 127) (e0 : zs.getD 0 0 = c) : PointTo zs c 1 := by
 have hs : Sc c := by unfold Sc; omega
 rcases u8_cases hs with ⟨a, b, e⟩ | ⟨a, b, e⟩ | ⟨a, b, b', e⟩ | ⟨a, b, e⟩ <;> try (exfalso; omega)
 refine .inl ⟨hs, by rw [e]; rfl, zs.drop 1, ?_⟩
 rw [e, ← e0]
 match zs, hl with
 | a :: t, _ => rfl
theorem ok2 {zs : List Int} (hl : 2 ≤ zs.length) (c : Int) (h0 : 128 ≤ c) (h1 : c ≤ 2047) (e0 : zs.getD 0 0 = 192 + c / 64) (e1 : zs.getD 1 0 = 128 + c % 64) : PointTo zs c 2 := by
 have hs : Sc c := by unfold Sc; omega
 rcases u8_cases hs with ⟨a, b, e⟩ | ⟨a, b, e⟩ | ⟨a, b, b', e⟩ | ⟨a, b, e⟩ <;> try (exfalso; omega)
 refine .inl ⟨hs, by rw [e]; rfl, zs.drop 2, ?_⟩
 rw [e, ← e0, ← e1]
 match zs, hl with
 | a :: b :: t, _ => rfl
theorem ok3 {zs : List Int} (hl : 3 ≤ zs.length) (c : Int) (h0 : 2048 ≤ c) (h1 : c < 55296 ∨ 57344 ≤ c) (h2 : c ≤ 65535) (e0 : zs.getD 0 0 = 224 + c / 4096) (e1 : zs.getD 1 0 = 128 + c / 64 % 64) (e2 : zs.getD 2 0 = 128 + c % 64) : PointTo zs c 3 := by
 have hs : Sc c := by unfold Sc; omega
 rcases u8_cases hs with ⟨a, b, e⟩ | ⟨a, b, e⟩ | ⟨a, b, b', e⟩ | ⟨a, b, e⟩ <;> try (exfalso; omega)
 refine .inl ⟨hs, by rw [e]; rfl, zs.drop 3, ?_⟩
 rw [e, ← e0, ← e1, ← e2]
 match zs, hl with
 | a :: b :: c :: t, _ => rfl
theorem ok4 {zs : List Int} (hl : 4 ≤ zs.length) (c : Int) (h0 : 65536 ≤ c) (h1 : c ≤ 1114111) (e0 : zs.getD 0 0 = 240 + c / 262144) (e1 : zs.getD 1 0 = 128 + c / 4096 % 64) (e2 : zs.getD 2 0 = 128 + c / 64 % 64) (e3 : zs.getD 3 0 = 128 + c % 64) : PointTo zs c 4 := by
 have hs : Sc c := by unfold Sc; omega
 rcases u8_cases hs with ⟨a, b, e⟩ | ⟨a, b, e⟩ | ⟨a, b, b', e⟩ | ⟨a, b, e⟩ <;> try (exfalso; omega)
 refine .inl ⟨hs, by rw [e]; rfl, zs.drop 4, ?_⟩
 rw [e, ← e0, ← e1, ← e2, ← e3]
 match zs, hl with
 | a :: b :: c :: d :: t, _ => rfl
theorem byteAt (s : ByteArray) (i : Nat) (h : i < s.size) : ∃ x : UInt8, s[i]'h = x ∧ (nums s).getD i 0 = (x.toNat : Int) ∧ x.toNat < 256 :=
 ⟨s.get! i, (Utf8W.get!_of_lt s i h).symm, nums_get s i, (s.get! i).toNat_lt⟩
set_option maxRecDepth 100000 in
theorem point (s : ByteArray) (w : World) (hs : s.size ≤ 9223372036854775807) (h0 : 0 < s.size) :
  Calls Tryz.prog 164 #[.string s] w fun e w' => (∃ (c : Int) (n : Nat), e = .returned (.tuple #[.int .i64 c, .int .i64 n]) ∧ PointTo (nums s) c n) ∧ Drawn w w' := by
 have h0z : (0 : Int) < (s.size : Int) := by omega
 obtain ⟨x0, hs0, hn0, hx0lt⟩ := byteAt s 0 h0
 by_cases c1 : x0.toNat < 128
 ·go_enter Tryz.func164, Tryz.ntmps164
  go_wp2
  all_goals go_ret2
  all_goals first | (exfalso; omega) | skip
  all_goals exact ⟨⟨_, 1, rfl, ok1 (by rw [nums_len]; omega) _ (by omega) (by omega) (by rw [hn0])⟩, 0, rfl⟩
 by_cases c2 : 194 ≤ x0.toNat ∧ x0.toNat ≤ 223
 ·obtain ⟨c2a, c2b⟩ := c2
  by_cases l2 : s.size < 2
  ·go_enter Tryz.func164, Tryz.ntmps164
   have m0 := i64_and31 (x0.toNat : Int) (by omega) (by omega)
   go_wp2
   all_goals first | go_ret2 | skip
   all_goals first | (exfalso; omega) | skip
   all_goals refine ⟨⟨_, 0, rfl, .inr ⟨fun c r hc he => ?_, rfl, rfl⟩⟩, 0, rfl⟩
   all_goals have hf := head_facts hc he
   all_goals rw [hn0, nums_len] at hf
   all_goals omega
  ·have l2n : 2 ≤ s.size := by omega
   obtain ⟨x1, hs1, hn1, hx1lt⟩ := byteAt s 1 (by omega)
   have l1z : ((1 : Nat) : Int) < (s.size : Int) := by omega
   have a1 := u8_and63 (x1.toNat : Int) (by omega) (by omega)
   have m0 := i64_and31 (x0.toNat : Int) (by omega) (by omega)
   have o1 := i64_or6 ((x0.toNat : Int) % 32 * 64) ((x1.toNat : Int) % 64) (by omega) (by omega) (by omega) (by omega) (by omega)
   go_enter Tryz.func164, Tryz.ntmps164
   go_wp2
   go_rounds 3
   all_goals first | go_ret2 | skip
   all_goals first | (exfalso; omega) | (refine ⟨⟨_, 0, rfl, .inr ⟨fun c r hc he => ?_, rfl, rfl⟩⟩, 0, rfl⟩; have hf := head_facts hc he; rw [hn0, hn1, nums_len] at hf; omega) | exact ⟨⟨_, 2, rfl, ok2 (by rw [nums_len]; omega) _ (by omega) (by omega) (by rw [hn0]; omega) (by rw [hn1]; omega)⟩, 0, rfl⟩
 by_cases c3 : 224 ≤ x0.toNat ∧ x0.toNat ≤ 239
 ·obtain ⟨c3a, c3b⟩ := c3
  by_cases l3 : s.size < 3
  ·go_enter Tryz.func164, Tryz.ntmps164
   have m0 := i64_and15 (x0.toNat : Int) (by omega) (by omega)
   go_wp2
   all_goals first | go_ret2 | skip
   all_goals first | (exfalso; omega) | skip
   all_goals refine ⟨⟨_, 0, rfl, .inr ⟨fun c r hc he => ?_, rfl, rfl⟩⟩, 0, rfl⟩
   all_goals have hf := head_facts hc he
   all_goals rw [hn0, nums_len] at hf
   all_goals omega
  ·have l3n : 3 ≤ s.size := by omega
   obtain ⟨x1, hs1, hn1, hx1lt⟩ := byteAt s 1 (by omega)
   have l1z : ((1 : Nat) : Int) < (s.size : Int) := by omega
   have a1 := u8_and63 (x1.toNat : Int) (by omega) (by omega)
   obtain ⟨x2, hs2, hn2, hx2lt⟩ := byteAt s 2 (by omega)
   have l2z : ((2 : Nat) : Int) < (s.size : Int) := by omega
   have a2 := u8_and63 (x2.toNat : Int) (by omega) (by omega)
   have m0 := i64_and15 (x0.toNat : Int) (by omega) (by omega)
   have o1 := i64_or6 ((x0.toNat : Int) % 16 * 64) ((x1.toNat : Int) % 64) (by omega) (by omega) (by omega) (by omega) (by omega)
   have o2 := i64_or6 (((x0.toNat : Int) % 16 * 64 + (x1.toNat : Int) % 64) * 64) ((x2.toNat : Int) % 64) (by omega) (by omega) (by omega) (by omega) (by omega)
   go_enter Tryz.func164, Tryz.ntmps164
   go_wp2
   go_rounds 4
   all_goals first | go_ret2 | skip
   all_goals first | (exfalso; omega) | (refine ⟨⟨_, 0, rfl, .inr ⟨fun c r hc he => ?_, rfl, rfl⟩⟩, 0, rfl⟩; have hf := head_facts hc he; rw [hn0, hn1, hn2, nums_len] at hf; omega) | exact ⟨⟨_, 3, rfl, ok3 (by rw [nums_len]; omega) _ (by omega) (by omega) (by omega) (by rw [hn0]; omega) (by rw [hn1]; omega) (by rw [hn2]; omega)⟩, 0, rfl⟩
 by_cases c4 : 240 ≤ x0.toNat ∧ x0.toNat ≤ 244
 ·obtain ⟨c4a, c4b⟩ := c4
  by_cases l4 : s.size < 4
  ·go_enter Tryz.func164, Tryz.ntmps164
   have m0 := i64_and7 (x0.toNat : Int) (by omega) (by omega)
   go_wp2
   all_goals first | go_ret2 | skip
   all_goals first | (exfalso; omega) | skip
   all_goals refine ⟨⟨_, 0, rfl, .inr ⟨fun c r hc he => ?_, rfl, rfl⟩⟩, 0, rfl⟩
   all_goals have hf := head_facts hc he
   all_goals rw [hn0, nums_len] at hf
   all_goals omega
  ·have l4n : 4 ≤ s.size := by omega
   obtain ⟨x1, hs1, hn1, hx1lt⟩ := byteAt s 1 (by omega)
   have l1z : ((1 : Nat) : Int) < (s.size : Int) := by omega
   have a1 := u8_and63 (x1.toNat : Int) (by omega) (by omega)
   obtain ⟨x2, hs2, hn2, hx2lt⟩ := byteAt s 2 (by omega)
   have l2z : ((2 : Nat) : Int) < (s.size : Int) := by omega
   have a2 := u8_and63 (x2.toNat : Int) (by omega) (by omega)
   obtain ⟨x3, hs3, hn3, hx3lt⟩ := byteAt s 3 (by omega)
   have l3z : ((3 : Nat) : Int) < (s.size : Int) := by omega
   have a3 := u8_and63 (x3.toNat : Int) (by omega) (by omega)
   have m0 := i64_and7 (x0.toNat : Int) (by omega) (by omega)
   have o1 := i64_or6 ((x0.toNat : Int) % 8 * 64) ((x1.toNat : Int) % 64) (by omega) (by omega) (by omega) (by omega) (by omega)
   have o2 := i64_or6 (((x0.toNat : Int) % 8 * 64 + (x1.toNat : Int) % 64) * 64) ((x2.toNat : Int) % 64) (by omega) (by omega) (by omega) (by omega) (by omega)
   have o3 := i64_or6 ((((x0.toNat : Int) % 8 * 64 + (x1.toNat : Int) % 64) * 64 + (x2.toNat : Int) % 64) * 64) ((x3.toNat : Int) % 64) (by omega) (by omega) (by omega) (by omega) (by omega)
   go_enter Tryz.func164, Tryz.ntmps164
   go_wp2
   go_rounds 5
   all_goals first | go_ret2 | skip
   all_goals first | (exfalso; omega) | (refine ⟨⟨_, 0, rfl, .inr ⟨fun c r hc he => ?_, rfl, rfl⟩⟩, 0, rfl⟩; have hf := head_facts hc he; rw [hn0, hn1, hn2, hn3, nums_len] at hf; omega) | exact ⟨⟨_, 4, rfl, ok4 (by rw [nums_len]; omega) _ (by omega) (by omega) (by rw [hn0]; omega) (by rw [hn1]; omega) (by rw [hn2]; omega) (by rw [hn3]; omega)⟩, 0, rfl⟩
 ·go_enter Tryz.func164, Tryz.ntmps164
  go_wp2
  all_goals first | go_ret2 | skip
  all_goals first | (exfalso; omega) | skip
  all_goals refine ⟨⟨_, 0, rfl, .inr ⟨fun c r hc he => ?_, rfl, rfl⟩⟩, 0, rfl⟩
  all_goals have hf := head_facts hc he
  all_goals rw [hn0] at hf
  all_goals omega
end Go.Proofs.YtinbelghhfodiaaGreatDoor
