import Derived.Test.YtgdgffnaknkbcaaGreatDoorMlKndCLnkB
import Derived.Deep.RegionHeld3
namespace Go.Proofs.YtgdgffnaknkbcaaGreatDoor
open Go.RowKit
set_option linter.unusedVariables false
set_option linter.unusedSimpArgs false
def SmallK (ks : List KindV) : Prop := ks.length ≤ 64 ∧ ∀ k ∈ ks, k.fields.length ≤ 64 ∧ k.meths.length ≤ 64
def subN (ks : List KindV) (b : Int) : Nat → Int → Bool
 | 0, _ => false
 | f + 1, a => if a < 0 then false else if (ks.length : Int) ≤ a then false else if a = b then true else subN ks b f (superZ ks a)
def subZ (ks : List KindV) (a b : Int) : Bool := if b < 0 then false else if (ks.length : Int) ≤ b then false else subN ks b (ks.length + 1) a
set_option maxHeartbeats 4000000 in
set_option maxRecDepth 100000 in
theorem refSub (pb : Nat) (ks : List KindV) (cs : List ClassV) (a b : Int) (w : World) (hd : DocP w pb ks cs) (hn : ks.length ≤ 4611686018427387904) :
  Calls Tryz.prog 22 #[.pointer (some ⟨pb, 0, none⟩), .int .i64 a, .int .i64 b] w fun e w' => e = .returned (.bool (subZ ks a b)) ∧ w = w' := by
 have HD := Lib.hid hd
 obtain ⟨vl, vi, q0, q1, hk, hc⟩ := hd
 obtain ⟨ao, cap, rfl, p1, p2⟩ := hk.len
 clear hk hc q1
 by_cases h1 : b < 0
 ·have HR := Lib.hid (show subZ ks a b = false from if_pos h1)
  go_enter Tryz.func22, Tryz.ntmps22
  go_wp2
  go_ret
  rw [HR.out]
  exact ⟨rfl, rfl⟩
 by_cases h2 : (ks.length : Int) ≤ b
 ·have HR := Lib.hid (show subZ ks a b = false by unfold subZ; rw [if_neg h1, if_pos h2])
  go_enter Tryz.func22, Tryz.ntmps22
  go_wp2
  go_ret
  rw [HR.out]
  exact ⟨rfl, rfl⟩
 ·have HR := Lib.hid (show subZ ks a b = subN ks b (ks.length + 1) a by unfold subZ; rw [if_neg h1, if_neg h2])
  go_enter Tryz.func22, Tryz.ntmps22
  go_wp2
  go_loop [1, 7] (fun av nv => ∃ (x : Int) (k : Nat), av = .int .i64 x ∧ nv = .int .i64 k ∧ k ≤ ks.length + 1 ∧ Hid (subZ ks a b = subN ks b (ks.length + 1 - k) x)) (fun _ nv => ks.length + 1 - (intOf nv).toNat)
  case atStart => exact ⟨a, 0, rfl, rfl, Nat.zero_le _, HR⟩
  case round =>
   obtain ⟨x, k, rfl, rfl, hk, HS⟩ := hrel
   by_cases hkl : k ≤ ks.length
   ·have hkz : (k : Int) ≤ (ks.length : Int) := by omega
    have HU : Hid (subN ks b (ks.length + 1 - k) x = if x < 0 then false else if (ks.length : Int) ≤ x then false else if x = b then true else subN ks b (ks.length + 1 - (k + 1)) (superZ ks x)) := Lib.hid (by rw [show ks.length + 1 - k = (ks.length + 1 - (k + 1)) + 1 by omega, subN])
    by_cases x0 : x < 0
    ·have HF := Lib.hid (show subZ ks a b = false by rw [HS.out, HU.out, if_pos x0])
     go_wp2
     go_ret
     rw [HF.out]
     exact ⟨rfl, rfl⟩
    by_cases x1 : (ks.length : Int) ≤ x
    ·have HF := Lib.hid (show subZ ks a b = false by rw [HS.out, HU.out, if_neg x0, if_pos x1])
     go_wp2
     go_ret
     rw [HF.out]
     exact ⟨rfl, rfl⟩
    by_cases xb : x = b
    ·subst xb
     have HF := Lib.hid (show subZ ks a x = true by rw [HS.out, HU.out, if_neg x0, if_neg x1, if_pos rfl])
     go_wp2
     go_ret
     rw [HF.out]
     exact ⟨rfl, rfl⟩
    ·have HF := Lib.hid (show subZ ks a b = subN ks b (ks.length + 1 - (k + 1)) (superZ ks x) by rw [HS.out, HU.out, if_neg x0, if_neg x1, if_neg xb])
     have hxb : (x == b) = false := by rw [beq_eq_false_iff_ne]; exact xb
     have C1 := Lib.hid (refSuperN pb ks cs x w HD.out hn)
     clear xb
     go_wp2_with (fail)
     refine C1.out.mono ?_
     rintro e w2 ⟨rfl, rfl⟩
     go_wp2
     go_round
     case rel => exact ⟨_, k + 1, rfl, by go_num, by omega, HF⟩
     case measure => simp [intOf]; omega
   ·obtain rfl : k = ks.length + 1 := by omega
    have HF := Lib.hid (show subZ ks a b = false by rw [HS.out, Nat.sub_self]; rfl)
    clear hkl hk
    go_wp2
    go_ret
    rw [HF.out]
    exact ⟨rfl, rfl⟩
structure MemV where
 cls : Int
 place : Int
 desc : ByteArray
 static : Bool
 slot : Int
def zeroM : MemV := ⟨0, 0, ⟨#[]⟩, false, 0⟩
def valM (m : MemV) : Value := .agg #[.int .i64 m.cls, .int .i64 m.place, .string m.desc, .bool m.static, .int .i64 m.slot]
def memO (o : Option MemV) : MemV := match o with | some m => m | none => zeroM
def errM (o : Option MemV) : Int := match o with | some _ => 0 | none => 91
theorem info5_mem : (Tryz.prog.info? 34).map (·.size) = some 5 := by kernel_rfl
theorem mem_result2 {fn : Func} {p q : Tmp} (hr : fn.results = #[.cell p 34, .tmp q]) {w : World} {b : Nat} {t : MemV} {x : Value} {tmps : Array Value} (h : w.heap[b]? = some (.cells #[.int .i64 t.cls, .int .i64 t.place, .string t.desc, .bool t.static, .int .i64 t.slot] 34 (0, 0))) (ht : tmps.getD p undef = .pointer (some ⟨b, 0, none⟩)) (hx : tmps.getD q undef = x) :
  (results fn tmps).run Tryz.prog w = .ok (.tuple #[valM t, x]) w := by
 rw [results_cell_tmp hr, ht, hx, show (asAddr (.pointer (some ⟨b, 0, none⟩))).run Tryz.prog w = .ok ⟨b, 0, none⟩ w from rfl]
 simp only [Result.andThen]
 rw [run_loadVar_row w b 34 34 _ (0, 0) _ h Tryz.underlying34 rfl info5_mem]
 rfl
theorem mem_alone {fn : Func} {p : Tmp} (hr : fn.results = #[.cell p 34]) {w : World} {b : Nat} {i : MemV} {tmps : Array Value} (h : w.heap[b]? = some (.cells #[.int .i64 i.cls, .int .i64 i.place, .string i.desc, .bool i.static, .int .i64 i.slot] 34 (0, 0))) (ht : tmps.getD p undef = .pointer (some ⟨b, 0, none⟩)) :
  (results fn tmps).run Tryz.prog w = .ok (valM i) w :=
 results_cell_row hr tmps w b 34 _ (0, 0) _ ht h Tryz.underlying34 rfl info5_mem
def MemTo (w : World) (o : Option MemV) (e : Ending) (w' : World) : Prop := e = .returned (.tuple #[valM (memO o), .int .i64 (errM o)]) ∧ Only (fun _ => False) w w'
theorem MemTo.no {w w' : World} {o : Option MemV} (h : o = none) (ho : Only (fun _ => False) w w') : MemTo w o (.returned (.tuple #[valM zeroM, .int .i64 91])) w' := by subst h; exact ⟨rfl, ho⟩
theorem MemTo.yes {w w' : World} {o : Option MemV} {m : MemV} (h : o = some m) (ho : Only (fun _ => False) w w') : MemTo w o (.returned (.tuple #[valM m, .int .i64 0])) w' := by subst h; exact ⟨rfl, ho⟩
def ownAt (ks : List KindV) (j : Nat) (n d : ByteArray) : Option MemV := if hasZ (ks.getD j default).meths n d < 0 then none else some ⟨j, hasZ (ks.getD j default).meths n d, d, ((ks.getD j default).meths.getD (hasZ (ks.getD j default).meths n d).toNat default).flags == 8, 0⟩
def ownZ (ks : List KindV) (c n d : ByteArray) : Option MemV := if findZ ks c < 0 then none else ownAt ks (findZ ks c).toNat n d
set_option maxHeartbeats 4000000 in
set_option maxRecDepth 100000 in
theorem refOwn (pb : Nat) (ks : List KindV) (cs : List ClassV) (c n d : ByteArray) (w : World) (hd : DocP w pb ks cs) (hs : SmallK ks) :
  Calls Tryz.prog 18 #[.pointer (some ⟨pb, 0, none⟩), .string c, .string n, .string d] w (MemTo w (ownZ ks c n d)) := by
 have ho0 := (Only.refl (fun _ => False) w).alloc (.cells #[.int .i64 0, .int .i64 0, .string ⟨#[]⟩, .bool false, .int .i64 0] 34)
 have hr0 := heap_alloc_new w (.cells #[.int .i64 0, .int .i64 0, .string ⟨#[]⟩, .bool false, .int .i64 0] 34)
 have HD := Lib.hid (hd.only ho0)
 have HO := Lib.hid ho0
 obtain ⟨vl, vi, q0, q1, hk, hc⟩ := hd.only ho0
 obtain ⟨ao, cap, rfl, p1, p2⟩ := hk.len
 have HK := Lib.hid hk
 have C1 := Lib.hid (refFind pb ks cs c _ HD.out (by have := hs.1; omega))
 have HS := Lib.hid hs
 clear hk hc q1 hd hs
 rcases findZ_cases ks c with hf | ⟨j, hj, hf⟩
 ·have HB := Lib.hid (show ownZ ks c n d = none by unfold ownZ; rw [hf]; rfl)
  rw [hf] at C1
  clear hf
  go_enter Tryz.func18, Tryz.ntmps18
  go_wp2_with (fail)
  refine C1.out.mono ?_
  rintro e w2 ⟨rfl, rfl⟩
  go_wp2
  exact bodyPost_ret (mem_result2 (t := zeroM) (b := w.heap.size) Tryz.results18 (heap_alloc_new w _) rfl rfl) rfl (MemTo.no HB.out HO.out)
 ·have hoz : ownZ ks c n d = ownAt ks j n d := by unfold ownZ; rw [hf, if_neg (by omega)]; rfl
  rw [hf] at C1
  obtain ⟨b, o, vf, vm, rfl, y, -, hm⟩ := HK.out.at hj
  obtain ⟨y0, y1, y2, y3, y4⟩ := y
  have hjz : (j : Int) < (ks.length : Int) := by omega
  have hj0 : (0 : Int) ≤ (j : Int) := by omega
  have hj1 : ¬ (j : Int) < 0 := by omega
  have hmb := (HS.out.2 _ (getD_mem hj)).2
  have c2 := refHas vm _ n d _ hm (by omega)
  unfold ownAt at hoz
  generalize ks.getD j default = p at *
  obtain ⟨am, cm, rfl, m1, m2, m3, -⟩ := id hm
  have HM := Lib.hid hm
  rcases hasZ_cases p.meths n d with hh | ⟨i, hi, hh⟩
  ·have HB := Lib.hid (show ownZ ks c n d = none by rw [hoz, hh]; rfl)
   rw [hh] at c2
   have C2 := Lib.hid c2
   clear hoz hh c2 hf hm m3 hmb
   go_enter Tryz.func18, Tryz.ntmps18
   go_wp2_with (fail)
   refine C1.out.mono ?_
   rintro e w2 ⟨rfl, rfl⟩
   go_wp2_with (fail)
   refine C2.out.mono ?_
   rintro e w2 ⟨rfl, rfl⟩
   go_wp2
   exact bodyPost_ret (mem_result2 (t := zeroM) (b := w.heap.size) Tryz.results18 (heap_alloc_new w _) rfl rfl) rfl (MemTo.no HB.out HO.out)
  ·obtain ⟨bm, om, rfl, z⟩ := Sl.at HM.out hi
   obtain ⟨z0, z1, z2⟩ := z
   have HB := Lib.hid (show ownZ ks c n d = some ⟨j, i, d, (p.meths.getD i default).flags == 8, 0⟩ by rw [hoz, hh, if_neg (by omega)]; rfl)
   rw [hh] at c2
   have C2 := Lib.hid c2
   have hiz : (i : Int) < (p.meths.length : Int) := by omega
   have hi0 : (0 : Int) ≤ (i : Int) := by omega
   have hi1 : ¬ (i : Int) < 0 := by omega
   generalize p.meths.getD i default = x at *
   clear hoz hh c2 hf hm m3 hmb
   go_enter Tryz.func18, Tryz.ntmps18
   go_wp2_with (fail)
   refine C1.out.mono ?_
   rintro e w2 ⟨rfl, rfl⟩
   go_wp2_with (fail)
   refine C2.out.mono ?_
   rintro e w2 ⟨rfl, rfl⟩
   go_wp2
   exact bodyPost_ret (mem_result2 (t := ⟨j, i, d, x.flags == 8, 0⟩) (b := w.heap.size) Tryz.results18 (heap_alloc_new w _) rfl rfl) rfl (MemTo.yes HB.out ((Only.refl _ w).alloc _))
def Ends (ks : List KindV) : Nat → Int → Prop
 | 0, x => x < 0
 | f + 1, x => x < 0 ∨ Ends ks f (superZ ks x)
def chain (ks : List KindV) : Nat → Int → List Nat
 | 0, _ => []
 | f + 1, x => if x < 0 then [] else x.toNat :: chain ks f (superZ ks x)
theorem chain_succ (ks : List KindV) (f : Nat) (x : Int) : chain ks (f + 1) x = if x < 0 then [] else x.toNat :: chain ks f (superZ ks x) := rfl
theorem Ends.more {ks : List KindV} : ∀ {f : Nat} {x : Int}, Ends ks f x → Ends ks (f + 1) x
 | 0, x, h => .inl h
 | f + 1, x, h => by
  rcases h with h | h
  ·exact .inl h
  ·exact .inr h.more
theorem chain_more {ks : List KindV} : ∀ {f : Nat} {x : Int}, Ends ks f x → chain ks (f + 1) x = chain ks f x
 | 0, x, h => by
  rw [chain_succ, if_pos (show x < 0 from h)]
  rfl
 | f + 1, x, h => by
  rw [chain_succ ks (f + 1) x, chain_succ ks f x]
  by_cases h0 : x < 0
  ·rw [if_pos h0, if_pos h0]
  ·rcases h with h | h
   ·exact absurd h h0
   ·rw [if_neg h0, if_neg h0, chain_more h]
def upZ (ks : List KindV) (x : Int) : List Nat := chain ks (ks.length + 1) x
def EndsAll (ks : List KindV) : Prop := ∀ x : Int, x < ks.length → Ends ks (ks.length + 1) x
theorem upZ_end {ks : List KindV} {x : Int} (h : x < 0) : upZ ks x = [] := by
 unfold upZ
 rw [chain_succ, if_pos h]
theorem superZ_lt (ks : List KindV) (x : Int) : superZ ks x < ks.length := by
 rcases superZ_cases ks x with h | ⟨j, hj, h⟩
 ·rw [h]; omega
 ·rw [h]; omega
theorem upZ_step {ks : List KindV} (he : EndsAll ks) {x : Nat} (h : x < ks.length) : upZ ks (x : Int) = x :: upZ ks (superZ ks x) := by
 have h1 := he x (by omega)
 have h2 : Ends ks ks.length (superZ ks x) := by
  rcases h1 with h1 | h1
  ·omega
  ·exact h1
 unfold upZ
 rw [chain_succ, if_neg (by omega), chain_more h2]
 rfl
def sumN : List Nat → Nat
 | [] => 0
 | a :: r => a + sumN r
def slotsN (ks : List KindV) (x : Int) : Nat := sumN ((upZ ks x).map (fun j => countL 0 (ks.getD j default).fields))
def staticsN (ks : List KindV) (n : Nat) : Nat := sumN ((ks.take n).map (fun k => countL 8 k.fields))
theorem slotsN_end {ks : List KindV} {x : Int} (h : x < 0) : slotsN ks x = 0 := by unfold slotsN; rw [upZ_end h]; rfl
theorem slotsN_step {ks : List KindV} (he : EndsAll ks) {x : Nat} (h : x < ks.length) : slotsN ks (x : Int) = countL 0 (ks.getD x default).fields + slotsN ks (superZ ks x) := by
 unfold slotsN
 rw [upZ_step he h]
 rfl
theorem sumN_append : ∀ a b : List Nat, sumN (a ++ b) = sumN a + sumN b
 | [], b => by rw [List.nil_append]; show _ = 0 + _; omega
 | x :: a, b => by show x + sumN (a ++ b) = (x + sumN a) + sumN b; rw [sumN_append a b]; omega
theorem staticsN_step {ks : List KindV} {n : Nat} (h : n < ks.length) : staticsN ks (n + 1) = staticsN ks n + countL 8 (ks.getD n default).fields := by
 unfold staticsN
 rw [List.take_succ_eq_append_getElem h, List.map_append, sumN_append]
 rw [show ks.getD n default = ks[n] by simp [List.getD, h]]
 rfl
theorem staticsN_le {ks : List KindV} (hs : SmallK ks) : ∀ {n : Nat}, n ≤ ks.length → staticsN ks n ≤ 64 * n
 | 0, _ => Nat.zero_le _
 | n + 1, h => by
  have h1 := staticsN_le hs (n := n) (by omega)
  have h2 := countL_le 8 (ks.getD n default).fields
  have h3 := (hs.2 _ (getD_mem (show n < ks.length by omega))).1
  rw [staticsN_step (by omega)]
  omega
theorem chain_len {ks : List KindV} : ∀ (f : Nat) (x : Int), (chain ks f x).length ≤ f
 | 0, x => Nat.le_refl _
 | f + 1, x => by
  rw [chain_succ]
  split
  ·exact Nat.zero_le _
  ·rw [List.length_cons]
   have := chain_len (ks := ks) f (superZ ks x)
   omega
theorem upZ_len {ks : List KindV} (hs : SmallK ks) (x : Int) : (upZ ks x).length ≤ 65 := by
 have h1 := chain_len (ks := ks) (ks.length + 1) x
 have := hs.1
 unfold upZ
 omega
theorem slotsN_le {ks : List KindV} (hs : SmallK ks) (he : EndsAll ks) : ∀ (n : Nat) {x : Int}, x < ks.length → (upZ ks x).length = n → slotsN ks x ≤ 64 * n
 | n, x, hx, hn => by
  by_cases h0 : x < 0
  ·rw [slotsN_end h0]; exact Nat.zero_le _
  ·obtain ⟨j, rfl⟩ := Int.eq_ofNat_of_zero_le (show 0 ≤ x by omega)
   have hj : j < ks.length := by omega
   rw [upZ_step he hj, List.length_cons] at hn
   cases n with
   | zero => omega
   | succ n =>
    have h1 := slotsN_le hs he n (superZ_lt ks j) (by omega)
    have h2 := countL_le 0 (ks.getD j default).fields
    have h3 := (hs.2 _ (getD_mem hj)).1
    rw [slotsN_step he hj]
    omega
theorem slotsN_small {ks : List KindV} (hs : SmallK ks) (he : EndsAll ks) {x : Int} (hx : x < ks.length) : slotsN ks x ≤ 4160 := by
 have h1 := slotsN_le hs he _ hx rfl
 have h2 := upZ_len hs x
 omega
theorem keepD {w W w1 : World} {pb : Nat} {ks : List KindV} {cs : List ClassV} {a0 a1 : Addr} {v0 v1 vf : Value} {ms : List MethN} (ho : Only (fun _ => False) W w1)
  (h : (W.cell? a0 = some v0 ∧ W.cell? a1 = some v1) ∧ DocP W pb ks cs ∧ MethNs W vf ms ∧ Only (fun _ => False) w W) : (w1.cell? a0 = some v0 ∧ w1.cell? a1 = some v1) ∧ DocP w1 pb ks cs ∧ MethNs w1 vf ms ∧ Only (fun _ => False) w w1 :=
 ⟨⟨ho.cell h.1.1 (fun h => h), ho.cell h.1.2 (fun h => h)⟩, h.2.1.only ho, h.2.2.1.only ho, h.2.2.2.trans ho (fun _ h _ => h)⟩
theorem docD {w W : World} {pb : Nat} {ks : List KindV} {cs : List ClassV} {a0 a1 : Addr} {v0 v1 vf : Value} {ms : List MethN}
  (h : (W.cell? a0 = some v0 ∧ W.cell? a1 = some v1) ∧ DocP W pb ks cs ∧ MethNs W vf ms ∧ Only (fun _ => False) w W) : DocP W pb ks cs := h.2.1
theorem mthD {w W : World} {pb : Nat} {ks : List KindV} {cs : List ClassV} {a0 a1 : Addr} {v0 v1 vf : Value} {ms : List MethN}
  (h : (W.cell? a0 = some v0 ∧ W.cell? a1 = some v1) ∧ DocP W pb ks cs ∧ MethNs W vf ms ∧ Only (fun _ => False) w W) : MethNs W vf ms := h.2.2.1
theorem onlyD {w W : World} {pb : Nat} {ks : List KindV} {cs : List ClassV} {a0 a1 : Addr} {v0 v1 vf : Value} {ms : List MethN}
  (h : (W.cell? a0 = some v0 ∧ W.cell? a1 = some v1) ∧ DocP W pb ks cs ∧ MethNs W vf ms ∧ Only (fun _ => False) w W) : Only (fun _ => False) w W := h.2.2.2
set_option maxHeartbeats 8000000 in
set_option maxRecDepth 100000 in
theorem refStaticsN (pb : Nat) (ks : List KindV) (cs : List ClassV) (n : Nat) (w : World) (hd : DocP w pb ks cs) (hs : SmallK ks) (hn : n ≤ ks.length) :
  Calls Tryz.prog 58 #[.pointer (some ⟨pb, 0, none⟩), .int .i64 n, .bool true] w fun e w' => e = .returned (.int .i64 (staticsN ks n : Int)) ∧ Only (fun _ => False) w w' := by
 have HD := Lib.hid hd
 have HS := Lib.hid hs
 have hkl := hs.1
 have hn0 : ¬ (n : Int) < 0 := by omega
 clear hd hs
 go_enter Tryz.func58, Tryz.ntmps58
 go_wp2
 go_loopw [7, 8] (fun sv iv wr => ∃ j s : Nat, sv = .int .i64 s ∧ iv = .int .i64 j ∧ j ≤ n ∧ s ≤ 64 * j ∧ Hid (staticsN ks j = s) ∧ Hid (Only (fun _ => False) w wr)) (fun _ iv _ => n - (intOf iv).toNat)
 case atStart => exact ⟨0, 0, rfl, rfl, Nat.zero_le _, Nat.le_refl _, Lib.hid rfl, Lib.hid (Only.refl _ _)⟩
 case round =>
  obtain ⟨j, s, rfl, rfl, hj, hsj, HSN, HON⟩ := hrel
  by_cases hlt : j < n
  ·have hjz : (j : Int) < (n : Int) := by omega
   have hjk : j < ks.length := by omega
   have hjkz : (j : Int) < (ks.length : Int) := by omega
   have hj0 : (0 : Int) ≤ (j : Int) := by omega
   obtain ⟨vl, vi, q0, q1, hk, hc⟩ := HD.out.only HON.out
   obtain ⟨ao, cap, rfl, p1, p2⟩ := hk.len
   obtain ⟨b, o, vf, vm, rfl, y, hf, -⟩ := hk.at hjk
   have q2 := y.c2
   have hst := staticsN_step hjk
   have hfl := (HS.out.2 _ (getD_mem hjk)).1
   have hcl := countL_le 8 (ks.getD j default).fields
   have hD2 := HD.out.only HON.out
   have hO2 := HON.out
   generalize ks.getD j default = p at *
   obtain ⟨af, cf, rfl, f1, f2, f3, -⟩ := id hf
   have CC : Hid (∀ W, MethNs W (.slice af p.fields.length cf) p.fields → _) := Lib.hid (fun W h => refCount _ p.fields p.fields.length 8 W h (by omega) (Nat.le_refl _))
   have HST : Hid (staticsN ks (j + 1) = s + countL 8 p.fields) := Lib.hid (by rw [hst, HSN.out])
   rw [List.take_length] at CC
   obtain ⟨c, hcq⟩ : ∃ c, countL 8 p.fields = c := ⟨_, rfl⟩
   rw [hcq] at CC hcl HST
   have hsc : IntKind.i64.wrap ((s : Int) + (c : Int)) = (s : Int) + (c : Int) := by rw [IntKind.wrap_i64]; omega
   clear hk hc q1 y f3 hst hcq
   go_wp2
   go_region_held3 (fun W => (W.cell? ⟨pb, 0, none⟩ = some (.slice (some ⟨b, o, none⟩) ks.length cap) ∧ W.cell? ⟨b, o + j * 5 + 2, none⟩ = some (.slice af p.fields.length cf)) ∧ DocP W pb ks cs ∧ MethNs W (.slice af p.fields.length cf) p.fields ∧ Only (fun _ => False) w W)
    (first | exact ⟨⟨q0, q2⟩, hD2, hf, hO2⟩ | exact ⟨⟨q0, q2⟩, hD2.only (Only.refl _ _).drew, hf.only (Only.refl _ _).drew, hO2.drew⟩ | exact hkp)
    (first | (go_at_call 59; refine (CC.out _ (mthD (by assumption))).mono ?_; rintro e w2 ⟨rfl, hww⟩; subst hww; have hkp := keepD (Only.refl (fun _ => False) _) (by assumption)))
   all_goals
    have HO3 := Lib.hid (onlyD (by assumption))
    go_wp2
    go_roundw
    case rel => exact ⟨j + 1, s + c, by go_num, by go_num, by omega, by omega, HST, HO3⟩
    case measure => simp [intOf]; omega
  ·obtain rfl : j = n := by omega
   clear hlt hj
   go_wp2
   go_ret
   rw [HSN.out]
   exact ⟨rfl, HON.out⟩
set_option maxHeartbeats 8000000 in
set_option maxRecDepth 100000 in
theorem refSlotsN (pb : Nat) (ks : List KindV) (cs : List ClassV) (hs : SmallK ks) (he : EndsAll ks) : ∀ (m : Nat) (x : Int), x < ks.length → (upZ ks x).length = m → ∀ w : World, DocP w pb ks cs →
  Calls Tryz.prog 58 #[.pointer (some ⟨pb, 0, none⟩), .int .i64 x, .bool false] w fun e w' => e = .returned (.int .i64 (slotsN ks x : Int)) ∧ Only (fun _ => False) w w' := by
 intro m
 induction m with
 | zero =>
  intro x hx hm w hd
  have h0 : x < 0 := Classical.byContradiction (fun h => by
   obtain ⟨j, rfl⟩ := Int.eq_ofNat_of_zero_le (show 0 ≤ x by omega)
   rw [upZ_step he (by omega)] at hm
   cases hm)
  rw [slotsN_end h0]
  clear hd
  go_enter Tryz.func58, Tryz.ntmps58
  go_wp2
  go_ret
  exact ⟨rfl, Only.refl _ _⟩
 | succ m ih =>
  intro x hx hm w hd
  have h0 : ¬ x < 0 := fun h => by
   rw [upZ_end h] at hm
   cases hm
  obtain ⟨j, rfl⟩ := Int.eq_ofNat_of_zero_le (show 0 ≤ x by omega)
  have hjk : j < ks.length := by omega
  have hup := upZ_step he hjk
  rw [hup, List.length_cons] at hm
  have hst := slotsN_step he hjk
  have hsm := slotsN_small hs he (superZ_lt ks j)
  have IH := Lib.hid (fun W (h : DocP W pb ks cs) => ih (superZ ks j) (superZ_lt ks j) (by omega) W h)
  have CS := Lib.hid (fun W (h : DocP W pb ks cs) => refSuperN pb ks cs j W h (by have := hs.1; omega))
  have hjkz : (j : Int) < (ks.length : Int) := by omega
  have hj0 : (0 : Int) ≤ (j : Int) := by omega
  have hj1 : ¬ (j : Int) < 0 := by omega
  have hD := hd
  obtain ⟨vl, vi, q0, q1, hk, hc⟩ := hd
  obtain ⟨ao, cap, rfl, p1, p2⟩ := hk.len
  obtain ⟨b, o, vf, vm, rfl, y, hf, -⟩ := hk.at hjk
  have q2 := y.c2
  have hfl := (hs.2 _ (getD_mem hjk)).1
  have hcl := countL_le 0 (ks.getD j default).fields
  generalize superZ ks j = sz at *
  generalize ks.getD j default = p at *
  obtain ⟨af, cf, rfl, f1, f2, f3, -⟩ := id hf
  have CC : Hid (∀ W, MethNs W (.slice af p.fields.length cf) p.fields → _) := Lib.hid (fun W h => refCount _ p.fields p.fields.length 0 W h (by omega) (Nat.le_refl _))
  rw [List.take_length] at CC
  obtain ⟨c, hcq⟩ : ∃ c, countL 0 p.fields = c := ⟨_, rfl⟩
  obtain ⟨s, hsq⟩ : ∃ s, slotsN ks sz = s := ⟨_, rfl⟩
  rw [hcq] at CC hcl hst
  rw [hsq] at IH hsm hst
  have hsc : IntKind.i64.wrap ((s : Int) + (c : Int)) = (s : Int) + (c : Int) := by rw [IntKind.wrap_i64]; omega
  have HST : Hid ((slotsN ks (j : Int) : Int) = (s : Int) + (c : Int)) := Lib.hid (by rw [hst]; omega)
  have hO := Only.refl (fun _ => False) w
  clear hk hc q1 y f3 hcq hsq hst ih hup hm h0
  go_enter Tryz.func58, Tryz.ntmps58
  go_wp2
  go_region_held3 (fun W => (W.cell? ⟨pb, 0, none⟩ = some (.slice (some ⟨b, o, none⟩) ks.length cap) ∧ W.cell? ⟨b, o + j * 5 + 2, none⟩ = some (.slice af p.fields.length cf)) ∧ DocP W pb ks cs ∧ MethNs W (.slice af p.fields.length cf) p.fields ∧ Only (fun _ => False) w W)
   (first | exact ⟨⟨q0, q2⟩, hD, hf, hO⟩ | exact ⟨⟨q0, q2⟩, hD.only (Only.refl _ _).drew, hf.only (Only.refl _ _).drew, hO.drew⟩ | exact hkp)
   (first
    | (go_at_call 59; refine (CC.out _ (mthD (by assumption))).mono ?_; rintro e w2 ⟨rfl, hww⟩; subst hww; have hkp := keepD (Only.refl (fun _ => False) _) (by assumption))
    | (go_at_call 51; refine (CS.out _ (docD (by assumption))).mono ?_; rintro e w2 ⟨rfl, hww⟩; subst hww; have hkp := keepD (Only.refl (fun _ => False) _) (by assumption))
    | (go_at_call 58; refine (IH.out _ (docD (by assumption))).mono ?_; rintro e w2 ⟨rfl, hww⟩; have hkp := keepD hww (by assumption)))
  all_goals
   have HO3 := Lib.hid (onlyD (by assumption))
   go_wp2
   go_ret
   rw [HST.out]
   exact ⟨rfl, HO3.out⟩
def initB : ByteArray := ⟨#[60, 105, 110, 105, 116, 62]⟩
theorem lit_init : (⟨#[60, 105, 110, 105, 116, 62]⟩ : ByteArray).toList = [60, 105, 110, 105, 116, 62] := by rw [ByteArray.toList_eq]
def firstO : List Nat → (Nat → Option MemV) → Option MemV
 | [], _ => none
 | j :: r, f => match f j with | some m => some m | none => firstO r f
def lookZ (ks : List KindV) (c n d : ByteArray) : Option MemV := if n = initB then none else firstO (upZ ks (findZ ks c)) (fun j => ownAt ks j n d)
def NamesOnce (ks : List KindV) : Prop := ∀ j, j < ks.length → findZ ks (ks.getD j default).name = (j : Int)
theorem ownZ_at {ks : List KindV} (hn : NamesOnce ks) {j : Nat} (h : j < ks.length) (n d : ByteArray) : ownZ ks (ks.getD j default).name n d = ownAt ks j n d := by
 unfold ownZ
 rw [hn j h, if_neg (by omega)]
 rfl
def intZ : Value → Int
 | .int _ x => x
 | _ => 0
set_option maxHeartbeats 8000000 in
set_option maxRecDepth 100000 in
theorem refLook (pb : Nat) (ks : List KindV) (cs : List ClassV) (c n d : ByteArray) (w : World) (hd : DocP w pb ks cs) (hs : SmallK ks) (he : EndsAll ks) (ho : NamesOnce ks) :
  Calls Tryz.prog 16 #[.pointer (some ⟨pb, 0, none⟩), .string c, .string n, .string d] w (MemTo w (lookZ ks c n d)) := by
 have ho0 := (Only.refl (fun _ => False) w).alloc (.cells #[.int .i64 0, .int .i64 0, .string ⟨#[]⟩, .bool false, .int .i64 0] 34)
 have hr0 := heap_alloc_new w (.cells #[.int .i64 0, .int .i64 0, .string ⟨#[]⟩, .bool false, .int .i64 0] 34)
 have HD := Lib.hid (hd.only ho0)
 have HR := Lib.hid hr0
 have HO := Lib.hid ho0
 have C1 := Lib.hid (refFind pb ks cs c _ HD.out (by have := hs.1; omega))
 have HS := Lib.hid hs
 have HE := Lib.hid he
 have HN := Lib.hid ho
 have hli := lit_init
 have hfl : findZ ks c < ks.length := by
  rcases findZ_cases ks c with h | ⟨j, hj, h⟩
  ·rw [h]; omega
  ·rw [h]; omega
 have HFL := Lib.hid hfl
 have hkl := hs.1
 clear hd hs he ho ho0 hr0 hfl
 go_enter Tryz.func16, Tryz.ntmps16
 go_wp2_with (fail)
 refine C1.out.mono ?_
 rintro e w2 ⟨rfl, rfl⟩
 by_cases hni : n = initB
 ·have HB := Lib.hid (show lookZ ks c n d = none from if_pos hni)
  have hni' := hni
  unfold initB at hni'
  subst hni'
  clear hni
  obtain ⟨q0, q1, q2, q3, q4⟩ := cells5T HR.out
  obtain ⟨f0, f1, f2, f3, f4⟩ := marks5T HR.out
  go_wp2
  go_loop [10] (fun xv => ∃ x : Int, xv = .int .i64 x) (fun xv => 0)
  case atStart => exact ⟨_, rfl⟩
  case round =>
   obtain ⟨x, rfl⟩ := hrel
   by_cases hx : 0 ≤ x
   ·go_wp2
    exact bodyPost_ret (mem_result2 (t := zeroM) (b := w.heap.size) Tryz.results16 (heap_alloc_new w _) rfl rfl) rfl (MemTo.no HB.out HO.out)
   ·go_wp2
    exact bodyPost_ret (mem_result2 (t := zeroM) (b := w.heap.size) Tryz.results16 (heap_alloc_new w _) rfl rfl) rfl (MemTo.no HB.out HO.out)
 ·have HB0 := Lib.hid (show lookZ ks c n d = firstO (upZ ks (findZ ks c)) (fun j => ownAt ks j n d) from if_neg hni)
  obtain ⟨n1, n2⟩ := toList_beq hni
  unfold initB at n1 n2
  rw [lit_init] at n1 n2
  have n3 : (n.toList != [60, 105, 110, 105, 116, 62]) = true := by rw [bne, n1]; rfl
  clear hni
  go_wp2
  go_loopw [10] (fun xv wr => ∃ x : Int, xv = .int .i64 x ∧ x < ks.length ∧ Hid (lookZ ks c n d = firstO (upZ ks x) (fun j => ownAt ks j n d)) ∧ Hid (DocP wr pb ks cs) ∧ Hid (wr.heap[w.heap.size]? = some (.cells #[.int .i64 0, .int .i64 0, .string ⟨#[]⟩, .bool false, .int .i64 0] 34 (0, 0))) ∧ Hid (Only (fun _ => False) w wr)) (fun xv _ => (upZ ks (intOf xv)).length)
  case atStart => exact ⟨_, rfl, HFL.out, HB0, HD, HR, HO⟩
  case round =>
   obtain ⟨x, rfl, hxl, HL, HDW, HRW, HOW⟩ := hrel
   by_cases hx : 0 ≤ x
   ·obtain ⟨j, rfl⟩ := Int.eq_ofNat_of_zero_le hx
    have hjk : j < ks.length := by omega
    have hjkz : (j : Int) < (ks.length : Int) := by omega
    have HUP := Lib.hid (upZ_step HE.out hjk)
    obtain ⟨vl, vi, q0, q1, hk, hc⟩ := HDW.out
    obtain ⟨ao, cap, rfl, p1, p2⟩ := hk.len
    obtain ⟨b, o, vf, vm, rfl, y, -, -⟩ := hk.at hjk
    have q2 := y.c0
    have c2 := refOwn pb ks cs (ks.getD j default).name n d wr HDW.out HS.out
    rw [ownZ_at HN.out hjk] at c2
    have C3 := Lib.hid (fun W (h : DocP W pb ks cs) => refSuperN pb ks cs j W h (by omega))
    generalize (ks.getD j default).name = nm at *
    clear hk hc q1 y
    unfold MemTo at c2
    cases hoa : ownAt ks j n d with
    | none =>
     have HL2 := Lib.hid (show lookZ ks c n d = firstO (upZ ks (superZ ks j)) (fun j => ownAt ks j n d) by rw [HL.out, HUP.out]; show (match ownAt ks j n d with | some m => some m | none => _) = _; rw [hoa])
     rw [hoa] at c2
     unfold memO errM zeroM valM at c2
     simp only at c2
     have C2 := Lib.hid c2
     clear c2 hoa
     go_wp2_with (fail)
     refine C2.out.mono ?_
     rintro e w3 ⟨rfl, ho3⟩
     have hal := ho3.alloc (.cells #[.int .i64 0, .int .i64 0, .string ⟨#[]⟩, .bool false, .int .i64 0] 34)
     have HD4 := Lib.hid (HDW.out.only hal)
     have HR4 := Lib.hid (hal.heap HRW.out (fun h => h))
     have HO4 := Lib.hid (HOW.out.trans hal (fun _ h _ => h))
     clear ho3 hal C2
     go_wp2_with (fail)
     refine (C3.out _ HD4.out).mono ?_
     rintro e w4 ⟨rfl, hww⟩
     subst hww
     go_wp2
     go_roundw
     case rel => exact ⟨_, rfl, superZ_lt ks j, HL2, HD4, HR4, HO4⟩
     case measure => show (upZ ks (superZ ks j)).length < (upZ ks (j : Int)).length; rw [HUP.out, List.length_cons]; omega
    | some m =>
     have HB := Lib.hid (show lookZ ks c n d = some m by rw [HL.out, HUP.out]; show (match ownAt ks j n d with | some m => some m | none => _) = _; rw [hoa])
     rw [hoa] at c2
     unfold memO errM valM at c2
     simp only at c2
     have C2 := Lib.hid c2
     clear c2 hoa
     go_wp2_with (fail)
     refine C2.out.mono ?_
     rintro e w3 ⟨rfl, ho3⟩
     have hal := ho3.alloc (.cells #[.int .i64 m.cls, .int .i64 m.place, .string m.desc, .bool m.static, .int .i64 m.slot] 34)
     have hr4 := hal.heap HRW.out (fun h => h)
     have HR4 := Lib.hid hr4
     have HO4 := Lib.hid (HOW.out.trans hal (fun _ h _ => h))
     obtain ⟨f0, f1, f2, f3, f4⟩ := marks5T hr4
     obtain ⟨r0, r1, r2, r3, r4⟩ := cells5T hr4
     clear ho3 hal C2 hr4
     go_wp2
     exact bodyPost_ret (mem_result2 (t := m) (b := w.heap.size) Tryz.results16 (store5T HR4.out) rfl rfl) rfl (MemTo.yes HB.out (only5T HO4.out (fun hl => absurd hl (Nat.lt_irrefl _))))
   ·have HB := Lib.hid (show lookZ ks c n d = none by rw [HL.out, upZ_end (by omega)]; rfl)
    have hr4 := HRW.out
    obtain ⟨f0, f1, f2, f3, f4⟩ := marks5T hr4
    obtain ⟨r0, r1, r2, r3, r4⟩ := cells5T hr4
    clear hr4
    go_wp2
    exact bodyPost_ret (mem_result2 (t := zeroM) (b := w.heap.size) Tryz.results16 (store5T HRW.out) rfl rfl) rfl (MemTo.no HB.out (only5T HOW.out (fun hl => absurd hl (Nat.lt_irrefl _))))
end Go.Proofs.YtgdgffnaknkbcaaGreatDoor
