import Derived.Test.YtemplkpcckmcoaaGreatDoorMkKndCLnkB
import Derived.Deep.RegionHeld3
namespace Go.Proofs.YtemplkpcckmcoaaGreatDoor
set_option maxHeartbeats 4000000
open Lib (hid)
open Go.RowKit
set_option linter.unusedVariables false
set_option linter.unusedSimpArgs false
def SmallK (ks : List KindV) : Prop := ks.length ≤ 64 ∧ ∀ k ∈ ks, k.fields.length ≤ 64 ∧ k.meths.length ≤ 64
def subN (ks : List KindV) (b : Int) : Nat → Int → Bool
 | 0, _ => false
 | f + 1, a => if a < 0 then false else if (ks.length : Int) ≤ a then false else if a = b then true else subN ks b f (superZ ks a)
def subZ (ks : List KindV) (a b : Int) : Bool := if b < 0 then false else if (ks.length : Int) ≤ b then false else subN ks b (ks.length + 1) a
structure MemV where
 cls : Int
 place : Int
 desc : ByteArray
 static : Bool
 slot : Int
def zeroM : MemV := ⟨0, 0, ⟨#[]⟩, false, 0⟩
def valM (m : MemV) : Value := .agg #[.int .i64 m.cls, .int .i64 m.place, .string m.desc, .bool m.static, .int .i64 m.slot]
def memO (o : Option MemV) : MemV := match o with | some m => m | none => zeroM
def errM (o : Option MemV) : Int := match o with | some _ => 0 | none => 91
theorem info5_mem : (Tryz.prog.info? 65).map (·.size) = some 5 := by kernel_rfl
theorem mem_result2 {fn : Func} {p q : Tmp} (hr : fn.results = #[.cell p 65, .tmp q]) {w : World} {b : Nat} {t : MemV} {x : Value} {tmps : Array Value} (h : w.heap[b]? = some (.cells #[.int .i64 t.cls, .int .i64 t.place, .string t.desc, .bool t.static, .int .i64 t.slot] 65 (0, 0))) (ht : tmps.getD p undef = .pointer (some ⟨b, 0, none⟩)) (hx : tmps.getD q undef = x) :
  (results fn tmps).run Tryz.prog w = .ok (.tuple #[valM t, x]) w := by
 rw [results_cell_tmp hr, ht, hx, show (asAddr (.pointer (some ⟨b, 0, none⟩))).run Tryz.prog w = .ok ⟨b, 0, none⟩ w from rfl]
 simp only [Result.andThen]
 rw [run_loadVar_row w b 65 65 _ (0, 0) _ h Tryz.underlying65 rfl info5_mem]
 rfl
theorem mem_alone {fn : Func} {p : Tmp} (hr : fn.results = #[.cell p 65]) {w : World} {b : Nat} {i : MemV} {tmps : Array Value} (h : w.heap[b]? = some (.cells #[.int .i64 i.cls, .int .i64 i.place, .string i.desc, .bool i.static, .int .i64 i.slot] 65 (0, 0))) (ht : tmps.getD p undef = .pointer (some ⟨b, 0, none⟩)) :
  (results fn tmps).run Tryz.prog w = .ok (valM i) w :=
 results_cell_row hr tmps w b 65 _ (0, 0) _ ht h Tryz.underlying65 rfl info5_mem
def MemTo (w : World) (o : Option MemV) (e : Ending) (w' : World) : Prop := e = .returned (.tuple #[valM (memO o), .int .i64 (errM o)]) ∧ Only (fun _ => False) w w'
theorem MemTo.no {w w' : World} {o : Option MemV} (h : o = none) (ho : Only (fun _ => False) w w') : MemTo w o (.returned (.tuple #[valM zeroM, .int .i64 91])) w' := by subst h; exact ⟨rfl, ho⟩
theorem MemTo.yes {w w' : World} {o : Option MemV} {m : MemV} (h : o = some m) (ho : Only (fun _ => False) w w') : MemTo w o (.returned (.tuple #[valM m, .int .i64 0])) w' := by subst h; exact ⟨rfl, ho⟩
def ownAt (ks : List KindV) (j : Nat) (n d : ByteArray) : Option MemV := if hasZ (ks.getD j default).meths n d < 0 then none else some ⟨j, hasZ (ks.getD j default).meths n d, d, ((ks.getD j default).meths.getD (hasZ (ks.getD j default).meths n d).toNat default).flags == 8, 0⟩
def ownZ (ks : List KindV) (c n d : ByteArray) : Option MemV := if findZ ks c < 0 then none else ownAt ks (findZ ks c).toNat n d
set_option maxRecDepth 100000 in
theorem refOwn (pb : Nat) (ks : List KindV) (cs : List ClassV) (c n d : ByteArray) (w : World) (hd : DocP w pb ks cs) (hs : SmallK ks) :
  Calls Tryz.prog 62 #[.pointer (some ⟨pb, 0, none⟩), .string c, .string n, .string d] w (MemTo w (ownZ ks c n d)) := by
 have ho0 := (Only.refl (fun _ => False) w).alloc (.cells #[.int .i64 0, .int .i64 0, .string ⟨#[]⟩, .bool false, .int .i64 0] 65)
 have hr0 := heap_alloc_new w (.cells #[.int .i64 0, .int .i64 0, .string ⟨#[]⟩, .bool false, .int .i64 0] 65)
 have HD := hid (hd.only ho0)
 have HO := hid ho0
 obtain ⟨vl, vi, q0, q1, hk, hc⟩ := hd.only ho0
 obtain ⟨ao, cap, rfl, p1, p2⟩ := hk.len
 have HK := hid hk
 have C1 := hid (refFind pb ks cs c _ HD.out (by have := hs.1; omega))
 have HS := hid hs
 clear hk hc q1 hd hs
 rcases findZ_cases ks c with hf | ⟨j, hj, hf⟩
 ·have HB := hid (show ownZ ks c n d = none by unfold ownZ; rw [hf]; rfl)
  rw [hf] at C1
  clear hf
  go_enter Tryz.func62, Tryz.ntmps62
  go_wp2_with (fail)
  refine C1.out.mono ?_
  rintro e w2 ⟨rfl, rfl⟩
  go_wp2
  exact bodyPost_ret (mem_result2 (t := zeroM) (b := w.heap.size) Tryz.results62 (heap_alloc_new w _) rfl rfl) rfl (MemTo.no HB.out HO.out)
 ·have hoz : ownZ ks c n d = ownAt ks j n d := by unfold ownZ; rw [hf, if_neg (by omega)]; rfl
  rw [hf] at C1
  obtain ⟨b, o, vf, vm, rfl, y, -, hm⟩ := HK.out.at hj
  obtain ⟨y0, y1, y2, y3, y4⟩ := y
  have hjz : (j : Int) < (ks.length : Int) := by omega
  have hj0 : (0 : Int) ≤ (j : Int) := by omega
  have hj1 : ¬ (j : Int) < 0 := by omega
  have hmb := (HS.out.2 _ (getD_mem hj)).2
  have c2 := refHas vm _ n d _ hm (by omega)
  unfold ownAt at hoz
  generalize ks.getD j default = p at *
  obtain ⟨am, cm, rfl, m1, m2, m3, -⟩ := id hm
  have HM := hid hm
  rcases hasZ_cases p.meths n d with hh | ⟨i, hi, hh⟩
  ·have HB := hid (show ownZ ks c n d = none by rw [hoz, hh]; rfl)
   rw [hh] at c2
   have C2 := hid c2
   clear hoz hh c2 hf hm m3 hmb
   go_enter Tryz.func62, Tryz.ntmps62
   go_wp2_with (fail)
   refine C1.out.mono ?_
   rintro e w2 ⟨rfl, rfl⟩
   go_wp2_with (fail)
   refine C2.out.mono ?_
   rintro e w2 ⟨rfl, rfl⟩
   go_wp2
   exact bodyPost_ret (mem_result2 (t := zeroM) (b := w.heap.size) Tryz.results62 (heap_alloc_new w _) rfl rfl) rfl (MemTo.no HB.out HO.out)
  ·obtain ⟨bm, om, rfl, z⟩ := Sl.at HM.out hi
   obtain ⟨z0, z1, z2⟩ := z
   have HB := hid (show ownZ ks c n d = some ⟨j, i, d, (p.meths.getD i default).flags == 8, 0⟩ by rw [hoz, hh, if_neg (by omega)]; rfl)
   rw [hh] at c2
   have C2 := hid c2
   have hiz : (i : Int) < (p.meths.length : Int) := by omega
   have hi0 : (0 : Int) ≤ (i : Int) := by omega
   have hi1 : ¬ (i : Int) < 0 := by omega
   generalize p.meths.getD i default = x at *
   clear hoz hh c2 hf hm m3 hmb
   go_enter Tryz.func62, Tryz.ntmps62
   go_wp2_with (fail)
   refine C1.out.mono ?_
   rintro e w2 ⟨rfl, rfl⟩
   go_wp2_with (fail)
   refine C2.out.mono ?_
   rintro e w2 ⟨rfl, rfl⟩
   go_wp2
   exact bodyPost_ret (mem_result2 (t := ⟨j, i, d, x.flags == 8, 0⟩) (b := w.heap.size) Tryz.results62 (heap_alloc_new w _) rfl rfl) rfl (MemTo.yes HB.out ((Only.refl _ w).alloc _))
def Ends (ks : List KindV) : Nat → Int → Prop
 | 0, x => x < 0
 | f + 1, x => x < 0 ∨ Ends ks f (superZ ks x)
def chain (ks : List KindV) : Nat → Int → List Nat
 | 0, _ => []
 | f + 1, x => if x < 0 then [] else x.toNat :: chain ks f (superZ ks x)
theorem chain_succ (ks : List KindV) (f : Nat) (x : Int) : chain ks (f + 1) x = if x < 0 then [] else x.toNat :: chain ks f (superZ ks x) := rfl
theorem Ends.more {ks : List KindV} : ∀ {f : Nat} {x : Int}, Ends ks f x → Ends ks (f + 1) x
 | 0, x, h => .inl h
 | f + 1, x, h => by
  rcases h with h | h
  ·exact .inl h
  ·exact .inr h.more
theorem chain_more {ks : List KindV} : ∀ {f : Nat} {x : Int}, Ends ks f x → chain ks (f + 1) x = chain ks f x
 | 0, x, h => by
  rw [chain_succ, if_pos (show x < 0 from h)]
  rfl
 | f + 1, x, h => by
  rw [chain_succ ks (f + 1) x, chain_succ ks f x]
  by_cases h0 : x < 0
  ·rw [if_pos h0, if_pos h0]
  ·rcases h with h | h
   ·exact absurd h h0
   ·rw [if_neg h0, if_neg h0, chain_more h]
def upZ (ks : List KindV) (x : Int) : List Nat := chain ks (ks.length + 1) x
def EndsAll (ks : List KindV) : Prop := ∀ x : Int, x < ks.length → Ends ks (ks.length + 1) x
theorem upZ_end {ks : List KindV} {x : Int} (h : x < 0) : upZ ks x = [] := by
 unfold upZ
 rw [chain_succ, if_pos h]
theorem superZ_lt (ks : List KindV) (x : Int) : superZ ks x < ks.length := by
 rcases superZ_cases ks x with h | ⟨j, hj, h⟩
 ·rw [h]; omega
 ·rw [h]; omega
theorem upZ_step {ks : List KindV} (he : EndsAll ks) {x : Nat} (h : x < ks.length) : upZ ks (x : Int) = x :: upZ ks (superZ ks x) := by
 have h1 := he x (by omega)
 have h2 : Ends ks ks.length (superZ ks x) := by
  rcases h1 with h1 | h1
  ·omega
  ·exact h1
 unfold upZ
 rw [chain_succ, if_neg (by omega), chain_more h2]
 rfl
def sumN : List Nat → Nat
 | [] => 0
 | a :: r => a + sumN r
def slotsN (ks : List KindV) (x : Int) : Nat := sumN ((upZ ks x).map (fun j => countL 0 (ks.getD j default).fields))
def staticsN (ks : List KindV) (n : Nat) : Nat := sumN ((ks.take n).map (fun k => countL 8 k.fields))
theorem slotsN_end {ks : List KindV} {x : Int} (h : x < 0) : slotsN ks x = 0 := by unfold slotsN; rw [upZ_end h]; rfl
theorem slotsN_step {ks : List KindV} (he : EndsAll ks) {x : Nat} (h : x < ks.length) : slotsN ks (x : Int) = countL 0 (ks.getD x default).fields + slotsN ks (superZ ks x) := by
 unfold slotsN
 rw [upZ_step he h]
 rfl
theorem sumN_append : ∀ a b : List Nat, sumN (a ++ b) = sumN a + sumN b
 | [], b => by rw [List.nil_append]; show _ = 0 + _; omega
 | x :: a, b => by show x + sumN (a ++ b) = (x + sumN a) + sumN b; rw [sumN_append a b]; omega
theorem staticsN_step {ks : List KindV} {n : Nat} (h : n < ks.length) : staticsN ks (n + 1) = staticsN ks n + countL 8 (ks.getD n default).fields := by
 unfold staticsN
 rw [List.take_succ_eq_append_getElem h, List.map_append, sumN_append]
 rw [show ks.getD n default = ks[n] by simp [List.getD, h]]
 rfl
theorem staticsN_le {ks : List KindV} (hs : SmallK ks) : ∀ {n : Nat}, n ≤ ks.length → staticsN ks n ≤ 64 * n
 | 0, _ => Nat.zero_le _
 | n + 1, h => by
  have h1 := staticsN_le hs (n := n) (by omega)
  have h2 := countL_le 8 (ks.getD n default).fields
  have h3 := (hs.2 _ (getD_mem (show n < ks.length by omega))).1
  rw [staticsN_step (by omega)]
  omega
theorem chain_len {ks : List KindV} : ∀ (f : Nat) (x : Int), (chain ks f x).length ≤ f
 | 0, x => Nat.le_refl _
 | f + 1, x => by
  rw [chain_succ]
  split
  ·exact Nat.zero_le _
  ·rw [List.length_cons]
   have := chain_len (ks := ks) f (superZ ks x)
   omega
theorem upZ_len {ks : List KindV} (hs : SmallK ks) (x : Int) : (upZ ks x).length ≤ 65 := by
 have h1 := chain_len (ks := ks) (ks.length + 1) x
 have := hs.1
 unfold upZ
 omega
theorem slotsN_le {ks : List KindV} (hs : SmallK ks) (he : EndsAll ks) : ∀ (n : Nat) {x : Int}, x < ks.length → (upZ ks x).length = n → slotsN ks x ≤ 64 * n
 | n, x, hx, hn => by
  by_cases h0 : x < 0
  ·rw [slotsN_end h0]; exact Nat.zero_le _
  ·obtain ⟨j, rfl⟩ := Int.eq_ofNat_of_zero_le (show 0 ≤ x by omega)
   have hj : j < ks.length := by omega
   rw [upZ_step he hj, List.length_cons] at hn
   cases n with
   | zero => omega
   | succ n =>
    have h1 := slotsN_le hs he n (superZ_lt ks j) (by omega)
    have h2 := countL_le 0 (ks.getD j default).fields
    have h3 := (hs.2 _ (getD_mem hj)).1
    rw [slotsN_step he hj]
    omega
theorem slotsN_small {ks : List KindV} (hs : SmallK ks) (he : EndsAll ks) {x : Int} (hx : x < ks.length) : slotsN ks x ≤ 4160 := by
 have h1 := slotsN_le hs he _ hx rfl
 have h2 := upZ_len hs x
 omega
def initB : ByteArray := ⟨#[60, 105, 110, 105, 116, 62]⟩
theorem lit_init : (⟨#[60, 105, 110, 105, 116, 62]⟩ : ByteArray).toList = [60, 105, 110, 105, 116, 62] := by rw [ByteArray.toList_eq]
def firstO : List Nat → (Nat → Option MemV) → Option MemV
 | [], _ => none
 | j :: r, f => match f j with | some m => some m | none => firstO r f
def lookZ (ks : List KindV) (c n d : ByteArray) : Option MemV := if n = initB then none else firstO (upZ ks (findZ ks c)) (fun j => ownAt ks j n d)
def NamesOnce (ks : List KindV) : Prop := ∀ j, j < ks.length → findZ ks (ks.getD j default).name = (j : Int)
theorem ownZ_at {ks : List KindV} (hn : NamesOnce ks) {j : Nat} (h : j < ks.length) (n d : ByteArray) : ownZ ks (ks.getD j default).name n d = ownAt ks j n d := by
 unfold ownZ
 rw [hn j h, if_neg (by omega)]
 rfl
def intZ : Value → Int
 | .int _ x => x
 | _ => 0
def slotAt (ks : List KindV) (j i : Nat) : Nat :=
 if ((ks.getD j default).fields.getD i default).flags = 8 then staticsN ks j + countL 8 ((ks.getD j default).fields.take i) else slotsN ks (superZ ks j) + countL 0 ((ks.getD j default).fields.take i)
def fieldAt (ks : List KindV) (j : Nat) (n d : ByteArray) : Option MemV :=
 if hasZ (ks.getD j default).fields n d < 0 then none
 else some ⟨j, hasZ (ks.getD j default).fields n d, d, ((ks.getD j default).fields.getD (hasZ (ks.getD j default).fields n d).toNat default).flags == 8, (slotAt ks j (hasZ (ks.getD j default).fields n d).toNat : Int)⟩
def docField (ks : List KindV) (c n d : ByteArray) : Option MemV := firstO (upZ ks (findZ ks c)) (fun j => fieldAt ks j n d)
theorem only2 {w W : World} {a0 a1 : Addr} {v0 v1 : Value} (h : (W.cell? a0 = some v0 ∧ W.cell? a1 = some v1) ∧ Only (fun _ => False) w W) : Only (fun _ => False) w W := h.2
end Go.Proofs.YtemplkpcckmcoaaGreatDoor
