import Derived.Test.YtinbelghhfodiaaGreatDoorMaKndTLnkD
import Derived.Deep.Onto
namespace Go.Proofs.YtinbelghhfodiaaGreatDoor
set_option maxHeartbeats 16000000
open Lib (hid)
open Go.RowKit
set_option linter.unusedVariables false
set_option linter.unusedSimpArgs false
def initB : ByteArray := ⟨#[60, 105, 110, 105, 116, 62]⟩
theorem lit_init : (⟨#[60, 105, 110, 105, 116, 62]⟩ : ByteArray).toList = [60, 105, 110, 105, 116, 62] := by rw [ByteArray.toList_eq]
def firstO : List Nat → (Nat → Option MemV) → Option MemV
 | [], _ => none
 | j :: r, f => match f j with | some m => some m | none => firstO r f
def lookZ (ks : List KindV) (c n d : ByteArray) : Option MemV := if n = initB then none else firstO (upZ ks (findZ ks c)) (fun j => ownAt ks j n d)
def NamesOnce (ks : List KindV) : Prop := ∀ j, j < ks.length → findZ ks (ks.getD j default).name = (j : Int)
theorem ownZ_at {ks : List KindV} (hn : NamesOnce ks) {j : Nat} (h : j < ks.length) (n d : ByteArray) : ownZ ks (ks.getD j default).name n d = ownAt ks j n d := by
 unfold ownZ
 rw [hn j h, if_neg (by omega)]
 rfl
def intZ : Value → Int
 | .int _ x => x
 | _ => 0
def slotAt (ks : List KindV) (j i : Nat) : Nat :=
 if ((ks.getD j default).fields.getD i default).flags = 8 then staticsN ks j + countL 8 ((ks.getD j default).fields.take i) else slotsN ks (superZ ks j) + countL 0 ((ks.getD j default).fields.take i)
def fieldAt (ks : List KindV) (j : Nat) (n d : ByteArray) : Option MemV :=
 if hasZ (ks.getD j default).fields n d < 0 then none
 else some ⟨j, hasZ (ks.getD j default).fields n d, d, ((ks.getD j default).fields.getD (hasZ (ks.getD j default).fields n d).toNat default).flags == 8, (slotAt ks j (hasZ (ks.getD j default).fields n d).toNat : Int)⟩
def docField (ks : List KindV) (c n d : ByteArray) : Option MemV := firstO (upZ ks (findZ ks c)) (fun j => fieldAt ks j n d)
def strSize : Value → Nat
 | .string t => t.size
 | _ => 0
theorem type_resultM {fn : Func} {p q q2 : Tmp} (hr : fn.results = #[.tmp q, .cell p 33, .tmp q2]) {w : World} {b : Nat} {t : TypeV} {x y : Value} {tmps : Array Value} (h : w.heap[b]? = some (.cells #[.int .i64 t.k, .string t.name, .int .i64 t.dims, .int .i64 t.elem, .int .i64 t.at_] 33 (0, 0))) (ht : tmps.getD p undef = .pointer (some ⟨b, 0, none⟩)) (hx : tmps.getD q undef = x) (hy : tmps.getD q2 undef = y) :
  (results fn tmps).run Tryz.prog w = .ok (.tuple #[x, valT t, y]) w := by
 have hp' : tmps[p]?.getD undef = .pointer (some ⟨b, 0, none⟩) := by simpa using ht
 have hx' : tmps[q]?.getD undef = x := by simpa using hx
 have hy' : tmps[q2]?.getD undef = y := by simpa using hy
 have hL := run_loadVar_row w b 33 33 _ (0, 0) _ h Tryz.underlying33 rfl info5_type
 simp only [results, hr]
 simp [Sem.run_bind, Result.andThen, hp', hx', hy', asAddr, hL, valT]
def MethTo (w : World) (zs : List Int) (e : Ending) (w' : World) : Prop := ∃ v x, e = .returned (.tuple #[v, valT x.2.1, .int .i64 x.2.2]) ∧ Meth zs x ∧ Only (fun _ => False) w w' ∧ Types w' v x.1
theorem MethTo.bad {w w' : World} {zs : List Int} (h : Meth zs ([], zeroT, 80)) (ho : Only (fun _ => False) w w') : MethTo w zs (.returned (.tuple #[.slice none 0 0, valT zeroT, .int .i64 80])) w' := ⟨_, _, rfl, h, ho, Types.nil _⟩
def MethRo (w : World) (zs : List Int) (e : Ending) (w' : World) : Prop := ∃ v x, e = .returned (.tuple #[v, valT x.2.1, .int .i64 x.2.2]) ∧ Meth zs x ∧ Only (fun _ => False) w w' ∧ TRow w' w.heap.size v x.1
theorem MethRo.to {w w' : World} {zs : List Int} {e : Ending} (h : MethRo w zs e w') : MethTo w zs e w' := by
 obtain ⟨v, x, h1, h2, h3, h4⟩ := h
 exact ⟨v, x, h1, h2, h3, h4.types⟩
theorem MethRo.bad {w w' : World} {zs : List Int} (h : Meth zs ([], zeroT, 80)) (ho : Only (fun _ => False) w w') : MethRo w zs (.returned (.tuple #[.slice none 0 0, valT zeroT, .int .i64 80])) w' := ⟨_, _, rfl, h, ho, TRow.nil _ _⟩
theorem nums_head {t : ByteArray} (h : 0 < t.size) : nums t = ((t[0].toNat : Nat) : Int) :: (nums t).drop 1 := by
 have hlt : 0 < (nums t).length := by rw [nums_len]; exact h
 have e := List.drop_eq_getElem_cons hlt
 rw [List.drop_zero] at e
 rw [← nums_at h]
 simpa [List.getD, hlt] using e
theorem toList_ne_of {s t : ByteArray} (h : nums s ≠ nums t) : (s.toList == t.toList) = false ∧ ¬ s.toList = t.toList := by
 have h2 : ¬ s.toList = t.toList := fun e => h (by rw [toList_inj' e])
 exact ⟨by rw [beq_eq_false_iff_ne]; exact h2, h2⟩
theorem heap_drewT {w : World} {b : Nat} {o : Option Obj} (h : w.heap[b]? = o) : w.drew.heap[b]? = o := h
theorem lit_lV : (⟨#[41, 86]⟩ : ByteArray).toList = [41, 86] := by rw [ByteArray.toList_eq]
theorem nums_lV : nums ⟨#[41, 86]⟩ = [41, 86] := rfl
set_option maxRecDepth 100000 in
theorem refKMethodR (s : ByteArray) (w : World) (hs : s.size ≤ 281474976710656) :
  Calls Tryz.prog 49 #[.string s] w (MethRo w (nums s)) := by
 obtain ⟨i0, hi, hz0, hz1, hz2⟩ := info_parts info_type
 have hr0 := heap_alloc_new w (.cells #[.int .i64 0, .string ⟨#[]⟩, .int .i64 0, .int .i64 0, .int .i64 0] 33)
 have ho0 := (Only.refl (fun _ => False) w).alloc (.cells #[.int .i64 0, .string ⟨#[]⟩, .int .i64 0, .int .i64 0, .int .i64 0] 33)
 have HR0 := hid hr0
 have HO0 := hid ho0
 clear hr0 ho0
 by_cases h0 : 0 < s.size
 ·have hh := nums_head h0
  have hlz : (0 : Int) < (s.size : Int) := by omega
  obtain ⟨e1, e2⟩ := toList_ne (strOf_ne hh)
  by_cases hc : ((s[0].toNat : Nat) : Int) = 40
  ·have hcb : (((s[0].toNat : Nat) : Int) != 40) = false := by rw [bne, hc]; rfl
   obtain ⟨zs, hzs⟩ : ∃ zs, zs = (nums s).drop 1 := ⟨_, rfl⟩
   have HH : Hid (nums s = 40 :: zs) := hid (by rw [hzs, ← hc]; exact hh)
   have HZS : Hid (nums (s.extract 1 s.size) = zs) := hid (by rw [nums_rest, hzs])
   have HSS : Hid ((s.extract 1 s.size).size ≤ s.size) := hid (by simp)
   clear hh hc hzs
   go_enter Tryz.func49, Tryz.ntmps49
   go_wp2
   generalize s.extract 1 s.size = s1 at *
   go_loopw [0, 5] (fun sv lv wr => ∃ (t : ByteArray) (l : List TypeV), sv = .string t ∧ t.size ≤ s.size ∧ Par zs l (nums t) ∧ TRow wr (w.heap.size + 1) lv l ∧ Only (fun _ => False) w wr ∧ wr.heap[w.heap.size]? = some (.cells #[.int .i64 0, .string ⟨#[]⟩, .int .i64 0, .int .i64 0, .int .i64 0] 33 (0, 0))) (fun sv _ _ => strSize sv)
   case atStart => exact ⟨s1, [], rfl, HSS.out, by rw [HZS.out]; exact Par.nil zs, TRow.nil _ _, HO0.out, HR0.out⟩
   case round =>
    obtain ⟨t, l, rfl, hts, hpar, hrow, hon, hr⟩ := hrel
    have HPAR := hid hpar
    have HROW := hid hrow
    have HON := hid hon
    have HR := hid hr
    have hln := (parN_rest hpar).1
    obtain ⟨f0, f1, f2, f3, f4⟩ := marks5T hr
    obtain ⟨r0, r1, r2, r3, r4⟩ := cells5T hr
    obtain ⟨al, cl, rfl, l1, l2, l3, -⟩ := id hrow.types
    have HTY := hid hrow.types
    clear hpar hrow hon hr l3
    by_cases ht0 : 0 < t.size
    ·have hth := nums_head ht0
     have htz : (0 : Int) < (t.size : Int) := by omega
     obtain ⟨t1, t2⟩ := toList_ne (strOf_ne hth)
     by_cases hc : ((t[0].toNat : Nat) : Int) = 41
     ·have hcc : (((t[0].toNat : Nat) : Int) != 41) = false := by rw [bne, hc]; rfl
      rw [hc] at hth
      by_cases hv : nums t = [41, 86]
      ·obtain rfl : t = ⟨#[41, 86]⟩ := nums_inj (hv.trans nums_lV.symm)
       have HM := hid (show Meth (nums s) (l, voidT, 0) from .inr ⟨zs, l, [41, 86], HH.out, HPAR.out, (fun c q e hne => by injection e with e _; exact absurd e.symm hne), rfl⟩)
       have hlv := lit_lV
       clear hth hc hv
       go_wp2
       exact bodyPost_ret (type_resultM (t := voidT) (b := w.heap.size) Tryz.results49 (store5T HR.out) rfl rfl rfl) rfl ⟨_, _, rfl, HM.out, only5T HON.out (fun hl => absurd hl (Nat.lt_irrefl _)), World.ownsRow.mono (HROW.out.only (only5T (Only.refl (fun j => j = w.heap.size) _) (fun _ => rfl)) (fun k hk e => by have := (HROW.out.ge k hk).1; omega)) (by omega)⟩
      ·have HV := hid hv
       obtain ⟨v1, v2⟩ := toList_ne_of (s := t) (t := ⟨#[41, 86]⟩) (by rw [nums_lV]; exact hv)
       rw [lit_lV] at v1 v2
       obtain ⟨q, hq⟩ : ∃ q, q = (nums t).drop 1 := ⟨_, rfl⟩
       rw [← hq] at hth
       have HEND : Hid (endM l (nums t) = match oneZ8 q with | some u => (l, u, 0) | none => ([], zeroT, 80)) := by
        refine hid ?_
        rw [hth]
        have hq86 : ¬ q = [86] := fun e => hv (by rw [hth, e])
        unfold endM
        simp only [if_true, hq86, if_false]
        all_goals rfl
       have HM := hid (show Meth (nums s) (endM l (nums t)) from .inr ⟨zs, l, nums t, HH.out, HPAR.out, (fun c q' e hne => by rw [hth] at e; injection e with e _; exact absurd e.symm hne), rfl⟩)
       have cf := fun w' => refField (t.extract 1 t.size) w' (by simp; omega)
       rw [nums_rest, ← hq] at cf
       clear hth hc hv
       cases ho : oneZ8 q with
       | none =>
        have HMB : Hid (Meth (nums s) ([], zeroT, 80)) := hid (by have := HM.out; rw [HEND.out, ho] at this; exact this)
        rw [ho] at cf
        unfold typO errO zeroT valT at cf
        have CF := hid cf
        clear cf ho hq
        go_wp2_with (fail)
        refine (CF.out _).mono ?_
        rintro e w3 ⟨rfl, ho3⟩
        have hal := (Only.refl (fun _ => False) w3).alloc (.cells #[.int .i64 0, .string ⟨#[]⟩, .int .i64 0, .int .i64 0, .int .i64 0] 33)
        have hr3 := hal.heap (ho3.heap HR.out (fun h => h)) (fun h => h)
        have HON3 := hid ((HON.out.trans ho3 (fun _ h _ => h)).trans hal (fun _ h _ => h))
        clear f0 f1 f2 f3 f4 r0 r1 r2 r3 r4
        obtain ⟨f0, f1, f2, f3, f4⟩ := marks5T hr3
        obtain ⟨r0, r1, r2, r3, r4⟩ := cells5T hr3
        have HR3 := hid hr3
        clear hal hr3 ho3 CF
        go_wp2
        exact bodyPost_ret (type_resultM (t := zeroT) (b := w.heap.size) Tryz.results49 (store5T HR3.out) rfl rfl rfl) rfl (MethRo.bad HMB.out (only5T HON3.out (fun hl => absurd hl (Nat.lt_irrefl _))))
       | some u =>
        have HMG : Hid (Meth (nums s) (l, u, 0)) := hid (by have := HM.out; rw [HEND.out, ho] at this; exact this)
        rw [ho] at cf
        unfold typO errO valT at cf
        have CF := hid cf
        clear cf ho hq
        go_wp2_with (fail)
        refine (CF.out _).mono ?_
        rintro e w3 ⟨rfl, ho3⟩
        have hal := (Only.refl (fun _ => False) w3).alloc (.cells #[.int .i64 u.k, .string u.name, .int .i64 u.dims, .int .i64 u.elem, .int .i64 u.at_] 33)
        have hx4 := heap_alloc_new w3 (.cells #[.int .i64 u.k, .string u.name, .int .i64 u.dims, .int .i64 u.elem, .int .i64 u.at_] 33)
        have hr3 := hal.heap (ho3.heap HR.out (fun h => h)) (fun h => h)
        have HON3 := hid ((HON.out.trans ho3 (fun _ h _ => h)).trans hal (fun _ h _ => h))
        have HROW3 := hid ((HROW.out.only ho3 (fun _ _ h => h)).only hal (fun _ _ h => h))
        clear f0 f1 f2 f3 f4 r0 r1 r2 r3 r4
        obtain ⟨f0, f1, f2, f3, f4⟩ := marks5T hr3
        obtain ⟨r0, r1, r2, r3, r4⟩ := cells5T hr3
        obtain ⟨x0, x1, x2, x3, x4⟩ := cells5T hx4
        have HR3 := hid hr3
        clear hal hr3 ho3 CF hx4
        go_wp2
        go_region
        go_wp2
        exact bodyPost_ret (type_resultM (t := u) (b := w.heap.size) Tryz.results49 (heap_drewT (store5T HR3.out)) rfl rfl rfl) rfl ⟨_, _, rfl, HMG.out, (only5T HON3.out (fun hl => absurd hl (Nat.lt_irrefl _))).drew, World.ownsRow.mono (HROW3.out.only (only5T (Only.refl (fun j => j = w.heap.size) _) (fun _ => rfl)).drew (fun k hk e => by have := (HROW3.out.ge k hk).1; omega)) (by omega)⟩
     ·have hcc : (((t[0].toNat : Nat) : Int) != 41) = true := by rw [bne_iff_ne]; exact hc
      have cf := fun w' => refField0 t w' (by omega)
      obtain ⟨c, hcn⟩ : ∃ c : Int, ((t[0].toNat : Nat) : Int) = c := ⟨_, rfl⟩
      obtain ⟨q, hq⟩ : ∃ q, q = (nums t).drop 1 := ⟨_, rfl⟩
      rw [hcn, ← hq] at hth
      rw [hcn] at hcc
      have HC41 := hid (show c ≠ 41 by rw [← hcn]; exact hc)
      clear hc hq
      cases hf : fieldZ (nums t) with
      | none =>
       have HM : Hid (Meth (nums s) ([], zeroT, 80)) := hid (.inr ⟨zs, l, c :: q, HH.out, (by have := HPAR.out; rw [hth] at this; exact this), (fun c' q' e _ u r' hf' => by rw [← e, ← hth, hf] at hf'; cases hf'), (by show _ = (if c = 41 then _ else _); rw [if_neg HC41.out])⟩)
       rw [hf] at cf
       unfold FieldTo typF restF okF zeroT valT at cf
       simp only [Option.isSome] at cf
       have CF := hid cf
       clear cf hf hth
       go_wp2_with (fail)
       refine (CF.out _).mono ?_
       rintro e w3 ⟨rfl, ho3⟩
       have hal := (Only.refl (fun _ => False) w3).alloc (.cells #[.int .i64 0, .string ⟨#[]⟩, .int .i64 0, .int .i64 0, .int .i64 0] 33)
       have hr3 := hal.heap (ho3.heap HR.out (fun h => h)) (fun h => h)
       have HON3 := hid ((HON.out.trans ho3 (fun _ h _ => h)).trans hal (fun _ h _ => h))
       clear f0 f1 f2 f3 f4 r0 r1 r2 r3 r4
       obtain ⟨f0, f1, f2, f3, f4⟩ := marks5T hr3
       obtain ⟨r0, r1, r2, r3, r4⟩ := cells5T hr3
       have HR3 := hid hr3
       clear hal hr3 ho3 CF
       go_wp2
       exact bodyPost_ret (type_resultM (t := zeroT) (b := w.heap.size) Tryz.results49 (store5T HR3.out) rfl rfl rfl) rfl (MethRo.bad HM.out (only5T HON3.out (fun hl => absurd hl (Nat.lt_irrefl _))))
      | some p =>
       obtain ⟨u, r'⟩ := p
       rw [hf] at cf
       rw [hth] at hf
       obtain ⟨k, hk, hkl⟩ := field_rest hf
       have hks : nums (strOfNums r') = r' := by
        rw [hk, ← hth]; exact nums_strOf_drop t k
       have hkz : (strOfNums r').size < t.size := by
        have e1 := nums_len (strOfNums r')
        have e2 := nums_len t
        rw [hks] at e1
        rw [hth] at e2
        omega
       unfold FieldTo typF restF okF valT at cf
       simp only [Option.isSome] at cf
       by_cases h16 : l.length < 16
       ·have HP2 : Hid (Par zs (l ++ [u]) (nums (strOfNums r'))) := hid (by rw [hks]; have := HPAR.out; rw [hth] at this; exact this.snoc HC41.out hf h16)
        have h16z : (l.length : Int) < 16 := by omega
        have HKZ := hid hkz
        have CF := hid cf
        clear cf hf hth hk hks hkz hkl
        generalize strOfNums r' = t' at *
        go_wp2_with (fail)
        refine (CF.out _).mono ?_
        rintro e w3 ⟨rfl, ho3⟩
        have hal := (Only.refl (fun _ => False) w3).alloc (.cells #[.int .i64 u.k, .string u.name, .int .i64 u.dims, .int .i64 u.elem, .int .i64 u.at_] 33)
        have hal2 := hal.alloc (.cells #[.int .i64 u.k, .string u.name, .int .i64 u.dims, .int .i64 u.elem, .int .i64 u.at_] 33)
        have hr5 := hal2.heap (ho3.heap HR.out (fun h => h)) (fun h => h)
        have HON4 := hid ((HON.out.trans ho3 (fun _ h _ => h)).trans hal2 (fun _ h _ => h))
        have HROW5 := hid ((HROW.out.only ho3 (fun _ _ h => h)).only hal2 (fun _ _ h => h))
        have HSRC := hid (Src.type (w := w3.alloc (.cells #[.int .i64 u.k, .string u.name, .int .i64 u.dims, .int .i64 u.elem, .int .i64 u.at_] 33)) (m := w3.heap.size + 1) u (by simp))
        have HGE := hid ((HROW.out.only ho3 (fun _ _ h => h)).ge)
        have HR5 := hid hr5
        have hszz := (ho3.trans hal2 (fun _ h _ => h)).size
        have HBASE := hid (show w.heap.size + 1 ≤ ((w3.alloc (.cells #[.int .i64 u.k, .string u.name, .int .i64 u.dims, .int .i64 u.elem, .int .i64 u.at_] 33)).alloc (.cells #[.int .i64 u.k, .string u.name, .int .i64 u.dims, .int .i64 u.elem, .int .i64 u.at_] 33)).heap.size by have := heap_lt HR.out; have := ho3.size; simp; omega)
        clear ho3 hal hal2 hr5 CF hszz f0 f1 f2 f3 f4 r0 r1 r2 r3 r4
        go_wp2_with (at_builtin; go_loud (refine wpList_append_src rfl (.tmp 42) (.tmp 44) 23 rfl 33 i0 (.agg #[.int .i64 0, .string ⟨#[]⟩, .int .i64 0, .int .i64 0, .int .i64 0]) 5 48 Tryz.underlying23 hi hz0 hz1 hz2 rfl (by decide) (w.heap.size + 1) (.slice al l.length cl) l.length (l.flatMap cellsTy) rfl (by exact HROW5.out) (by exact HBASE.out) (.slice (some ⟨w3.heap.size + 1, 0, none⟩) 1 1) 1 (cellsTy u) rfl (by exact HSRC.out) (by unfold maxLen; omega) (by omega) ?_); intro v' w5 hown hgrow hnew; have hos := only_grownT hgrow; have hr6 := hos.heap HR5.out (fun h => by have := (HGE.out _ h).1; omega); have hrow6 := TRow.more hown; have hon6 := HON4.out.trans hos (fun j hj hl => by have := (HGE.out _ hj).1; omega); clear hown hgrow hnew hos; have HROW6 := hid hrow6; have HON6 := hid hon6; have HR6 := hid hr6; clear hrow6 hon6 hr6)
        go_roundw
        case rel => exact ⟨t', l ++ [u], rfl, by have := HKZ.out; omega, HP2.out, HROW6.out, HON6.out, HR6.out⟩
        case measure => have := HKZ.out; simp [strSize]; omega
       ·have HM : Hid (Meth (nums s) ([], zeroT, 80)) := hid (.inr ⟨zs, l, c :: q, HH.out, (by have := HPAR.out; rw [hth] at this; exact this), (fun c' q' e _ u' r'' hf' => h16), (by show _ = (if c = 41 then _ else _); rw [if_neg HC41.out])⟩)
        have h16z : (16 : Int) ≤ (l.length : Int) := by omega
        have CF := hid cf
        clear cf hf hth hk hks hkz hkl h16
        generalize strOfNums r' = t' at *
        go_wp2_with (fail)
        refine (CF.out _).mono ?_
        rintro e w3 ⟨rfl, ho3⟩
        have hal := (Only.refl (fun _ => False) w3).alloc (.cells #[.int .i64 u.k, .string u.name, .int .i64 u.dims, .int .i64 u.elem, .int .i64 u.at_] 33)
        have hr3 := hal.heap (ho3.heap HR.out (fun h => h)) (fun h => h)
        have HON3 := hid ((HON.out.trans ho3 (fun _ h _ => h)).trans hal (fun _ h _ => h))
        clear f0 f1 f2 f3 f4 r0 r1 r2 r3 r4
        obtain ⟨f0, f1, f2, f3, f4⟩ := marks5T hr3
        obtain ⟨r0, r1, r2, r3, r4⟩ := cells5T hr3
        have HR3 := hid hr3
        clear hal hr3 ho3 CF
        go_wp2
        exact bodyPost_ret (type_resultM (t := zeroT) (b := w.heap.size) Tryz.results49 (store5T HR3.out) rfl rfl rfl) rfl (MethRo.bad HM.out (only5T HON3.out (fun hl => absurd hl (Nat.lt_irrefl _))))
    ·obtain rfl : t = ⟨#[]⟩ := nums_inj (List.eq_nil_of_length_eq_zero (by rw [nums_len]; omega))
     have HM : Hid (Meth (nums s) ([], zeroT, 80)) := hid (.inr ⟨zs, l, [], HH.out, HPAR.out, (fun c q e => by cases e), rfl⟩)
     have hle := toList_empty
     have hlv := lit_lV
     go_wp2
     exact bodyPost_ret (type_resultM (t := zeroT) (b := w.heap.size) Tryz.results49 (store5T HR.out) rfl rfl rfl) rfl (MethRo.bad HM.out (only5T HON.out (fun hl => absurd hl (Nat.lt_irrefl _))))
  ·have hcb : (((s[0].toNat : Nat) : Int) != 40) = true := by rw [bne_iff_ne]; exact hc
   have HM := hid (show Meth (nums s) ([], zeroT, 80) from .inl ⟨(fun ⟨q, hq⟩ => by rw [hh] at hq; injection hq with hq _; exact hc hq), rfl⟩)
   clear hh hc
   go_enter Tryz.func49, Tryz.ntmps49
   go_wp2
   exact bodyPost_ret (type_resultM (t := zeroT) (b := w.heap.size) Tryz.results49 HR0.out rfl rfl rfl) rfl (MethRo.bad HM.out HO0.out)
 ·obtain rfl : s = ⟨#[]⟩ := nums_inj (List.eq_nil_of_length_eq_zero (by rw [nums_len]; omega))
  have HM := hid (show Meth (nums ⟨#[]⟩) ([], zeroT, 80) from .inl ⟨(fun ⟨q, hq⟩ => by cases hq), rfl⟩)
  have hle := toList_empty
  clear h0
  go_enter Tryz.func49, Tryz.ntmps49
  go_wp2
  exact bodyPost_ret (type_resultM (t := zeroT) (b := w.heap.size) Tryz.results49 HR0.out rfl rfl rfl) rfl (MethRo.bad HM.out HO0.out)
theorem refKMethod (s : ByteArray) (w : World) (hs : s.size ≤ 281474976710656) :
  Calls Tryz.prog 49 #[.string s] w (MethTo w (nums s)) := (refKMethodR s w hs).mono fun _ _ h => h.to
def typeZ (m : MethN) : TypeV := typO (oneZ8 (nums m.desc))
def typesZ (f : Int) (l : List MethN) : List TypeV := (l.filter (fun m => m.flags == f)).map typeZ
theorem typesZ_len (f : Int) (l : List MethN) : (typesZ f l).length = countL f l := by
 rw [typesZ, List.length_map, countL, List.countP_eq_length_filter]
def Descs (l : List MethN) : Prop := ∀ m ∈ l, m.desc.size ≤ 281474976710656
theorem getD_memM {l : List MethN} {j : Nat} (h : j < l.length) : l.getD j default ∈ l := by
 rw [show l.getD j default = l[j] by simp [List.getD, h]]; exact List.getElem_mem h
def TypesTo (w : World) (l : List TypeV) (e : Ending) (w' : World) : Prop := ∃ r, e = .returned r ∧ TRow w' w.heap.size r l ∧ Only (fun _ => False) w w'
end Go.Proofs.YtinbelghhfodiaaGreatDoor
