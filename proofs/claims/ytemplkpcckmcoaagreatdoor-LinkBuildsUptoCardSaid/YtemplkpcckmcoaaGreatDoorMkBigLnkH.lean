import Derived.Test.YtemplkpcckmcoaaGreatDoorMkSepMem
import Derived.OwnWalk
import Derived.ArgAppend
import Derived.Test.YtemplkpcckmcoaaGreatDoorMkKndCLnkB
import Derived.Test.YtemplkpcckmcoaaGreatDoorMkPolXClsB
import Derived.Test.YtemplkpcckmcoaaGreatDoorMkLnkCLnkF
namespace Go.Proofs.YtemplkpcckmcoaaGreatDoor
set_option maxHeartbeats 16000000
open Lib (hid)
open Go.RowKit
section
variable {P : Program} (w : World)
end
set_option linter.unusedVariables false
set_option linter.unusedSimpArgs false
structure TypeAt (w : World) (b o i : Nat) (k : TypeV) : Prop where
 c0 : w.cell? ⟨b, o + i * 5, none⟩ = some (.int .i64 k.k)
 c1 : w.cell? ⟨b, o + i * 5 + 1, none⟩ = some (.string k.name)
 c2 : w.cell? ⟨b, o + i * 5 + 2, none⟩ = some (.int .i64 k.dims)
 c3 : w.cell? ⟨b, o + i * 5 + 3, none⟩ = some (.int .i64 k.elem)
 c4 : w.cell? ⟨b, o + i * 5 + 4, none⟩ = some (.int .i64 k.at_)
def Types (w : World) (v : Value) (l : List TypeV) : Prop := Sl v l.length (fun b o i => TypeAt w b o i (l.getD i default))
theorem TypeAt.only {S : Nat → Prop} {w w' : World} {b o i : Nat} {k : TypeV} (h : TypeAt w b o i k) (ho : Only S w w') (hs : ¬ S b) : TypeAt w' b o i k :=
 ⟨ho.cell h.c0 hs, ho.cell h.c1 hs, ho.cell h.c2 hs, ho.cell h.c3 hs, ho.cell h.c4 hs⟩
theorem Types.only {w w' : World} {v : Value} {l : List TypeV} (h : Types w v l) (ho : Only (fun _ => False) w w') : Types w' v l := h.imp (fun _ _ _ _ _ h => h.only ho (fun h => h))
theorem Types.nil (w : World) : Types w (.slice none 0 0) [] := Sl.nil _
def TRow (w : World) (B : Nat) (v : Value) (l : List TypeV) : Prop := w.ownsRow B 117 5 v l.length (l.flatMap cellsTy)
theorem cellsT_at : ∀ {cs : List TypeV} {i d : Nat}, i < cs.length → d < 5 → (cs.flatMap cellsTy)[i * 5 + d]? = (cellsTy (cs.getD i default))[d]?
 | c :: r, 0, d, _, hd => by
  rw [List.flatMap_cons, List.getElem?_append_left (by simp [cellsTy]; omega)]
  simp
 | c :: r, i + 1, d, hi, hd => by
  rw [List.flatMap_cons, List.getElem?_append_right (by simp [cellsTy]; omega)]
  have : (i + 1) * 5 + d - (cellsTy c).length = i * 5 + d := by simp [cellsTy]; omega
  rw [this, cellsT_at (by simpa using hi) hd]
  simp
theorem TRow.types {w : World} {B : Nat} {v : Value} {cs : List TypeV} (h : TRow w B v cs) : Types w v cs := by
 rcases h.2 with ⟨rfl, hn⟩ | ⟨g, cap, cur, rfl, hb, hg, hnc, hcm, hcs, htake⟩
 ·have : cs = [] := List.eq_nil_of_length_eq_zero hn
  subst this
  exact Sl.nil _
 ·refine ⟨_, cap, rfl, hnc, by unfold maxLen at hcm; omega, (fun e => by cases e), fun x hx _ => ?_⟩
  cases hx
  refine ⟨g, 0, rfl, fun i hi => ?_⟩
  have hc : ∀ d, d < 5 → w.cell? ⟨g, 0 + i * 5 + d, none⟩ = (cellsTy (cs.getD i default))[d]? := fun d hd => by
   rw [Nat.zero_add, ← cellsT_at hi hd]
   exact (show w.ownsRow B _ 5 _ _ _ from h).cellAt (g := g) (cap := cap) (i * 5 + d) (by omega)
  exact ⟨hc 0 (by decide), hc 1 (by decide), hc 2 (by decide), hc 3 (by decide), hc 4 (by decide)⟩
theorem TRow.only {S : Nat → Prop} {w w' : World} {B : Nat} {v : Value} {cs : List TypeV} (h : TRow w B v cs) (ho : Only S w w') (hs : ∀ k, v.ownBlock = some k → ¬ S k) : TRow w' B v cs := ho.owns h hs
theorem TRow.ge {w : World} {B : Nat} {v : Value} {cs : List TypeV} (h : TRow w B v cs) : ∀ k, v.ownBlock = some k → B ≤ k ∧ k < w.heap.size := fun k hk => World.ownsRow.lt h k hk
theorem TRow.nil (w : World) (B : Nat) : TRow w B (.slice none 0 0) [] := World.ownsRow_nil _ _ _ _
theorem Src.type {w : World} {m : Nat} (c : TypeV) (h : w.heap.size = m) : Src (w.alloc (.cells #[.int .i64 c.k, .string c.name, .int .i64 c.dims, .int .i64 c.elem, .int .i64 c.at_] 117)) 5 (.slice (some ⟨m, 0, none⟩) 1 1) 1 (cellsTy c) := by
 subst h
 refine ⟨rfl, ?_, _, 1, rfl, (fun e => by cases e), fun ad hd j u hj => ?_⟩
 ·intro x hx
  simp only [cellsTy, List.mem_cons, List.mem_nil_iff, or_false] at hx
  rcases hx with rfl | rfl | rfl | rfl | rfl <;> rfl
 ·cases hd
  rw [add_lit, Nat.zero_add, cell_blk (heap_alloc_new w _)]
  simpa [cellsTy] using hj
theorem TRow.more {w3 : World} {B : Nat} {v' : Value} {cs : List TypeV} {c : TypeV} (hown : w3.ownsRow B 117 5 v' (cs.length + 1) (cs.flatMap cellsTy ++ cellsTy c)) : TRow w3 B v' (cs ++ [c]) := by
 unfold TRow
 rw [List.length_append, List.flatMap_append]
 simpa using hown
theorem info_type : (Tryz.prog.info? 117).map (fun i => (i.zero, i.size, i.bytes)) = some (some (.agg #[.int .i64 0, .string ⟨#[]⟩, .int .i64 0, .int .i64 0, .int .i64 0]), 5, 48) := by kernel_rfl
theorem only_grownT {w2 w3 : World} {v : Value} (hg : w2.grownBy w3 v.ownBlock) : Only (fun k => v.ownBlock = some k) w2 w3 := (Only.refl _ _).grown hg (fun k hk _ => hk)
def parN (zs : List Int) : Nat → Option (List TypeV × List Int)
 | 0 => some ([], zs)
 | n + 1 =>
  match parN zs n with
  | none => none
  | some (l, r) =>
   match r with
   | [] => none
   | c :: q =>
    if c = 41 then none else
    match fieldZ (c :: q) with
    | none => none
    | some (t, r') => if l.length < 16 then some (l ++ [t], r') else none
def Par (zs : List Int) (l : List TypeV) (r : List Int) : Prop := parN zs l.length = some (l, r)
theorem Par.nil (zs : List Int) : Par zs [] zs := rfl
theorem parN_pred {zs : List Int} {n : Nat} {l : List TypeV} {r : List Int} (h : parN zs (n + 1) = some (l, r)) :
  ∃ l' c q t, parN zs n = some (l', c :: q) ∧ c ≠ 41 ∧ fieldZ (c :: q) = some (t, r) ∧ l'.length < 16 ∧ l = l' ++ [t] := by
 unfold parN at h
 cases hs : parN zs n with
 | none => rw [hs] at h; cases h
 | some p =>
  obtain ⟨l', r0⟩ := p
  rw [hs] at h
  simp only at h
  cases r0 with
  | nil => cases h
  | cons c q =>
   simp only at h
   split at h
   ·cases h
   rename_i hc
   cases hf : fieldZ (c :: q) with
   | none => rw [hf] at h; cases h
   | some p2 =>
    obtain ⟨t, r'⟩ := p2
    rw [hf] at h
    simp only at h
    split at h
    ·simp only [Option.some.injEq, Prod.mk.injEq] at h
     obtain ⟨rfl, rfl⟩ := h
     exact ⟨l', c, q, t, rfl, hc, hf, by assumption, rfl⟩
    ·cases h
theorem parN_len {zs : List Int} : ∀ {n : Nat} {l : List TypeV} {r : List Int}, parN zs n = some (l, r) → l.length = n
 | 0, l, r, h => by simp only [parN, Option.some.injEq, Prod.mk.injEq] at h; rw [← h.1]; rfl
 | n + 1, l, r, h => by
  obtain ⟨l', c, q, t, hs, _, _, _, rfl⟩ := parN_pred h
  rw [List.length_append, parN_len hs]; rfl
theorem parN_rest {zs : List Int} : ∀ {n : Nat} {l : List TypeV} {r : List Int}, parN zs n = some (l, r) → n ≤ 16 ∧ ∃ m, r = zs.drop m
 | 0, l, r, h => by
  simp only [parN, Option.some.injEq, Prod.mk.injEq] at h
  exact ⟨by omega, 0, h.2.symm⟩
 | n + 1, l, r, h => by
  obtain ⟨l', c, q, t, hs, _, hf, hl, rfl⟩ := parN_pred h
  obtain ⟨_, m, hm⟩ := parN_rest hs
  obtain ⟨k, hk, _⟩ := field_rest hf
  have := parN_len hs
  exact ⟨by omega, m + k, by rw [hk, hm, List.drop_drop]⟩
theorem Par.snoc {zs : List Int} {l : List TypeV} {c : Int} {q r : List Int} {t : TypeV} (h : Par zs l (c :: q)) (hc : c ≠ 41) (hf : fieldZ (c :: q) = some (t, r)) (hl : l.length < 16) : Par zs (l ++ [t]) r := by
 unfold Par at h ⊢
 rw [List.length_append, List.length_singleton]
 unfold parN
 rw [h]
 simp only
 rw [if_neg hc, hf]
 simp only
 rw [if_pos hl]
def Stop (l : List TypeV) (r : List Int) : Prop := ∀ c q, r = c :: q → c ≠ 41 → ∀ t r', fieldZ (c :: q) = some (t, r') → ¬ l.length < 16
theorem parN_mono {zs : List Int} : ∀ {m n : Nat}, n ≤ m → ∀ {q}, parN zs m = some q → ∃ q', parN zs n = some q'
 | 0, n, h, q, hq => by
  obtain rfl : n = 0 := by omega
  exact ⟨_, hq⟩
 | m + 1, n, h, q, hq => by
  by_cases e : n = m + 1
  ·subst e; exact ⟨_, hq⟩
  ·obtain ⟨l, p⟩ := q
   obtain ⟨l', c, q, t, hs, _⟩ := parN_pred hq
   exact parN_mono (by omega) hs
theorem par_unique {zs : List Int} {l l' : List TypeV} {r r' : List Int} (h : Par zs l r) (h' : Par zs l' r') (hs : Stop l r) (hs' : Stop l' r') : l = l' ∧ r = r' := by
 have key : ∀ {l l' : List TypeV} {r r' : List Int}, Par zs l r → Par zs l' r' → Stop l r → ¬ l.length < l'.length := by
  intro l l' r r' h h' hs hlt
  obtain ⟨q, hq⟩ := parN_mono (n := l.length + 1) (by omega) h'
  obtain ⟨l2, p2⟩ := q
  obtain ⟨l3, c, q, t, h3, h4, h5, h6, _⟩ := parN_pred hq
  unfold Par at h
  rw [h] at h3
  injection h3 with h3
  injection h3 with e1 e2
  subst e1
  exact hs c q e2 h4 t p2 h5 h6
 have e : l.length = l'.length := by
  have := key h h' hs
  have := key h' h hs'
  omega
 unfold Par at h h'
 rw [e, h'] at h
 injection h with h
 injection h with e1 e2
 exact ⟨e1.symm, e2.symm⟩
def voidT : TypeV := ⟨8, ⟨#[]⟩, 0, 0, 0⟩
def endM (l : List TypeV) (r : List Int) : List TypeV × TypeV × Int :=
 match r with
 | [] => ([], zeroT, 80)
 | c :: q => if c = 41 then (if q = [86] then (l, voidT, 0) else match oneZ8 q with | some t => (l, t, 0) | none => ([], zeroT, 80)) else ([], zeroT, 80)
def Meth (zs : List Int) (x : List TypeV × TypeV × Int) : Prop :=
 (¬ (∃ q, zs = 40 :: q) ∧ x = ([], zeroT, 80)) ∨ ∃ q l r, zs = 40 :: q ∧ Par q l r ∧ Stop l r ∧ x = endM l r
theorem Meth.unique {zs : List Int} {x x' : List TypeV × TypeV × Int} (h : Meth zs x) (h' : Meth zs x') : x = x' := by
 rcases h with ⟨h1, rfl⟩ | ⟨q, l, r, rfl, hp, hs, rfl⟩ <;> rcases h' with ⟨h1', rfl⟩ | ⟨q', l', r', hq, hp', hs', rfl⟩
 ·rfl
 ·exact absurd ⟨_, hq⟩ h1
 ·exact absurd ⟨_, rfl⟩ h1'
 ·injection hq with _ hq
  subst hq
  obtain ⟨rfl, rfl⟩ := par_unique hp hp' hs hs'
  rfl
def strSize : Value → Nat
 | .string t => t.size
 | _ => 0
theorem type_resultM {fn : Func} {p q q2 : Tmp} (hr : fn.results = #[.tmp q, .cell p 117, .tmp q2]) {w : World} {b : Nat} {t : TypeV} {x y : Value} {tmps : Array Value} (h : w.heap[b]? = some (.cells #[.int .i64 t.k, .string t.name, .int .i64 t.dims, .int .i64 t.elem, .int .i64 t.at_] 117 (0, 0))) (ht : tmps.getD p undef = .pointer (some ⟨b, 0, none⟩)) (hx : tmps.getD q undef = x) (hy : tmps.getD q2 undef = y) :
  (results fn tmps).run Tryz.prog w = .ok (.tuple #[x, valT t, y]) w := by
 have hp' : tmps[p]?.getD undef = .pointer (some ⟨b, 0, none⟩) := by simpa using ht
 have hx' : tmps[q]?.getD undef = x := by simpa using hx
 have hy' : tmps[q2]?.getD undef = y := by simpa using hy
 have hL := run_loadVar_row w b 117 117 _ (0, 0) _ h Tryz.underlying117 rfl info5_type
 simp only [results, hr]
 simp [Sem.run_bind, Result.andThen, hp', hx', hy', asAddr, hL, valT]
def MethTo (w : World) (zs : List Int) (e : Ending) (w' : World) : Prop := ∃ v x, e = .returned (.tuple #[v, valT x.2.1, .int .i64 x.2.2]) ∧ Meth zs x ∧ Only (fun _ => False) w w' ∧ Types w' v x.1
theorem MethTo.bad {w w' : World} {zs : List Int} (h : Meth zs ([], zeroT, 80)) (ho : Only (fun _ => False) w w') : MethTo w zs (.returned (.tuple #[.slice none 0 0, valT zeroT, .int .i64 80])) w' := ⟨_, _, rfl, h, ho, Types.nil _⟩
theorem nums_head {t : ByteArray} (h : 0 < t.size) : nums t = ((t[0].toNat : Nat) : Int) :: (nums t).drop 1 := by
 have hlt : 0 < (nums t).length := by rw [nums_len]; exact h
 have e := List.drop_eq_getElem_cons hlt
 rw [List.drop_zero] at e
 rw [← nums_at h]
 simpa [List.getD, hlt] using e
theorem toList_ne_of {s t : ByteArray} (h : nums s ≠ nums t) : (s.toList == t.toList) = false ∧ ¬ s.toList = t.toList := by
 have h2 : ¬ s.toList = t.toList := fun e => h (by rw [toList_inj' e])
 exact ⟨by rw [beq_eq_false_iff_ne]; exact h2, h2⟩
theorem heap_drewT {w : World} {b : Nat} {o : Option Obj} (h : w.heap[b]? = o) : w.drew.heap[b]? = o := h
theorem lit_lV : (⟨#[41, 86]⟩ : ByteArray).toList = [41, 86] := by rw [ByteArray.toList_eq]
theorem nums_lV : nums ⟨#[41, 86]⟩ = [41, 86] := rfl
set_option maxRecDepth 100000 in
theorem refKMethod (s : ByteArray) (w : World) (hs : s.size ≤ 281474976710656) :
  Calls Tryz.prog 57 #[.string s] w (MethTo w (nums s)) := by
 obtain ⟨i0, hi, hz0, hz1, hz2⟩ := info_parts info_type
 have hr0 := heap_alloc_new w (.cells #[.int .i64 0, .string ⟨#[]⟩, .int .i64 0, .int .i64 0, .int .i64 0] 117)
 have ho0 := (Only.refl (fun _ => False) w).alloc (.cells #[.int .i64 0, .string ⟨#[]⟩, .int .i64 0, .int .i64 0, .int .i64 0] 117)
 have HR0 := hid hr0
 have HO0 := hid ho0
 clear hr0 ho0
 by_cases h0 : 0 < s.size
 ·have hh := nums_head h0
  have hlz : (0 : Int) < (s.size : Int) := by omega
  obtain ⟨e1, e2⟩ := toList_ne (strOf_ne hh)
  by_cases hc : ((s[0].toNat : Nat) : Int) = 40
  ·have hcb : (((s[0].toNat : Nat) : Int) != 40) = false := by rw [bne, hc]; rfl
   obtain ⟨zs, hzs⟩ : ∃ zs, zs = (nums s).drop 1 := ⟨_, rfl⟩
   have HH : Hid (nums s = 40 :: zs) := hid (by rw [hzs, ← hc]; exact hh)
   have HZS : Hid (nums (s.extract 1 s.size) = zs) := hid (by rw [nums_rest, hzs])
   have HSS : Hid ((s.extract 1 s.size).size ≤ s.size) := hid (by simp)
   clear hh hc hzs
   go_enter Tryz.func57, Tryz.ntmps57
   go_wp2
   generalize s.extract 1 s.size = s1 at *
   go_loopw [0, 5] (fun sv lv wr => ∃ (t : ByteArray) (l : List TypeV), sv = .string t ∧ t.size ≤ s.size ∧ Par zs l (nums t) ∧ TRow wr (w.heap.size + 1) lv l ∧ Only (fun _ => False) w wr ∧ wr.heap[w.heap.size]? = some (.cells #[.int .i64 0, .string ⟨#[]⟩, .int .i64 0, .int .i64 0, .int .i64 0] 117 (0, 0))) (fun sv _ _ => strSize sv)
   case atStart => exact ⟨s1, [], rfl, HSS.out, by rw [HZS.out]; exact Par.nil zs, TRow.nil _ _, HO0.out, HR0.out⟩
   case round =>
    obtain ⟨t, l, rfl, hts, hpar, hrow, hon, hr⟩ := hrel
    have HPAR := hid hpar
    have HROW := hid hrow
    have HON := hid hon
    have HR := hid hr
    have hln := (parN_rest hpar).1
    obtain ⟨f0, f1, f2, f3, f4⟩ := marks5T hr
    obtain ⟨r0, r1, r2, r3, r4⟩ := cells5T hr
    obtain ⟨al, cl, rfl, l1, l2, l3, -⟩ := id hrow.types
    have HTY := hid hrow.types
    clear hpar hrow hon hr l3
    by_cases ht0 : 0 < t.size
    ·have hth := nums_head ht0
     have htz : (0 : Int) < (t.size : Int) := by omega
     obtain ⟨t1, t2⟩ := toList_ne (strOf_ne hth)
     by_cases hc : ((t[0].toNat : Nat) : Int) = 41
     ·have hcc : (((t[0].toNat : Nat) : Int) != 41) = false := by rw [bne, hc]; rfl
      rw [hc] at hth
      by_cases hv : nums t = [41, 86]
      ·obtain rfl : t = ⟨#[41, 86]⟩ := nums_inj (hv.trans nums_lV.symm)
       have HM := hid (show Meth (nums s) (l, voidT, 0) from .inr ⟨zs, l, [41, 86], HH.out, HPAR.out, (fun c q e hne => by injection e with e _; exact absurd e.symm hne), rfl⟩)
       have hlv := lit_lV
       clear hth hc hv
       go_wp2
       exact bodyPost_ret (type_resultM (t := voidT) (b := w.heap.size) Tryz.results57 (store5T HR.out) rfl rfl rfl) rfl ⟨_, _, rfl, HM.out, only5T HON.out (fun hl => absurd hl (Nat.lt_irrefl _)), (HROW.out.only (only5T (Only.refl (fun j => j = w.heap.size) _) (fun _ => rfl)) (fun k hk e => by have := (HROW.out.ge k hk).1; omega)).types⟩
      ·have HV := hid hv
       obtain ⟨v1, v2⟩ := toList_ne_of (s := t) (t := ⟨#[41, 86]⟩) (by rw [nums_lV]; exact hv)
       rw [lit_lV] at v1 v2
       obtain ⟨q, hq⟩ : ∃ q, q = (nums t).drop 1 := ⟨_, rfl⟩
       rw [← hq] at hth
       have HEND : Hid (endM l (nums t) = match oneZ8 q with | some u => (l, u, 0) | none => ([], zeroT, 80)) := by
        refine hid ?_
        rw [hth]
        have hq86 : ¬ q = [86] := fun e => hv (by rw [hth, e])
        unfold endM
        simp only [if_true, hq86, if_false]
        all_goals rfl
       have HM := hid (show Meth (nums s) (endM l (nums t)) from .inr ⟨zs, l, nums t, HH.out, HPAR.out, (fun c q' e hne => by rw [hth] at e; injection e with e _; exact absurd e.symm hne), rfl⟩)
       have cf := fun w' => refField (t.extract 1 t.size) w' (by simp; omega)
       rw [nums_rest, ← hq] at cf
       clear hth hc hv
       cases ho : oneZ8 q with
       | none =>
        have HMB : Hid (Meth (nums s) ([], zeroT, 80)) := hid (by have := HM.out; rw [HEND.out, ho] at this; exact this)
        rw [ho] at cf
        unfold typO errO zeroT valT at cf
        have CF := hid cf
        clear cf ho hq
        go_wp2_with (fail)
        refine (CF.out _).mono ?_
        rintro e w3 ⟨rfl, ho3⟩
        have hal := (Only.refl (fun _ => False) w3).alloc (.cells #[.int .i64 0, .string ⟨#[]⟩, .int .i64 0, .int .i64 0, .int .i64 0] 117)
        have hr3 := hal.heap (ho3.heap HR.out (fun h => h)) (fun h => h)
        have HON3 := hid ((HON.out.trans ho3 (fun _ h _ => h)).trans hal (fun _ h _ => h))
        clear f0 f1 f2 f3 f4 r0 r1 r2 r3 r4
        obtain ⟨f0, f1, f2, f3, f4⟩ := marks5T hr3
        obtain ⟨r0, r1, r2, r3, r4⟩ := cells5T hr3
        have HR3 := hid hr3
        clear hal hr3 ho3 CF
        go_wp2
        exact bodyPost_ret (type_resultM (t := zeroT) (b := w.heap.size) Tryz.results57 (store5T HR3.out) rfl rfl rfl) rfl (MethTo.bad HMB.out (only5T HON3.out (fun hl => absurd hl (Nat.lt_irrefl _))))
       | some u =>
        have HMG : Hid (Meth (nums s) (l, u, 0)) := hid (by have := HM.out; rw [HEND.out, ho] at this; exact this)
        rw [ho] at cf
        unfold typO errO valT at cf
        have CF := hid cf
        clear cf ho hq
        go_wp2_with (fail)
        refine (CF.out _).mono ?_
        rintro e w3 ⟨rfl, ho3⟩
        have hal := (Only.refl (fun _ => False) w3).alloc (.cells #[.int .i64 u.k, .string u.name, .int .i64 u.dims, .int .i64 u.elem, .int .i64 u.at_] 117)
        have hx4 := heap_alloc_new w3 (.cells #[.int .i64 u.k, .string u.name, .int .i64 u.dims, .int .i64 u.elem, .int .i64 u.at_] 117)
        have hr3 := hal.heap (ho3.heap HR.out (fun h => h)) (fun h => h)
        have HON3 := hid ((HON.out.trans ho3 (fun _ h _ => h)).trans hal (fun _ h _ => h))
        have HROW3 := hid ((HROW.out.only ho3 (fun _ _ h => h)).only hal (fun _ _ h => h))
        clear f0 f1 f2 f3 f4 r0 r1 r2 r3 r4
        obtain ⟨f0, f1, f2, f3, f4⟩ := marks5T hr3
        obtain ⟨r0, r1, r2, r3, r4⟩ := cells5T hr3
        obtain ⟨x0, x1, x2, x3, x4⟩ := cells5T hx4
        have HR3 := hid hr3
        clear hal hr3 ho3 CF hx4
        go_wp2
        go_region
        go_wp2
        exact bodyPost_ret (type_resultM (t := u) (b := w.heap.size) Tryz.results57 (heap_drewT (store5T HR3.out)) rfl rfl rfl) rfl ⟨_, _, rfl, HMG.out, (only5T HON3.out (fun hl => absurd hl (Nat.lt_irrefl _))).drew, (HROW3.out.only (only5T (Only.refl (fun j => j = w.heap.size) _) (fun _ => rfl)).drew (fun k hk e => by have := (HROW3.out.ge k hk).1; omega)).types⟩
     ·have hcc : (((t[0].toNat : Nat) : Int) != 41) = true := by rw [bne_iff_ne]; exact hc
      have cf := fun w' => refField0 t w' (by omega)
      obtain ⟨c, hcn⟩ : ∃ c : Int, ((t[0].toNat : Nat) : Int) = c := ⟨_, rfl⟩
      obtain ⟨q, hq⟩ : ∃ q, q = (nums t).drop 1 := ⟨_, rfl⟩
      rw [hcn, ← hq] at hth
      rw [hcn] at hcc
      have HC41 := hid (show c ≠ 41 by rw [← hcn]; exact hc)
      clear hc hq
      cases hf : fieldZ (nums t) with
      | none =>
       have HM : Hid (Meth (nums s) ([], zeroT, 80)) := hid (.inr ⟨zs, l, c :: q, HH.out, (by have := HPAR.out; rw [hth] at this; exact this), (fun c' q' e _ u r' hf' => by rw [← e, ← hth, hf] at hf'; cases hf'), (by show _ = (if c = 41 then _ else _); rw [if_neg HC41.out])⟩)
       rw [hf] at cf
       unfold FieldTo typF restF okF zeroT valT at cf
       simp only [Option.isSome] at cf
       have CF := hid cf
       clear cf hf hth
       go_wp2_with (fail)
       refine (CF.out _).mono ?_
       rintro e w3 ⟨rfl, ho3⟩
       have hal := (Only.refl (fun _ => False) w3).alloc (.cells #[.int .i64 0, .string ⟨#[]⟩, .int .i64 0, .int .i64 0, .int .i64 0] 117)
       have hr3 := hal.heap (ho3.heap HR.out (fun h => h)) (fun h => h)
       have HON3 := hid ((HON.out.trans ho3 (fun _ h _ => h)).trans hal (fun _ h _ => h))
       clear f0 f1 f2 f3 f4 r0 r1 r2 r3 r4
       obtain ⟨f0, f1, f2, f3, f4⟩ := marks5T hr3
       obtain ⟨r0, r1, r2, r3, r4⟩ := cells5T hr3
       have HR3 := hid hr3
       clear hal hr3 ho3 CF
       go_wp2
       exact bodyPost_ret (type_resultM (t := zeroT) (b := w.heap.size) Tryz.results57 (store5T HR3.out) rfl rfl rfl) rfl (MethTo.bad HM.out (only5T HON3.out (fun hl => absurd hl (Nat.lt_irrefl _))))
      | some p =>
       obtain ⟨u, r'⟩ := p
       rw [hf] at cf
       rw [hth] at hf
       obtain ⟨k, hk, hkl⟩ := field_rest hf
       have hks : nums (strOfNums r') = r' := by
        rw [hk, ← hth]; exact nums_strOf_drop t k
       have hkz : (strOfNums r').size < t.size := by
        have e1 := nums_len (strOfNums r')
        have e2 := nums_len t
        rw [hks] at e1
        rw [hth] at e2
        omega
       unfold FieldTo typF restF okF valT at cf
       simp only [Option.isSome] at cf
       by_cases h16 : l.length < 16
       ·have HP2 : Hid (Par zs (l ++ [u]) (nums (strOfNums r'))) := hid (by rw [hks]; have := HPAR.out; rw [hth] at this; exact this.snoc HC41.out hf h16)
        have h16z : (l.length : Int) < 16 := by omega
        have HKZ := hid hkz
        have CF := hid cf
        clear cf hf hth hk hks hkz hkl
        generalize strOfNums r' = t' at *
        go_wp2_with (fail)
        refine (CF.out _).mono ?_
        rintro e w3 ⟨rfl, ho3⟩
        have hal := (Only.refl (fun _ => False) w3).alloc (.cells #[.int .i64 u.k, .string u.name, .int .i64 u.dims, .int .i64 u.elem, .int .i64 u.at_] 117)
        have hal2 := hal.alloc (.cells #[.int .i64 u.k, .string u.name, .int .i64 u.dims, .int .i64 u.elem, .int .i64 u.at_] 117)
        have hr5 := hal2.heap (ho3.heap HR.out (fun h => h)) (fun h => h)
        have HON4 := hid ((HON.out.trans ho3 (fun _ h _ => h)).trans hal2 (fun _ h _ => h))
        have HROW5 := hid ((HROW.out.only ho3 (fun _ _ h => h)).only hal2 (fun _ _ h => h))
        have HSRC := hid (Src.type (w := w3.alloc (.cells #[.int .i64 u.k, .string u.name, .int .i64 u.dims, .int .i64 u.elem, .int .i64 u.at_] 117)) (m := w3.heap.size + 1) u (by simp))
        have HGE := hid ((HROW.out.only ho3 (fun _ _ h => h)).ge)
        have HR5 := hid hr5
        have hszz := (ho3.trans hal2 (fun _ h _ => h)).size
        have HBASE := hid (show w.heap.size + 1 ≤ ((w3.alloc (.cells #[.int .i64 u.k, .string u.name, .int .i64 u.dims, .int .i64 u.elem, .int .i64 u.at_] 117)).alloc (.cells #[.int .i64 u.k, .string u.name, .int .i64 u.dims, .int .i64 u.elem, .int .i64 u.at_] 117)).heap.size by have := heap_lt HR.out; have := ho3.size; simp; omega)
        clear ho3 hal hal2 hr5 CF hszz f0 f1 f2 f3 f4 r0 r1 r2 r3 r4
        go_wp2_with (at_builtin; go_loud (refine wpList_append_src rfl (.tmp 42) (.tmp 44) 62 rfl 117 i0 (.agg #[.int .i64 0, .string ⟨#[]⟩, .int .i64 0, .int .i64 0, .int .i64 0]) 5 48 Tryz.underlying62 hi hz0 hz1 hz2 rfl (by decide) (w.heap.size + 1) (.slice al l.length cl) l.length (l.flatMap cellsTy) rfl (by exact HROW5.out) (by exact HBASE.out) (.slice (some ⟨w3.heap.size + 1, 0, none⟩) 1 1) 1 (cellsTy u) rfl (by exact HSRC.out) (by unfold maxLen; omega) (by omega) ?_); intro v' w5 hown hgrow hnew; have hos := only_grownT hgrow; have hr6 := hos.heap HR5.out (fun h => by have := (HGE.out _ h).1; omega); have hrow6 := TRow.more hown; have hon6 := HON4.out.trans hos (fun j hj hl => by have := (HGE.out _ hj).1; omega); clear hown hgrow hnew hos; have HROW6 := hid hrow6; have HON6 := hid hon6; have HR6 := hid hr6; clear hrow6 hon6 hr6)
        go_roundw
        case rel => exact ⟨t', l ++ [u], rfl, by have := HKZ.out; omega, HP2.out, HROW6.out, HON6.out, HR6.out⟩
        case measure => have := HKZ.out; simp [strSize]; omega
       ·have HM : Hid (Meth (nums s) ([], zeroT, 80)) := hid (.inr ⟨zs, l, c :: q, HH.out, (by have := HPAR.out; rw [hth] at this; exact this), (fun c' q' e _ u' r'' hf' => h16), (by show _ = (if c = 41 then _ else _); rw [if_neg HC41.out])⟩)
        have h16z : (16 : Int) ≤ (l.length : Int) := by omega
        have CF := hid cf
        clear cf hf hth hk hks hkz hkl h16
        generalize strOfNums r' = t' at *
        go_wp2_with (fail)
        refine (CF.out _).mono ?_
        rintro e w3 ⟨rfl, ho3⟩
        have hal := (Only.refl (fun _ => False) w3).alloc (.cells #[.int .i64 u.k, .string u.name, .int .i64 u.dims, .int .i64 u.elem, .int .i64 u.at_] 117)
        have hr3 := hal.heap (ho3.heap HR.out (fun h => h)) (fun h => h)
        have HON3 := hid ((HON.out.trans ho3 (fun _ h _ => h)).trans hal (fun _ h _ => h))
        clear f0 f1 f2 f3 f4 r0 r1 r2 r3 r4
        obtain ⟨f0, f1, f2, f3, f4⟩ := marks5T hr3
        obtain ⟨r0, r1, r2, r3, r4⟩ := cells5T hr3
        have HR3 := hid hr3
        clear hal hr3 ho3 CF
        go_wp2
        exact bodyPost_ret (type_resultM (t := zeroT) (b := w.heap.size) Tryz.results57 (store5T HR3.out) rfl rfl rfl) rfl (MethTo.bad HM.out (only5T HON3.out (fun hl => absurd hl (Nat.lt_irrefl _))))
    ·obtain rfl : t = ⟨#[]⟩ := nums_inj (List.eq_nil_of_length_eq_zero (by rw [nums_len]; omega))
     have HM : Hid (Meth (nums s) ([], zeroT, 80)) := hid (.inr ⟨zs, l, [], HH.out, HPAR.out, (fun c q e => by cases e), rfl⟩)
     have hle := toList_empty
     have hlv := lit_lV
     go_wp2
     exact bodyPost_ret (type_resultM (t := zeroT) (b := w.heap.size) Tryz.results57 (store5T HR.out) rfl rfl rfl) rfl (MethTo.bad HM.out (only5T HON.out (fun hl => absurd hl (Nat.lt_irrefl _))))
  ·have hcb : (((s[0].toNat : Nat) : Int) != 40) = true := by rw [bne_iff_ne]; exact hc
   have HM := hid (show Meth (nums s) ([], zeroT, 80) from .inl ⟨(fun ⟨q, hq⟩ => by rw [hh] at hq; injection hq with hq _; exact hc hq), rfl⟩)
   clear hh hc
   go_enter Tryz.func57, Tryz.ntmps57
   go_wp2
   exact bodyPost_ret (type_resultM (t := zeroT) (b := w.heap.size) Tryz.results57 HR0.out rfl rfl rfl) rfl (MethTo.bad HM.out HO0.out)
 ·obtain rfl : s = ⟨#[]⟩ := nums_inj (List.eq_nil_of_length_eq_zero (by rw [nums_len]; omega))
  have HM := hid (show Meth (nums ⟨#[]⟩) ([], zeroT, 80) from .inl ⟨(fun ⟨q, hq⟩ => by cases hq), rfl⟩)
  have hle := toList_empty
  clear h0
  go_enter Tryz.func57, Tryz.ntmps57
  go_wp2
  exact bodyPost_ret (type_resultM (t := zeroT) (b := w.heap.size) Tryz.results57 HR0.out rfl rfl rfl) rfl (MethTo.bad HM.out HO0.out)
def typeZ (m : MethN) : TypeV := typO (oneZ8 (nums m.desc))
def typesZ (f : Int) (l : List MethN) : List TypeV := (l.filter (fun m => m.flags == f)).map typeZ
theorem typesZ_take {f : Int} {l : List MethN} {j : Nat} (h : j < l.length) : typesZ f (l.take (j + 1)) = typesZ f (l.take j) ++ if (l.getD j default).flags = f then [typeZ (l.getD j default)] else [] := by
 rw [List.take_succ_eq_append_getElem h, typesZ, List.filter_append, List.map_append]
 rw [show l.getD j default = l[j] by simp [List.getD, h]]
 by_cases hf : l[j].flags = f
 ·simp [typesZ, hf]
 ·simp [typesZ, hf]
theorem typesZ_len (f : Int) (l : List MethN) : (typesZ f l).length = countL f l := by
 rw [typesZ, List.length_map, countL, List.countP_eq_length_filter]
theorem typesZ_le (f : Int) (l : List MethN) : (typesZ f l).length ≤ l.length := by rw [typesZ_len]; exact countL_le f l
def Descs (l : List MethN) : Prop := ∀ m ∈ l, m.desc.size ≤ 281474976710656
theorem getD_memM {l : List MethN} {j : Nat} (h : j < l.length) : l.getD j default ∈ l := by
 rw [show l.getD j default = l[j] by simp [List.getD, h]]; exact List.getElem_mem h
def TypesTo (w : World) (l : List TypeV) (e : Ending) (w' : World) : Prop := ∃ r, e = .returned r ∧ TRow w' w.heap.size r l ∧ Only (fun _ => False) w w'
set_option maxRecDepth 100000 in
theorem refTypes (v : Value) (l : List MethN) (f : Int) (w : World) (hl : MethNs w v l) (hn : l.length ≤ 1048576) (hd : Descs l) :
  Calls Tryz.prog 60 #[v, .int .i64 f] w (TypesTo w (typesZ f l)) := by
 obtain ⟨i0, hi, hz0, hz1, hz2⟩ := info_parts info_type
 obtain ⟨ao, cap, rfl, p1, p2, p3, -⟩ := id hl
 have HL := hid hl
 have HD := hid hd
 clear hl hd p3
 go_enter Tryz.func60, Tryz.ntmps60
 go_wp2
 go_loopw [6, 5] (fun iv lv wr => ∃ j : Nat, iv = .int .i64 j ∧ j ≤ l.length ∧ TRow wr w.heap.size lv (typesZ f (l.take j)) ∧ Only (fun _ => False) w wr) (fun iv _ _ => l.length - (intOf iv).toNat)
 case atStart => exact ⟨0, rfl, Nat.zero_le _, TRow.nil _ _, Only.refl _ _⟩
 case round =>
  obtain ⟨j, rfl, hj, hrow, hon⟩ := hrel
  obtain ⟨al, cl, rfl, l1, l2, l3, -⟩ := id hrow.types
  have HROW := hid hrow
  have HON := hid hon
  have HTY := hid hrow.types
  clear l3
  by_cases hlt : j < l.length
  ·have hjz : (j : Int) < (l.length : Int) := by omega
   have hj0 : (0 : Int) ≤ (j : Int) := by omega
   obtain ⟨b, o, rfl, y⟩ := Sl.at (MethNs.only hon HL.out) hlt
   obtain ⟨y0, y1, y2⟩ := y
   have hstep := typesZ_take (f := f) hlt
   have hds := HD.out _ (getD_memM hlt)
   have hln := typesZ_le f (l.take j)
   rw [List.length_take] at hln
   clear hrow hon
   by_cases hf : (l.getD j default).flags = f
   ·rw [if_pos hf] at hstep
    rw [hf] at y2
    have cf := fun w' => refField (l.getD j default).desc w' (by omega)
    rw [show oneZ8 (nums (l.getD j default).desc) = oneZ8 (nums (l.getD j default).desc) from rfl] at cf
    have hu0 : typO (oneZ8 (nums (l.getD j default).desc)) = typeZ (l.getD j default) := rfl
    rw [hu0] at cf
    obtain ⟨u, hu⟩ : ∃ u, typeZ (l.getD j default) = u := ⟨_, rfl⟩
    rw [hu] at cf hstep
    generalize typesZ f (l.take j) = ts at *
    have HST := hid hstep
    generalize l.getD j default = p at *
    generalize errO (oneZ8 (nums p.desc)) = er at *
    unfold valT at cf
    have CF := hid cf
    clear hstep cf hu hu0 hf hds
    go_wp2_with (fail)
    refine (CF.out _).mono ?_
    rintro e w3 ⟨rfl, ho3⟩
    have hal := (Only.refl (fun _ => False) w3).alloc (.cells #[.int .i64 u.k, .string u.name, .int .i64 u.dims, .int .i64 u.elem, .int .i64 u.at_] 117)
    have hal2 := hal.alloc (.cells #[.int .i64 u.k, .string u.name, .int .i64 u.dims, .int .i64 u.elem, .int .i64 u.at_] 117)
    have HON4 := hid ((HON.out.trans ho3 (fun _ h _ => h)).trans hal2 (fun _ h _ => h))
    have HROW5 := hid ((HROW.out.only ho3 (fun _ _ h => h)).only hal2 (fun _ _ h => h))
    have HSRC := hid (Src.type (w := w3.alloc (.cells #[.int .i64 u.k, .string u.name, .int .i64 u.dims, .int .i64 u.elem, .int .i64 u.at_] 117)) (m := w3.heap.size + 1) u (by simp))
    have HGE := hid ((HROW.out.only ho3 (fun _ _ h => h)).ge)
    have HBASE := hid (show w.heap.size ≤ ((w3.alloc (.cells #[.int .i64 u.k, .string u.name, .int .i64 u.dims, .int .i64 u.elem, .int .i64 u.at_] 117)).alloc (.cells #[.int .i64 u.k, .string u.name, .int .i64 u.dims, .int .i64 u.elem, .int .i64 u.at_] 117)).heap.size by have := (HON.out.trans ho3 (fun _ h _ => h)).size; simp; omega)
    clear ho3 hal hal2 CF
    go_wp2_with (at_builtin; go_loud (refine wpList_append_src rfl (.tmp 31) (.tmp 33) 62 rfl 117 i0 (.agg #[.int .i64 0, .string ⟨#[]⟩, .int .i64 0, .int .i64 0, .int .i64 0]) 5 48 Tryz.underlying62 hi hz0 hz1 hz2 rfl (by decide) w.heap.size (.slice al ts.length cl) ts.length (ts.flatMap cellsTy) rfl (by exact HROW5.out) (by exact HBASE.out) (.slice (some ⟨w3.heap.size + 1, 0, none⟩) 1 1) 1 (cellsTy u) rfl (by exact HSRC.out) (by unfold maxLen; omega) (by omega) ?_); intro v' w5 hown hgrow hnew; have hos := only_grownT hgrow; have hrow6 := TRow.more hown; have hon6 := HON4.out.trans hos (fun j hj hl => by have := (HGE.out _ hj).1; omega); clear hown hgrow hnew hos; have HROW6 := hid hrow6; have HON6 := hid hon6; clear hrow6 hon6)
    go_roundw
    case rel => exact ⟨j + 1, rfl, by omega, by rw [HST.out]; exact HROW6.out, HON6.out⟩
    case measure => show _ - _ < _ - _; simp only [intOf]; omega
   ·have hfb : ((l.getD j default).flags == f) = false := by rw [beq_eq_false_iff_ne]; exact hf
    rw [if_neg hf, List.append_nil] at hstep
    have HST := hid hstep
    have HTS := hid (show True from trivial)
    generalize l.getD j default = p at *
    clear hstep hds
    go_wp2
    go_roundw
    case rel => exact ⟨j + 1, rfl, by omega, by rw [HST.out]; exact HROW.out, HON.out⟩
    case measure => show _ - _ < _ - _; simp only [intOf]; omega
  ·have hje : j = l.length := by omega
   subst hje
   clear hrow hon
   go_wp2
   go_ret
   refine ⟨_, rfl, ?_, HON.out⟩
   rw [show typesZ f l = typesZ f (l.take l.length) by rw [List.take_length]]
   exact HROW.out
theorem cellsTy_len (cs : List TypeV) : (cs.flatMap cellsTy).length = cs.length * 5 := by
 induction cs with
 | nil => rfl
 | cons c r ih => rw [List.flatMap_cons, List.length_append, ih]; simp [cellsTy]; omega
theorem Src.of_types {w : World} {v : Value} {cs : List TypeV} (h : Types w v cs) : Src w 5 v cs.length (cs.flatMap cellsTy) := by
 obtain ⟨ao, cap, rfl, h1, h2, h3, h5⟩ := h
 refine ⟨cellsTy_len cs, ?_, ao, cap, rfl, fun e => ⟨by have := h3 e; omega, h3 e⟩, fun ad hd j u hj => ?_⟩
 ·intro u hu
  obtain ⟨c, _, hc⟩ := List.mem_flatMap.1 hu
  simp only [cellsTy, List.mem_cons, List.mem_nil_iff, or_false] at hc
  rcases hc with rfl | rfl | rfl | rfl | rfl <;> rfl
 ·have hjl : j < cs.length * 5 := by rw [← cellsTy_len]; exact (List.getElem?_eq_some_iff.1 hj).1
  obtain ⟨b, o, rfl, hc⟩ := h5 ad hd (by omega)
  have hi : j / 5 < cs.length := by omega
  have hd5 : j % 5 < 5 := by omega
  have hat := cellsT_at (cs := cs) (i := j / 5) (d := j % 5) hi hd5
  rw [show j / 5 * 5 + j % 5 = j by omega, hj] at hat
  rw [add_lit, show o + j = o + j / 5 * 5 + j % 5 by omega]
  obtain ⟨c0, c1, c2, c3, c4⟩ := hc (j / 5) hi
  generalize cs.getD (j / 5) default = c at *
  have h5' : j % 5 = 0 ∨ j % 5 = 1 ∨ j % 5 = 2 ∨ j % 5 = 3 ∨ j % 5 = 4 := by omega
  rcases h5' with e | e | e | e | e
  ·rw [e] at hat ⊢; rw [Nat.add_zero, c0]; simpa [cellsTy] using hat.symm
  ·rw [e] at hat ⊢; rw [c1]; simpa [cellsTy] using hat.symm
  ·rw [e] at hat ⊢; rw [c2]; simpa [cellsTy] using hat.symm
  ·rw [e] at hat ⊢; rw [c3]; simpa [cellsTy] using hat.symm
  ·rw [e] at hat ⊢; rw [c4]; simpa [cellsTy] using hat.symm
theorem TRow.join {w3 : World} {B : Nat} {v' : Value} {cs ds : List TypeV} (hown : w3.ownsRow B 117 5 v' (cs.length + ds.length) (cs.flatMap cellsTy ++ ds.flatMap cellsTy)) : TRow w3 B v' (cs ++ ds) := by
 unfold TRow
 rw [List.length_append, List.flatMap_append]
 exact hown
def staticsZ (ks : List KindV) (n : Nat) : List TypeV := (ks.take n).flatMap (fun k => typesZ 8 k.fields)
theorem staticsZ_step {ks : List KindV} {n : Nat} (h : n < ks.length) : staticsZ ks (n + 1) = staticsZ ks n ++ typesZ 8 (ks.getD n default).fields := by
 rw [staticsZ, List.take_succ_eq_append_getElem h, List.flatMap_append]
 rw [show ks.getD n default = ks[n] by simp [List.getD, h]]
 simp [staticsZ]
theorem staticsZ_len {ks : List KindV} : ∀ {n : Nat}, n ≤ ks.length → (staticsZ ks n).length = staticsN ks n
 | 0, _ => rfl
 | n + 1, h => by rw [staticsZ_step (by omega), List.length_append, staticsZ_len (by omega), staticsN_step (by omega), typesZ_len]
def DescsAll (ks : List KindV) : Prop := ∀ k ∈ ks, Descs k.fields
set_option maxRecDepth 100000 in
theorem refStatics (pb : Nat) (ks : List KindV) (cs : List ClassV) (w : World) (hd : DocP w pb ks cs) (hs : SmallK ks) (hds : DescsAll ks) :
  Calls Tryz.prog 26 #[.pointer (some ⟨pb, 0, none⟩)] w (TypesTo w (staticsZ ks ks.length)) := by
 obtain ⟨i0, hi, hz0, hz1, hz2⟩ := info_parts info_type
 have HD := hid hd
 have HS := hid hs
 have HDS := hid hds
 have hkl := hs.1
 clear hd hs hds
 go_enter Tryz.func26, Tryz.ntmps26
 go_wp2
 go_loopw [4, 3] (fun iv lv wr => ∃ j : Nat, iv = .int .i64 j ∧ j ≤ ks.length ∧ TRow wr w.heap.size lv (staticsZ ks j) ∧ Only (fun _ => False) w wr) (fun iv _ _ => ks.length - (intOf iv).toNat)
 case atStart => exact ⟨0, rfl, Nat.zero_le _, TRow.nil _ _, Only.refl _ _⟩
 case round =>
  obtain ⟨j, rfl, hj, hrow, hon⟩ := hrel
  obtain ⟨al, cl, rfl, l1, l2, l3, -⟩ := id hrow.types
  have HROW := hid hrow
  have HON := hid hon
  obtain ⟨vl, vi, q0, q1, hk, hc⟩ := HD.out.only hon
  obtain ⟨ao, cap, rfl, p1, p2⟩ := hk.len
  clear l3 hrow hon
  by_cases hlt : j < ks.length
  ·have hjz : (j : Int) < (ks.length : Int) := by omega
   have hj0 : (0 : Int) ≤ (j : Int) := by omega
   obtain ⟨b, o, vf, vm, rfl, y, hf, -⟩ := hk.at hlt
   have q2 := y.c2
   have hstep := staticsZ_step hlt
   have hln : (staticsZ ks j).length ≤ 64 * j := by rw [staticsZ_len (Nat.le_of_lt hlt)]; exact staticsN_le HS.out (Nat.le_of_lt hlt)
   have hfl := (HS.out.2 _ (getD_mem hlt)).1
   have hul := typesZ_le 8 (ks.getD j default).fields
   have cf := refTypes vf (ks.getD j default).fields 8 wr hf (by omega) (HDS.out _ (getD_mem hlt))
   generalize ks.getD j default = p at *
   generalize typesZ 8 p.fields = us at *
   generalize staticsZ ks j = ts at *
   have HST := hid hstep
   have CF := hid cf
   clear hstep cf hk hc q1 y hf
   go_wp2_with (fail)
   refine CF.out.mono ?_
   rintro e w3 ⟨r, rfl, hr3, ho3⟩
   obtain ⟨ar, cr, rfl, r1, r2, r3, -⟩ := id hr3.types
   have HON4 := hid (HON.out.trans ho3 (fun _ h _ => h))
   have HROW5 := hid (HROW.out.only ho3 (fun _ _ h => h))
   have HSRC := hid (Src.of_types hr3.types)
   have HGE := hid ((HROW.out.only ho3 (fun _ _ h => h)).ge)
   have HBASE := hid (show w.heap.size ≤ w3.heap.size from (HON.out.trans ho3 (fun _ h _ => h)).size)
   clear hr3 ho3 r3 CF
   go_wp2_with (at_builtin; go_loud (refine wpList_append_src rfl (.tmp 14) (.tmp 23) 62 rfl 117 i0 (.agg #[.int .i64 0, .string ⟨#[]⟩, .int .i64 0, .int .i64 0, .int .i64 0]) 5 48 Tryz.underlying62 hi hz0 hz1 hz2 rfl (by decide) w.heap.size (.slice al ts.length cl) ts.length (ts.flatMap cellsTy) rfl (by exact HROW5.out) (by exact HBASE.out) (.slice ar us.length cr) us.length (us.flatMap cellsTy) rfl (by exact HSRC.out) (by unfold maxLen; omega) (by omega) ?_); intro v' w5 hown hgrow hnew; have hos := only_grownT hgrow; have hrow6 := TRow.join hown; have hon6 := HON4.out.trans hos (fun j hj hl => by have := (HGE.out _ hj).1; omega); clear hown hgrow hnew hos; have HROW6 := hid hrow6; have HON6 := hid hon6; clear hrow6 hon6)
   go_roundw
   case rel => exact ⟨j + 1, rfl, by omega, by rw [HST.out]; exact HROW6.out, HON6.out⟩
   case measure => simp only [intOf]; omega
  ·have hje : j = ks.length := by omega
   subst hje
   clear hk hc
   go_wp2
   go_ret
   exact ⟨_, rfl, HROW.out, HON.out⟩
end Go.Proofs.YtemplkpcckmcoaaGreatDoor
