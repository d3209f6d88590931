import Derived.Test.YtemplkpcckmcoaaGreatDoorMkClsDKndB
import Derived.Test.YtemplkpcckmcoaaGreatDoorMkPolXClsB
namespace Go.Proofs.YtemplkpcckmcoaaGreatDoor
set_option maxHeartbeats 4000000
open Lib (hid)
open Go.RowKit
set_option linter.unusedVariables false
set_option linter.unusedSimpArgs false
def oneZ8 (zs : List Int) : Option TypeV := match fieldZ zs with | some (t, []) => some t | _ => none
def typO (r : Option TypeV) : TypeV := match r with | some t => t | none => zeroT
def errO (r : Option TypeV) : Int := match r with | some _ => 0 | none => 80
theorem cells5T {w : World} {b : Nat} {c0 c1 c2 c3 c4 : Value} {t : TypeId} {f : Nat × Nat} (h : w.heap[b]? = some (.cells #[c0, c1, c2, c3, c4] t f)) :
  w.cell? ⟨b, 0, none⟩ = some c0 ∧ w.cell? ⟨b, 1, none⟩ = some c1 ∧ w.cell? ⟨b, 2, none⟩ = some c2 ∧ w.cell? ⟨b, 3, none⟩ = some c3 ∧ w.cell? ⟨b, 4, none⟩ = some c4 :=
 ⟨cell_blk h 0, cell_blk h 1, cell_blk h 2, cell_blk h 3, cell_blk h 4⟩
theorem marks5T {w : World} {b : Nat} {c : Array Value} {t : TypeId} (h : w.heap[b]? = some (.cells c t (0, 0))) :
  w.frozen? ⟨b, 0, none⟩ = false ∧ w.frozen? ⟨b, 1, none⟩ = false ∧ w.frozen? ⟨b, 2, none⟩ = false ∧ w.frozen? ⟨b, 3, none⟩ = false ∧ w.frozen? ⟨b, 4, none⟩ = false :=
 ⟨frozen_blk h 0, frozen_blk h 1, frozen_blk h 2, frozen_blk h 3, frozen_blk h 4⟩
theorem store5T {w : World} {b : Nat} {T : TypeId} {f : Nat × Nat} {o0 o1 o2 o3 o4 a0 a1 a2 a3 a4 : Value} (h : w.heap[b]? = some (.cells #[o0, o1, o2, o3, o4] T f)) :
  (((((w.setCell ⟨b, 0, none⟩ a0).setCell ⟨b, 1, none⟩ a1).setCell ⟨b, 2, none⟩ a2).setCell ⟨b, 3, none⟩ a3).setCell ⟨b, 4, none⟩ a4).heap[b]? = some (.cells #[a0, a1, a2, a3, a4] T f) := by
 have h0 := heap_setCell_at (i := 0) (u := a0) h
 simp only [List.setIfInBounds_toArray, List.set_cons_zero, List.set_cons_succ] at h0
 have h1 := heap_setCell_at (i := 1) (u := a1) h0
 simp only [List.setIfInBounds_toArray, List.set_cons_zero, List.set_cons_succ] at h1
 have h2 := heap_setCell_at (i := 2) (u := a2) h1
 simp only [List.setIfInBounds_toArray, List.set_cons_zero, List.set_cons_succ] at h2
 have h3 := heap_setCell_at (i := 3) (u := a3) h2
 simp only [List.setIfInBounds_toArray, List.set_cons_zero, List.set_cons_succ] at h3
 have h4 := heap_setCell_at (i := 4) (u := a4) h3
 simp only [List.setIfInBounds_toArray, List.set_cons_zero, List.set_cons_succ] at h4
 exact h4
theorem only5T {S : Nat → Prop} {w w' : World} {b : Nat} {a0 a1 a2 a3 a4 : Value} (h : Only S w w') (hb : b < w.heap.size → S b) :
  Only S w (((((w'.setCell ⟨b, 0, none⟩ a0).setCell ⟨b, 1, none⟩ a1).setCell ⟨b, 2, none⟩ a2).setCell ⟨b, 3, none⟩ a3).setCell ⟨b, 4, none⟩ a4) := by
 iterate 5 (refine Only.setCell (S := S) ?_ hb _)
 exact h
theorem type_result2 {fn : Func} {p q : Tmp} (hr : fn.results = #[.cell p 117, .tmp q]) {w : World} {b : Nat} {t : TypeV} {x : Value} {tmps : Array Value} (h : w.heap[b]? = some (.cells #[.int .i64 t.k, .string t.name, .int .i64 t.dims, .int .i64 t.elem, .int .i64 t.at_] 117 (0, 0))) (ht : tmps.getD p undef = .pointer (some ⟨b, 0, none⟩)) (hx : tmps.getD q undef = x) :
  (results fn tmps).run Tryz.prog w = .ok (.tuple #[valT t, x]) w := by
 rw [results_cell_tmp hr, ht, hx, show (asAddr (.pointer (some ⟨b, 0, none⟩))).run Tryz.prog w = .ok ⟨b, 0, none⟩ w from rfl]
 simp only [Result.andThen]
 rw [run_loadVar_row w b 117 117 _ (0, 0) _ h Tryz.underlying117 rfl info5_type]
 rfl
theorem toList_empty : (⟨#[]⟩ : ByteArray).toList = [] := by rw [ByteArray.toList_eq]
theorem toList_ne {s : ByteArray} (h : s ≠ ⟨#[]⟩) : s.toList.isEmpty = false ∧ ¬ s.toList = [] := by
 have h2 : ¬ s.toList = [] := fun e => h (toList_inj' (by rw [e, toList_empty]))
 refine ⟨?_, h2⟩
 cases hq : s.toList with
 | nil => exact absurd hq h2
 | cons _ _ => rfl
theorem nums_nil : nums ⟨#[]⟩ = [] := rfl
theorem strOf_ne {c : Int} {r : List Int} {s : ByteArray} (h : nums s = c :: r) : s ≠ ⟨#[]⟩ := fun e => by rw [e, nums_nil] at h; cases h
theorem base_rest {d : Nat} {zs r : List Int} {t : TypeV} (h : baseZ d zs = some (t, r)) : ∃ n, r = zs.drop n ∧ r.length < zs.length := by
 cases zs with
 | nil => cases h
 | cons c q =>
  unfold baseZ at h
  simp only at h
  split at h
  ·cases h
  split at h
  ·simp only [Option.some.injEq, Prod.mk.injEq] at h
   exact ⟨1, h.2.symm, by rw [← h.2]; simp⟩
  split at h
  ·simp only [Option.some.injEq, Prod.mk.injEq] at h
   exact ⟨1, h.2.symm, by rw [← h.2]; simp⟩
  split at h
  ·split at h
   ·cases h
   split at h
   ·simp only [Option.some.injEq, Prod.mk.injEq] at h
    exact ⟨semiZ q + 1 + 1, h.2.symm, by rw [← h.2]; simp; omega⟩
   ·cases h
  ·cases h
theorem field_rest {zs r : List Int} {t : TypeV} (h : fieldZ zs = some (t, r)) : ∃ n, r = zs.drop n ∧ r.length < zs.length := by
 obtain ⟨n, h1, h2⟩ := base_rest h
 rw [List.length_drop] at h2
 exact ⟨dimsZ zs + n, by rw [h1, List.drop_drop], by omega⟩
theorem nums_strOf_drop (s : ByteArray) (n : Nat) : nums (strOfNums ((nums s).drop n)) = (nums s).drop n := by
 rw [← nums_rest s n, str_nums]
set_option maxRecDepth 100000 in
theorem refField (s : ByteArray) (w : World) (hs : s.size ≤ 281474976710656) :
  Calls Tryz.prog 56 #[.string s] w fun e w' => e = .returned (.tuple #[valT (typO (oneZ8 (nums s))), .int .i64 (errO (oneZ8 (nums s)))]) ∧ Only (fun _ => False) w w' := by
 have hr0 := heap_alloc_new w (.cells #[.int .i64 0, .string ⟨#[]⟩, .int .i64 0, .int .i64 0, .int .i64 0] 117)
 have ho0 := (Only.refl (fun _ => False) w).alloc (.cells #[.int .i64 0, .string ⟨#[]⟩, .int .i64 0, .int .i64 0, .int .i64 0] 117)
 have c1 := refField0 s (w.alloc (.cells #[.int .i64 0, .string ⟨#[]⟩, .int .i64 0, .int .i64 0, .int .i64 0] 117)) hs
 obtain ⟨o, ho⟩ : ∃ o, o = oneZ8 (nums s) := ⟨_, rfl⟩
 rw [← ho]
 unfold oneZ8 at ho
 have HR0 := hid hr0
 have HO0 := hid ho0
 cases hf : fieldZ (nums s) with
 | none =>
  rw [hf] at c1 ho
  simp only at ho
  subst ho
  unfold FieldTo typF restF okF zeroT valT at c1
  simp only [Option.isSome] at c1
  have C1 := hid c1
  clear c1 hf hr0 ho0
  go_enter Tryz.func56, Tryz.ntmps56
  go_wp2_with (fail)
  refine C1.out.mono ?_
  rintro e w1 ⟨rfl, ho1⟩
  have hal := (Only.refl (fun _ => False) w1).alloc (.cells #[.int .i64 0, .string ⟨#[]⟩, .int .i64 0, .int .i64 0, .int .i64 0] 117)
  have hr1 := hal.heap (ho1.heap HR0.out (fun h => h)) (fun h => h)
  have HON1 := hid ((HO0.out.trans ho1 (fun _ h _ => h)).trans hal (fun _ h _ => h))
  obtain ⟨f0, f1, f2, f3, f4⟩ := marks5T hr1
  obtain ⟨q0, q1, q2, q3, q4⟩ := cells5T hr1
  have HR1 := hid hr1
  clear hal hr1 ho1 C1
  go_wp2
  exact bodyPost_ret (type_result2 (t := zeroT) (b := w.heap.size) Tryz.results56 (store5T HR1.out) rfl rfl) rfl ⟨rfl, only5T HON1.out (fun hl => absurd hl (Nat.lt_irrefl _))⟩
 | some q =>
  obtain ⟨t, r⟩ := q
  rw [hf] at c1 ho
  obtain ⟨n, hn, _⟩ := field_rest hf
  unfold FieldTo typF restF okF valT at c1
  simp only [Option.isSome] at c1
  by_cases hr : r = []
  ·subst hr
   simp only at ho
   subst ho
   rw [show strOfNums [] = ⟨#[]⟩ from rfl] at c1
   have C1 := hid c1
   clear c1 hf hr0 ho0 hn
   go_enter Tryz.func56, Tryz.ntmps56
   go_wp2_with (fail)
   refine C1.out.mono ?_
   rintro e w1 ⟨rfl, ho1⟩
   have hal := (Only.refl (fun _ => False) w1).alloc (.cells #[.int .i64 t.k, .string t.name, .int .i64 t.dims, .int .i64 t.elem, .int .i64 t.at_] 117)
   have hr1 := hal.heap (ho1.heap HR0.out (fun h => h)) (fun h => h)
   have HON1 := hid ((HO0.out.trans ho1 (fun _ h _ => h)).trans hal (fun _ h _ => h))
   obtain ⟨f0, f1, f2, f3, f4⟩ := marks5T hr1
   obtain ⟨q0, q1, q2, q3, q4⟩ := cells5T hr1
   have HR1 := hid hr1
   clear hal hr1 ho1 C1
   go_wp2
   exact bodyPost_ret (type_result2 (t := t) (b := w.heap.size) Tryz.results56 (store5T HR1.out) rfl rfl) rfl ⟨rfl, only5T HON1.out (fun hl => absurd hl (Nat.lt_irrefl _))⟩
  ·have ho' : o = none := by
    rw [ho]
    cases r with
    | nil => exact absurd rfl hr
    | cons _ _ => rfl
   subst ho'
   have hsne : strOfNums r ≠ ⟨#[]⟩ := fun e => by
    have := nums_strOf_drop s n
    rw [← hn, e, nums_nil] at this
    exact hr this.symm
   obtain ⟨e1, e2⟩ := toList_ne hsne
   generalize strOfNums r = u at *
   have C1 := hid c1
   clear c1 hf hr0 ho0 hn hr ho hsne
   go_enter Tryz.func56, Tryz.ntmps56
   go_wp2_with (fail)
   refine C1.out.mono ?_
   rintro e w1 ⟨rfl, ho1⟩
   have hal := (Only.refl (fun _ => False) w1).alloc (.cells #[.int .i64 t.k, .string t.name, .int .i64 t.dims, .int .i64 t.elem, .int .i64 t.at_] 117)
   have hr1 := hal.heap (ho1.heap HR0.out (fun h => h)) (fun h => h)
   have HON1 := hid ((HO0.out.trans ho1 (fun _ h _ => h)).trans hal (fun _ h _ => h))
   obtain ⟨f0, f1, f2, f3, f4⟩ := marks5T hr1
   obtain ⟨q0, q1, q2, q3, q4⟩ := cells5T hr1
   have HR1 := hid hr1
   clear hal hr1 ho1 C1
   go_wp2
   exact bodyPost_ret (type_result2 (t := zeroT) (b := w.heap.size) Tryz.results56 (store5T HR1.out) rfl rfl) rfl ⟨rfl, only5T HON1.out (fun hl => absurd hl (Nat.lt_irrefl _))⟩
structure PairV where
 name : ByteArray
 super : ByteArray
instance : Inhabited PairV := ⟨⟨⟨#[]⟩, ⟨#[]⟩⟩⟩
structure PairAt (w : World) (b o i : Nat) (p : PairV) : Prop where
 c0 : w.cell? ⟨b, o + i * 2, none⟩ = some (.string p.name)
 c1 : w.cell? ⟨b, o + i * 2 + 1, none⟩ = some (.string p.super)
def Pairs (w : World) (v : Value) (l : List PairV) : Prop := Sl v l.length (fun b o i => PairAt w b o i (l.getD i default))
theorem Pairs.only {w w' : World} {v : Value} {l : List PairV} (h : Pairs w v l) (ho : Only (fun _ => False) w w') : Pairs w' v l := h.imp (fun _ _ _ _ _ h => ⟨ho.cell h.c0 (fun h => h), ho.cell h.c1 (fun h => h)⟩)
def pairFrom (x : ByteArray) : Nat → List PairV → Int
 | _, [] => -1
 | i, p :: r => if p.name = x then i else pairFrom x (i + 1) r
theorem pairFrom_at {x : ByteArray} {l : List PairV} {j : Nat} (h : j < l.length) : pairFrom x j (l.drop j) = if (l.getD j default).name = x then (j : Int) else pairFrom x (j + 1) (l.drop (j + 1)) := by
 rw [List.drop_eq_getElem_cons h]
 show (if (l[j]).name = x then _ else _) = _
 rw [show l.getD j default = l[j] by simp [List.getD, h]]
theorem pairFrom_range {x : ByteArray} : ∀ (l : List PairV) (i : Nat), pairFrom x i l = -1 ∨ ∃ j : Nat, j < l.length ∧ pairFrom x i l = ((i + j : Nat) : Int)
 | [], i => .inl rfl
 | p :: r, i => by
  by_cases h : p.name = x
  ·exact .inr ⟨0, by simp, by rw [pairFrom, if_pos h]; rfl⟩
  ·rw [pairFrom, if_neg h]
   rcases pairFrom_range r (i + 1) with h1 | ⟨j, h1, h2⟩
   ·exact .inl h1
   ·exact .inr ⟨j + 1, by simpa using h1, by rw [h2]; congr 1; omega⟩
def pairOf (l : List PairV) (x : ByteArray) : Int := pairFrom x 0 l
theorem pairOf_cases (l : List PairV) (x : ByteArray) : pairOf l x = -1 ∨ ∃ j : Nat, j < l.length ∧ pairOf l x = (j : Int) := by
 rcases pairFrom_range (x := x) l 0 with h | ⟨j, h1, h2⟩
 ·exact .inl h
 ·exact .inr ⟨j, h1, by rw [pairOf, h2, Nat.zero_add]⟩
def belowN (l : List PairV) (b : ByteArray) : Nat → ByteArray → Bool
 | 0, a => decide (a = b)
 | n + 1, a => decide (a = b) || (if pairOf l a < 0 then false else belowN l b n (l.getD (pairOf l a).toNat default).super)
def belowZ (l : List PairV) (a b : ByteArray) : Bool := belowN l b l.length a
theorem belowN_same (l : List PairV) (b : ByteArray) (n : Nat) : belowN l b n b = true := by cases n <;> simp [belowN]
theorem belowN_none {l : List PairV} {a b : ByteArray} {n : Nat} (h : a ≠ b) (hp : pairOf l a = -1) : belowN l b n a = false := by
 cases n with
 | zero => simp [belowN, h]
 | succ n => rw [belowN, hp]; simp [h]
theorem belowN_step {l : List PairV} {a b : ByteArray} {n j : Nat} (h : a ≠ b) (hp : pairOf l a = (j : Int)) : belowN l b (n + 1) a = belowN l b n (l.getD j default).super := by
 rw [belowN, hp, if_neg (by omega), Int.toNat_natCast]
 simp [h]
theorem belowN_last {l : List PairV} {a b : ByteArray} (h : a ≠ b) : belowN l b 0 a = false := by simp [belowN, h]
theorem toList_beq {a b : ByteArray} (h : a ≠ b) : (a.toList == b.toList) = false ∧ ¬ a.toList = b.toList := by
 have h2 : ¬ a.toList = b.toList := fun e => h (toList_inj' e)
 exact ⟨by rw [beq_eq_false_iff_ne]; exact h2, h2⟩
structure MethN where
 name : ByteArray
 desc : ByteArray
 flags : Int
instance : Inhabited MethN := ⟨⟨⟨#[]⟩, ⟨#[]⟩, 0⟩⟩
structure KindV where
 name : ByteArray
 super : ByteArray
 fields : List MethN
 meths : List MethN
 place : Int
instance : Inhabited KindV := ⟨⟨⟨#[]⟩, ⟨#[]⟩, [], [], 0⟩⟩
structure MethNAt (w : World) (b o i : Nat) (m : MethN) : Prop where
 c0 : w.cell? ⟨b, o + i * 3, none⟩ = some (.string m.name)
 c1 : w.cell? ⟨b, o + i * 3 + 1, none⟩ = some (.string m.desc)
 c2 : w.cell? ⟨b, o + i * 3 + 2, none⟩ = some (.int .i64 m.flags)
def MethNs (w : World) (v : Value) (ms : List MethN) : Prop := Sl v ms.length (fun b o i => MethNAt w b o i (ms.getD i default))
structure KindAt (w : World) (b o i : Nat) (k : KindV) (vf vm : Value) : Prop where
 c0 : w.cell? ⟨b, o + i * 5, none⟩ = some (.string k.name)
 c1 : w.cell? ⟨b, o + i * 5 + 1, none⟩ = some (.string k.super)
 c2 : w.cell? ⟨b, o + i * 5 + 2, none⟩ = some vf
 c3 : w.cell? ⟨b, o + i * 5 + 3, none⟩ = some vm
 c4 : w.cell? ⟨b, o + i * 5 + 4, none⟩ = some (.int .i64 k.place)
def Kinds (w : World) (v : Value) (ks : List KindV) : Prop :=
 ∃ f : Nat → Value × Value, Sl v ks.length (fun b o i => KindAt w b o i (ks.getD i default) (f i).1 (f i).2) ∧ ∀ i, i < ks.length → MethNs w (f i).1 (ks.getD i default).fields ∧ MethNs w (f i).2 (ks.getD i default).meths
structure ClassAt (w : World) (b o i : Nat) (c : ClassV) (vp vf vm : Value) : Prop where
 c0 : w.cell? ⟨b, o + i * 5, none⟩ = some vp
 c1 : w.cell? ⟨b, o + i * 5 + 1, none⟩ = some (.int .i64 c.this)
 c2 : w.cell? ⟨b, o + i * 5 + 2, none⟩ = some (.int .i64 c.super)
 c3 : w.cell? ⟨b, o + i * 5 + 3, none⟩ = some vf
 c4 : w.cell? ⟨b, o + i * 5 + 4, none⟩ = some vm
instance : Inhabited ClassV := ⟨⟨[], 0, 0, [], []⟩⟩
def Classes (w : World) (v : Value) (cs : List ClassV) : Prop :=
 ∃ f : Nat → Value × Value × Value, Sl v cs.length (fun b o i => ClassAt w b o i (cs.getD i default) (f i).1 (f i).2.1 (f i).2.2) ∧ ∀ i, i < cs.length → ClassM w (f i).1 (f i).2.1 (f i).2.2 (cs.getD i default)
def DocP (w : World) (b : Nat) (ks : List KindV) (cs : List ClassV) : Prop :=
 ∃ vl vi, w.cell? ⟨b, 0, none⟩ = some vl ∧ w.cell? ⟨b, 1, none⟩ = some vi ∧ Kinds w vl ks ∧ Classes w vi cs
section
variable {w w' : World} (ho : Only (fun _ => False) w w')
include ho
theorem MethNs.only {v : Value} {ms : List MethN} (h : MethNs w v ms) : MethNs w' v ms := h.imp (fun _ _ _ _ _ h => ⟨ho.cell h.c0 (fun h => h), ho.cell h.c1 (fun h => h), ho.cell h.c2 (fun h => h)⟩)
theorem KindAt.only {b o i : Nat} {k : KindV} {vf vm : Value} (h : KindAt w b o i k vf vm) : KindAt w' b o i k vf vm := ⟨ho.cell h.c0 (fun h => h), ho.cell h.c1 (fun h => h), ho.cell h.c2 (fun h => h), ho.cell h.c3 (fun h => h), ho.cell h.c4 (fun h => h)⟩
theorem Kinds.only {v : Value} {ks : List KindV} (h : Kinds w v ks) : Kinds w' v ks := by
 obtain ⟨f, h1, h2⟩ := h
 exact ⟨f, h1.imp (fun _ _ _ _ _ h => h.only ho), fun i hi => ⟨(h2 i hi).1.only ho, (h2 i hi).2.only ho⟩⟩
theorem Classes.only {v : Value} {cs : List ClassV} (h : Classes w v cs) : Classes w' v cs := by
 obtain ⟨f, h1, h2⟩ := h
 exact ⟨f, h1.imp (fun _ _ _ _ _ h => ⟨ho.cell h.c0 (fun h => h), ho.cell h.c1 (fun h => h), ho.cell h.c2 (fun h => h), ho.cell h.c3 (fun h => h), ho.cell h.c4 (fun h => h)⟩), fun i hi => (h2 i hi).only ho⟩
theorem DocP.only {b : Nat} {ks : List KindV} {cs : List ClassV} (h : DocP w b ks cs) : DocP w' b ks cs := by
 obtain ⟨vl, vi, h1, h2, h3, h4⟩ := h
 exact ⟨vl, vi, ho.cell h1 (fun h => h), ho.cell h2 (fun h => h), h3.only ho, h4.only ho⟩
end
theorem Kinds.len {w : World} {v : Value} {ks : List KindV} (h : Kinds w v ks) : ∃ ao cap, v = .slice ao ks.length cap ∧ ks.length ≤ cap ∧ cap ≤ 9223372036854775807 := by
 obtain ⟨f, h1, _⟩ := h
 exact h1.slice
theorem Kinds.at {w : World} {ao : Option Addr} {cap : Nat} {ks : List KindV} (h : Kinds w (.slice ao ks.length cap) ks) {i : Nat} (hi : i < ks.length) : ∃ b o vf vm, ao = some ⟨b, o, none⟩ ∧ KindAt w b o i (ks.getD i default) vf vm ∧ MethNs w vf (ks.getD i default).fields ∧ MethNs w vm (ks.getD i default).meths := by
 obtain ⟨f, h1, h2⟩ := h
 obtain ⟨b, o, e, hc⟩ := Sl.at h1 hi
 exact ⟨b, o, _, _, e, hc, (h2 i hi).1, (h2 i hi).2⟩
def hasFrom (n d : ByteArray) : Nat → List MethN → Int
 | _, [] => -1
 | i, m :: r => if m.name = n ∧ m.desc = d then i else hasFrom n d (i + 1) r
theorem hasFrom_at {n d : ByteArray} {l : List MethN} {j : Nat} (h : j < l.length) : hasFrom n d j (l.drop j) = if (l.getD j default).name = n ∧ (l.getD j default).desc = d then (j : Int) else hasFrom n d (j + 1) (l.drop (j + 1)) := by
 rw [List.drop_eq_getElem_cons h]
 show (if (l[j]).name = n ∧ (l[j]).desc = d then _ else _) = _
 rw [show l.getD j default = l[j] by simp [List.getD, h]]
def hasZ (l : List MethN) (n d : ByteArray) : Int := hasFrom n d 0 l
theorem hasFrom_range {n d : ByteArray} : ∀ (l : List MethN) (i : Nat), hasFrom n d i l = -1 ∨ ∃ j : Nat, j < l.length ∧ hasFrom n d i l = ((i + j : Nat) : Int)
 | [], i => .inl rfl
 | p :: r, i => by
  by_cases h : p.name = n ∧ p.desc = d
  ·exact .inr ⟨0, by simp, by rw [hasFrom, if_pos h]; rfl⟩
  ·rw [hasFrom, if_neg h]
   rcases hasFrom_range r (i + 1) with h1 | ⟨j, h1, h2⟩
   ·exact .inl h1
   ·exact .inr ⟨j + 1, by simpa using h1, by rw [h2]; congr 1; omega⟩
theorem hasZ_cases (l : List MethN) (n d : ByteArray) : hasZ l n d = -1 ∨ ∃ j : Nat, j < l.length ∧ hasZ l n d = (j : Int) := by
 rcases hasFrom_range (n := n) (d := d) l 0 with h | ⟨j, h1, h2⟩
 ·exact .inl h
 ·exact .inr ⟨j, h1, by rw [hasZ, h2, Nat.zero_add]⟩
def countL (f : Int) (l : List MethN) : Nat := l.countP (fun m => m.flags == f)
theorem countL_take {f : Int} {l : List MethN} {j : Nat} (h : j < l.length) : countL f (l.take (j + 1)) = countL f (l.take j) + if (l.getD j default).flags = f then 1 else 0 := by
 rw [List.take_succ_eq_append_getElem h, countL, List.countP_append, List.countP_singleton]
 rw [show l.getD j default = l[j] by simp [List.getD, h]]
 simp [countL]
theorem countL_le (f : Int) (l : List MethN) : countL f l ≤ l.length := List.countP_le_length
set_option maxRecDepth 100000 in
theorem refHas (v : Value) (l : List MethN) (n d : ByteArray) (w : World) (hl : MethNs w v l) (hn : l.length ≤ 4611686018427387904) :
  Calls Tryz.prog 20 #[v, .string n, .string d] w fun e w' => e = .returned (.int .i64 (hasZ l n d)) ∧ w = w' := by
 obtain ⟨ao, cap, rfl, p1, p2, p3, -⟩ := id hl
 have HL := hid hl
 clear hl p3
 go_enter Tryz.func20, Tryz.ntmps20
 go_wp2
 go_loop [7] (fun iv => ∃ j : Nat, iv = .int .i64 j ∧ j ≤ l.length ∧ Hid (hasZ l n d = hasFrom n d j (l.drop j))) (fun iv => l.length - (intOf iv).toNat)
 case atStart => exact ⟨0, rfl, Nat.zero_le _, hid rfl⟩
 case round =>
  obtain ⟨j, rfl, hj, HH⟩ := hrel
  by_cases hlt : j < l.length
  ·have hjz : (j : Int) < (l.length : Int) := by omega
   have hj0 : (0 : Int) ≤ (j : Int) := by omega
   obtain ⟨b, o, rfl, y⟩ := Sl.at HL.out hlt
   obtain ⟨y0, y1, y2⟩ := y
   have HP := hid (hasFrom_at (n := n) (d := d) hlt)
   generalize l.getD j default = p at *
   by_cases h1 : p.name = n
   ·by_cases h2 : p.desc = d
    ·have HR := hid (show hasZ l n d = (j : Int) by rw [HH.out, HP.out, if_pos ⟨h1, h2⟩])
     rw [h1] at y0
     rw [h2] at y1
     clear h1 h2
     go_wp2
     go_ret
     rw [HR.out]
     exact ⟨rfl, rfl⟩
    ·have HR := hid (show hasZ l n d = hasFrom n d (j + 1) (l.drop (j + 1)) by rw [HH.out, HP.out, if_neg (fun h => h2 h.2)])
     rw [h1] at y0
     obtain ⟨n1, n2⟩ := toList_beq h2
     clear h1 h2
     go_wp2
     go_round
     case rel => exact ⟨j + 1, by go_num, by omega, HR⟩
     case measure => simp [intOf]; omega
   ·have HR := hid (show hasZ l n d = hasFrom n d (j + 1) (l.drop (j + 1)) by rw [HH.out, HP.out, if_neg (fun h => h1 h.1)])
    obtain ⟨n1, n2⟩ := toList_beq h1
    clear h1
    go_wp2
    go_round
    case rel => exact ⟨j + 1, by go_num, by omega, HR⟩
    case measure => simp [intOf]; omega
  ·have HR := hid (show hasZ l n d = -1 by rw [HH.out, List.drop_of_length_le (by omega)]; rfl)
   obtain rfl : j = l.length := by omega
   clear hlt hj
   go_wp2
   go_ret
   rw [HR.out]
   exact ⟨rfl, rfl⟩
end Go.Proofs.YtemplkpcckmcoaaGreatDoor
namespace Go.Proofs.YtemplkpcckmcoaaGreatDoor
set_option maxHeartbeats 4000000
open Lib (hid)
open Go.ChangeShapes Go.WideShapes Go.ChangeAt Go.RowKit Go.Deep
set_option linter.unusedVariables false
set_option linter.unusedSimpArgs false
theorem cells_class : Tryz.prog.cellsOf 37 = 5 := by kernel_rfl
section
variable {H : Type} {enc : TypeId × Value → H} {w : World} {held : Bool}
theorem open_slB (N : Nat) {β : Type} [Inhabited β] {t e : TypeId} {k : Nat} (ht : Tryz.prog.underlying t = some (.slice e)) (hk : Tryz.prog.cellsOf e = k) (hk0 : 0 < k) (R : β → List Value → Prop) (hne : ∀ z cs, R z cs → cs.length = k)
  (hopen : ∀ {fuel : Nat} {cs : List Value} {x : DataW H × List MemPlace}, DataW.trod enc Tryz.prog w 0 (fun _ => true) held fuel e cs = some x → cs.length = k → Light Tryz.prog e x.1 → Rows.uptoBulk x.1 ≤ N → ∃ z, R z cs)
  {fuel : Nat} {cs : List Value} {x : DataW H × List MemPlace} (h : DataW.trod enc Tryz.prog w 0 (fun _ => true) held fuel t cs = some x) (hL : Light Tryz.prog t x.1) (hN : Rows.uptoBulk x.1 ≤ N) :
  ∃ (v : Value) (zs : List β), cs = [v] ∧ Sl v zs.length (fun b o i => ∃ es, R (zs.getD i default) es ∧ ∀ d u, es[d]? = some u → w.cell? ⟨b, o + i * k + d, none⟩ = some u) ∧ (∀ z ∈ zs, ∃ es, R z es) := by
 rcases Go.Deep.open_slice ht h with ⟨rfl, _⟩ | ⟨a, len, cap, m, n, D, Pl, rfl, _, hl, hm, hmm, rfl, hi⟩
 ·exact ⟨_, [], rfl, Sl.nil _, fun z hz => by cases hz⟩
 ·simp only [if_true] at hmm
  subst hmm
  have hall : ∀ i, i < len → ∃ z : β, ∃ es, R z es ∧ w.cells? 0 (a.add (i * k)) k = some es := by
   intro i hil
   obtain ⟨es, hcs', htr⟩ := hi i (by omega)
   rw [hk] at hcs'
   obtain ⟨_, hlen, _⟩ := World.cells?_some hcs'
   have hLi : Light Tryz.prog e (D i) := light_elem ht hL (List.mem_map.2 ⟨i, List.mem_range.2 hil, rfl⟩)
   obtain ⟨z, hz⟩ := hopen htr hlen hLi (by
    have h2 := bulk_mem (l := (List.range len).map D) (d := D i) (List.mem_map.2 ⟨i, List.mem_range.2 hil, rfl⟩)
    simp only [Rows.uptoBulk] at hN
    show Rows.uptoBulk (D i) ≤ N
    omega)
   exact ⟨z, es, hz, hcs'⟩
  obtain ⟨f, hf⟩ := choose_lt hall
  have hget : ∀ i, i < len → ((List.range len).map f).getD i default = f i := fun i hi => by simp [List.getD, hi]
  refine ⟨_, (List.range len).map f, rfl, ⟨some a, _, by rw [List.length_map, List.length_range], by rw [List.length_map, List.length_range]; exact hl, by unfold maxLen at hm; omega, (fun e => by cases e), fun x hx h0 => ?_⟩, ?_⟩
  ·cases hx
   rw [List.length_map, List.length_range] at h0
   have hcell : ∀ i, i < len → ∃ es, R (f i) es ∧ ∀ d u, es[d]? = some u → w.cell? (a.add (i * k + d)) = some u := by
    intro i hi
    obtain ⟨es, hz, hcs'⟩ := hf i hi
    refine ⟨es, hz, fun d u hu => ?_⟩
    obtain ⟨_, hlen, hat⟩ := World.cells?_some hcs'
    have hd : d < k := by
     have := (List.getElem?_eq_some_iff.1 hu).1
     omega
    have := hat d hd
    rw [Go.Deep.add_add] at this
    rw [this, hu]
   obtain ⟨es0, hz0, hc0⟩ := hcell 0 h0
   have hp := plain_of_cell (x := a) (u := es0[0]'(by rw [hne _ _ hz0]; exact hk0)) (by have := hc0 0 _ (List.getElem?_eq_getElem (by rw [hne _ _ hz0]; exact hk0)); simpa using this)
   refine ⟨a.block, a.off, hp, fun i hi => ?_⟩
   rw [List.length_map, List.length_range] at hi
   rw [hget i hi]
   obtain ⟨es, hz, hc⟩ := hcell i hi
   refine ⟨es, hz, fun d u hu => ?_⟩
   have := hc d u hu
   rw [hp, add_lit] at this
   rw [Nat.add_assoc]
   exact this
  ·intro z hz
   obtain ⟨i, hi2, rfl⟩ := List.mem_map.1 hz
   obtain ⟨es, h1, _⟩ := hf i (List.mem_range.1 hi2)
   exact ⟨es, h1⟩
theorem open_classes {fuel : Nat} {cs : List Value} {x : DataW H × List MemPlace} (h : DataW.trod enc Tryz.prog w 0 (fun _ => true) held fuel 22 cs = some x) (hL : Light Tryz.prog 22 x.1) :
  ∃ v l, cs = [v] ∧ Classes w v l ∧ (∀ c ∈ l, ∀ k ∈ c.pool, k.text.size ≤ Rows.uptoBulk x.1) := by
 obtain ⟨v, zs, rfl, hs, hr⟩ := open_slB (β := ClassV × Value × Value × Value) (Rows.uptoBulk x.1) Tryz.underlying22 cells_class (by decide)
  (fun q cs => cs = [q.2.1, .int .i64 q.1.this, .int .i64 q.1.super, q.2.2.1, q.2.2.2] ∧ ClassM w q.2.1 q.2.2.1 q.2.2.2 q.1 ∧ ∀ k ∈ q.1.pool, k.text.size ≤ Rows.uptoBulk x.1) (fun z cs h => by rw [h.1]; rfl)
  (fun h hcs hL hN => by
   obtain ⟨vp, vf, vm, c, e, hm, _, hb⟩ := open_class h hcs hL
   exact ⟨⟨c, vp, vf, vm⟩, e, hm, fun k hk => Nat.le_trans (hb k hk) hN⟩) h hL (Nat.le_refl _)
 have hget : ∀ i, i < zs.length → (zs.map (·.1)).getD i default = (zs.getD i default).1 := fun i hi => by simp [List.getD, hi]
 refine ⟨v, zs.map (·.1), rfl, ⟨fun i => (zs.getD i default).2, ?_, ?_⟩, ?_⟩
 ·rw [List.length_map]
  refine hs.imp (fun b o i _ hi ⟨es, ⟨he, _⟩, hc⟩ => ?_)
  subst he
  rw [hget i hi]
  exact ⟨hc 0 _ rfl, hc 1 _ rfl, hc 2 _ rfl, hc 3 _ rfl, hc 4 _ rfl⟩
 ·intro i hi
  rw [List.length_map] at hi
  rw [hget i hi]
  obtain ⟨es, _, h2, _⟩ := hr _ (getD_mem hi)
  exact h2
 ·intro c hc k hk
  obtain ⟨q, hq, rfl⟩ := List.mem_map.1 hc
  obtain ⟨es, _, _, h3⟩ := hr q hq
  exact h3 k hk
end
set_option maxRecDepth 100000 in
theorem arg_classes {H : Type} {enc : TypeId × Value → H} {W : World} {base : Nat} {v : Value} {d : DataW H} {p : List MemPlace} (hv : Value.okWide Tryz.prog W .any base 22 v) (h : DataW.Trod enc Tryz.prog W 0 (fun _ => true) true 22 v d p)
  (hL : Light Tryz.prog 22 d) : ∃ l, Classes W v l ∧ (∀ c ∈ l, ∀ k ∈ c.pool, k.text.size ≤ Rows.uptoBulk d) := by
 obtain ⟨a, n, c, rfl⟩ := okWide_slice Tryz.underlying22 hv
 obtain ⟨fuel, hf⟩ := h
 obtain ⟨v', ks, e, hs, hb⟩ := open_classes hf hL
 simp [Value.cells] at e
 subst e
 exact ⟨ks, hs, hb⟩
end Go.Proofs.YtemplkpcckmcoaaGreatDoor
namespace Go.Proofs.YtemplkpcckmcoaaGreatDoor
set_option maxHeartbeats 4000000
open Lib (hid)
open Go.RowKit
set_option linter.unusedVariables false
set_option linter.unusedSimpArgs false
def treeZ (ks : List KindV) : List PairV := ks.map (fun k => ⟨k.name, k.super⟩)
theorem treeZ_len (ks : List KindV) : (treeZ ks).length = ks.length := by simp [treeZ]
theorem treeZ_at {ks : List KindV} {j : Nat} (h : j < ks.length) : (treeZ ks).getD j default = ⟨(ks.getD j default).name, (ks.getD j default).super⟩ := by simp [treeZ, List.getD, h]
def findZ (ks : List KindV) (x : ByteArray) : Int := pairOf (treeZ ks) x
theorem findZ_cases (ks : List KindV) (x : ByteArray) : findZ ks x = -1 ∨ ∃ j : Nat, j < ks.length ∧ findZ ks x = (j : Int) := by
 rcases pairOf_cases (treeZ ks) x with h | ⟨j, h1, h2⟩
 ·exact .inl h
 ·exact .inr ⟨j, by rwa [treeZ_len] at h1, h2⟩
def superZ (ks : List KindV) (n : Int) : Int := if n < 1 then -1 else if (ks.length : Int) ≤ n then -1 else findZ ks (ks.getD n.toNat default).super
theorem superZ_cases (ks : List KindV) (n : Int) : superZ ks n = -1 ∨ ∃ j : Nat, j < ks.length ∧ superZ ks n = (j : Int) := by
 unfold superZ
 split
 ·exact .inl rfl
 ·split
  ·exact .inl rfl
  ·exact findZ_cases _ _
set_option maxRecDepth 100000 in
theorem refFind (pb : Nat) (ks : List KindV) (cs : List ClassV) (x : ByteArray) (w : World) (hd : DocP w pb ks cs) (hn : ks.length ≤ 4611686018427387904) :
  Calls Tryz.prog 16 #[.pointer (some ⟨pb, 0, none⟩), .string x] w fun e w' => e = .returned (.int .i64 (findZ ks x)) ∧ w = w' := by
 obtain ⟨vl, vi, q0, q1, hk, hc⟩ := hd
 obtain ⟨ao, cap, rfl, p1, p2⟩ := hk.len
 have HK := hid hk
 clear hk hc q1
 go_enter Tryz.func16, Tryz.ntmps16
 go_wp2
 go_loop [5] (fun iv => ∃ j : Nat, iv = .int .i64 j ∧ j ≤ ks.length ∧ Hid (findZ ks x = pairFrom x j ((treeZ ks).drop j))) (fun iv => ks.length - (intOf iv).toNat)
 case atStart => exact ⟨0, rfl, Nat.zero_le _, hid rfl⟩
 case round =>
  obtain ⟨j, rfl, hj, HH⟩ := hrel
  by_cases hlt : j < ks.length
  ·have hjz : (j : Int) < (ks.length : Int) := by omega
   have hj0 : (0 : Int) ≤ (j : Int) := by omega
   obtain ⟨b, o, vf, vm, rfl, y, -, -⟩ := HK.out.at hlt
   obtain ⟨y0, y1, y2, y3, y4⟩ := y
   have HP := hid (pairFrom_at (x := x) (l := treeZ ks) (by rw [treeZ_len]; exact hlt))
   have HA := hid (treeZ_at hlt)
   rw [HA.out] at HP
   generalize ks.getD j default = p at *
   by_cases h1 : p.name = x
   ·have HR := hid (show findZ ks x = (j : Int) by rw [HH.out, HP.out, if_pos h1])
    rw [h1] at y0
    clear h1
    go_wp2
    go_ret
    rw [HR.out]
    exact ⟨rfl, rfl⟩
   ·have HR := hid (show findZ ks x = pairFrom x (j + 1) ((treeZ ks).drop (j + 1)) by rw [HH.out, HP.out, if_neg h1])
    obtain ⟨n1, n2⟩ := toList_beq h1
    clear h1
    go_wp2
    go_round
    case rel => exact ⟨j + 1, by go_num, by omega, HR⟩
    case measure => simp [intOf]; omega
  ·have HR := hid (show findZ ks x = -1 by rw [HH.out, List.drop_of_length_le (by rw [treeZ_len]; omega)]; rfl)
   obtain rfl : j = ks.length := by omega
   clear hlt hj
   go_wp2
   go_ret
   rw [HR.out]
   exact ⟨rfl, rfl⟩
set_option maxRecDepth 100000 in
theorem refSuperN (pb : Nat) (ks : List KindV) (cs : List ClassV) (n : Int) (w : World) (hd : DocP w pb ks cs) (hn : ks.length ≤ 4611686018427387904) :
  Calls Tryz.prog 30 #[.pointer (some ⟨pb, 0, none⟩), .int .i64 n] w fun e w' => e = .returned (.int .i64 (superZ ks n)) ∧ w = w' := by
 have HD := hid hd
 obtain ⟨vl, vi, q0, q1, hk, hc⟩ := hd
 obtain ⟨ao, cap, rfl, p1, p2⟩ := hk.len
 have HK := hid hk
 clear hk hc q1
 by_cases h1 : n < 1
 ·have HR := hid (show superZ ks n = -1 from if_pos h1)
  go_enter Tryz.func30, Tryz.ntmps30
  go_wp2
  go_ret
  rw [HR.out]
  exact ⟨rfl, rfl⟩
 by_cases h2 : (ks.length : Int) ≤ n
 ·have HR := hid (show superZ ks n = -1 by unfold superZ; rw [if_neg h1, if_pos h2])
  go_enter Tryz.func30, Tryz.ntmps30
  go_wp2
  go_ret
  rw [HR.out]
  exact ⟨rfl, rfl⟩
 ·obtain ⟨j, rfl⟩ := Int.eq_ofNat_of_zero_le (show 0 ≤ n by omega)
  have hj : j < ks.length := by omega
  have HR := hid (show superZ ks (j : Int) = findZ ks (ks.getD j default).super by unfold superZ; rw [if_neg h1, if_neg h2]; rfl)
  obtain ⟨b, o, vf, vm, rfl, y, -, -⟩ := HK.out.at hj
  obtain ⟨y0, y1, y2, y3, y4⟩ := y
  have hjz : (j : Int) < (ks.length : Int) := by omega
  have hj0 : (0 : Int) ≤ (j : Int) := by omega
  have cf := refFind pb ks cs (ks.getD j default).super w HD.out hn
  rw [← HR.out] at cf
  have CF := hid cf
  clear cf
  generalize ks.getD j default = p at *
  go_enter Tryz.func30, Tryz.ntmps30
  go_wp2_with (fail)
  refine CF.out.mono ?_
  rintro e w2 ⟨rfl, rfl⟩
  go_wp2
  go_ret
  exact ⟨rfl, rfl⟩
end Go.Proofs.YtemplkpcckmcoaaGreatDoor
